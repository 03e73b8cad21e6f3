/-
  Law 21's known: a field made of an old one.
-/
import Derived.Test.YtiagjnimafdbhaaGreatDoorTnI
namespace Go.Proofs.YtiagjnimafdbhaaGreatDoor
namespace TnJ
open Go.RowKit Go.Shelf Base BinM TabM TnA TnB TnC TnD TnE TnF TnG TnH TnI

set_option maxRecDepth 100000 in
set_option maxHeartbeats 2000000 in
theorem do3_any (kb fb : Nat) (w : World) (hk : Bx w kb #[.int .i64 45, .int .i64 0, .int .i64 0, .int .i64 1, .int .i64 0, .int .i64 1, .int .i64 10, .int .i64 0, .int .i64 0] 112) (hf : Bx w fb #[.int .i64 4] 2) :
    Calls Tryz.prog 44 #[.agg #[.int .i64 2, .int .i64 0, .slice (some ⟨kb, 0, none⟩) 3 3], .slice (some ⟨fb, 0, none⟩) 1 1, .int .i64 3] w fun e w' => e = .returned (.tuple #[.int .i64 (5), .int .i64 3, .int .i64 (0)]) ∧ Below w.heap.size w w' := by
  have HR := Lib.hid (run3_any kb fb (w.alloc (.cells #[.int .i64 2, .int .i64 0, .slice (some ⟨kb, 0, none⟩) 3 3] 104)) (TabZ.bx_al hk _) (TabZ.bx_al hf _))
  have HB := Lib.hid ((Below.refl w.heap.size w).alloc (Nat.le_refl _) (.cells #[.int .i64 2, .int .i64 0, .slice (some ⟨kb, 0, none⟩) 3 3] 104))
  clear hk hf
  go_enter Tryz.func44, Tryz.ntmps44
  go_wp2_with (go_at_call 100; refine HR.out.mono ?_; rintro e w1 ⟨rfl, hb⟩; have B1 := Lib.hid (HB.out.trans (hb.mono HB.out.size)); clear hb)
  go_ret3
  exact ⟨rfl, B1.out⟩
set_option maxRecDepth 100000 in
set_option maxHeartbeats 2000000 in
theorem do2_any (kb fb : Nat) (w : World) (hk : Bx w kb #[.int .i64 45, .int .i64 0, .int .i64 0, .int .i64 1, .int .i64 0, .int .i64 1, .int .i64 10, .int .i64 0, .int .i64 0] 112) (hf : Bx w fb #[.int .i64 4] 2) :
    Calls Tryz.prog 44 #[.agg #[.int .i64 2, .int .i64 0, .slice (some ⟨kb, 0, none⟩) 3 3], .slice (some ⟨fb, 0, none⟩) 1 1, .int .i64 2] w fun e w' => e = .returned (.tuple #[.int .i64 (0), .int .i64 2, .int .i64 (25)]) ∧ Below w.heap.size w w' := by
  have HR := Lib.hid (run2_any kb fb (w.alloc (.cells #[.int .i64 2, .int .i64 0, .slice (some ⟨kb, 0, none⟩) 3 3] 104)) (TabZ.bx_al hk _) (TabZ.bx_al hf _))
  have HB := Lib.hid ((Below.refl w.heap.size w).alloc (Nat.le_refl _) (.cells #[.int .i64 2, .int .i64 0, .slice (some ⟨kb, 0, none⟩) 3 3] 104))
  clear hk hf
  go_enter Tryz.func44, Tryz.ntmps44
  go_wp2_with (go_at_call 100; refine HR.out.mono ?_; rintro e w1 ⟨rfl, hb⟩; have B1 := Lib.hid (HB.out.trans (hb.mono HB.out.size)); clear hb)
  go_ret3
  exact ⟨rfl, B1.out⟩
def kC : Obj := .cells #[.int .i64 45, .int .i64 0, .int .i64 0, .int .i64 1, .int .i64 0, .int .i64 1, .int .i64 10, .int .i64 0, .int .i64 0] 112
set_option maxRecDepth 100000 in
set_option maxHeartbeats 4000000 in
theorem known_any (w : World) : Calls Tryz.prog 15 #[] w fun e w' => e = .returned (.bool true) ∧ Below w.heap.size w w' := by
  obtain ⟨W1, hW1⟩ : ∃ W1, W1 = (w.alloc (.cells #[.int .i64 45, .int .i64 0, .int .i64 0, .int .i64 1, .int .i64 0, .int .i64 1, .int .i64 10, .int .i64 0, .int .i64 0] 112)).alloc (.cells #[.int .i64 2, .int .i64 0, .slice (some ⟨w.heap.size, 0, none⟩) 3 3] 104) := ⟨_, rfl⟩
  have hB1 : Below w.heap.size w W1 := by rw [hW1]; exact ((Below.refl w.heap.size w).alloc (Nat.le_refl _) _).alloc (by simp) _
  have hK : Bx W1 w.heap.size #[.int .i64 45, .int .i64 0, .int .i64 0, .int .i64 1, .int .i64 0, .int .i64 1, .int .i64 10, .int .i64 0, .int .i64 0] 112 := by rw [hW1]; exact TabZ.bx_al (Bx.new w _ _) _
  have hS : Bx W1 (w.heap.size + 1) #[.int .i64 2, .int .i64 0, .slice (some ⟨w.heap.size, 0, none⟩) 3 3] 104 := by rw [hW1]; exact TabZ.bx_at _ _ _ _ (by simp)
  have hZ : W1.heap.size = w.heap.size + 2 := by rw [hW1]; simp
  have H1 := Lib.hid (do3_any w.heap.size W1.heap.size (W1.alloc (.cells #[.int .i64 4] 2)) (TabZ.bx_al hK _) (Bx.new W1 _ _))
  have s0 := hS.cell 0
  have s1 := hS.cell 1
  have s2 := hS.cell 2
  have sl := hS.lt
  have HB1 := Lib.hid hB1
  have HKS := Lib.hid (And.intro hK hS)
  clear hB1 hK hS hZ
  go_enter Tryz.func15, Tryz.ntmps15
  go_upto_region 2 with fail
  rw [← hW1]
  clear hW1
  clear s0 s1 s2 sl
  have s0 := HKS.out.2.cell 0
  have s1 := HKS.out.2.cell 1
  have s2 := HKS.out.2.cell 2
  have sl := HKS.out.2.lt
  go_wp2_with (first
    | (go_at_call 44
       refine H1.out.mono ?_
       rintro e w2 ⟨rfl, hb2⟩
       have hb12 := ((Below.refl W1.heap.size W1).alloc (Nat.le_refl _) (.cells #[.int .i64 4] 2)).trans (hb2.mono (by simp))
       have t0 := (HKS.out.2.after hb12).cell 0
       have t1 := (HKS.out.2.after hb12).cell 1
       have t2 := (HKS.out.2.after hb12).cell 2
       have tl := (HKS.out.2.after hb12).lt
       have H2 := Lib.hid (do2_any w.heap.size w2.heap.size (w2.alloc (.cells #[.int .i64 4] 2)) (TabZ.bx_al (HKS.out.1.after hb12) _) (Bx.new w2 _ _))
       have HB2 := Lib.hid (HB1.out.trans (hb12.mono HB1.out.size))
       clear hb2 hb12 H1)
    | (go_at_call 44
       refine H2.out.mono ?_
       rintro e w3 ⟨rfl, hb3⟩
       have HB3 := Lib.hid (HB2.out.trans (((Below.refl w2.heap.size w2).alloc (Nat.le_refl _) (.cells #[.int .i64 4] 2)).trans (hb3.mono (by simp)) |>.mono HB2.out.size))
       clear hb3))
  go_ret
  exact ⟨rfl, HB3.out⟩
end TnJ
end Go.Proofs.YtiagjnimafdbhaaGreatDoor
