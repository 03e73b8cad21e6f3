/-
  A move's code: what Old, Int and Add do to numbers.
-/
import Derived.Test.YtiagjnimafdbhaaGreatDoorTnF
namespace Go.Proofs.YtiagjnimafdbhaaGreatDoor
namespace TnG
open Go.RowKit Go.Shelf Base BinM TabM TnA TnB TnC TnD TnE TnF

set_option maxRecDepth 100000 in
theorem arith_add (w : World) : Calls Tryz.prog 180 #[.int .i64 10, .int .i64 4, .int .i64 1] w fun e w' => e = .returned (.tuple #[.int .i64 5, .int .i64 0]) ∧ w = w' := by
  go_enter Tryz.func180, Tryz.ntmps180
  go_wp2_with fail
  go_ret2
  exact ⟨rfl, rfl⟩
set_option maxRecDepth 100000 in
set_option maxHeartbeats 4000000 in
theorem do_old (fb base : Nat) (w : World) (hf : w.cell? ⟨fb, 0, none⟩ = some (.int .i64 4)) (hfl : fb < w.heap.size) (hbase : base ≤ w.heap.size) :
    Calls Tryz.prog 143 #[.agg #[.int .i64 45, .int .i64 0, .int .i64 0], .slice (some ⟨fb, 0, none⟩) 1 1, .slice none 0 0] w fun e w' => ∃ A c, e = .returned (.tuple #[.slice A 1 c, .int .i64 0]) ∧ w'.ownsRow base 2 1 (.slice A 1 c) 1 [.int .i64 4] ∧ Tu (fun _ => False) w w' := by
  obtain ⟨i, hi, hz, hs1, hb1⟩ := info_parts infoI
  have HI := Lib.hid (And.intro hi (And.intro hz (And.intro hs1 hb1)))
  have HT := Lib.hid (Tu.of_below (F := fun _ => False) (((Below.refl w.heap.size w).alloc (Nat.le_refl _) (.cells #[.int .i64 45, .int .i64 0, .int .i64 0] 112)).alloc (by simp) (.cells #[.int .i64 4] 2)))
  clear hi hz hs1 hb1
  go_enter Tryz.func143, Tryz.ntmps143
  go_wp2_with (at_builtin
               refine app_row rfl (.tmp 38) (.tmp 44) 115 rfl 2 i _ Tryz.underlying115 HI.out.1 HI.out.2.1 HI.out.2.2.1 (by rw [HI.out.2.2.2]; omega) rfl base (.slice none 0 0) [] rfl (.inl (World.ownsRow_nil _ _ _ _)) (by simp) (w.heap.size + 1) 0 1 (.int .i64 4) rfl (Bx.cell (TabZ.bx_at _ _ _ _ (by simp)) 0) rfl (by simp; omega) ?_
               intro A2 c2 w2 hown2 hg2
               have O2 := Lib.hid hown2
               have T2 := Lib.hid (HT.out.trans (Tu.of_grown (F := fun _ => False) hg2 (fun k e => by cases e)) (fun j hj => .inl hj))
               clear hown2 hg2)
  go_ret2
  exact ⟨A2, c2, rfl, O2.out, T2.out⟩
set_option maxRecDepth 100000 in
set_option maxHeartbeats 4000000 in
theorem do_int (F : Value) (g c base : Nat) (w : World) (hr : w.ownsRow base 2 1 (.slice (some ⟨g, 0, none⟩) 1 c) 1 [.int .i64 4]) (hbase : base ≤ w.heap.size) :
    Calls Tryz.prog 143 #[.agg #[.int .i64 1, .int .i64 0, .int .i64 1], F, .slice (some ⟨g, 0, none⟩) 1 c] w fun e w' => ∃ A c, e = .returned (.tuple #[.slice A 2 c, .int .i64 0]) ∧ w'.ownsRow base 2 1 (.slice A 2 c) 2 [.int .i64 4, .int .i64 1] ∧ Tu (fun k => k = g) w w' := by
  obtain ⟨i, hi, hz, hs1, hb1⟩ := info_parts infoI
  have HI := Lib.hid (And.intro hi (And.intro hz (And.intro hs1 hb1)))
  have HT := Lib.hid (Tu.of_below (F := fun k => k = g) (((Below.refl w.heap.size w).alloc (Nat.le_refl _) (.cells #[.int .i64 1, .int .i64 0, .int .i64 1] 112)).alloc (by simp) (.cells #[.int .i64 1] 2)))
  have HR : Hid (Row ((w.alloc (.cells #[.int .i64 1, .int .i64 0, .int .i64 1] 112)).alloc (.cells #[.int .i64 1] 2)) base 2 (.slice (some ⟨g, 0, none⟩) 1 c) [.int .i64 4]) := Lib.hid (.inl (World.ownsRow.alloc (World.ownsRow.alloc hr _) _))
  clear hi hz hs1 hb1 hr
  go_enter Tryz.func143, Tryz.ntmps143
  go_wp2_with (at_builtin
               refine app_row rfl (.tmp 21) (.tmp 24) 115 rfl 2 i _ Tryz.underlying115 HI.out.1 HI.out.2.1 HI.out.2.2.1 (by rw [HI.out.2.2.2]; omega) rfl base (.slice (some ⟨g, 0, none⟩) 1 c) [.int .i64 4] rfl HR.out (by simp) (w.heap.size + 1) 0 1 (.int .i64 1) rfl (Bx.cell (TabZ.bx_at _ _ _ _ (by simp)) 0) rfl (by simp; omega) ?_
               intro A2 c2 w2 hown2 hg2
               have O2 := Lib.hid hown2
               have T2 := Lib.hid (HT.out.trans (Tu.of_grown (F := fun k => k = g) hg2 (fun k e => (Option.some.inj e).symm)) (fun j hj => .inl hj))
               clear hown2 hg2)
  go_ret2
  exact ⟨A2, c2, rfl, O2.out, T2.out⟩
theorem cutI2 (g c : Nat) (hn : 2 ≤ c) (hc : c ≤ maxLen) (w : World) :
    Calls Tryz.prog 179 #[.slice (some ⟨g, 0, none⟩) 2 c, .int .i64 2] w fun e w' => e = .returned (.slice (some ⟨g, 0, none⟩) 0 0) ∧ w = w' := cutI_any g 0 2 c 2 (by omega) hn hc w
set_option maxRecDepth 100000 in
set_option maxHeartbeats 4000000 in
theorem do_add (F : Value) (g c base : Nat) (w : World) (hr : w.ownsRow base 2 1 (.slice (some ⟨g, 0, none⟩) 2 c) 2 [.int .i64 4, .int .i64 1]) (hcm : c ≤ maxLen) (hbase : base ≤ w.heap.size) :
    Calls Tryz.prog 143 #[.agg #[.int .i64 10, .int .i64 0, .int .i64 0], F, .slice (some ⟨g, 0, none⟩) 2 c] w fun e w' => ∃ A c, e = .returned (.tuple #[.slice A 1 c, .int .i64 0]) ∧ w'.ownsRow base 2 1 (.slice A 1 c) 1 [.int .i64 5] ∧ Tu (fun k => k = g) w w' := by
  obtain ⟨i, hi, hz, hs1, hb1⟩ := info_parts infoI
  have HI := Lib.hid (And.intro hi (And.intro hz (And.intro hs1 hb1)))
  have HT := Lib.hid (Tu.of_below (F := fun k => k = g) (((Below.refl w.heap.size w).alloc (Nat.le_refl _) (.cells #[.int .i64 10, .int .i64 0, .int .i64 0] 112))))
  have hc2 : 2 ≤ c := by
    rcases hr.2 with ⟨e, _⟩ | ⟨g', cap, cur, e, _, _, hle, _⟩
    · cases e
    · injection e with _ _ e3
      omega
  have hgl := (hr.lt g rfl).2
  have hcs := hr.cells (g := g) rfl
  have g0 := hcs 0 _ rfl
  have g1 := hcs 1 _ rfl
  rw [Addr.add_mid] at g0 g1
  rw [Nat.zero_add] at g0 g1
  have HC := Lib.hid (fun W => cutI2 g c hc2 hcm W)
  have HD := Lib.hid (fun W => (arith_add W).mono (R' := fun e w' => e = .returned (.tuple #[.int .i64 5, .int .i64 0]) ∧ w' = W) (fun _ _ ⟨h1, h2⟩ => ⟨h1, h2.symm⟩))
  clear hi hz hs1 hb1 hr hcs
  go_enter Tryz.func143, Tryz.ntmps143
  go_wp2_with (go_at_call 179; refine (HC.out _).mono ?_; rintro e w1 ⟨rfl, rfl⟩)
  have g5 : 0 ≤ IntKind.i64.wrap 1 ∧ IntKind.i64.wrap 1 < 2 := by decide
  have g6 : w.cell? ⟨g, (IntKind.i64.wrap 1).toNat, none⟩ = some (.int .i64 1) := g1
  have g7 : w.cell? ⟨g, 0 + (IntKind.i64.wrap 1).toNat * 1, none⟩ = some (.int .i64 1) := g1
  go_quiet ((go_at_call 180; exact Calls.quiet_of_same (HD.out _)))
  go_wp2_with (at_builtin
               refine app_row rfl (.tmp 101) (.tmp 103) 115 rfl 2 i _ Tryz.underlying115 HI.out.1 HI.out.2.1 HI.out.2.2.1 (by rw [HI.out.2.2.2]; omega) rfl base (.slice (some ⟨g, 0, none⟩) 0 0) [] rfl (.inr ⟨rfl, _, rfl, by show g < _; simp; omega⟩) (by simp) (w.heap.size + 1) 0 1 (.int .i64 5) rfl (Bx.cell (TabZ.bx_at _ _ _ _ (by simp)) 0) rfl (by simp; omega) ?_
               intro A2 c2 w2 hown2 hg2
               have O2 := Lib.hid hown2
               have G2 := Lib.hid hg2
               clear hown2 hg2)
  go_ret2
  exact ⟨A2, c2, rfl, O2.out, ((HT.out.drew _).trans (Tu.of_below (F := fun k => k = g) ((Below.refl _ _).alloc (Nat.le_refl _) _)) (fun j hj => .inl hj)).trans (Tu.of_grown (F := fun k => k = g) G2.out (fun k e => (Option.some.inj e).symm)) (fun j hj => .inl hj)⟩
end TnG
end Go.Proofs.YtiagjnimafdbhaaGreatDoor
