/-
  A move's code of three instructions, and what comes of it.
-/
import Derived.Test.YtiagjnimafdbhaaGreatDoorTnH
namespace Go.Proofs.YtiagjnimafdbhaaGreatDoor
namespace TnI
open Go.RowKit Go.Shelf Base BinM TabM TnA TnB TnC TnD TnE TnF TnG TnH

theorem mk1 (w : World) : (Instr.makeSlice 49 (.int .i64 1) (.int .i64 1)).run Tryz.prog w = .ok (.slice (some ⟨w.heap.size, 0, none⟩) 1 1) (w.alloc (.cells #[.string ⟨#[]⟩] 9)) := by kernel_rfl
set_option maxRecDepth 100000 in
set_option maxHeartbeats 8000000 in
theorem run3_any (kb fb : Nat) (w : World) (hk : Bx w kb #[.int .i64 45, .int .i64 0, .int .i64 0, .int .i64 1, .int .i64 0, .int .i64 1, .int .i64 10, .int .i64 0, .int .i64 0] 112) (hf : Bx w fb #[.int .i64 4] 2) :
    Calls Tryz.prog 100 #[.slice (some ⟨kb, 0, none⟩) 3 3, .slice (some ⟨fb, 0, none⟩) 1 1, .int .i64 3] w fun e w' => e = .returned (.tuple #[.int .i64 (5), .int .i64 3, .int .i64 (0)]) ∧ Below w.heap.size w w' := by
  have hB0 := ((Below.refl w.heap.size w).alloc (Nat.le_refl _) (.cells #[.string ⟨#[]⟩] 9)).alloc (by simp) (.cells #[.slice none 0 0, .slice (some ⟨w.heap.size, 0, none⟩) 1 1] 215)
  have HB0 := Lib.hid hB0
  have HT0 := Lib.hid (show Ty w.heap.size (w.heap.size + 1) w.heap.size ((w.alloc (.cells #[.string ⟨#[]⟩] 9)).alloc (.cells #[.slice none 0 0, .slice (some ⟨w.heap.size, 0, none⟩) 1 1] 215)) 0 from ⟨TabZ.bx_at _ _ _ _ (by simp), TabZ.bx_al (Bx.new w #[.string ⟨#[]⟩] 9) _⟩)
  have HK := Lib.hid hk
  have HF := Lib.hid hf
  have hmk := mk1 w
  clear hk hf hB0
  go_enter Tryz.func100, Tryz.ntmps100
  go_wp2_with fail
  clear hmk
  go_loopw [10, 21] (fun v i wr => ∃ j : Nat, j ≤ 3 ∧ i = .int .i64 j ∧ Ty w.heap.size (w.heap.size + 1) w.heap.size wr j ∧ Nu w.heap.size wr v j ∧ Below w.heap.size w wr) (fun _ i _ => 3 - (intOf i).toNat)
  case atStart => exact ⟨0, by omega, rfl, HT0.out, rfl, HB0.out⟩
  case round =>
    obtain ⟨j, hj, rfl, hT, hN, hB⟩ := hrel
    have hk : Bx wr kb _ _ := (hB.block kb HK.out.lt).trans HK.out
    rcases (by omega : j = 0 ∨ j = 1 ∨ j = 2 ∨ j = 3) with rfl | rfl | rfl | rfl
    · have d0 := hk.cell 0
      have d1 := hk.cell 1
      have d2 := hk.cell 2
      have hkl := hk.lt
      have hsz := hB.size
      have HT2 := Lib.hid (ty_below hT ((Below.refl wr.heap.size wr).alloc (Nat.le_refl _) (.cells #[.int .i64 45, .int .i64 0, .int .i64 0] 112)))
      have HN := Lib.hid (nu_below hN ((Below.refl wr.heap.size wr).alloc (Nat.le_refl _) (.cells #[.int .i64 45, .int .i64 0, .int .i64 0] 112)))
      have HB := Lib.hid (hB.alloc hB.size (.cells #[.int .i64 45, .int .i64 0, .int .i64 0] 112))
      have PB := Lib.hid (Bx.new wr #[.int .i64 45, .int .i64 0, .int .i64 0] 112)
      clear hT hN hk hB
      have HS := Lib.hid (stepJ w.heap.size (w.heap.size + 1) w.heap.size 0 _ (by omega) HT2.out (by omega) (Nat.le_refl _) (by simp; omega))
      simp only [opJ] at HS
      go_wp2_with fail
      refine HS.out.mono ?_
      rintro e w5 ⟨rfl, hst⟩
      have b05 := HB.out.trans hst.2.1
      have HB5 := Lib.hid b05
      have HT5 := Lib.hid hst.1
      have q := hst.2.2.2 _ _ PB.out
      have q0 := q.cell 0
      have q1 := q.cell 1
      have q2 := q.cell 2
      have HD := Lib.hid (doJ w.heap.size fb 0 u10 w5 (by omega) (hst.2.2.1 u10 HN.out) ((b05.cell (p := ⟨fb, 0, none⟩) HF.out.lt).trans (HF.out.cell 0)) (by have := b05.size; have := HF.out.lt; omega) b05.size)
      simp only [opJ] at HD
      clear hst b05 q
      go_wp2_with fail
      refine HD.out.mono ?_
      rintro e w6 ⟨v', rfl, h1, h2, h3⟩
      have R6 := Lib.hid (And.intro h1 (And.intro (HB5.out.trans h2) (h3 _ _ _ HT5.out)))
      clear h1 h2 h3
      go_wp2_with fail
      go_roundw
      case rel => exact ⟨1, by omega, rfl, R6.out.2.2, R6.out.1, R6.out.2.1⟩
      case measure => simp [intOf]
    · have d0 := hk.cell 3
      have d1 := hk.cell 4
      have d2 := hk.cell 5
      have hkl := hk.lt
      have hsz := hB.size
      have HT2 := Lib.hid (ty_below hT ((Below.refl wr.heap.size wr).alloc (Nat.le_refl _) (.cells #[.int .i64 1, .int .i64 0, .int .i64 1] 112)))
      have HN := Lib.hid (nu_below hN ((Below.refl wr.heap.size wr).alloc (Nat.le_refl _) (.cells #[.int .i64 1, .int .i64 0, .int .i64 1] 112)))
      have HB := Lib.hid (hB.alloc hB.size (.cells #[.int .i64 1, .int .i64 0, .int .i64 1] 112))
      have PB := Lib.hid (Bx.new wr #[.int .i64 1, .int .i64 0, .int .i64 1] 112)
      clear hT hN hk hB
      have HS := Lib.hid (stepJ w.heap.size (w.heap.size + 1) w.heap.size 1 _ (by omega) HT2.out (by omega) (Nat.le_refl _) (by simp; omega))
      simp only [opJ] at HS
      go_wp2_with fail
      refine HS.out.mono ?_
      rintro e w5 ⟨rfl, hst⟩
      have b05 := HB.out.trans hst.2.1
      have HB5 := Lib.hid b05
      have HT5 := Lib.hid hst.1
      have q := hst.2.2.2 _ _ PB.out
      have q0 := q.cell 0
      have q1 := q.cell 1
      have q2 := q.cell 2
      have HD := Lib.hid (doJ w.heap.size fb 1 u10 w5 (by omega) (hst.2.2.1 u10 HN.out) ((b05.cell (p := ⟨fb, 0, none⟩) HF.out.lt).trans (HF.out.cell 0)) (by have := b05.size; have := HF.out.lt; omega) b05.size)
      simp only [opJ] at HD
      clear hst b05 q
      go_wp2_with fail
      refine HD.out.mono ?_
      rintro e w6 ⟨v', rfl, h1, h2, h3⟩
      have R6 := Lib.hid (And.intro h1 (And.intro (HB5.out.trans h2) (h3 _ _ _ HT5.out)))
      clear h1 h2 h3
      go_wp2_with fail
      go_roundw
      case rel => exact ⟨2, by omega, rfl, R6.out.2.2, R6.out.1, R6.out.2.1⟩
      case measure => simp [intOf]
    · have d0 := hk.cell 6
      have d1 := hk.cell 7
      have d2 := hk.cell 8
      have hkl := hk.lt
      have hsz := hB.size
      have HT2 := Lib.hid (ty_below hT ((Below.refl wr.heap.size wr).alloc (Nat.le_refl _) (.cells #[.int .i64 10, .int .i64 0, .int .i64 0] 112)))
      have HN := Lib.hid (nu_below hN ((Below.refl wr.heap.size wr).alloc (Nat.le_refl _) (.cells #[.int .i64 10, .int .i64 0, .int .i64 0] 112)))
      have HB := Lib.hid (hB.alloc hB.size (.cells #[.int .i64 10, .int .i64 0, .int .i64 0] 112))
      have PB := Lib.hid (Bx.new wr #[.int .i64 10, .int .i64 0, .int .i64 0] 112)
      clear hT hN hk hB
      have HS := Lib.hid (stepJ w.heap.size (w.heap.size + 1) w.heap.size 2 _ (by omega) HT2.out (by omega) (Nat.le_refl _) (by simp; omega))
      simp only [opJ] at HS
      go_wp2_with fail
      refine HS.out.mono ?_
      rintro e w5 ⟨rfl, hst⟩
      have b05 := HB.out.trans hst.2.1
      have HB5 := Lib.hid b05
      have HT5 := Lib.hid hst.1
      have q := hst.2.2.2 _ _ PB.out
      have q0 := q.cell 0
      have q1 := q.cell 1
      have q2 := q.cell 2
      have HD := Lib.hid (doJ w.heap.size fb 2 u10 w5 (by omega) (hst.2.2.1 u10 HN.out) ((b05.cell (p := ⟨fb, 0, none⟩) HF.out.lt).trans (HF.out.cell 0)) (by have := b05.size; have := HF.out.lt; omega) b05.size)
      simp only [opJ] at HD
      clear hst b05 q
      go_wp2_with fail
      refine HD.out.mono ?_
      rintro e w6 ⟨v', rfl, h1, h2, h3⟩
      have R6 := Lib.hid (And.intro h1 (And.intro (HB5.out.trans h2) (h3 _ _ _ HT5.out)))
      clear h1 h2 h3
      go_wp2_with fail
      go_roundw
      case rel => exact ⟨3, by omega, rfl, R6.out.2.2, R6.out.1, R6.out.2.1⟩
      case measure => simp [intOf]
    · obtain ⟨g, c, hv, ho⟩ := hN
      subst hv
      have hB1 := Lib.hid hB
      have g0 := ho.cells (g := g) rfl 0 _ rfl
      rw [Addr.add_mid] at g0
      have hgl := (ho.lt g rfl).2
      clear hT hB ho hk
      go_wp2_with fail
      go_ret3
      exact ⟨rfl, hB1.out⟩
set_option maxRecDepth 100000 in
set_option maxHeartbeats 8000000 in
theorem run2_any (kb fb : Nat) (w : World) (hk : Bx w kb #[.int .i64 45, .int .i64 0, .int .i64 0, .int .i64 1, .int .i64 0, .int .i64 1, .int .i64 10, .int .i64 0, .int .i64 0] 112) (hf : Bx w fb #[.int .i64 4] 2) :
    Calls Tryz.prog 100 #[.slice (some ⟨kb, 0, none⟩) 3 3, .slice (some ⟨fb, 0, none⟩) 1 1, .int .i64 2] w fun e w' => e = .returned (.tuple #[.int .i64 (0), .int .i64 2, .int .i64 (25)]) ∧ Below w.heap.size w w' := by
  have hB0 := ((Below.refl w.heap.size w).alloc (Nat.le_refl _) (.cells #[.string ⟨#[]⟩] 9)).alloc (by simp) (.cells #[.slice none 0 0, .slice (some ⟨w.heap.size, 0, none⟩) 1 1] 215)
  have HB0 := Lib.hid hB0
  have HT0 := Lib.hid (show Ty w.heap.size (w.heap.size + 1) w.heap.size ((w.alloc (.cells #[.string ⟨#[]⟩] 9)).alloc (.cells #[.slice none 0 0, .slice (some ⟨w.heap.size, 0, none⟩) 1 1] 215)) 0 from ⟨TabZ.bx_at _ _ _ _ (by simp), TabZ.bx_al (Bx.new w #[.string ⟨#[]⟩] 9) _⟩)
  have HK := Lib.hid hk
  have HF := Lib.hid hf
  have hmk := mk1 w
  clear hk hf hB0
  go_enter Tryz.func100, Tryz.ntmps100
  go_wp2_with fail
  clear hmk
  go_loopw [10, 21] (fun v i wr => ∃ j : Nat, j ≤ 2 ∧ i = .int .i64 j ∧ Ty w.heap.size (w.heap.size + 1) w.heap.size wr j ∧ Nu w.heap.size wr v j ∧ Below w.heap.size w wr) (fun _ i _ => 3 - (intOf i).toNat)
  case atStart => exact ⟨0, by omega, rfl, HT0.out, rfl, HB0.out⟩
  case round =>
    obtain ⟨j, hj, rfl, hT, hN, hB⟩ := hrel
    have hk : Bx wr kb _ _ := (hB.block kb HK.out.lt).trans HK.out
    rcases (by omega : j = 0 ∨ j = 1 ∨ j = 2) with rfl | rfl | rfl
    · have d0 := hk.cell 0
      have d1 := hk.cell 1
      have d2 := hk.cell 2
      have hkl := hk.lt
      have hsz := hB.size
      have HT2 := Lib.hid (ty_below hT ((Below.refl wr.heap.size wr).alloc (Nat.le_refl _) (.cells #[.int .i64 45, .int .i64 0, .int .i64 0] 112)))
      have HN := Lib.hid (nu_below hN ((Below.refl wr.heap.size wr).alloc (Nat.le_refl _) (.cells #[.int .i64 45, .int .i64 0, .int .i64 0] 112)))
      have HB := Lib.hid (hB.alloc hB.size (.cells #[.int .i64 45, .int .i64 0, .int .i64 0] 112))
      have PB := Lib.hid (Bx.new wr #[.int .i64 45, .int .i64 0, .int .i64 0] 112)
      clear hT hN hk hB
      have HS := Lib.hid (stepJ w.heap.size (w.heap.size + 1) w.heap.size 0 _ (by omega) HT2.out (by omega) (Nat.le_refl _) (by simp; omega))
      simp only [opJ] at HS
      go_wp2_with fail
      refine HS.out.mono ?_
      rintro e w5 ⟨rfl, hst⟩
      have b05 := HB.out.trans hst.2.1
      have HB5 := Lib.hid b05
      have HT5 := Lib.hid hst.1
      have q := hst.2.2.2 _ _ PB.out
      have q0 := q.cell 0
      have q1 := q.cell 1
      have q2 := q.cell 2
      have HD := Lib.hid (doJ w.heap.size fb 0 u10 w5 (by omega) (hst.2.2.1 u10 HN.out) ((b05.cell (p := ⟨fb, 0, none⟩) HF.out.lt).trans (HF.out.cell 0)) (by have := b05.size; have := HF.out.lt; omega) b05.size)
      simp only [opJ] at HD
      clear hst b05 q
      go_wp2_with fail
      refine HD.out.mono ?_
      rintro e w6 ⟨v', rfl, h1, h2, h3⟩
      have R6 := Lib.hid (And.intro h1 (And.intro (HB5.out.trans h2) (h3 _ _ _ HT5.out)))
      clear h1 h2 h3
      go_wp2_with fail
      go_roundw
      case rel => exact ⟨1, by omega, rfl, R6.out.2.2, R6.out.1, R6.out.2.1⟩
      case measure => simp [intOf]
    · have d0 := hk.cell 3
      have d1 := hk.cell 4
      have d2 := hk.cell 5
      have hkl := hk.lt
      have hsz := hB.size
      have HT2 := Lib.hid (ty_below hT ((Below.refl wr.heap.size wr).alloc (Nat.le_refl _) (.cells #[.int .i64 1, .int .i64 0, .int .i64 1] 112)))
      have HN := Lib.hid (nu_below hN ((Below.refl wr.heap.size wr).alloc (Nat.le_refl _) (.cells #[.int .i64 1, .int .i64 0, .int .i64 1] 112)))
      have HB := Lib.hid (hB.alloc hB.size (.cells #[.int .i64 1, .int .i64 0, .int .i64 1] 112))
      have PB := Lib.hid (Bx.new wr #[.int .i64 1, .int .i64 0, .int .i64 1] 112)
      clear hT hN hk hB
      have HS := Lib.hid (stepJ w.heap.size (w.heap.size + 1) w.heap.size 1 _ (by omega) HT2.out (by omega) (Nat.le_refl _) (by simp; omega))
      simp only [opJ] at HS
      go_wp2_with fail
      refine HS.out.mono ?_
      rintro e w5 ⟨rfl, hst⟩
      have b05 := HB.out.trans hst.2.1
      have HB5 := Lib.hid b05
      have HT5 := Lib.hid hst.1
      have q := hst.2.2.2 _ _ PB.out
      have q0 := q.cell 0
      have q1 := q.cell 1
      have q2 := q.cell 2
      have HD := Lib.hid (doJ w.heap.size fb 1 u10 w5 (by omega) (hst.2.2.1 u10 HN.out) ((b05.cell (p := ⟨fb, 0, none⟩) HF.out.lt).trans (HF.out.cell 0)) (by have := b05.size; have := HF.out.lt; omega) b05.size)
      simp only [opJ] at HD
      clear hst b05 q
      go_wp2_with fail
      refine HD.out.mono ?_
      rintro e w6 ⟨v', rfl, h1, h2, h3⟩
      have R6 := Lib.hid (And.intro h1 (And.intro (HB5.out.trans h2) (h3 _ _ _ HT5.out)))
      clear h1 h2 h3
      go_wp2_with fail
      go_roundw
      case rel => exact ⟨2, by omega, rfl, R6.out.2.2, R6.out.1, R6.out.2.1⟩
      case measure => simp [intOf]
    · have d0 := hk.cell 6
      have d1 := hk.cell 7
      have d2 := hk.cell 8
      have hkl := hk.lt
      have hsz := hB.size
      have HT2 := Lib.hid (ty_below hT ((Below.refl wr.heap.size wr).alloc (Nat.le_refl _) (.cells #[.int .i64 10, .int .i64 0, .int .i64 0] 112)))
      have HN := Lib.hid (nu_below hN ((Below.refl wr.heap.size wr).alloc (Nat.le_refl _) (.cells #[.int .i64 10, .int .i64 0, .int .i64 0] 112)))
      have HB := Lib.hid (hB.alloc hB.size (.cells #[.int .i64 10, .int .i64 0, .int .i64 0] 112))
      have PB := Lib.hid (Bx.new wr #[.int .i64 10, .int .i64 0, .int .i64 0] 112)
      clear hT hN hk hB
      go_wp2_with fail
      go_ret3
      exact ⟨rfl, HB.out⟩
end TnI
end Go.Proofs.YtiagjnimafdbhaaGreatDoor
