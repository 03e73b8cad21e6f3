/-
  What must come of fixed calls (classes): what the call returns.
-/
import Derived.Test.YthkkcecfenohjaaGreatDoorKlsH
namespace Go.Proofs.YthkkcecfenohjaaGreatDoor
namespace KlsN
open Go.RowKit Base BinM Stru BinE BinGet BinText BinPut Bin8 Part Kls KlsK KlsG KlsH

set_option maxRecDepth 100000 in
set_option maxHeartbeats 4000000 in
theorem known_any (w : World) : Calls Tryz.prog 12 #[] w fun e w' => e = .returned (.bool true) ∧ Below w.heap.size w w' := by
  have hput := put_nil [65] [79, 98, 106, 101, 99, 116] w (by decide) (by decide) (by decide) (by decide) (by decide) (by decide)
  rw [show ([72, 66, 75, 49] ++ txt [65] ++ txt [79, 98, 106, 101, 99, 116] ++ [0] ++ [0] ++ [0] : List UInt8) = lit from by decide] at hput
  rw [show lit.length = 16 from rfl] at hput
  unfold nilV at hput
  have Hp := Lib.hid hput
  clear hput
  go_enter Tryz.func12, Tryz.ntmps12
  go_wp2_with fail
  refine Calls.mono Hp.out ?_
  rintro e w1 ⟨A1, c1, rfl, hq1, hq1', hr1, hb1⟩
  have R1 := Lib.hid hr1
  have B1 := Lib.hid hb1
  obtain ⟨b, o, rfl⟩ : ∃ b o, A1 = some ⟨b, o, none⟩ := by
    rcases hr1 with h | ⟨b, o, hA, _⟩
    · cases h
    · exact ⟨b, o, hA⟩
  clear hr1 hb1
  go_wp2_with fail
  have hget := get_lit b o c1 w1 hq1 hq1' R1.out
  unfold nilV at hget
  refine Calls.mono hget ?_
  rintro e w2 ⟨rfl, hb2⟩
  have B2 := Lib.hid (B1.out.trans (hb2.mono B1.out.size))
  have R2 := Lib.hid (R1.out.below hb2)
  clear hget hb2
  have hb3 := (Below.refl w2.heap.size w2).alloc (Nat.le_refl _) (.cells #[.string ⟨#[65]⟩, .string ⟨#[79, 98, 106, 101, 99, 116]⟩, .slice none 0 0, .slice none 0 0, .slice none 0 0] 26)
  have hcv := run_text (P := Tryz.prog) (w := w2.alloc (.cells #[.string ⟨#[65]⟩, .string ⟨#[79, 98, 106, 101, 99, 116]⟩, .slice none 0 0, .slice none 0 0, .slice none 0 0] 26)) 33 9 5 16 c1 Tryz.underlying33 Tryz.underlying5 Tryz.underlying9 (l := lit) rfl (R2.out.below hb3)
  rw [show (lit.toArray) = #[72, 66, 75, 49, 2, 65, 12, 79, 98, 106, 101, 99, 116, 0, 0, 0] from rfl] at hcv
  have B3 := Lib.hid (B2.out.trans (hb3.mono B2.out.size))
  clear hb3
  go_wp2_with fail
  have hn := right_none (w2.alloc (.cells #[.string ⟨#[65]⟩, .string ⟨#[79, 98, 106, 101, 99, 116]⟩, .slice none 0 0, .slice none 0 0, .slice none 0 0] 26))
  unfold nilV at hn
  refine Calls.mono hn ?_
  rintro e w4 ⟨rfl, hb4⟩
  have B4 := Lib.hid (B3.out.trans (hb4.mono B3.out.size))
  clear hn hb4 hcv
  go_wp2_with fail
  go_ret
  exact ⟨rfl, B4.out⟩

end KlsN
end Go.Proofs.YthkkcecfenohjaaGreatDoor
