/-
  The statements' fixed calls on types: they come out as they must.
-/
import Derived.Test.YtegcahgjilebbaaDoorDescQ
import Derived.Outline
namespace Go.Proofs.YtegcahgjilebbaaDoor
namespace DescK
open Go.RowKit BinM DescM DescW DescX DescR DescG DescP DescS Base

theorem k1 : sigT [86] [[73], [91, 76, 65, 59]] = ([40, 73, 91, 76, 65, 59, 41, 86], 0) := by decide
theorem k2 : splitT [40, 73, 91, 76, 65, 59, 41, 86] = ([86], [[73], [91, 76, 65, 59]], 0) := by decide
theorem k3 : showT [91, 91, 76, 65, 59] = [65, 91, 93, 91, 93] := by decide

/-- known() -/
theorem known_any (w : World) : Calls Tryd.prog 17 #[] w fun e w' => e = .returned (.bool true) ∧ Below w.heap.size w w' := by
  go_enter Tryd.func17, Tryd.ntmps17
  go_wp2_with fail
  refine (sig_any [86] (some ⟨w.heap.size, 0, none⟩) [[73], [91, 76, 65, 59]] 2 2 _ (by decide) rfl (Nat.le_refl _) (rds_new w #[str [73], str [91, 76, 65, 59]] 9) (by decide)).mono ?_
  rw [k1]
  unfold twoI
  rintro e w1 ⟨rfl, hb1⟩
  have Hb1 := Lib.hid (((Below.refl w.heap.size w).alloc (Nat.le_refl _) _).trans (hb1.mono (by simp)))
  have hsz1 := Hb1.out.size
  clear hb1
  go_wp2_with fail
  refine (split_any [40, 73, 91, 76, 65, 59, 41, 86] w1 (by decide)).mono ?_
  rw [k2]
  rintro e w2 ⟨v, rfl, hown, hb2⟩
  obtain ⟨A, c, rfl, _, _, _, _⟩ := hown.slice
  have Hb2 := Lib.hid (Hb1.out.trans (hb2.mono hsz1))
  have hsz2 : w.heap.size ≤ w2.heap.size := Hb2.out.size
  clear hown hb2
  unfold str
  go_wp2_with fail
  refine (show_any [91, 91, 76, 65, 59] w2 (by decide)).mono ?_
  rw [k3]
  rintro e w3 ⟨rfl, rfl⟩
  go_wp2_with fail
  go_ret
  exact ⟨rfl, Hb2.out⟩

end DescK
end Go.Proofs.YtegcahgjilebbaaDoor
