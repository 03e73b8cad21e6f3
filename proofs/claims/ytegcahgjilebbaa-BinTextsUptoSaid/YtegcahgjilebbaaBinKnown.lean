/-
  The statements' fixed calls: they come out as they must.
-/
import Derived.Test.YtegcahgjilebbaaBin8
import Derived.Test.YtegcahgjilebbaaBinName
import Derived.Outline
namespace Go.Proofs.Ytegcahgjilebbaa
namespace BinKnown
open Go.RowKit BinM Base BinE BinPut BinGet Bin8
open BinName (name_any)

theorem num300 : num 300 = [216, 4] := by decide
theorem get300 : getS [216, 4] 0 = (300, 2, 0) := by decide
theorem get80 : getS [128, 0] 0 = (0, 0, 5) := by decide
theorem name_a1 : nameB (ByteArray.mk #[97, 49]).data.toList = true := by decide
theorem name_1a : nameB (ByteArray.mk #[49, 97]).data.toList = false := by decide

/-- known() -/
theorem known_any (w : World) : Calls Try.prog 13 #[] w fun e w' => e = .returned (.bool true) ∧ Below w.heap.size w w' := by
  go_enter Try.func13, Try.ntmps13
  go_wp2_with fail
  refine (put_any none [] 0 0 300 w rfl (by omega) (by omega) (by omega) (Rds.none_ _ _)).mono ?_
  rintro e w1 ⟨v, rfl, hown, hb⟩
  have ho : Own8 w1 w.heap.size v [216, 4] := hown
  obtain ⟨A, c, rfl, hc1, hc2, hr, _⟩ := ho.slice
  have hsz := hb.size
  have Hr := Lib.hid hr
  have Hb := Lib.hid hb
  clear hown ho hr hb hc1
  have ct : (convert 22 9 (.slice A 2 c)).run Try.prog (w1.alloc (.cells #[.int .u8 128, .int .u8 0] 5)) = .ok (.string ⟨#[216, 4]⟩) (w1.alloc (.cells #[.int .u8 128, .int .u8 0] 5)) :=
    run_text (P := Try.prog) (l := [216, 4]) 22 9 5 2 c Try.underlying22 Try.underlying5 Try.underlying9 rfl (Hr.out.below ((Below.refl _ _).alloc (Nat.le_refl _) _))
  go_wp2_with fail
  refine (get_any A [216, 4] 2 c 0 w1 rfl (by unfold maxLen; omega) (by omega) (by omega) Hr.out).mono ?_
  rw [get300]
  rintro e w2 ⟨rfl, rfl⟩
  unfold three
  go_wp2_with fail
  have hr2 : Rds (w1.alloc (.cells #[.int .u8 128, .int .u8 0] 5)) (some ⟨w1.heap.size, 0, none⟩) (cells8 [128, 0]) := rds_new w1 #[.int .u8 128, .int .u8 0] 5
  refine (get_any _ [128, 0] 2 2 0 _ rfl (by unfold maxLen; omega) (by omega) (by omega) hr2).mono ?_
  rw [get80]
  rintro e w2 ⟨rfl, rfl⟩
  unfold three
  clear hr2
  go_wp2_with fail
  refine (name_any _ _ (by decide)).mono ?_
  rw [name_a1]
  rintro e w3 ⟨rfl, rfl⟩
  go_wp2_with fail
  refine (name_any _ _ (by decide)).mono ?_
  rw [name_1a]
  rintro e w4 ⟨rfl, rfl⟩
  go_wp2_with fail
  go_ret
  exact ⟨rfl, Hb.out.alloc hsz _⟩

end BinKnown
end Go.Proofs.Ytegcahgjilebbaa
