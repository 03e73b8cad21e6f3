/-
  The law BinNames, walked: for every text it returns true, and nothing that was there is written.
-/
import Derived.Test.YtegcahgjilebbaaBinKnown
namespace Go.Proofs.Ytegcahgjilebbaa
namespace WBinNames
open Go.RowKit BinM
open BinName (name_any refName_any)
open BinKnown (known_any)

theorem walk (a0 : ByteArray) (w : World) (b0 : a0.size ≤ 140737488351232) :
    Calls Try.prog 5 #[.string a0] w fun e w' => e = .returned (.bool true) ∧ Below w.heap.size w w' := by
  have hm : a0.size ≤ maxLen := by unfold maxLen; omega
  go_enter Try.func5, Try.ntmps5
  go_wp2_with fail
  refine (name_any a0 w hm).mono ?_
  rintro e w1 ⟨rfl, rfl⟩
  go_wp2_with fail
  refine (refName_any a0 w hm).mono ?_
  rintro e w1 ⟨rfl, rfl⟩
  go_wp2_with fail
  refine (known_any w).mono ?_
  rintro e w1 ⟨rfl, hb⟩
  go_wp2_with fail
  go_ret
  exact ⟨rfl, hb⟩

end WBinNames
end Go.Proofs.Ytegcahgjilebbaa
