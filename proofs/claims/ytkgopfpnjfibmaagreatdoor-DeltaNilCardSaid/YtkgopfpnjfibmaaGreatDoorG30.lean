/-
  Where code goes on, and whether it goes back: ins.Next, ins.Back and the document's own: what each call returns; rising: numbers in order, each once.
-/
import Derived.Test.YtkgopfpnjfibmaaGreatDoorG9
import Derived.Test.YtkgopfpnjfibmaaGreatDoorG1
namespace Go.Proofs.YtkgopfpnjfibmaaGreatDoor
namespace InsF
open Go.RowKit InsM Base InsA InsB Stru InsC

/-- whether there is such a place, and an instruction there -/
def standsB (l : List InsT) (at_ : Int) : Bool := if 0 ≤ at_ ∧ at_ < (l.length : Int) then (match l[at_.toNat]? with | some x => !(kindI x.1 == -1) | none => false) else false

theorem stands_out {l : List InsT} {p : Int} (h : ¬ (0 ≤ p ∧ p < (l.length : Int))) : standsB l p = false := by unfold standsB; rw [if_neg h]
theorem stands_in {l : List InsT} {k : Nat} (h : k < l.length) : standsB l (k : Int) = !(kindI l[k].1 == -1) := by
  unfold standsB; rw [if_pos (by omega)]; simp [h]

end InsF
end Go.Proofs.YtkgopfpnjfibmaaGreatDoor
