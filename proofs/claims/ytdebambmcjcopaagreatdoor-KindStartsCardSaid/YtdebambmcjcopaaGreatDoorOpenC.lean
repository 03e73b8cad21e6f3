/-
  Lists of classes that came in, opened.
-/
import Derived.Test.YtdebambmcjcopaaGreatDoorOpenK
namespace Go.Proofs.YtdebambmcjcopaaGreatDoor
namespace OpenC
open Go.RowKit Go.ChangeShapes Go.WideShapes Go.Deep Base Stru Opened OpenS OpenG OpenK Kls

section
variable {H : Type} {enc : TypeId × Value → H} {w : World}
set_option maxRecDepth 100000 in
theorem open_clss {n : Nat} {cs : List Value} {d : DataW H} {p : List MemPlace} (h : Tr enc w n 70 cs d p) (hl : Light Tryz.prog 70 d) :
    ∃ (A : Option Addr) (m c : Nat) (l : List ClsT), cs = [.slice A m c] ∧ m = l.length ∧ m ≤ c ∧ c ≤ maxLen ∧ Rds w A (l.flatMap OpenK.ClsT.vals) ∧ ∀ x ∈ l, x.is w ∧ ClsT.lt x :=
  open_list (k := 5) Tryz.underlying70 (by kernel_rfl) (by omega) OpenK.ClsT.vals (fun x => x.is w ∧ ClsT.lt x) (fun _ => rfl) (fun _ _ _ _ h hl => open_cls h hl) h hl
end
end OpenC
end Go.Proofs.YtdebambmcjcopaaGreatDoor
