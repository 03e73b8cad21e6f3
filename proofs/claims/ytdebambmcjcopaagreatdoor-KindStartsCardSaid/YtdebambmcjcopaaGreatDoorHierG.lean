/-
  Classes of pairs: hornbooklaw07.given.
-/
import Derived.Test.YtdebambmcjcopaaGreatDoorHierW
namespace Go.Proofs.YtdebambmcjcopaaGreatDoor
namespace HierG
open Go.RowKit BinM Base Stru DescM DescW DescX HierS HierT HierM HierN

def pv (p : P2) : List Value := [.string ⟨p.1.toArray⟩, .string ⟨p.2.toArray⟩]
theorem pv_at {w : World} {A : Option Addr} {l : List P2} {k : Nat} (h : Rds w A (l.flatMap pv)) (hk : k < l.length) :
    ∃ b o, A = some ⟨b, o, none⟩ ∧ b < w.heap.size ∧ w.cell? ⟨b, o + k * 2, none⟩ = some (.string ⟨l[k].1.toArray⟩) ∧ w.cell? ⟨b, o + k * 2 + 1, none⟩ = some (.string ⟨l[k].2.toArray⟩) := by
  obtain ⟨b, o, hA, hb, hc⟩ := flat_at (n := 2) (fun _ => rfl) (by omega) h hk
  exact ⟨b, o, hA, hb, hc 0 _ rfl, hc 1 _ rfl⟩

end HierG
end Go.Proofs.YtdebambmcjcopaaGreatDoor
