/-
  An instruction handed in by its value, opened.
-/
import Derived.Test.YtdebambmcjcopaaGreatDoorOpenK
namespace Go.Proofs.YtdebambmcjcopaaGreatDoor
namespace OpenI
open Go.RowKit Go.ChangeShapes Go.WideShapes Go.Deep Base Stru Opened OpenS OpenG Kls OpenK

structure InT where
  op : Int
  a : Int
def InT.vals (x : InT) : List Value := [.int .i64 x.op, .int .i64 x.a]
def InT.V (x : InT) : Value := .agg #[.int .i64 x.op, .int .i64 x.a]
def InT.is (_ : World) (x : InT) : Prop := fitI x.op ∧ fitI x.a
def InT.lt (_ : InT) : Prop := True
section
variable {H : Type} {enc : TypeId × Value → H} {w : World}
theorem open_insV {n : Nat} {cs : Array Value} {d : DataW H} {p : List MemPlace} (h : Tr enc w n 40 (Value.agg cs).cells.toList d p) (hl : Light Tryz.prog 40 d) :
    ∃ x : InT, cs = (InT.vals x).toArray ∧ InT.is w x ∧ InT.lt x := by
  obtain ⟨x, e, h1, h2⟩ := open_ins (cs := cs.toList) h hl
  obtain ⟨x1, x2⟩ := x
  exact ⟨⟨x1, x2⟩, by rw [show InT.vals ⟨x1, x2⟩ = insV (x1, x2) from rfl, ← e], ⟨h1, h2⟩, trivial⟩
end
end OpenI
end Go.Proofs.YtdebambmcjcopaaGreatDoor
