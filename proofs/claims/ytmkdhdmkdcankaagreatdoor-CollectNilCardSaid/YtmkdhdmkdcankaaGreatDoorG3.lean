/-
  Slices of instructions and of constants that came in, opened: what a law's walk is told of them.
  Data with depth that came in, opened part by part: structs in slices in structs; and what the form's reach gives of each part.
-/
import Derived.Test.YtmkdhdmkdcankaaGreatDoorG1
import Derived.Test.YtmkdhdmkdcankaaGreatDoorG2
import Derived.Deep.Slices
import Derived.Deep.Fields
import Derived.ChangeSame
import Derived.Test.YtmkdhdmkdcankaaGreatDoorKlsF
namespace Go.Proofs.YtmkdhdmkdcankaaGreatDoor
namespace OpenS
open Go.RowKit Go.ChangeShapes Go.WideShapes Go.Deep Base Stru Opened

instance : Inhabited Cst := ⟨⟨0, 0, [], [], []⟩⟩

section
variable {H : Type} {enc : TypeId × Value → H} {w : World}

end

end OpenS
end Go.Proofs.YtmkdhdmkdcankaaGreatDoor

namespace Go.Proofs.YtmkdhdmkdcankaaGreatDoor
namespace OpenG
open Go.RowKit Go.ChangeShapes Go.WideShapes Go.Deep Base Stru Opened OpenS

section
variable {H : Type} {enc : TypeId × Value → H} {w : World} {P : Program}

end

end OpenG
end Go.Proofs.YtmkdhdmkdcankaaGreatDoor
/-
  Fields, handlers, instructions, constants, methods and classes that came in, opened: what a law's walk is told of them.
-/
namespace Go.Proofs.YtmkdhdmkdcankaaGreatDoor
namespace OpenK
open Go.RowKit Go.ChangeShapes Go.WideShapes Go.Deep Base Stru Opened OpenS OpenG Kls

def FldT.lt (x : FldT) : Prop := x.name.length ≤ 140737488351232 ∧ x.desc.length ≤ 140737488351232
def HndT.lt (x : HndT) : Prop := x.cls.length ≤ 140737488351232
def CstT.lt (x : Cst) : Prop := x.s.length ≤ 140737488351232 ∧ x.t.length ≤ 140737488351232 ∧ x.u.length ≤ 140737488351232
structure MthT.lt (x : MthT) : Prop where
  name : x.name.length ≤ 140737488351232
  sig : x.sig.length ≤ 140737488351232
  hand : ∀ h ∈ x.hand, HndT.lt h
structure ClsT.lt (x : ClsT) : Prop where
  name : x.name.length ≤ 140737488351232
  sup : x.sup.length ≤ 140737488351232
  consts : ∀ h ∈ x.consts, CstT.lt h
  fields : ∀ h ∈ x.fields, FldT.lt h
  meths : ∀ h ∈ x.meths, MthT.lt h
instance : Inhabited FldT := ⟨⟨[], []⟩⟩
instance : Inhabited HndT := ⟨⟨0, 0, 0, []⟩⟩
instance : Inhabited MthT := ⟨⟨[], [], 0, none, 0, 0, none, 0, 0, [], []⟩⟩
instance : Inhabited ClsT := ⟨⟨[], [], none, 0, 0, none, 0, 0, none, 0, 0, [], [], []⟩⟩
section
variable {H : Type} {enc : TypeId × Value → H} {w : World}
end

end OpenK
end Go.Proofs.YtmkdhdmkdcankaaGreatDoor
