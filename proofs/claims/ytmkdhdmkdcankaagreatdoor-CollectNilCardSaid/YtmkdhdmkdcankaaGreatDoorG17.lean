/-
  Slices of instructions and of constants that came in, opened: what a law's walk is told of them.
  Data with depth that came in, opened part by part: structs in slices in structs; and what the form's reach gives of each part.
-/
import Derived.Test.YtmkdhdmkdcankaaGreatDoorG1
import Derived.Test.YtmkdhdmkdcankaaGreatDoorG6
import Derived.Deep.Slices
import Derived.Deep.Fields
import Derived.ChangeSame
import Derived.Test.YtmkdhdmkdcankaaGreatDoorG13
namespace Go.Proofs.YtmkdhdmkdcankaaGreatDoor
namespace OpenS
open Go.RowKit Go.ChangeShapes Go.WideShapes Go.Deep Base Stru Opened

instance : Inhabited Cst := ⟨⟨0, 0, [], [], []⟩⟩

section
variable {H : Type} {enc : TypeId × Value → H} {w : World}

end

end OpenS
end Go.Proofs.YtmkdhdmkdcankaaGreatDoor

namespace Go.Proofs.YtmkdhdmkdcankaaGreatDoor
namespace OpenG
open Go.RowKit Go.ChangeShapes Go.WideShapes Go.Deep Base Stru Opened OpenS

/-- what a datum weighs is within the form's reach -/
def Light {H : Type} (P : Program) (t : TypeId) (d : DataW H) : Prop := ∀ q ∈ d.weights P t, q ≤ 140737488351232

section
variable {H : Type} {enc : TypeId × Value → H} {w : World} {P : Program}

theorem Light.field {t : TypeId} {fs : Array Field} (hu : P.underlying t = some (.struct fs)) {ds : List (DataW H)} (h : Light P t (.agg ds)) {i : Nat} {f : Field} {d : DataW H} (hf : fs[i]? = some f) (hd : ds[i]? = some d) : Light P f.type d := by
  intro q hq
  apply h
  simp only [DataW.weights, hu]
  exact DataW.weights_mem_each (by rw [List.getElem?_map]; simp [hf]) hd q hq
theorem mem_all {e : TypeId} {d : DataW H} {q : Nat} (hq : q ∈ d.weights P e) : ∀ {l : List (DataW H)}, d ∈ l → q ∈ DataW.weightsAll P e l
  | x :: r, h => by
    simp only [DataW.weightsAll, List.mem_append]
    rcases List.mem_cons.1 h with rfl | h
    · exact .inl hq
    · exact .inr (mem_all hq h)
theorem Light.elem {t e : TypeId} (hu : P.underlying t = some (.slice e)) {l sp : List (DataW H)} (h : Light P t (.slice l sp)) {d : DataW H} (hd : d ∈ l) : Light P e d := by
  intro q hq
  apply h
  simp only [DataW.weights, hu, List.mem_cons, List.mem_append]
  exact .inr (.inl (mem_all hq hd))
end

end OpenG
end Go.Proofs.YtmkdhdmkdcankaaGreatDoor
/-
  Fields, handlers, instructions, constants, methods and classes that came in, opened: what a law's walk is told of them.
-/
namespace Go.Proofs.YtmkdhdmkdcankaaGreatDoor
namespace OpenK
open Go.RowKit Go.ChangeShapes Go.WideShapes Go.Deep Base Stru Opened OpenS OpenG Kls

def FldT.lt (x : FldT) : Prop := x.name.length ≤ 140737488351232 ∧ x.desc.length ≤ 140737488351232
def HndT.lt (x : HndT) : Prop := x.cls.length ≤ 140737488351232
def CstT.lt (x : Cst) : Prop := x.s.length ≤ 140737488351232 ∧ x.t.length ≤ 140737488351232 ∧ x.u.length ≤ 140737488351232
structure MthT.lt (x : MthT) : Prop where
  name : x.name.length ≤ 140737488351232
  sig : x.sig.length ≤ 140737488351232
  hand : ∀ h ∈ x.hand, HndT.lt h
structure ClsT.lt (x : ClsT) : Prop where
  name : x.name.length ≤ 140737488351232
  sup : x.sup.length ≤ 140737488351232
  consts : ∀ h ∈ x.consts, CstT.lt h
  fields : ∀ h ∈ x.fields, FldT.lt h
  meths : ∀ h ∈ x.meths, MthT.lt h
instance : Inhabited FldT := ⟨⟨[], []⟩⟩
instance : Inhabited HndT := ⟨⟨0, 0, 0, []⟩⟩
instance : Inhabited MthT := ⟨⟨[], [], 0, none, 0, 0, none, 0, 0, [], []⟩⟩
instance : Inhabited ClsT := ⟨⟨[], [], none, 0, 0, none, 0, 0, none, 0, 0, [], [], []⟩⟩
def ClsT.vals (x : ClsT) : List Value := [.string ⟨x.name.toArray⟩, .string ⟨x.sup.toArray⟩, .slice x.kA x.km x.kc, .slice x.fA x.fm x.fc, .slice x.mA x.mm x.mc]

section
variable {H : Type} {enc : TypeId × Value → H} {w : World}
end

end OpenK
end Go.Proofs.YtmkdhdmkdcankaaGreatDoor
