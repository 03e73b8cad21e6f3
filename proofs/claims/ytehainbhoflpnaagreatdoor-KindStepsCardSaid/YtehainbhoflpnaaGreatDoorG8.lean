/-
  Fields, handlers, methods and classes, as the walks of this seat meet them: what they hold, how they lie, when they are alike.
  slices.Equal at fields, handlers, constants and instructions: what it returns.
  klass.Same and the document's own Same, of classes: what they return.
  Whether a class is not too long to be played with: what the call tells.
  slices.EqualFunc at methods: what it returns.
-/
import Derived.Test.YtehainbhoflpnaaGreatDoorG6
import Derived.Test.YtehainbhoflpnaaGreatDoorG7
import Derived.Outline
import Derived.Deep.QuietTactic
import Derived.BigQuiet
import Derived.Laws.StructEq
import Derived.Deep.RegionHeld3
namespace Go.Proofs.YtehainbhoflpnaaGreatDoor
namespace Kls
open Go.RowKit Base BinM Stru PoolM PoolA PoolJ InsJ

structure FldT where
  name : List UInt8
  desc : List UInt8
deriving DecidableEq
def FldT.vals (x : FldT) : List Value := [.string ⟨x.name.toArray⟩, .string ⟨x.desc.toArray⟩]
def FldT.V (x : FldT) : Value := .agg #[.string ⟨x.name.toArray⟩, .string ⟨x.desc.toArray⟩]
structure IsFlds (w : World) (A : Option Addr) (m c : Nat) (l : List FldT) : Prop where
  len : m = l.length
  le : m ≤ c
  max : c ≤ maxLen
  rds : Rds w A (l.flatMap FldT.vals)
theorem IsFlds.below {w w' : World} {A : Option Addr} {m c : Nat} {l : List FldT} (h : IsFlds w A m c l) (hb : Below w.heap.size w w') : IsFlds w' A m c l := ⟨h.len, h.le, h.max, h.rds.below hb⟩
theorem fld_at {w : World} {A : Option Addr} {l : List FldT} {k : Nat} (h : Rds w A (l.flatMap FldT.vals)) (hk : k < l.length) :
    ∃ b o, A = some ⟨b, o, none⟩ ∧ b < w.heap.size ∧ w.cell? ⟨b, o + k * 2, none⟩ = some (.string ⟨l[k].name.toArray⟩) ∧ w.cell? ⟨b, o + k * 2 + 1, none⟩ = some (.string ⟨l[k].desc.toArray⟩) := by
  obtain ⟨b, o, hA, hb, hc⟩ := flat_at (n := 2) (fun _ => rfl) (by omega) h hk
  exact ⟨b, o, hA, hb, hc 0 _ rfl, hc 1 _ rfl⟩
structure HndT where
  frm : Int
  til : Int
  pos : Int
  cls : List UInt8
deriving DecidableEq
def HndT.vals (x : HndT) : List Value := [.int .i64 x.frm, .int .i64 x.til, .int .i64 x.pos, .string ⟨x.cls.toArray⟩]
def HndT.V (x : HndT) : Value := .agg #[.int .i64 x.frm, .int .i64 x.til, .int .i64 x.pos, .string ⟨x.cls.toArray⟩]
structure IsHnds (w : World) (A : Option Addr) (m c : Nat) (l : List HndT) : Prop where
  len : m = l.length
  le : m ≤ c
  max : c ≤ maxLen
  rds : Rds w A (l.flatMap HndT.vals)
  fit : ∀ x ∈ l, fitI x.frm ∧ fitI x.til ∧ fitI x.pos
theorem IsHnds.below {w w' : World} {A : Option Addr} {m c : Nat} {l : List HndT} (h : IsHnds w A m c l) (hb : Below w.heap.size w w') : IsHnds w' A m c l := ⟨h.len, h.le, h.max, h.rds.below hb, h.fit⟩
theorem hnd_at {w : World} {A : Option Addr} {l : List HndT} {k : Nat} (h : Rds w A (l.flatMap HndT.vals)) (hk : k < l.length) :
    ∃ b o, A = some ⟨b, o, none⟩ ∧ b < w.heap.size ∧ w.cell? ⟨b, o + k * 4, none⟩ = some (.int .i64 l[k].frm) ∧ w.cell? ⟨b, o + k * 4 + 1, none⟩ = some (.int .i64 l[k].til) ∧ w.cell? ⟨b, o + k * 4 + 2, none⟩ = some (.int .i64 l[k].pos) ∧ w.cell? ⟨b, o + k * 4 + 3, none⟩ = some (.string ⟨l[k].cls.toArray⟩) := by
  obtain ⟨b, o, hA, hb, hc⟩ := flat_at (n := 4) (fun _ => rfl) (by omega) h hk
  exact ⟨b, o, hA, hb, hc 0 _ rfl, hc 1 _ rfl, hc 2 _ rfl, hc 3 _ rfl⟩
/-- a method, with where its code and its handlers lie -/
structure MthT where
  name : List UInt8
  sig : List UInt8
  locals : Int
  cA : Option Addr
  cm : Nat
  cc : Nat
  hA : Option Addr
  hm : Nat
  hc : Nat
  code : List InsT
  hand : List HndT
/-- what of a method is held against another's -/
structure MthP where
  name : List UInt8
  sig : List UInt8
  locals : Int
  code : List InsT
  hand : List HndT
deriving DecidableEq
def MthT.pure (x : MthT) : MthP := ⟨x.name, x.sig, x.locals, x.code, x.hand⟩
def MthT.vals (x : MthT) : List Value := [.string ⟨x.name.toArray⟩, .string ⟨x.sig.toArray⟩, .int .i64 x.locals, .slice x.cA x.cm x.cc, .slice x.hA x.hm x.hc]
structure MthT.is (w : World) (x : MthT) : Prop where
  fit : fitI x.locals
  code : IsCode w x.cA x.cm x.cc x.code
  hand : IsHnds w x.hA x.hm x.hc x.hand
theorem MthT.is.below {w w' : World} {x : MthT} (h : x.is w) (hb : Below w.heap.size w w') : x.is w' := ⟨h.fit, h.code.below hb, h.hand.below hb⟩
structure IsMths (w : World) (A : Option Addr) (m c : Nat) (l : List MthT) : Prop where
  len : m = l.length
  le : m ≤ c
  max : c ≤ maxLen
  rds : Rds w A (l.flatMap MthT.vals)
  each : ∀ x ∈ l, x.is w
theorem IsMths.below {w w' : World} {A : Option Addr} {m c : Nat} {l : List MthT} (h : IsMths w A m c l) (hb : Below w.heap.size w w') : IsMths w' A m c l := ⟨h.len, h.le, h.max, h.rds.below hb, fun x hx => (h.each x hx).below hb⟩
theorem mth_at {w : World} {A : Option Addr} {l : List MthT} {k : Nat} (h : Rds w A (l.flatMap MthT.vals)) (hk : k < l.length) :
    ∃ b o, A = some ⟨b, o, none⟩ ∧ b < w.heap.size ∧ w.cell? ⟨b, o + k * 5, none⟩ = some (.string ⟨l[k].name.toArray⟩) ∧ w.cell? ⟨b, o + k * 5 + 1, none⟩ = some (.string ⟨l[k].sig.toArray⟩) ∧ w.cell? ⟨b, o + k * 5 + 2, none⟩ = some (.int .i64 l[k].locals) ∧
      w.cell? ⟨b, o + k * 5 + 3, none⟩ = some (.slice l[k].cA l[k].cm l[k].cc) ∧ w.cell? ⟨b, o + k * 5 + 4, none⟩ = some (.slice l[k].hA l[k].hm l[k].hc) := by
  obtain ⟨b, o, hA, hb, hc⟩ := flat_at (n := 5) (fun _ => rfl) (by omega) h hk
  exact ⟨b, o, hA, hb, hc 0 _ rfl, hc 1 _ rfl, hc 2 _ rfl, hc 3 _ rfl, hc 4 _ rfl⟩

/-- a class, with where its parts lie -/
structure ClsT where
  name : List UInt8
  sup : List UInt8
  kA : Option Addr
  km : Nat
  kc : Nat
  fA : Option Addr
  fm : Nat
  fc : Nat
  mA : Option Addr
  mm : Nat
  mc : Nat
  consts : List Cst
  fields : List FldT
  meths : List MthT
def ClsT.V (x : ClsT) : Value := .agg #[.string ⟨x.name.toArray⟩, .string ⟨x.sup.toArray⟩, .slice x.kA x.km x.kc, .slice x.fA x.fm x.fc, .slice x.mA x.mm x.mc]
structure ClsT.is (w : World) (x : ClsT) : Prop where
  consts : IsCsts w x.kA x.km x.kc x.consts
  fields : IsFlds w x.fA x.fm x.fc x.fields
  meths : IsMths w x.mA x.mm x.mc x.meths
theorem ClsT.is.below {w w' : World} {x : ClsT} (h : x.is w) (hb : Below w.heap.size w w') : x.is w' := ⟨h.consts.below hb, h.fields.below hb, h.meths.below hb⟩
def ClsT.same (x y : ClsT) : Bool := x.name == y.name && x.sup == y.sup && decide (x.consts = y.consts) && decide (x.fields = y.fields) && decide (x.meths.map MthT.pure = y.meths.map MthT.pure)
theorem ClsT.same_refl (x : ClsT) : x.same x = true := by simp [ClsT.same]

end Kls
end Go.Proofs.YtehainbhoflpnaaGreatDoor

namespace Go.Proofs.YtehainbhoflpnaaGreatDoor
namespace Kls
open Go.RowKit Base BinM Stru PoolM PoolA PoolJ InsJ





end Kls
end Go.Proofs.YtehainbhoflpnaaGreatDoor

namespace Go.Proofs.YtehainbhoflpnaaGreatDoor
namespace Kls
open Go.RowKit Base BinM Stru PoolM PoolA PoolJ InsJ

/-- a box of five cells -/
def Box5 (w : World) (g : Nat) (a b c d e : Value) : Prop :=
  w.cell? ⟨g, 0, none⟩ = some a ∧ w.cell? ⟨g, 1, none⟩ = some b ∧ w.cell? ⟨g, 2, none⟩ = some c ∧ w.cell? ⟨g, 3, none⟩ = some d ∧ w.cell? ⟨g, 4, none⟩ = some e
theorem Box5.new (w : World) (a b c d e : Value) (ty : TypeId) : Box5 (w.alloc (.cells #[a, b, c, d, e] ty)) w.heap.size a b c d e := by
  refine ⟨?_, ?_, ?_, ?_, ?_⟩
  all_goals (rw [cell_of_row _ _ _ _ ty (0, 0) (heap_alloc_new w _)]; rfl)
theorem Box5.below {w w' : World} {B g : Nat} {a b c d e : Value} (h : Box5 w g a b c d e) (hb : Below B w w') (hg : g < B) : Box5 w' g a b c d e :=
  ⟨(hb.cell (p := ⟨g, 0, none⟩) hg).trans h.1, (hb.cell (p := ⟨g, 1, none⟩) hg).trans h.2.1, (hb.cell (p := ⟨g, 2, none⟩) hg).trans h.2.2.1, (hb.cell (p := ⟨g, 3, none⟩) hg).trans h.2.2.2.1, (hb.cell (p := ⟨g, 4, none⟩) hg).trans h.2.2.2.2⟩
theorem Box5.after {w w' : World} {g : Nat} {a b c d e : Value} (h : Box5 w g a b c d e) (hb : Below w.heap.size w w') : Box5 w' g a b c d e :=
  h.below hb (World.block_lt_of_cell? w ⟨g, 0, none⟩ h.1)

def MthT.V (x : MthT) : Value := .agg #[.string ⟨x.name.toArray⟩, .string ⟨x.sig.toArray⟩, .int .i64 x.locals, .slice x.cA x.cm x.cc, .slice x.hA x.hm x.hc]

/-- two boxes, one behind the other -/
theorem two (w : World) (a b c d e a' b' c' d' e' : Value) (ty : TypeId) : Below w.heap.size w ((w.alloc (.cells #[a, b, c, d, e] ty)).alloc (.cells #[a', b', c', d', e'] ty)) :=
  ((Below.refl _ _).alloc (Nat.le_refl _) _).alloc (by simp) _
end Kls
end Go.Proofs.YtehainbhoflpnaaGreatDoor

namespace Go.Proofs.YtehainbhoflpnaaGreatDoor
namespace Kls
open Go.RowKit Base BinM Stru PoolM PoolA PoolJ InsJ

/-- what is known of a class that is not too long -/
def ClsT.short (x : ClsT) : Prop := x.consts.length ≤ 300 ∧ x.fields.length ≤ 40 ∧ x.meths.length ≤ 40 ∧ ∀ y ∈ x.meths, y.code.length ≤ 600 ∧ y.hand.length ≤ 20
def GivesS (x : ClsT) (w : World) (e : Ending) (w' : World) : Prop := ∃ r : Bool, e = .returned (.bool r) ∧ (r = true → x.short) ∧ Below w.heap.size w w'
end Kls
end Go.Proofs.YtehainbhoflpnaaGreatDoor

namespace Go.Proofs.YtehainbhoflpnaaGreatDoor
namespace Kls
open Go.RowKit Base BinM Stru PoolM PoolA PoolJ InsJ



end Kls
end Go.Proofs.YtehainbhoflpnaaGreatDoor
