/- pieces -/
import Derived.Test.YtmkdhdmkdcankaaGreatDoorK11
import Derived.Test.YtmkdhdmkdcankaaGreatDoorK12
namespace Go.Proofs.YtmkdhdmkdcankaaGreatDoor
namespace Kls
open Go.RowKit Base BinM Stru PoolM PoolA PoolJ InsJ
structure zU where
 name : List UInt8
 desc : List UInt8
deriving DecidableEq
def zU.vals (x : zU) : List Value := [.string ⟨x.name.toArray⟩, .string ⟨x.desc.toArray⟩]
def zU.V (x : zU) : Value := .agg #[.string ⟨x.name.toArray⟩, .string ⟨x.desc.toArray⟩]
structure yg (w : World) (A : Option Addr) (m c : Nat) (l : List zU) : Prop where
 len : m = l.length
 le : m ≤ c
 max : c ≤ maxLen
 rds : Rds w A (l.flatMap zU.vals)
theorem yg.below {w w' : World} {A : Option Addr} {m c : Nat} {l : List zU} (h : yg w A m c l) (hb : Below w.heap.size w w') : yg w' A m c l := ⟨h.len, h.le, h.max, h.rds.below hb⟩
theorem jr {w : World} {A : Option Addr} {l : List zU} {k : Nat} (h : Rds w A (l.flatMap zU.vals)) (hk : k < l.length) :
 ∃ b o, A = some ⟨b, o, none⟩ ∧ b < w.heap.size ∧ w.cell? ⟨b, o + k * 2, none⟩ = some (.string ⟨l[k].name.toArray⟩) ∧ w.cell? ⟨b, o + k * 2 + 1, none⟩ = some (.string ⟨l[k].desc.toArray⟩) := by
 obtain ⟨b, o, hA, hb, hc⟩ := Ql (n := 2) (fun _ => rfl) (by omega) h hk
 exact ⟨b, o, hA, hb, hc 0 _ rfl, hc 1 _ rfl⟩
structure qj where
 frm : Int
 til : Int
 pos : Int
 cls : List UInt8
deriving DecidableEq
def qj.vals (x : qj) : List Value := [.int .i64 x.frm, .int .i64 x.til, .int .i64 x.pos, .string ⟨x.cls.toArray⟩]
def qj.V (x : qj) : Value := .agg #[.int .i64 x.frm, .int .i64 x.til, .int .i64 x.pos, .string ⟨x.cls.toArray⟩]
structure Ur (w : World) (A : Option Addr) (m c : Nat) (l : List qj) : Prop where
 len : m = l.length
 le : m ≤ c
 max : c ≤ maxLen
 rds : Rds w A (l.flatMap qj.vals)
 fit : ∀ x ∈ l, zo x.frm ∧ zo x.til ∧ zo x.pos
theorem Ur.below {w w' : World} {A : Option Addr} {m c : Nat} {l : List qj} (h : Ur w A m c l) (hb : Below w.heap.size w w') : Ur w' A m c l := ⟨h.len, h.le, h.max, h.rds.below hb, h.fit⟩
theorem hnd_at {w : World} {A : Option Addr} {l : List qj} {k : Nat} (h : Rds w A (l.flatMap qj.vals)) (hk : k < l.length) :
 ∃ b o, A = some ⟨b, o, none⟩ ∧ b < w.heap.size ∧ w.cell? ⟨b, o + k * 4, none⟩ = some (.int .i64 l[k].frm) ∧ w.cell? ⟨b, o + k * 4 + 1, none⟩ = some (.int .i64 l[k].til) ∧ w.cell? ⟨b, o + k * 4 + 2, none⟩ = some (.int .i64 l[k].pos) ∧ w.cell? ⟨b, o + k * 4 + 3, none⟩ = some (.string ⟨l[k].cls.toArray⟩) := by
 obtain ⟨b, o, hA, hb, hc⟩ := Ql (n := 4) (fun _ => rfl) (by omega) h hk
 exact ⟨b, o, hA, hb, hc 0 _ rfl, hc 1 _ rfl, hc 2 _ rfl, hc 3 _ rfl⟩
structure zF where
 name : List UInt8
 sig : List UInt8
 locals : Int
 cA : Option Addr
 cm : Nat
 cc : Nat
 hA : Option Addr
 hm : Nat
 hc : Nat
 code : List Qo
 hand : List qj
structure MthP where
 name : List UInt8
 sig : List UInt8
 locals : Int
 code : List Qo
 hand : List qj
deriving DecidableEq
def zF.pure (x : zF) : MthP := ⟨x.name, x.sig, x.locals, x.code, x.hand⟩
def zF.vals (x : zF) : List Value := [.string ⟨x.name.toArray⟩, .string ⟨x.sig.toArray⟩, .int .i64 x.locals, .slice x.cA x.cm x.cc, .slice x.hA x.hm x.hc]
structure zF.is (w : World) (x : zF) : Prop where
 fit : zo x.locals
 code : Yq w x.cA x.cm x.cc x.code
 hand : Ur w x.hA x.hm x.hc x.hand
theorem zF.is.below {w w' : World} {x : zF} (h : x.is w) (hb : Below w.heap.size w w') : x.is w' := ⟨h.fit, h.code.below hb, h.hand.below hb⟩
structure Yp (w : World) (A : Option Addr) (m c : Nat) (l : List zF) : Prop where
 len : m = l.length
 le : m ≤ c
 max : c ≤ maxLen
 rds : Rds w A (l.flatMap zF.vals)
 each : ∀ x ∈ l, x.is w
theorem Yp.below {w w' : World} {A : Option Addr} {m c : Nat} {l : List zF} (h : Yp w A m c l) (hb : Below w.heap.size w w') : Yp w' A m c l := ⟨h.len, h.le, h.max, h.rds.below hb, fun x hx => (h.each x hx).below hb⟩
theorem jL {w : World} {A : Option Addr} {l : List zF} {k : Nat} (h : Rds w A (l.flatMap zF.vals)) (hk : k < l.length) :
 ∃ b o, A = some ⟨b, o, none⟩ ∧ b < w.heap.size ∧ w.cell? ⟨b, o + k * 5, none⟩ = some (.string ⟨l[k].name.toArray⟩) ∧ w.cell? ⟨b, o + k * 5 + 1, none⟩ = some (.string ⟨l[k].sig.toArray⟩) ∧ w.cell? ⟨b, o + k * 5 + 2, none⟩ = some (.int .i64 l[k].locals) ∧
   w.cell? ⟨b, o + k * 5 + 3, none⟩ = some (.slice l[k].cA l[k].cm l[k].cc) ∧ w.cell? ⟨b, o + k * 5 + 4, none⟩ = some (.slice l[k].hA l[k].hm l[k].hc) := by
 obtain ⟨b, o, hA, hb, hc⟩ := Ql (n := 5) (fun _ => rfl) (by omega) h hk
 exact ⟨b, o, hA, hb, hc 0 _ rfl, hc 1 _ rfl, hc 2 _ rfl, hc 3 _ rfl, hc 4 _ rfl⟩
structure za where
 name : List UInt8
 sup : List UInt8
 kA : Option Addr
 km : Nat
 kc : Nat
 fA : Option Addr
 fm : Nat
 fc : Nat
 mA : Option Addr
 mm : Nat
 mc : Nat
 consts : List Cst
 fields : List zU
 meths : List zF
def za.V (x : za) : Value := .agg #[.string ⟨x.name.toArray⟩, .string ⟨x.sup.toArray⟩, .slice x.kA x.km x.kc, .slice x.fA x.fm x.fc, .slice x.mA x.mm x.mc]
structure za.is (w : World) (x : za) : Prop where
 consts : ZH w x.kA x.km x.kc x.consts
 fields : yg w x.fA x.fm x.fc x.fields
 meths : Yp w x.mA x.mm x.mc x.meths
theorem za.is.below {w w' : World} {x : za} (h : x.is w) (hb : Below w.heap.size w w') : x.is w' := ⟨h.consts.below hb, h.fields.below hb, h.meths.below hb⟩
def za.same (x y : za) : Bool := x.name == y.name && x.sup == y.sup && decide (x.consts = y.consts) && decide (x.fields = y.fields) && decide (x.meths.map zF.pure = y.meths.map zF.pure)
theorem za.jV (x : za) : x.same x = true := by simp [za.same]
end Kls
namespace Kls
open Go.RowKit Base BinM Stru PoolM PoolA PoolJ InsJ
end Kls
namespace Kls
open Go.RowKit Base BinM Stru PoolM PoolA PoolJ InsJ
def QT (w : World) (g : Nat) (a b c d e : Value) : Prop :=
 w.cell? ⟨g, 0, none⟩ = some a ∧ w.cell? ⟨g, 1, none⟩ = some b ∧ w.cell? ⟨g, 2, none⟩ = some c ∧ w.cell? ⟨g, 3, none⟩ = some d ∧ w.cell? ⟨g, 4, none⟩ = some e
theorem QT.new (w : World) (a b c d e : Value) (ty : TypeId) : QT (w.alloc (.cells #[a, b, c, d, e] ty)) w.heap.size a b c d e := by
 refine ⟨?_, ?_, ?_, ?_, ?_⟩
 all_goals (rw [cell_of_row _ _ _ _ ty (0, 0) (heap_alloc_new w _)]; rfl)
theorem QT.below {w w' : World} {B g : Nat} {a b c d e : Value} (h : QT w g a b c d e) (hb : Below B w w') (hg : g < B) : QT w' g a b c d e :=
 ⟨(hb.cell (p := ⟨g, 0, none⟩) hg).trans h.1, (hb.cell (p := ⟨g, 1, none⟩) hg).trans h.2.1, (hb.cell (p := ⟨g, 2, none⟩) hg).trans h.2.2.1, (hb.cell (p := ⟨g, 3, none⟩) hg).trans h.2.2.2.1, (hb.cell (p := ⟨g, 4, none⟩) hg).trans h.2.2.2.2⟩
theorem QT.after {w w' : World} {g : Nat} {a b c d e : Value} (h : QT w g a b c d e) (hb : Below w.heap.size w w') : QT w' g a b c d e :=
 h.below hb (World.block_lt_of_cell? w ⟨g, 0, none⟩ h.1)
def zF.V (x : zF) : Value := .agg #[.string ⟨x.name.toArray⟩, .string ⟨x.sig.toArray⟩, .int .i64 x.locals, .slice x.cA x.cm x.cc, .slice x.hA x.hm x.hc]
theorem two (w : World) (a b c d e a' b' c' d' e' : Value) (ty : TypeId) : Below w.heap.size w ((w.alloc (.cells #[a, b, c, d, e] ty)).alloc (.cells #[a', b', c', d', e'] ty)) :=
 ((Below.refl _ _).alloc (Nat.le_refl _) _).alloc (by simp) _
end Kls
namespace Kls
open Go.RowKit Base BinM Stru PoolM PoolA PoolJ InsJ
def za.short (x : za) : Prop := x.consts.length ≤ 300 ∧ x.fields.length ≤ 40 ∧ x.meths.length ≤ 40 ∧ ∀ y ∈ x.meths, y.code.length ≤ 600 ∧ y.hand.length ≤ 20
def QJ (x : za) (w : World) (e : Ending) (w' : World) : Prop := ∃ r : Bool, e = .returned (.bool r) ∧ (r = true → x.short) ∧ Below w.heap.size w w'
end Kls
namespace Kls
open Go.RowKit Base BinM Stru PoolM PoolA PoolJ InsJ
end Kls
end Go.Proofs.YtmkdhdmkdcankaaGreatDoor
