/- pieces -/
import Derived.Test.YtehainbhoflpnaaGreatDoorK6
import Derived.Test.YtehainbhoflpnaaGreatDoorK7
namespace Go.Proofs.YtehainbhoflpnaaGreatDoor
namespace Kls
open Go.RowKit Base BinM Stru PoolM PoolA PoolJ InsJ
structure ZA where
 name : List UInt8
 desc : List UInt8
deriving DecidableEq
def ZA.vals (x : ZA) : List Value := [.string ⟨x.name.toArray⟩, .string ⟨x.desc.toArray⟩]
def ZA.V (x : ZA) : Value := .agg #[.string ⟨x.name.toArray⟩, .string ⟨x.desc.toArray⟩]
structure JQ (w : World) (A : Option Addr) (m c : Nat) (l : List ZA) : Prop where
 len : m = l.length
 le : m ≤ c
 max : c ≤ maxLen
 rds : Rds w A (l.flatMap ZA.vals)
theorem JQ.below {w w' : World} {A : Option Addr} {m c : Nat} {l : List ZA} (h : JQ w A m c l) (hb : Below w.heap.size w w') : JQ w' A m c l := ⟨h.len, h.le, h.max, h.rds.below hb⟩
theorem JI {w : World} {A : Option Addr} {l : List ZA} {k : Nat} (h : Rds w A (l.flatMap ZA.vals)) (hk : k < l.length) :
 ∃ b o, A = some ⟨b, o, none⟩ ∧ b < w.heap.size ∧ w.cell? ⟨b, o + k * 2, none⟩ = some (.string ⟨l[k].name.toArray⟩) ∧ w.cell? ⟨b, o + k * 2 + 1, none⟩ = some (.string ⟨l[k].desc.toArray⟩) := by
 obtain ⟨b, o, hA, hb, hc⟩ := QU (n := 2) (fun _ => rfl) (by omega) h hk
 exact ⟨b, o, hA, hb, hc 0 _ rfl, hc 1 _ rfl⟩
structure qJ where
 frm : Int
 til : Int
 pos : Int
 cls : List UInt8
deriving DecidableEq
def qJ.vals (x : qJ) : List Value := [.int .i64 x.frm, .int .i64 x.til, .int .i64 x.pos, .string ⟨x.cls.toArray⟩]
def qJ.V (x : qJ) : Value := .agg #[.int .i64 x.frm, .int .i64 x.til, .int .i64 x.pos, .string ⟨x.cls.toArray⟩]
structure Xb (w : World) (A : Option Addr) (m c : Nat) (l : List qJ) : Prop where
 len : m = l.length
 le : m ≤ c
 max : c ≤ maxLen
 rds : Rds w A (l.flatMap qJ.vals)
 fit : ∀ x ∈ l, ZI x.frm ∧ ZI x.til ∧ ZI x.pos
theorem Xb.below {w w' : World} {A : Option Addr} {m c : Nat} {l : List qJ} (h : Xb w A m c l) (hb : Below w.heap.size w w') : Xb w' A m c l := ⟨h.len, h.le, h.max, h.rds.below hb, h.fit⟩
theorem zs9 {w : World} {A : Option Addr} {l : List qJ} {k : Nat} (h : Rds w A (l.flatMap qJ.vals)) (hk : k < l.length) :
 ∃ b o, A = some ⟨b, o, none⟩ ∧ b < w.heap.size ∧ w.cell? ⟨b, o + k * 4, none⟩ = some (.int .i64 l[k].frm) ∧ w.cell? ⟨b, o + k * 4 + 1, none⟩ = some (.int .i64 l[k].til) ∧ w.cell? ⟨b, o + k * 4 + 2, none⟩ = some (.int .i64 l[k].pos) ∧ w.cell? ⟨b, o + k * 4 + 3, none⟩ = some (.string ⟨l[k].cls.toArray⟩) := by
 obtain ⟨b, o, hA, hb, hc⟩ := QU (n := 4) (fun _ => rfl) (by omega) h hk
 exact ⟨b, o, hA, hb, hc 0 _ rfl, hc 1 _ rfl, hc 2 _ rfl, hc 3 _ rfl⟩
structure zO where
 name : List UInt8
 sig : List UInt8
 locals : Int
 cA : Option Addr
 cm : Nat
 cc : Nat
 hA : Option Addr
 hm : Nat
 hc : Nat
 code : List InsT
 hand : List qJ
structure Zq1 where
 name : List UInt8
 sig : List UInt8
 locals : Int
 code : List InsT
 hand : List qJ
deriving DecidableEq
def zO.pure (x : zO) : Zq1 := ⟨x.name, x.sig, x.locals, x.code, x.hand⟩
def zO.vals (x : zO) : List Value := [.string ⟨x.name.toArray⟩, .string ⟨x.sig.toArray⟩, .int .i64 x.locals, .slice x.cA x.cm x.cc, .slice x.hA x.hm x.hc]
structure zO.is (w : World) (x : zO) : Prop where
 fit : ZI x.locals
 code : JR w x.cA x.cm x.cc x.code
 hand : Xb w x.hA x.hm x.hc x.hand
theorem zO.is.below {w w' : World} {x : zO} (h : x.is w) (hb : Below w.heap.size w w') : x.is w' := ⟨h.fit, h.code.below hb, h.hand.below hb⟩
structure yD (w : World) (A : Option Addr) (m c : Nat) (l : List zO) : Prop where
 len : m = l.length
 le : m ≤ c
 max : c ≤ maxLen
 rds : Rds w A (l.flatMap zO.vals)
 each : ∀ x ∈ l, x.is w
theorem yD.below {w w' : World} {A : Option Addr} {m c : Nat} {l : List zO} (h : yD w A m c l) (hb : Below w.heap.size w w') : yD w' A m c l := ⟨h.len, h.le, h.max, h.rds.below hb, fun x hx => (h.each x hx).below hb⟩
theorem jY {w : World} {A : Option Addr} {l : List zO} {k : Nat} (h : Rds w A (l.flatMap zO.vals)) (hk : k < l.length) :
 ∃ b o, A = some ⟨b, o, none⟩ ∧ b < w.heap.size ∧ w.cell? ⟨b, o + k * 5, none⟩ = some (.string ⟨l[k].name.toArray⟩) ∧ w.cell? ⟨b, o + k * 5 + 1, none⟩ = some (.string ⟨l[k].sig.toArray⟩) ∧ w.cell? ⟨b, o + k * 5 + 2, none⟩ = some (.int .i64 l[k].locals) ∧
   w.cell? ⟨b, o + k * 5 + 3, none⟩ = some (.slice l[k].cA l[k].cm l[k].cc) ∧ w.cell? ⟨b, o + k * 5 + 4, none⟩ = some (.slice l[k].hA l[k].hm l[k].hc) := by
 obtain ⟨b, o, hA, hb, hc⟩ := QU (n := 5) (fun _ => rfl) (by omega) h hk
 exact ⟨b, o, hA, hb, hc 0 _ rfl, hc 1 _ rfl, hc 2 _ rfl, hc 3 _ rfl, hc 4 _ rfl⟩
structure zf where
 name : List UInt8
 sup : List UInt8
 kA : Option Addr
 km : Nat
 kc : Nat
 fA : Option Addr
 fm : Nat
 fc : Nat
 mA : Option Addr
 mm : Nat
 mc : Nat
 consts : List Cst
 fields : List ZA
 meths : List zO
def zf.V (x : zf) : Value := .agg #[.string ⟨x.name.toArray⟩, .string ⟨x.sup.toArray⟩, .slice x.kA x.km x.kc, .slice x.fA x.fm x.fc, .slice x.mA x.mm x.mc]
structure zf.is (w : World) (x : zf) : Prop where
 consts : Zq w x.kA x.km x.kc x.consts
 fields : JQ w x.fA x.fm x.fc x.fields
 meths : yD w x.mA x.mm x.mc x.meths
theorem zf.is.below {w w' : World} {x : zf} (h : x.is w) (hb : Below w.heap.size w w') : x.is w' := ⟨h.consts.below hb, h.fields.below hb, h.meths.below hb⟩
def zf.same (x y : zf) : Bool := x.name == y.name && x.sup == y.sup && decide (x.consts = y.consts) && decide (x.fields = y.fields) && decide (x.meths.map zO.pure = y.meths.map zO.pure)
theorem zf.Je (x : zf) : x.same x = true := by simp [zf.same]
end Kls
namespace Kls
open Go.RowKit Base BinM Stru PoolM PoolA PoolJ InsJ
end Kls
namespace Kls
open Go.RowKit Base BinM Stru PoolM PoolA PoolJ InsJ
def jq (w : World) (g : Nat) (a b c d e : Value) : Prop :=
 w.cell? ⟨g, 0, none⟩ = some a ∧ w.cell? ⟨g, 1, none⟩ = some b ∧ w.cell? ⟨g, 2, none⟩ = some c ∧ w.cell? ⟨g, 3, none⟩ = some d ∧ w.cell? ⟨g, 4, none⟩ = some e
theorem jq.new (w : World) (a b c d e : Value) (ty : TypeId) : jq (w.alloc (.cells #[a, b, c, d, e] ty)) w.heap.size a b c d e := by
 refine ⟨?_, ?_, ?_, ?_, ?_⟩
 all_goals (rw [cell_of_row _ _ _ _ ty (0, 0) (heap_alloc_new w _)]; rfl)
theorem jq.below {w w' : World} {B g : Nat} {a b c d e : Value} (h : jq w g a b c d e) (hb : Below B w w') (hg : g < B) : jq w' g a b c d e :=
 ⟨(hb.cell (p := ⟨g, 0, none⟩) hg).trans h.1, (hb.cell (p := ⟨g, 1, none⟩) hg).trans h.2.1, (hb.cell (p := ⟨g, 2, none⟩) hg).trans h.2.2.1, (hb.cell (p := ⟨g, 3, none⟩) hg).trans h.2.2.2.1, (hb.cell (p := ⟨g, 4, none⟩) hg).trans h.2.2.2.2⟩
theorem jq.after {w w' : World} {g : Nat} {a b c d e : Value} (h : jq w g a b c d e) (hb : Below w.heap.size w w') : jq w' g a b c d e :=
 h.below hb (World.block_lt_of_cell? w ⟨g, 0, none⟩ h.1)
def zO.V (x : zO) : Value := .agg #[.string ⟨x.name.toArray⟩, .string ⟨x.sig.toArray⟩, .int .i64 x.locals, .slice x.cA x.cm x.cc, .slice x.hA x.hm x.hc]
theorem two (w : World) (a b c d e a' b' c' d' e' : Value) (ty : TypeId) : Below w.heap.size w ((w.alloc (.cells #[a, b, c, d, e] ty)).alloc (.cells #[a', b', c', d', e'] ty)) :=
 ((Below.refl _ _).alloc (Nat.le_refl _) _).alloc (by simp) _
end Kls
namespace Kls
open Go.RowKit Base BinM Stru PoolM PoolA PoolJ InsJ
def zf.short (x : zf) : Prop := x.consts.length ≤ 300 ∧ x.fields.length ≤ 40 ∧ x.meths.length ≤ 40 ∧ ∀ y ∈ x.meths, y.code.length ≤ 600 ∧ y.hand.length ≤ 20
def Uu (x : zf) (w : World) (e : Ending) (w' : World) : Prop := ∃ r : Bool, e = .returned (.bool r) ∧ (r = true → x.short) ∧ Below w.heap.size w w'
end Kls
namespace Kls
open Go.RowKit Base BinM Stru PoolM PoolA PoolJ InsJ
end Kls
end Go.Proofs.YtehainbhoflpnaaGreatDoor
