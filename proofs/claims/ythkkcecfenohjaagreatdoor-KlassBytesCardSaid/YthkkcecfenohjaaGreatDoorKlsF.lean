/-
  Fields, handlers, methods and classes, as the walks of this seat meet them: what they hold, how they lie, when they are alike.
  slices.Equal at fields, handlers, constants and instructions: what it returns.
  klass.Same and the document's own Same, of classes: what they return.
  Whether a class is not too long to be played with: what the call tells.
  slices.EqualFunc at methods: what it returns.
-/
import Derived.Test.YthkkcecfenohjaaGreatDoorPoolK
import Derived.Test.YthkkcecfenohjaaGreatDoorInsC
import Derived.Outline
import Derived.Deep.QuietTactic
import Derived.BigQuiet
import Derived.Laws.StructEq
import Derived.Deep.RegionHeld3
namespace Go.Proofs.YthkkcecfenohjaaGreatDoor
namespace Kls
open Go.RowKit Base BinM Stru PoolM PoolA PoolJ InsJ

structure FldT where
  name : List UInt8
  desc : List UInt8
deriving DecidableEq
def FldT.vals (x : FldT) : List Value := [.string ⟨x.name.toArray⟩, .string ⟨x.desc.toArray⟩]
def FldT.V (x : FldT) : Value := .agg #[.string ⟨x.name.toArray⟩, .string ⟨x.desc.toArray⟩]
def FldT.eqb (x y : FldT) : Bool := x.name == y.name && x.desc == y.desc
theorem FldT.iff (x y : FldT) : x.eqb y = true ↔ x = y := by
  obtain ⟨x0, x1⟩ := x
  obtain ⟨y0, y1⟩ := y
  simp [FldT.eqb]
structure IsFlds (w : World) (A : Option Addr) (m c : Nat) (l : List FldT) : Prop where
  len : m = l.length
  le : m ≤ c
  max : c ≤ maxLen
  rds : Rds w A (l.flatMap FldT.vals)
theorem IsFlds.below {w w' : World} {A : Option Addr} {m c : Nat} {l : List FldT} (h : IsFlds w A m c l) (hb : Below w.heap.size w w') : IsFlds w' A m c l := ⟨h.len, h.le, h.max, h.rds.below hb⟩
theorem fld_at {w : World} {A : Option Addr} {l : List FldT} {k : Nat} (h : Rds w A (l.flatMap FldT.vals)) (hk : k < l.length) :
    ∃ b o, A = some ⟨b, o, none⟩ ∧ b < w.heap.size ∧ w.cell? ⟨b, o + k * 2, none⟩ = some (.string ⟨l[k].name.toArray⟩) ∧ w.cell? ⟨b, o + k * 2 + 1, none⟩ = some (.string ⟨l[k].desc.toArray⟩) := by
  obtain ⟨b, o, hA, hb, hc⟩ := flat_at (n := 2) (fun _ => rfl) (by omega) h hk
  exact ⟨b, o, hA, hb, hc 0 _ rfl, hc 1 _ rfl⟩
theorem eq_fld (x0 : List UInt8) (x1 : List UInt8) (y0 : List UInt8) (y1 : List UInt8) (W : World) : (Op.equalIn 10000 67 (.agg #[.string ⟨x0.toArray⟩, .string ⟨x1.toArray⟩]) (.agg #[.string ⟨y0.toArray⟩, .string ⟨y1.toArray⟩])).run Tryz.prog W = .ok (FldT.eqb ⟨x0, x1⟩ ⟨y0, y1⟩) W := by
  have u9 := Tryz.underlying9
  have a9 := Tryz.isAgg9
  have z9 := Tryz.sizeOf9
  have hS : Tryz.prog.underlying 67 = some (.struct (Tryz.prog.fieldsOf 67)) := by kernel_rfl
  have hp : Tryz.prog.stoodInHeld 67 = false := by kernel_rfl
  rw [show (10000 : Nat) = 9999 + 1 from rfl, run_equalIn_agg W 9999 67 _ _ hS hp]
  simp only [Program.fieldsOf, Tryz.underlying67]
  go_simp
  unfold FldT.eqb
  by_cases h0 : x0 = y0 <;> by_cases h1 : x1 = y1 <;> simp [h0, h1]
theorem neq_fld (x0 : List UInt8) (x1 : List UInt8) (y0 : List UInt8) (y1 : List UInt8) (W : World) : (binOp .neq 67 (.agg #[.string ⟨x0.toArray⟩, .string ⟨x1.toArray⟩]) (.agg #[.string ⟨y0.toArray⟩, .string ⟨y1.toArray⟩])).run Tryz.prog W = .ok (.bool (!FldT.eqb ⟨x0, x1⟩ ⟨y0, y1⟩)) W := by
  rw [run_neq_struct, eq_fld]; rfl
theorem guard_fld : Tryz.prog.eqGuardType Tryz.prog.depth 67 = false := by kernel_rfl

structure HndT where
  frm : Int
  til : Int
  pos : Int
  cls : List UInt8
deriving DecidableEq
def HndT.vals (x : HndT) : List Value := [.int .i64 x.frm, .int .i64 x.til, .int .i64 x.pos, .string ⟨x.cls.toArray⟩]
def HndT.V (x : HndT) : Value := .agg #[.int .i64 x.frm, .int .i64 x.til, .int .i64 x.pos, .string ⟨x.cls.toArray⟩]
def HndT.eqb (x y : HndT) : Bool := x.frm == y.frm && x.til == y.til && x.pos == y.pos && x.cls == y.cls
theorem HndT.iff (x y : HndT) : x.eqb y = true ↔ x = y := by
  obtain ⟨x0, x1, x2, x3⟩ := x
  obtain ⟨y0, y1, y2, y3⟩ := y
  simp [HndT.eqb, and_assoc]
structure IsHnds (w : World) (A : Option Addr) (m c : Nat) (l : List HndT) : Prop where
  len : m = l.length
  le : m ≤ c
  max : c ≤ maxLen
  rds : Rds w A (l.flatMap HndT.vals)
  fit : ∀ x ∈ l, fitI x.frm ∧ fitI x.til ∧ fitI x.pos
theorem IsHnds.below {w w' : World} {A : Option Addr} {m c : Nat} {l : List HndT} (h : IsHnds w A m c l) (hb : Below w.heap.size w w') : IsHnds w' A m c l := ⟨h.len, h.le, h.max, h.rds.below hb, h.fit⟩
theorem hnd_at {w : World} {A : Option Addr} {l : List HndT} {k : Nat} (h : Rds w A (l.flatMap HndT.vals)) (hk : k < l.length) :
    ∃ b o, A = some ⟨b, o, none⟩ ∧ b < w.heap.size ∧ w.cell? ⟨b, o + k * 4, none⟩ = some (.int .i64 l[k].frm) ∧ w.cell? ⟨b, o + k * 4 + 1, none⟩ = some (.int .i64 l[k].til) ∧ w.cell? ⟨b, o + k * 4 + 2, none⟩ = some (.int .i64 l[k].pos) ∧ w.cell? ⟨b, o + k * 4 + 3, none⟩ = some (.string ⟨l[k].cls.toArray⟩) := by
  obtain ⟨b, o, hA, hb, hc⟩ := flat_at (n := 4) (fun _ => rfl) (by omega) h hk
  exact ⟨b, o, hA, hb, hc 0 _ rfl, hc 1 _ rfl, hc 2 _ rfl, hc 3 _ rfl⟩
theorem eq_hnd (x0 : Int) (x1 : Int) (x2 : Int) (x3 : List UInt8) (y0 : Int) (y1 : Int) (y2 : Int) (y3 : List UInt8) (W : World) : (Op.equalIn 10000 79 (.agg #[.int .i64 x0, .int .i64 x1, .int .i64 x2, .string ⟨x3.toArray⟩]) (.agg #[.int .i64 y0, .int .i64 y1, .int .i64 y2, .string ⟨y3.toArray⟩])).run Tryz.prog W = .ok (HndT.eqb ⟨x0, x1, x2, x3⟩ ⟨y0, y1, y2, y3⟩) W := by
  have u3 := Tryz.underlying3
  have a3 := Tryz.isAgg3
  have z3 := Tryz.sizeOf3
  have u9 := Tryz.underlying9
  have a9 := Tryz.isAgg9
  have z9 := Tryz.sizeOf9
  have hS : Tryz.prog.underlying 79 = some (.struct (Tryz.prog.fieldsOf 79)) := by kernel_rfl
  have hp : Tryz.prog.stoodInHeld 79 = false := by kernel_rfl
  rw [show (10000 : Nat) = 9999 + 1 from rfl, run_equalIn_agg W 9999 79 _ _ hS hp]
  simp only [Program.fieldsOf, Tryz.underlying79]
  go_simp
  unfold HndT.eqb
  by_cases h0 : x0 = y0 <;> by_cases h1 : x1 = y1 <;> by_cases h2 : x2 = y2 <;> by_cases h3 : x3 = y3 <;> simp [h0, h1, h2, h3]
theorem neq_hnd (x0 : Int) (x1 : Int) (x2 : Int) (x3 : List UInt8) (y0 : Int) (y1 : Int) (y2 : Int) (y3 : List UInt8) (W : World) : (binOp .neq 79 (.agg #[.int .i64 x0, .int .i64 x1, .int .i64 x2, .string ⟨x3.toArray⟩]) (.agg #[.int .i64 y0, .int .i64 y1, .int .i64 y2, .string ⟨y3.toArray⟩])).run Tryz.prog W = .ok (.bool (!HndT.eqb ⟨x0, x1, x2, x3⟩ ⟨y0, y1, y2, y3⟩)) W := by
  rw [run_neq_struct, eq_hnd]; rfl
theorem guard_hnd : Tryz.prog.eqGuardType Tryz.prog.depth 79 = false := by kernel_rfl

theorem cst_iff (x y : Cst) : sameC x y = true ↔ x = y := same_iff x y
def insEqb (x y : InsT) : Bool := x.1 == y.1 && x.2 == y.2
theorem ins_iff (x y : InsT) : insEqb x y = true ↔ x = y := by
  obtain ⟨a, b⟩ := x
  obtain ⟨c, d⟩ := y
  simp [insEqb]
theorem neq_insE (a b c d : Int) (W : World) : (binOp .neq 95 (.agg #[.int .i64 a, .int .i64 b]) (.agg #[.int .i64 c, .int .i64 d])).run Tryz.prog W = .ok (.bool (!insEqb (a, b) (c, d))) W := neq_ins a b c d W

/-- a method, with where its code and its handlers lie -/
structure MthT where
  name : List UInt8
  sig : List UInt8
  locals : Int
  cA : Option Addr
  cm : Nat
  cc : Nat
  hA : Option Addr
  hm : Nat
  hc : Nat
  code : List InsT
  hand : List HndT
/-- what of a method is held against another's -/
structure MthP where
  name : List UInt8
  sig : List UInt8
  locals : Int
  code : List InsT
  hand : List HndT
deriving DecidableEq
def MthT.pure (x : MthT) : MthP := ⟨x.name, x.sig, x.locals, x.code, x.hand⟩
def MthT.vals (x : MthT) : List Value := [.string ⟨x.name.toArray⟩, .string ⟨x.sig.toArray⟩, .int .i64 x.locals, .slice x.cA x.cm x.cc, .slice x.hA x.hm x.hc]
structure MthT.is (w : World) (x : MthT) : Prop where
  fit : fitI x.locals
  code : IsCode w x.cA x.cm x.cc x.code
  hand : IsHnds w x.hA x.hm x.hc x.hand
theorem MthT.is.below {w w' : World} {x : MthT} (h : x.is w) (hb : Below w.heap.size w w') : x.is w' := ⟨h.fit, h.code.below hb, h.hand.below hb⟩
structure IsMths (w : World) (A : Option Addr) (m c : Nat) (l : List MthT) : Prop where
  len : m = l.length
  le : m ≤ c
  max : c ≤ maxLen
  rds : Rds w A (l.flatMap MthT.vals)
  each : ∀ x ∈ l, x.is w
theorem IsMths.below {w w' : World} {A : Option Addr} {m c : Nat} {l : List MthT} (h : IsMths w A m c l) (hb : Below w.heap.size w w') : IsMths w' A m c l := ⟨h.len, h.le, h.max, h.rds.below hb, fun x hx => (h.each x hx).below hb⟩
theorem mth_at {w : World} {A : Option Addr} {l : List MthT} {k : Nat} (h : Rds w A (l.flatMap MthT.vals)) (hk : k < l.length) :
    ∃ b o, A = some ⟨b, o, none⟩ ∧ b < w.heap.size ∧ w.cell? ⟨b, o + k * 5, none⟩ = some (.string ⟨l[k].name.toArray⟩) ∧ w.cell? ⟨b, o + k * 5 + 1, none⟩ = some (.string ⟨l[k].sig.toArray⟩) ∧ w.cell? ⟨b, o + k * 5 + 2, none⟩ = some (.int .i64 l[k].locals) ∧
      w.cell? ⟨b, o + k * 5 + 3, none⟩ = some (.slice l[k].cA l[k].cm l[k].cc) ∧ w.cell? ⟨b, o + k * 5 + 4, none⟩ = some (.slice l[k].hA l[k].hm l[k].hc) := by
  obtain ⟨b, o, hA, hb, hc⟩ := flat_at (n := 5) (fun _ => rfl) (by omega) h hk
  exact ⟨b, o, hA, hb, hc 0 _ rfl, hc 1 _ rfl, hc 2 _ rfl, hc 3 _ rfl, hc 4 _ rfl⟩

/-- a class, with where its parts lie -/
structure ClsT where
  name : List UInt8
  sup : List UInt8
  kA : Option Addr
  km : Nat
  kc : Nat
  fA : Option Addr
  fm : Nat
  fc : Nat
  mA : Option Addr
  mm : Nat
  mc : Nat
  consts : List Cst
  fields : List FldT
  meths : List MthT
def ClsT.V (x : ClsT) : Value := .agg #[.string ⟨x.name.toArray⟩, .string ⟨x.sup.toArray⟩, .slice x.kA x.km x.kc, .slice x.fA x.fm x.fc, .slice x.mA x.mm x.mc]
structure ClsT.is (w : World) (x : ClsT) : Prop where
  consts : IsCsts w x.kA x.km x.kc x.consts
  fields : IsFlds w x.fA x.fm x.fc x.fields
  meths : IsMths w x.mA x.mm x.mc x.meths
theorem ClsT.is.below {w w' : World} {x : ClsT} (h : x.is w) (hb : Below w.heap.size w w') : x.is w' := ⟨h.consts.below hb, h.fields.below hb, h.meths.below hb⟩
def ClsT.same (x y : ClsT) : Bool := x.name == y.name && x.sup == y.sup && decide (x.consts = y.consts) && decide (x.fields = y.fields) && decide (x.meths.map MthT.pure = y.meths.map MthT.pure)
theorem ClsT.same_refl (x : ClsT) : x.same x = true := by simp [ClsT.same]

end Kls
end Go.Proofs.YthkkcecfenohjaaGreatDoor

namespace Go.Proofs.YthkkcecfenohjaaGreatDoor
namespace Kls
open Go.RowKit Base BinM Stru PoolM PoolA PoolJ InsJ

set_option maxRecDepth 100000 in
set_option maxHeartbeats 1000000 in
theorem equalF_any (A B : Option Addr) (a b : List FldT) (m k c d : Nat) (w : World) (hm : m = a.length) (hk : k = b.length) (hmx : m ≤ maxLen) (hr : Rds w A (a.flatMap FldT.vals)) (hr2 : Rds w B (b.flatMap FldT.vals)) :
    Calls Tryz.prog 64 #[.slice A m c, .slice B k d] w fun e w' => e = .returned (.bool (decide (a = b))) ∧ Below w.heap.size w w' := by
  have hml : a.length ≤ m := Nat.le_of_eq hm.symm
  have hml2 : m ≤ a.length := Nat.le_of_eq hm
  have hkl : b.length ≤ k := Nat.le_of_eq hk.symm
  have hkl2 : k ≤ b.length := Nat.le_of_eq hk
  have Hr := Lib.hid hr
  have Hr2 := Lib.hid hr2
  unfold maxLen at hmx
  clear hm hk hr hr2
  by_cases hmk : m = k
  · have hb : ((m : Int) != (k : Int)) = false := by rw [hmk]; simp
    have hkm : k ≤ m := by omega
    have hmk' : m ≤ k := by omega
    clear hmk
    go_enter Tryz.func64, Tryz.ntmps64
    go_wp2_with fail
    go_loopw [5, 13] (fun _ i wr => ∃ j : Nat, j ≤ m ∧ i = .int .i64 j ∧ a.take j = b.take j ∧ Below w.heap.size w wr) (fun _ i _ => m - (intOf i).toNat)
    case atStart => exact ⟨0, Nat.zero_le _, rfl, rfl, Below.refl _ _⟩
    case round =>
      obtain ⟨j, hj, rfl, hsame, hbel⟩ := hrel
      have Hsame := Lib.hid hsame
      have Hbel := Lib.hid hbel
      clear hsame
      by_cases hlt : j < m
      · have hja : j < a.length := by omega
        have hjb : j < b.length := by omega
        obtain ⟨b1, o1, rfl, hb1, hc0, hc1⟩ := fld_at (Hr.out.below hbel) hja
        obtain ⟨b2, o2, rfl, hb2, hd0, hd1⟩ := fld_at (Hr2.out.below hbel) hjb
        have e1 : a.take (j + 1) = a.take j ++ [a[j]] := List.take_succ_eq_append_getElem hja
        have e2 : b.take (j + 1) = b.take j ++ [b[j]] := List.take_succ_eq_append_getElem hjb
        have hj1 : (j : Int) < (m : Int) := by omega
        have hj2 : (j : Int) < (k : Int) := by omega
        have hj0 : (0 : Int) ≤ (j : Int) := by omega
        have hg := guard_fld
        have hne := neq_fld a[j].name a[j].desc b[j].name b[j].desc
        clear hbel
        cases hx : a[j].eqb b[j]
        · have Hfin := Lib.hid (show decide (a = b) = false by
            rw [decide_eq_false_iff_not]
            intro h
            have : a[j] = b[j] := by subst h; rfl
            rw [show a[j].eqb b[j] = true from (FldT.iff _ _).2 this] at hx
            cases hx)
          replace hne := fun W => (hne W).trans (by rw [show a[j].eqb b[j] = false from hx]; rfl : _ = Result.ok (.bool true) W)
          clear e1 e2 hx
          generalize a[j] = x at *
          generalize b[j] = y at *
          obtain ⟨x0, x1⟩ := x
          obtain ⟨y0, y1⟩ := y
          simp only at hc0 hc1 hd0 hd1 hne
          go_wp2_with fail
          go_quiet (fail)
          go_wp2_with fail
          go_ret
          exact ⟨by rw [Hfin.out]; rfl, drawn Hbel.out _⟩
        · have hxy : a[j] = b[j] := by
            exact (FldT.iff _ _).1 hx
          have Hnext := Lib.hid (show a.take (j + 1) = b.take (j + 1) by rw [e1, e2, Hsame.out, hxy])
          replace hne := fun W => (hne W).trans (by rw [show a[j].eqb b[j] = true from hx]; rfl : _ = Result.ok (.bool false) W)
          clear e1 e2 hx hxy
          generalize a[j] = x at *
          generalize b[j] = y at *
          obtain ⟨x0, x1⟩ := x
          obtain ⟨y0, y1⟩ := y
          simp only at hc0 hc1 hd0 hd1 hne
          go_wp2_with fail
          go_quiet (fail)
          go_wp2_with fail
          go_roundw
          case rel => exact ⟨j + 1, by omega, by go_num, Hnext.out, drawn Hbel.out _⟩
          case measure => simp [intOf]; omega
      · have Hfin := Lib.hid (show decide (a = b) = true by
          have h := Hsame.out
          rw [List.take_of_length_le (by omega), List.take_of_length_le (by omega)] at h
          simp [h])
        go_wp2_with fail
        go_ret
        exact ⟨by rw [Hfin.out]; rfl, hbel⟩
  · have hb : ((m : Int) != (k : Int)) = true := by simp; omega
    have Hfin := Lib.hid (show decide (a = b) = false by
      rw [decide_eq_false_iff_not]
      rintro rfl
      omega)
    clear hmk
    go_enter Tryz.func64, Tryz.ntmps64
    go_wp2_with fail
    go_ret
    exact ⟨by rw [Hfin.out]; rfl, Below.refl _ _⟩

set_option maxRecDepth 100000 in
set_option maxHeartbeats 1000000 in
theorem equalH_any (A B : Option Addr) (a b : List HndT) (m k c d : Nat) (w : World) (hm : m = a.length) (hk : k = b.length) (hmx : m ≤ maxLen) (hr : Rds w A (a.flatMap HndT.vals)) (hr2 : Rds w B (b.flatMap HndT.vals)) :
    Calls Tryz.prog 112 #[.slice A m c, .slice B k d] w fun e w' => e = .returned (.bool (decide (a = b))) ∧ Below w.heap.size w w' := by
  have hml : a.length ≤ m := Nat.le_of_eq hm.symm
  have hml2 : m ≤ a.length := Nat.le_of_eq hm
  have hkl : b.length ≤ k := Nat.le_of_eq hk.symm
  have hkl2 : k ≤ b.length := Nat.le_of_eq hk
  have Hr := Lib.hid hr
  have Hr2 := Lib.hid hr2
  unfold maxLen at hmx
  clear hm hk hr hr2
  by_cases hmk : m = k
  · have hb : ((m : Int) != (k : Int)) = false := by rw [hmk]; simp
    have hkm : k ≤ m := by omega
    have hmk' : m ≤ k := by omega
    clear hmk
    go_enter Tryz.func112, Tryz.ntmps112
    go_wp2_with fail
    go_loopw [5, 13] (fun _ i wr => ∃ j : Nat, j ≤ m ∧ i = .int .i64 j ∧ a.take j = b.take j ∧ Below w.heap.size w wr) (fun _ i _ => m - (intOf i).toNat)
    case atStart => exact ⟨0, Nat.zero_le _, rfl, rfl, Below.refl _ _⟩
    case round =>
      obtain ⟨j, hj, rfl, hsame, hbel⟩ := hrel
      have Hsame := Lib.hid hsame
      have Hbel := Lib.hid hbel
      clear hsame
      by_cases hlt : j < m
      · have hja : j < a.length := by omega
        have hjb : j < b.length := by omega
        obtain ⟨b1, o1, rfl, hb1, hc0, hc1, hc2, hc3⟩ := hnd_at (Hr.out.below hbel) hja
        obtain ⟨b2, o2, rfl, hb2, hd0, hd1, hd2, hd3⟩ := hnd_at (Hr2.out.below hbel) hjb
        have e1 : a.take (j + 1) = a.take j ++ [a[j]] := List.take_succ_eq_append_getElem hja
        have e2 : b.take (j + 1) = b.take j ++ [b[j]] := List.take_succ_eq_append_getElem hjb
        have hj1 : (j : Int) < (m : Int) := by omega
        have hj2 : (j : Int) < (k : Int) := by omega
        have hj0 : (0 : Int) ≤ (j : Int) := by omega
        have hg := guard_hnd
        have hne := neq_hnd a[j].frm a[j].til a[j].pos a[j].cls b[j].frm b[j].til b[j].pos b[j].cls
        clear hbel
        cases hx : a[j].eqb b[j]
        · have Hfin := Lib.hid (show decide (a = b) = false by
            rw [decide_eq_false_iff_not]
            intro h
            have : a[j] = b[j] := by subst h; rfl
            rw [show a[j].eqb b[j] = true from (HndT.iff _ _).2 this] at hx
            cases hx)
          replace hne := fun W => (hne W).trans (by rw [show a[j].eqb b[j] = false from hx]; rfl : _ = Result.ok (.bool true) W)
          clear e1 e2 hx
          generalize a[j] = x at *
          generalize b[j] = y at *
          obtain ⟨x0, x1, x2, x3⟩ := x
          obtain ⟨y0, y1, y2, y3⟩ := y
          simp only at hc0 hc1 hc2 hc3 hd0 hd1 hd2 hd3 hne
          go_wp2_with fail
          go_quiet (fail)
          go_wp2_with fail
          go_ret
          exact ⟨by rw [Hfin.out]; rfl, drawn Hbel.out _⟩
        · have hxy : a[j] = b[j] := by
            exact (HndT.iff _ _).1 hx
          have Hnext := Lib.hid (show a.take (j + 1) = b.take (j + 1) by rw [e1, e2, Hsame.out, hxy])
          replace hne := fun W => (hne W).trans (by rw [show a[j].eqb b[j] = true from hx]; rfl : _ = Result.ok (.bool false) W)
          clear e1 e2 hx hxy
          generalize a[j] = x at *
          generalize b[j] = y at *
          obtain ⟨x0, x1, x2, x3⟩ := x
          obtain ⟨y0, y1, y2, y3⟩ := y
          simp only at hc0 hc1 hc2 hc3 hd0 hd1 hd2 hd3 hne
          go_wp2_with fail
          go_quiet (fail)
          go_wp2_with fail
          go_roundw
          case rel => exact ⟨j + 1, by omega, by go_num, Hnext.out, drawn Hbel.out _⟩
          case measure => simp [intOf]; omega
      · have Hfin := Lib.hid (show decide (a = b) = true by
          have h := Hsame.out
          rw [List.take_of_length_le (by omega), List.take_of_length_le (by omega)] at h
          simp [h])
        go_wp2_with fail
        go_ret
        exact ⟨by rw [Hfin.out]; rfl, hbel⟩
  · have hb : ((m : Int) != (k : Int)) = true := by simp; omega
    have Hfin := Lib.hid (show decide (a = b) = false by
      rw [decide_eq_false_iff_not]
      rintro rfl
      omega)
    clear hmk
    go_enter Tryz.func112, Tryz.ntmps112
    go_wp2_with fail
    go_ret
    exact ⟨by rw [Hfin.out]; rfl, Below.refl _ _⟩

set_option maxRecDepth 100000 in
set_option maxHeartbeats 1000000 in
theorem equalC_any (A B : Option Addr) (a b : List Cst) (m k c d : Nat) (w : World) (hm : m = a.length) (hk : k = b.length) (hmx : m ≤ maxLen) (hr : Rds w A (a.flatMap Cst.vals)) (hr2 : Rds w B (b.flatMap Cst.vals)) :
    Calls Tryz.prog 63 #[.slice A m c, .slice B k d] w fun e w' => e = .returned (.bool (decide (a = b))) ∧ Below w.heap.size w w' := by
  have hml : a.length ≤ m := Nat.le_of_eq hm.symm
  have hml2 : m ≤ a.length := Nat.le_of_eq hm
  have hkl : b.length ≤ k := Nat.le_of_eq hk.symm
  have hkl2 : k ≤ b.length := Nat.le_of_eq hk
  have Hr := Lib.hid hr
  have Hr2 := Lib.hid hr2
  unfold maxLen at hmx
  clear hm hk hr hr2
  by_cases hmk : m = k
  · have hb : ((m : Int) != (k : Int)) = false := by rw [hmk]; simp
    have hkm : k ≤ m := by omega
    have hmk' : m ≤ k := by omega
    clear hmk
    go_enter Tryz.func63, Tryz.ntmps63
    go_wp2_with fail
    go_loopw [5, 13] (fun _ i wr => ∃ j : Nat, j ≤ m ∧ i = .int .i64 j ∧ a.take j = b.take j ∧ Below w.heap.size w wr) (fun _ i _ => m - (intOf i).toNat)
    case atStart => exact ⟨0, Nat.zero_le _, rfl, rfl, Below.refl _ _⟩
    case round =>
      obtain ⟨j, hj, rfl, hsame, hbel⟩ := hrel
      have Hsame := Lib.hid hsame
      have Hbel := Lib.hid hbel
      clear hsame
      by_cases hlt : j < m
      · have hja : j < a.length := by omega
        have hjb : j < b.length := by omega
        obtain ⟨b1, o1, rfl, hb1, hc0, hc1, hc2, hc3, hc4⟩ := csts_at (Hr.out.below hbel) hja
        obtain ⟨b2, o2, rfl, hb2, hd0, hd1, hd2, hd3, hd4⟩ := csts_at (Hr2.out.below hbel) hjb
        have e1 : a.take (j + 1) = a.take j ++ [a[j]] := List.take_succ_eq_append_getElem hja
        have e2 : b.take (j + 1) = b.take j ++ [b[j]] := List.take_succ_eq_append_getElem hjb
        have hj1 : (j : Int) < (m : Int) := by omega
        have hj2 : (j : Int) < (k : Int) := by omega
        have hj0 : (0 : Int) ≤ (j : Int) := by omega
        have hg := guard_cst
        have hne := neq_cst a[j].kind a[j].n b[j].kind b[j].n a[j].s a[j].t a[j].u b[j].s b[j].t b[j].u
        clear hbel
        cases hx : sameC a[j] b[j]
        · have Hfin := Lib.hid (show decide (a = b) = false by
            rw [decide_eq_false_iff_not]
            intro h
            have : a[j] = b[j] := by subst h; rfl
            rw [show sameC a[j] b[j] = true from (cst_iff _ _).2 this] at hx
            cases hx)
          replace hne := fun W => (hne W).trans (by rw [show sameC a[j] b[j] = false from hx]; rfl : _ = Result.ok (.bool true) W)
          clear e1 e2 hx
          generalize a[j] = x at *
          generalize b[j] = y at *
          obtain ⟨x0, x1, x2, x3, x4⟩ := x
          obtain ⟨y0, y1, y2, y3, y4⟩ := y
          simp only at hc0 hc1 hc2 hc3 hc4 hd0 hd1 hd2 hd3 hd4 hne
          go_wp2_with fail
          go_quiet (fail)
          go_wp2_with fail
          go_ret
          exact ⟨by rw [Hfin.out]; rfl, drawn Hbel.out _⟩
        · have hxy : a[j] = b[j] := by
            exact (cst_iff _ _).1 hx
          have Hnext := Lib.hid (show a.take (j + 1) = b.take (j + 1) by rw [e1, e2, Hsame.out, hxy])
          replace hne := fun W => (hne W).trans (by rw [show sameC a[j] b[j] = true from hx]; rfl : _ = Result.ok (.bool false) W)
          clear e1 e2 hx hxy
          generalize a[j] = x at *
          generalize b[j] = y at *
          obtain ⟨x0, x1, x2, x3, x4⟩ := x
          obtain ⟨y0, y1, y2, y3, y4⟩ := y
          simp only at hc0 hc1 hc2 hc3 hc4 hd0 hd1 hd2 hd3 hd4 hne
          go_wp2_with fail
          go_quiet (fail)
          go_wp2_with fail
          go_roundw
          case rel => exact ⟨j + 1, by omega, by go_num, Hnext.out, drawn Hbel.out _⟩
          case measure => simp [intOf]; omega
      · have Hfin := Lib.hid (show decide (a = b) = true by
          have h := Hsame.out
          rw [List.take_of_length_le (by omega), List.take_of_length_le (by omega)] at h
          simp [h])
        go_wp2_with fail
        go_ret
        exact ⟨by rw [Hfin.out]; rfl, hbel⟩
  · have hb : ((m : Int) != (k : Int)) = true := by simp; omega
    have Hfin := Lib.hid (show decide (a = b) = false by
      rw [decide_eq_false_iff_not]
      rintro rfl
      omega)
    clear hmk
    go_enter Tryz.func63, Tryz.ntmps63
    go_wp2_with fail
    go_ret
    exact ⟨by rw [Hfin.out]; rfl, Below.refl _ _⟩

set_option maxRecDepth 100000 in
set_option maxHeartbeats 1000000 in
theorem equalI_any (A B : Option Addr) (a b : List InsT) (m k c d : Nat) (w : World) (hm : m = a.length) (hk : k = b.length) (hmx : m ≤ maxLen) (hr : Rds w A (a.flatMap insV)) (hr2 : Rds w B (b.flatMap insV)) :
    Calls Tryz.prog 111 #[.slice A m c, .slice B k d] w fun e w' => e = .returned (.bool (decide (a = b))) ∧ Below w.heap.size w w' := by
  have hml : a.length ≤ m := Nat.le_of_eq hm.symm
  have hml2 : m ≤ a.length := Nat.le_of_eq hm
  have hkl : b.length ≤ k := Nat.le_of_eq hk.symm
  have hkl2 : k ≤ b.length := Nat.le_of_eq hk
  have Hr := Lib.hid hr
  have Hr2 := Lib.hid hr2
  unfold maxLen at hmx
  clear hm hk hr hr2
  by_cases hmk : m = k
  · have hb : ((m : Int) != (k : Int)) = false := by rw [hmk]; simp
    have hkm : k ≤ m := by omega
    have hmk' : m ≤ k := by omega
    clear hmk
    go_enter Tryz.func111, Tryz.ntmps111
    go_wp2_with fail
    go_loopw [5, 13] (fun _ i wr => ∃ j : Nat, j ≤ m ∧ i = .int .i64 j ∧ a.take j = b.take j ∧ Below w.heap.size w wr) (fun _ i _ => m - (intOf i).toNat)
    case atStart => exact ⟨0, Nat.zero_le _, rfl, rfl, Below.refl _ _⟩
    case round =>
      obtain ⟨j, hj, rfl, hsame, hbel⟩ := hrel
      have Hsame := Lib.hid hsame
      have Hbel := Lib.hid hbel
      clear hsame
      by_cases hlt : j < m
      · have hja : j < a.length := by omega
        have hjb : j < b.length := by omega
        obtain ⟨b1, o1, rfl, hb1, hc0, hc1⟩ := code_at (Hr.out.below hbel) hja
        obtain ⟨b2, o2, rfl, hb2, hd0, hd1⟩ := code_at (Hr2.out.below hbel) hjb
        have e1 : a.take (j + 1) = a.take j ++ [a[j]] := List.take_succ_eq_append_getElem hja
        have e2 : b.take (j + 1) = b.take j ++ [b[j]] := List.take_succ_eq_append_getElem hjb
        have hj1 : (j : Int) < (m : Int) := by omega
        have hj2 : (j : Int) < (k : Int) := by omega
        have hj0 : (0 : Int) ≤ (j : Int) := by omega
        have hg := guard_ins
        have hne := neq_insE a[j].1 a[j].2 b[j].1 b[j].2
        clear hbel
        cases hx : insEqb (a[j].1, a[j].2) (b[j].1, b[j].2)
        · have Hfin := Lib.hid (show decide (a = b) = false by
            rw [decide_eq_false_iff_not]
            intro h
            have : a[j] = b[j] := by subst h; rfl
            rw [show insEqb (a[j].1, a[j].2) (b[j].1, b[j].2) = true from (ins_iff _ _).2 this] at hx
            cases hx)
          replace hne := fun W => (hne W).trans (by rw [show insEqb (a[j].1, a[j].2) (b[j].1, b[j].2) = false from hx]; rfl : _ = Result.ok (.bool true) W)
          clear e1 e2 hx
          generalize a[j] = x at *
          generalize b[j] = y at *
          obtain ⟨x0, x1⟩ := x
          obtain ⟨y0, y1⟩ := y
          simp only at hc0 hc1 hd0 hd1 hne
          go_wp2_with fail
          go_quiet (fail)
          go_wp2_with fail
          go_ret
          exact ⟨by rw [Hfin.out]; rfl, drawn Hbel.out _⟩
        · have hxy : a[j] = b[j] := by
            exact (ins_iff _ _).1 hx
          have Hnext := Lib.hid (show a.take (j + 1) = b.take (j + 1) by rw [e1, e2, Hsame.out, hxy])
          replace hne := fun W => (hne W).trans (by rw [show insEqb (a[j].1, a[j].2) (b[j].1, b[j].2) = true from hx]; rfl : _ = Result.ok (.bool false) W)
          clear e1 e2 hx hxy
          generalize a[j] = x at *
          generalize b[j] = y at *
          obtain ⟨x0, x1⟩ := x
          obtain ⟨y0, y1⟩ := y
          simp only at hc0 hc1 hd0 hd1 hne
          go_wp2_with fail
          go_quiet (fail)
          go_wp2_with fail
          go_roundw
          case rel => exact ⟨j + 1, by omega, by go_num, Hnext.out, drawn Hbel.out _⟩
          case measure => simp [intOf]; omega
      · have Hfin := Lib.hid (show decide (a = b) = true by
          have h := Hsame.out
          rw [List.take_of_length_le (by omega), List.take_of_length_le (by omega)] at h
          simp [h])
        go_wp2_with fail
        go_ret
        exact ⟨by rw [Hfin.out]; rfl, hbel⟩
  · have hb : ((m : Int) != (k : Int)) = true := by simp; omega
    have Hfin := Lib.hid (show decide (a = b) = false by
      rw [decide_eq_false_iff_not]
      rintro rfl
      omega)
    clear hmk
    go_enter Tryz.func111, Tryz.ntmps111
    go_wp2_with fail
    go_ret
    exact ⟨by rw [Hfin.out]; rfl, Below.refl _ _⟩

end Kls
end Go.Proofs.YthkkcecfenohjaaGreatDoor

namespace Go.Proofs.YthkkcecfenohjaaGreatDoor
namespace Kls
open Go.RowKit Base BinM Stru PoolM PoolA PoolJ InsJ

/-- a box of five cells -/
def Box5 (w : World) (g : Nat) (a b c d e : Value) : Prop :=
  w.cell? ⟨g, 0, none⟩ = some a ∧ w.cell? ⟨g, 1, none⟩ = some b ∧ w.cell? ⟨g, 2, none⟩ = some c ∧ w.cell? ⟨g, 3, none⟩ = some d ∧ w.cell? ⟨g, 4, none⟩ = some e
theorem Box5.new (w : World) (a b c d e : Value) (ty : TypeId) : Box5 (w.alloc (.cells #[a, b, c, d, e] ty)) w.heap.size a b c d e := by
  refine ⟨?_, ?_, ?_, ?_, ?_⟩
  all_goals (rw [cell_of_row _ _ _ _ ty (0, 0) (heap_alloc_new w _)]; rfl)
theorem Box5.below {w w' : World} {B g : Nat} {a b c d e : Value} (h : Box5 w g a b c d e) (hb : Below B w w') (hg : g < B) : Box5 w' g a b c d e :=
  ⟨(hb.cell (p := ⟨g, 0, none⟩) hg).trans h.1, (hb.cell (p := ⟨g, 1, none⟩) hg).trans h.2.1, (hb.cell (p := ⟨g, 2, none⟩) hg).trans h.2.2.1, (hb.cell (p := ⟨g, 3, none⟩) hg).trans h.2.2.2.1, (hb.cell (p := ⟨g, 4, none⟩) hg).trans h.2.2.2.2⟩
theorem Box5.after {w w' : World} {g : Nat} {a b c d e : Value} (h : Box5 w g a b c d e) (hb : Below w.heap.size w w') : Box5 w' g a b c d e :=
  h.below hb (World.block_lt_of_cell? w ⟨g, 0, none⟩ h.1)

def MthT.V (x : MthT) : Value := .agg #[.string ⟨x.name.toArray⟩, .string ⟨x.sig.toArray⟩, .int .i64 x.locals, .slice x.cA x.cm x.cc, .slice x.hA x.hm x.hc]

/-- two boxes, one behind the other -/
theorem two (w : World) (a b c d e a' b' c' d' e' : Value) (ty : TypeId) : Below w.heap.size w ((w.alloc (.cells #[a, b, c, d, e] ty)).alloc (.cells #[a', b', c', d', e'] ty)) :=
  ((Below.refl _ _).alloc (Nat.le_refl _) _).alloc (by simp) _
theorem two1 (w : World) (a b c d e a' b' c' d' e' : Value) (ty : TypeId) : Box5 ((w.alloc (.cells #[a, b, c, d, e] ty)).alloc (.cells #[a', b', c', d', e'] ty)) w.heap.size a b c d e :=
  (Box5.new w a b c d e ty).after ((Below.refl _ _).alloc (Nat.le_refl _) _)
theorem two2 (w : World) (a b c d e a' b' c' d' e' : Value) (ty : TypeId) : Box5 ((w.alloc (.cells #[a, b, c, d, e] ty)).alloc (.cells #[a', b', c', d', e'] ty)) (w.heap.size + 1) a' b' c' d' e' := by
  have h := Box5.new (w.alloc (.cells #[a, b, c, d, e] ty)) a' b' c' d' e' ty
  rw [show (w.alloc (.cells #[a, b, c, d, e] ty)).heap.size = w.heap.size + 1 by simp] at h
  exact h

set_option maxRecDepth 100000 in
set_option maxHeartbeats 4000000 in
theorem sameM_any (x y : MthT) (w : World) (hx : x.is w) (hy : y.is w) :
    Calls Tryz.prog 66 #[x.V, y.V] w fun e w' => e = .returned (.bool (decide (x.pure = y.pure))) ∧ Below w.heap.size w w' := by
  obtain ⟨n, s, lo, cA, cm, cc, hA, hm, hc, cd, hd⟩ := x
  obtain ⟨n', s', lo', cA', cm', cc', hA', hm', hc', cd', hd'⟩ := y
  have Hx := Lib.hid hx
  have Hy := Lib.hid hy
  clear hx hy
  generalize hD : decide (MthT.pure _ = MthT.pure _) = D
  simp only [MthT.V]
  have HB := Lib.hid (two w (.string ⟨n.toArray⟩) (.string ⟨s.toArray⟩) (.int .i64 lo) (.slice cA cm cc) (.slice hA hm hc) (.string ⟨n'.toArray⟩) (.string ⟨s'.toArray⟩) (.int .i64 lo') (.slice cA' cm' cc') (.slice hA' hm' hc') 62)
  have H1 := Lib.hid (two1 w (.string ⟨n.toArray⟩) (.string ⟨s.toArray⟩) (.int .i64 lo) (.slice cA cm cc) (.slice hA hm hc) (.string ⟨n'.toArray⟩) (.string ⟨s'.toArray⟩) (.int .i64 lo') (.slice cA' cm' cc') (.slice hA' hm' hc') 62)
  have H2 := Lib.hid (two2 w (.string ⟨n.toArray⟩) (.string ⟨s.toArray⟩) (.int .i64 lo) (.slice cA cm cc) (.slice hA hm hc) (.string ⟨n'.toArray⟩) (.string ⟨s'.toArray⟩) (.int .i64 lo') (.slice cA' cm' cc') (.slice hA' hm' hc') 62)
  by_cases h1 : n = n'
  · subst h1
    by_cases h2 : s = s'
    · subst h2
      by_cases h3 : lo = lo'
      · subst h3
        by_cases h4 : cd = cd'
        · have Hf := Lib.hid (show D = decide (hd = hd') by rw [← hD]; simp [MthT.pure, h4])
          have hq : decide (cd = cd') = true := decide_eq_true h4
          clear h4 hD
          go_enter Tryz.func66, Tryz.ntmps66
          go_wp2_with fail
          refine Calls.mono (equalI_any cA cA' cd cd' cm cm' cc cc' _ Hx.out.code.len Hy.out.code.len (Nat.le_trans Hx.out.code.le Hx.out.code.max) (Hx.out.code.below HB.out).rds (Hy.out.code.below HB.out).rds) ?_
          rw [hq]
          rintro e w3 ⟨rfl, hb3⟩
          obtain ⟨hc0, hc1, hc2, hc3, hc4⟩ := H1.out.after hb3
          obtain ⟨hd0, hd1, hd2, hd3, hd4⟩ := H2.out.after hb3
          have Hb3 := Lib.hid (HB.out.trans (hb3.mono HB.out.size))
          clear hb3
          go_wp2_with fail
          refine Calls.mono (equalH_any hA hA' hd hd' hm hm' hc hc' _ Hx.out.hand.len Hy.out.hand.len (Nat.le_trans Hx.out.hand.le Hx.out.hand.max) (Hx.out.hand.below Hb3.out).rds (Hy.out.hand.below Hb3.out).rds) ?_
          rw [← Hf.out]
          rintro e w4 ⟨rfl, hb4⟩
          have Hb4 := Lib.hid (Hb3.out.trans (hb4.mono Hb3.out.size))
          clear hb4
          go_wp2_with fail
          go_ret
          exact ⟨rfl, Hb4.out⟩
        · have Hf := Lib.hid (show D = false by rw [← hD]; simp [MthT.pure, h4])
          have hq : decide (cd = cd') = false := decide_eq_false h4
          clear h4 hD
          go_enter Tryz.func66, Tryz.ntmps66
          go_wp2_with fail
          refine Calls.mono (equalI_any cA cA' cd cd' cm cm' cc cc' _ Hx.out.code.len Hy.out.code.len (Nat.le_trans Hx.out.code.le Hx.out.code.max) (Hx.out.code.below HB.out).rds (Hy.out.code.below HB.out).rds) ?_
          rw [hq]
          rintro e w3 ⟨rfl, hb3⟩
          have Hb3 := Lib.hid (HB.out.trans (hb3.mono HB.out.size))
          clear hb3
          go_wp2_with fail
          go_ret
          exact ⟨by rw [Hf.out]; rfl, Hb3.out⟩
      · have Hf := Lib.hid (show D = false by rw [← hD]; simp [MthT.pure, h3])
        clear hD
        go_enter Tryz.func66, Tryz.ntmps66
        go_wp2_with fail
        go_ret
        exact ⟨by rw [Hf.out]; rfl, HB.out⟩
    · have Hf := Lib.hid (show D = false by rw [← hD]; simp [MthT.pure, h2])
      clear hD
      go_enter Tryz.func66, Tryz.ntmps66
      go_wp2_with fail
      go_ret
      exact ⟨by rw [Hf.out]; rfl, HB.out⟩
  · have Hf := Lib.hid (show D = false by rw [← hD]; simp [MthT.pure, h1])
    clear hD
    go_enter Tryz.func66, Tryz.ntmps66
    go_wp2_with fail
    go_ret
    exact ⟨by rw [Hf.out]; rfl, HB.out⟩

end Kls
end Go.Proofs.YthkkcecfenohjaaGreatDoor

namespace Go.Proofs.YthkkcecfenohjaaGreatDoor
namespace Kls
open Go.RowKit Base BinM Stru PoolM PoolA PoolJ InsJ

/-- what is known of a class that is not too long -/
def ClsT.short (x : ClsT) : Prop := x.consts.length ≤ 300 ∧ x.fields.length ≤ 40 ∧ x.meths.length ≤ 40 ∧ ∀ y ∈ x.meths, y.code.length ≤ 600 ∧ y.hand.length ≤ 20
def GivesS (x : ClsT) (w : World) (e : Ending) (w' : World) : Prop := ∃ r : Bool, e = .returned (.bool r) ∧ (r = true → x.short) ∧ Below w.heap.size w w'
theorem givesS {x : ClsT} {w w' : World} {r : Bool} (h : r = true → x.short) (hb : Below w.heap.size w w') : GivesS x w (.returned (.bool r)) w' := ⟨r, rfl, h, hb⟩

set_option maxRecDepth 100000 in
set_option maxHeartbeats 4000000 in
theorem small_any (x : ClsT) (w : World) (hx : x.is w) : Calls Tryz.prog 11 #[x.V] w (GivesS x w) := by
  obtain ⟨n, s, kA, km, kc, fA, fm, fc, mA, mm, mc, ks, fs, ms⟩ := x
  have hk1 : ks.length = km := hx.consts.len.symm
  have hf1 : fs.length = fm := hx.fields.len.symm
  have hm1 : ms.length ≤ mm := Nat.le_of_eq hx.meths.len.symm
  have hm2 : mm ≤ ms.length := Nat.le_of_eq hx.meths.len
  have Hm := Lib.hid (show IsMths w mA mm mc ms from hx.meths)
  clear hx
  simp only [ClsT.V]
  have HB := Lib.hid ((Below.refl w.heap.size w).alloc (Nat.le_refl _) (.cells #[.string ⟨n.toArray⟩, .string ⟨s.toArray⟩, .slice kA km kc, .slice fA fm fc, .slice mA mm mc] 26))
  have H1 := Lib.hid (Box5.new w (.string ⟨n.toArray⟩) (.string ⟨s.toArray⟩) (.slice kA km kc) (.slice fA fm fc) (.slice mA mm mc) 26)
  by_cases h1 : (300 : Int) < (km : Int)
  · go_enter Tryz.func11, Tryz.ntmps11
    go_wp2_with fail
    go_ret
    exact givesS (by intro h; cases h) HB.out
  · have d1 : decide ((300 : Int) < (km : Int)) = false := by simpa using h1
    by_cases h2 : (40 : Int) < (fm : Int)
    · go_enter Tryz.func11, Tryz.ntmps11
      go_wp2_with fail
      go_ret
      exact givesS (by intro h; cases h) HB.out
    · have d2 : decide ((40 : Int) < (fm : Int)) = false := by simpa using h2
      by_cases h3 : (40 : Int) < (mm : Int)
      · go_enter Tryz.func11, Tryz.ntmps11
        go_wp2_with fail
        go_ret
        exact givesS (by intro h; cases h) HB.out
      · have d3 : decide ((40 : Int) < (mm : Int)) = false := by simpa using h3
        go_enter Tryz.func11, Tryz.ntmps11
        go_wp2_with fail
        go_loopw [3, 4] (fun t i wr => ∃ j S : Nat, j ≤ mm ∧ i = .int .i64 j ∧ t = .int .i64 S ∧ S ≤ 600 * j ∧ (∀ y ∈ ms.take j, y.code.length ≤ 600 ∧ y.hand.length ≤ 20) ∧ wr = (w.alloc (.cells #[.string ⟨n.toArray⟩, .string ⟨s.toArray⟩, .slice kA km kc, .slice fA fm fc, .slice mA mm mc] 26))) (fun _ i _ => mm - (intOf i).toNat)
        case atStart => exact ⟨0, 0, Nat.zero_le _, rfl, rfl, by omega, by simp, rfl⟩
        case round =>
          obtain ⟨j, S, hj, rfl, rfl, hS, hall, rfl⟩ := hrel
          have Hall := Lib.hid hall
          obtain ⟨hc0, hc1, hc2, hc3, hc4⟩ := H1.out
          clear hall
          by_cases hlt : j < mm
          · have hja : j < ms.length := by omega
            obtain ⟨b1, o1, rfl, hb1, hx0, hx1, hx2, hx3, hx4⟩ := mth_at (Hm.out.rds.below HB.out) hja
            have hj1 : (j : Int) < (mm : Int) := by omega
            have hj0 : (0 : Int) ≤ (j : Int) := by omega
            have e1 : ms.take (j + 1) = ms.take j ++ [ms[j]] := List.take_succ_eq_append_getElem hja
            have hcl : ms[j].code.length = ms[j].cm := ((Hm.out.each _ (List.getElem_mem hja)).code.len).symm
            have hhl : ms[j].hand.length = ms[j].hm := ((Hm.out.each _ (List.getElem_mem hja)).hand.len).symm
            have Hnext := Lib.hid (show ms[j].cm ≤ 600 → ms[j].hm ≤ 20 → ∀ y ∈ ms.take (j + 1), y.code.length ≤ 600 ∧ y.hand.length ≤ 20 by
              intro ha hb y hy
              rw [e1, List.mem_append] at hy
              rcases hy with hy | hy
              · exact Hall.out y hy
              · simp at hy; subst hy; omega)
            clear e1 hcl hhl
            generalize ms[j].cm = p at *
            generalize ms[j].hm = q at *
            by_cases h4 : (600 : Int) < (p : Int)
            · go_wp2_with fail
              go_ret
              exact givesS (by intro h; cases h) HB.out
            · have d4 : decide ((600 : Int) < (p : Int)) = false := by simpa using h4
              by_cases h5 : (20 : Int) < (q : Int)
              · go_wp2_with fail
                go_ret
                exact givesS (by intro h; cases h) HB.out
              · have d5 : decide ((20 : Int) < (q : Int)) = false := by simpa using h5
                have Hn := Lib.hid (Hnext.out (by omega) (by omega))
                have hsum : IntKind.i64.wrap ((S : Int) + (p : Int)) = ((S + p : Nat) : Int) := (IntWalk.i64_in _ (by omega)).trans (by omega)
                go_wp2_with fail
                go_roundw
                case rel => exact ⟨j + 1, S + p, by omega, by go_num, by go_num, by omega, Hn.out, by trivial⟩
                case measure => simp [intOf]; omega
          · have Hfin := Lib.hid (show ∀ y ∈ ms, y.code.length ≤ 600 ∧ y.hand.length ≤ 20 by
              have h := Hall.out
              rw [List.take_of_length_le (by omega)] at h
              exact h)
            go_wp2_with fail
            go_ret
            exact givesS (fun _ => ⟨by show ks.length ≤ 300; omega, by show fs.length ≤ 40; omega, by show ms.length ≤ 40; omega, Hfin.out⟩) HB.out

end Kls
end Go.Proofs.YthkkcecfenohjaaGreatDoor

namespace Go.Proofs.YthkkcecfenohjaaGreatDoor
namespace Kls
open Go.RowKit Base BinM Stru PoolM PoolA PoolJ InsJ

set_option maxRecDepth 100000 in
set_option maxHeartbeats 4000000 in
theorem equalM_any (A B : Option Addr) (a b : List MthT) (m k c d : Nat) (w : World) (ha : IsMths w A m c a) (hb : IsMths w B k d b) :
    Calls Tryz.prog 65 #[.slice A m c, .slice B k d, .func (.func 66) #[] #[]] w fun e w' => e = .returned (.bool (decide (a.map MthT.pure = b.map MthT.pure))) ∧ Below w.heap.size w w' := by
  have eg : ∀ args w, (callFunc 66 args).run Tryz.prog w = .ok (.enter 66 args) w := enters_of Tryz.func66 (by kernel_rfl) rfl
  have hml : a.length ≤ m := Nat.le_of_eq ha.len.symm
  have hml2 : m ≤ a.length := Nat.le_of_eq ha.len
  have hkl : b.length ≤ k := Nat.le_of_eq hb.len.symm
  have hkl2 : k ≤ b.length := Nat.le_of_eq hb.len
  have hmx : m ≤ maxLen := Nat.le_trans ha.le ha.max
  have Ha := Lib.hid ha
  have Hb := Lib.hid hb
  unfold maxLen at hmx
  clear ha hb
  generalize hD : decide (List.map MthT.pure _ = List.map MthT.pure _) = D
  by_cases hmk : m = k
  · have hb : ((m : Int) != (k : Int)) = false := by rw [hmk]; simp
    have hkm : k ≤ m := by omega
    have hmk' : m ≤ k := by omega
    clear hmk
    go_enter Tryz.func65, Tryz.ntmps65
    go_wp2_with fail
    go_loopw [7, 8, 9, 17] (fun _ _ _ i wr => ∃ j : Nat, j ≤ m ∧ i = .int .i64 j ∧ (a.map MthT.pure).take j = (b.map MthT.pure).take j ∧ Below w.heap.size w wr) (fun _ _ _ i _ => m - (intOf i).toNat)
    case atStart => exact ⟨0, Nat.zero_le _, rfl, rfl, Below.refl _ _⟩
    case round =>
      obtain ⟨j, hj, rfl, hsame, hbel⟩ := hrel
      have Hsame := Lib.hid hsame
      have Hbel := Lib.hid hbel
      clear hsame
      by_cases hlt : j < m
      · have hja : j < a.length := by omega
        have hjb : j < b.length := by omega
        obtain ⟨b1, o1, rfl, hb1, hc0, hc1, hc2, hc3, hc4⟩ := mth_at (Ha.out.rds.below hbel) hja
        obtain ⟨b2, o2, rfl, hb2, hd0, hd1, hd2, hd3, hd4⟩ := mth_at (Hb.out.rds.below hbel) hjb
        have hj1 : (j : Int) < (m : Int) := by omega
        have hj2 : (j : Int) < (k : Int) := by omega
        have hj0 : (0 : Int) ≤ (j : Int) := by omega
        have hx := Lib.hid ((Ha.out.each _ (List.getElem_mem hja)).below hbel)
        have hy := Lib.hid ((Hb.out.each _ (List.getElem_mem hjb)).below hbel)
        clear hbel
        have e1 : (a.map MthT.pure).take (j + 1) = (a.map MthT.pure).take j ++ [a[j].pure] := by rw [List.take_succ_eq_append_getElem (by simpa using hja)]; simp
        have e2 : (b.map MthT.pure).take (j + 1) = (b.map MthT.pure).take j ++ [b[j].pure] := by rw [List.take_succ_eq_append_getElem (by simpa using hjb)]; simp
        have hno : a[j].pure ≠ b[j].pure → D = false := by
          intro h
          rw [← hD, decide_eq_false_iff_not]
          intro h2
          apply h
          have h3 : (a.map MthT.pure)[j]? = (b.map MthT.pure)[j]? := by rw [h2]
          simpa [hja, hjb] using h3
        have Hno := Lib.hid hno
        have He1 := Lib.hid e1
        have He2 := Lib.hid e2
        clear e1 e2 hno
        go_wp2_with fail
        refine Calls.mono (sameM_any a[j] b[j] _ (hx.out.below (two wr _ _ _ _ _ _ _ _ _ _ _)) (hy.out.below (two wr _ _ _ _ _ _ _ _ _ _ _))) ?_
        rintro e w3 ⟨rfl, hb3⟩
        have Hb3 := Lib.hid (Hbel.out.trans (((two wr _ _ _ _ _ _ _ _ _ _ _).trans (hb3.mono (by simp; omega))).mono Hbel.out.size))
        clear hb3
        by_cases hq : a[j].pure = b[j].pure
        · have Hq := Lib.hid (show (a.map MthT.pure).take (j + 1) = (b.map MthT.pure).take (j + 1) by rw [He1.out, He2.out, Hsame.out, hq])
          rw [decide_eq_true hq]
          clear hq
          go_wp2_with fail
          go_roundw
          case rel => exact ⟨j + 1, by omega, by go_num, Hq.out, Hb3.out⟩
          case measure => simp [intOf]; omega
        · have Hq := Lib.hid (Hno.out hq)
          rw [decide_eq_false hq]
          clear hq
          go_wp2_with fail
          go_ret
          exact ⟨by rw [Hq.out]; rfl, Hb3.out⟩
      · have Hfin := Lib.hid (show D = true by
          have h := Hsame.out
          rw [List.take_of_length_le (by simp; omega), List.take_of_length_le (by simp; omega)] at h
          rw [← hD]; simp [h])
        go_wp2_with fail
        go_ret
        exact ⟨by rw [Hfin.out]; rfl, hbel⟩
  · have hb : ((m : Int) != (k : Int)) = true := by simp; omega
    have Hfin := Lib.hid (show D = false by
      rw [← hD, decide_eq_false_iff_not]
      intro h
      have := congrArg List.length h
      simp at this
      omega)
    clear hmk
    go_enter Tryz.func65, Tryz.ntmps65
    go_wp2_with fail
    go_ret
    exact ⟨by rw [Hfin.out]; rfl, Below.refl _ _⟩

set_option maxRecDepth 100000 in
set_option maxHeartbeats 4000000 in
theorem same_any (x y : ClsT) (w : World) (hx : x.is w) (hy : y.is w) :
    Calls Tryz.prog 23 #[x.V, y.V] w fun e w' => e = .returned (.bool (x.same y)) ∧ Below w.heap.size w w' := by
  obtain ⟨n, s, kA, km, kc, fA, fm, fc, mA, mm, mc, ks, fs, ms⟩ := x
  obtain ⟨n', s', kA', km', kc', fA', fm', fc', mA', mm', mc', ks', fs', ms'⟩ := y
  have Hx := Lib.hid hx
  have Hy := Lib.hid hy
  clear hx hy
  generalize hD : ClsT.same _ _ = D
  simp only [ClsT.V]
  have HB := Lib.hid (two w (.string ⟨n.toArray⟩) (.string ⟨s.toArray⟩) (.slice kA km kc) (.slice fA fm fc) (.slice mA mm mc) (.string ⟨n'.toArray⟩) (.string ⟨s'.toArray⟩) (.slice kA' km' kc') (.slice fA' fm' fc') (.slice mA' mm' mc') 26)
  have H1q := Lib.hid (two1 w (.string ⟨n.toArray⟩) (.string ⟨s.toArray⟩) (.slice kA km kc) (.slice fA fm fc) (.slice mA mm mc) (.string ⟨n'.toArray⟩) (.string ⟨s'.toArray⟩) (.slice kA' km' kc') (.slice fA' fm' fc') (.slice mA' mm' mc') 26)
  have H2q := Lib.hid (two2 w (.string ⟨n.toArray⟩) (.string ⟨s.toArray⟩) (.slice kA km kc) (.slice fA fm fc) (.slice mA mm mc) (.string ⟨n'.toArray⟩) (.string ⟨s'.toArray⟩) (.slice kA' km' kc') (.slice fA' fm' fc') (.slice mA' mm' mc') 26)
  by_cases h1 : n = n'
  · subst h1
    by_cases h2 : s = s'
    · subst h2
      by_cases h3 : ks = ks'
      · have hq3 := decide_eq_true h3
        by_cases h4 : fs = fs'
        · have hq4 := decide_eq_true h4
          have Hf := Lib.hid (show D = decide (ms.map MthT.pure = ms'.map MthT.pure) by rw [← hD]; simp [ClsT.same, h3, h4])
          clear h3 h4 hD
          go_enter Tryz.func23, Tryz.ntmps23
          go_wp2_with fail
          refine Calls.mono (equalC_any kA kA' ks ks' km km' kc kc' _ Hx.out.consts.len Hy.out.consts.len (Nat.le_trans Hx.out.consts.le Hx.out.consts.max) (Hx.out.consts.below HB.out).rds (Hy.out.consts.below HB.out).rds) ?_
          rw [hq3]
          rintro e w3 ⟨rfl, hb3⟩
          have H13 := Lib.hid (H1q.out.after hb3)
          have H23 := Lib.hid (H2q.out.after hb3)
          skip
          obtain ⟨hc0, hc1, hc2, hc3, hc4⟩ := H13.out
          obtain ⟨hd0, hd1, hd2, hd3, hd4⟩ := H23.out
          have Hb3 := Lib.hid (HB.out.trans (hb3.mono HB.out.size))
          clear hb3
          go_wp2_with fail
          refine Calls.mono (equalF_any fA fA' fs fs' fm fm' fc fc' _ Hx.out.fields.len Hy.out.fields.len (Nat.le_trans Hx.out.fields.le Hx.out.fields.max) (Hx.out.fields.below Hb3.out).rds (Hy.out.fields.below Hb3.out).rds) ?_
          rw [hq4]
          rintro e w4 ⟨rfl, hb4⟩
          have H14 := Lib.hid (H13.out.after hb4)
          have H24 := Lib.hid (H23.out.after hb4)
          clear hc0 hc1 hc2 hc3 hc4 hd0 hd1 hd2 hd3 hd4
          obtain ⟨hc0, hc1, hc2, hc3, hc4⟩ := H14.out
          obtain ⟨hd0, hd1, hd2, hd3, hd4⟩ := H24.out
          have Hb4 := Lib.hid (Hb3.out.trans (hb4.mono Hb3.out.size))
          clear hb4
          go_wp2_with fail
          refine Calls.mono (equalM_any mA mA' ms ms' mm mm' mc mc' _ (Hx.out.meths.below Hb4.out) (Hy.out.meths.below Hb4.out)) ?_
          rw [← Hf.out]
          rintro e w5 ⟨rfl, hb5⟩
          have Hb5 := Lib.hid (Hb4.out.trans (hb5.mono Hb4.out.size))
          clear hb5
          go_wp2_with fail
          go_ret
          exact ⟨rfl, Hb5.out⟩
        · have hq4 := decide_eq_false h4
          have Hf := Lib.hid (show D = false by rw [← hD]; simp [ClsT.same, h4])
          clear h3 h4 hD
          go_enter Tryz.func23, Tryz.ntmps23
          go_wp2_with fail
          refine Calls.mono (equalC_any kA kA' ks ks' km km' kc kc' _ Hx.out.consts.len Hy.out.consts.len (Nat.le_trans Hx.out.consts.le Hx.out.consts.max) (Hx.out.consts.below HB.out).rds (Hy.out.consts.below HB.out).rds) ?_
          rw [hq3]
          rintro e w3 ⟨rfl, hb3⟩
          have H13 := Lib.hid (H1q.out.after hb3)
          have H23 := Lib.hid (H2q.out.after hb3)
          skip
          obtain ⟨hc0, hc1, hc2, hc3, hc4⟩ := H13.out
          obtain ⟨hd0, hd1, hd2, hd3, hd4⟩ := H23.out
          have Hb3 := Lib.hid (HB.out.trans (hb3.mono HB.out.size))
          clear hb3
          go_wp2_with fail
          refine Calls.mono (equalF_any fA fA' fs fs' fm fm' fc fc' _ Hx.out.fields.len Hy.out.fields.len (Nat.le_trans Hx.out.fields.le Hx.out.fields.max) (Hx.out.fields.below Hb3.out).rds (Hy.out.fields.below Hb3.out).rds) ?_
          rw [hq4]
          rintro e w4 ⟨rfl, hb4⟩
          have Hb4 := Lib.hid (Hb3.out.trans (hb4.mono Hb3.out.size))
          clear hb4
          go_wp2_with fail
          go_ret
          exact ⟨by rw [Hf.out]; rfl, Hb4.out⟩
      · have hq3 := decide_eq_false h3
        have Hf := Lib.hid (show D = false by rw [← hD]; simp [ClsT.same, h3])
        clear h3 hD
        go_enter Tryz.func23, Tryz.ntmps23
        go_wp2_with fail
        refine Calls.mono (equalC_any kA kA' ks ks' km km' kc kc' _ Hx.out.consts.len Hy.out.consts.len (Nat.le_trans Hx.out.consts.le Hx.out.consts.max) (Hx.out.consts.below HB.out).rds (Hy.out.consts.below HB.out).rds) ?_
        rw [hq3]
        rintro e w3 ⟨rfl, hb3⟩
        have Hb3 := Lib.hid (HB.out.trans (hb3.mono HB.out.size))
        clear hb3
        go_wp2_with fail
        go_ret
        exact ⟨by rw [Hf.out]; rfl, Hb3.out⟩
    · have Hf := Lib.hid (show D = false by rw [← hD]; simp [ClsT.same, h2])
      clear hD
      go_enter Tryz.func23, Tryz.ntmps23
      go_wp2_with fail
      go_ret
      exact ⟨by rw [Hf.out]; rfl, HB.out⟩
  · have Hf := Lib.hid (show D = false by rw [← hD]; simp [ClsT.same, h1])
    clear hD
    go_enter Tryz.func23, Tryz.ntmps23
    go_wp2_with fail
    go_ret
    exact ⟨by rw [Hf.out]; rfl, HB.out⟩

end Kls
end Go.Proofs.YthkkcecfenohjaaGreatDoor
