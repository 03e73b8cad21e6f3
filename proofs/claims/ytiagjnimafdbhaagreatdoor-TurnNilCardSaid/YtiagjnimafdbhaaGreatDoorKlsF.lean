/-
  Fields, handlers, methods and classes, as the walks of this seat meet them: what they hold, how they lie, when they are alike.
  slices.Equal at fields, handlers, constants and instructions: what it returns.
  klass.Same and the document's own Same, of classes: what they return.
  Whether a class is not too long to be played with: what the call tells.
  slices.EqualFunc at methods: what it returns.
-/
import Derived.Test.YtiagjnimafdbhaaGreatDoorPoolK
import Derived.Test.YtiagjnimafdbhaaGreatDoorInsC
import Derived.Outline
import Derived.Deep.QuietTactic
import Derived.BigQuiet
import Derived.Laws.StructEq
import Derived.Deep.RegionHeld3
namespace Go.Proofs.YtiagjnimafdbhaaGreatDoor
namespace Kls
open Go.RowKit Base BinM Stru PoolM PoolA PoolJ InsJ

structure FldT where
  name : List UInt8
  desc : List UInt8
deriving DecidableEq
def FldT.vals (x : FldT) : List Value := [.string ⟨x.name.toArray⟩, .string ⟨x.desc.toArray⟩]
def FldT.V (x : FldT) : Value := .agg #[.string ⟨x.name.toArray⟩, .string ⟨x.desc.toArray⟩]
def FldT.eqb (x y : FldT) : Bool := x.name == y.name && x.desc == y.desc
theorem FldT.iff (x y : FldT) : x.eqb y = true ↔ x = y := by
  obtain ⟨x0, x1⟩ := x
  obtain ⟨y0, y1⟩ := y
  simp [FldT.eqb]
structure IsFlds (w : World) (A : Option Addr) (m c : Nat) (l : List FldT) : Prop where
  len : m = l.length
  le : m ≤ c
  max : c ≤ maxLen
  rds : Rds w A (l.flatMap FldT.vals)
theorem IsFlds.below {w w' : World} {A : Option Addr} {m c : Nat} {l : List FldT} (h : IsFlds w A m c l) (hb : Below w.heap.size w w') : IsFlds w' A m c l := ⟨h.len, h.le, h.max, h.rds.below hb⟩
theorem fld_at {w : World} {A : Option Addr} {l : List FldT} {k : Nat} (h : Rds w A (l.flatMap FldT.vals)) (hk : k < l.length) :
    ∃ b o, A = some ⟨b, o, none⟩ ∧ b < w.heap.size ∧ w.cell? ⟨b, o + k * 2, none⟩ = some (.string ⟨l[k].name.toArray⟩) ∧ w.cell? ⟨b, o + k * 2 + 1, none⟩ = some (.string ⟨l[k].desc.toArray⟩) := by
  obtain ⟨b, o, hA, hb, hc⟩ := flat_at (n := 2) (fun _ => rfl) (by omega) h hk
  exact ⟨b, o, hA, hb, hc 0 _ rfl, hc 1 _ rfl⟩
theorem eq_fld (x0 : List UInt8) (x1 : List UInt8) (y0 : List UInt8) (y1 : List UInt8) (W : World) : (Op.equalIn 10000 61 (.agg #[.string ⟨x0.toArray⟩, .string ⟨x1.toArray⟩]) (.agg #[.string ⟨y0.toArray⟩, .string ⟨y1.toArray⟩])).run Tryz.prog W = .ok (FldT.eqb ⟨x0, x1⟩ ⟨y0, y1⟩) W := by
  have u9 := Tryz.underlying9
  have a9 := Tryz.isAgg9
  have z9 := Tryz.sizeOf9
  have hS : Tryz.prog.underlying 61 = some (.struct (Tryz.prog.fieldsOf 61)) := by kernel_rfl
  have hp : Tryz.prog.stoodInHeld 61 = false := by kernel_rfl
  rw [show (10000 : Nat) = 9999 + 1 from rfl, run_equalIn_agg W 9999 61 _ _ hS hp]
  simp only [Program.fieldsOf, Tryz.underlying61]
  go_simp
  unfold FldT.eqb
  by_cases h0 : x0 = y0 <;> by_cases h1 : x1 = y1 <;> simp [h0, h1]
theorem neq_fld (x0 : List UInt8) (x1 : List UInt8) (y0 : List UInt8) (y1 : List UInt8) (W : World) : (binOp .neq 61 (.agg #[.string ⟨x0.toArray⟩, .string ⟨x1.toArray⟩]) (.agg #[.string ⟨y0.toArray⟩, .string ⟨y1.toArray⟩])).run Tryz.prog W = .ok (.bool (!FldT.eqb ⟨x0, x1⟩ ⟨y0, y1⟩)) W := by
  rw [run_neq_struct, eq_fld]; rfl
theorem guard_fld : Tryz.prog.eqGuardType Tryz.prog.depth 61 = false := by kernel_rfl

structure HndT where
  frm : Int
  til : Int
  pos : Int
  cls : List UInt8
deriving DecidableEq
def HndT.vals (x : HndT) : List Value := [.int .i64 x.frm, .int .i64 x.til, .int .i64 x.pos, .string ⟨x.cls.toArray⟩]
def HndT.V (x : HndT) : Value := .agg #[.int .i64 x.frm, .int .i64 x.til, .int .i64 x.pos, .string ⟨x.cls.toArray⟩]
def HndT.eqb (x y : HndT) : Bool := x.frm == y.frm && x.til == y.til && x.pos == y.pos && x.cls == y.cls
theorem HndT.iff (x y : HndT) : x.eqb y = true ↔ x = y := by
  obtain ⟨x0, x1, x2, x3⟩ := x
  obtain ⟨y0, y1, y2, y3⟩ := y
  simp [HndT.eqb, and_assoc]
structure IsHnds (w : World) (A : Option Addr) (m c : Nat) (l : List HndT) : Prop where
  len : m = l.length
  le : m ≤ c
  max : c ≤ maxLen
  rds : Rds w A (l.flatMap HndT.vals)
  fit : ∀ x ∈ l, fitI x.frm ∧ fitI x.til ∧ fitI x.pos
theorem IsHnds.below {w w' : World} {A : Option Addr} {m c : Nat} {l : List HndT} (h : IsHnds w A m c l) (hb : Below w.heap.size w w') : IsHnds w' A m c l := ⟨h.len, h.le, h.max, h.rds.below hb, h.fit⟩
theorem hnd_at {w : World} {A : Option Addr} {l : List HndT} {k : Nat} (h : Rds w A (l.flatMap HndT.vals)) (hk : k < l.length) :
    ∃ b o, A = some ⟨b, o, none⟩ ∧ b < w.heap.size ∧ w.cell? ⟨b, o + k * 4, none⟩ = some (.int .i64 l[k].frm) ∧ w.cell? ⟨b, o + k * 4 + 1, none⟩ = some (.int .i64 l[k].til) ∧ w.cell? ⟨b, o + k * 4 + 2, none⟩ = some (.int .i64 l[k].pos) ∧ w.cell? ⟨b, o + k * 4 + 3, none⟩ = some (.string ⟨l[k].cls.toArray⟩) := by
  obtain ⟨b, o, hA, hb, hc⟩ := flat_at (n := 4) (fun _ => rfl) (by omega) h hk
  exact ⟨b, o, hA, hb, hc 0 _ rfl, hc 1 _ rfl, hc 2 _ rfl, hc 3 _ rfl⟩
theorem eq_hnd (x0 : Int) (x1 : Int) (x2 : Int) (x3 : List UInt8) (y0 : Int) (y1 : Int) (y2 : Int) (y3 : List UInt8) (W : World) : (Op.equalIn 10000 122 (.agg #[.int .i64 x0, .int .i64 x1, .int .i64 x2, .string ⟨x3.toArray⟩]) (.agg #[.int .i64 y0, .int .i64 y1, .int .i64 y2, .string ⟨y3.toArray⟩])).run Tryz.prog W = .ok (HndT.eqb ⟨x0, x1, x2, x3⟩ ⟨y0, y1, y2, y3⟩) W := by
  have u3 := Tryz.underlying3
  have a3 := Tryz.isAgg3
  have z3 := Tryz.sizeOf3
  have u9 := Tryz.underlying9
  have a9 := Tryz.isAgg9
  have z9 := Tryz.sizeOf9
  have hS : Tryz.prog.underlying 122 = some (.struct (Tryz.prog.fieldsOf 122)) := by kernel_rfl
  have hp : Tryz.prog.stoodInHeld 122 = false := by kernel_rfl
  rw [show (10000 : Nat) = 9999 + 1 from rfl, run_equalIn_agg W 9999 122 _ _ hS hp]
  simp only [Program.fieldsOf, Tryz.underlying122]
  go_simp
  unfold HndT.eqb
  by_cases h0 : x0 = y0 <;> by_cases h1 : x1 = y1 <;> by_cases h2 : x2 = y2 <;> by_cases h3 : x3 = y3 <;> simp [h0, h1, h2, h3]
theorem neq_hnd (x0 : Int) (x1 : Int) (x2 : Int) (x3 : List UInt8) (y0 : Int) (y1 : Int) (y2 : Int) (y3 : List UInt8) (W : World) : (binOp .neq 122 (.agg #[.int .i64 x0, .int .i64 x1, .int .i64 x2, .string ⟨x3.toArray⟩]) (.agg #[.int .i64 y0, .int .i64 y1, .int .i64 y2, .string ⟨y3.toArray⟩])).run Tryz.prog W = .ok (.bool (!HndT.eqb ⟨x0, x1, x2, x3⟩ ⟨y0, y1, y2, y3⟩)) W := by
  rw [run_neq_struct, eq_hnd]; rfl
theorem guard_hnd : Tryz.prog.eqGuardType Tryz.prog.depth 122 = false := by kernel_rfl

theorem cst_iff (x y : Cst) : sameC x y = true ↔ x = y := same_iff x y
def insEqb (x y : InsT) : Bool := x.1 == y.1 && x.2 == y.2
theorem ins_iff (x y : InsT) : insEqb x y = true ↔ x = y := by
  obtain ⟨a, b⟩ := x
  obtain ⟨c, d⟩ := y
  simp [insEqb]
theorem neq_insE (a b c d : Int) (W : World) : (binOp .neq 57 (.agg #[.int .i64 a, .int .i64 b]) (.agg #[.int .i64 c, .int .i64 d])).run Tryz.prog W = .ok (.bool (!insEqb (a, b) (c, d))) W := neq_ins a b c d W

/-- a method, with where its code and its handlers lie -/
structure MthT where
  name : List UInt8
  sig : List UInt8
  locals : Int
  cA : Option Addr
  cm : Nat
  cc : Nat
  hA : Option Addr
  hm : Nat
  hc : Nat
  code : List InsT
  hand : List HndT
/-- what of a method is held against another's -/
structure MthP where
  name : List UInt8
  sig : List UInt8
  locals : Int
  code : List InsT
  hand : List HndT
deriving DecidableEq
def MthT.pure (x : MthT) : MthP := ⟨x.name, x.sig, x.locals, x.code, x.hand⟩
def MthT.vals (x : MthT) : List Value := [.string ⟨x.name.toArray⟩, .string ⟨x.sig.toArray⟩, .int .i64 x.locals, .slice x.cA x.cm x.cc, .slice x.hA x.hm x.hc]
structure MthT.is (w : World) (x : MthT) : Prop where
  fit : fitI x.locals
  code : IsCode w x.cA x.cm x.cc x.code
  hand : IsHnds w x.hA x.hm x.hc x.hand
theorem MthT.is.below {w w' : World} {x : MthT} (h : x.is w) (hb : Below w.heap.size w w') : x.is w' := ⟨h.fit, h.code.below hb, h.hand.below hb⟩
structure IsMths (w : World) (A : Option Addr) (m c : Nat) (l : List MthT) : Prop where
  len : m = l.length
  le : m ≤ c
  max : c ≤ maxLen
  rds : Rds w A (l.flatMap MthT.vals)
  each : ∀ x ∈ l, x.is w
theorem IsMths.below {w w' : World} {A : Option Addr} {m c : Nat} {l : List MthT} (h : IsMths w A m c l) (hb : Below w.heap.size w w') : IsMths w' A m c l := ⟨h.len, h.le, h.max, h.rds.below hb, fun x hx => (h.each x hx).below hb⟩
theorem mth_at {w : World} {A : Option Addr} {l : List MthT} {k : Nat} (h : Rds w A (l.flatMap MthT.vals)) (hk : k < l.length) :
    ∃ b o, A = some ⟨b, o, none⟩ ∧ b < w.heap.size ∧ w.cell? ⟨b, o + k * 5, none⟩ = some (.string ⟨l[k].name.toArray⟩) ∧ w.cell? ⟨b, o + k * 5 + 1, none⟩ = some (.string ⟨l[k].sig.toArray⟩) ∧ w.cell? ⟨b, o + k * 5 + 2, none⟩ = some (.int .i64 l[k].locals) ∧
      w.cell? ⟨b, o + k * 5 + 3, none⟩ = some (.slice l[k].cA l[k].cm l[k].cc) ∧ w.cell? ⟨b, o + k * 5 + 4, none⟩ = some (.slice l[k].hA l[k].hm l[k].hc) := by
  obtain ⟨b, o, hA, hb, hc⟩ := flat_at (n := 5) (fun _ => rfl) (by omega) h hk
  exact ⟨b, o, hA, hb, hc 0 _ rfl, hc 1 _ rfl, hc 2 _ rfl, hc 3 _ rfl, hc 4 _ rfl⟩

/-- a class, with where its parts lie -/
structure ClsT where
  name : List UInt8
  sup : List UInt8
  kA : Option Addr
  km : Nat
  kc : Nat
  fA : Option Addr
  fm : Nat
  fc : Nat
  mA : Option Addr
  mm : Nat
  mc : Nat
  consts : List Cst
  fields : List FldT
  meths : List MthT
def ClsT.V (x : ClsT) : Value := .agg #[.string ⟨x.name.toArray⟩, .string ⟨x.sup.toArray⟩, .slice x.kA x.km x.kc, .slice x.fA x.fm x.fc, .slice x.mA x.mm x.mc]
structure ClsT.is (w : World) (x : ClsT) : Prop where
  consts : IsCsts w x.kA x.km x.kc x.consts
  fields : IsFlds w x.fA x.fm x.fc x.fields
  meths : IsMths w x.mA x.mm x.mc x.meths
theorem ClsT.is.below {w w' : World} {x : ClsT} (h : x.is w) (hb : Below w.heap.size w w') : x.is w' := ⟨h.consts.below hb, h.fields.below hb, h.meths.below hb⟩
def ClsT.same (x y : ClsT) : Bool := x.name == y.name && x.sup == y.sup && decide (x.consts = y.consts) && decide (x.fields = y.fields) && decide (x.meths.map MthT.pure = y.meths.map MthT.pure)
theorem ClsT.same_refl (x : ClsT) : x.same x = true := by simp [ClsT.same]

end Kls
end Go.Proofs.YtiagjnimafdbhaaGreatDoor

namespace Go.Proofs.YtiagjnimafdbhaaGreatDoor
namespace Kls
open Go.RowKit Base BinM Stru PoolM PoolA PoolJ InsJ

set_option maxRecDepth 100000 in
set_option maxHeartbeats 1000000 in
theorem equalF_any (A B : Option Addr) (a b : List FldT) (m k c d : Nat) (w : World) (hm : m = a.length) (hk : k = b.length) (hmx : m ≤ maxLen) (hr : Rds w A (a.flatMap FldT.vals)) (hr2 : Rds w B (b.flatMap FldT.vals)) :
    Calls Tryz.prog 48 #[.slice A m c, .slice B k d] w fun e w' => e = .returned (.bool (decide (a = b))) ∧ Below w.heap.size w w' := by
  have hml : a.length ≤ m := Nat.le_of_eq hm.symm
  have hml2 : m ≤ a.length := Nat.le_of_eq hm
  have hkl : b.length ≤ k := Nat.le_of_eq hk.symm
  have hkl2 : k ≤ b.length := Nat.le_of_eq hk
  have Hr := Lib.hid hr
  have Hr2 := Lib.hid hr2
  unfold maxLen at hmx
  clear hm hk hr hr2
  by_cases hmk : m = k
  · have hb : ((m : Int) != (k : Int)) = false := by rw [hmk]; simp
    have hkm : k ≤ m := by omega
    have hmk' : m ≤ k := by omega
    clear hmk
    go_enter Tryz.func48, Tryz.ntmps48
    go_wp2_with fail
    go_loopw [5, 13] (fun _ i wr => ∃ j : Nat, j ≤ m ∧ i = .int .i64 j ∧ a.take j = b.take j ∧ Below w.heap.size w wr) (fun _ i _ => m - (intOf i).toNat)
    case atStart => exact ⟨0, Nat.zero_le _, rfl, rfl, Below.refl _ _⟩
    case round =>
      obtain ⟨j, hj, rfl, hsame, hbel⟩ := hrel
      have Hsame := Lib.hid hsame
      have Hbel := Lib.hid hbel
      clear hsame
      by_cases hlt : j < m
      · have hja : j < a.length := by omega
        have hjb : j < b.length := by omega
        obtain ⟨b1, o1, rfl, hb1, hc0, hc1⟩ := fld_at (Hr.out.below hbel) hja
        obtain ⟨b2, o2, rfl, hb2, hd0, hd1⟩ := fld_at (Hr2.out.below hbel) hjb
        have e1 : a.take (j + 1) = a.take j ++ [a[j]] := List.take_succ_eq_append_getElem hja
        have e2 : b.take (j + 1) = b.take j ++ [b[j]] := List.take_succ_eq_append_getElem hjb
        have hj1 : (j : Int) < (m : Int) := by omega
        have hj2 : (j : Int) < (k : Int) := by omega
        have hj0 : (0 : Int) ≤ (j : Int) := by omega
        have hg := guard_fld
        have hne := neq_fld a[j].name a[j].desc b[j].name b[j].desc
        clear hbel
        cases hx : a[j].eqb b[j]
        · have Hfin := Lib.hid (show decide (a = b) = false by
            rw [decide_eq_false_iff_not]
            intro h
            have : a[j] = b[j] := by subst h; rfl
            rw [show a[j].eqb b[j] = true from (FldT.iff _ _).2 this] at hx
            cases hx)
          replace hne := fun W => (hne W).trans (by rw [show a[j].eqb b[j] = false from hx]; rfl : _ = Result.ok (.bool true) W)
          clear e1 e2 hx
          generalize a[j] = x at *
          generalize b[j] = y at *
          obtain ⟨x0, x1⟩ := x
          obtain ⟨y0, y1⟩ := y
          simp only at hc0 hc1 hd0 hd1 hne
          go_wp2_with fail
          go_quiet (fail)
          go_wp2_with fail
          go_ret
          exact ⟨by rw [Hfin.out]; rfl, drawn Hbel.out _⟩
        · have hxy : a[j] = b[j] := by
            exact (FldT.iff _ _).1 hx
          have Hnext := Lib.hid (show a.take (j + 1) = b.take (j + 1) by rw [e1, e2, Hsame.out, hxy])
          replace hne := fun W => (hne W).trans (by rw [show a[j].eqb b[j] = true from hx]; rfl : _ = Result.ok (.bool false) W)
          clear e1 e2 hx hxy
          generalize a[j] = x at *
          generalize b[j] = y at *
          obtain ⟨x0, x1⟩ := x
          obtain ⟨y0, y1⟩ := y
          simp only at hc0 hc1 hd0 hd1 hne
          go_wp2_with fail
          go_quiet (fail)
          go_wp2_with fail
          go_roundw
          case rel => exact ⟨j + 1, by omega, by go_num, Hnext.out, drawn Hbel.out _⟩
          case measure => simp [intOf]; omega
      · have Hfin := Lib.hid (show decide (a = b) = true by
          have h := Hsame.out
          rw [List.take_of_length_le (by omega), List.take_of_length_le (by omega)] at h
          simp [h])
        go_wp2_with fail
        go_ret
        exact ⟨by rw [Hfin.out]; rfl, hbel⟩
  · have hb : ((m : Int) != (k : Int)) = true := by simp; omega
    have Hfin := Lib.hid (show decide (a = b) = false by
      rw [decide_eq_false_iff_not]
      rintro rfl
      omega)
    clear hmk
    go_enter Tryz.func48, Tryz.ntmps48
    go_wp2_with fail
    go_ret
    exact ⟨by rw [Hfin.out]; rfl, Below.refl _ _⟩

set_option maxRecDepth 100000 in
set_option maxHeartbeats 1000000 in
theorem equalH_any (A B : Option Addr) (a b : List HndT) (m k c d : Nat) (w : World) (hm : m = a.length) (hk : k = b.length) (hmx : m ≤ maxLen) (hr : Rds w A (a.flatMap HndT.vals)) (hr2 : Rds w B (b.flatMap HndT.vals)) :
    Calls Tryz.prog 50 #[.slice A m c, .slice B k d] w fun e w' => e = .returned (.bool (decide (a = b))) ∧ Below w.heap.size w w' := by
  have hml : a.length ≤ m := Nat.le_of_eq hm.symm
  have hml2 : m ≤ a.length := Nat.le_of_eq hm
  have hkl : b.length ≤ k := Nat.le_of_eq hk.symm
  have hkl2 : k ≤ b.length := Nat.le_of_eq hk
  have Hr := Lib.hid hr
  have Hr2 := Lib.hid hr2
  unfold maxLen at hmx
  clear hm hk hr hr2
  by_cases hmk : m = k
  · have hb : ((m : Int) != (k : Int)) = false := by rw [hmk]; simp
    have hkm : k ≤ m := by omega
    have hmk' : m ≤ k := by omega
    clear hmk
    go_enter Tryz.func50, Tryz.ntmps50
    go_wp2_with fail
    go_loopw [5, 13] (fun _ i wr => ∃ j : Nat, j ≤ m ∧ i = .int .i64 j ∧ a.take j = b.take j ∧ Below w.heap.size w wr) (fun _ i _ => m - (intOf i).toNat)
    case atStart => exact ⟨0, Nat.zero_le _, rfl, rfl, Below.refl _ _⟩
    case round =>
      obtain ⟨j, hj, rfl, hsame, hbel⟩ := hrel
      have Hsame := Lib.hid hsame
      have Hbel := Lib.hid hbel
      clear hsame
      by_cases hlt : j < m
      · have hja : j < a.length := by omega
        have hjb : j < b.length := by omega
        obtain ⟨b1, o1, rfl, hb1, hc0, hc1, hc2, hc3⟩ := hnd_at (Hr.out.below hbel) hja
        obtain ⟨b2, o2, rfl, hb2, hd0, hd1, hd2, hd3⟩ := hnd_at (Hr2.out.below hbel) hjb
        have e1 : a.take (j + 1) = a.take j ++ [a[j]] := List.take_succ_eq_append_getElem hja
        have e2 : b.take (j + 1) = b.take j ++ [b[j]] := List.take_succ_eq_append_getElem hjb
        have hj1 : (j : Int) < (m : Int) := by omega
        have hj2 : (j : Int) < (k : Int) := by omega
        have hj0 : (0 : Int) ≤ (j : Int) := by omega
        have hg := guard_hnd
        have hne := neq_hnd a[j].frm a[j].til a[j].pos a[j].cls b[j].frm b[j].til b[j].pos b[j].cls
        clear hbel
        cases hx : a[j].eqb b[j]
        · have Hfin := Lib.hid (show decide (a = b) = false by
            rw [decide_eq_false_iff_not]
            intro h
            have : a[j] = b[j] := by subst h; rfl
            rw [show a[j].eqb b[j] = true from (HndT.iff _ _).2 this] at hx
            cases hx)
          replace hne := fun W => (hne W).trans (by rw [show a[j].eqb b[j] = false from hx]; rfl : _ = Result.ok (.bool true) W)
          clear e1 e2 hx
          generalize a[j] = x at *
          generalize b[j] = y at *
          obtain ⟨x0, x1, x2, x3⟩ := x
          obtain ⟨y0, y1, y2, y3⟩ := y
          simp only at hc0 hc1 hc2 hc3 hd0 hd1 hd2 hd3 hne
          go_wp2_with fail
          go_quiet (fail)
          go_wp2_with fail
          go_ret
          exact ⟨by rw [Hfin.out]; rfl, drawn Hbel.out _⟩
        · have hxy : a[j] = b[j] := by
            exact (HndT.iff _ _).1 hx
          have Hnext := Lib.hid (show a.take (j + 1) = b.take (j + 1) by rw [e1, e2, Hsame.out, hxy])
          replace hne := fun W => (hne W).trans (by rw [show a[j].eqb b[j] = true from hx]; rfl : _ = Result.ok (.bool false) W)
          clear e1 e2 hx hxy
          generalize a[j] = x at *
          generalize b[j] = y at *
          obtain ⟨x0, x1, x2, x3⟩ := x
          obtain ⟨y0, y1, y2, y3⟩ := y
          simp only at hc0 hc1 hc2 hc3 hd0 hd1 hd2 hd3 hne
          go_wp2_with fail
          go_quiet (fail)
          go_wp2_with fail
          go_roundw
          case rel => exact ⟨j + 1, by omega, by go_num, Hnext.out, drawn Hbel.out _⟩
          case measure => simp [intOf]; omega
      · have Hfin := Lib.hid (show decide (a = b) = true by
          have h := Hsame.out
          rw [List.take_of_length_le (by omega), List.take_of_length_le (by omega)] at h
          simp [h])
        go_wp2_with fail
        go_ret
        exact ⟨by rw [Hfin.out]; rfl, hbel⟩
  · have hb : ((m : Int) != (k : Int)) = true := by simp; omega
    have Hfin := Lib.hid (show decide (a = b) = false by
      rw [decide_eq_false_iff_not]
      rintro rfl
      omega)
    clear hmk
    go_enter Tryz.func50, Tryz.ntmps50
    go_wp2_with fail
    go_ret
    exact ⟨by rw [Hfin.out]; rfl, Below.refl _ _⟩



end Kls
end Go.Proofs.YtiagjnimafdbhaaGreatDoor

namespace Go.Proofs.YtiagjnimafdbhaaGreatDoor
namespace Kls
open Go.RowKit Base BinM Stru PoolM PoolA PoolJ InsJ

/-- a box of five cells -/
def Box5 (w : World) (g : Nat) (a b c d e : Value) : Prop :=
  w.cell? ⟨g, 0, none⟩ = some a ∧ w.cell? ⟨g, 1, none⟩ = some b ∧ w.cell? ⟨g, 2, none⟩ = some c ∧ w.cell? ⟨g, 3, none⟩ = some d ∧ w.cell? ⟨g, 4, none⟩ = some e
theorem Box5.new (w : World) (a b c d e : Value) (ty : TypeId) : Box5 (w.alloc (.cells #[a, b, c, d, e] ty)) w.heap.size a b c d e := by
  refine ⟨?_, ?_, ?_, ?_, ?_⟩
  all_goals (rw [cell_of_row _ _ _ _ ty (0, 0) (heap_alloc_new w _)]; rfl)
theorem Box5.below {w w' : World} {B g : Nat} {a b c d e : Value} (h : Box5 w g a b c d e) (hb : Below B w w') (hg : g < B) : Box5 w' g a b c d e :=
  ⟨(hb.cell (p := ⟨g, 0, none⟩) hg).trans h.1, (hb.cell (p := ⟨g, 1, none⟩) hg).trans h.2.1, (hb.cell (p := ⟨g, 2, none⟩) hg).trans h.2.2.1, (hb.cell (p := ⟨g, 3, none⟩) hg).trans h.2.2.2.1, (hb.cell (p := ⟨g, 4, none⟩) hg).trans h.2.2.2.2⟩
theorem Box5.after {w w' : World} {g : Nat} {a b c d e : Value} (h : Box5 w g a b c d e) (hb : Below w.heap.size w w') : Box5 w' g a b c d e :=
  h.below hb (World.block_lt_of_cell? w ⟨g, 0, none⟩ h.1)

def MthT.V (x : MthT) : Value := .agg #[.string ⟨x.name.toArray⟩, .string ⟨x.sig.toArray⟩, .int .i64 x.locals, .slice x.cA x.cm x.cc, .slice x.hA x.hm x.hc]

/-- two boxes, one behind the other -/
theorem two (w : World) (a b c d e a' b' c' d' e' : Value) (ty : TypeId) : Below w.heap.size w ((w.alloc (.cells #[a, b, c, d, e] ty)).alloc (.cells #[a', b', c', d', e'] ty)) :=
  ((Below.refl _ _).alloc (Nat.le_refl _) _).alloc (by simp) _
theorem two1 (w : World) (a b c d e a' b' c' d' e' : Value) (ty : TypeId) : Box5 ((w.alloc (.cells #[a, b, c, d, e] ty)).alloc (.cells #[a', b', c', d', e'] ty)) w.heap.size a b c d e :=
  (Box5.new w a b c d e ty).after ((Below.refl _ _).alloc (Nat.le_refl _) _)
theorem two2 (w : World) (a b c d e a' b' c' d' e' : Value) (ty : TypeId) : Box5 ((w.alloc (.cells #[a, b, c, d, e] ty)).alloc (.cells #[a', b', c', d', e'] ty)) (w.heap.size + 1) a' b' c' d' e' := by
  have h := Box5.new (w.alloc (.cells #[a, b, c, d, e] ty)) a' b' c' d' e' ty
  rw [show (w.alloc (.cells #[a, b, c, d, e] ty)).heap.size = w.heap.size + 1 by simp] at h
  exact h


end Kls
end Go.Proofs.YtiagjnimafdbhaaGreatDoor

namespace Go.Proofs.YtiagjnimafdbhaaGreatDoor
namespace Kls
open Go.RowKit Base BinM Stru PoolM PoolA PoolJ InsJ

/-- what is known of a class that is not too long -/
def ClsT.short (x : ClsT) : Prop := x.consts.length ≤ 300 ∧ x.fields.length ≤ 40 ∧ x.meths.length ≤ 40 ∧ ∀ y ∈ x.meths, y.code.length ≤ 600 ∧ y.hand.length ≤ 20
def GivesS (x : ClsT) (w : World) (e : Ending) (w' : World) : Prop := ∃ r : Bool, e = .returned (.bool r) ∧ (r = true → x.short) ∧ Below w.heap.size w w'
theorem givesS {x : ClsT} {w w' : World} {r : Bool} (h : r = true → x.short) (hb : Below w.heap.size w w') : GivesS x w (.returned (.bool r)) w' := ⟨r, rfl, h, hb⟩


end Kls
end Go.Proofs.YtiagjnimafdbhaaGreatDoor

namespace Go.Proofs.YtiagjnimafdbhaaGreatDoor
namespace Kls
open Go.RowKit Base BinM Stru PoolM PoolA PoolJ InsJ



end Kls
end Go.Proofs.YtiagjnimafdbhaaGreatDoor
