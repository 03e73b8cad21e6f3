/-
  Moves, turns and bundles, as the walks of this seat meet them; pack.Same: what it returns.
-/
import Derived.Test.YthkkcecfenohjaaGreatDoorKlsN
namespace Go.Proofs.YthkkcecfenohjaaGreatDoor
namespace Pck
open Go.RowKit Base BinM Stru PoolM PoolA PoolJ InsJ Kls
open Part (Row)

/-- a move, with where its code lies -/
structure MovT where
  field : List UInt8
  kind : Int
  frm : List UInt8
  cA : Option Addr
  cm : Nat
  cc : Nat
  code : List InsT
structure MovP where
  field : List UInt8
  kind : Int
  frm : List UInt8
  code : List InsT
deriving DecidableEq
def MovT.pure (x : MovT) : MovP := ⟨x.field, x.kind, x.frm, x.code⟩
def MovT.vals (x : MovT) : List Value := [.string ⟨x.field.toArray⟩, .int .i64 x.kind, .string ⟨x.frm.toArray⟩, .slice x.cA x.cm x.cc]
def MovT.V (x : MovT) : Value := .agg #[.string ⟨x.field.toArray⟩, .int .i64 x.kind, .string ⟨x.frm.toArray⟩, .slice x.cA x.cm x.cc]
structure MovT.is (w : World) (x : MovT) : Prop where
  fit : fitI x.kind
  code : IsCode w x.cA x.cm x.cc x.code
theorem MovT.is.below {w w' : World} {x : MovT} (h : x.is w) (hb : Below w.heap.size w w') : x.is w' := ⟨h.fit, h.code.below hb⟩
structure IsMovs (w : World) (A : Option Addr) (m c : Nat) (l : List MovT) : Prop where
  len : m = l.length
  le : m ≤ c
  max : c ≤ maxLen
  rds : Rds w A (l.flatMap MovT.vals)
  each : ∀ x ∈ l, x.is w
theorem IsMovs.below {w w' : World} {A : Option Addr} {m c : Nat} {l : List MovT} (h : IsMovs w A m c l) (hb : Below w.heap.size w w') : IsMovs w' A m c l := ⟨h.len, h.le, h.max, h.rds.below hb, fun x hx => (h.each x hx).below hb⟩
theorem mov_at {w : World} {A : Option Addr} {l : List MovT} {k : Nat} (h : Rds w A (l.flatMap MovT.vals)) (hk : k < l.length) :
    ∃ b o, A = some ⟨b, o, none⟩ ∧ b < w.heap.size ∧ w.cell? ⟨b, o + k * 4, none⟩ = some (.string ⟨l[k].field.toArray⟩) ∧ w.cell? ⟨b, o + k * 4 + 1, none⟩ = some (.int .i64 l[k].kind) ∧ w.cell? ⟨b, o + k * 4 + 2, none⟩ = some (.string ⟨l[k].frm.toArray⟩) ∧ w.cell? ⟨b, o + k * 4 + 3, none⟩ = some (.slice l[k].cA l[k].cm l[k].cc) := by
  obtain ⟨b, o, hA, hb, hc⟩ := flat_at (n := 4) (fun _ => rfl) (by omega) h hk
  exact ⟨b, o, hA, hb, hc 0 _ rfl, hc 1 _ rfl, hc 2 _ rfl, hc 3 _ rfl⟩

/-- a turn, with where its parts lie -/
structure TrnT where
  cls : List UInt8
  kA : Option Addr
  km : Nat
  kc : Nat
  vA : Option Addr
  vm : Nat
  vc : Nat
  consts : List Cst
  moves : List MovT
structure TrnP where
  cls : List UInt8
  consts : List Cst
  moves : List MovP
deriving DecidableEq
def TrnT.pure (x : TrnT) : TrnP := ⟨x.cls, x.consts, x.moves.map MovT.pure⟩
def TrnT.vals (x : TrnT) : List Value := [.string ⟨x.cls.toArray⟩, .slice x.kA x.km x.kc, .slice x.vA x.vm x.vc]
def TrnT.V (x : TrnT) : Value := .agg #[.string ⟨x.cls.toArray⟩, .slice x.kA x.km x.kc, .slice x.vA x.vm x.vc]
structure TrnT.is (w : World) (x : TrnT) : Prop where
  consts : IsCsts w x.kA x.km x.kc x.consts
  moves : IsMovs w x.vA x.vm x.vc x.moves
theorem TrnT.is.below {w w' : World} {x : TrnT} (h : x.is w) (hb : Below w.heap.size w w') : x.is w' := ⟨h.consts.below hb, h.moves.below hb⟩
structure IsTrns (w : World) (A : Option Addr) (m c : Nat) (l : List TrnT) : Prop where
  len : m = l.length
  le : m ≤ c
  max : c ≤ maxLen
  rds : Rds w A (l.flatMap TrnT.vals)
  each : ∀ x ∈ l, x.is w
theorem IsTrns.below {w w' : World} {A : Option Addr} {m c : Nat} {l : List TrnT} (h : IsTrns w A m c l) (hb : Below w.heap.size w w') : IsTrns w' A m c l := ⟨h.len, h.le, h.max, h.rds.below hb, fun x hx => (h.each x hx).below hb⟩
theorem trn_at {w : World} {A : Option Addr} {l : List TrnT} {k : Nat} (h : Rds w A (l.flatMap TrnT.vals)) (hk : k < l.length) :
    ∃ b o, A = some ⟨b, o, none⟩ ∧ b < w.heap.size ∧ w.cell? ⟨b, o + k * 3, none⟩ = some (.string ⟨l[k].cls.toArray⟩) ∧ w.cell? ⟨b, o + k * 3 + 1, none⟩ = some (.slice l[k].kA l[k].km l[k].kc) ∧ w.cell? ⟨b, o + k * 3 + 2, none⟩ = some (.slice l[k].vA l[k].vm l[k].vc) := by
  obtain ⟨b, o, hA, hb, hc⟩ := flat_at (n := 3) (fun _ => rfl) (by omega) h hk
  exact ⟨b, o, hA, hb, hc 0 _ rfl, hc 1 _ rfl, hc 2 _ rfl⟩

/-- classes in a row -/
structure ClsP where
  name : List UInt8
  sup : List UInt8
  consts : List Cst
  fields : List FldT
  meths : List MthP
deriving DecidableEq
def _root_.Go.Proofs.YthkkcecfenohjaaGreatDoor.Kls.ClsT.pure (x : ClsT) : ClsP := ⟨x.name, x.sup, x.consts, x.fields, x.meths.map MthT.pure⟩
theorem same_pure (x y : ClsT) : x.same y = decide (ClsT.pure x = ClsT.pure y) := by
  unfold ClsT.same ClsT.pure
  by_cases h1 : x.name = y.name <;> by_cases h2 : x.sup = y.sup <;> by_cases h3 : x.consts = y.consts <;> by_cases h4 : x.fields = y.fields <;> by_cases h5 : x.meths.map MthT.pure = y.meths.map MthT.pure <;> simp [h1, h2, h3, h4, h5]
def ClsT.vals (x : ClsT) : List Value := [.string ⟨x.name.toArray⟩, .string ⟨x.sup.toArray⟩, .slice x.kA x.km x.kc, .slice x.fA x.fm x.fc, .slice x.mA x.mm x.mc]
structure IsClss (w : World) (A : Option Addr) (m c : Nat) (l : List ClsT) : Prop where
  len : m = l.length
  le : m ≤ c
  max : c ≤ maxLen
  rds : Rds w A (l.flatMap ClsT.vals)
  each : ∀ x ∈ l, x.is w
theorem IsClss.below {w w' : World} {A : Option Addr} {m c : Nat} {l : List ClsT} (h : IsClss w A m c l) (hb : Below w.heap.size w w') : IsClss w' A m c l := ⟨h.len, h.le, h.max, h.rds.below hb, fun x hx => (h.each x hx).below hb⟩
theorem cls_at {w : World} {A : Option Addr} {l : List ClsT} {k : Nat} (h : Rds w A (l.flatMap ClsT.vals)) (hk : k < l.length) :
    ∃ b o, A = some ⟨b, o, none⟩ ∧ b < w.heap.size ∧ w.cell? ⟨b, o + k * 5, none⟩ = some (.string ⟨l[k].name.toArray⟩) ∧ w.cell? ⟨b, o + k * 5 + 1, none⟩ = some (.string ⟨l[k].sup.toArray⟩) ∧ w.cell? ⟨b, o + k * 5 + 2, none⟩ = some (.slice l[k].kA l[k].km l[k].kc) ∧
      w.cell? ⟨b, o + k * 5 + 3, none⟩ = some (.slice l[k].fA l[k].fm l[k].fc) ∧ w.cell? ⟨b, o + k * 5 + 4, none⟩ = some (.slice l[k].mA l[k].mm l[k].mc) := by
  obtain ⟨b, o, hA, hb, hc⟩ := flat_at (n := 5) (fun _ => rfl) (by omega) h hk
  exact ⟨b, o, hA, hb, hc 0 _ rfl, hc 1 _ rfl, hc 2 _ rfl, hc 3 _ rfl, hc 4 _ rfl⟩

/-- a bundle, with where its parts lie -/
structure BunT where
  cA : Option Addr
  cm : Nat
  cc : Nat
  tA : Option Addr
  tm : Nat
  tc : Nat
  classes : List ClsT
  turns : List TrnT
def BunT.V (x : BunT) : Value := .agg #[.slice x.cA x.cm x.cc, .slice x.tA x.tm x.tc]
def BunT.vals (x : BunT) : List Value := [.slice x.cA x.cm x.cc, .slice x.tA x.tm x.tc]
structure BunT.is (w : World) (x : BunT) : Prop where
  classes : IsClss w x.cA x.cm x.cc x.classes
  turns : IsTrns w x.tA x.tm x.tc x.turns
theorem BunT.is.below {w w' : World} {x : BunT} (h : x.is w) (hb : Below w.heap.size w w') : x.is w' := ⟨h.classes.below hb, h.turns.below hb⟩
def BunT.same (x y : BunT) : Bool := decide (x.classes.map ClsT.pure = y.classes.map ClsT.pure) && decide (x.turns.map TrnT.pure = y.turns.map TrnT.pure)
theorem BunT.same_refl (x : BunT) : x.same x = true := by simp [BunT.same]

theorem map_ne {α β : Type} {f : α → β} {a b : List α} {j : Nat} (hja : j < a.length) (hjb : j < b.length) (h : f a[j] ≠ f b[j]) : ¬ (a.map f = b.map f) := by
  intro h2
  apply h
  have h3 : (a.map f)[j]? = (b.map f)[j]? := by rw [h2]
  simpa [hja, hjb] using h3
theorem map_take {α β : Type} {f : α → β} {a b : List α} {j : Nat} (hja : j < a.length) (hjb : j < b.length) (h : (a.map f).take j = (b.map f).take j) (h2 : f a[j] = f b[j]) : (a.map f).take (j + 1) = (b.map f).take (j + 1) := by
  rw [List.take_succ_eq_append_getElem (by simpa using hja), List.take_succ_eq_append_getElem (by simpa using hjb), h]
  simp [h2]

/-- two boxes, one behind the other -/
theorem pair (w : World) (C C' : Array Value) (ty ty' : TypeId) : Row ((w.alloc (.cells C ty)).alloc (.cells C' ty')) w.heap.size C ty ∧ Row ((w.alloc (.cells C ty)).alloc (.cells C' ty')) (w.heap.size + 1) C' ty' ∧ Below w.heap.size w ((w.alloc (.cells C ty)).alloc (.cells C' ty')) := by
  refine ⟨heap_alloc2_old _ _ _, ?_, ((Below.refl _ _).alloc (Nat.le_refl _) _).alloc (by simp) _⟩
  have := Row.new (w.alloc (.cells C ty)) C' ty'
  rw [show (w.alloc (.cells C ty)).heap.size = w.heap.size + 1 by simp] at this
  exact this

set_option maxRecDepth 100000 in
set_option maxHeartbeats 4000000 in
theorem sameMov_any (x y : MovT) (w : World) (hx : x.is w) (hy : y.is w) :
    Calls Tryz.prog 124 #[x.V, y.V] w fun e w' => e = .returned (.bool (decide (x.pure = y.pure))) ∧ Below w.heap.size w w' := by
  obtain ⟨n, k, s, cA, cm, cc, cd⟩ := x
  obtain ⟨n', k', s', cA', cm', cc', cd'⟩ := y
  have Hx := Lib.hid hx
  have Hy := Lib.hid hy
  clear hx hy
  generalize hD : decide (MovT.pure _ = MovT.pure _) = D
  simp only [MovT.V]
  have HP := Lib.hid (pair w #[.string ⟨n.toArray⟩, .int .i64 k, .string ⟨s.toArray⟩, .slice cA cm cc] #[.string ⟨n'.toArray⟩, .int .i64 k', .string ⟨s'.toArray⟩, .slice cA' cm' cc'] 105 105)
  by_cases h1 : n = n'
  · subst h1
    by_cases h2 : k = k'
    · subst h2
      by_cases h3 : s = s'
      · subst h3
        have Hf := Lib.hid (show D = decide (cd = cd') by rw [← hD]; simp [MovT.pure])
        clear hD
        go_enter Tryz.func124, Tryz.ntmps124
        go_wp2_with fail
        refine Calls.mono (equalI_any cA cA' cd cd' cm cm' cc cc' _ Hx.out.code.len Hy.out.code.len (Nat.le_trans Hx.out.code.le Hx.out.code.max) (Hx.out.code.below HP.out.2.2).rds (Hy.out.code.below HP.out.2.2).rds) ?_
        rw [← Hf.out]
        rintro e w3 ⟨rfl, hb3⟩
        have Hb3 := Lib.hid (HP.out.2.2.trans (hb3.mono HP.out.2.2.size))
        clear hb3
        go_wp2_with fail
        go_ret
        exact ⟨rfl, Hb3.out⟩
      · have Hf := Lib.hid (show D = false by rw [← hD]; simp [MovT.pure, h3])
        clear hD
        go_enter Tryz.func124, Tryz.ntmps124
        go_wp2_with fail
        go_ret
        exact ⟨by rw [Hf.out]; rfl, HP.out.2.2⟩
    · have Hf := Lib.hid (show D = false by rw [← hD]; simp [MovT.pure, h2])
      clear hD
      go_enter Tryz.func124, Tryz.ntmps124
      go_wp2_with fail
      go_ret
      exact ⟨by rw [Hf.out]; rfl, HP.out.2.2⟩
  · have Hf := Lib.hid (show D = false by rw [← hD]; simp [MovT.pure, h1])
    clear hD
    go_enter Tryz.func124, Tryz.ntmps124
    go_wp2_with fail
    go_ret
    exact ⟨by rw [Hf.out]; rfl, HP.out.2.2⟩

set_option maxRecDepth 100000 in
set_option maxHeartbeats 4000000 in
theorem equalV_any (A B : Option Addr) (a b : List MovT) (m k c d : Nat) (w : World) (ha : IsMovs w A m c a) (hb : IsMovs w B k d b) :
    Calls Tryz.prog 123 #[.slice A m c, .slice B k d, .func (.func 124) #[] #[]] w fun e w' => e = .returned (.bool (decide (a.map MovT.pure = b.map MovT.pure))) ∧ Below w.heap.size w w' := by
  have eg : ∀ args w, (callFunc 124 args).run Tryz.prog w = .ok (.enter 124 args) w := enters_of Tryz.func124 (by kernel_rfl) rfl
  have hml : a.length ≤ m := Nat.le_of_eq ha.len.symm
  have hml2 : m ≤ a.length := Nat.le_of_eq ha.len
  have hkl : b.length ≤ k := Nat.le_of_eq hb.len.symm
  have hkl2 : k ≤ b.length := Nat.le_of_eq hb.len
  have hmx : m ≤ maxLen := Nat.le_trans ha.le ha.max
  have Ha := Lib.hid ha
  have Hb := Lib.hid hb
  unfold maxLen at hmx
  clear ha hb
  generalize hD : decide (List.map MovT.pure _ = List.map MovT.pure _) = D
  by_cases hmk : m = k
  · have hb : ((m : Int) != (k : Int)) = false := by rw [hmk]; simp
    have hkm : k ≤ m := by omega
    have hmk' : m ≤ k := by omega
    clear hmk
    go_enter Tryz.func123, Tryz.ntmps123
    go_wp2_with fail
    go_loopw [7, 8, 9, 17] (fun _ _ _ i wr => ∃ j : Nat, j ≤ m ∧ i = .int .i64 j ∧ (a.map MovT.pure).take j = (b.map MovT.pure).take j ∧ Below w.heap.size w wr) (fun _ _ _ i _ => m - (intOf i).toNat)
    case atStart => exact ⟨0, Nat.zero_le _, rfl, rfl, Below.refl _ _⟩
    case round =>
      obtain ⟨j, hj, rfl, hsame, hbel⟩ := hrel
      have Hsame := Lib.hid hsame
      have Hbel := Lib.hid hbel
      clear hsame
      by_cases hlt : j < m
      · have hja : j < a.length := by omega
        have hjb : j < b.length := by omega
        obtain ⟨b1, o1, rfl, hb1, hc0, hc1, hc2, hc3⟩ := mov_at (Ha.out.rds.below hbel) hja
        obtain ⟨b2, o2, rfl, hb2, hd0, hd1, hd2, hd3⟩ := mov_at (Hb.out.rds.below hbel) hjb
        have hj1 : (j : Int) < (m : Int) := by omega
        have hj2 : (j : Int) < (k : Int) := by omega
        have hj0 : (0 : Int) ≤ (j : Int) := by omega
        have hx := (Ha.out.each _ (List.getElem_mem hja)).below hbel
        have hy := (Hb.out.each _ (List.getElem_mem hjb)).below hbel
        have Hno := Lib.hid (fun (h : (a[j]'hja).pure ≠ (b[j]'hjb).pure) => map_ne hja hjb h)
        have Hyes := Lib.hid (fun (h : (a[j]'hja).pure = (b[j]'hjb).pure) => map_take hja hjb Hsame.out h)
        clear hbel
        have hcon := fun W h1 h2 => sameMov_any (a[j]'hja) (b[j]'hjb) W h1 h2
        skip
        have hpr := fun C C' => (pair wr C C' 105 105).2.2
        generalize a[j] = x at *
        generalize b[j] = y at *
        have hcon2 := fun C C' => hcon _ (hx.below (hpr C C')) (hy.below (hpr C C'))
        clear hcon hx hy
        generalize hq : decide (x.pure = y.pure) = Q at *
        have Hq1 := Lib.hid (fun (h : Q = true) => Hyes.out (of_decide_eq_true (hq.trans h)))
        have Hq2 := Lib.hid (fun (h : Q = false) => Hno.out (of_decide_eq_false (hq.trans h)))
        obtain ⟨x0, x1, x2, x3, x4, x5, x6⟩ := x
        obtain ⟨y0, y1, y2, y3, y4, y5, y6⟩ := y
        simp only [MovT.V] at hcon2 hc0 hc1 hc2 hc3 hd0 hd1 hd2 hd3
        have Hcon := Lib.hid (hcon2 #[.string ⟨x0.toArray⟩, .int .i64 x1, .string ⟨x2.toArray⟩, .slice x3 x4 x5] #[.string ⟨y0.toArray⟩, .int .i64 y1, .string ⟨y2.toArray⟩, .slice y3 y4 y5])
        have Hpr := Lib.hid (hpr #[.string ⟨x0.toArray⟩, .int .i64 x1, .string ⟨x2.toArray⟩, .slice x3 x4 x5] #[.string ⟨y0.toArray⟩, .int .i64 y1, .string ⟨y2.toArray⟩, .slice y3 y4 y5])
        clear hcon2 hpr hq
        go_wp2_with fail
        refine Calls.mono Hcon.out ?_
        rintro e w3 ⟨rfl, hb3⟩
        have Hb3 := Lib.hid (Hbel.out.trans ((Hpr.out.trans (hb3.mono Hpr.out.size)).mono Hbel.out.size))
        clear hb3
        cases Q
        · have Hq := Lib.hid (show D = false by rw [← hD]; exact decide_eq_false (Hq2.out rfl))
          go_wp2_with fail
          go_ret
          exact ⟨by rw [Hq.out]; rfl, Hb3.out⟩
        · have Hq := Lib.hid (Hq1.out rfl)
          go_wp2_with fail
          go_roundw
          case rel => exact ⟨j + 1, by omega, by go_num, Hq.out, Hb3.out⟩
          case measure => simp [intOf]; omega
      · have Hfin := Lib.hid (show D = true by
          have h := Hsame.out
          rw [List.take_of_length_le (by simp; omega), List.take_of_length_le (by simp; omega)] at h
          rw [← hD]; simp [h])
        go_wp2_with fail
        go_ret
        exact ⟨by rw [Hfin.out]; rfl, hbel⟩
  · have hb : ((m : Int) != (k : Int)) = true := by simp; omega
    have Hfin := Lib.hid (show D = false by
      rw [← hD, decide_eq_false_iff_not]
      intro h
      have := congrArg List.length h
      simp at this
      omega)
    clear hmk
    go_enter Tryz.func123, Tryz.ntmps123
    go_wp2_with fail
    go_ret
    exact ⟨by rw [Hfin.out]; rfl, Below.refl _ _⟩

set_option maxRecDepth 100000 in
set_option maxHeartbeats 4000000 in
theorem sameTrn_any (x y : TrnT) (w : World) (hx : x.is w) (hy : y.is w) :
    Calls Tryz.prog 88 #[x.V, y.V] w fun e w' => e = .returned (.bool (decide (x.pure = y.pure))) ∧ Below w.heap.size w w' := by
  obtain ⟨n, kA, km, kc, vA, vm, vc, ks, vs⟩ := x
  obtain ⟨n', kA', km', kc', vA', vm', vc', ks', vs'⟩ := y
  have Hx := Lib.hid hx
  have Hy := Lib.hid hy
  clear hx hy
  generalize hD : decide (TrnT.pure _ = TrnT.pure _) = D
  simp only [TrnT.V]
  have HP := Lib.hid (pair w #[.string ⟨n.toArray⟩, .slice kA km kc, .slice vA vm vc] #[.string ⟨n'.toArray⟩, .slice kA' km' kc', .slice vA' vm' vc'] 103 103)
  by_cases h1 : n = n'
  · subst h1
    by_cases h2 : ks = ks'
    · have Hf := Lib.hid (show D = decide (vs.map MovT.pure = vs'.map MovT.pure) by rw [← hD]; simp [TrnT.pure, h2])
      have hq := decide_eq_true h2
      clear hD h2
      go_enter Tryz.func88, Tryz.ntmps88
      go_wp2_with fail
      refine Calls.mono (equalC_any kA kA' ks ks' km km' kc kc' _ Hx.out.consts.len Hy.out.consts.len (Nat.le_trans Hx.out.consts.le Hx.out.consts.max) (Hx.out.consts.below HP.out.2.2).rds (Hy.out.consts.below HP.out.2.2).rds) ?_
      rw [hq]
      rintro e w3 ⟨rfl, hb3⟩
      have Hb3 := Lib.hid (HP.out.2.2.trans (hb3.mono HP.out.2.2.size))
      have c2 := (HP.out.1.after hb3).cell 2
      have d2 := (HP.out.2.1.after hb3).cell 2
      clear hb3 hq
      go_wp2_with fail
      refine Calls.mono (equalV_any vA vA' vs vs' vm vm' vc vc' _ (Hx.out.moves.below Hb3.out) (Hy.out.moves.below Hb3.out)) ?_
      rw [← Hf.out]
      rintro e w4 ⟨rfl, hb4⟩
      have Hb4 := Lib.hid (Hb3.out.trans (hb4.mono Hb3.out.size))
      clear hb4
      go_wp2_with fail
      go_ret
      exact ⟨rfl, Hb4.out⟩
    · have Hf := Lib.hid (show D = false by rw [← hD]; simp [TrnT.pure, h2])
      have hq := decide_eq_false h2
      clear hD h2
      go_enter Tryz.func88, Tryz.ntmps88
      go_wp2_with fail
      refine Calls.mono (equalC_any kA kA' ks ks' km km' kc kc' _ Hx.out.consts.len Hy.out.consts.len (Nat.le_trans Hx.out.consts.le Hx.out.consts.max) (Hx.out.consts.below HP.out.2.2).rds (Hy.out.consts.below HP.out.2.2).rds) ?_
      rw [hq]
      rintro e w3 ⟨rfl, hb3⟩
      have Hb3 := Lib.hid (HP.out.2.2.trans (hb3.mono HP.out.2.2.size))
      clear hb3 hq
      go_wp2_with fail
      go_ret
      exact ⟨by rw [Hf.out]; rfl, Hb3.out⟩
  · have Hf := Lib.hid (show D = false by rw [← hD]; simp [TrnT.pure, h1])
    clear hD
    go_enter Tryz.func88, Tryz.ntmps88
    go_wp2_with fail
    go_ret
    exact ⟨by rw [Hf.out]; rfl, HP.out.2.2⟩

set_option maxRecDepth 100000 in
set_option maxHeartbeats 4000000 in
theorem equalT_any (A B : Option Addr) (a b : List TrnT) (m k c d : Nat) (w : World) (ha : IsTrns w A m c a) (hb : IsTrns w B k d b) :
    Calls Tryz.prog 87 #[.slice A m c, .slice B k d, .func (.func 88) #[] #[]] w fun e w' => e = .returned (.bool (decide (a.map TrnT.pure = b.map TrnT.pure))) ∧ Below w.heap.size w w' := by
  have eg : ∀ args w, (callFunc 88 args).run Tryz.prog w = .ok (.enter 88 args) w := enters_of Tryz.func88 (by kernel_rfl) rfl
  have hml : a.length ≤ m := Nat.le_of_eq ha.len.symm
  have hml2 : m ≤ a.length := Nat.le_of_eq ha.len
  have hkl : b.length ≤ k := Nat.le_of_eq hb.len.symm
  have hkl2 : k ≤ b.length := Nat.le_of_eq hb.len
  have hmx : m ≤ maxLen := Nat.le_trans ha.le ha.max
  have Ha := Lib.hid ha
  have Hb := Lib.hid hb
  unfold maxLen at hmx
  clear ha hb
  generalize hD : decide (List.map TrnT.pure _ = List.map TrnT.pure _) = D
  by_cases hmk : m = k
  · have hb : ((m : Int) != (k : Int)) = false := by rw [hmk]; simp
    have hkm : k ≤ m := by omega
    have hmk' : m ≤ k := by omega
    clear hmk
    go_enter Tryz.func87, Tryz.ntmps87
    go_wp2_with fail
    go_loopw [7, 8, 9, 17] (fun _ _ _ i wr => ∃ j : Nat, j ≤ m ∧ i = .int .i64 j ∧ (a.map TrnT.pure).take j = (b.map TrnT.pure).take j ∧ Below w.heap.size w wr) (fun _ _ _ i _ => m - (intOf i).toNat)
    case atStart => exact ⟨0, Nat.zero_le _, rfl, rfl, Below.refl _ _⟩
    case round =>
      obtain ⟨j, hj, rfl, hsame, hbel⟩ := hrel
      have Hsame := Lib.hid hsame
      have Hbel := Lib.hid hbel
      clear hsame
      by_cases hlt : j < m
      · have hja : j < a.length := by omega
        have hjb : j < b.length := by omega
        obtain ⟨b1, o1, rfl, hb1, hc0, hc1, hc2⟩ := trn_at (Ha.out.rds.below hbel) hja
        obtain ⟨b2, o2, rfl, hb2, hd0, hd1, hd2⟩ := trn_at (Hb.out.rds.below hbel) hjb
        have hj1 : (j : Int) < (m : Int) := by omega
        have hj2 : (j : Int) < (k : Int) := by omega
        have hj0 : (0 : Int) ≤ (j : Int) := by omega
        have hx := (Ha.out.each _ (List.getElem_mem hja)).below hbel
        have hy := (Hb.out.each _ (List.getElem_mem hjb)).below hbel
        have Hno := Lib.hid (fun (h : (a[j]'hja).pure ≠ (b[j]'hjb).pure) => map_ne hja hjb h)
        have Hyes := Lib.hid (fun (h : (a[j]'hja).pure = (b[j]'hjb).pure) => map_take hja hjb Hsame.out h)
        clear hbel
        have hcon := fun W h1 h2 => sameTrn_any (a[j]'hja) (b[j]'hjb) W h1 h2
        skip
        have hpr := fun C C' => (pair wr C C' 103 103).2.2
        generalize a[j] = x at *
        generalize b[j] = y at *
        have hcon2 := fun C C' => hcon _ (hx.below (hpr C C')) (hy.below (hpr C C'))
        clear hcon hx hy
        generalize hq : decide (x.pure = y.pure) = Q at *
        have Hq1 := Lib.hid (fun (h : Q = true) => Hyes.out (of_decide_eq_true (hq.trans h)))
        have Hq2 := Lib.hid (fun (h : Q = false) => Hno.out (of_decide_eq_false (hq.trans h)))
        obtain ⟨x0, x1, x2, x3, x4, x5, x6, x7, x8⟩ := x
        obtain ⟨y0, y1, y2, y3, y4, y5, y6, y7, y8⟩ := y
        simp only [TrnT.V] at hcon2 hc0 hc1 hc2 hd0 hd1 hd2
        have Hcon := Lib.hid (hcon2 #[.string ⟨x0.toArray⟩, .slice x1 x2 x3, .slice x4 x5 x6] #[.string ⟨y0.toArray⟩, .slice y1 y2 y3, .slice y4 y5 y6])
        have Hpr := Lib.hid (hpr #[.string ⟨x0.toArray⟩, .slice x1 x2 x3, .slice x4 x5 x6] #[.string ⟨y0.toArray⟩, .slice y1 y2 y3, .slice y4 y5 y6])
        clear hcon2 hpr hq
        go_wp2_with fail
        refine Calls.mono Hcon.out ?_
        rintro e w3 ⟨rfl, hb3⟩
        have Hb3 := Lib.hid (Hbel.out.trans ((Hpr.out.trans (hb3.mono Hpr.out.size)).mono Hbel.out.size))
        clear hb3
        cases Q
        · have Hq := Lib.hid (show D = false by rw [← hD]; exact decide_eq_false (Hq2.out rfl))
          go_wp2_with fail
          go_ret
          exact ⟨by rw [Hq.out]; rfl, Hb3.out⟩
        · have Hq := Lib.hid (Hq1.out rfl)
          go_wp2_with fail
          go_roundw
          case rel => exact ⟨j + 1, by omega, by go_num, Hq.out, Hb3.out⟩
          case measure => simp [intOf]; omega
      · have Hfin := Lib.hid (show D = true by
          have h := Hsame.out
          rw [List.take_of_length_le (by simp; omega), List.take_of_length_le (by simp; omega)] at h
          rw [← hD]; simp [h])
        go_wp2_with fail
        go_ret
        exact ⟨by rw [Hfin.out]; rfl, hbel⟩
  · have hb : ((m : Int) != (k : Int)) = true := by simp; omega
    have Hfin := Lib.hid (show D = false by
      rw [← hD, decide_eq_false_iff_not]
      intro h
      have := congrArg List.length h
      simp at this
      omega)
    clear hmk
    go_enter Tryz.func87, Tryz.ntmps87
    go_wp2_with fail
    go_ret
    exact ⟨by rw [Hfin.out]; rfl, Below.refl _ _⟩

set_option maxRecDepth 100000 in
set_option maxHeartbeats 4000000 in
theorem equalK_any (A B : Option Addr) (a b : List ClsT) (m k c d : Nat) (w : World) (ha : IsClss w A m c a) (hb : IsClss w B k d b) :
    Calls Tryz.prog 86 #[.slice A m c, .slice B k d, .func (.func 23) #[] #[]] w fun e w' => e = .returned (.bool (decide (a.map ClsT.pure = b.map ClsT.pure))) ∧ Below w.heap.size w w' := by
  have eg : ∀ args w, (callFunc 23 args).run Tryz.prog w = .ok (.enter 23 args) w := enters_of Tryz.func23 (by kernel_rfl) rfl
  have hml : a.length ≤ m := Nat.le_of_eq ha.len.symm
  have hml2 : m ≤ a.length := Nat.le_of_eq ha.len
  have hkl : b.length ≤ k := Nat.le_of_eq hb.len.symm
  have hkl2 : k ≤ b.length := Nat.le_of_eq hb.len
  have hmx : m ≤ maxLen := Nat.le_trans ha.le ha.max
  have Ha := Lib.hid ha
  have Hb := Lib.hid hb
  unfold maxLen at hmx
  clear ha hb
  generalize hD : decide (List.map ClsT.pure _ = List.map ClsT.pure _) = D
  by_cases hmk : m = k
  · have hb : ((m : Int) != (k : Int)) = false := by rw [hmk]; simp
    have hkm : k ≤ m := by omega
    have hmk' : m ≤ k := by omega
    clear hmk
    go_enter Tryz.func86, Tryz.ntmps86
    go_wp2_with fail
    go_loopw [7, 8, 9, 17] (fun _ _ _ i wr => ∃ j : Nat, j ≤ m ∧ i = .int .i64 j ∧ (a.map ClsT.pure).take j = (b.map ClsT.pure).take j ∧ Below w.heap.size w wr) (fun _ _ _ i _ => m - (intOf i).toNat)
    case atStart => exact ⟨0, Nat.zero_le _, rfl, rfl, Below.refl _ _⟩
    case round =>
      obtain ⟨j, hj, rfl, hsame, hbel⟩ := hrel
      have Hsame := Lib.hid hsame
      have Hbel := Lib.hid hbel
      clear hsame
      by_cases hlt : j < m
      · have hja : j < a.length := by omega
        have hjb : j < b.length := by omega
        obtain ⟨b1, o1, rfl, hb1, hc0, hc1, hc2, hc3, hc4⟩ := cls_at (Ha.out.rds.below hbel) hja
        obtain ⟨b2, o2, rfl, hb2, hd0, hd1, hd2, hd3, hd4⟩ := cls_at (Hb.out.rds.below hbel) hjb
        have hj1 : (j : Int) < (m : Int) := by omega
        have hj2 : (j : Int) < (k : Int) := by omega
        have hj0 : (0 : Int) ≤ (j : Int) := by omega
        have hx := (Ha.out.each _ (List.getElem_mem hja)).below hbel
        have hy := (Hb.out.each _ (List.getElem_mem hjb)).below hbel
        have Hno := Lib.hid (fun (h : (a[j]'hja).pure ≠ (b[j]'hjb).pure) => map_ne hja hjb h)
        have Hyes := Lib.hid (fun (h : (a[j]'hja).pure = (b[j]'hjb).pure) => map_take hja hjb Hsame.out h)
        clear hbel
        have hcon := fun W h1 h2 => same_any (a[j]'hja) (b[j]'hjb) W h1 h2
        simp only [same_pure] at hcon
        have hpr := fun C C' => (pair wr C C' 26 26).2.2
        generalize a[j] = x at *
        generalize b[j] = y at *
        have hcon2 := fun C C' => hcon _ (hx.below (hpr C C')) (hy.below (hpr C C'))
        clear hcon hx hy
        generalize hq : decide (x.pure = y.pure) = Q at *
        have Hq1 := Lib.hid (fun (h : Q = true) => Hyes.out (of_decide_eq_true (hq.trans h)))
        have Hq2 := Lib.hid (fun (h : Q = false) => Hno.out (of_decide_eq_false (hq.trans h)))
        obtain ⟨x0, x1, x2, x3, x4, x5, x6, x7, x8, x9, x10, x11, x12, x13⟩ := x
        obtain ⟨y0, y1, y2, y3, y4, y5, y6, y7, y8, y9, y10, y11, y12, y13⟩ := y
        simp only [ClsT.V] at hcon2 hc0 hc1 hc2 hc3 hc4 hd0 hd1 hd2 hd3 hd4
        have Hcon := Lib.hid (hcon2 #[.string ⟨x0.toArray⟩, .string ⟨x1.toArray⟩, .slice x2 x3 x4, .slice x5 x6 x7, .slice x8 x9 x10] #[.string ⟨y0.toArray⟩, .string ⟨y1.toArray⟩, .slice y2 y3 y4, .slice y5 y6 y7, .slice y8 y9 y10])
        have Hpr := Lib.hid (hpr #[.string ⟨x0.toArray⟩, .string ⟨x1.toArray⟩, .slice x2 x3 x4, .slice x5 x6 x7, .slice x8 x9 x10] #[.string ⟨y0.toArray⟩, .string ⟨y1.toArray⟩, .slice y2 y3 y4, .slice y5 y6 y7, .slice y8 y9 y10])
        clear hcon2 hpr hq
        go_wp2_with fail
        refine Calls.mono Hcon.out ?_
        rintro e w3 ⟨rfl, hb3⟩
        have Hb3 := Lib.hid (Hbel.out.trans ((Hpr.out.trans (hb3.mono Hpr.out.size)).mono Hbel.out.size))
        clear hb3
        cases Q
        · have Hq := Lib.hid (show D = false by rw [← hD]; exact decide_eq_false (Hq2.out rfl))
          go_wp2_with fail
          go_ret
          exact ⟨by rw [Hq.out]; rfl, Hb3.out⟩
        · have Hq := Lib.hid (Hq1.out rfl)
          go_wp2_with fail
          go_roundw
          case rel => exact ⟨j + 1, by omega, by go_num, Hq.out, Hb3.out⟩
          case measure => simp [intOf]; omega
      · have Hfin := Lib.hid (show D = true by
          have h := Hsame.out
          rw [List.take_of_length_le (by simp; omega), List.take_of_length_le (by simp; omega)] at h
          rw [← hD]; simp [h])
        go_wp2_with fail
        go_ret
        exact ⟨by rw [Hfin.out]; rfl, hbel⟩
  · have hb : ((m : Int) != (k : Int)) = true := by simp; omega
    have Hfin := Lib.hid (show D = false by
      rw [← hD, decide_eq_false_iff_not]
      intro h
      have := congrArg List.length h
      simp at this
      omega)
    clear hmk
    go_enter Tryz.func86, Tryz.ntmps86
    go_wp2_with fail
    go_ret
    exact ⟨by rw [Hfin.out]; rfl, Below.refl _ _⟩

set_option maxRecDepth 100000 in
set_option maxHeartbeats 4000000 in
theorem sameB_any (x y : BunT) (w : World) (hx : x.is w) (hy : y.is w) :
    Calls Tryz.prog 39 #[x.V, y.V] w fun e w' => e = .returned (.bool (x.same y)) ∧ Below w.heap.size w w' := by
  obtain ⟨cA, cm, cc, tA, tm, tc, cs, ts⟩ := x
  obtain ⟨cA', cm', cc', tA', tm', tc', cs', ts'⟩ := y
  have Hx := Lib.hid hx
  have Hy := Lib.hid hy
  clear hx hy
  generalize hD : BunT.same _ _ = D
  simp only [BunT.V]
  have HP := Lib.hid (pair w #[.slice cA cm cc, .slice tA tm tc] #[.slice cA' cm' cc', .slice tA' tm' tc'] 48 48)
  by_cases h2 : cs.map ClsT.pure = cs'.map ClsT.pure
  · have Hf := Lib.hid (show D = decide (ts.map TrnT.pure = ts'.map TrnT.pure) by rw [← hD]; simp [BunT.same, h2])
    have hq := decide_eq_true h2
    clear hD h2
    go_enter Tryz.func39, Tryz.ntmps39
    go_wp2_with fail
    refine Calls.mono (equalK_any cA cA' cs cs' cm cm' cc cc' _ (Hx.out.classes.below HP.out.2.2) (Hy.out.classes.below HP.out.2.2)) ?_
    rw [hq]
    rintro e w3 ⟨rfl, hb3⟩
    have Hb3 := Lib.hid (HP.out.2.2.trans (hb3.mono HP.out.2.2.size))
    have c2 := (HP.out.1.after hb3).cell 1
    have d2 := (HP.out.2.1.after hb3).cell 1
    clear hb3 hq
    go_wp2_with fail
    refine Calls.mono (equalT_any tA tA' ts ts' tm tm' tc tc' _ (Hx.out.turns.below Hb3.out) (Hy.out.turns.below Hb3.out)) ?_
    rw [← Hf.out]
    rintro e w4 ⟨rfl, hb4⟩
    have Hb4 := Lib.hid (Hb3.out.trans (hb4.mono Hb3.out.size))
    clear hb4
    go_wp2_with fail
    go_ret
    exact ⟨rfl, Hb4.out⟩
  · have Hf := Lib.hid (show D = false by rw [← hD]; simp [BunT.same, h2])
    have hq := decide_eq_false h2
    clear hD h2
    go_enter Tryz.func39, Tryz.ntmps39
    go_wp2_with fail
    refine Calls.mono (equalK_any cA cA' cs cs' cm cm' cc cc' _ (Hx.out.classes.below HP.out.2.2) (Hy.out.classes.below HP.out.2.2)) ?_
    rw [hq]
    rintro e w3 ⟨rfl, hb3⟩
    have Hb3 := Lib.hid (HP.out.2.2.trans (hb3.mono HP.out.2.2.size))
    clear hb3 hq
    go_wp2_with fail
    go_ret
    exact ⟨by rw [Hf.out]; rfl, Hb3.out⟩

end Pck
end Go.Proofs.YthkkcecfenohjaaGreatDoor
