/-
  Fields, handlers, and lists of them, read from bytes that are known.
-/
import Derived.Test.YthkkcecfenohjaaGreatDoorKlsC
namespace Go.Proofs.YthkkcecfenohjaaGreatDoor
namespace KlsY
open Go.RowKit Base BinM Stru BinE BinGet BinText BinPut Bin8 BinAll Part Kls KlsG KlsC

theorem txt_full (p r s : List UInt8) (m : Int) (hs : s.length ≤ 1048576) (hm : (s.length : Int) ≤ m) : getT (p ++ (txt s ++ r)) (p.length : Int) m = (s, ((p ++ txt s).length : Int), 0) := by
  have h := BinText.getS_numr (n := (s.length : Int)) (by omega) (by omega) p (s ++ r)
  have e : p ++ (txt s ++ r) = p ++ (num (s.length : Int) ++ (s ++ r)) := by unfold txt; simp
  rw [e]
  unfold getT
  rw [h, if_neg (by simp), if_neg (by simp only; omega), if_neg (by simp only; simp; omega)]
  have e2 : p ++ (num (s.length : Int) ++ (s ++ r)) = (p ++ num (s.length : Int)) ++ (s ++ r) := by simp
  simp only [Int.toNat_natCast]
  rw [e2, List.drop_left, List.take_left]
  unfold txt
  simp; omega

theorem _root_.Go.Proofs.YthkkcecfenohjaaGreatDoor.Part.Aside.plus {g : Nat} {w w1 w2 : World} (h : Part.Aside g w w1) (hb : Below w.heap.size w1 w2) (hg : g ≤ w.heap.size) : Part.Aside g w w2 := ⟨h.bel.trans (hb.mono hg), fun k hk hn => (hb.block k hk).trans (h.rest k hk hn)⟩
theorem own_aside {w w' : World} {base g : Nat} {e : TypeId} {size n : Nat} {v : Value} {xs : List Value} (h : w.ownsRow base e size v n xs) (ha : Part.Aside g w w') (hg : g < base) : w'.ownsRow base e size v n xs := by
  obtain ⟨h1, h2⟩ := h
  refine ⟨h1, ?_⟩
  rcases h2 with h2 | ⟨k, cap, cur, a, b, c, d⟩
  · exact .inl h2
  · have hlt : k < w.heap.size := by
      rcases Nat.lt_or_ge k w.heap.size with hl | hl
      · exact hl
      · rw [Array.getElem?_eq_none hl] at c; cases c
    exact .inr ⟨k, cap, cur, a, b, by rw [ha.rest k hlt (by omega)]; exact c, d⟩
theorem own_below' {w w' : World} {base : Nat} {e : TypeId} {size n : Nat} {v : Value} {xs : List Value} (h : w.ownsRow base e size v n xs) (hb : Below w.heap.size w w') : w'.ownsRow base e size v n xs := by
  obtain ⟨h1, h2⟩ := h
  refine ⟨h1, ?_⟩
  rcases h2 with h2 | ⟨k, cap, cur, a, b, c, d⟩
  · exact .inl h2
  · have hlt : k < w.heap.size := by
      rcases Nat.lt_or_ge k w.heap.size with hl | hl
      · exact hl
      · rw [Array.getElem?_eq_none hl] at c; cases c
    exact .inr ⟨k, cap, cur, a, b, by rw [hb.block k hlt]; exact c, d⟩
theorem rds_aside {w w' : World} {g : Nat} {A : Option Addr} {xs : List Value} (hr : Rds w A xs) (hne : ∀ a, A = some a → a.block ≠ g) (h : Part.Aside g w w') : Rds w' A xs := by
  rcases hr with h0 | ⟨b, o, hA, hb, hc⟩
  · exact .inl h0
  · refine .inr ⟨b, o, hA, Nat.lt_of_lt_of_le hb h.bel.size, fun j u hu => ?_⟩
    rw [← hc j u hu]
    have := h.rest b hb (hne _ hA)
    unfold World.cell?
    rw [this]

theorem size_aside {g : Nat} {w w' : World} (h : Part.Aside g w w') : w.heap.size ≤ w'.heap.size := h.bel.size
/-- the reader's row, and two boxes of a struct beside it -/
structure At (T : TypeId) (w wr : World) (g : Nat) (A : Option Addr) (n cap : Nat) (ty : TypeId) (q : Int) (R C : Array Value) : Prop where
  row : Row wr g #[.slice A n cap, .int .i64 q, .int .i64 0] ty
  res : Row wr w.heap.size R T
  box : Row wr (w.heap.size + 1) C T
  asd : Part.Aside g w wr
  lt : g < w.heap.size
theorem pair (w : World) (C C' : Array Value) (ty ty' : TypeId) : Row ((w.alloc (.cells C ty)).alloc (.cells C' ty')) w.heap.size C ty ∧ Row ((w.alloc (.cells C ty)).alloc (.cells C' ty')) (w.heap.size + 1) C' ty' ∧ Below w.heap.size w ((w.alloc (.cells C ty)).alloc (.cells C' ty')) := KlsC.pair w C C' ty ty'
theorem At.start (T : TypeId) (Z : Array Value) {w : World} {g : Nat} {A : Option Addr} {n cap : Nat} {ty : TypeId} {q : Int} (h : Row w g #[.slice A n cap, .int .i64 q, .int .i64 0] ty) :
    At T w ((w.alloc (.cells Z T)).alloc (.cells Z T)) g A n cap ty q Z Z :=
  ⟨h.after (pair w Z Z T T).2.2, (pair w Z Z T T).1, (pair w Z Z T T).2.1, Part.Aside.of (pair w Z Z T T).2.2 (Nat.le_of_lt h.lt), h.lt⟩
theorem At.next {T : TypeId} {w wr w3 : World} {g : Nat} {A : Option Addr} {n cap : Nat} {ty : TypeId} {q q' : Int} {R C : Array Value} (h : At T w wr g A n cap ty q R C) (hr : Row w3 g #[.slice A n cap, .int .i64 q', .int .i64 0] ty) (ha : Part.Aside g wr w3) : At T w w3 g A n cap ty q' R C :=
  ⟨hr, ha.row h.res (by have := h.lt; omega), ha.row h.box (by have := h.lt; omega), h.asd.trans ha, h.lt⟩
theorem At.set {T : TypeId} {w wr : World} {g : Nat} {A : Option Addr} {n cap : Nat} {ty : TypeId} {q : Int} {R C : Array Value} (h : At T w wr g A n cap ty q R C) (j : Nat) (v : Value) : At T w (wr.setCell ⟨w.heap.size + 1, j, none⟩ v) g A n cap ty q R (C.setIfInBounds j v) := by
  have := h.lt
  refine ⟨(heap_setCell_other wr ⟨w.heap.size + 1, j, none⟩ g v (by show g ≠ w.heap.size + 1; omega)).trans h.row, (heap_setCell_other wr ⟨w.heap.size + 1, j, none⟩ w.heap.size v (by show w.heap.size ≠ w.heap.size + 1; omega)).trans h.res, h.box.set j v,
    ⟨h.asd.bel.setCell (by show g ≤ w.heap.size + 1; omega) v, fun k hk hn => (heap_setCell_other wr ⟨w.heap.size + 1, j, none⟩ k v (by show k ≠ w.heap.size + 1; omega)).trans (h.asd.rest k hk hn)⟩, h.lt⟩
theorem At.put {T : TypeId} {w wr : World} {g : Nat} {A : Option Addr} {n cap : Nat} {ty : TypeId} {q : Int} {R C : Array Value} (h : At T w wr g A n cap ty q R C) (j : Nat) (v : Value) : At T w (wr.setCell ⟨w.heap.size, j, none⟩ v) g A n cap ty q (R.setIfInBounds j v) C := by
  have := h.lt
  refine ⟨(heap_setCell_other wr ⟨w.heap.size, j, none⟩ g v (by show g ≠ w.heap.size; omega)).trans h.row, h.res.set j v, (heap_setCell_other wr ⟨w.heap.size, j, none⟩ (w.heap.size + 1) v (by show w.heap.size + 1 ≠ w.heap.size; omega)).trans h.box,
    ⟨h.asd.bel.setCell (by show g ≤ w.heap.size; omega) v, fun k hk hn => (heap_setCell_other wr ⟨w.heap.size, j, none⟩ k v (by show k ≠ w.heap.size; omega)).trans (h.asd.rest k hk hn)⟩, h.lt⟩

set_option maxRecDepth 100000 in
set_option maxHeartbeats 1000000 in
theorem number_any (g : Nat) (A : Option Addr) (l : List UInt8) (n cap : Nat) (p r q : Int) (ty : TypeId) (w : World) (hrow : Row w g #[.slice A n cap, .int .i64 p, .int .i64 0] ty)
    (hn : n = l.length) (hnc : n ≤ cap) (hm : cap ≤ maxLen) (ha0 : -9223372036854775808 ≤ p) (ha1 : p ≤ 9223372036854775807) (hr : Rds w A (cells8 l)) (hg : getS l p = (r, q, 0)) (h0 : 0 ≤ r) (h1 : r ≤ 65535) :
    Calls Tryz.prog 142 #[.pointer (some ⟨g, 0, none⟩)] w (GivesR g A n cap ty w (.int .i64 r) q 0) := by
  have hnx := readNum_any g A l n cap p 65535 2 r q ty w hrow hn hnc hm ha0 ha1 hr hg h0 h1
  have Hnx := Lib.hid hnx
  clear hnx hn hnc hm hr hrow hg
  go_enter Tryz.func142, Tryz.ntmps142
  go_wp2_with fail
  refine Calls.mono Hnx.out ?_
  rintro ee w3 ⟨rfl, hrow3, ha3⟩
  have H3 := Lib.hid hrow3
  have A3 := Lib.hid ha3
  clear hrow3 ha3
  go_wp2_with fail
  go_ret
  exact ⟨rfl, H3.out, A3.out⟩

theorem sizeField : (Tryz.prog.info? 67).map (·.size) = some 2 := by kernel_rfl
set_option maxRecDepth 100000 in
set_option maxHeartbeats 4000000 in
theorem field_any (g : Nat) (A : Option Addr) (l : List UInt8) (n cap : Nat) (p q1 q2 : Nat) (ty : TypeId) (w : World) (hrow : Row w g #[.slice A n cap, .int .i64 (p : Int), .int .i64 0] ty) (x : FldT)
    (hn : n = l.length) (hnc : n ≤ cap) (hm : cap ≤ maxLen) (hr : Rds w A (cells8 l)) (hne : ∀ a, A = some a → a.block ≠ g) (hp : p ≤ 1000000) (hq1 : q1 ≤ 1000000)
    (h0 : getT l (p : Int) 256 = (x.name, (q1 : Int), 0)) (h1 : getT l (q1 : Int) 256 = (x.desc, (q2 : Int), 0)) :
    Calls Tryz.prog 108 #[.pointer (some ⟨g, 0, none⟩)] w (GivesR g A n cap ty w x.V (q2 : Int) 0) := by
  have S0 := Lib.hid (At.start 67 #[.string ⟨#[]⟩, .string ⟨#[]⟩] hrow)
  have HR := Lib.hid (fun (wr : World) (h : Part.Aside g w wr) => rds_aside hr hne h)
  clear hrow hr hne
  obtain ⟨x0, x1⟩ := x
  simp only [FldT.V] at *
  go_enter Tryz.func108, Tryz.ntmps108
  go_wp2_with fail
  refine Calls.mono (text_klass g A l n cap p ty _ S0.out.row hn hnc hm (by omega) (by omega) (HR.out _ S0.out.asd)) ?_
  rw [h0]
  rintro e w1 ⟨rfl, hrow1, ha1⟩
  have T1 := Lib.hid (S0.out.next hrow1 ha1)
  have S1 := Lib.hid (T1.out.set 0 (.string ⟨x0.toArray⟩))
  have hc := T1.out.box.cell 0
  have hf := T1.out.box.free 0
  clear hrow1 ha1
  go_wp2_with fail
  clear hc hf
  refine Calls.mono (text_klass g A l n cap q1 ty _ S1.out.row hn hnc hm (by omega) (by omega) (HR.out _ S1.out.asd)) ?_
  rw [h1]
  rintro e w2 ⟨rfl, hrow2, ha2⟩
  have T2 := Lib.hid (S1.out.next hrow2 ha2)
  have S2 := Lib.hid (T2.out.set 1 (.string ⟨x1.toArray⟩))
  have hc := T2.out.box.cell 1
  have hf := T2.out.box.free 1
  clear hrow2 ha2
  have Hb : Row (w2.setCell ⟨w.heap.size + 1, 1, none⟩ (.string ⟨x1.toArray⟩)) (w.heap.size + 1) #[.string ⟨x0.toArray⟩, .string ⟨x1.toArray⟩] 67 := S2.out.box
  have g0 := Hb.cell 0
  have g1 := Hb.cell 1
  have f0 := S2.out.res.free 0
  have r0 := S2.out.res.cell 0
  have f1 := S2.out.res.free 1
  have r1 := S2.out.res.cell 1
  clear Hb
  go_wp2_with fail
  have HF := Lib.hid (((S2.out).put 0 (.string ⟨x0.toArray⟩)).put 1 (.string ⟨x1.toArray⟩))
  have HW : Row _ w.heap.size #[.string ⟨x0.toArray⟩, .string ⟨x1.toArray⟩] 67 := HF.out.res
  exact bodyPost_ret (v := .agg #[.string ⟨x0.toArray⟩, .string ⟨x1.toArray⟩]) (results1 Tryz.results108 _ _ _ _ rfl (run_loadVar_row _ _ _ _ #[.string ⟨x0.toArray⟩, .string ⟨x1.toArray⟩] (0, 0) _ HW Tryz.underlying67 rfl sizeField)) rfl ⟨rfl, HF.out.row, HF.out.asd⟩

theorem sizeHand : (Tryz.prog.info? 79).map (·.size) = some 4 := by kernel_rfl
set_option maxRecDepth 100000 in
set_option maxHeartbeats 4000000 in
theorem hand_any (g : Nat) (A : Option Addr) (l : List UInt8) (n cap : Nat) (p q1 q2 q3 q4 : Nat) (ty : TypeId) (w : World) (hrow : Row w g #[.slice A n cap, .int .i64 (p : Int), .int .i64 0] ty) (x : HndT)
    (hn : n = l.length) (hnc : n ≤ cap) (hm : cap ≤ maxLen) (hr : Rds w A (cells8 l)) (hne : ∀ a, A = some a → a.block ≠ g) (hp : p ≤ 1000000) (hq1 : q1 ≤ 1000000) (hq2 : q2 ≤ 1000000) (hq3 : q3 ≤ 1000000)
    (h0 : getS l (p : Int) = (x.frm, (q1 : Int), 0)) (h1 : getS l (q1 : Int) = (x.til, (q2 : Int), 0)) (h2 : getS l (q2 : Int) = (x.pos, (q3 : Int), 0)) (h3 : getT l (q3 : Int) 256 = (x.cls, (q4 : Int), 0)) (hb : (0 ≤ x.frm ∧ x.frm ≤ 65535) ∧ (0 ≤ x.til ∧ x.til ≤ 65535) ∧ 0 ≤ x.pos ∧ x.pos ≤ 65535) :
    Calls Tryz.prog 146 #[.pointer (some ⟨g, 0, none⟩)] w (GivesR g A n cap ty w x.V (q4 : Int) 0) := by
  have S0 := Lib.hid (At.start 79 #[.int .i64 0, .int .i64 0, .int .i64 0, .string ⟨#[]⟩] hrow)
  have HR := Lib.hid (fun (wr : World) (h : Part.Aside g w wr) => rds_aside hr hne h)
  clear hrow hr hne
  obtain ⟨x0, x1, x2, x3⟩ := x
  simp only [HndT.V] at *
  go_enter Tryz.func146, Tryz.ntmps146
  go_wp2_with fail
  refine Calls.mono (number_any g A l n cap p _ q1 ty _ S0.out.row hn hnc hm (by omega) (by omega) (HR.out _ S0.out.asd) h0 (by omega) (by omega)) ?_
  rintro e w1 ⟨rfl, hrow1, ha1⟩
  have T1 := Lib.hid (S0.out.next hrow1 ha1)
  have S1 := Lib.hid (T1.out.set 0 (.int .i64 x0))
  have hc := T1.out.box.cell 0
  have hf := T1.out.box.free 0
  clear hrow1 ha1
  go_wp2_with fail
  clear hc hf
  refine Calls.mono (number_any g A l n cap q1 _ q2 ty _ S1.out.row hn hnc hm (by omega) (by omega) (HR.out _ S1.out.asd) h1 (by omega) (by omega)) ?_
  rintro e w2 ⟨rfl, hrow2, ha2⟩
  have T2 := Lib.hid (S1.out.next hrow2 ha2)
  have S2 := Lib.hid (T2.out.set 1 (.int .i64 x1))
  have hc := T2.out.box.cell 1
  have hf := T2.out.box.free 1
  clear hrow2 ha2
  go_wp2_with fail
  clear hc hf
  refine Calls.mono (number_any g A l n cap q2 _ q3 ty _ S2.out.row hn hnc hm (by omega) (by omega) (HR.out _ S2.out.asd) h2 (by omega) (by omega)) ?_
  rintro e w3 ⟨rfl, hrow3, ha3⟩
  have T3 := Lib.hid (S2.out.next hrow3 ha3)
  have S3 := Lib.hid (T3.out.set 2 (.int .i64 x2))
  have hc := T3.out.box.cell 2
  have hf := T3.out.box.free 2
  clear hrow3 ha3
  go_wp2_with fail
  clear hc hf
  refine Calls.mono (text_klass g A l n cap q3 ty _ S3.out.row hn hnc hm (by omega) (by omega) (HR.out _ S3.out.asd)) ?_
  rw [h3]
  rintro e w4 ⟨rfl, hrow4, ha4⟩
  have T4 := Lib.hid (S3.out.next hrow4 ha4)
  have S4 := Lib.hid (T4.out.set 3 (.string ⟨x3.toArray⟩))
  have hc := T4.out.box.cell 3
  have hf := T4.out.box.free 3
  clear hrow4 ha4
  have Hb : Row (w4.setCell ⟨w.heap.size + 1, 3, none⟩ (.string ⟨x3.toArray⟩)) (w.heap.size + 1) #[.int .i64 x0, .int .i64 x1, .int .i64 x2, .string ⟨x3.toArray⟩] 79 := S4.out.box
  have g0 := Hb.cell 0
  have g1 := Hb.cell 1
  have g2 := Hb.cell 2
  have g3 := Hb.cell 3
  have f0 := S4.out.res.free 0
  have r0 := S4.out.res.cell 0
  have f1 := S4.out.res.free 1
  have r1 := S4.out.res.cell 1
  have f2 := S4.out.res.free 2
  have r2 := S4.out.res.cell 2
  have f3 := S4.out.res.free 3
  have r3 := S4.out.res.cell 3
  clear Hb
  go_wp2_with fail
  have HF := Lib.hid (((((S4.out).put 0 (.int .i64 x0)).put 1 (.int .i64 x1)).put 2 (.int .i64 x2)).put 3 (.string ⟨x3.toArray⟩))
  have HW : Row _ w.heap.size #[.int .i64 x0, .int .i64 x1, .int .i64 x2, .string ⟨x3.toArray⟩] 79 := HF.out.res
  exact bodyPost_ret (v := .agg #[.int .i64 x0, .int .i64 x1, .int .i64 x2, .string ⟨x3.toArray⟩]) (results1 Tryz.results146 _ _ _ _ rfl (run_loadVar_row _ _ _ _ #[.int .i64 x0, .int .i64 x1, .int .i64 x2, .string ⟨x3.toArray⟩] (0, 0) _ HW Tryz.underlying79 rfl sizeHand)) rfl ⟨rfl, HF.out.row, HF.out.asd⟩

theorem flat_split {α β : Type} (f : α → List β) (xs : List α) (j : Nat) (hj : j < xs.length) : xs.flatMap f = (xs.take j).flatMap f ++ (f xs[j] ++ (xs.drop (j + 1)).flatMap f) := by
  have h : xs.flatMap f = (xs.take j ++ xs.drop j).flatMap f := by rw [List.take_append_drop]
  rw [h, List.flatMap_append, List.drop_eq_getElem_cons hj, List.flatMap_cons]
theorem flat_succ {α β : Type} (f : α → List β) (xs : List α) (j : Nat) (hj : j < xs.length) : (xs.take (j + 1)).flatMap f = (xs.take j).flatMap f ++ f xs[j] := by
  rw [List.take_succ_eq_append_getElem hj, List.flatMap_append, List.flatMap_cons, List.flatMap_nil, List.append_nil]
/-- where the parts of what is read stand -/
theorem at_field {l pre rest : List UInt8} {xs : List FldT} {j : Nat} (hj : j < xs.length) (hl : l = pre ++ (xs.flatMap fldB ++ rest)) (h1 : xs[j].name.length ≤ 256) (h2 : xs[j].desc.length ≤ 256) :
    getT l ((pre ++ (xs.take j).flatMap fldB).length : Int) 256 = (xs[j].name, (((pre ++ (xs.take j).flatMap fldB) ++ txt xs[j].name).length : Int), 0) ∧
    getT l (((pre ++ (xs.take j).flatMap fldB) ++ txt xs[j].name).length : Int) 256 = (xs[j].desc, ((pre ++ (xs.take (j + 1)).flatMap fldB).length : Int), 0) := by
  rw [flat_split fldB xs j hj] at hl
  rw [flat_succ fldB xs j hj]
  rw [show fldB xs[j] = txt xs[j].name ++ txt xs[j].desc from rfl] at hl ⊢
  generalize (xs.drop (j + 1)).flatMap fldB = U at *
  rw [← List.append_assoc]
  have hl2 : l = (pre ++ (xs.take j).flatMap fldB) ++ (txt xs[j].name ++ (txt xs[j].desc ++ (U ++ rest))) := by rw [hl]; simp only [List.append_assoc]
  generalize pre ++ (xs.take j).flatMap fldB = P at *
  refine ⟨?_, ?_⟩
  · rw [hl2]; exact txt_full _ _ _ 256 (by omega) (by omega)
  · rw [hl2, show P ++ (txt xs[j].name ++ (txt xs[j].desc ++ (U ++ rest))) = (P ++ txt xs[j].name) ++ (txt xs[j].desc ++ (U ++ rest)) by simp only [List.append_assoc]]
    rw [txt_full _ _ _ 256 (by omega) (by omega)]
    simp only [List.append_assoc]
theorem at_hand {l pre rest : List UInt8} {xs : List HndT} {j : Nat} (hj : j < xs.length) (hl : l = pre ++ (xs.flatMap hndB ++ rest)) (h1 : xs[j].cls.length ≤ 256) (hf : fitI xs[j].frm ∧ fitI xs[j].til ∧ fitI xs[j].pos) :
    getS l ((pre ++ (xs.take j).flatMap hndB).length : Int) = (xs[j].frm, (((pre ++ (xs.take j).flatMap hndB) ++ num xs[j].frm).length : Int), 0) ∧
    getS l (((pre ++ (xs.take j).flatMap hndB) ++ num xs[j].frm).length : Int) = (xs[j].til, ((((pre ++ (xs.take j).flatMap hndB) ++ num xs[j].frm) ++ num xs[j].til).length : Int), 0) ∧
    getS l ((((pre ++ (xs.take j).flatMap hndB) ++ num xs[j].frm) ++ num xs[j].til).length : Int) = (xs[j].pos, (((((pre ++ (xs.take j).flatMap hndB) ++ num xs[j].frm) ++ num xs[j].til) ++ num xs[j].pos).length : Int), 0) ∧
    getT l (((((pre ++ (xs.take j).flatMap hndB) ++ num xs[j].frm) ++ num xs[j].til) ++ num xs[j].pos).length : Int) 256 = (xs[j].cls, ((pre ++ (xs.take (j + 1)).flatMap hndB).length : Int), 0) := by
  have eh : hndB xs[j] = num xs[j].frm ++ num xs[j].til ++ num xs[j].pos ++ txt xs[j].cls := by simp [hndB, BinAll.nums]
  rw [flat_split hndB xs j hj] at hl
  rw [flat_succ hndB xs j hj]
  rw [eh] at hl ⊢
  generalize (xs.drop (j + 1)).flatMap hndB = U at *
  rw [← List.append_assoc]
  have hl2 : l = (pre ++ (xs.take j).flatMap hndB) ++ (num xs[j].frm ++ (num xs[j].til ++ (num xs[j].pos ++ (txt xs[j].cls ++ (U ++ rest))))) := by rw [hl]; simp only [List.append_assoc]
  generalize pre ++ (xs.take j).flatMap hndB = P at *
  obtain ⟨hf1, hf2, hf3⟩ := hf
  unfold fitI at hf1 hf2 hf3
  refine ⟨?_, ?_, ?_, ?_⟩
  · rw [hl2]; exact getS_numr hf1.1 hf1.2 _ _
  · rw [hl2, show P ++ (num xs[j].frm ++ (num xs[j].til ++ (num xs[j].pos ++ (txt xs[j].cls ++ (U ++ rest))))) = (P ++ num xs[j].frm) ++ (num xs[j].til ++ (num xs[j].pos ++ (txt xs[j].cls ++ (U ++ rest)))) by simp only [List.append_assoc]]
    exact getS_numr hf2.1 hf2.2 _ _
  · rw [hl2, show P ++ (num xs[j].frm ++ (num xs[j].til ++ (num xs[j].pos ++ (txt xs[j].cls ++ (U ++ rest))))) = ((P ++ num xs[j].frm) ++ num xs[j].til) ++ (num xs[j].pos ++ (txt xs[j].cls ++ (U ++ rest))) by simp only [List.append_assoc]]
    exact getS_numr hf3.1 hf3.2 _ _
  · rw [hl2, show P ++ (num xs[j].frm ++ (num xs[j].til ++ (num xs[j].pos ++ (txt xs[j].cls ++ (U ++ rest))))) = (((P ++ num xs[j].frm) ++ num xs[j].til) ++ num xs[j].pos) ++ (txt xs[j].cls ++ (U ++ rest)) by simp only [List.append_assoc]]
    rw [txt_full _ _ _ 256 (by omega) (by omega)]
    simp only [List.append_assoc]
theorem len_take {α : Type} {l pre rest : List UInt8} {xs : List α} {f : α → List UInt8} (hl : l = pre ++ (xs.flatMap f ++ rest)) (j : Nat) : (pre ++ (xs.take j).flatMap f).length ≤ l.length := by
  have e0 : xs.flatMap f = (xs.take j).flatMap f ++ (xs.drop j).flatMap f := by rw [← List.flatMap_append, List.take_append_drop]
  rw [hl, e0]
  simp only [List.length_append]
  omega

/-- Field structs in a row of the call's own -/
def OwnField (w : World) (base : Nat) (v : Value) (l : List FldT) : Prop := w.ownsRow base 67 2 v l.length (l.flatMap FldT.vals)
theorem OwnField.nil (w : World) (base : Nat) : OwnField w base (.slice none 0 0) [] := World.ownsRow_nil _ _ _ _
theorem infoField : (Tryz.prog.info? 67).map (fun i => (i.zero, i.size, i.bytes)) = some (some (.agg #[.string ⟨#[]⟩, .string ⟨#[]⟩]), 2, 32) := by kernel_rfl
theorem oneField {l : List FldT} : ∀ u ∈ l.flatMap FldT.vals, u.oneCell' = true := by
  intro u hu
  obtain ⟨c, _, hc⟩ := List.mem_flatMap.1 hu
  simp only [FldT.vals, List.mem_cons, List.mem_nil_iff, or_false] at hc
  rcases hc with rfl | rfl <;> rfl
theorem appField {ops : Array Oper} {rest : List Oper} {o : Oper} {a : Act} {w : World} {Q : Exit → Act → World → Prop} (hgd : o.guard = none) (s x : Operand)
    (ho : o.op = .call { callee := .builtin .append, args := #[s, x], argTypes := #[23, 23] })
    (base : Nat) (v : Value) (p : List FldT) (hs : a.eval s = v) (hown : OwnField w base v p) (A : Option Addr) (m c : Nat) (l : List FldT) (hx : a.eval x = .slice A m c)
    (hm : m = l.length) (hr : Rds w A (l.flatMap FldT.vals)) (hlen : p.length + l.length ≤ 100000) (hbase : base ≤ w.heap.size)
    (h : ∀ v' w', OwnField w' base v' (p ++ l) → w.grownBy w' v.ownBlock → wpList Tryz.prog ops Q rest (a.put o.dst v') w') : wpList Tryz.prog ops Q (o :: rest) a w := by
  obtain ⟨i0, hi, hz, hs1, hb1⟩ := info_parts infoField
  refine wpList_append_rdsN hgd s x 23 ho base 67 i0 _ 2 32 Tryz.underlying23 hi hz hs1 hb1 rfl (by omega) v p.length (p.flatMap FldT.vals) hs hown A m c (l.flatMap FldT.vals) hx (by rw [flat_len FldT.vals 2 (fun _ => rfl), hm]) hr oneField (by unfold maxLen; omega) (by omega) hbase ?_
  intro v' w' h1 h2
  refine h v' w' ?_ h2
  unfold OwnField
  rw [List.flatMap_append, List.length_append, ← hm]
  exact h1

set_option maxRecDepth 100000 in
set_option maxHeartbeats 8000000 in
theorem listField_any (g : Nat) (A : Option Addr) (l : List UInt8) (n cap : Nat) (p : Nat) (ty : TypeId) (w : World) (hrow : Row w g #[.slice A n cap, .int .i64 (p : Int), .int .i64 0] ty) (xs : List FldT) (pre rest : List UInt8)
    (hn : n = l.length) (hnc : n ≤ cap) (hm : cap ≤ maxLen) (hr : Rds w A (cells8 l)) (hne : ∀ a, A = some a → a.block ≠ g) (hp : p ≤ 1000000) (hlen : l.length ≤ 100000) (hl : l = pre ++ (xs.flatMap fldB ++ rest)) (hg : getS l (p : Int) = ((xs.length : Int), (pre.length : Int), 0)) (hmx : xs.length ≤ 16) (hx : ∀ x ∈ xs, x.name.length ≤ 256 ∧ x.desc.length ≤ 256) :
    Calls Tryz.prog 107 #[.pointer (some ⟨g, 0, none⟩), .int .i64 16, .func (.func 108) #[.pointer (some ⟨g, 0, none⟩)] #[]] w
      fun e w' => ∃ v, e = .returned v ∧ OwnField w' w.heap.size v xs ∧ Row w' g #[.slice A n cap, .int .i64 ((pre ++ xs.flatMap fldB).length : Int), .int .i64 0] ty ∧ Part.Aside g w w' := by
  have hnx := readNum_any g A l n cap p 16 6 (xs.length : Int) (pre.length : Int) ty w hrow hn hnc hm (by omega) (by omega) hr hg (by omega) (by omega)
  have Hnx := Lib.hid hnx
  have hgl := hrow.lt
  have Hstep := Lib.hid (fun (j : Nat) (hj : j < xs.length) (W : World) (ha : Part.Aside g w W) (hrw : Row W g #[.slice A n cap, .int .i64 ((pre ++ (xs.take j).flatMap fldB).length : Int), .int .i64 0] ty) => field_any g A l n cap _ _ _ ty W hrw xs[j] hn hnc hm (rds_aside hr hne ha) hne (by have := len_take hl j; omega) (by have := len_take hl (j + 1); rw [flat_succ fldB xs j hj] at this; simp only [fldB, List.length_append] at this ⊢; omega) (at_field hj hl (hx _ (List.getElem_mem hj)).1 (hx _ (List.getElem_mem hj)).2).1 (at_field hj hl (hx _ (List.getElem_mem hj)).1 (hx _ (List.getElem_mem hj)).2).2)
  have Hn := Lib.hid (show (pre ++ xs.flatMap fldB).length ≤ l.length by rw [hl]; simp)
  clear hnx hr hrow hg hx hn hnc hm hne hl
  go_enter Tryz.func107, Tryz.ntmps107
  go_wp2_with fail
  refine Calls.mono Hnx.out ?_
  rintro ee w3 ⟨rfl, hrow3, ha3⟩
  have H3 := Lib.hid hrow3
  have A3 := Lib.hid ha3
  clear hrow3 ha3
  go_wp2_with fail
  go_loopw [7, 11] (fun v i wr => ∃ j : Nat, j ≤ xs.length ∧ i = .int .i64 j ∧ OwnField wr w.heap.size v (xs.take j) ∧ Row wr g #[.slice A n cap, .int .i64 ((pre ++ (xs.take j).flatMap fldB).length : Int), .int .i64 0] ty ∧ Part.Aside g w wr) (fun _ i _ => xs.length - (intOf i).toNat)
  case atStart => exact ⟨0, Nat.zero_le _, rfl, OwnField.nil _ _, by rw [List.take_zero, List.flatMap_nil, List.append_nil]; exact H3.out, A3.out⟩
  case round =>
    obtain ⟨j, hj, rfl, hown, hrw, ha⟩ := hrel
    have Hown := Lib.hid hown
    have Hrw := Lib.hid hrw
    have Ha := Lib.hid ha
    have hsz := ha.bel.size
    have hsw := size_aside ha
    clear hown hrw ha
    by_cases hlt : j < xs.length
    · have hc := Hstep.out j hlt wr Ha.out Hrw.out
      have Ht := Lib.hid (show xs.take (j + 1) = xs.take j ++ [xs[j]] from List.take_succ_eq_append_getElem hlt)
      have hj1 : (j : Int) < (xs.length : Int) := by omega
      generalize xs[j] = x at *
      obtain ⟨x0, x1⟩ := x
      simp only [FldT.V] at hc
      have Hc := Lib.hid hc
      clear hc
      go_wp2_with fail
      refine Calls.mono Hc.out ?_
      rintro e w5 ⟨rfl, hrow5, ha5⟩
      have R5 := Lib.hid hrow5
      have A5 := Lib.hid (Ha.out.trans ha5)
      have O5 := Lib.hid (own_aside Hown.out ha5 (by omega))
      have hs5 := size_aside A5.out
      clear hrow5 ha5
      go_wp2_with (at_builtin
                   have HB := (Below.refl w5.heap.size w5).alloc (Nat.le_refl _) (.cells #[.string ⟨x0.toArray⟩, .string ⟨x1.toArray⟩] 67)
                   have hrd := rds_new w5 #[.string ⟨x0.toArray⟩, .string ⟨x1.toArray⟩] 67
                   refine appField rfl (.tmp 13) (.tmp 16) rfl w.heap.size _ (xs.take j) rfl (own_below' O5.out HB) (some ⟨w5.heap.size, 0, none⟩) 1 1 [⟨x0, x1⟩] rfl rfl hrd (by simp; omega) (by simp; omega) ?_
                   intro v7 w7 hown7 hg7
                   have B7 := Lib.hid ((HB.mono hs5).trans (below_own (B := w.heap.size) (Below.refl _ _) (own_below' O5.out HB) (Nat.le_refl _) (by simp; omega) hg7))
                   have O7 := Lib.hid hown7
                   clear hown7 hg7 HB hrd)
      go_roundw
      case rel => exact ⟨j + 1, by omega, by go_num, by rw [Ht.out]; exact O7.out, R5.out.below B7.out hgl, A5.out.plus B7.out (Nat.le_of_lt hgl)⟩
      case measure => simp [intOf]; omega
    · have e : xs.take j = xs := List.take_of_length_le (by omega)
      rw [e] at Hown Hrw
      go_wp2_with fail
      go_ret
      exact ⟨_, rfl, Hown.out, Hrw.out, Ha.out⟩

/-- Hand structs in a row of the call's own -/
def OwnHand (w : World) (base : Nat) (v : Value) (l : List HndT) : Prop := w.ownsRow base 79 4 v l.length (l.flatMap HndT.vals)
theorem OwnHand.nil (w : World) (base : Nat) : OwnHand w base (.slice none 0 0) [] := World.ownsRow_nil _ _ _ _
theorem infoHand : (Tryz.prog.info? 79).map (fun i => (i.zero, i.size, i.bytes)) = some (some (.agg #[.int .i64 0, .int .i64 0, .int .i64 0, .string ⟨#[]⟩]), 4, 40) := by kernel_rfl
theorem oneHand {l : List HndT} : ∀ u ∈ l.flatMap HndT.vals, u.oneCell' = true := by
  intro u hu
  obtain ⟨c, _, hc⟩ := List.mem_flatMap.1 hu
  simp only [HndT.vals, List.mem_cons, List.mem_nil_iff, or_false] at hc
  rcases hc with rfl | rfl | rfl | rfl <;> rfl
theorem appHand {ops : Array Oper} {rest : List Oper} {o : Oper} {a : Act} {w : World} {Q : Exit → Act → World → Prop} (hgd : o.guard = none) (s x : Operand)
    (ho : o.op = .call { callee := .builtin .append, args := #[s, x], argTypes := #[60, 60] })
    (base : Nat) (v : Value) (p : List HndT) (hs : a.eval s = v) (hown : OwnHand w base v p) (A : Option Addr) (m c : Nat) (l : List HndT) (hx : a.eval x = .slice A m c)
    (hm : m = l.length) (hr : Rds w A (l.flatMap HndT.vals)) (hlen : p.length + l.length ≤ 100000) (hbase : base ≤ w.heap.size)
    (h : ∀ v' w', OwnHand w' base v' (p ++ l) → w.grownBy w' v.ownBlock → wpList Tryz.prog ops Q rest (a.put o.dst v') w') : wpList Tryz.prog ops Q (o :: rest) a w := by
  obtain ⟨i0, hi, hz, hs1, hb1⟩ := info_parts infoHand
  refine wpList_append_rdsN hgd s x 60 ho base 79 i0 _ 4 40 Tryz.underlying60 hi hz hs1 hb1 rfl (by omega) v p.length (p.flatMap HndT.vals) hs hown A m c (l.flatMap HndT.vals) hx (by rw [flat_len HndT.vals 4 (fun _ => rfl), hm]) hr oneHand (by unfold maxLen; omega) (by omega) hbase ?_
  intro v' w' h1 h2
  refine h v' w' ?_ h2
  unfold OwnHand
  rw [List.flatMap_append, List.length_append, ← hm]
  exact h1

set_option maxRecDepth 100000 in
set_option maxHeartbeats 8000000 in
theorem listHand_any (g : Nat) (A : Option Addr) (l : List UInt8) (n cap : Nat) (p : Nat) (ty : TypeId) (w : World) (hrow : Row w g #[.slice A n cap, .int .i64 (p : Int), .int .i64 0] ty) (xs : List HndT) (pre rest : List UInt8)
    (hn : n = l.length) (hnc : n ≤ cap) (hm : cap ≤ maxLen) (hr : Rds w A (cells8 l)) (hne : ∀ a, A = some a → a.block ≠ g) (hp : p ≤ 1000000) (hlen : l.length ≤ 100000) (hl : l = pre ++ (xs.flatMap hndB ++ rest)) (hg : getS l (p : Int) = ((xs.length : Int), (pre.length : Int), 0)) (hmx : xs.length ≤ 8) (hx : ∀ x ∈ xs, x.cls.length ≤ 256 ∧ (fitI x.frm ∧ fitI x.til ∧ fitI x.pos) ∧ (0 ≤ x.frm ∧ x.frm ≤ 65535) ∧ (0 ≤ x.til ∧ x.til ≤ 65535) ∧ 0 ≤ x.pos ∧ x.pos ≤ 65535) :
    Calls Tryz.prog 145 #[.pointer (some ⟨g, 0, none⟩), .int .i64 8, .func (.func 146) #[.pointer (some ⟨g, 0, none⟩)] #[]] w
      fun e w' => ∃ v, e = .returned v ∧ OwnHand w' w.heap.size v xs ∧ Row w' g #[.slice A n cap, .int .i64 ((pre ++ xs.flatMap hndB).length : Int), .int .i64 0] ty ∧ Part.Aside g w w' := by
  have hnx := readNum_any g A l n cap p 8 6 (xs.length : Int) (pre.length : Int) ty w hrow hn hnc hm (by omega) (by omega) hr hg (by omega) (by omega)
  have Hnx := Lib.hid hnx
  have hgl := hrow.lt
  have Hstep := Lib.hid (fun (j : Nat) (hj : j < xs.length) (W : World) (ha : Part.Aside g w W) (hrw : Row W g #[.slice A n cap, .int .i64 ((pre ++ (xs.take j).flatMap hndB).length : Int), .int .i64 0] ty) => hand_any g A l n cap _ _ _ _ _ ty W hrw xs[j] hn hnc hm (rds_aside hr hne ha) hne (by have := len_take hl j; omega) (by have := len_take hl (j + 1); rw [flat_succ hndB xs j hj] at this; simp only [hndB, BinAll.nums, List.flatMap_cons, List.flatMap_nil, List.append_nil, List.length_append] at this ⊢; omega) (by have := len_take hl (j + 1); rw [flat_succ hndB xs j hj] at this; simp only [hndB, BinAll.nums, List.flatMap_cons, List.flatMap_nil, List.append_nil, List.length_append] at this ⊢; omega) (by have := len_take hl (j + 1); rw [flat_succ hndB xs j hj] at this; simp only [hndB, BinAll.nums, List.flatMap_cons, List.flatMap_nil, List.append_nil, List.length_append] at this ⊢; omega) (at_hand hj hl (hx _ (List.getElem_mem hj)).1 (hx _ (List.getElem_mem hj)).2.1).1 (at_hand hj hl (hx _ (List.getElem_mem hj)).1 (hx _ (List.getElem_mem hj)).2.1).2.1 (at_hand hj hl (hx _ (List.getElem_mem hj)).1 (hx _ (List.getElem_mem hj)).2.1).2.2.1 (at_hand hj hl (hx _ (List.getElem_mem hj)).1 (hx _ (List.getElem_mem hj)).2.1).2.2.2 (hx _ (List.getElem_mem hj)).2.2)
  have Hn := Lib.hid (show (pre ++ xs.flatMap hndB).length ≤ l.length by rw [hl]; simp)
  clear hnx hr hrow hg hx hn hnc hm hne hl
  go_enter Tryz.func145, Tryz.ntmps145
  go_wp2_with fail
  refine Calls.mono Hnx.out ?_
  rintro ee w3 ⟨rfl, hrow3, ha3⟩
  have H3 := Lib.hid hrow3
  have A3 := Lib.hid ha3
  clear hrow3 ha3
  go_wp2_with fail
  go_loopw [7, 11] (fun v i wr => ∃ j : Nat, j ≤ xs.length ∧ i = .int .i64 j ∧ OwnHand wr w.heap.size v (xs.take j) ∧ Row wr g #[.slice A n cap, .int .i64 ((pre ++ (xs.take j).flatMap hndB).length : Int), .int .i64 0] ty ∧ Part.Aside g w wr) (fun _ i _ => xs.length - (intOf i).toNat)
  case atStart => exact ⟨0, Nat.zero_le _, rfl, OwnHand.nil _ _, by rw [List.take_zero, List.flatMap_nil, List.append_nil]; exact H3.out, A3.out⟩
  case round =>
    obtain ⟨j, hj, rfl, hown, hrw, ha⟩ := hrel
    have Hown := Lib.hid hown
    have Hrw := Lib.hid hrw
    have Ha := Lib.hid ha
    have hsz := ha.bel.size
    have hsw := size_aside ha
    clear hown hrw ha
    by_cases hlt : j < xs.length
    · have hc := Hstep.out j hlt wr Ha.out Hrw.out
      have Ht := Lib.hid (show xs.take (j + 1) = xs.take j ++ [xs[j]] from List.take_succ_eq_append_getElem hlt)
      have hj1 : (j : Int) < (xs.length : Int) := by omega
      generalize xs[j] = x at *
      obtain ⟨x0, x1, x2, x3⟩ := x
      simp only [HndT.V] at hc
      have Hc := Lib.hid hc
      clear hc
      go_wp2_with fail
      refine Calls.mono Hc.out ?_
      rintro e w5 ⟨rfl, hrow5, ha5⟩
      have R5 := Lib.hid hrow5
      have A5 := Lib.hid (Ha.out.trans ha5)
      have O5 := Lib.hid (own_aside Hown.out ha5 (by omega))
      have hs5 := size_aside A5.out
      clear hrow5 ha5
      go_wp2_with (at_builtin
                   have HB := (Below.refl w5.heap.size w5).alloc (Nat.le_refl _) (.cells #[.int .i64 x0, .int .i64 x1, .int .i64 x2, .string ⟨x3.toArray⟩] 79)
                   have hrd := rds_new w5 #[.int .i64 x0, .int .i64 x1, .int .i64 x2, .string ⟨x3.toArray⟩] 79
                   refine appHand rfl (.tmp 13) (.tmp 16) rfl w.heap.size _ (xs.take j) rfl (own_below' O5.out HB) (some ⟨w5.heap.size, 0, none⟩) 1 1 [⟨x0, x1, x2, x3⟩] rfl rfl hrd (by simp; omega) (by simp; omega) ?_
                   intro v7 w7 hown7 hg7
                   have B7 := Lib.hid ((HB.mono hs5).trans (below_own (B := w.heap.size) (Below.refl _ _) (own_below' O5.out HB) (Nat.le_refl _) (by simp; omega) hg7))
                   have O7 := Lib.hid hown7
                   clear hown7 hg7 HB hrd)
      go_roundw
      case rel => exact ⟨j + 1, by omega, by go_num, by rw [Ht.out]; exact O7.out, R5.out.below B7.out hgl, A5.out.plus B7.out (Nat.le_of_lt hgl)⟩
      case measure => simp [intOf]; omega
    · have e : xs.take j = xs := List.take_of_length_le (by omega)
      rw [e] at Hown Hrw
      go_wp2_with fail
      go_ret
      exact ⟨_, rfl, Hown.out, Hrw.out, Ha.out⟩

end KlsY
end Go.Proofs.YthkkcecfenohjaaGreatDoor
