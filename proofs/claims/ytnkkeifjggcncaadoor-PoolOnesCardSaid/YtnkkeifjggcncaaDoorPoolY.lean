/-
  The document's own Get of a constant: what it returns, for all bytes at every place.
-/
import Derived.Test.YtnkkeifjggcncaaDoorPoolT
namespace Go.Proofs.YtnkkeifjggcncaaDoor
namespace PoolY
open Go.RowKit Base BinM BinE BinText BinGet DescM Stru PoolM PoolA PoolB PoolS PoolT
open PoolC (poolRefRight_any)
open RefGet (refGet_any)

/-- a row of five cells that was made and can be written -/
def Row5 (wr : World) (g : Nat) (C : Array Value) : Prop := wr.heap[g]? = some (.cells C 24 (0, 0))
theorem Row5.lt {wr : World} {g : Nat} {C : Array Value} (h : Row5 wr g C) : g < wr.heap.size := (Array.getElem?_eq_some_iff.1 h).1
theorem Row5.after {wr w3 : World} {g : Nat} {C : Array Value} (h : Row5 wr g C) (hb : Below wr.heap.size wr w3) : Row5 w3 g C := (hb.block _ h.lt).trans h
theorem Row5.new (wr : World) (C : Array Value) : Row5 (wr.alloc (.cells C 24)) wr.heap.size C := heap_alloc_new wr _
theorem Row5.alloc {wr : World} {g : Nat} {C : Array Value} (h : Row5 wr g C) (o : Obj) : Row5 (wr.alloc o) g C := h.after ((Below.refl wr.heap.size wr).alloc (Nat.le_refl _) o)
theorem Row5.set {wr : World} {g : Nat} {C : Array Value} (h : Row5 wr g C) (j : Nat) (v : Value) : Row5 (wr.setCell ⟨g, j, none⟩ v) g (C.setIfInBounds j v) := heap_setCell_same _ _ j _ _ v h
theorem Row5.other {wr : World} {g g' : Nat} {C : Array Value} (h : Row5 wr g C) (hg : g ≠ g') (j : Nat) (v : Value) : Row5 (wr.setCell ⟨g', j, none⟩ v) g C := (heap_setCell_other _ _ _ _ hg).trans h
theorem Row5.free {wr : World} {g : Nat} {C : Array Value} (h : Row5 wr g C) (j : Nat) : wr.frozen? ⟨g, j, none⟩ = false := frozen_of_row wr _ j _ _ h
theorem Row5.box {wr : World} {g : Nat} {k n : Int} {s t u : List UInt8} (h : Row5 wr g #[.int .i64 k, .int .i64 n, .string ⟨s.toArray⟩, .string ⟨t.toArray⟩, .string ⟨u.toArray⟩]) : boxC wr g k n s t u := by
  refine ⟨?_, ?_, ?_, ?_, ?_⟩
  all_goals (rw [cell_of_row _ _ _ _ _ (0, 0) h]; rfl)
theorem Row5.five {w wr : World} {C : Array Value} (h : Row5 wr w.heap.size C) (hC : C.size = 5) (hb : Below w.heap.size w wr) (k n : Int) (s t u : List UInt8) :
    (loadVar 24 ⟨w.heap.size, 0, none⟩).run Tryd.prog (((((wr.setCell ⟨w.heap.size, 0, none⟩ (.int .i64 k)).setCell ⟨w.heap.size, 1, none⟩ (.int .i64 n)).setCell ⟨w.heap.size, 2, none⟩ (.string ⟨s.toArray⟩)).setCell ⟨w.heap.size, 3, none⟩ (.string ⟨t.toArray⟩)).setCell ⟨w.heap.size, 4, none⟩ (.string ⟨u.toArray⟩)) =
      .ok (cstV ⟨k, n, s, t, u⟩) (((((wr.setCell ⟨w.heap.size, 0, none⟩ (.int .i64 k)).setCell ⟨w.heap.size, 1, none⟩ (.int .i64 n)).setCell ⟨w.heap.size, 2, none⟩ (.string ⟨s.toArray⟩)).setCell ⟨w.heap.size, 3, none⟩ (.string ⟨t.toArray⟩)).setCell ⟨w.heap.size, 4, none⟩ (.string ⟨u.toArray⟩)) ∧
    Below w.heap.size w (((((wr.setCell ⟨w.heap.size, 0, none⟩ (.int .i64 k)).setCell ⟨w.heap.size, 1, none⟩ (.int .i64 n)).setCell ⟨w.heap.size, 2, none⟩ (.string ⟨s.toArray⟩)).setCell ⟨w.heap.size, 3, none⟩ (.string ⟨t.toArray⟩)).setCell ⟨w.heap.size, 4, none⟩ (.string ⟨u.toArray⟩)) := by
  obtain ⟨c0, c1, c2, c3, c4, rfl⟩ : ∃ c0 c1 c2 c3 c4, C = #[c0, c1, c2, c3, c4] := by
    obtain ⟨l⟩ := C
    match l, hC with
    | [c0, c1, c2, c3, c4], _ => exact ⟨c0, c1, c2, c3, c4, rfl⟩
  have h0 := h.set 0 (.int .i64 k)
  have h1 := h0.set 1 (.int .i64 n)
  have h2 := h1.set 2 (.string ⟨s.toArray⟩)
  have h3 := h2.set 3 (.string ⟨t.toArray⟩)
  have h4 := h3.set 4 (.string ⟨u.toArray⟩)
  refine ⟨?_, ((((hb.setCell (Nat.le_refl _) _).setCell (Nat.le_refl _) _).setCell (Nat.le_refl _) _).setCell (Nat.le_refl _) _).setCell (Nat.le_refl _) _⟩
  exact run_loadVar_row _ _ _ _ #[.int .i64 k, .int .i64 n, .string ⟨s.toArray⟩, .string ⟨t.toArray⟩, .string ⟨u.toArray⟩] (0, 0) _ h4 Tryd.underlying24 rfl sizeC

/-- what the walk holds behind the first call: the result's box, and those below -/
structure St (w w1 wr : World) (C : Array Value) : Prop where
  res : Row5 wr w.heap.size #[.int .i64 0, .int .i64 0, .string ⟨#[]⟩, .string ⟨#[]⟩, .string ⟨#[]⟩]
  non : Row5 wr w1.heap.size #[.int .i64 0, .int .i64 0, .string ⟨#[]⟩, .string ⟨#[]⟩, .string ⟨#[]⟩]
  box : Row5 wr (w1.heap.size + 1) C
  bel : Below w.heap.size w wr
theorem St.start {w w1 : World} (hb : Below (w.alloc (.cells #[.int .i64 0, .int .i64 0, .string ⟨#[]⟩, .string ⟨#[]⟩, .string ⟨#[]⟩] 24)).heap.size (w.alloc (.cells #[.int .i64 0, .int .i64 0, .string ⟨#[]⟩, .string ⟨#[]⟩, .string ⟨#[]⟩] 24)) w1) (C : Array Value) : St w w1 ((w1.alloc (.cells #[.int .i64 0, .int .i64 0, .string ⟨#[]⟩, .string ⟨#[]⟩, .string ⟨#[]⟩] 24)).alloc (.cells C 24)) C := by
  have h0 := (Row5.new w #[.int .i64 0, .int .i64 0, .string ⟨#[]⟩, .string ⟨#[]⟩, .string ⟨#[]⟩]).after hb
  have h1 := Row5.new w1 #[.int .i64 0, .int .i64 0, .string ⟨#[]⟩, .string ⟨#[]⟩, .string ⟨#[]⟩]
  have h2 := Row5.new (w1.alloc (.cells #[.int .i64 0, .int .i64 0, .string ⟨#[]⟩, .string ⟨#[]⟩, .string ⟨#[]⟩] 24)) C
  have hsz : (w1.alloc (.cells #[.int .i64 0, .int .i64 0, .string ⟨#[]⟩, .string ⟨#[]⟩, .string ⟨#[]⟩] 24)).heap.size = w1.heap.size + 1 := by simp
  rw [hsz] at h2
  have hle : w.heap.size ≤ w1.heap.size := by have := hb.size; simp at this; omega
  exact ⟨(h0.alloc _).alloc _, h1.alloc _, h2, ((((Below.refl w.heap.size w).alloc (Nat.le_refl _) _).trans (hb.mono (by simp))).alloc hle _).alloc (by simp; omega) _⟩
theorem St.after {w w1 wr w3 : World} {C : Array Value} (h : St w w1 wr C) (hb : Below wr.heap.size wr w3) : St w w1 w3 C :=
  ⟨h.res.after hb, h.non.after hb, h.box.after hb, h.bel.trans (hb.mono h.bel.size)⟩
theorem St.set {w w1 wr : World} {C : Array Value} (h : St w w1 wr C) (hl : w.heap.size < w1.heap.size) (j : Nat) (v : Value) : St w w1 (wr.setCell ⟨w1.heap.size + 1, j, none⟩ v) (C.setIfInBounds j v) :=
  ⟨h.res.other (by omega) _ _, h.non.other (by omega) _ _, h.box.set j v, h.bel.setCell (by show _ ≤ w1.heap.size + 1; omega) v⟩
theorem lt_start {w w1 : World} (hb : Below (w.alloc (.cells #[.int .i64 0, .int .i64 0, .string ⟨#[]⟩, .string ⟨#[]⟩, .string ⟨#[]⟩] 24)).heap.size (w.alloc (.cells #[.int .i64 0, .int .i64 0, .string ⟨#[]⟩, .string ⟨#[]⟩, .string ⟨#[]⟩] 24)) w1) : w.heap.size < w1.heap.size := by have := hb.size; simp at this; omega
theorem first_box {w w1 : World} (hb : Below (w.alloc (.cells #[.int .i64 0, .int .i64 0, .string ⟨#[]⟩, .string ⟨#[]⟩, .string ⟨#[]⟩] 24)).heap.size (w.alloc (.cells #[.int .i64 0, .int .i64 0, .string ⟨#[]⟩, .string ⟨#[]⟩, .string ⟨#[]⟩] 24)) w1) : Row5 (w1.alloc (.cells #[.int .i64 0, .int .i64 0, .string ⟨#[]⟩, .string ⟨#[]⟩, .string ⟨#[]⟩] 24)) w.heap.size #[.int .i64 0, .int .i64 0, .string ⟨#[]⟩, .string ⟨#[]⟩, .string ⟨#[]⟩] ∧ Below w.heap.size w (w1.alloc (.cells #[.int .i64 0, .int .i64 0, .string ⟨#[]⟩, .string ⟨#[]⟩, .string ⟨#[]⟩] 24)) := by
  have h0 := (Row5.new w #[.int .i64 0, .int .i64 0, .string ⟨#[]⟩, .string ⟨#[]⟩, .string ⟨#[]⟩]).after hb
  have hle : w.heap.size ≤ w1.heap.size := by have := hb.size; simp at this; omega
  exact ⟨h0.alloc _, (((Below.refl w.heap.size w).alloc (Nat.le_refl _) _).trans (hb.mono (by simp))).alloc hle _⟩


set_option maxRecDepth 100000 in
set_option maxHeartbeats 16000000 in
theorem poolRefGet_any (A : Option Addr) (l : List UInt8) (n cap : Nat) (a : Int) (w : World) (hn : n = l.length) (hnc : n ≤ cap) (hm : cap ≤ maxLen) (ha0 : -9223372036854775808 ≤ a) (ha1 : a ≤ 9223372036854775807) (hr : Rds w A (cells8 l)) :
    Calls Tryd.prog 14 #[.slice A n cap, .int .i64 a] w (GivesC w (getC l a)) := by
  have hln : l.length ≤ 9223372036854775807 := by unfold maxLen at hm; omega
  have HB := Lib.hid ((Below.refl w.heap.size w).alloc (Nat.le_refl _) (.cells #[.int .i64 0, .int .i64 0, .string ⟨#[]⟩, .string ⟨#[]⟩, .string ⟨#[]⟩] 24))
  have hg := refGet_any A l n cap a (w.alloc (.cells #[.int .i64 0, .int .i64 0, .string ⟨#[]⟩, .string ⟨#[]⟩, .string ⟨#[]⟩] 24)) hn hnc hm ha0 ha1 (hr.below HB.out)
  have Hn := Lib.hid hn
  have Hr := Lib.hid hr
  clear hn hr
  by_cases h1 : (getS l a).2.2 = 0
  · have hok := getS_ok h1
    by_cases h2 : (getS l a).1 < 1 ∨ 5 < (getS l a).1
    · have H := Lib.hid (getC_kind h1 h2)
      generalize getS l a = g at *
      obtain ⟨v, pl, er⟩ := g
      simp only at h1 h2
      subst h1
      unfold three at hg
      have Hg := Lib.hid hg
      clear hg hok
      by_cases h3 : v < 1
      · clear h2
        go_enter Tryd.func14, Tryd.ntmps14
        go_wp2_with fail
        refine Calls.mono Hg.out ?_
        rintro e w1 ⟨rfl, hb1⟩
        have Hb1 := Lib.hid hb1
        have Hlt := Lib.hid (lt_start hb1)
        have Hf := Lib.hid (first_box hb1)
        clear hb1
        have hf0 := Hf.out.1.free 0
        have hf1 := Hf.out.1.free 1
        have hf2 := Hf.out.1.free 2
        have hf3 := Hf.out.1.free 3
        have hf4 := Hf.out.1.free 4
        obtain ⟨hr0, hr1, hr2, hr3, hr4⟩ := Row5.box (k := 0) (n := 0) (s := []) (t := []) (u := []) Hf.out.1
        go_wp2_with fail
        refine bodyPost_ret (v := .tuple #[cstV noneC, .int .i64 0, .int .i64 11]) (results3 Tryd.results14 _ _ _ _ rfl (Row5.five Hf.out.1 rfl Hf.out.2 0 0 [] [] []).1) rfl (retC3 H.out (Row5.five Hf.out.1 rfl Hf.out.2 0 0 [] [] []).2)
      · have h4 : 5 < v := by omega
        clear h2
        go_enter Tryd.func14, Tryd.ntmps14
        go_wp2_with fail
        refine Calls.mono Hg.out ?_
        rintro e w1 ⟨rfl, hb1⟩
        have Hb1 := Lib.hid hb1
        have Hlt := Lib.hid (lt_start hb1)
        have Hf := Lib.hid (first_box hb1)
        clear hb1
        have hf0 := Hf.out.1.free 0
        have hf1 := Hf.out.1.free 1
        have hf2 := Hf.out.1.free 2
        have hf3 := Hf.out.1.free 3
        have hf4 := Hf.out.1.free 4
        obtain ⟨hr0, hr1, hr2, hr3, hr4⟩ := Row5.box (k := 0) (n := 0) (s := []) (t := []) (u := []) Hf.out.1
        go_wp2_with fail
        refine bodyPost_ret (v := .tuple #[cstV noneC, .int .i64 0, .int .i64 11]) (results3 Tryd.results14 _ _ _ _ rfl (Row5.five Hf.out.1 rfl Hf.out.2 0 0 [] [] []).1) rfl (retC3 H.out (Row5.five Hf.out.1 rfl Hf.out.2 0 0 [] [] []).2)
    · have H := Lib.hid (getC_fin h1 h2)
      generalize getC l a = R at *
      generalize getS l a = g at *
      obtain ⟨v, pl, er⟩ := g
      simp only at h1 h2 hok H
      subst h1
      unfold three at hg
      have Hg := Lib.hid hg
      obtain ⟨hp0, hp1, _, _⟩ := hok
      clear hg
      have hv : v = 1 ∨ v = 2 ∨ v = 3 ∨ v = 4 ∨ v = 5 := by omega
      clear h2
      rcases hv with rfl | rfl | rfl | rfl | rfl
      · have hT := fun (W : World) (h : Rds W A (cells8 l)) => refGet_any A l n cap pl W Hn.out hnc hm (by omega) (by omega) h
        have hfr : firstC 1 l pl = (⟨1, (getS l pl).1, [], [], []⟩, (getS l pl).2.1, (getS l pl).2.2) := rfl
        rw [hfr] at H
        clear hfr
        generalize getS l pl = T at *
        obtain ⟨x, p2, er⟩ := T
        unfold three at hT
        have HT := Lib.hid hT
        clear hT
        simp only at H
        by_cases he : er = 0
        · subst he
          cases hrt : rightC (⟨1, x, ([] : List UInt8), ([] : List UInt8), ([] : List UInt8)⟩ : Cst)
          · have H := Lib.hid (H.out.trans (fin_no hrt))
            have Hrt := Lib.hid hrt
            clear hrt
            go_enter Tryd.func14, Tryd.ntmps14
            go_wp2_with fail
            refine Calls.mono Hg.out ?_
            rintro e w1 ⟨rfl, hb1⟩
            have Hb1 := Lib.hid hb1
            have Hlt := Lib.hid (lt_start hb1)
            have S0 := Lib.hid (St.start hb1 #[.int .i64 1, .int .i64 0, .string ⟨#[]⟩, .string ⟨#[]⟩, .string ⟨#[]⟩])
            clear hb1
            go_wp2_with fail
            refine Calls.mono (HT.out _ (Hr.out.below S0.out.bel)) ?_
            rintro e w2 ⟨rfl, hb2⟩
            have A2 := Lib.hid (S0.out.after hb2)
            have S2 := Lib.hid (A2.out.set Hlt.out 1 (.int .i64 x))
            clear hb2
            have hq2 := A2.out.box.free 1
            have hv2 := (cell_of_row _ _ 1 _ _ (0, 0) A2.out.box).trans (by rfl : _ = some (.int .i64 0))
            obtain ⟨hc0, hc1, hc2, hc3, hc4⟩ := Row5.box (k := 1) (n := x) (s := ([] : List UInt8)) (t := ([] : List UInt8)) (u := ([] : List UInt8)) S2.out.box
            go_wp2_with fail
            refine (poolRefRight_any 1 x ([] : List UInt8) ([] : List UInt8) ([] : List UInt8) _ (by first | omega | simp) (by first | omega | simp) (by first | omega | simp)).mono ?_
            rw [Hrt.out]
            rintro e wl ⟨rfl, hbl⟩
            have SL := Lib.hid (S2.out.after hbl)
            clear hbl hc0 hc1 hc2 hc3 hc4
            obtain ⟨hc0, hc1, hc2, hc3, hc4⟩ := Row5.box (k := 1) (n := x) (s := ([] : List UInt8)) (t := ([] : List UInt8)) (u := ([] : List UInt8)) SL.out.box
            obtain ⟨hz0, hz1, hz2, hz3, hz4⟩ := Row5.box (k := 0) (n := 0) (s := []) (t := []) (u := []) SL.out.non
            have hf0 := SL.out.res.free 0
            have hf1 := SL.out.res.free 1
            have hf2 := SL.out.res.free 2
            have hf3 := SL.out.res.free 3
            have hf4 := SL.out.res.free 4
            obtain ⟨hr0, hr1, hr2, hr3, hr4⟩ := Row5.box (k := 0) (n := 0) (s := []) (t := []) (u := []) SL.out.res
            go_wp2_with fail
            refine bodyPost_ret (v := .tuple #[cstV noneC, .int .i64 0, .int .i64 11]) (results3 Tryd.results14 _ _ _ _ rfl (Row5.five SL.out.res rfl SL.out.bel 0 0 [] [] []).1) rfl (retC3 H.out (Row5.five SL.out.res rfl SL.out.bel 0 0 [] [] []).2)
          · have H := Lib.hid (H.out.trans (fin_yes hrt))
            have Hrt := Lib.hid hrt
            clear hrt
            go_enter Tryd.func14, Tryd.ntmps14
            go_wp2_with fail
            refine Calls.mono Hg.out ?_
            rintro e w1 ⟨rfl, hb1⟩
            have Hb1 := Lib.hid hb1
            have Hlt := Lib.hid (lt_start hb1)
            have S0 := Lib.hid (St.start hb1 #[.int .i64 1, .int .i64 0, .string ⟨#[]⟩, .string ⟨#[]⟩, .string ⟨#[]⟩])
            clear hb1
            go_wp2_with fail
            refine Calls.mono (HT.out _ (Hr.out.below S0.out.bel)) ?_
            rintro e w2 ⟨rfl, hb2⟩
            have A2 := Lib.hid (S0.out.after hb2)
            have S2 := Lib.hid (A2.out.set Hlt.out 1 (.int .i64 x))
            clear hb2
            have hq2 := A2.out.box.free 1
            have hv2 := (cell_of_row _ _ 1 _ _ (0, 0) A2.out.box).trans (by rfl : _ = some (.int .i64 0))
            obtain ⟨hc0, hc1, hc2, hc3, hc4⟩ := Row5.box (k := 1) (n := x) (s := ([] : List UInt8)) (t := ([] : List UInt8)) (u := ([] : List UInt8)) S2.out.box
            go_wp2_with fail
            refine (poolRefRight_any 1 x ([] : List UInt8) ([] : List UInt8) ([] : List UInt8) _ (by first | omega | simp) (by first | omega | simp) (by first | omega | simp)).mono ?_
            rw [Hrt.out]
            rintro e wl ⟨rfl, hbl⟩
            have SL := Lib.hid (S2.out.after hbl)
            clear hbl hc0 hc1 hc2 hc3 hc4
            obtain ⟨hc0, hc1, hc2, hc3, hc4⟩ := Row5.box (k := 1) (n := x) (s := ([] : List UInt8)) (t := ([] : List UInt8)) (u := ([] : List UInt8)) SL.out.box
            obtain ⟨hz0, hz1, hz2, hz3, hz4⟩ := Row5.box (k := 0) (n := 0) (s := []) (t := []) (u := []) SL.out.non
            have hf0 := SL.out.res.free 0
            have hf1 := SL.out.res.free 1
            have hf2 := SL.out.res.free 2
            have hf3 := SL.out.res.free 3
            have hf4 := SL.out.res.free 4
            obtain ⟨hr0, hr1, hr2, hr3, hr4⟩ := Row5.box (k := 0) (n := 0) (s := []) (t := []) (u := []) SL.out.res
            go_wp2_with fail
            refine bodyPost_ret (v := .tuple #[cstV ⟨1, x, ([] : List UInt8), ([] : List UInt8), ([] : List UInt8)⟩, .int .i64 p2, .int .i64 0]) (results3 Tryd.results14 _ _ _ _ rfl (Row5.five SL.out.res rfl SL.out.bel 1 x ([] : List UInt8) ([] : List UInt8) ([] : List UInt8)).1) rfl (retC3 H.out (Row5.five SL.out.res rfl SL.out.bel 1 x ([] : List UInt8) ([] : List UInt8) ([] : List UInt8)).2)
        · have H := Lib.hid (H.out.trans (fin_err he))
          have he2 : (er != 0) = true := by simpa using he
          clear he
          go_enter Tryd.func14, Tryd.ntmps14
          go_wp2_with fail
          refine Calls.mono Hg.out ?_
          rintro e w1 ⟨rfl, hb1⟩
          have Hb1 := Lib.hid hb1
          have Hlt := Lib.hid (lt_start hb1)
          have S0 := Lib.hid (St.start hb1 #[.int .i64 1, .int .i64 0, .string ⟨#[]⟩, .string ⟨#[]⟩, .string ⟨#[]⟩])
          clear hb1
          go_wp2_with fail
          refine Calls.mono (HT.out _ (Hr.out.below S0.out.bel)) ?_
          rintro e w2 ⟨rfl, hb2⟩
          have A2 := Lib.hid (S0.out.after hb2)
          have S2 := Lib.hid (A2.out.set Hlt.out 1 (.int .i64 x))
          clear hb2
          have hq2 := A2.out.box.free 1
          have hv2 := (cell_of_row _ _ 1 _ _ (0, 0) A2.out.box).trans (by rfl : _ = some (.int .i64 0))
          obtain ⟨hz0, hz1, hz2, hz3, hz4⟩ := Row5.box (k := 0) (n := 0) (s := []) (t := []) (u := []) S2.out.non
          have hf0 := S2.out.res.free 0
          have hf1 := S2.out.res.free 1
          have hf2 := S2.out.res.free 2
          have hf3 := S2.out.res.free 3
          have hf4 := S2.out.res.free 4
          obtain ⟨hr0, hr1, hr2, hr3, hr4⟩ := Row5.box (k := 0) (n := 0) (s := []) (t := []) (u := []) S2.out.res
          go_wp2_with fail
          refine bodyPost_ret (v := .tuple #[cstV noneC, .int .i64 0, .int .i64 er]) (results3 Tryd.results14 _ _ _ _ rfl (Row5.five S2.out.res rfl S2.out.bel 0 0 [] [] []).1) rfl (retC3 H.out (Row5.five S2.out.res rfl S2.out.bel 0 0 [] [] []).2)
      · have hT := fun (W : World) (h : Rds W A (cells8 l)) => refGetText_any A l n cap pl 64 W Hn.out hnc hm (by omega) (by omega) h
        have hfr : firstC 2 l pl = (⟨2, 0, (getT l pl 64).1, [], []⟩, (getT l pl 64).2.1, (getT l pl 64).2.2) := rfl
        rw [hfr] at H
        clear hfr
        have hto := getT_ok (l := l) (a := pl) (m := 64)
        generalize getT l pl 64 = T at *
        obtain ⟨x, p2, er⟩ := T
        unfold threeT at hT
        have HT := Lib.hid hT
        clear hT
        simp only at H hto
        by_cases he : er = 0
        · have hxl : x.length ≤ 300 := by have := (hto he).2.2; omega
          clear hto
          subst he
          cases hrt : rightC (⟨2, 0, x, ([] : List UInt8), ([] : List UInt8)⟩ : Cst)
          · have H := Lib.hid (H.out.trans (fin_no hrt))
            have Hrt := Lib.hid hrt
            clear hrt
            go_enter Tryd.func14, Tryd.ntmps14
            go_wp2_with fail
            refine Calls.mono Hg.out ?_
            rintro e w1 ⟨rfl, hb1⟩
            have Hb1 := Lib.hid hb1
            have Hlt := Lib.hid (lt_start hb1)
            have S0 := Lib.hid (St.start hb1 #[.int .i64 2, .int .i64 0, .string ⟨#[]⟩, .string ⟨#[]⟩, .string ⟨#[]⟩])
            clear hb1
            go_wp2_with fail
            refine Calls.mono (HT.out _ (Hr.out.below S0.out.bel)) ?_
            rintro e w2 ⟨rfl, hb2⟩
            have A2 := Lib.hid (S0.out.after hb2)
            have S2 := Lib.hid (A2.out.set Hlt.out 2 (.string ⟨x.toArray⟩))
            clear hb2
            have hq2 := A2.out.box.free 2
            have hv2 := (cell_of_row _ _ 2 _ _ (0, 0) A2.out.box).trans (by rfl : _ = some (.string ⟨#[]⟩))
            obtain ⟨hk2, _, _, _, _⟩ := Row5.box (k := 2) (n := 0) (s := x) (t := ([] : List UInt8)) (u := ([] : List UInt8)) S2.out.box
            obtain ⟨hc0, hc1, hc2, hc3, hc4⟩ := Row5.box (k := 2) (n := 0) (s := x) (t := ([] : List UInt8)) (u := ([] : List UInt8)) S2.out.box
            go_wp2_with fail
            refine (poolRefRight_any 2 0 x ([] : List UInt8) ([] : List UInt8) _ (by first | omega | simp) (by first | omega | simp) (by first | omega | simp)).mono ?_
            rw [Hrt.out]
            rintro e wl ⟨rfl, hbl⟩
            have SL := Lib.hid (S2.out.after hbl)
            clear hbl hc0 hc1 hc2 hc3 hc4
            obtain ⟨hc0, hc1, hc2, hc3, hc4⟩ := Row5.box (k := 2) (n := 0) (s := x) (t := ([] : List UInt8)) (u := ([] : List UInt8)) SL.out.box
            obtain ⟨hz0, hz1, hz2, hz3, hz4⟩ := Row5.box (k := 0) (n := 0) (s := []) (t := []) (u := []) SL.out.non
            have hf0 := SL.out.res.free 0
            have hf1 := SL.out.res.free 1
            have hf2 := SL.out.res.free 2
            have hf3 := SL.out.res.free 3
            have hf4 := SL.out.res.free 4
            obtain ⟨hr0, hr1, hr2, hr3, hr4⟩ := Row5.box (k := 0) (n := 0) (s := []) (t := []) (u := []) SL.out.res
            go_wp2_with fail
            refine bodyPost_ret (v := .tuple #[cstV noneC, .int .i64 0, .int .i64 11]) (results3 Tryd.results14 _ _ _ _ rfl (Row5.five SL.out.res rfl SL.out.bel 0 0 [] [] []).1) rfl (retC3 H.out (Row5.five SL.out.res rfl SL.out.bel 0 0 [] [] []).2)
          · have H := Lib.hid (H.out.trans (fin_yes hrt))
            have Hrt := Lib.hid hrt
            clear hrt
            go_enter Tryd.func14, Tryd.ntmps14
            go_wp2_with fail
            refine Calls.mono Hg.out ?_
            rintro e w1 ⟨rfl, hb1⟩
            have Hb1 := Lib.hid hb1
            have Hlt := Lib.hid (lt_start hb1)
            have S0 := Lib.hid (St.start hb1 #[.int .i64 2, .int .i64 0, .string ⟨#[]⟩, .string ⟨#[]⟩, .string ⟨#[]⟩])
            clear hb1
            go_wp2_with fail
            refine Calls.mono (HT.out _ (Hr.out.below S0.out.bel)) ?_
            rintro e w2 ⟨rfl, hb2⟩
            have A2 := Lib.hid (S0.out.after hb2)
            have S2 := Lib.hid (A2.out.set Hlt.out 2 (.string ⟨x.toArray⟩))
            clear hb2
            have hq2 := A2.out.box.free 2
            have hv2 := (cell_of_row _ _ 2 _ _ (0, 0) A2.out.box).trans (by rfl : _ = some (.string ⟨#[]⟩))
            obtain ⟨hk2, _, _, _, _⟩ := Row5.box (k := 2) (n := 0) (s := x) (t := ([] : List UInt8)) (u := ([] : List UInt8)) S2.out.box
            obtain ⟨hc0, hc1, hc2, hc3, hc4⟩ := Row5.box (k := 2) (n := 0) (s := x) (t := ([] : List UInt8)) (u := ([] : List UInt8)) S2.out.box
            go_wp2_with fail
            refine (poolRefRight_any 2 0 x ([] : List UInt8) ([] : List UInt8) _ (by first | omega | simp) (by first | omega | simp) (by first | omega | simp)).mono ?_
            rw [Hrt.out]
            rintro e wl ⟨rfl, hbl⟩
            have SL := Lib.hid (S2.out.after hbl)
            clear hbl hc0 hc1 hc2 hc3 hc4
            obtain ⟨hc0, hc1, hc2, hc3, hc4⟩ := Row5.box (k := 2) (n := 0) (s := x) (t := ([] : List UInt8)) (u := ([] : List UInt8)) SL.out.box
            obtain ⟨hz0, hz1, hz2, hz3, hz4⟩ := Row5.box (k := 0) (n := 0) (s := []) (t := []) (u := []) SL.out.non
            have hf0 := SL.out.res.free 0
            have hf1 := SL.out.res.free 1
            have hf2 := SL.out.res.free 2
            have hf3 := SL.out.res.free 3
            have hf4 := SL.out.res.free 4
            obtain ⟨hr0, hr1, hr2, hr3, hr4⟩ := Row5.box (k := 0) (n := 0) (s := []) (t := []) (u := []) SL.out.res
            go_wp2_with fail
            refine bodyPost_ret (v := .tuple #[cstV ⟨2, 0, x, ([] : List UInt8), ([] : List UInt8)⟩, .int .i64 p2, .int .i64 0]) (results3 Tryd.results14 _ _ _ _ rfl (Row5.five SL.out.res rfl SL.out.bel 2 0 x ([] : List UInt8) ([] : List UInt8)).1) rfl (retC3 H.out (Row5.five SL.out.res rfl SL.out.bel 2 0 x ([] : List UInt8) ([] : List UInt8)).2)
        · have H := Lib.hid (H.out.trans (fin_err he))
          have he2 : (er != 0) = true := by simpa using he
          clear he hto
          go_enter Tryd.func14, Tryd.ntmps14
          go_wp2_with fail
          refine Calls.mono Hg.out ?_
          rintro e w1 ⟨rfl, hb1⟩
          have Hb1 := Lib.hid hb1
          have Hlt := Lib.hid (lt_start hb1)
          have S0 := Lib.hid (St.start hb1 #[.int .i64 2, .int .i64 0, .string ⟨#[]⟩, .string ⟨#[]⟩, .string ⟨#[]⟩])
          clear hb1
          go_wp2_with fail
          refine Calls.mono (HT.out _ (Hr.out.below S0.out.bel)) ?_
          rintro e w2 ⟨rfl, hb2⟩
          have A2 := Lib.hid (S0.out.after hb2)
          have S2 := Lib.hid (A2.out.set Hlt.out 2 (.string ⟨x.toArray⟩))
          clear hb2
          have hq2 := A2.out.box.free 2
          have hv2 := (cell_of_row _ _ 2 _ _ (0, 0) A2.out.box).trans (by rfl : _ = some (.string ⟨#[]⟩))
          obtain ⟨hk2, _, _, _, _⟩ := Row5.box (k := 2) (n := 0) (s := x) (t := ([] : List UInt8)) (u := ([] : List UInt8)) S2.out.box
          obtain ⟨hz0, hz1, hz2, hz3, hz4⟩ := Row5.box (k := 0) (n := 0) (s := []) (t := []) (u := []) S2.out.non
          have hf0 := S2.out.res.free 0
          have hf1 := S2.out.res.free 1
          have hf2 := S2.out.res.free 2
          have hf3 := S2.out.res.free 3
          have hf4 := S2.out.res.free 4
          obtain ⟨hr0, hr1, hr2, hr3, hr4⟩ := Row5.box (k := 0) (n := 0) (s := []) (t := []) (u := []) S2.out.res
          go_wp2_with fail
          refine bodyPost_ret (v := .tuple #[cstV noneC, .int .i64 0, .int .i64 er]) (results3 Tryd.results14 _ _ _ _ rfl (Row5.five S2.out.res rfl S2.out.bel 0 0 [] [] []).1) rfl (retC3 H.out (Row5.five S2.out.res rfl S2.out.bel 0 0 [] [] []).2)
      · have hT := fun (W : World) (h : Rds W A (cells8 l)) => refGetText_any A l n cap pl 256 W Hn.out hnc hm (by omega) (by omega) h
        have hfr : firstC 3 l pl = (⟨3, 0, (getT l pl 256).1, [], []⟩, (getT l pl 256).2.1, (getT l pl 256).2.2) := rfl
        rw [hfr] at H
        clear hfr
        have hto := getT_ok (l := l) (a := pl) (m := 256)
        generalize getT l pl 256 = T at *
        obtain ⟨x, p2, er⟩ := T
        unfold threeT at hT
        have HT := Lib.hid hT
        clear hT
        simp only at H hto
        by_cases he : er = 0
        · have hxl : x.length ≤ 300 := by have := (hto he).2.2; omega
          clear hto
          subst he
          cases hrt : rightC (⟨3, 0, x, ([] : List UInt8), ([] : List UInt8)⟩ : Cst)
          · have H := Lib.hid (H.out.trans (fin_no hrt))
            have Hrt := Lib.hid hrt
            clear hrt
            go_enter Tryd.func14, Tryd.ntmps14
            go_wp2_with fail
            refine Calls.mono Hg.out ?_
            rintro e w1 ⟨rfl, hb1⟩
            have Hb1 := Lib.hid hb1
            have Hlt := Lib.hid (lt_start hb1)
            have S0 := Lib.hid (St.start hb1 #[.int .i64 3, .int .i64 0, .string ⟨#[]⟩, .string ⟨#[]⟩, .string ⟨#[]⟩])
            clear hb1
            go_wp2_with fail
            refine Calls.mono (HT.out _ (Hr.out.below S0.out.bel)) ?_
            rintro e w2 ⟨rfl, hb2⟩
            have A2 := Lib.hid (S0.out.after hb2)
            have S2 := Lib.hid (A2.out.set Hlt.out 2 (.string ⟨x.toArray⟩))
            clear hb2
            have hq2 := A2.out.box.free 2
            have hv2 := (cell_of_row _ _ 2 _ _ (0, 0) A2.out.box).trans (by rfl : _ = some (.string ⟨#[]⟩))
            obtain ⟨hk2, _, _, _, _⟩ := Row5.box (k := 3) (n := 0) (s := x) (t := ([] : List UInt8)) (u := ([] : List UInt8)) S2.out.box
            obtain ⟨hc0, hc1, hc2, hc3, hc4⟩ := Row5.box (k := 3) (n := 0) (s := x) (t := ([] : List UInt8)) (u := ([] : List UInt8)) S2.out.box
            go_wp2_with fail
            refine (poolRefRight_any 3 0 x ([] : List UInt8) ([] : List UInt8) _ (by first | omega | simp) (by first | omega | simp) (by first | omega | simp)).mono ?_
            rw [Hrt.out]
            rintro e wl ⟨rfl, hbl⟩
            have SL := Lib.hid (S2.out.after hbl)
            clear hbl hc0 hc1 hc2 hc3 hc4
            obtain ⟨hc0, hc1, hc2, hc3, hc4⟩ := Row5.box (k := 3) (n := 0) (s := x) (t := ([] : List UInt8)) (u := ([] : List UInt8)) SL.out.box
            obtain ⟨hz0, hz1, hz2, hz3, hz4⟩ := Row5.box (k := 0) (n := 0) (s := []) (t := []) (u := []) SL.out.non
            have hf0 := SL.out.res.free 0
            have hf1 := SL.out.res.free 1
            have hf2 := SL.out.res.free 2
            have hf3 := SL.out.res.free 3
            have hf4 := SL.out.res.free 4
            obtain ⟨hr0, hr1, hr2, hr3, hr4⟩ := Row5.box (k := 0) (n := 0) (s := []) (t := []) (u := []) SL.out.res
            go_wp2_with fail
            refine bodyPost_ret (v := .tuple #[cstV noneC, .int .i64 0, .int .i64 11]) (results3 Tryd.results14 _ _ _ _ rfl (Row5.five SL.out.res rfl SL.out.bel 0 0 [] [] []).1) rfl (retC3 H.out (Row5.five SL.out.res rfl SL.out.bel 0 0 [] [] []).2)
          · have H := Lib.hid (H.out.trans (fin_yes hrt))
            have Hrt := Lib.hid hrt
            clear hrt
            go_enter Tryd.func14, Tryd.ntmps14
            go_wp2_with fail
            refine Calls.mono Hg.out ?_
            rintro e w1 ⟨rfl, hb1⟩
            have Hb1 := Lib.hid hb1
            have Hlt := Lib.hid (lt_start hb1)
            have S0 := Lib.hid (St.start hb1 #[.int .i64 3, .int .i64 0, .string ⟨#[]⟩, .string ⟨#[]⟩, .string ⟨#[]⟩])
            clear hb1
            go_wp2_with fail
            refine Calls.mono (HT.out _ (Hr.out.below S0.out.bel)) ?_
            rintro e w2 ⟨rfl, hb2⟩
            have A2 := Lib.hid (S0.out.after hb2)
            have S2 := Lib.hid (A2.out.set Hlt.out 2 (.string ⟨x.toArray⟩))
            clear hb2
            have hq2 := A2.out.box.free 2
            have hv2 := (cell_of_row _ _ 2 _ _ (0, 0) A2.out.box).trans (by rfl : _ = some (.string ⟨#[]⟩))
            obtain ⟨hk2, _, _, _, _⟩ := Row5.box (k := 3) (n := 0) (s := x) (t := ([] : List UInt8)) (u := ([] : List UInt8)) S2.out.box
            obtain ⟨hc0, hc1, hc2, hc3, hc4⟩ := Row5.box (k := 3) (n := 0) (s := x) (t := ([] : List UInt8)) (u := ([] : List UInt8)) S2.out.box
            go_wp2_with fail
            refine (poolRefRight_any 3 0 x ([] : List UInt8) ([] : List UInt8) _ (by first | omega | simp) (by first | omega | simp) (by first | omega | simp)).mono ?_
            rw [Hrt.out]
            rintro e wl ⟨rfl, hbl⟩
            have SL := Lib.hid (S2.out.after hbl)
            clear hbl hc0 hc1 hc2 hc3 hc4
            obtain ⟨hc0, hc1, hc2, hc3, hc4⟩ := Row5.box (k := 3) (n := 0) (s := x) (t := ([] : List UInt8)) (u := ([] : List UInt8)) SL.out.box
            obtain ⟨hz0, hz1, hz2, hz3, hz4⟩ := Row5.box (k := 0) (n := 0) (s := []) (t := []) (u := []) SL.out.non
            have hf0 := SL.out.res.free 0
            have hf1 := SL.out.res.free 1
            have hf2 := SL.out.res.free 2
            have hf3 := SL.out.res.free 3
            have hf4 := SL.out.res.free 4
            obtain ⟨hr0, hr1, hr2, hr3, hr4⟩ := Row5.box (k := 0) (n := 0) (s := []) (t := []) (u := []) SL.out.res
            go_wp2_with fail
            refine bodyPost_ret (v := .tuple #[cstV ⟨3, 0, x, ([] : List UInt8), ([] : List UInt8)⟩, .int .i64 p2, .int .i64 0]) (results3 Tryd.results14 _ _ _ _ rfl (Row5.five SL.out.res rfl SL.out.bel 3 0 x ([] : List UInt8) ([] : List UInt8)).1) rfl (retC3 H.out (Row5.five SL.out.res rfl SL.out.bel 3 0 x ([] : List UInt8) ([] : List UInt8)).2)
        · have H := Lib.hid (H.out.trans (fin_err he))
          have he2 : (er != 0) = true := by simpa using he
          clear he hto
          go_enter Tryd.func14, Tryd.ntmps14
          go_wp2_with fail
          refine Calls.mono Hg.out ?_
          rintro e w1 ⟨rfl, hb1⟩
          have Hb1 := Lib.hid hb1
          have Hlt := Lib.hid (lt_start hb1)
          have S0 := Lib.hid (St.start hb1 #[.int .i64 3, .int .i64 0, .string ⟨#[]⟩, .string ⟨#[]⟩, .string ⟨#[]⟩])
          clear hb1
          go_wp2_with fail
          refine Calls.mono (HT.out _ (Hr.out.below S0.out.bel)) ?_
          rintro e w2 ⟨rfl, hb2⟩
          have A2 := Lib.hid (S0.out.after hb2)
          have S2 := Lib.hid (A2.out.set Hlt.out 2 (.string ⟨x.toArray⟩))
          clear hb2
          have hq2 := A2.out.box.free 2
          have hv2 := (cell_of_row _ _ 2 _ _ (0, 0) A2.out.box).trans (by rfl : _ = some (.string ⟨#[]⟩))
          obtain ⟨hk2, _, _, _, _⟩ := Row5.box (k := 3) (n := 0) (s := x) (t := ([] : List UInt8)) (u := ([] : List UInt8)) S2.out.box
          obtain ⟨hz0, hz1, hz2, hz3, hz4⟩ := Row5.box (k := 0) (n := 0) (s := []) (t := []) (u := []) S2.out.non
          have hf0 := S2.out.res.free 0
          have hf1 := S2.out.res.free 1
          have hf2 := S2.out.res.free 2
          have hf3 := S2.out.res.free 3
          have hf4 := S2.out.res.free 4
          obtain ⟨hr0, hr1, hr2, hr3, hr4⟩ := Row5.box (k := 0) (n := 0) (s := []) (t := []) (u := []) S2.out.res
          go_wp2_with fail
          refine bodyPost_ret (v := .tuple #[cstV noneC, .int .i64 0, .int .i64 er]) (results3 Tryd.results14 _ _ _ _ rfl (Row5.five S2.out.res rfl S2.out.bel 0 0 [] [] []).1) rfl (retC3 H.out (Row5.five S2.out.res rfl S2.out.bel 0 0 [] [] []).2)
      · have hfr : firstC 4 l pl = getM 4 l pl := rfl
        rw [hfr] at H
        clear hfr
        unfold getM erM txM atM atM atM atM at H
        have hT0 := fun (W : World) (h : Rds W A (cells8 l)) => refGetText_any A l n cap pl 256 W Hn.out hnc hm (by omega) (by omega) h
        have hto0 := getT_ok (l := l) (a := pl) (m := 256)
        generalize getT l pl 256 = T0 at *
        obtain ⟨x0, p3, er0⟩ := T0
        unfold threeT at hT0
        have HT0 := Lib.hid hT0
        clear hT0
        simp only at H hto0
        by_cases he0 : er0 = 0
        · have hq := hto0 he0
          clear hto0
          subst he0
          rw [if_neg (by simp)] at H
          have hT1 := fun (W : World) (h : Rds W A (cells8 l)) => refGetText_any A l n cap p3 256 W Hn.out hnc hm (by omega) (by omega) h
          have hto1 := getT_ok (l := l) (a := p3) (m := 256)
          generalize getT l p3 256 = T1 at *
          obtain ⟨x1, p4, er1⟩ := T1
          unfold threeT at hT1
          have HT1 := Lib.hid hT1
          clear hT1
          simp only at H hto1
          by_cases he1 : er1 = 0
          · have hq1 := hto1 he1
            clear hto1
            subst he1
            rw [if_neg (by simp)] at H
            have hT2 := fun (W : World) (h : Rds W A (cells8 l)) => refGetText_any A l n cap p4 256 W Hn.out hnc hm (by omega) (by omega) h
            have hto2 := getT_ok (l := l) (a := p4) (m := 256)
            generalize getT l p4 256 = T2 at *
            obtain ⟨x2, p5, er2⟩ := T2
            unfold threeT at hT2
            have HT2 := Lib.hid hT2
            clear hT2
            simp only at H hto2
            by_cases he2 : er2 = 0
            · have hq2 := hto2 he2
              clear hto2
              subst he2
              rw [if_neg (by simp)] at H
              have hx0 : x0.length ≤ 300 := by have := hq.2.2; omega
              have hx1 : x1.length ≤ 300 := by have := hq1.2.2; omega
              have hx2 : x2.length ≤ 300 := by have := hq2.2.2; omega
              clear hq hq1 hq2
              cases hrt : rightC (⟨4, 0, x0, x1, x2⟩ : Cst)
              · have H := Lib.hid (H.out.trans (fin_no hrt))
                have Hrt := Lib.hid hrt
                clear hrt
                go_enter Tryd.func14, Tryd.ntmps14
                go_wp2_with fail
                refine Calls.mono Hg.out ?_
                rintro e w1 ⟨rfl, hb1⟩
                have Hb1 := Lib.hid hb1
                have Hlt := Lib.hid (lt_start hb1)
                have S0 := Lib.hid (St.start hb1 #[.int .i64 4, .int .i64 0, .string ⟨#[]⟩, .string ⟨#[]⟩, .string ⟨#[]⟩])
                clear hb1
                go_wp2_with fail
                refine Calls.mono (HT0.out _ (Hr.out.below S0.out.bel)) ?_
                rintro e w2 ⟨rfl, hb2⟩
                have A2 := Lib.hid (S0.out.after hb2)
                have S2 := Lib.hid (A2.out.set Hlt.out 2 (.string ⟨x0.toArray⟩))
                clear hb2
                have hq2 := A2.out.box.free 2
                have hv2 := (cell_of_row _ _ 2 _ _ (0, 0) A2.out.box).trans (by rfl : _ = some (.string ⟨#[]⟩))
                obtain ⟨hk2, _, _, _, _⟩ := Row5.box (k := 4) (n := 0) (s := x0) (t := ([] : List UInt8)) (u := ([] : List UInt8)) S2.out.box
                go_wp2_with fail
                refine Calls.mono (HT1.out _ (Hr.out.below S2.out.bel)) ?_
                rintro e w3 ⟨rfl, hb3⟩
                have A3 := Lib.hid (S2.out.after hb3)
                have S3 := Lib.hid (A3.out.set Hlt.out 3 (.string ⟨x1.toArray⟩))
                clear hb3
                have hq3 := A3.out.box.free 3
                have hv3 := (cell_of_row _ _ 3 _ _ (0, 0) A3.out.box).trans (by rfl : _ = some (.string ⟨#[]⟩))
                go_wp2_with fail
                refine Calls.mono (HT2.out _ (Hr.out.below S3.out.bel)) ?_
                rintro e w4 ⟨rfl, hb4⟩
                have A4 := Lib.hid (S3.out.after hb4)
                have S4 := Lib.hid (A4.out.set Hlt.out 4 (.string ⟨x2.toArray⟩))
                clear hb4
                have hq4 := A4.out.box.free 4
                have hv4 := (cell_of_row _ _ 4 _ _ (0, 0) A4.out.box).trans (by rfl : _ = some (.string ⟨#[]⟩))
                obtain ⟨hc0, hc1, hc2, hc3, hc4⟩ := Row5.box (k := 4) (n := 0) (s := x0) (t := x1) (u := x2) S4.out.box
                go_wp2_with fail
                refine (poolRefRight_any 4 0 x0 x1 x2 _ (by first | omega | simp) (by first | omega | simp) (by first | omega | simp)).mono ?_
                rw [Hrt.out]
                rintro e wl ⟨rfl, hbl⟩
                have SL := Lib.hid (S4.out.after hbl)
                clear hbl hc0 hc1 hc2 hc3 hc4
                obtain ⟨hc0, hc1, hc2, hc3, hc4⟩ := Row5.box (k := 4) (n := 0) (s := x0) (t := x1) (u := x2) SL.out.box
                obtain ⟨hz0, hz1, hz2, hz3, hz4⟩ := Row5.box (k := 0) (n := 0) (s := []) (t := []) (u := []) SL.out.non
                have hf0 := SL.out.res.free 0
                have hf1 := SL.out.res.free 1
                have hf2 := SL.out.res.free 2
                have hf3 := SL.out.res.free 3
                have hf4 := SL.out.res.free 4
                obtain ⟨hr0, hr1, hr2, hr3, hr4⟩ := Row5.box (k := 0) (n := 0) (s := []) (t := []) (u := []) SL.out.res
                go_wp2_with fail
                refine bodyPost_ret (v := .tuple #[cstV noneC, .int .i64 0, .int .i64 11]) (results3 Tryd.results14 _ _ _ _ rfl (Row5.five SL.out.res rfl SL.out.bel 0 0 [] [] []).1) rfl (retC3 H.out (Row5.five SL.out.res rfl SL.out.bel 0 0 [] [] []).2)
              · have H := Lib.hid (H.out.trans (fin_yes hrt))
                have Hrt := Lib.hid hrt
                clear hrt
                go_enter Tryd.func14, Tryd.ntmps14
                go_wp2_with fail
                refine Calls.mono Hg.out ?_
                rintro e w1 ⟨rfl, hb1⟩
                have Hb1 := Lib.hid hb1
                have Hlt := Lib.hid (lt_start hb1)
                have S0 := Lib.hid (St.start hb1 #[.int .i64 4, .int .i64 0, .string ⟨#[]⟩, .string ⟨#[]⟩, .string ⟨#[]⟩])
                clear hb1
                go_wp2_with fail
                refine Calls.mono (HT0.out _ (Hr.out.below S0.out.bel)) ?_
                rintro e w2 ⟨rfl, hb2⟩
                have A2 := Lib.hid (S0.out.after hb2)
                have S2 := Lib.hid (A2.out.set Hlt.out 2 (.string ⟨x0.toArray⟩))
                clear hb2
                have hq2 := A2.out.box.free 2
                have hv2 := (cell_of_row _ _ 2 _ _ (0, 0) A2.out.box).trans (by rfl : _ = some (.string ⟨#[]⟩))
                obtain ⟨hk2, _, _, _, _⟩ := Row5.box (k := 4) (n := 0) (s := x0) (t := ([] : List UInt8)) (u := ([] : List UInt8)) S2.out.box
                go_wp2_with fail
                refine Calls.mono (HT1.out _ (Hr.out.below S2.out.bel)) ?_
                rintro e w3 ⟨rfl, hb3⟩
                have A3 := Lib.hid (S2.out.after hb3)
                have S3 := Lib.hid (A3.out.set Hlt.out 3 (.string ⟨x1.toArray⟩))
                clear hb3
                have hq3 := A3.out.box.free 3
                have hv3 := (cell_of_row _ _ 3 _ _ (0, 0) A3.out.box).trans (by rfl : _ = some (.string ⟨#[]⟩))
                go_wp2_with fail
                refine Calls.mono (HT2.out _ (Hr.out.below S3.out.bel)) ?_
                rintro e w4 ⟨rfl, hb4⟩
                have A4 := Lib.hid (S3.out.after hb4)
                have S4 := Lib.hid (A4.out.set Hlt.out 4 (.string ⟨x2.toArray⟩))
                clear hb4
                have hq4 := A4.out.box.free 4
                have hv4 := (cell_of_row _ _ 4 _ _ (0, 0) A4.out.box).trans (by rfl : _ = some (.string ⟨#[]⟩))
                obtain ⟨hc0, hc1, hc2, hc3, hc4⟩ := Row5.box (k := 4) (n := 0) (s := x0) (t := x1) (u := x2) S4.out.box
                go_wp2_with fail
                refine (poolRefRight_any 4 0 x0 x1 x2 _ (by first | omega | simp) (by first | omega | simp) (by first | omega | simp)).mono ?_
                rw [Hrt.out]
                rintro e wl ⟨rfl, hbl⟩
                have SL := Lib.hid (S4.out.after hbl)
                clear hbl hc0 hc1 hc2 hc3 hc4
                obtain ⟨hc0, hc1, hc2, hc3, hc4⟩ := Row5.box (k := 4) (n := 0) (s := x0) (t := x1) (u := x2) SL.out.box
                obtain ⟨hz0, hz1, hz2, hz3, hz4⟩ := Row5.box (k := 0) (n := 0) (s := []) (t := []) (u := []) SL.out.non
                have hf0 := SL.out.res.free 0
                have hf1 := SL.out.res.free 1
                have hf2 := SL.out.res.free 2
                have hf3 := SL.out.res.free 3
                have hf4 := SL.out.res.free 4
                obtain ⟨hr0, hr1, hr2, hr3, hr4⟩ := Row5.box (k := 0) (n := 0) (s := []) (t := []) (u := []) SL.out.res
                go_wp2_with fail
                refine bodyPost_ret (v := .tuple #[cstV ⟨4, 0, x0, x1, x2⟩, .int .i64 p5, .int .i64 0]) (results3 Tryd.results14 _ _ _ _ rfl (Row5.five SL.out.res rfl SL.out.bel 4 0 x0 x1 x2).1) rfl (retC3 H.out (Row5.five SL.out.res rfl SL.out.bel 4 0 x0 x1 x2).2)
            · rw [if_pos (by simpa using he2)] at H
              have H := Lib.hid (H.out.trans (fin_err he2))
              have hn2 : (er2 != 0) = true := by simpa using he2
              clear he2 hto2 hq hq1
              go_enter Tryd.func14, Tryd.ntmps14
              go_wp2_with fail
              refine Calls.mono Hg.out ?_
              rintro e w1 ⟨rfl, hb1⟩
              have Hb1 := Lib.hid hb1
              have Hlt := Lib.hid (lt_start hb1)
              have S0 := Lib.hid (St.start hb1 #[.int .i64 4, .int .i64 0, .string ⟨#[]⟩, .string ⟨#[]⟩, .string ⟨#[]⟩])
              clear hb1
              go_wp2_with fail
              refine Calls.mono (HT0.out _ (Hr.out.below S0.out.bel)) ?_
              rintro e w2 ⟨rfl, hb2⟩
              have A2 := Lib.hid (S0.out.after hb2)
              have S2 := Lib.hid (A2.out.set Hlt.out 2 (.string ⟨x0.toArray⟩))
              clear hb2
              have hq2 := A2.out.box.free 2
              have hv2 := (cell_of_row _ _ 2 _ _ (0, 0) A2.out.box).trans (by rfl : _ = some (.string ⟨#[]⟩))
              obtain ⟨hk2, _, _, _, _⟩ := Row5.box (k := 4) (n := 0) (s := x0) (t := ([] : List UInt8)) (u := ([] : List UInt8)) S2.out.box
              go_wp2_with fail
              refine Calls.mono (HT1.out _ (Hr.out.below S2.out.bel)) ?_
              rintro e w3 ⟨rfl, hb3⟩
              have A3 := Lib.hid (S2.out.after hb3)
              have S3 := Lib.hid (A3.out.set Hlt.out 3 (.string ⟨x1.toArray⟩))
              clear hb3
              have hq3 := A3.out.box.free 3
              have hv3 := (cell_of_row _ _ 3 _ _ (0, 0) A3.out.box).trans (by rfl : _ = some (.string ⟨#[]⟩))
              go_wp2_with fail
              refine Calls.mono (HT2.out _ (Hr.out.below S3.out.bel)) ?_
              rintro e w4 ⟨rfl, hb4⟩
              have A4 := Lib.hid (S3.out.after hb4)
              have S4 := Lib.hid (A4.out.set Hlt.out 4 (.string ⟨x2.toArray⟩))
              clear hb4
              have hq4 := A4.out.box.free 4
              have hv4 := (cell_of_row _ _ 4 _ _ (0, 0) A4.out.box).trans (by rfl : _ = some (.string ⟨#[]⟩))
              obtain ⟨hz0, hz1, hz2, hz3, hz4⟩ := Row5.box (k := 0) (n := 0) (s := []) (t := []) (u := []) S4.out.non
              have hf0 := S4.out.res.free 0
              have hf1 := S4.out.res.free 1
              have hf2 := S4.out.res.free 2
              have hf3 := S4.out.res.free 3
              have hf4 := S4.out.res.free 4
              obtain ⟨hr0, hr1, hr2, hr3, hr4⟩ := Row5.box (k := 0) (n := 0) (s := []) (t := []) (u := []) S4.out.res
              go_wp2_with fail
              refine bodyPost_ret (v := .tuple #[cstV noneC, .int .i64 0, .int .i64 er2]) (results3 Tryd.results14 _ _ _ _ rfl (Row5.five S4.out.res rfl S4.out.bel 0 0 [] [] []).1) rfl (retC3 H.out (Row5.five S4.out.res rfl S4.out.bel 0 0 [] [] []).2)
          · rw [if_pos (by simpa using he1)] at H
            have H := Lib.hid (H.out.trans (fin_err he1))
            have hn1 : (er1 != 0) = true := by simpa using he1
            have hn2 : (er1 == 0) = false := by simpa using he1
            clear he1 hto1 hq
            go_enter Tryd.func14, Tryd.ntmps14
            go_wp2_with fail
            refine Calls.mono Hg.out ?_
            rintro e w1 ⟨rfl, hb1⟩
            have Hb1 := Lib.hid hb1
            have Hlt := Lib.hid (lt_start hb1)
            have S0 := Lib.hid (St.start hb1 #[.int .i64 4, .int .i64 0, .string ⟨#[]⟩, .string ⟨#[]⟩, .string ⟨#[]⟩])
            clear hb1
            go_wp2_with fail
            refine Calls.mono (HT0.out _ (Hr.out.below S0.out.bel)) ?_
            rintro e w2 ⟨rfl, hb2⟩
            have A2 := Lib.hid (S0.out.after hb2)
            have S2 := Lib.hid (A2.out.set Hlt.out 2 (.string ⟨x0.toArray⟩))
            clear hb2
            have hq2 := A2.out.box.free 2
            have hv2 := (cell_of_row _ _ 2 _ _ (0, 0) A2.out.box).trans (by rfl : _ = some (.string ⟨#[]⟩))
            obtain ⟨hk2, _, _, _, _⟩ := Row5.box (k := 4) (n := 0) (s := x0) (t := ([] : List UInt8)) (u := ([] : List UInt8)) S2.out.box
            go_wp2_with fail
            refine Calls.mono (HT1.out _ (Hr.out.below S2.out.bel)) ?_
            rintro e w3 ⟨rfl, hb3⟩
            have A3 := Lib.hid (S2.out.after hb3)
            have S3 := Lib.hid (A3.out.set Hlt.out 3 (.string ⟨x1.toArray⟩))
            clear hb3
            have hq3 := A3.out.box.free 3
            have hv3 := (cell_of_row _ _ 3 _ _ (0, 0) A3.out.box).trans (by rfl : _ = some (.string ⟨#[]⟩))
            obtain ⟨hz0, hz1, hz2, hz3, hz4⟩ := Row5.box (k := 0) (n := 0) (s := []) (t := []) (u := []) S3.out.non
            have hf0 := S3.out.res.free 0
            have hf1 := S3.out.res.free 1
            have hf2 := S3.out.res.free 2
            have hf3 := S3.out.res.free 3
            have hf4 := S3.out.res.free 4
            obtain ⟨hr0, hr1, hr2, hr3, hr4⟩ := Row5.box (k := 0) (n := 0) (s := []) (t := []) (u := []) S3.out.res
            go_wp2_with fail
            refine bodyPost_ret (v := .tuple #[cstV noneC, .int .i64 0, .int .i64 er1]) (results3 Tryd.results14 _ _ _ _ rfl (Row5.five S3.out.res rfl S3.out.bel 0 0 [] [] []).1) rfl (retC3 H.out (Row5.five S3.out.res rfl S3.out.bel 0 0 [] [] []).2)
        · rw [if_pos (by simpa using he0)] at H
          have H := Lib.hid (H.out.trans (fin_err he0))
          have hn1 : (er0 != 0) = true := by simpa using he0
          have hn2 : (er0 == 0) = false := by simpa using he0
          clear he0 hto0
          go_enter Tryd.func14, Tryd.ntmps14
          go_wp2_with fail
          refine Calls.mono Hg.out ?_
          rintro e w1 ⟨rfl, hb1⟩
          have Hb1 := Lib.hid hb1
          have Hlt := Lib.hid (lt_start hb1)
          have S0 := Lib.hid (St.start hb1 #[.int .i64 4, .int .i64 0, .string ⟨#[]⟩, .string ⟨#[]⟩, .string ⟨#[]⟩])
          clear hb1
          go_wp2_with fail
          refine Calls.mono (HT0.out _ (Hr.out.below S0.out.bel)) ?_
          rintro e w2 ⟨rfl, hb2⟩
          have A2 := Lib.hid (S0.out.after hb2)
          have S2 := Lib.hid (A2.out.set Hlt.out 2 (.string ⟨x0.toArray⟩))
          clear hb2
          have hq2 := A2.out.box.free 2
          have hv2 := (cell_of_row _ _ 2 _ _ (0, 0) A2.out.box).trans (by rfl : _ = some (.string ⟨#[]⟩))
          obtain ⟨hk2, _, _, _, _⟩ := Row5.box (k := 4) (n := 0) (s := x0) (t := ([] : List UInt8)) (u := ([] : List UInt8)) S2.out.box
          obtain ⟨hz0, hz1, hz2, hz3, hz4⟩ := Row5.box (k := 0) (n := 0) (s := []) (t := []) (u := []) S2.out.non
          have hf0 := S2.out.res.free 0
          have hf1 := S2.out.res.free 1
          have hf2 := S2.out.res.free 2
          have hf3 := S2.out.res.free 3
          have hf4 := S2.out.res.free 4
          obtain ⟨hr0, hr1, hr2, hr3, hr4⟩ := Row5.box (k := 0) (n := 0) (s := []) (t := []) (u := []) S2.out.res
          go_wp2_with fail
          refine bodyPost_ret (v := .tuple #[cstV noneC, .int .i64 0, .int .i64 er0]) (results3 Tryd.results14 _ _ _ _ rfl (Row5.five S2.out.res rfl S2.out.bel 0 0 [] [] []).1) rfl (retC3 H.out (Row5.five S2.out.res rfl S2.out.bel 0 0 [] [] []).2)
      · have hfr : firstC 5 l pl = getM 5 l pl := rfl
        rw [hfr] at H
        clear hfr
        unfold getM erM txM atM atM atM atM at H
        have hT0 := fun (W : World) (h : Rds W A (cells8 l)) => refGetText_any A l n cap pl 256 W Hn.out hnc hm (by omega) (by omega) h
        have hto0 := getT_ok (l := l) (a := pl) (m := 256)
        generalize getT l pl 256 = T0 at *
        obtain ⟨x0, p3, er0⟩ := T0
        unfold threeT at hT0
        have HT0 := Lib.hid hT0
        clear hT0
        simp only at H hto0
        by_cases he0 : er0 = 0
        · have hq := hto0 he0
          clear hto0
          subst he0
          rw [if_neg (by simp)] at H
          have hT1 := fun (W : World) (h : Rds W A (cells8 l)) => refGetText_any A l n cap p3 256 W Hn.out hnc hm (by omega) (by omega) h
          have hto1 := getT_ok (l := l) (a := p3) (m := 256)
          generalize getT l p3 256 = T1 at *
          obtain ⟨x1, p4, er1⟩ := T1
          unfold threeT at hT1
          have HT1 := Lib.hid hT1
          clear hT1
          simp only at H hto1
          by_cases he1 : er1 = 0
          · have hq1 := hto1 he1
            clear hto1
            subst he1
            rw [if_neg (by simp)] at H
            have hT2 := fun (W : World) (h : Rds W A (cells8 l)) => refGetText_any A l n cap p4 256 W Hn.out hnc hm (by omega) (by omega) h
            have hto2 := getT_ok (l := l) (a := p4) (m := 256)
            generalize getT l p4 256 = T2 at *
            obtain ⟨x2, p5, er2⟩ := T2
            unfold threeT at hT2
            have HT2 := Lib.hid hT2
            clear hT2
            simp only at H hto2
            by_cases he2 : er2 = 0
            · have hq2 := hto2 he2
              clear hto2
              subst he2
              rw [if_neg (by simp)] at H
              have hx0 : x0.length ≤ 300 := by have := hq.2.2; omega
              have hx1 : x1.length ≤ 300 := by have := hq1.2.2; omega
              have hx2 : x2.length ≤ 300 := by have := hq2.2.2; omega
              clear hq hq1 hq2
              cases hrt : rightC (⟨5, 0, x0, x1, x2⟩ : Cst)
              · have H := Lib.hid (H.out.trans (fin_no hrt))
                have Hrt := Lib.hid hrt
                clear hrt
                go_enter Tryd.func14, Tryd.ntmps14
                go_wp2_with fail
                refine Calls.mono Hg.out ?_
                rintro e w1 ⟨rfl, hb1⟩
                have Hb1 := Lib.hid hb1
                have Hlt := Lib.hid (lt_start hb1)
                have S0 := Lib.hid (St.start hb1 #[.int .i64 5, .int .i64 0, .string ⟨#[]⟩, .string ⟨#[]⟩, .string ⟨#[]⟩])
                clear hb1
                go_wp2_with fail
                refine Calls.mono (HT0.out _ (Hr.out.below S0.out.bel)) ?_
                rintro e w2 ⟨rfl, hb2⟩
                have A2 := Lib.hid (S0.out.after hb2)
                have S2 := Lib.hid (A2.out.set Hlt.out 2 (.string ⟨x0.toArray⟩))
                clear hb2
                have hq2 := A2.out.box.free 2
                have hv2 := (cell_of_row _ _ 2 _ _ (0, 0) A2.out.box).trans (by rfl : _ = some (.string ⟨#[]⟩))
                obtain ⟨hk2, _, _, _, _⟩ := Row5.box (k := 5) (n := 0) (s := x0) (t := ([] : List UInt8)) (u := ([] : List UInt8)) S2.out.box
                go_wp2_with fail
                refine Calls.mono (HT1.out _ (Hr.out.below S2.out.bel)) ?_
                rintro e w3 ⟨rfl, hb3⟩
                have A3 := Lib.hid (S2.out.after hb3)
                have S3 := Lib.hid (A3.out.set Hlt.out 3 (.string ⟨x1.toArray⟩))
                clear hb3
                have hq3 := A3.out.box.free 3
                have hv3 := (cell_of_row _ _ 3 _ _ (0, 0) A3.out.box).trans (by rfl : _ = some (.string ⟨#[]⟩))
                go_wp2_with fail
                refine Calls.mono (HT2.out _ (Hr.out.below S3.out.bel)) ?_
                rintro e w4 ⟨rfl, hb4⟩
                have A4 := Lib.hid (S3.out.after hb4)
                have S4 := Lib.hid (A4.out.set Hlt.out 4 (.string ⟨x2.toArray⟩))
                clear hb4
                have hq4 := A4.out.box.free 4
                have hv4 := (cell_of_row _ _ 4 _ _ (0, 0) A4.out.box).trans (by rfl : _ = some (.string ⟨#[]⟩))
                obtain ⟨hc0, hc1, hc2, hc3, hc4⟩ := Row5.box (k := 5) (n := 0) (s := x0) (t := x1) (u := x2) S4.out.box
                go_wp2_with fail
                refine (poolRefRight_any 5 0 x0 x1 x2 _ (by first | omega | simp) (by first | omega | simp) (by first | omega | simp)).mono ?_
                rw [Hrt.out]
                rintro e wl ⟨rfl, hbl⟩
                have SL := Lib.hid (S4.out.after hbl)
                clear hbl hc0 hc1 hc2 hc3 hc4
                obtain ⟨hc0, hc1, hc2, hc3, hc4⟩ := Row5.box (k := 5) (n := 0) (s := x0) (t := x1) (u := x2) SL.out.box
                obtain ⟨hz0, hz1, hz2, hz3, hz4⟩ := Row5.box (k := 0) (n := 0) (s := []) (t := []) (u := []) SL.out.non
                have hf0 := SL.out.res.free 0
                have hf1 := SL.out.res.free 1
                have hf2 := SL.out.res.free 2
                have hf3 := SL.out.res.free 3
                have hf4 := SL.out.res.free 4
                obtain ⟨hr0, hr1, hr2, hr3, hr4⟩ := Row5.box (k := 0) (n := 0) (s := []) (t := []) (u := []) SL.out.res
                go_wp2_with fail
                refine bodyPost_ret (v := .tuple #[cstV noneC, .int .i64 0, .int .i64 11]) (results3 Tryd.results14 _ _ _ _ rfl (Row5.five SL.out.res rfl SL.out.bel 0 0 [] [] []).1) rfl (retC3 H.out (Row5.five SL.out.res rfl SL.out.bel 0 0 [] [] []).2)
              · have H := Lib.hid (H.out.trans (fin_yes hrt))
                have Hrt := Lib.hid hrt
                clear hrt
                go_enter Tryd.func14, Tryd.ntmps14
                go_wp2_with fail
                refine Calls.mono Hg.out ?_
                rintro e w1 ⟨rfl, hb1⟩
                have Hb1 := Lib.hid hb1
                have Hlt := Lib.hid (lt_start hb1)
                have S0 := Lib.hid (St.start hb1 #[.int .i64 5, .int .i64 0, .string ⟨#[]⟩, .string ⟨#[]⟩, .string ⟨#[]⟩])
                clear hb1
                go_wp2_with fail
                refine Calls.mono (HT0.out _ (Hr.out.below S0.out.bel)) ?_
                rintro e w2 ⟨rfl, hb2⟩
                have A2 := Lib.hid (S0.out.after hb2)
                have S2 := Lib.hid (A2.out.set Hlt.out 2 (.string ⟨x0.toArray⟩))
                clear hb2
                have hq2 := A2.out.box.free 2
                have hv2 := (cell_of_row _ _ 2 _ _ (0, 0) A2.out.box).trans (by rfl : _ = some (.string ⟨#[]⟩))
                obtain ⟨hk2, _, _, _, _⟩ := Row5.box (k := 5) (n := 0) (s := x0) (t := ([] : List UInt8)) (u := ([] : List UInt8)) S2.out.box
                go_wp2_with fail
                refine Calls.mono (HT1.out _ (Hr.out.below S2.out.bel)) ?_
                rintro e w3 ⟨rfl, hb3⟩
                have A3 := Lib.hid (S2.out.after hb3)
                have S3 := Lib.hid (A3.out.set Hlt.out 3 (.string ⟨x1.toArray⟩))
                clear hb3
                have hq3 := A3.out.box.free 3
                have hv3 := (cell_of_row _ _ 3 _ _ (0, 0) A3.out.box).trans (by rfl : _ = some (.string ⟨#[]⟩))
                go_wp2_with fail
                refine Calls.mono (HT2.out _ (Hr.out.below S3.out.bel)) ?_
                rintro e w4 ⟨rfl, hb4⟩
                have A4 := Lib.hid (S3.out.after hb4)
                have S4 := Lib.hid (A4.out.set Hlt.out 4 (.string ⟨x2.toArray⟩))
                clear hb4
                have hq4 := A4.out.box.free 4
                have hv4 := (cell_of_row _ _ 4 _ _ (0, 0) A4.out.box).trans (by rfl : _ = some (.string ⟨#[]⟩))
                obtain ⟨hc0, hc1, hc2, hc3, hc4⟩ := Row5.box (k := 5) (n := 0) (s := x0) (t := x1) (u := x2) S4.out.box
                go_wp2_with fail
                refine (poolRefRight_any 5 0 x0 x1 x2 _ (by first | omega | simp) (by first | omega | simp) (by first | omega | simp)).mono ?_
                rw [Hrt.out]
                rintro e wl ⟨rfl, hbl⟩
                have SL := Lib.hid (S4.out.after hbl)
                clear hbl hc0 hc1 hc2 hc3 hc4
                obtain ⟨hc0, hc1, hc2, hc3, hc4⟩ := Row5.box (k := 5) (n := 0) (s := x0) (t := x1) (u := x2) SL.out.box
                obtain ⟨hz0, hz1, hz2, hz3, hz4⟩ := Row5.box (k := 0) (n := 0) (s := []) (t := []) (u := []) SL.out.non
                have hf0 := SL.out.res.free 0
                have hf1 := SL.out.res.free 1
                have hf2 := SL.out.res.free 2
                have hf3 := SL.out.res.free 3
                have hf4 := SL.out.res.free 4
                obtain ⟨hr0, hr1, hr2, hr3, hr4⟩ := Row5.box (k := 0) (n := 0) (s := []) (t := []) (u := []) SL.out.res
                go_wp2_with fail
                refine bodyPost_ret (v := .tuple #[cstV ⟨5, 0, x0, x1, x2⟩, .int .i64 p5, .int .i64 0]) (results3 Tryd.results14 _ _ _ _ rfl (Row5.five SL.out.res rfl SL.out.bel 5 0 x0 x1 x2).1) rfl (retC3 H.out (Row5.five SL.out.res rfl SL.out.bel 5 0 x0 x1 x2).2)
            · rw [if_pos (by simpa using he2)] at H
              have H := Lib.hid (H.out.trans (fin_err he2))
              have hn2 : (er2 != 0) = true := by simpa using he2
              clear he2 hto2 hq hq1
              go_enter Tryd.func14, Tryd.ntmps14
              go_wp2_with fail
              refine Calls.mono Hg.out ?_
              rintro e w1 ⟨rfl, hb1⟩
              have Hb1 := Lib.hid hb1
              have Hlt := Lib.hid (lt_start hb1)
              have S0 := Lib.hid (St.start hb1 #[.int .i64 5, .int .i64 0, .string ⟨#[]⟩, .string ⟨#[]⟩, .string ⟨#[]⟩])
              clear hb1
              go_wp2_with fail
              refine Calls.mono (HT0.out _ (Hr.out.below S0.out.bel)) ?_
              rintro e w2 ⟨rfl, hb2⟩
              have A2 := Lib.hid (S0.out.after hb2)
              have S2 := Lib.hid (A2.out.set Hlt.out 2 (.string ⟨x0.toArray⟩))
              clear hb2
              have hq2 := A2.out.box.free 2
              have hv2 := (cell_of_row _ _ 2 _ _ (0, 0) A2.out.box).trans (by rfl : _ = some (.string ⟨#[]⟩))
              obtain ⟨hk2, _, _, _, _⟩ := Row5.box (k := 5) (n := 0) (s := x0) (t := ([] : List UInt8)) (u := ([] : List UInt8)) S2.out.box
              go_wp2_with fail
              refine Calls.mono (HT1.out _ (Hr.out.below S2.out.bel)) ?_
              rintro e w3 ⟨rfl, hb3⟩
              have A3 := Lib.hid (S2.out.after hb3)
              have S3 := Lib.hid (A3.out.set Hlt.out 3 (.string ⟨x1.toArray⟩))
              clear hb3
              have hq3 := A3.out.box.free 3
              have hv3 := (cell_of_row _ _ 3 _ _ (0, 0) A3.out.box).trans (by rfl : _ = some (.string ⟨#[]⟩))
              go_wp2_with fail
              refine Calls.mono (HT2.out _ (Hr.out.below S3.out.bel)) ?_
              rintro e w4 ⟨rfl, hb4⟩
              have A4 := Lib.hid (S3.out.after hb4)
              have S4 := Lib.hid (A4.out.set Hlt.out 4 (.string ⟨x2.toArray⟩))
              clear hb4
              have hq4 := A4.out.box.free 4
              have hv4 := (cell_of_row _ _ 4 _ _ (0, 0) A4.out.box).trans (by rfl : _ = some (.string ⟨#[]⟩))
              obtain ⟨hz0, hz1, hz2, hz3, hz4⟩ := Row5.box (k := 0) (n := 0) (s := []) (t := []) (u := []) S4.out.non
              have hf0 := S4.out.res.free 0
              have hf1 := S4.out.res.free 1
              have hf2 := S4.out.res.free 2
              have hf3 := S4.out.res.free 3
              have hf4 := S4.out.res.free 4
              obtain ⟨hr0, hr1, hr2, hr3, hr4⟩ := Row5.box (k := 0) (n := 0) (s := []) (t := []) (u := []) S4.out.res
              go_wp2_with fail
              refine bodyPost_ret (v := .tuple #[cstV noneC, .int .i64 0, .int .i64 er2]) (results3 Tryd.results14 _ _ _ _ rfl (Row5.five S4.out.res rfl S4.out.bel 0 0 [] [] []).1) rfl (retC3 H.out (Row5.five S4.out.res rfl S4.out.bel 0 0 [] [] []).2)
          · rw [if_pos (by simpa using he1)] at H
            have H := Lib.hid (H.out.trans (fin_err he1))
            have hn1 : (er1 != 0) = true := by simpa using he1
            have hn2 : (er1 == 0) = false := by simpa using he1
            clear he1 hto1 hq
            go_enter Tryd.func14, Tryd.ntmps14
            go_wp2_with fail
            refine Calls.mono Hg.out ?_
            rintro e w1 ⟨rfl, hb1⟩
            have Hb1 := Lib.hid hb1
            have Hlt := Lib.hid (lt_start hb1)
            have S0 := Lib.hid (St.start hb1 #[.int .i64 5, .int .i64 0, .string ⟨#[]⟩, .string ⟨#[]⟩, .string ⟨#[]⟩])
            clear hb1
            go_wp2_with fail
            refine Calls.mono (HT0.out _ (Hr.out.below S0.out.bel)) ?_
            rintro e w2 ⟨rfl, hb2⟩
            have A2 := Lib.hid (S0.out.after hb2)
            have S2 := Lib.hid (A2.out.set Hlt.out 2 (.string ⟨x0.toArray⟩))
            clear hb2
            have hq2 := A2.out.box.free 2
            have hv2 := (cell_of_row _ _ 2 _ _ (0, 0) A2.out.box).trans (by rfl : _ = some (.string ⟨#[]⟩))
            obtain ⟨hk2, _, _, _, _⟩ := Row5.box (k := 5) (n := 0) (s := x0) (t := ([] : List UInt8)) (u := ([] : List UInt8)) S2.out.box
            go_wp2_with fail
            refine Calls.mono (HT1.out _ (Hr.out.below S2.out.bel)) ?_
            rintro e w3 ⟨rfl, hb3⟩
            have A3 := Lib.hid (S2.out.after hb3)
            have S3 := Lib.hid (A3.out.set Hlt.out 3 (.string ⟨x1.toArray⟩))
            clear hb3
            have hq3 := A3.out.box.free 3
            have hv3 := (cell_of_row _ _ 3 _ _ (0, 0) A3.out.box).trans (by rfl : _ = some (.string ⟨#[]⟩))
            obtain ⟨hz0, hz1, hz2, hz3, hz4⟩ := Row5.box (k := 0) (n := 0) (s := []) (t := []) (u := []) S3.out.non
            have hf0 := S3.out.res.free 0
            have hf1 := S3.out.res.free 1
            have hf2 := S3.out.res.free 2
            have hf3 := S3.out.res.free 3
            have hf4 := S3.out.res.free 4
            obtain ⟨hr0, hr1, hr2, hr3, hr4⟩ := Row5.box (k := 0) (n := 0) (s := []) (t := []) (u := []) S3.out.res
            go_wp2_with fail
            refine bodyPost_ret (v := .tuple #[cstV noneC, .int .i64 0, .int .i64 er1]) (results3 Tryd.results14 _ _ _ _ rfl (Row5.five S3.out.res rfl S3.out.bel 0 0 [] [] []).1) rfl (retC3 H.out (Row5.five S3.out.res rfl S3.out.bel 0 0 [] [] []).2)
        · rw [if_pos (by simpa using he0)] at H
          have H := Lib.hid (H.out.trans (fin_err he0))
          have hn1 : (er0 != 0) = true := by simpa using he0
          have hn2 : (er0 == 0) = false := by simpa using he0
          clear he0 hto0
          go_enter Tryd.func14, Tryd.ntmps14
          go_wp2_with fail
          refine Calls.mono Hg.out ?_
          rintro e w1 ⟨rfl, hb1⟩
          have Hb1 := Lib.hid hb1
          have Hlt := Lib.hid (lt_start hb1)
          have S0 := Lib.hid (St.start hb1 #[.int .i64 5, .int .i64 0, .string ⟨#[]⟩, .string ⟨#[]⟩, .string ⟨#[]⟩])
          clear hb1
          go_wp2_with fail
          refine Calls.mono (HT0.out _ (Hr.out.below S0.out.bel)) ?_
          rintro e w2 ⟨rfl, hb2⟩
          have A2 := Lib.hid (S0.out.after hb2)
          have S2 := Lib.hid (A2.out.set Hlt.out 2 (.string ⟨x0.toArray⟩))
          clear hb2
          have hq2 := A2.out.box.free 2
          have hv2 := (cell_of_row _ _ 2 _ _ (0, 0) A2.out.box).trans (by rfl : _ = some (.string ⟨#[]⟩))
          obtain ⟨hk2, _, _, _, _⟩ := Row5.box (k := 5) (n := 0) (s := x0) (t := ([] : List UInt8)) (u := ([] : List UInt8)) S2.out.box
          obtain ⟨hz0, hz1, hz2, hz3, hz4⟩ := Row5.box (k := 0) (n := 0) (s := []) (t := []) (u := []) S2.out.non
          have hf0 := S2.out.res.free 0
          have hf1 := S2.out.res.free 1
          have hf2 := S2.out.res.free 2
          have hf3 := S2.out.res.free 3
          have hf4 := S2.out.res.free 4
          obtain ⟨hr0, hr1, hr2, hr3, hr4⟩ := Row5.box (k := 0) (n := 0) (s := []) (t := []) (u := []) S2.out.res
          go_wp2_with fail
          refine bodyPost_ret (v := .tuple #[cstV noneC, .int .i64 0, .int .i64 er0]) (results3 Tryd.results14 _ _ _ _ rfl (Row5.five S2.out.res rfl S2.out.bel 0 0 [] [] []).1) rfl (retC3 H.out (Row5.five S2.out.res rfl S2.out.bel 0 0 [] [] []).2)
  · have H := Lib.hid (getC_err h1)
    generalize getS l a = g at *
    obtain ⟨v, pl, er⟩ := g
    simp only at h1 H
    have he2 : (er != 0) = true := by simpa using h1
    unfold three at hg
    have Hg := Lib.hid hg
    clear hg h1
    go_enter Tryd.func14, Tryd.ntmps14
    go_wp2_with fail
    refine Calls.mono Hg.out ?_
    rintro e w1 ⟨rfl, hb1⟩
    have Hb1 := Lib.hid hb1
    have Hlt := Lib.hid (lt_start hb1)
    have Hf := Lib.hid (first_box hb1)
    clear hb1
    have hf0 := Hf.out.1.free 0
    have hf1 := Hf.out.1.free 1
    have hf2 := Hf.out.1.free 2
    have hf3 := Hf.out.1.free 3
    have hf4 := Hf.out.1.free 4
    obtain ⟨hr0, hr1, hr2, hr3, hr4⟩ := Row5.box (k := 0) (n := 0) (s := []) (t := []) (u := []) Hf.out.1
    go_wp2_with fail
    refine bodyPost_ret (v := .tuple #[cstV noneC, .int .i64 0, .int .i64 er]) (results3 Tryd.results14 _ _ _ _ rfl (Row5.five Hf.out.1 rfl Hf.out.2 0 0 [] [] []).1) rfl (retC3 H.out (Row5.five Hf.out.1 rfl Hf.out.2 0 0 [] [] []).2)

end PoolY
end Go.Proofs.YtnkkeifjggcncaaDoor
