/-
  ins.rising, and the document's putting of a number in its place: what each call returns.
-/
import Derived.Test.YtaekdgbbopcpbaaDoorShelf
import Derived.Test.YtaekdgbbopcpbaaDoorInsT
import Derived.Test.YtaekdgbbopcpbaaDoorInsF
import Derived.Lib.OwnBridge
import Derived.Sort.OwnSortedInts
namespace Go.Proofs.YtaekdgbbopcpbaaDoor
namespace InsU
open Go.RowKit Base InsA InsT

/-- numbers in a row of the call's own -/
def OwnJ (w : World) (base : Nat) (v : Value) (l : List Int) : Prop := w.ownsRow base 3 1 v l.length (l.map (Value.int .i64))
theorem OwnJ.nil (w : World) (base : Nat) : OwnJ w base (.slice none 0 0) [] := World.ownsRow_nil _ _ _ _
theorem infoJ : (Tryd.prog.info? 3).map (fun i => (i.zero, i.size, i.bytes)) = some (some (.int .i64 0), 1, 8) := by kernel_rfl

theorem one_int (l : List Int) : ∀ u ∈ l.map (Value.int .i64), u.oneCell' = true := by
  intro u hu
  obtain ⟨t, _, rfl⟩ := List.mem_map.1 hu
  rfl

theorem appJ {ops : Array Oper} {rest : List Oper} {o : Oper} {a : Act} {w : World} {Q : Exit → Act → World → Prop} (hgd : o.guard = none) (s x : Operand)
    (ho : o.op = .call { callee := .builtin .append, args := #[s, x], argTypes := #[56, 56] })
    (base : Nat) (v : Value) (p : List Int) (hs : a.eval s = v) (hown : OwnJ w base v p) (A : Option Addr) (m c : Nat) (l : List Int) (hx : a.eval x = .slice A m c)
    (hm : m = l.length) (hr : Rds w A (l.map (Value.int .i64))) (hlen : p.length + l.length ≤ 1048576) (hbase : base ≤ w.heap.size)
    (h : ∀ v' w', OwnJ w' base v' (p ++ l) → w.grownBy w' v.ownBlock → wpList Tryd.prog ops Q rest (a.put o.dst v') w') : wpList Tryd.prog ops Q (o :: rest) a w := by
  obtain ⟨i0, hi, hz, hs1, hb1⟩ := info_parts infoJ
  refine wpList_append_rds hgd s x 56 ho base 3 i0 _ 8 Tryd.underlying56 hi hz hs1 hb1 rfl v p.length (p.map (Value.int .i64)) hs hown A m c (l.map (Value.int .i64)) hx (by rw [List.length_map, hm]) hr (one_int l) (by unfold maxLen; omega) (by omega) hbase ?_
  intro v' w' h1 h2
  refine h v' w' ?_ h2
  unfold OwnJ
  rw [List.map_append, List.length_append, ← hm]
  exact h1

theorem ownJ_below {B base : Nat} {v : Value} {p : List Int} {w0 w w' : World} (h : OwnJ w base v p) (hb : Below B w0 w) (hB : B ≤ base) (hs : B ≤ w.heap.size) (hg : w.grownBy w' v.ownBlock) : Below B w0 w' :=
  below_own hb h hB hs hg
theorem ownJ_kept {w w' : World} {base : Nat} {v : Value} {p : List Int} (h : OwnJ w base v p) (hb : Below w.heap.size w w') : OwnJ w' base v p := by
  obtain ⟨h1, h2⟩ := h
  refine ⟨h1, ?_⟩
  rcases h2 with h2 | ⟨g, cap, cur, a, b, c, d⟩
  · exact .inl h2
  · have hlt : g < w.heap.size := by
      rcases Nat.lt_or_ge g w.heap.size with hl | hl
      · exact hl
      · rw [Array.getElem?_eq_none hl] at c; cases c
    exact .inr ⟨g, cap, cur, a, b, by rw [hb.block g hlt]; exact c, d⟩
theorem OwnJ.slice {w : World} {base : Nat} {v : Value} {p : List Int} (h : OwnJ w base v p) :
    ∃ A c, v = .slice A p.length c ∧ p.length ≤ c ∧ c ≤ maxLen ∧ Rds w A (p.map (Value.int .i64)) ∧ ∀ a, A = some a → base ≤ a.block ∧ a.block < w.heap.size := by
  obtain ⟨A, c, rfl, h1, h2, h3, _⟩ := own_slice h
  exact ⟨A, c, rfl, h1, h2, Rds.own h, fun a ha => ⟨(h3 a ha).1, (h3 a ha).2.1⟩⟩

/-- a row just made -/
theorem ownJ_new (w : World) (l : List Int) (h : l.length ≤ maxLen) : OwnJ (w.alloc (.cells (l.map (Value.int .i64)).toArray 3)) w.heap.size (.slice (some ⟨w.heap.size, 0, none⟩) l.length l.length) l :=
  ⟨by simp, .inr ⟨w.heap.size, l.length, _, rfl, Nat.le_refl _, heap_alloc_new w _, Nat.le_refl _, h, by simp, by simp [List.take_of_length_le]⟩⟩

/-- rising: the call sorts its own row and drops repeats -/
def GivesUp (w : World) (base : Nat) (l : List Int) (e : Ending) (w' : World) : Prop :=
  ∃ v, e = .returned v ∧ OwnJ w' base v (rise l) ∧ ∀ B w0, B ≤ base → B ≤ w.heap.size → Below B w0 w → Below B w0 w'

theorem compact_len (zs : List Int) : (Lib.compact zs).length ≤ zs.length := by
  unfold Lib.compact Lib.compactUpTo
  rw [List.length_map]
  exact Nat.le_trans (List.length_filter_le _ _) (by simp)

set_option maxRecDepth 100000 in
theorem rising_any (base : Nat) (v : Value) (l : List Int) (w : World) (h : OwnJ w base v l) (hl : l.length ≤ 1048576) :
    Calls Tryd.prog 80 #[v] w (GivesUp w base l) := by
  by_cases h0 : l.length = 0
  · have hn : l = [] := List.eq_nil_of_length_eq_zero h0
    subst hn
    obtain ⟨A, c, rfl, h1, h2, h3, _⟩ := own_slice h
    have hs := Tryd.slices_Sort_int_none A c w
    have hc := Tryd.slices_Compact_int_empty A c w
    have H := Lib.hid h
    have Hs := Lib.hid hs
    have Hc := Lib.hid hc
    clear hs hc h
    go_enter Tryd.func80, Tryd.ntmps80
    go_wp2_with fail
    refine Calls.mono Hs.out ?_
    rintro e w1 ⟨rfl, rfl⟩
    go_wp2_with fail
    refine Calls.mono Hc.out ?_
    rintro e w1 ⟨rfl, rfl⟩
    go_wp2_with fail
    go_ret
    refine ⟨_, rfl, ?_, fun _ _ _ _ hb => hb⟩
    rw [rise_nil]
    exact H.out
  · have hv : v ≠ .slice none 0 0 := by
      rintro rfl
      rcases h.2 with ⟨_, e⟩ | ⟨g, cap, cur, e, _⟩
      · exact h0 e
      · cases e
    obtain ⟨g, cap, rfl, hbg, hg, hnc, hcm, _, hH⟩ := Lib.holds_of_ownsRow h hv
    have hs := Tryd.slices_Sort_int g 0 cap l w hH hg (by omega)
    have hblk : ∃ cur, w.heap[g]? = some (.cells cur 3 (0, 0)) ∧ cur.size = cap * 1 := by
      rcases h.2 with ⟨e, _⟩ | ⟨g', cap', cur, e, _, hh, _, _, hsz, _⟩
      · cases e
      · injection e with e1 _ e3
        injection e1 with e1
        injection e1 with e1
        subst e1; subst e3
        exact ⟨cur, hh, hsz⟩
    obtain ⟨cur, hcur, hcs⟩ := hblk
    have Hs := Lib.hid hs
    have Hcur := Lib.hid hcur
    clear hs hH hv hcur
    go_enter Tryd.func80, Tryd.ntmps80
    go_wp2_with fail
    refine Calls.mono Hs.out ?_
    rintro e w1 ⟨rfl, n, os, hw1⟩
    have hlen : (l.mergeSort fun x y => decide (x ≤ y)).length = l.length := List.length_mergeSort _
    have hown1 : w1.ownsRow base 3 1 (.slice (some ⟨g, 0, none⟩) l.length cap) l.length ((l.mergeSort fun x y => decide (x ≤ y)).map (Value.int .i64)) := by
      rw [hw1]
      exact ownsRow_sortedI hlen hbg Hcur.out hnc hcm hcs
    have hgr : w.grownBy w1 (some g) := by rw [hw1]; exact grownBy_sortedI _
    clear hw1
    generalize hz : (l.mergeSort fun x y => decide (x ≤ y)) = zs at *
    obtain ⟨g', cap', e', hbg', hg', hnc', hcm', hzl, hH1⟩ := Lib.holds_of_ownsRow hown1 (by simp)
    injection e' with e1 _ e3
    injection e1 with e1
    injection e1 with e1
    subst e1; subst e3
    have hc := Tryd.slices_Compact_int g 0 cap zs w1 hH1 (by omega) (by omega)
    rw [hlen] at hc
    have Hc := Lib.hid hc
    have Hown1 := Lib.hid hown1
    have Hgr := Lib.hid hgr
    have Hz := Lib.hid hz
    have Hlen := Lib.hid hlen
    clear hc hown1 hgr hz hH1 hlen hzl
    go_wp2_with fail
    refine Calls.mono Hc.out ?_
    rintro e w2 ⟨rfl, q, hw2⟩
    have hcl := compact_len zs
    have hown2 : w2.ownsRow base 3 1 (.slice (some ⟨g, 0, none⟩) (Lib.compact zs).length cap) (Lib.compact zs).length ((Lib.compact zs).map (Value.int .i64)) := by
      rw [hw2]
      have := Lib.ownsRow_putRow (q := q) (k := (Lib.compact zs).length) (ys := Lib.compact zs ++ List.replicate (l.length - (Lib.compact zs).length) 0) Hown1.out
        (by have := Hlen.out; simp; omega) (by have := Hlen.out; omega)
      simpa using this
    have hbel : ∀ B w0, B ≤ base → B ≤ w.heap.size → Below B w0 w → Below B w0 w2 := by
      intro B w0 hB hBs hb
      rw [hw2]
      exact Lib.below_putRow (hb.grown Hgr.out hBs (fun k hk => by injection hk with hk; omega)) (by omega)
    have hri : rise l = Lib.compact zs := by unfold rise; rw [Hz.out]
    have Hri := Lib.hid hri
    have Hown2 := Lib.hid hown2
    have Hbel := Lib.hid hbel
    clear hw2 hown2 hbel hri
    go_wp2_with fail
    go_ret
    refine ⟨_, rfl, ?_, Hbel.out⟩
    rw [Hri.out]
    exact Hown2.out

end InsU
end Go.Proofs.YtaekdgbbopcpbaaDoor
