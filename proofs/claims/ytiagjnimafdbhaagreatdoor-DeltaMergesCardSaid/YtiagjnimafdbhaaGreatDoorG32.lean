/-
  Where code goes on, and whether it goes back: ins.Next, ins.Back and the document's own: what each call returns; rising: numbers in order, each once.
-/
import Derived.Test.YtiagjnimafdbhaaGreatDoorG9
import Derived.Test.YtiagjnimafdbhaaGreatDoorG1
import Derived.Below
import Derived.Lib.SlicesCompact
import Derived.Test.YtiagjnimafdbhaaGreatDoorShelg
import Derived.Lib.OwnBridge
import Derived.Sort.OwnSortedInts
namespace Go.Proofs.YtiagjnimafdbhaaGreatDoor
namespace InsF
open Go.RowKit InsM Base InsA InsB Stru InsC

/-- whether code goes back at a place -/
def backB (l : List InsT) (at_ : Int) : Bool := if 0 ≤ at_ ∧ at_ < (l.length : Int) then (match l[at_.toNat]? with | some x => (kindI x.1 == 7) && decide (x.2 ≤ at_) | none => false) else false
theorem back_in {l : List InsT} {k : Nat} (h : k < l.length) : backB l (k : Int) = ((kindI l[k].1 == 7) && decide (l[k].2 ≤ (k : Int))) := by
  unfold backB; rw [if_pos (by omega)]; simp [h]




end InsF
end Go.Proofs.YtiagjnimafdbhaaGreatDoor
/-
  Numbers in order, each once: plain facts: what sorting and dropping repeats gives, and what putting one number after another in its place gives, are one list.
  ins.rising, and the document's putting of a number in its place: what each call returns.
  Where code goes on: ins.Next and the document's own: what each call returns.
  The document's putting of a number in its place; which constants code uses: ins.Uses and the document's own: what each call returns.
  Which constants code uses: ins.Uses and the document's own; two lists of numbers held against each other: what each call returns.
-/
namespace Go.Proofs.YtiagjnimafdbhaaGreatDoor
namespace InsT
open Go.Lib

/-- a number in its place -/
def insB (n : Int) : List Int → List Int
  | [] => [n]
  | x :: t => if n < x then n :: x :: t else x :: insB n t
def insI (l : List Int) (n : Int) : List Int := if n ∈ l then l else insB n l
def upsI (l : List Int) : List Int := l.foldl insI []
def rise (l : List Int) : List Int := Lib.compact (l.mergeSort fun x y => decide (x ≤ y))

theorem mem_insB {n x : Int} : ∀ {l : List Int}, x ∈ insB n l ↔ x = n ∨ x ∈ l
  | [] => by simp [insB]
  | y :: t => by
    unfold insB
    split
    · simp
    · rw [List.mem_cons, mem_insB, List.mem_cons]
      constructor
      · rintro (h | h | h)
        · exact .inr (.inl h)
        · exact .inl h
        · exact .inr (.inr h)
      · rintro (h | h | h)
        · exact .inr (.inl h)
        · exact .inl h
        · exact .inr (.inr h)
theorem mem_insI {n x : Int} {l : List Int} : x ∈ insI l n ↔ x = n ∨ x ∈ l := by
  unfold insI
  split
  · rename_i h
    constructor
    · exact .inr
    · rintro (rfl | h2)
      · exact h
      · exact h2
  · exact mem_insB
theorem up_insB {n : Int} : ∀ {l : List Int}, l.Pairwise (· < ·) → n ∉ l → (insB n l).Pairwise (· < ·)
  | [], _, _ => by simp [insB]
  | y :: t, h, hn => by
    rw [List.pairwise_cons] at h
    unfold insB
    split
    · rename_i hlt
      rw [List.pairwise_cons, List.pairwise_cons]
      refine ⟨fun z hz => ?_, h⟩
      rcases List.mem_cons.1 hz with rfl | hz
      · exact hlt
      · have := h.1 z hz; omega
    · rename_i hge
      have hne : n ≠ y := fun e => hn (by simp [e])
      rw [List.pairwise_cons]
      refine ⟨fun z hz => ?_, up_insB h.2 (fun hm => hn (by simp [hm]))⟩
      rcases mem_insB.1 hz with rfl | hz
      · omega
      · exact h.1 z hz
theorem up_insI {n : Int} {l : List Int} (h : l.Pairwise (· < ·)) : (insI l n).Pairwise (· < ·) := by
  unfold insI
  split
  · exact h
  · rename_i hn; exact up_insB h hn
theorem ups_go : ∀ (l acc : List Int), acc.Pairwise (· < ·) → (l.foldl insI acc).Pairwise (· < ·) ∧ ∀ x, x ∈ l.foldl insI acc ↔ x ∈ acc ∨ x ∈ l
  | [], acc, h => ⟨h, by simp⟩
  | y :: t, acc, h => by
    obtain ⟨h1, h2⟩ := ups_go t (insI acc y) (up_insI h)
    refine ⟨h1, fun x => ?_⟩
    rw [List.foldl_cons, h2, mem_insI, List.mem_cons]
    constructor
    · rintro ((h | h) | h)
      · exact .inr (.inl h)
      · exact .inl h
      · exact .inr (.inr h)
    · rintro (h | h | h)
      · exact .inl (.inr h)
      · exact .inl (.inl h)
      · exact .inr h
theorem ups_up (l : List Int) : (upsI l).Pairwise (· < ·) := (ups_go l [] .nil).1
theorem ups_mem (l : List Int) (x : Int) : x ∈ upsI l ↔ x ∈ l := by
  have := (ups_go l [] .nil).2 x
  show x ∈ l.foldl insI [] ↔ x ∈ l
  simpa using this

/-- two rising lists of the same numbers are one -/
theorem up_eq : ∀ {a b : List Int}, a.Pairwise (· < ·) → b.Pairwise (· < ·) → (∀ x, x ∈ a ↔ x ∈ b) → a = b
  | [], [], _, _, _ => rfl
  | [], y :: t, _, _, h => by have := (h y).2 (by simp); cases this
  | y :: t, [], _, _, h => by have := (h y).1 (by simp); cases this
  | x :: s, y :: t, ha, hb, h => by
    rw [List.pairwise_cons] at ha hb
    have hxy : x = y := by
      rcases List.mem_cons.1 ((h x).1 (by simp)) with e | e
      · exact e
      · rcases List.mem_cons.1 ((h y).2 (by simp)) with e2 | e2
        · exact e2.symm
        · have := ha.1 y e2; have := hb.1 x e; omega
    subst hxy
    congr 1
    refine up_eq ha.2 hb.2 fun z => ?_
    constructor
    · intro hz
      rcases List.mem_cons.1 ((h z).1 (by simp [hz])) with e | e
      · have := ha.1 z hz; omega
      · exact e
    · intro hz
      rcases List.mem_cons.1 ((h z).2 (by simp [hz])) with e | e
      · have := hb.1 z hz; omega
      · exact e

theorem keeps_iff (d : Array Int) (m : Nat) : keeps d m = true ↔ m = 0 ∨ d[m]! ≠ d[m - 1]! := by
  rcases Nat.eq_zero_or_pos m with h | h
  · subst h; simp [keeps_lt_one]
  · by_cases e : d[m]! = d[m - 1]!
    · rw [keeps_neg h e]; simp; exact ⟨by omega, e⟩
    · rw [keeps_pos e]; simp [e]

theorem compact_up {d : Array Int} (hs : ∀ i j, i ≤ j → j < d.size → d[i]! ≤ d[j]!) : ∀ m, m ≤ d.size →
    (compactUpTo d m).Pairwise (· < ·) ∧ (∀ x, x ∈ compactUpTo d m ↔ ∃ j, j < m ∧ d[j]! = x) ∧ (∀ x ∈ compactUpTo d m, x ≤ d[m - 1]!)
  | 0, _ => ⟨by simp [compactUpTo], by simp [compactUpTo], by simp [compactUpTo]⟩
  | m + 1, h => by
    obtain ⟨h1, h2, h3⟩ := compact_up hs m (by omega)
    rw [compactUpTo_succ]
    have hmono : ∀ x ∈ compactUpTo d m, x ≤ d[m]! := fun x hx => by
      obtain ⟨j, hj, rfl⟩ := (h2 x).1 hx
      exact hs j m (by omega) (by omega)
    by_cases hk : keeps d m = true
    · rw [if_pos hk]
      have hk' := (keeps_iff d m).1 hk
      refine ⟨?_, fun x => ?_, fun x hx => ?_⟩
      · rw [List.pairwise_append]
        refine ⟨h1, by simp, fun x hx y hy => ?_⟩
        simp at hy
        subst hy
        rcases hk' with e | e
        · subst e; obtain ⟨j, hj, _⟩ := (h2 x).1 hx; omega
        · have := h3 x hx
          have := hs (m - 1) m (by omega) (by omega)
          omega
      · rw [List.mem_append, h2, List.mem_singleton]
        constructor
        · rintro (⟨j, hj, e⟩ | e)
          · exact ⟨j, by omega, e⟩
          · exact ⟨m, by omega, e.symm⟩
        · rintro ⟨j, hj, e⟩
          rcases Nat.lt_succ_iff_lt_or_eq.1 hj with h | h
          · exact .inl ⟨j, h, e⟩
          · subst h; exact .inr e.symm
      · rcases List.mem_append.1 hx with hx | hx
        · simpa using hmono x hx
        · simp at hx; simp [hx]
    · rw [if_neg hk, List.append_nil]
      have hk' : ¬ (m = 0 ∨ d[m]! ≠ d[m - 1]!) := fun e => hk ((keeps_iff d m).2 e)
      have hm : 0 < m := by omega
      have he : d[m]! = d[m - 1]! := Classical.not_not.1 fun e => hk' (.inr e)
      refine ⟨h1, fun x => ?_, fun x hx => by simpa using hmono x hx⟩
      rw [h2]
      constructor
      · rintro ⟨j, hj, e⟩; exact ⟨j, by omega, e⟩
      · rintro ⟨j, hj, e⟩
        rcases Nat.lt_succ_iff_lt_or_eq.1 hj with h | h
        · exact ⟨j, h, e⟩
        · subst h; exact ⟨j - 1, by omega, by rw [← he]; exact e⟩

theorem rise_eq (l : List Int) : rise l = upsI l := by
  have hp := List.mergeSort_perm l (fun x y => decide (x ≤ y))
  have hs : (l.mergeSort fun x y => decide (x ≤ y)).Pairwise fun x y => decide (x ≤ y) = true :=
    List.pairwise_mergeSort (fun a b c h1 h2 => by simp at *; omega) (fun a b => by simp; omega) l
  unfold rise Lib.compact
  generalize hz : (l.mergeSort fun x y => decide (x ≤ y)) = zs at *
  have hsz : zs.toArray.size = zs.length := by simp
  have hget : ∀ j, j < zs.length → zs.toArray[j]! = zs.getD j 0 := fun j hj => by
    rw [getElem!_pos zs.toArray j (by simpa using hj), List.getD_eq_getElem?_getD, List.getElem?_eq_getElem hj]; simp
  have hgetE : ∀ j (hj : j < zs.length), zs.toArray[j]! = zs[j] := fun j hj => by
    rw [getElem!_pos zs.toArray j (by simpa using hj)]; simp
  have hmono : ∀ i j, i ≤ j → j < zs.toArray.size → zs.toArray[i]! ≤ zs.toArray[j]! := fun i j hij hj => by
    rw [hsz] at hj
    rw [hgetE i (by omega), hgetE j hj]
    rcases Nat.lt_or_ge i j with h | h
    · have := List.pairwise_iff_getElem.1 hs i j (by omega) hj h
      simpa using this
    · have : i = j := by omega
      subst this; exact Int.le_refl _
  obtain ⟨h1, h2, _⟩ := compact_up hmono zs.length (by rw [hsz]; exact Nat.le_refl _)
  refine up_eq h1 (ups_up l) fun x => ?_
  rw [h2, ups_mem, ← hp.mem_iff, List.mem_iff_getElem]
  constructor
  · rintro ⟨j, hj, e⟩
    exact ⟨j, hj, by rw [← e, hgetE j hj]⟩
  · rintro ⟨j, hj, e⟩
    exact ⟨j, hj, by rw [hgetE j hj]; exact e⟩

theorem rise_nil : rise [] = [] := by rw [rise_eq]; rfl

/-! the document's way of putting a number in its place -/
end InsT
end Go.Proofs.YtiagjnimafdbhaaGreatDoor

namespace Go.Proofs.YtiagjnimafdbhaaGreatDoor
namespace InsU
open Go.RowKit Base InsA InsT

/-- numbers in a row of the call's own -/
def OwnJ (w : World) (base : Nat) (v : Value) (l : List Int) : Prop := w.ownsRow base 3 1 v l.length (l.map (Value.int .i64))
theorem OwnJ.nil (w : World) (base : Nat) : OwnJ w base (.slice none 0 0) [] := World.ownsRow_nil _ _ _ _
theorem infoJ : (Tryz.prog.info? 3).map (fun i => (i.zero, i.size, i.bytes)) = some (some (.int .i64 0), 1, 8) := by kernel_rfl

theorem one_int (l : List Int) : ∀ u ∈ l.map (Value.int .i64), u.oneCell' = true := by
  intro u hu
  obtain ⟨t, _, rfl⟩ := List.mem_map.1 hu
  rfl

theorem appJ {ops : Array Oper} {rest : List Oper} {o : Oper} {a : Act} {w : World} {Q : Exit → Act → World → Prop} (hgd : o.guard = none) (s x : Operand)
    (ho : o.op = .call { callee := .builtin .append, args := #[s, x], argTypes := #[182, 182] })
    (base : Nat) (v : Value) (p : List Int) (hs : a.eval s = v) (hown : OwnJ w base v p) (A : Option Addr) (m c : Nat) (l : List Int) (hx : a.eval x = .slice A m c)
    (hm : m = l.length) (hr : Rds w A (l.map (Value.int .i64))) (hlen : p.length + l.length ≤ 1048576) (hbase : base ≤ w.heap.size)
    (h : ∀ v' w', OwnJ w' base v' (p ++ l) → w.grownBy w' v.ownBlock → wpList Tryz.prog ops Q rest (a.put o.dst v') w') : wpList Tryz.prog ops Q (o :: rest) a w := by
  obtain ⟨i0, hi, hz, hs1, hb1⟩ := info_parts infoJ
  refine wpList_append_rds hgd s x 182 ho base 3 i0 _ 8 Tryz.underlying182 hi hz hs1 hb1 rfl v p.length (p.map (Value.int .i64)) hs hown A m c (l.map (Value.int .i64)) hx (by rw [List.length_map, hm]) hr (one_int l) (by unfold maxLen; omega) (by omega) hbase ?_
  intro v' w' h1 h2
  refine h v' w' ?_ h2
  unfold OwnJ
  rw [List.map_append, List.length_append, ← hm]
  exact h1

theorem ownJ_below {B base : Nat} {v : Value} {p : List Int} {w0 w w' : World} (h : OwnJ w base v p) (hb : Below B w0 w) (hB : B ≤ base) (hs : B ≤ w.heap.size) (hg : w.grownBy w' v.ownBlock) : Below B w0 w' :=
  below_own hb h hB hs hg
theorem ownJ_kept {w w' : World} {base : Nat} {v : Value} {p : List Int} (h : OwnJ w base v p) (hb : Below w.heap.size w w') : OwnJ w' base v p := by
  obtain ⟨h1, h2⟩ := h
  refine ⟨h1, ?_⟩
  rcases h2 with h2 | ⟨g, cap, cur, a, b, c, d⟩
  · exact .inl h2
  · have hlt : g < w.heap.size := by
      rcases Nat.lt_or_ge g w.heap.size with hl | hl
      · exact hl
      · rw [Array.getElem?_eq_none hl] at c; cases c
    exact .inr ⟨g, cap, cur, a, b, by rw [hb.block g hlt]; exact c, d⟩
theorem OwnJ.slice {w : World} {base : Nat} {v : Value} {p : List Int} (h : OwnJ w base v p) :
    ∃ A c, v = .slice A p.length c ∧ p.length ≤ c ∧ c ≤ maxLen ∧ Rds w A (p.map (Value.int .i64)) ∧ ∀ a, A = some a → base ≤ a.block ∧ a.block < w.heap.size := by
  obtain ⟨A, c, rfl, h1, h2, h3, _⟩ := own_slice h
  exact ⟨A, c, rfl, h1, h2, Rds.own h, fun a ha => ⟨(h3 a ha).1, (h3 a ha).2.1⟩⟩

/-- rising: the call sorts its own row and drops repeats -/
def GivesUp (w : World) (base : Nat) (l : List Int) (e : Ending) (w' : World) : Prop :=
  ∃ v, e = .returned v ∧ OwnJ w' base v (rise l) ∧ ∀ B w0, B ≤ base → B ≤ w.heap.size → Below B w0 w → Below B w0 w'

theorem compact_len (zs : List Int) : (Lib.compact zs).length ≤ zs.length := by
  unfold Lib.compact Lib.compactUpTo
  rw [List.length_map]
  exact Nat.le_trans (List.length_filter_le _ _) (by simp)

set_option maxRecDepth 100000 in
theorem rising_any (base : Nat) (v : Value) (l : List Int) (w : World) (h : OwnJ w base v l) (hl : l.length ≤ 1048576) :
    Calls Tryz.prog 149 #[v] w (GivesUp w base l) := by
  by_cases h0 : l.length = 0
  · have hn : l = [] := List.eq_nil_of_length_eq_zero h0
    subst hn
    obtain ⟨A, c, rfl, h1, h2, h3, _⟩ := own_slice h
    have hs := Tryz.slices_Sort_int_none A c w
    have hc := Tryz.slices_Compact_int_empty A c w
    have H := Lib.hid h
    have Hs := Lib.hid hs
    have Hc := Lib.hid hc
    clear hs hc h
    go_enter Tryz.func149, Tryz.ntmps149
    go_wp2_with fail
    refine Calls.mono Hs.out ?_
    rintro e w1 ⟨rfl, rfl⟩
    go_wp2_with fail
    refine Calls.mono Hc.out ?_
    rintro e w1 ⟨rfl, rfl⟩
    go_wp2_with fail
    go_ret
    refine ⟨_, rfl, ?_, fun _ _ _ _ hb => hb⟩
    rw [rise_nil]
    exact H.out
  · have hv : v ≠ .slice none 0 0 := by
      rintro rfl
      rcases h.2 with ⟨_, e⟩ | ⟨g, cap, cur, e, _⟩
      · exact h0 e
      · cases e
    obtain ⟨g, cap, rfl, hbg, hg, hnc, hcm, _, hH⟩ := Lib.holds_of_ownsRow h hv
    have hs := Tryz.slices_Sort_int g 0 cap l w hH hg (by omega)
    have hblk : ∃ cur, w.heap[g]? = some (.cells cur 3 (0, 0)) ∧ cur.size = cap * 1 := by
      rcases h.2 with ⟨e, _⟩ | ⟨g', cap', cur, e, _, hh, _, _, hsz, _⟩
      · cases e
      · injection e with e1 _ e3
        injection e1 with e1
        injection e1 with e1
        subst e1; subst e3
        exact ⟨cur, hh, hsz⟩
    obtain ⟨cur, hcur, hcs⟩ := hblk
    have Hs := Lib.hid hs
    have Hcur := Lib.hid hcur
    clear hs hH hv hcur
    go_enter Tryz.func149, Tryz.ntmps149
    go_wp2_with fail
    refine Calls.mono Hs.out ?_
    rintro e w1 ⟨rfl, n, os, hw1⟩
    have hlen : (l.mergeSort fun x y => decide (x ≤ y)).length = l.length := List.length_mergeSort _
    have hown1 : w1.ownsRow base 3 1 (.slice (some ⟨g, 0, none⟩) l.length cap) l.length ((l.mergeSort fun x y => decide (x ≤ y)).map (Value.int .i64)) := by
      rw [hw1]
      exact ownsRow_sortedI hlen hbg Hcur.out hnc hcm hcs
    have hgr : w.grownBy w1 (some g) := by rw [hw1]; exact grownBy_sortedI _
    clear hw1
    generalize hz : (l.mergeSort fun x y => decide (x ≤ y)) = zs at *
    obtain ⟨g', cap', e', hbg', hg', hnc', hcm', hzl, hH1⟩ := Lib.holds_of_ownsRow hown1 (by simp)
    injection e' with e1 _ e3
    injection e1 with e1
    injection e1 with e1
    subst e1; subst e3
    have hc := Tryz.slices_Compact_int g 0 cap zs w1 hH1 (by omega) (by omega)
    rw [hlen] at hc
    have Hc := Lib.hid hc
    have Hown1 := Lib.hid hown1
    have Hgr := Lib.hid hgr
    have Hz := Lib.hid hz
    have Hlen := Lib.hid hlen
    clear hc hown1 hgr hz hH1 hlen hzl
    go_wp2_with fail
    refine Calls.mono Hc.out ?_
    rintro e w2 ⟨rfl, q, hw2⟩
    have hcl := compact_len zs
    have hown2 : w2.ownsRow base 3 1 (.slice (some ⟨g, 0, none⟩) (Lib.compact zs).length cap) (Lib.compact zs).length ((Lib.compact zs).map (Value.int .i64)) := by
      rw [hw2]
      have := Lib.ownsRow_putRow (q := q) (k := (Lib.compact zs).length) (ys := Lib.compact zs ++ List.replicate (l.length - (Lib.compact zs).length) 0) Hown1.out
        (by have := Hlen.out; simp; omega) (by have := Hlen.out; omega)
      simpa using this
    have hbel : ∀ B w0, B ≤ base → B ≤ w.heap.size → Below B w0 w → Below B w0 w2 := by
      intro B w0 hB hBs hb
      rw [hw2]
      exact Lib.below_putRow (hb.grown Hgr.out hBs (fun k hk => by injection hk with hk; omega)) (by omega)
    have hri : rise l = Lib.compact zs := by unfold rise; rw [Hz.out]
    have Hri := Lib.hid hri
    have Hown2 := Lib.hid hown2
    have Hbel := Lib.hid hbel
    clear hw2 hown2 hbel hri
    go_wp2_with fail
    go_ret
    refine ⟨_, rfl, ?_, Hbel.out⟩
    rw [Hri.out]
    exact Hown2.out

end InsU
end Go.Proofs.YtiagjnimafdbhaaGreatDoor

namespace Go.Proofs.YtiagjnimafdbhaaGreatDoor
namespace InsV
open Go.RowKit Base InsM InsA InsB Stru InsC InsF InsT InsU

/-- a call hands back numbers in new memory -/
def GivesJ (w : World) (l : List Int) (e : Ending) (w' : World) : Prop := ∃ v, e = .returned v ∧ OwnJ w' w.heap.size v l ∧ Below w.heap.size w w'

theorem eqf {a b : Int} (h : a ≠ b) : (a == b) = false := by simpa using h


end InsV
end Go.Proofs.YtiagjnimafdbhaaGreatDoor

namespace Go.Proofs.YtiagjnimafdbhaaGreatDoor
namespace InsW
open Go.RowKit Base InsM InsA InsB Stru InsC InsT InsU InsV

theorem insB_len (n : Int) : ∀ l : List Int, (insB n l).length = l.length + 1
  | [] => rfl
  | x :: t => by unfold insB; split <;> simp [insB_len n t]

theorem rds_one (w : World) (x : Value) (t : TypeId) : Rds (w.alloc (.cells #[x] t)) (some ⟨w.heap.size, 0, none⟩) [x] := rds_new w #[x] t

end InsW
end Go.Proofs.YtiagjnimafdbhaaGreatDoor

namespace Go.Proofs.YtiagjnimafdbhaaGreatDoor
namespace InsX
open Go.RowKit Base InsM InsA InsB Stru InsC InsT InsU InsV InsW

def usedB (x : InsT) : Bool := decide (1 ≤ kindI x.1) && decide (kindI x.1 ≤ 5)
def usesL (l : List InsT) : List Int := (l.filter usedB).map (·.2)
theorem uses_len (l : List InsT) : (usesL l).length ≤ l.length := by unfold usesL; rw [List.length_map]; exact List.length_filter_le _ _
theorem uses_take {l : List InsT} {k : Nat} (h : k < l.length) : usesL (l.take (k + 1)) = usesL (l.take k) ++ (if usedB l[k] then [l[k].2] else []) := by
  rw [List.take_succ_eq_append_getElem h]
  unfold usesL
  rw [List.filter_append, List.map_append]
  congr 1
  cases hu : usedB l[k] <;> simp [hu]

def RelU (w : World) (l : List InsT) (f : List Int → List Int) (o i : Value) (wr : World) : Prop :=
  ∃ k : Nat, k ≤ l.length ∧ i = .int .i64 k ∧ OwnJ wr w.heap.size o (f (usesL (l.take k))) ∧ Below w.heap.size w wr

theorem rds_new2 (w : World) (o : Obj) (cs : Array Value) (t : TypeId) : Rds ((w.alloc o).alloc (.cells cs t)) (some ⟨w.heap.size + 1, 0, none⟩) cs.toList := by
  have := rds_new (w.alloc o) cs t
  simpa using this

set_option maxRecDepth 100000 in
set_option maxHeartbeats 2000000 in
theorem uses_any (A : Option Addr) (m c : Nat) (l : List InsT) (w : World) (hl : Laid w) (h : IsCode w A m c l) (h6 : m ≤ 600) :
    Calls Tryz.prog 103 #[.slice A m c] w (GivesJ w (rise (usesL l))) := by
  obtain ⟨hm, hle, hmx, hr, _⟩ := h
  have hml : l.length ≤ m := Nat.le_of_eq hm.symm
  have hml2 : m ≤ l.length := Nat.le_of_eq hm
  have Hl := Lib.hid hl
  have Hr := Lib.hid hr
  clear hm hr hl hmx
  go_enter Tryz.func103, Tryz.ntmps103
  go_wp2
  go_loopw [3, 5, 6, 9] (fun o _ _ i wr => RelU w l id o i wr) (fun _ _ _ i _ => m - (intOf i).toNat)
  case atStart => exact ⟨0, Nat.zero_le _, rfl, OwnJ.nil _ _, Below.refl _ _⟩
  case round =>
    obtain ⟨k, hk, rfl, hown, hbel⟩ := hrel
    have Hown : Hid (OwnJ wr w.heap.size _ (usesL (l.take k))) := Lib.hid hown
    have Hbel := Lib.hid hbel
    have hsz := hbel.size
    by_cases hlt : k < l.length
    · obtain ⟨b, o, rfl, hb, hc0, hc1⟩ := code_at (Hr.out.below hbel) hlt
      have ht := uses_take hlt
      have hul : (usesL (l.take k)).length ≤ k := by
        have := uses_len (l.take k)
        have h2 : (l.take k).length ≤ k := by simp; omega
        omega
      clear hown hbel
      generalize hx : l[k] = x at *
      obtain ⟨op, a⟩ := x
      simp only at hc0 hc1
      clear hx
      generalize hpp : usesL (l.take k) = p at *
      have Hl2 := Lib.hid (Hl.out.below (Hbel.out.alloc hsz (.cells #[.int .i64 op, .int .i64 a] 57)) Hl.out.1)
      have Hb2 := Lib.hid (Hbel.out.alloc hsz (.cells #[.int .i64 op, .int .i64 a] 57))
      have Hk2 := Lib.hid (ownJ_kept Hown.out ((Below.refl wr.heap.size wr).alloc (Nat.le_refl _) (.cells #[.int .i64 op, .int .i64 a] 57)))
      have hub : usedB (op, a) = (decide (1 ≤ kindI op) && decide (kindI op ≤ 5)) := rfl
      rw [hub] at ht
      clear hub
      obtain ⟨K, hK⟩ : ∃ K, K = kindI op := ⟨_, rfl⟩
      rw [← hK] at ht
      have HK := Lib.hid hK
      clear hK hpp
      by_cases h1 : 1 ≤ K
      · by_cases h2 : K ≤ 5
        · have e1 : (decide (1 ≤ K) && decide (K ≤ 5)) = true := by simp [h1, h2]
          rw [e1, if_pos rfl] at ht
          have Ht := Lib.hid ht
          clear ht e1
          go_wp2_with (first
            | (go_at_call 148; refine (kind_any _ _ Hl2.out).mono ?_; rw [← HK.out]; rintro e w' ⟨rfl, rfl⟩)
            | (at_builtin
               refine appJ rfl (.tmp 22) (.tmp 25) rfl w.heap.size _ p rfl (ownJ_kept Hk2.out ((Below.refl _ _).alloc (Nat.le_refl _) _)) (some ⟨wr.heap.size + 1, 0, none⟩) 1 1 [a] rfl rfl (rds_new2 _ _ _ _) (by simp; omega) (by simp; omega) ?_
               intro v2 w2 hown2 hg2
               have Hb3 := Lib.hid (ownJ_below (ownJ_kept Hk2.out ((Below.refl _ _).alloc (Nat.le_refl _) _)) (Hb2.out.alloc (by simp; omega) _) (Nat.le_refl _) (by simp; omega) hg2)
               have Hown2 := Lib.hid hown2
               clear hown2 hg2))
          go_roundw
          case rel => exact ⟨k + 1, by omega, by go_num, by show OwnJ _ _ _ (usesL _); rw [Ht.out]; exact Hown2.out, Hb3.out⟩
          case measure => simp [intOf]; omega
        · have e1 : (decide (1 ≤ K) && decide (K ≤ 5)) = false := by simp [h2]
          have h2' : decide (K ≤ 5) = false := decide_eq_false h2
          rw [e1, if_neg (by simp), List.append_nil] at ht
          have Ht := Lib.hid ht
          clear ht e1
          go_wp2_with (go_at_call 148; refine (kind_any _ _ Hl2.out).mono ?_; rw [← HK.out]; rintro e w' ⟨rfl, rfl⟩)
          go_roundw
          case rel => exact ⟨k + 1, by omega, by go_num, by show OwnJ _ _ _ (usesL _); rw [Ht.out]; exact Hk2.out, Hb2.out⟩
          case measure => simp [intOf]; omega
      · have e1 : (decide (1 ≤ K) && decide (K ≤ 5)) = false := by simp [h1]
        rw [e1, if_neg (by simp), List.append_nil] at ht
        have Ht := Lib.hid ht
        clear ht e1
        go_wp2_with (go_at_call 148; refine (kind_any _ _ Hl2.out).mono ?_; rw [← HK.out]; rintro e w' ⟨rfl, rfl⟩)
        go_roundw
        case rel => exact ⟨k + 1, by omega, by go_num, by show OwnJ _ _ _ (usesL _); rw [Ht.out]; exact Hk2.out, Hb2.out⟩
        case measure => simp [intOf]; omega
    · have e : l.take k = l := List.take_of_length_le (by omega)
      have hul := uses_len l
      have Hown3 : Hid (OwnJ wr w.heap.size _ (usesL l)) := Lib.hid (by have := Hown.out; rwa [e] at this)
      clear hown hbel Hown e
      go_wp2_with fail
      refine (rising_any _ _ _ _ Hown3.out (by omega)).mono ?_
      rintro e w2 ⟨v, rfl, hown2, hbel2⟩
      have Hown2 := Lib.hid hown2
      have Hb2 := Lib.hid (hbel2 w.heap.size w (Nat.le_refl _) hsz Hbel.out)
      clear hown2 hbel2
      go_wp2_with fail
      go_ret
      exact ⟨_, rfl, Hown2.out, Hb2.out⟩

theorem ups_len (l : List Int) : (upsI l).length ≤ l.length := by
  have key : ∀ (l acc : List Int), (l.foldl insI acc).length ≤ acc.length + l.length := by
    intro l
    induction l with
    | nil => intro acc; simp
    | cons x t ih =>
      intro acc
      have h1 := ih (insI acc x)
      have h2 : (insI acc x).length ≤ acc.length + 1 := by
        unfold insI
        split
        · omega
        · rw [insB_len]
          exact Nat.le_refl _
      simp only [List.foldl_cons, List.length_cons]
      omega
  have := key l []
  simpa [upsI] using this



end InsX
end Go.Proofs.YtiagjnimafdbhaaGreatDoor
