/-
  Numbers in order, each once: plain facts: what sorting and dropping repeats gives, and what putting one number after another in its place gives, are one list.
  ins.rising, and the document's putting of a number in its place: what each call returns.
  Where code goes on: ins.Next and the document's own: what each call returns.
  The document's putting of a number in its place; which constants code uses: ins.Uses and the document's own: what each call returns.
  Which constants code uses: ins.Uses and the document's own; two lists of numbers held against each other: what each call returns.
-/
import Derived.Below
import Derived.Lib.SlicesCompact
import Derived.Test.YtdebambmcjcopaaGreatDoorShelg
import Derived.Test.YtdebambmcjcopaaGreatDoorInsF
import Derived.Lib.OwnBridge
import Derived.Sort.OwnSortedInts
import Derived.Test.YtdebambmcjcopaaGreatDoorInsC
namespace Go.Proofs.YtdebambmcjcopaaGreatDoor
namespace InsT
open Go.Lib

/-- a number in its place -/
def insB (n : Int) : List Int → List Int
  | [] => [n]
  | x :: t => if n < x then n :: x :: t else x :: insB n t
def insI (l : List Int) (n : Int) : List Int := if n ∈ l then l else insB n l
def upsI (l : List Int) : List Int := l.foldl insI []
def rise (l : List Int) : List Int := Lib.compact (l.mergeSort fun x y => decide (x ≤ y))

theorem mem_insB {n x : Int} : ∀ {l : List Int}, x ∈ insB n l ↔ x = n ∨ x ∈ l
  | [] => by simp [insB]
  | y :: t => by
    unfold insB
    split
    · simp
    · rw [List.mem_cons, mem_insB, List.mem_cons]
      constructor
      · rintro (h | h | h)
        · exact .inr (.inl h)
        · exact .inl h
        · exact .inr (.inr h)
      · rintro (h | h | h)
        · exact .inr (.inl h)
        · exact .inl h
        · exact .inr (.inr h)
theorem mem_insI {n x : Int} {l : List Int} : x ∈ insI l n ↔ x = n ∨ x ∈ l := by
  unfold insI
  split
  · rename_i h
    constructor
    · exact .inr
    · rintro (rfl | h2)
      · exact h
      · exact h2
  · exact mem_insB
theorem up_insB {n : Int} : ∀ {l : List Int}, l.Pairwise (· < ·) → n ∉ l → (insB n l).Pairwise (· < ·)
  | [], _, _ => by simp [insB]
  | y :: t, h, hn => by
    rw [List.pairwise_cons] at h
    unfold insB
    split
    · rename_i hlt
      rw [List.pairwise_cons, List.pairwise_cons]
      refine ⟨fun z hz => ?_, h⟩
      rcases List.mem_cons.1 hz with rfl | hz
      · exact hlt
      · have := h.1 z hz; omega
    · rename_i hge
      have hne : n ≠ y := fun e => hn (by simp [e])
      rw [List.pairwise_cons]
      refine ⟨fun z hz => ?_, up_insB h.2 (fun hm => hn (by simp [hm]))⟩
      rcases mem_insB.1 hz with rfl | hz
      · omega
      · exact h.1 z hz
theorem up_insI {n : Int} {l : List Int} (h : l.Pairwise (· < ·)) : (insI l n).Pairwise (· < ·) := by
  unfold insI
  split
  · exact h
  · rename_i hn; exact up_insB h hn
theorem ups_go : ∀ (l acc : List Int), acc.Pairwise (· < ·) → (l.foldl insI acc).Pairwise (· < ·) ∧ ∀ x, x ∈ l.foldl insI acc ↔ x ∈ acc ∨ x ∈ l
  | [], acc, h => ⟨h, by simp⟩
  | y :: t, acc, h => by
    obtain ⟨h1, h2⟩ := ups_go t (insI acc y) (up_insI h)
    refine ⟨h1, fun x => ?_⟩
    rw [List.foldl_cons, h2, mem_insI, List.mem_cons]
    constructor
    · rintro ((h | h) | h)
      · exact .inr (.inl h)
      · exact .inl h
      · exact .inr (.inr h)
    · rintro (h | h | h)
      · exact .inl (.inr h)
      · exact .inl (.inl h)
      · exact .inr h
theorem ups_up (l : List Int) : (upsI l).Pairwise (· < ·) := (ups_go l [] .nil).1
theorem ups_mem (l : List Int) (x : Int) : x ∈ upsI l ↔ x ∈ l := by
  have := (ups_go l [] .nil).2 x
  show x ∈ l.foldl insI [] ↔ x ∈ l
  simpa using this

/-- two rising lists of the same numbers are one -/
theorem up_eq : ∀ {a b : List Int}, a.Pairwise (· < ·) → b.Pairwise (· < ·) → (∀ x, x ∈ a ↔ x ∈ b) → a = b
  | [], [], _, _, _ => rfl
  | [], y :: t, _, _, h => by have := (h y).2 (by simp); cases this
  | y :: t, [], _, _, h => by have := (h y).1 (by simp); cases this
  | x :: s, y :: t, ha, hb, h => by
    rw [List.pairwise_cons] at ha hb
    have hxy : x = y := by
      rcases List.mem_cons.1 ((h x).1 (by simp)) with e | e
      · exact e
      · rcases List.mem_cons.1 ((h y).2 (by simp)) with e2 | e2
        · exact e2.symm
        · have := ha.1 y e2; have := hb.1 x e; omega
    subst hxy
    congr 1
    refine up_eq ha.2 hb.2 fun z => ?_
    constructor
    · intro hz
      rcases List.mem_cons.1 ((h z).1 (by simp [hz])) with e | e
      · have := ha.1 z hz; omega
      · exact e
    · intro hz
      rcases List.mem_cons.1 ((h z).2 (by simp [hz])) with e | e
      · have := hb.1 z hz; omega
      · exact e

theorem keeps_iff (d : Array Int) (m : Nat) : keeps d m = true ↔ m = 0 ∨ d[m]! ≠ d[m - 1]! := by
  rcases Nat.eq_zero_or_pos m with h | h
  · subst h; simp [keeps_lt_one]
  · by_cases e : d[m]! = d[m - 1]!
    · rw [keeps_neg h e]; simp; exact ⟨by omega, e⟩
    · rw [keeps_pos e]; simp [e]

theorem compact_up {d : Array Int} (hs : ∀ i j, i ≤ j → j < d.size → d[i]! ≤ d[j]!) : ∀ m, m ≤ d.size →
    (compactUpTo d m).Pairwise (· < ·) ∧ (∀ x, x ∈ compactUpTo d m ↔ ∃ j, j < m ∧ d[j]! = x) ∧ (∀ x ∈ compactUpTo d m, x ≤ d[m - 1]!)
  | 0, _ => ⟨by simp [compactUpTo], by simp [compactUpTo], by simp [compactUpTo]⟩
  | m + 1, h => by
    obtain ⟨h1, h2, h3⟩ := compact_up hs m (by omega)
    rw [compactUpTo_succ]
    have hmono : ∀ x ∈ compactUpTo d m, x ≤ d[m]! := fun x hx => by
      obtain ⟨j, hj, rfl⟩ := (h2 x).1 hx
      exact hs j m (by omega) (by omega)
    by_cases hk : keeps d m = true
    · rw [if_pos hk]
      have hk' := (keeps_iff d m).1 hk
      refine ⟨?_, fun x => ?_, fun x hx => ?_⟩
      · rw [List.pairwise_append]
        refine ⟨h1, by simp, fun x hx y hy => ?_⟩
        simp at hy
        subst hy
        rcases hk' with e | e
        · subst e; obtain ⟨j, hj, _⟩ := (h2 x).1 hx; omega
        · have := h3 x hx
          have := hs (m - 1) m (by omega) (by omega)
          omega
      · rw [List.mem_append, h2, List.mem_singleton]
        constructor
        · rintro (⟨j, hj, e⟩ | e)
          · exact ⟨j, by omega, e⟩
          · exact ⟨m, by omega, e.symm⟩
        · rintro ⟨j, hj, e⟩
          rcases Nat.lt_succ_iff_lt_or_eq.1 hj with h | h
          · exact .inl ⟨j, h, e⟩
          · subst h; exact .inr e.symm
      · rcases List.mem_append.1 hx with hx | hx
        · simpa using hmono x hx
        · simp at hx; simp [hx]
    · rw [if_neg hk, List.append_nil]
      have hk' : ¬ (m = 0 ∨ d[m]! ≠ d[m - 1]!) := fun e => hk ((keeps_iff d m).2 e)
      have hm : 0 < m := by omega
      have he : d[m]! = d[m - 1]! := Classical.not_not.1 fun e => hk' (.inr e)
      refine ⟨h1, fun x => ?_, fun x hx => by simpa using hmono x hx⟩
      rw [h2]
      constructor
      · rintro ⟨j, hj, e⟩; exact ⟨j, by omega, e⟩
      · rintro ⟨j, hj, e⟩
        rcases Nat.lt_succ_iff_lt_or_eq.1 hj with h | h
        · exact ⟨j, h, e⟩
        · subst h; exact ⟨j - 1, by omega, by rw [← he]; exact e⟩

theorem rise_eq (l : List Int) : rise l = upsI l := by
  have hp := List.mergeSort_perm l (fun x y => decide (x ≤ y))
  have hs : (l.mergeSort fun x y => decide (x ≤ y)).Pairwise fun x y => decide (x ≤ y) = true :=
    List.pairwise_mergeSort (fun a b c h1 h2 => by simp at *; omega) (fun a b => by simp; omega) l
  unfold rise Lib.compact
  generalize hz : (l.mergeSort fun x y => decide (x ≤ y)) = zs at *
  have hsz : zs.toArray.size = zs.length := by simp
  have hget : ∀ j, j < zs.length → zs.toArray[j]! = zs.getD j 0 := fun j hj => by
    rw [getElem!_pos zs.toArray j (by simpa using hj), List.getD_eq_getElem?_getD, List.getElem?_eq_getElem hj]; simp
  have hgetE : ∀ j (hj : j < zs.length), zs.toArray[j]! = zs[j] := fun j hj => by
    rw [getElem!_pos zs.toArray j (by simpa using hj)]; simp
  have hmono : ∀ i j, i ≤ j → j < zs.toArray.size → zs.toArray[i]! ≤ zs.toArray[j]! := fun i j hij hj => by
    rw [hsz] at hj
    rw [hgetE i (by omega), hgetE j hj]
    rcases Nat.lt_or_ge i j with h | h
    · have := List.pairwise_iff_getElem.1 hs i j (by omega) hj h
      simpa using this
    · have : i = j := by omega
      subst this; exact Int.le_refl _
  obtain ⟨h1, h2, _⟩ := compact_up hmono zs.length (by rw [hsz]; exact Nat.le_refl _)
  refine up_eq h1 (ups_up l) fun x => ?_
  rw [h2, ups_mem, ← hp.mem_iff, List.mem_iff_getElem]
  constructor
  · rintro ⟨j, hj, e⟩
    exact ⟨j, hj, by rw [← e, hgetE j hj]⟩
  · rintro ⟨j, hj, e⟩
    exact ⟨j, hj, by rw [hgetE j hj]; exact e⟩

theorem rise_two (a b : Int) : rise [a, b] = if a < b then [a, b] else if b < a then [b, a] else [b] := by
  rw [rise_eq]
  have e : upsI [a, b] = insI (insI [] a) b := rfl
  have e1 : insI [] a = [a] := by simp [insI, insB]
  rw [e, e1]
  unfold insI insB
  by_cases h : a < b
  · rw [if_pos h, if_neg (by simp; omega), if_neg (by omega)]; simp [insB]
  · rw [if_neg h]
    by_cases h2 : b < a
    · rw [if_pos h2, if_neg (by simp; omega), if_pos h2]
    · have : a = b := by omega
      subst this
      rw [if_pos (by simp), if_neg (by omega)]
theorem rise_nil : rise [] = [] := by rw [rise_eq]; rfl

/-! the document's way of putting a number in its place -/
theorem insB_none {n : Int} : ∀ {p : List Int}, (∀ y ∈ p, ¬ n < y) → insB n p = p ++ [n]
  | [], _ => rfl
  | x :: t, h => by
    unfold insB
    rw [if_neg (h x (by simp)), insB_none (fun y hy => h y (by simp [hy]))]
    rfl
theorem insB_here {n x : Int} : ∀ {p : List Int}, (∀ y ∈ p, ¬ n < y) → n < x → insB n (p ++ [x]) = p ++ [n] ++ [x]
  | [], _, h => by simp [insB, h]
  | y :: t, h, hx => by
    have := insB_here (p := t) (fun z hz => h z (by simp [hz])) hx
    rw [List.cons_append]
    unfold insB
    rw [if_neg (h y (by simp)), this]
    simp
theorem insB_past {n x : Int} : ∀ {p : List Int}, (∃ y ∈ p, n < y) → insB n (p ++ [x]) = insB n p ++ [x]
  | [], h => by obtain ⟨y, hy, _⟩ := h; cases hy
  | y :: t, h => by
    rw [List.cons_append]
    unfold insB
    by_cases hy : n < y
    · rw [if_pos hy, if_pos hy]; rfl
    · rw [if_neg hy, if_neg hy, insB_past]
      · rfl
      · obtain ⟨z, hz, hlt⟩ := h
        rcases List.mem_cons.1 hz with rfl | hz
        · exact absurd hlt hy
        · exact ⟨z, hz, hlt⟩

end InsT
end Go.Proofs.YtdebambmcjcopaaGreatDoor

namespace Go.Proofs.YtdebambmcjcopaaGreatDoor
namespace InsU
open Go.RowKit Base InsA InsT

/-- numbers in a row of the call's own -/
def OwnJ (w : World) (base : Nat) (v : Value) (l : List Int) : Prop := w.ownsRow base 3 1 v l.length (l.map (Value.int .i64))
theorem OwnJ.nil (w : World) (base : Nat) : OwnJ w base (.slice none 0 0) [] := World.ownsRow_nil _ _ _ _
theorem infoJ : (Tryz.prog.info? 3).map (fun i => (i.zero, i.size, i.bytes)) = some (some (.int .i64 0), 1, 8) := by kernel_rfl

theorem one_int (l : List Int) : ∀ u ∈ l.map (Value.int .i64), u.oneCell' = true := by
  intro u hu
  obtain ⟨t, _, rfl⟩ := List.mem_map.1 hu
  rfl

theorem appJ {ops : Array Oper} {rest : List Oper} {o : Oper} {a : Act} {w : World} {Q : Exit → Act → World → Prop} (hgd : o.guard = none) (s x : Operand)
    (ho : o.op = .call { callee := .builtin .append, args := #[s, x], argTypes := #[51, 51] })
    (base : Nat) (v : Value) (p : List Int) (hs : a.eval s = v) (hown : OwnJ w base v p) (A : Option Addr) (m c : Nat) (l : List Int) (hx : a.eval x = .slice A m c)
    (hm : m = l.length) (hr : Rds w A (l.map (Value.int .i64))) (hlen : p.length + l.length ≤ 1048576) (hbase : base ≤ w.heap.size)
    (h : ∀ v' w', OwnJ w' base v' (p ++ l) → w.grownBy w' v.ownBlock → wpList Tryz.prog ops Q rest (a.put o.dst v') w') : wpList Tryz.prog ops Q (o :: rest) a w := by
  obtain ⟨i0, hi, hz, hs1, hb1⟩ := info_parts infoJ
  refine wpList_append_rds hgd s x 51 ho base 3 i0 _ 8 Tryz.underlying51 hi hz hs1 hb1 rfl v p.length (p.map (Value.int .i64)) hs hown A m c (l.map (Value.int .i64)) hx (by rw [List.length_map, hm]) hr (one_int l) (by unfold maxLen; omega) (by omega) hbase ?_
  intro v' w' h1 h2
  refine h v' w' ?_ h2
  unfold OwnJ
  rw [List.map_append, List.length_append, ← hm]
  exact h1

theorem ownJ_below {B base : Nat} {v : Value} {p : List Int} {w0 w w' : World} (h : OwnJ w base v p) (hb : Below B w0 w) (hB : B ≤ base) (hs : B ≤ w.heap.size) (hg : w.grownBy w' v.ownBlock) : Below B w0 w' :=
  below_own hb h hB hs hg
theorem ownJ_kept {w w' : World} {base : Nat} {v : Value} {p : List Int} (h : OwnJ w base v p) (hb : Below w.heap.size w w') : OwnJ w' base v p := by
  obtain ⟨h1, h2⟩ := h
  refine ⟨h1, ?_⟩
  rcases h2 with h2 | ⟨g, cap, cur, a, b, c, d⟩
  · exact .inl h2
  · have hlt : g < w.heap.size := by
      rcases Nat.lt_or_ge g w.heap.size with hl | hl
      · exact hl
      · rw [Array.getElem?_eq_none hl] at c; cases c
    exact .inr ⟨g, cap, cur, a, b, by rw [hb.block g hlt]; exact c, d⟩
theorem OwnJ.slice {w : World} {base : Nat} {v : Value} {p : List Int} (h : OwnJ w base v p) :
    ∃ A c, v = .slice A p.length c ∧ p.length ≤ c ∧ c ≤ maxLen ∧ Rds w A (p.map (Value.int .i64)) ∧ ∀ a, A = some a → base ≤ a.block ∧ a.block < w.heap.size := by
  obtain ⟨A, c, rfl, h1, h2, h3, _⟩ := own_slice h
  exact ⟨A, c, rfl, h1, h2, Rds.own h, fun a ha => ⟨(h3 a ha).1, (h3 a ha).2.1⟩⟩

/-- a row just made -/
theorem ownJ_new (w : World) (l : List Int) (h : l.length ≤ maxLen) : OwnJ (w.alloc (.cells (l.map (Value.int .i64)).toArray 3)) w.heap.size (.slice (some ⟨w.heap.size, 0, none⟩) l.length l.length) l :=
  ⟨by simp, .inr ⟨w.heap.size, l.length, _, rfl, Nat.le_refl _, heap_alloc_new w _, Nat.le_refl _, h, by simp, by simp [List.take_of_length_le]⟩⟩

/-- rising: the call sorts its own row and drops repeats -/
def GivesUp (w : World) (base : Nat) (l : List Int) (e : Ending) (w' : World) : Prop :=
  ∃ v, e = .returned v ∧ OwnJ w' base v (rise l) ∧ ∀ B w0, B ≤ base → B ≤ w.heap.size → Below B w0 w → Below B w0 w'

theorem compact_len (zs : List Int) : (Lib.compact zs).length ≤ zs.length := by
  unfold Lib.compact Lib.compactUpTo
  rw [List.length_map]
  exact Nat.le_trans (List.length_filter_le _ _) (by simp)


end InsU
end Go.Proofs.YtdebambmcjcopaaGreatDoor

namespace Go.Proofs.YtdebambmcjcopaaGreatDoor
namespace InsV
open Go.RowKit Base InsM InsA InsB Stru InsC InsF InsT InsU

/-- where code may go on behind a place -/
def goesI (op a p : Int) : List Int :=
  if op = 33 ∨ op = 34 ∨ op = 35 then [] else if op = 22 then [a] else if op = 23 ∨ op = 24 then rise [a, p + 1] else [p + 1]
def nextI (l : List InsT) (p : Int) : List Int := if standsB l p then (match l[p.toNat]? with | some x => goesI x.1 x.2 p | none => []) else []

theorem next_out {l : List InsT} {p : Int} (h : standsB l p = false) : nextI l p = [] := by unfold nextI; rw [h]; rfl
theorem next_in {l : List InsT} {k : Nat} (hk : k < l.length) (h : standsB l (k : Int) = true) : nextI l (k : Int) = goesI l[k].1 l[k].2 (k : Int) := by
  unfold nextI; rw [h]; simp [hk]

theorem goes_ways (op a p : Int) : ((op = 33 ∨ op = 34 ∨ op = 35) ∧ goesI op a p = []) ∨ (op = 22 ∧ goesI op a p = [a]) ∨ ((op = 23 ∨ op = 24) ∧ goesI op a p = rise [a, p + 1]) ∨
    ((op ≠ 33 ∧ op ≠ 34 ∧ op ≠ 35 ∧ op ≠ 22 ∧ op ≠ 23 ∧ op ≠ 24) ∧ goesI op a p = [p + 1]) := by
  unfold goesI
  by_cases h1 : op = 33 ∨ op = 34 ∨ op = 35
  · exact .inl ⟨h1, by rw [if_pos h1]⟩
  · by_cases h2 : op = 22
    · exact .inr (.inl ⟨h2, by rw [if_neg h1, if_pos h2]⟩)
    · by_cases h3 : op = 23 ∨ op = 24
      · exact .inr (.inr (.inl ⟨h3, by rw [if_neg h1, if_neg h2, if_pos h3]⟩))
      · exact .inr (.inr (.inr ⟨by omega, by rw [if_neg h1, if_neg h2, if_neg h3]⟩))

/-- a call hands back numbers in new memory -/
def GivesJ (w : World) (l : List Int) (e : Ending) (w' : World) : Prop := ∃ v, e = .returned v ∧ OwnJ w' w.heap.size v l ∧ Below w.heap.size w w'

theorem ownJ_one (w : World) (o : Obj) (a : Int) : OwnJ ((w.alloc o).alloc (.cells #[.int .i64 a] 3)) w.heap.size (.slice (some ⟨w.heap.size + 1, 0, none⟩) 1 1) [a] := by
  have := ownJ_new (w.alloc o) [a] (by simp [maxLen])
  have h2 := own_mono this (show w.heap.size ≤ (w.alloc o).heap.size by simp)
  simpa [OwnJ] using h2
theorem ownJ_two (w : World) (o : Obj) (a b : Int) : OwnJ ((w.alloc o).alloc (.cells #[.int .i64 a, .int .i64 b] 3)) (w.alloc o).heap.size (.slice (some ⟨w.heap.size + 1, 0, none⟩) 2 2) [a, b] := by
  have := ownJ_new (w.alloc o) [a, b] (by simp [maxLen])
  simpa [OwnJ] using this
theorem ownJ_one0 (w : World) (a : Int) : OwnJ (w.alloc (.cells #[.int .i64 a] 3)) w.heap.size (.slice (some ⟨w.heap.size, 0, none⟩) 1 1) [a] := ownJ_new w [a] (by simp [maxLen])
theorem ownJ_two0 (w : World) (a b : Int) : OwnJ (w.alloc (.cells #[.int .i64 a, .int .i64 b] 3)) w.heap.size (.slice (some ⟨w.heap.size, 0, none⟩) 2 2) [a, b] := ownJ_new w [a, b] (by simp [maxLen])

theorem eqf {a b : Int} (h : a ≠ b) : (a == b) = false := by simpa using h


theorem stands_name {l : List InsT} {k : Nat} (hk : k < l.length) : (nameI l[k].1 == []) = !(standsB l (k : Int)) := by
  rw [stands_in hk]
  rw [Bool.eq_iff_iff]
  have h := kind_neg (op := l[k].1)
  by_cases hin : 0 ≤ l[k].1 ∧ l[k].1 < 46
  · have h2 : kindI l[k].1 ≠ -1 := fun e => (h.1 e) hin
    have h3 : nameI l[k].1 ≠ [] := by
      unfold nameI; rw [if_pos hin]; exact name_ne _ (by omega)
    simp [h2, h3]
  · have h2 := kind_out hin
    have h3 := name_out hin
    simp [h2, h3]


end InsV
end Go.Proofs.YtdebambmcjcopaaGreatDoor

namespace Go.Proofs.YtdebambmcjcopaaGreatDoor
namespace InsW
open Go.RowKit Base InsM InsA InsB Stru InsC InsT InsU InsV

def u_cell (w : World) (b o k : Nat) (x : Int) : Prop := w.cell? ⟨b, o + k, none⟩ = some (.int .i64 x)

/-- the loop's way of putting -/
def RelP (w : World) (l : List Int) (n : Int) (o f i : Value) (wr : World) : Prop :=
  ∃ k : Nat, k ≤ l.length ∧ i = .int .i64 k ∧ (∀ y ∈ l.take k, y ≠ n) ∧ Below w.heap.size w wr ∧
    ((f = .bool false ∧ (∀ y ∈ l.take k, ¬ n < y) ∧ OwnJ wr w.heap.size o (l.take k)) ∨ (f = .bool true ∧ (∃ y ∈ l.take k, n < y) ∧ OwnJ wr w.heap.size o (insB n (l.take k))))

theorem insB_len (n : Int) : ∀ l : List Int, (insB n l).length = l.length + 1
  | [] => rfl
  | x :: t => by unfold insB; split <;> simp [insB_len n t]

theorem rds_one (w : World) (x : Value) (t : TypeId) : Rds (w.alloc (.cells #[x] t)) (some ⟨w.heap.size, 0, none⟩) [x] := rds_new w #[x] t

/-- a call hands back numbers in a row of the caller's own -/
def GivesIn (w : World) (base : Nat) (l : List Int) (e : Ending) (w' : World) : Prop := ∃ v, e = .returned v ∧ OwnJ w' base v l ∧ Below w.heap.size w w'


end InsW
end Go.Proofs.YtdebambmcjcopaaGreatDoor

namespace Go.Proofs.YtdebambmcjcopaaGreatDoor
namespace InsX
open Go.RowKit Base InsM InsA InsB Stru InsC InsT InsU InsV InsW

def usedB (x : InsT) : Bool := decide (1 ≤ kindI x.1) && decide (kindI x.1 ≤ 5)
def usesL (l : List InsT) : List Int := (l.filter usedB).map (·.2)
theorem uses_len (l : List InsT) : (usesL l).length ≤ l.length := by unfold usesL; rw [List.length_map]; exact List.length_filter_le _ _
theorem uses_take {l : List InsT} {k : Nat} (h : k < l.length) : usesL (l.take (k + 1)) = usesL (l.take k) ++ (if usedB l[k] then [l[k].2] else []) := by
  rw [List.take_succ_eq_append_getElem h]
  unfold usesL
  rw [List.filter_append, List.map_append]
  congr 1
  cases hu : usedB l[k] <;> simp [hu]

def RelU (w : World) (l : List InsT) (f : List Int → List Int) (o i : Value) (wr : World) : Prop :=
  ∃ k : Nat, k ≤ l.length ∧ i = .int .i64 k ∧ OwnJ wr w.heap.size o (f (usesL (l.take k))) ∧ Below w.heap.size w wr

theorem rds_new2 (w : World) (o : Obj) (cs : Array Value) (t : TypeId) : Rds ((w.alloc o).alloc (.cells cs t)) (some ⟨w.heap.size + 1, 0, none⟩) cs.toList := by
  have := rds_new (w.alloc o) cs t
  simpa using this


theorem ups_take {l : List InsT} {k : Nat} (h : k < l.length) : upsI (usesL (l.take (k + 1))) = if usedB l[k] then insI (upsI (usesL (l.take k))) l[k].2 else upsI (usesL (l.take k)) := by
  rw [uses_take h]
  cases hu : usedB l[k]
  · simp
  · simp [upsI, List.foldl_append]
theorem ups_len (l : List Int) : (upsI l).length ≤ l.length := by
  have key : ∀ (l acc : List Int), (l.foldl insI acc).length ≤ acc.length + l.length := by
    intro l
    induction l with
    | nil => intro acc; simp
    | cons x t ih =>
      intro acc
      have h1 := ih (insI acc x)
      have h2 : (insI acc x).length ≤ acc.length + 1 := by
        unfold insI
        split
        · omega
        · rw [insB_len]
          exact Nat.le_refl _
      simp only [List.foldl_cons, List.length_cons]
      omega
  have := key l []
  simpa [upsI] using this


set_option maxRecDepth 100000 in
set_option maxHeartbeats 1000000 in
/-- two lists of numbers, held against each other -/
theorem ints_any (A B : Option Addr) (a b : List Int) (m k c d : Nat) (w : World) (hm : m = a.length) (hk : k = b.length) (hmx : m ≤ maxLen) (hr : Rds w A (a.map (Value.int .i64))) (hr2 : Rds w B (b.map (Value.int .i64))) :
    Calls Tryz.prog 17 #[.slice A m c, .slice B k d] w fun e w' => e = .returned (.bool (decide (a = b))) ∧ Below w.heap.size w w' := by
  have hml : a.length ≤ m := Nat.le_of_eq hm.symm
  have hml2 : m ≤ a.length := Nat.le_of_eq hm
  have hkl : b.length ≤ k := Nat.le_of_eq hk.symm
  have hkl2 : k ≤ b.length := Nat.le_of_eq hk
  have Hr := Lib.hid hr
  have Hr2 := Lib.hid hr2
  unfold maxLen at hmx
  clear hm hk hr hr2
  by_cases hmk : m = k
  · have hb : ((m : Int) != (k : Int)) = false := by rw [hmk]; simp
    have hkm : k ≤ m := by omega
    have hmk' : m ≤ k := by omega
    clear hmk
    go_enter Tryz.func17, Tryz.ntmps17
    go_wp2_with fail
    go_loopw [5] (fun i wr => ∃ j : Nat, j ≤ m ∧ i = .int .i64 j ∧ a.take j = b.take j ∧ Below w.heap.size w wr) (fun i _ => m - (intOf i).toNat)
    case atStart => exact ⟨0, Nat.zero_le _, rfl, rfl, Below.refl _ _⟩
    case round =>
      obtain ⟨j, hj, rfl, hsame, hbel⟩ := hrel
      have Hsame := Lib.hid hsame
      have Hbel := Lib.hid hbel
      clear hsame
      by_cases hlt : j < m
      · have hja : j < a.length := by omega
        have hjb : j < b.length := by omega
        obtain ⟨b1, o1, rfl, hb1, hcell1⟩ := (Hr.out.below hbel).at_ (k := j) (by simp; omega)
        obtain ⟨b2, o2, rfl, hb2, hcell2⟩ := (Hr2.out.below hbel).at_ (k := j) (by simp; omega)
        have hc1 : wr.cell? ⟨b1, o1 + j, none⟩ = some (.int .i64 a[j]) := by rw [hcell1]; simp
        have hc2 : wr.cell? ⟨b2, o2 + j, none⟩ = some (.int .i64 b[j]) := by rw [hcell2]; simp
        have e1 : a.take (j + 1) = a.take j ++ [a[j]] := List.take_succ_eq_append_getElem hja
        have e2 : b.take (j + 1) = b.take j ++ [b[j]] := List.take_succ_eq_append_getElem hjb
        have hj1 : (j : Int) < (m : Int) := by omega
        have hj2 : (j : Int) < (k : Int) := by omega
        have hj0 : (0 : Int) ≤ (j : Int) := by omega
        clear hbel hcell1 hcell2
        cases hx : (a[j] == b[j])
        · have Hfin := Lib.hid (show decide (a = b) = false by
            rw [decide_eq_false_iff_not]
            intro h
            have : a[j] = b[j] := by subst h; rfl
            rw [this] at hx
            simp at hx)
          have hx' : (a[j] != b[j]) = true := by rw [bne, hx]; rfl
          clear e1 e2
          generalize a[j] = x at *
          generalize b[j] = y at *
          go_wp2_with fail
          go_quiet (fail)
          go_wp2_with fail
          go_ret
          exact ⟨by rw [Hfin.out]; rfl, drawn Hbel.out _⟩
        · have Hnext := Lib.hid (show a.take (j + 1) = b.take (j + 1) by rw [e1, e2, Hsame.out, eq_of_beq hx])
          have hx' : (a[j] != b[j]) = false := by rw [bne, hx]; rfl
          clear e1 e2
          generalize a[j] = x at *
          generalize b[j] = y at *
          go_wp2_with fail
          go_quiet (fail)
          go_wp2_with fail
          go_roundw
          case rel => exact ⟨j + 1, by omega, by go_num, Hnext.out, drawn Hbel.out _⟩
          case measure => simp [intOf]; omega
      · have Hfin := Lib.hid (show decide (a = b) = true by
          have h := Hsame.out
          rw [List.take_of_length_le (by omega), List.take_of_length_le (by omega)] at h
          simp [h])
        go_wp2_with fail
        go_ret
        exact ⟨by rw [Hfin.out]; rfl, hbel⟩
  · have hb : ((m : Int) != (k : Int)) = true := by simp; omega
    have Hfin := Lib.hid (show decide (a = b) = false by
      rw [decide_eq_false_iff_not]
      rintro rfl
      omega)
    clear hmk
    go_enter Tryz.func17, Tryz.ntmps17
    go_wp2_with fail
    go_ret
    exact ⟨by rw [Hfin.out]; rfl, Below.refl _ _⟩

end InsX
end Go.Proofs.YtdebambmcjcopaaGreatDoor
