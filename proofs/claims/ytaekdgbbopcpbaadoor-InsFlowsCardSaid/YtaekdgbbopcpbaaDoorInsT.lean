/-
  Numbers in order, each once: plain facts: what sorting and dropping repeats gives, and what putting one number after another in its place gives, are one list.
-/
import Derived.Below
import Derived.Lib.SlicesCompact
namespace Go.Proofs.YtaekdgbbopcpbaaDoor
namespace InsT
open Go.Lib

/-- a number in its place -/
def insB (n : Int) : List Int → List Int
  | [] => [n]
  | x :: t => if n < x then n :: x :: t else x :: insB n t
def insI (l : List Int) (n : Int) : List Int := if n ∈ l then l else insB n l
def upsI (l : List Int) : List Int := l.foldl insI []
def rise (l : List Int) : List Int := Lib.compact (l.mergeSort fun x y => decide (x ≤ y))

theorem mem_insB {n x : Int} : ∀ {l : List Int}, x ∈ insB n l ↔ x = n ∨ x ∈ l
  | [] => by simp [insB]
  | y :: t => by
    unfold insB
    split
    · simp
    · rw [List.mem_cons, mem_insB, List.mem_cons]
      constructor
      · rintro (h | h | h)
        · exact .inr (.inl h)
        · exact .inl h
        · exact .inr (.inr h)
      · rintro (h | h | h)
        · exact .inr (.inl h)
        · exact .inl h
        · exact .inr (.inr h)
theorem mem_insI {n x : Int} {l : List Int} : x ∈ insI l n ↔ x = n ∨ x ∈ l := by
  unfold insI
  split
  · rename_i h
    constructor
    · exact .inr
    · rintro (rfl | h2)
      · exact h
      · exact h2
  · exact mem_insB
theorem up_insB {n : Int} : ∀ {l : List Int}, l.Pairwise (· < ·) → n ∉ l → (insB n l).Pairwise (· < ·)
  | [], _, _ => by simp [insB]
  | y :: t, h, hn => by
    rw [List.pairwise_cons] at h
    unfold insB
    split
    · rename_i hlt
      rw [List.pairwise_cons, List.pairwise_cons]
      refine ⟨fun z hz => ?_, h⟩
      rcases List.mem_cons.1 hz with rfl | hz
      · exact hlt
      · have := h.1 z hz; omega
    · rename_i hge
      have hne : n ≠ y := fun e => hn (by simp [e])
      rw [List.pairwise_cons]
      refine ⟨fun z hz => ?_, up_insB h.2 (fun hm => hn (by simp [hm]))⟩
      rcases mem_insB.1 hz with rfl | hz
      · omega
      · exact h.1 z hz
theorem up_insI {n : Int} {l : List Int} (h : l.Pairwise (· < ·)) : (insI l n).Pairwise (· < ·) := by
  unfold insI
  split
  · exact h
  · rename_i hn; exact up_insB h hn
theorem ups_go : ∀ (l acc : List Int), acc.Pairwise (· < ·) → (l.foldl insI acc).Pairwise (· < ·) ∧ ∀ x, x ∈ l.foldl insI acc ↔ x ∈ acc ∨ x ∈ l
  | [], acc, h => ⟨h, by simp⟩
  | y :: t, acc, h => by
    obtain ⟨h1, h2⟩ := ups_go t (insI acc y) (up_insI h)
    refine ⟨h1, fun x => ?_⟩
    rw [List.foldl_cons, h2, mem_insI, List.mem_cons]
    constructor
    · rintro ((h | h) | h)
      · exact .inr (.inl h)
      · exact .inl h
      · exact .inr (.inr h)
    · rintro (h | h | h)
      · exact .inl (.inr h)
      · exact .inl (.inl h)
      · exact .inr h
theorem ups_up (l : List Int) : (upsI l).Pairwise (· < ·) := (ups_go l [] .nil).1
theorem ups_mem (l : List Int) (x : Int) : x ∈ upsI l ↔ x ∈ l := by
  have := (ups_go l [] .nil).2 x
  show x ∈ l.foldl insI [] ↔ x ∈ l
  simpa using this

/-- two rising lists of the same numbers are one -/
theorem up_eq : ∀ {a b : List Int}, a.Pairwise (· < ·) → b.Pairwise (· < ·) → (∀ x, x ∈ a ↔ x ∈ b) → a = b
  | [], [], _, _, _ => rfl
  | [], y :: t, _, _, h => by have := (h y).2 (by simp); cases this
  | y :: t, [], _, _, h => by have := (h y).1 (by simp); cases this
  | x :: s, y :: t, ha, hb, h => by
    rw [List.pairwise_cons] at ha hb
    have hxy : x = y := by
      rcases List.mem_cons.1 ((h x).1 (by simp)) with e | e
      · exact e
      · rcases List.mem_cons.1 ((h y).2 (by simp)) with e2 | e2
        · exact e2.symm
        · have := ha.1 y e2; have := hb.1 x e; omega
    subst hxy
    congr 1
    refine up_eq ha.2 hb.2 fun z => ?_
    constructor
    · intro hz
      rcases List.mem_cons.1 ((h z).1 (by simp [hz])) with e | e
      · have := ha.1 z hz; omega
      · exact e
    · intro hz
      rcases List.mem_cons.1 ((h z).2 (by simp [hz])) with e | e
      · have := hb.1 z hz; omega
      · exact e

theorem keeps_iff (d : Array Int) (m : Nat) : keeps d m = true ↔ m = 0 ∨ d[m]! ≠ d[m - 1]! := by
  rcases Nat.eq_zero_or_pos m with h | h
  · subst h; simp [keeps_lt_one]
  · by_cases e : d[m]! = d[m - 1]!
    · rw [keeps_neg h e]; simp; exact ⟨by omega, e⟩
    · rw [keeps_pos e]; simp [e]

theorem compact_up {d : Array Int} (hs : ∀ i j, i ≤ j → j < d.size → d[i]! ≤ d[j]!) : ∀ m, m ≤ d.size →
    (compactUpTo d m).Pairwise (· < ·) ∧ (∀ x, x ∈ compactUpTo d m ↔ ∃ j, j < m ∧ d[j]! = x) ∧ (∀ x ∈ compactUpTo d m, x ≤ d[m - 1]!)
  | 0, _ => ⟨by simp [compactUpTo], by simp [compactUpTo], by simp [compactUpTo]⟩
  | m + 1, h => by
    obtain ⟨h1, h2, h3⟩ := compact_up hs m (by omega)
    rw [compactUpTo_succ]
    have hmono : ∀ x ∈ compactUpTo d m, x ≤ d[m]! := fun x hx => by
      obtain ⟨j, hj, rfl⟩ := (h2 x).1 hx
      exact hs j m (by omega) (by omega)
    by_cases hk : keeps d m = true
    · rw [if_pos hk]
      have hk' := (keeps_iff d m).1 hk
      refine ⟨?_, fun x => ?_, fun x hx => ?_⟩
      · rw [List.pairwise_append]
        refine ⟨h1, by simp, fun x hx y hy => ?_⟩
        simp at hy
        subst hy
        rcases hk' with e | e
        · subst e; obtain ⟨j, hj, _⟩ := (h2 x).1 hx; omega
        · have := h3 x hx
          have := hs (m - 1) m (by omega) (by omega)
          omega
      · rw [List.mem_append, h2, List.mem_singleton]
        constructor
        · rintro (⟨j, hj, e⟩ | e)
          · exact ⟨j, by omega, e⟩
          · exact ⟨m, by omega, e.symm⟩
        · rintro ⟨j, hj, e⟩
          rcases Nat.lt_succ_iff_lt_or_eq.1 hj with h | h
          · exact .inl ⟨j, h, e⟩
          · subst h; exact .inr e.symm
      · rcases List.mem_append.1 hx with hx | hx
        · simpa using hmono x hx
        · simp at hx; simp [hx]
    · rw [if_neg hk, List.append_nil]
      have hk' : ¬ (m = 0 ∨ d[m]! ≠ d[m - 1]!) := fun e => hk ((keeps_iff d m).2 e)
      have hm : 0 < m := by omega
      have he : d[m]! = d[m - 1]! := Classical.not_not.1 fun e => hk' (.inr e)
      refine ⟨h1, fun x => ?_, fun x hx => by simpa using hmono x hx⟩
      rw [h2]
      constructor
      · rintro ⟨j, hj, e⟩; exact ⟨j, by omega, e⟩
      · rintro ⟨j, hj, e⟩
        rcases Nat.lt_succ_iff_lt_or_eq.1 hj with h | h
        · exact ⟨j, h, e⟩
        · subst h; exact ⟨j - 1, by omega, by rw [← he]; exact e⟩

theorem rise_eq (l : List Int) : rise l = upsI l := by
  have hp := List.mergeSort_perm l (fun x y => decide (x ≤ y))
  have hs : (l.mergeSort fun x y => decide (x ≤ y)).Pairwise fun x y => decide (x ≤ y) = true :=
    List.pairwise_mergeSort (fun a b c h1 h2 => by simp at *; omega) (fun a b => by simp; omega) l
  unfold rise Lib.compact
  generalize hz : (l.mergeSort fun x y => decide (x ≤ y)) = zs at *
  have hsz : zs.toArray.size = zs.length := by simp
  have hget : ∀ j, j < zs.length → zs.toArray[j]! = zs.getD j 0 := fun j hj => by
    rw [getElem!_pos zs.toArray j (by simpa using hj), List.getD_eq_getElem?_getD, List.getElem?_eq_getElem hj]; simp
  have hgetE : ∀ j (hj : j < zs.length), zs.toArray[j]! = zs[j] := fun j hj => by
    rw [getElem!_pos zs.toArray j (by simpa using hj)]; simp
  have hmono : ∀ i j, i ≤ j → j < zs.toArray.size → zs.toArray[i]! ≤ zs.toArray[j]! := fun i j hij hj => by
    rw [hsz] at hj
    rw [hgetE i (by omega), hgetE j hj]
    rcases Nat.lt_or_ge i j with h | h
    · have := List.pairwise_iff_getElem.1 hs i j (by omega) hj h
      simpa using this
    · have : i = j := by omega
      subst this; exact Int.le_refl _
  obtain ⟨h1, h2, _⟩ := compact_up hmono zs.length (by rw [hsz]; exact Nat.le_refl _)
  refine up_eq h1 (ups_up l) fun x => ?_
  rw [h2, ups_mem, ← hp.mem_iff, List.mem_iff_getElem]
  constructor
  · rintro ⟨j, hj, e⟩
    exact ⟨j, hj, by rw [← e, hgetE j hj]⟩
  · rintro ⟨j, hj, e⟩
    exact ⟨j, hj, by rw [hgetE j hj]; exact e⟩

theorem rise_two (a b : Int) : rise [a, b] = if a < b then [a, b] else if b < a then [b, a] else [b] := by
  rw [rise_eq]
  have e : upsI [a, b] = insI (insI [] a) b := rfl
  have e1 : insI [] a = [a] := by simp [insI, insB]
  rw [e, e1]
  unfold insI insB
  by_cases h : a < b
  · rw [if_pos h, if_neg (by simp; omega), if_neg (by omega)]; simp [insB]
  · rw [if_neg h]
    by_cases h2 : b < a
    · rw [if_pos h2, if_neg (by simp; omega), if_pos h2]
    · have : a = b := by omega
      subst this
      rw [if_pos (by simp), if_neg (by omega)]
theorem rise_nil : rise [] = [] := by rw [rise_eq]; rfl

/-! the document's way of putting a number in its place -/
theorem insB_none {n : Int} : ∀ {p : List Int}, (∀ y ∈ p, ¬ n < y) → insB n p = p ++ [n]
  | [], _ => rfl
  | x :: t, h => by
    unfold insB
    rw [if_neg (h x (by simp)), insB_none (fun y hy => h y (by simp [hy]))]
    rfl
theorem insB_here {n x : Int} : ∀ {p : List Int}, (∀ y ∈ p, ¬ n < y) → n < x → insB n (p ++ [x]) = p ++ [n] ++ [x]
  | [], _, h => by simp [insB, h]
  | y :: t, h, hx => by
    have := insB_here (p := t) (fun z hz => h z (by simp [hz])) hx
    rw [List.cons_append]
    unfold insB
    rw [if_neg (h y (by simp)), this]
    simp
theorem insB_past {n x : Int} : ∀ {p : List Int}, (∃ y ∈ p, n < y) → insB n (p ++ [x]) = insB n p ++ [x]
  | [], h => by obtain ⟨y, hy, _⟩ := h; cases hy
  | y :: t, h => by
    rw [List.cons_append]
    unfold insB
    by_cases hy : n < y
    · rw [if_pos hy, if_pos hy]; rfl
    · rw [if_neg hy, if_neg hy, insB_past]
      · rfl
      · obtain ⟨z, hz, hlt⟩ := h
        rcases List.mem_cons.1 hz with rfl | hz
        · exact absurd hlt hy
        · exact ⟨z, hz, hlt⟩

end InsT
end Go.Proofs.YtaekdgbbopcpbaaDoor
