/-
  Plain facts on types as texts: no program is loaded here.
-/
import Derived.Test.YthkkcecfenohjaaGreatDoorBinM
namespace Go.Proofs.YthkkcecfenohjaaGreatDoor
namespace DescM
open BinM

/-- how many brackets stand ahead -/
def brk : List UInt8 → Nat
  | [] => 0
  | c :: t => if c = 91 then brk t + 1 else 0

/-- how many bytes stand ahead of the first semicolon, or all -/
def semi : List UInt8 → Nat
  | [] => 0
  | c :: t => if c = 59 then 0 else semi t + 1

/-- how many bytes the type without brackets has that stands at the head, if one does -/
def core : List UInt8 → Option Nat
  | [] => none
  | c :: t => if c = 73 ∨ c = 66 ∨ c = 83 then some 1
      else if c = 76 then (if semi t < t.length ∧ nameB (t.take (semi t)) = true then some (semi t + 2) else none)
      else none

theorem core_cons (c : UInt8) (t : List UInt8) : core (c :: t) = if c = 73 ∨ c = 66 ∨ c = 83 then some 1 else if c = 76 then (if semi t < t.length ∧ nameB (t.take (semi t)) = true then some (semi t + 2) else none) else none := rfl

/-- how many bytes the type of a value has that stands at the head, if one does -/
def leadT (l : List UInt8) : Option Nat := if 4 < brk l then none else (core (l.drop (brk l))).map (· + brk l)

/-- is it the type of a value? -/
def rightB (l : List UInt8) : Bool := leadT l == some l.length

theorem brk_le : ∀ l : List UInt8, brk l ≤ l.length
  | [] => by simp [brk]
  | c :: t => by
    have := brk_le t
    unfold brk
    split <;> simp <;> omega

theorem brk_at : ∀ (l : List UInt8) (j : Nat) (h : j < l.length), j < brk l → l[j] = 91
  | [], j, h, _ => by simp at h
  | c :: t, j, h, hj => by
    unfold brk at hj
    split at hj
    · rename_i hc
      cases j with
      | zero => exact hc
      | succ j => simp; exact brk_at t j (by simpa using h) (by omega)
    · omega

theorem brk_stop : ∀ (l : List UInt8) (h : brk l < l.length), l[brk l] ≠ 91
  | [], h => by simp at h
  | c :: t, h => by
    by_cases hc : c = 91
    · have e : brk (c :: t) = brk t + 1 := by simp [brk, hc]
      simp only [e] at h ⊢
      simpa using brk_stop t (by simpa using h)
    · have e : brk (c :: t) = 0 := by simp [brk, hc]
      simp only [e]
      simpa using hc

theorem brk_eq {l : List UInt8} {m : Nat} (h : ∀ j (hj : j < l.length), j < m → l[j] = 91) (hm : m ≤ l.length) (hn : m = l.length ∨ ∃ hl : m < l.length, l[m] ≠ 91) : brk l = m := by
  rcases Nat.lt_trichotomy (brk l) m with hlt | he | hgt
  · exact absurd (h (brk l) (by omega) hlt) (brk_stop l (by omega))
  · exact he
  · have hle := brk_le l
    rcases hn with hn | ⟨hl, hc⟩
    · omega
    · exact absurd (brk_at l m hl hgt) hc

theorem brk_drop (l : List UInt8) : brk (l.drop (brk l)) = 0 := by
  by_cases h : brk l < l.length
  · rw [List.drop_eq_getElem_cons h]
    simp [brk, brk_stop l h]
  · rw [List.drop_of_length_le (by omega)]; rfl

theorem brk_take {l : List UInt8} {k : Nat} (h : brk l < k) (hk : k ≤ l.length) : brk (l.take k) = brk l := by
  refine brk_eq (fun j hj hjm => ?_) (by simp; omega) (.inr ⟨by simp; omega, ?_⟩)
  · rw [List.getElem_take]; exact brk_at l j (by omega) hjm
  · rw [List.getElem_take]; exact brk_stop l (by omega)

theorem semi_le : ∀ l : List UInt8, semi l ≤ l.length
  | [] => by simp [semi]
  | c :: t => by
    have := semi_le t
    unfold semi
    split <;> simp <;> omega

theorem semi_stop : ∀ (l : List UInt8) (h : semi l < l.length), l[semi l] = 59
  | [], h => by simp at h
  | c :: t, h => by
    by_cases hc : c = 59
    · have e : semi (c :: t) = 0 := by simp [semi, hc]
      simp only [e]; simpa using hc
    · have e : semi (c :: t) = semi t + 1 := by simp [semi, hc]
      simp only [e] at h ⊢
      simpa using semi_stop t (by simpa using h)

theorem semi_ne : ∀ (l : List UInt8) (j : Nat) (h : j < l.length), j < semi l → l[j] ≠ 59
  | [], j, h, _ => by simp at h
  | c :: t, j, h, hj => by
    unfold semi at hj
    split at hj
    · omega
    · rename_i hc
      cases j with
      | zero => exact hc
      | succ j => simp; exact semi_ne t j (by simpa using h) (by omega)

theorem semi_eq {l : List UInt8} {m : Nat} (h : ∀ j (hj : j < l.length), j < m → l[j] ≠ 59) (hm : m < l.length) (hc : l[m] = 59) : semi l = m := by
  rcases Nat.lt_trichotomy (semi l) m with hlt | he | hgt
  · exact absurd (semi_stop l (by omega)) (h (semi l) (by omega) hlt)
  · exact he
  · exact absurd hc (semi_ne l m hm hgt)

/-- a name's bytes -/
theorem rest_ok : ∀ (l : List UInt8) (k : Nat), restB k l = true → ∀ c ∈ l, c ≠ 59 ∧ c ≠ 91
  | [], _, _, c, hc => by cases hc
  | a :: t, k, h, c, hc => by
    simp only [restB, Bool.and_eq_true] at h
    rcases List.mem_cons.1 hc with rfl | hc
    · have h1 := h.1
      unfold okB okI isLet isDig at h1
      constructor
      · rintro rfl; simp at h1
      · rintro rfl; simp at h1
    · exact rest_ok t (k + 1) h.2 c hc
theorem name_ok {l : List UInt8} (h : nameB l = true) : (∀ c ∈ l, c ≠ 59 ∧ c ≠ 91) ∧ 1 ≤ l.length ∧ l.length ≤ 24 := by
  unfold nameB at h
  simp only [Bool.and_eq_true, decide_eq_true_eq] at h
  exact ⟨rest_ok l 0 h.2, h.1.1, h.1.2⟩

theorem core_le {l : List UInt8} {n : Nat} (h : core l = some n) : 1 ≤ n ∧ n ≤ l.length ∧ n ≤ 26 := by
  cases l with
  | nil => simp [core] at h
  | cons c t =>
    rw [core_cons] at h
    split at h
    · injection h with h; simp; omega
    · split at h
      · split at h
        · rename_i h3
          injection h with h
          have := name_ok h3.2
          have hl : (t.take (semi t)).length = semi t := by simp; omega
          simp; omega
        · cases h
      · cases h

theorem lead_le {l : List UInt8} {n : Nat} (h : leadT l = some n) : 1 ≤ n ∧ n ≤ l.length ∧ n ≤ 30 ∧ brk l < n := by
  unfold leadT at h
  split at h
  · cases h
  · cases hc : core (l.drop (brk l)) with
    | none => rw [hc] at h; cases h
    | some m =>
      rw [hc] at h
      simp at h
      have := core_le hc
      simp at this
      have := brk_le l
      omega

/-- what stands behind a type at the head does not matter -/
theorem core_take {l : List UInt8} {n k : Nat} (h : core l = some n) (hk : n ≤ k) : core (l.take k) = some n := by
  cases l with
  | nil => simp [core] at h
  | cons c t =>
    have hn := core_le h
    cases k with
    | zero => omega
    | succ k =>
      rw [List.take_succ_cons]
      rw [core_cons] at h ⊢
      split
      · rename_i h1; rw [if_pos h1] at h; exact h
      · rename_i h1
        rw [if_neg h1] at h
        split
        · rename_i h2
          rw [if_pos h2] at h
          by_cases h3 : semi t < t.length ∧ nameB (t.take (semi t)) = true
          · rw [if_pos h3] at h
            injection h with h
            have e : semi (t.take k) = semi t := by
              refine semi_eq (fun j hj hjm => ?_) (by simp; omega) ?_
              · rw [List.getElem_take]; exact semi_ne t j (by simp at hj; omega) hjm
              · rw [List.getElem_take]; exact semi_stop t h3.1
            rw [if_pos ⟨by rw [e]; simp; omega, by rw [e, List.take_take, Nat.min_eq_left (by omega)]; exact h3.2⟩, e, h]
          · rw [if_neg h3] at h; cases h
        · rename_i h2
          rw [if_neg h2] at h; exact h

theorem core_of_take {l : List UInt8} {k : Nat} (hk : k ≤ l.length) (h : core (l.take k) = some k) : core l = some k := by
  cases l with
  | nil => simp [core] at h
  | cons c t =>
    cases k with
    | zero => have := core_le h; omega
    | succ k =>
      rw [List.take_succ_cons] at h
      have hkt : k ≤ t.length := by simpa using hk
      rw [core_cons] at h ⊢
      split
      · rename_i h1; rw [if_pos h1] at h; exact h
      · rename_i h1
        rw [if_neg h1] at h
        split
        · rename_i h2
          rw [if_pos h2] at h
          by_cases h3 : semi (t.take k) < (t.take k).length ∧ nameB ((t.take k).take (semi (t.take k))) = true
          · rw [if_pos h3] at h
            injection h with h
            have hs : semi (t.take k) + 1 = k := by omega
            have e : semi t = semi (t.take k) := by
              refine semi_eq (fun j hj hjm => ?_) (by omega) ?_
              · have := semi_ne (t.take k) j (by simp; omega) hjm
                rwa [List.getElem_take] at this
              · have := semi_stop (t.take k) h3.1
                rwa [List.getElem_take] at this
            have h4 := h3.2
            rw [List.take_take, Nat.min_eq_left (by omega)] at h4
            rw [if_pos ⟨by omega, by rw [e]; exact h4⟩, e, h]
          · rw [if_neg h3] at h; cases h
        · rename_i h2
          rw [if_neg h2] at h; exact h

theorem lead_take {l : List UInt8} {n : Nat} (h : leadT l = some n) : leadT (l.take n) = some n := by
  have hn := lead_le h
  unfold leadT at h ⊢
  have e : brk (l.take n) = brk l := brk_take hn.2.2.2 hn.2.1
  rw [e]
  split at h
  · cases h
  · rename_i h4
    rw [if_neg h4]
    cases hc : core (l.drop (brk l)) with
    | none => rw [hc] at h; cases h
    | some m =>
      rw [hc] at h
      simp at h
      have : (l.take n).drop (brk l) = (l.drop (brk l)).take (n - brk l) := by rw [List.drop_take]
      rw [this, core_take hc (by omega)]
      simp [h]

/-- the head of a text is a type of so many bytes, told by cutting it -/
theorem right_take {l : List UInt8} {k : Nat} (hk : k ≤ l.length) : rightB (l.take k) = true ↔ leadT l = some k := by
  constructor
  · intro h
    unfold rightB at h
    have h := eq_of_beq h
    have hlen : (l.take k).length = k := by simp; omega
    rw [hlen] at h
    have hle := lead_le h
    have e : brk l = brk (l.take k) := by
      refine brk_eq (fun j hj hjm => ?_) (by omega) (.inr ⟨by omega, ?_⟩)
      · have := brk_at (l.take k) j (by omega) hjm
        rwa [List.getElem_take] at this
      · have := brk_stop (l.take k) (by omega)
        rwa [List.getElem_take] at this
    unfold leadT at h ⊢
    rw [e]
    split at h
    · cases h
    · rename_i h4
      rw [if_neg h4]
      cases hc : core ((l.take k).drop (brk (l.take k))) with
      | none => rw [hc] at h; cases h
      | some m =>
        rw [hc] at h
        simp at h
        have hm : m = k - brk (l.take k) := by omega
        have hd : (l.take k).drop (brk (l.take k)) = (l.drop (brk (l.take k))).take (k - brk (l.take k)) := by rw [List.drop_take]
        rw [hd, hm] at hc
        rw [core_of_take (by simp; omega) hc]
        simp; omega
  · intro h
    have hlen : (l.take k).length = k := by simp; omega
    unfold rightB
    rw [lead_take h, hlen]
    simp

end DescM
end Go.Proofs.YthkkcecfenohjaaGreatDoor
