/-
  A constant that can be has short texts.
-/
import Derived.Test.YtnkkeifjggcncaaDoorPoolM
namespace Go.Proofs.YtnkkeifjggcncaaDoor
namespace PoolL
open BinM DescM DescX DescP Stru PoolM

theorem name_len {l : List UInt8} (h : nameB l = true) : l.length ≤ 24 := by
  unfold nameB at h
  simp only [Bool.and_eq_true, decide_eq_true_eq] at h
  exact h.1.2
theorem core_len : ∀ {l : List UInt8} {k : Nat}, core l = some k → k ≤ 26
  | [], k, h => by simp [core] at h
  | c :: t, k, h => by
    rw [core_cons] at h
    split at h
    · simp at h; omega
    · split at h
      · split at h
        · rename_i hc
          have := name_len hc.2
          rw [List.length_take] at this
          simp at h
          omega
        · cases h
      · cases h
theorem lead_len {l : List UInt8} {k : Nat} (h : leadT l = some k) : k ≤ 30 := by
  unfold leadT at h
  split at h
  · cases h
  · cases hc : core (l.drop (brk l)) with
    | none => rw [hc] at h; cases h
    | some m =>
      rw [hc] at h
      simp at h
      have := core_len hc
      omega
theorem right_type {l : List UInt8} (h : rightB l = true) : l.length ≤ 30 := by
  unfold rightB at h
  rw [beq_iff_eq] at h
  exact lead_len h
theorem given_len {l : List UInt8} (h : givenB l = true) : l.length ≤ 30 := by
  unfold givenB at h
  rw [Bool.or_eq_true] at h
  rcases h with h | h
  · rw [beq_iff_eq] at h; subst h; simp
  · exact right_type h
theorem parse_len : ∀ (n : Nat) {l : List UInt8} {ts : List (List UInt8)} {g : List UInt8}, parse n l = some (ts, g) → l.length ≤ 30 * n + 1 + g.length := by
  intro n
  induction n with
  | zero =>
    intro l ts g h
    by_cases h41 : l.head? = some 41
    · rw [parse_41 0 h41] at h
      simp at h
      obtain ⟨_, rfl⟩ := h
      simp; omega
    · rw [parse_zero h41] at h; cases h
  | succ n ih =>
    intro l ts g h
    by_cases h41 : l.head? = some 41
    · rw [parse_41 _ h41] at h
      simp at h
      obtain ⟨_, rfl⟩ := h
      simp; omega
    · cases hl : leadT l with
      | none => rw [parse_none _ h41 hl] at h; cases h
      | some k =>
        rw [parse_some n h41 hl] at h
        have hk := lead_len hl
        cases hp : parse n (l.drop k) with
        | none => rw [hp] at h; cases h
        | some r =>
          obtain ⟨ts', g'⟩ := r
          rw [hp] at h
          simp at h
          obtain ⟨_, rfl⟩ := h
          have := ih hp
          rw [List.length_drop] at this
          omega
theorem split_len {l : List UInt8} (h : (splitT l).2.2 = 0) : l.length ≤ 300 := by
  unfold splitT at h
  split at h
  · split at h
    · rename_i ts g hp
      split at h
      · rename_i hg
        have h1 := parse_len 6 hp
        have h2 := given_len hg
        rw [List.length_drop] at h1
        omega
      · simp at h
    · simp at h
  · simp at h
/-- the texts of a constant that can be -/
theorem right_len {k n : Int} {s t u : List UInt8} (h : rightC ⟨k, n, s, t, u⟩ = true) : s.length ≤ 300 ∧ t.length ≤ 300 ∧ u.length ≤ 300 := by
  unfold rightC at h
  rw [Bool.and_eq_true, same_iff] at h
  obtain ⟨h1, h2⟩ := h
  unfold bareC at h1
  unfold restC at h2
  simp only at h1 h2
  by_cases e1 : k = 1
  · rw [if_pos e1] at h1
    injection h1 with _ _ hs ht hu
    subst hs ht hu
    simp
  · rw [if_neg e1] at h1 h2
    by_cases e2 : k = 2
    · rw [if_pos (.inl e2)] at h1
      rw [if_pos e2] at h2
      injection h1 with _ _ _ ht hu
      subst ht hu
      simp at h2
      simp; omega
    · rw [if_neg e2] at h2
      by_cases e3 : k = 3
      · rw [if_pos (.inr e3)] at h1
        rw [if_pos e3] at h2
        injection h1 with _ _ _ ht hu
        subst ht hu
        have := right_type h2
        simp; omega
      · rw [if_neg e3] at h2
        by_cases e4 : k = 4
        · rw [if_pos e4] at h2
          simp only [Bool.and_eq_true] at h2
          have a1 := name_len h2.1.1
          have a2 := name_len h2.1.2
          have a3 := right_type h2.2
          omega
        · rw [if_neg e4] at h2
          by_cases e5 : k = 5
          · rw [if_pos e5] at h2
            simp only [Bool.and_eq_true, beq_iff_eq] at h2
            have a1 := name_len h2.1.1
            have a2 := name_len h2.1.2
            have a3 := split_len h2.2
            omega
          · rw [if_neg e5] at h2; cases h2

end PoolL
end Go.Proofs.YtnkkeifjggcncaaDoor
