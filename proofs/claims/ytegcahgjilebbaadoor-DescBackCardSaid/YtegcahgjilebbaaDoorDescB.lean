/-
  What is put together is taken apart as it was, and the other way.
-/
import Derived.Test.YtegcahgjilebbaaDoorDescL
namespace Go.Proofs.YtegcahgjilebbaaDoor
namespace DescB
open Go.RowKit BinM DescM DescW DescX DescG DescP Base

theorem sig_parts {g : List UInt8} {ts : List (List UInt8)} {s : List UInt8} (h : sigT g ts = (s, 0)) : ts.length ≤ 6 ∧ ts.all rightB = true ∧ givenB g = true ∧ s = 40 :: (ts.flatten ++ 41 :: g) := by
  unfold sigT at h
  split at h
  · simp at h
  · rename_i h6
    split at h
    · simp at h
    · rename_i ha
      split at h
      · simp at h
      · rename_i hg
        simp only [Prod.mk.injEq, and_true] at h
        exact ⟨by omega, by simpa using ha, by simpa using hg, h.symm⟩
theorem sig_make {g : List UInt8} {ts : List (List UInt8)} (h6 : ts.length ≤ 6) (ha : ts.all rightB = true) (hg : givenB g = true) : sigT g ts = (40 :: (ts.flatten ++ 41 :: g), 0) := by
  unfold sigT
  rw [if_neg (by omega), if_neg (by rw [ha]; simp), if_neg (by rw [hg]; simp)]

theorem right_app {t : List UInt8} (h : rightB t = true) (r : List UInt8) : leadT (t ++ r) = some t.length :=
  (right_take (by simp)).1 (by rw [List.take_left' rfl]; exact h)
theorem right_head {t : List UInt8} (h : rightB t = true) (r : List UInt8) : ¬ (t ++ r).head? = some 41 := by
  intro h41
  have hl := right_app h r
  have hle := lead_le hl
  cases hb : t ++ r with
  | nil => rw [hb] at h41; simp at h41
  | cons c u =>
    rw [hb] at h41 hl
    simp at h41
    subst h41
    unfold leadT at hl
    have hbr : brk (41 :: u) = 0 := by simp [brk]
    rw [hbr] at hl
    simp [core] at hl

theorem parse_make : ∀ (n : Nat) (ts : List (List UInt8)) (g : List UInt8), ts.length ≤ n → ts.all rightB = true → parse n (ts.flatten ++ 41 :: g) = some (ts, g)
  | n, [], g, _, _ => by rw [parse_41 n (by simp)]; simp
  | 0, t :: ts, g, h, _ => by simp at h
  | n + 1, t :: ts, g, h, ha => by
    simp only [List.all_cons, Bool.and_eq_true] at ha
    have e : (t :: ts).flatten ++ 41 :: g = t ++ (ts.flatten ++ 41 :: g) := by simp
    rw [e, parse_some n (right_head ha.1 _) (right_app ha.1 _), List.drop_left' rfl, List.take_left' rfl, parse_make n ts g (by simp at h; omega) ha.2]
    rfl

theorem parse_parts : ∀ (n : Nat) (l : List UInt8) (ts : List (List UInt8)) (g : List UInt8), parse n l = some (ts, g) → l = ts.flatten ++ 41 :: g ∧ ts.all rightB = true ∧ ts.length ≤ n := by
  intro n
  induction n with
  | zero =>
    intro l ts g h
    unfold parse at h
    split at h
    · rename_i h41
      cases l with
      | nil => simp at h41
      | cons c u => simp at h41 h; obtain ⟨rfl, rfl⟩ := h; subst h41; simp
    · simp at h
  | succ n ih =>
    intro l ts g h
    by_cases h41 : l.head? = some 41
    · rw [parse_41 _ h41] at h
      cases l with
      | nil => simp at h41
      | cons c u => simp at h41 h; obtain ⟨rfl, rfl⟩ := h; subst h41; simp
    · cases hk : leadT l with
      | none => rw [parse_none _ h41 hk] at h; simp at h
      | some k =>
        rw [parse_some n h41 hk] at h
        have hle := lead_le hk
        cases hp : parse n (l.drop k) with
        | none => rw [hp] at h; simp at h
        | some r =>
          rw [hp] at h
          simp only [Option.map_some, Option.some.injEq, Prod.mk.injEq] at h
          obtain ⟨rfl, rfl⟩ := h
          obtain ⟨h1, h2, h3⟩ := ih _ _ _ hp
          refine ⟨?_, ?_, by simp; omega⟩
          · rw [List.flatten_cons, List.append_assoc, ← h1, List.take_append_drop]
          · rw [List.all_cons, h2, (right_take hle.2.1).2 hk]; rfl

/-- put together, then taken apart -/
theorem sig_split {g : List UInt8} {ts : List (List UInt8)} {s : List UInt8} (h : sigT g ts = (s, 0)) : splitT s = (g, ts, 0) := by
  obtain ⟨h6, ha, hg, rfl⟩ := sig_parts h
  exact split_good (by simp) (parse_make 6 ts g h6 ha) hg
theorem split_parts {s g : List UInt8} {ts : List (List UInt8)} (h : splitT s = (g, ts, 0)) : s = 40 :: (ts.flatten ++ 41 :: g) ∧ ts.length ≤ 6 ∧ ts.all rightB = true ∧ givenB g = true := by
  by_cases h40 : s.head? = some 40
  · cases hp : parse 6 (s.drop 1) with
    | none => rw [split_bad h40 hp] at h; simp at h
    | some r =>
      obtain ⟨us, k⟩ := r
      cases hg : givenB k
      · rw [split_given h40 hp hg] at h; simp at h
      · rw [split_good h40 hp hg] at h
        simp only [Prod.mk.injEq, and_true] at h
        obtain ⟨rfl, rfl⟩ := h
        obtain ⟨h1, h2, h3⟩ := parse_parts _ _ _ _ hp
        refine ⟨?_, h3, h2, hg⟩
        cases s with
        | nil => simp at h40
        | cons c u => simp at h40 h1; subst h40; rw [h1]
  · rw [split_no h40] at h; simp at h
/-- taken apart, then put together -/
theorem split_sig {s g : List UInt8} {ts : List (List UInt8)} (h : splitT s = (g, ts, 0)) : sigT g ts = (s, 0) := by
  obtain ⟨rfl, h6, ha, hg⟩ := split_parts h
  exact sig_make h6 ha hg

theorem right_len {t : List UInt8} (h : rightB t = true) : t.length ≤ 30 := (lead_le (eq_of_beq h)).2.2.1
theorem given_len {t : List UInt8} (h : givenB t = true) : t.length ≤ 30 := by
  unfold givenB at h
  cases hv : t == [86]
  · rw [hv, Bool.false_or] at h; exact right_len h
  · have := eq_of_beq hv; subst this; decide
theorem flat_len : ∀ {ts : List (List UInt8)}, ts.all rightB = true → ts.flatten.length ≤ 30 * ts.length
  | [], _ => by simp
  | t :: ts, h => by
    simp only [List.all_cons, Bool.and_eq_true] at h
    have := flat_len h.2
    have := right_len h.1
    simp only [List.flatten_cons, List.length_append, List.length_cons]
    omega
theorem sig_len {g : List UInt8} {ts : List (List UInt8)} {s : List UInt8} (h : sigT g ts = (s, 0)) : s.length ≤ 212 := by
  obtain ⟨h6, ha, hg, rfl⟩ := sig_parts h
  have := given_len hg
  have := flat_len ha
  simp only [List.length_cons, List.length_append]
  omega

end DescB
end Go.Proofs.YtegcahgjilebbaaDoor
