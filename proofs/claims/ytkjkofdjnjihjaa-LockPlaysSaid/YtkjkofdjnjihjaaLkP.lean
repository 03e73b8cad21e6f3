/-
  What is held behind Enter and Exit: plain facts; no call is run here.
-/
import Derived.Test.YtkjkofdjnjihjaaLkE
namespace Go.Proofs.Ytkjkofdjnjihjaa
namespace LkP
open LkM LkA LkB LkE

theorem fnd_cons_ne {h : Ho} {t : List Ho} {x : Int} (e : h.a ≠ x) : fnd (h :: t) x = fnd t x + 1 := by rw [fnd, if_neg e]
theorem fnd_cons_eq {h : Ho} {t : List Ho} {x : Int} (e : h.a = x) : fnd (h :: t) x = 0 := by rw [fnd, if_pos e]
/-- Enter, from the front on -/
def entR : List Ho → Int → Int → Int × List Ho
  | [], a, w => (0, [⟨a, w, 1⟩])
  | h :: t, a, w => if h.a = a then (if h.w = w then (0, ⟨h.a, h.w, h.n + 1⟩ :: t) else (29, h :: t)) else ((entR t a w).1, h :: (entR t a w).2)
theorem ent_eq {a : Int} (ha : ¬ a < 1) (w : Int) : ∀ hs : List Ho, enterT hs a w = entR hs a w
  | [] => by unfold enterT; rw [if_neg ha]; rfl
  | h :: t => by
    have ih := ent_eq ha w t
    unfold enterT at ih ⊢
    rw [if_neg ha] at ih ⊢
    by_cases e : h.a = a
    · rw [fnd_cons_eq e]
      simp only [List.getElem?_cons_zero, entR, if_pos e, List.set_cons_zero]
    · rw [fnd_cons_ne e, List.getElem?_cons_succ, entR, if_neg e, ← ih]
      cases t[fnd t a]? with
      | none => rfl
      | some g =>
        simp only
        split <;> rfl
/-- Exit, from the front on -/
def exR : List Ho → Int → Int → Int × List Ho
  | [], _, _ => (28, [])
  | h :: t, a, w => if h.a = a then (if h.w = w then (0, if h.n = 1 then t.filter (fun x => !(x.a == a)) else ⟨h.a, h.w, h.n - 1⟩ :: t) else (28, h :: t)) else ((exR t a w).1, h :: (exR t a w).2)
theorem ex_eq (a w : Int) : ∀ hs : List Ho, exitT hs a w = exR hs a w
  | [] => rfl
  | h :: t => by
    have ih := ex_eq a w t
    unfold exitT at ih ⊢
    by_cases e : h.a = a
    · rw [fnd_cons_eq e]
      simp only [List.getElem?_cons_zero, exR, if_pos e, List.set_cons_zero]
      split
      · split
        · rw [List.filter_cons]
          simp [e]
        · rfl
      · rfl
    · rw [fnd_cons_ne e, List.getElem?_cons_succ, exR, if_neg e, ← ih]
      cases t[fnd t a]? with
      | none => rfl
      | some g =>
        simp only
        split
        · split
          · rw [List.set_cons_succ, List.filter_cons]
            simp [e]
          · rfl
        · rfl
theorem ent_few {N : Nat} {a w : Int} : ∀ {hs : List Ho}, (∀ h ∈ hs, 1 ≤ h.n ∧ h.n ≤ (N : Int)) → ((entR hs a w).2.length ≤ hs.length + 1 ∧ ∀ h ∈ (entR hs a w).2, 1 ≤ h.n ∧ h.n ≤ ((N + 1 : Nat) : Int))
  | [], _ => ⟨by simp [entR], by intro h hh; simp [entR] at hh; subst hh; simp; omega⟩
  | h :: t, hf => by
    obtain ⟨i1, i2⟩ := ent_few (a := a) (w := w) (hs := t) (fun x hx => hf x (List.mem_cons_of_mem _ hx))
    have h0 := hf h List.mem_cons_self
    have ht : ∀ x ∈ t, 1 ≤ x.n ∧ x.n ≤ ((N + 1 : Nat) : Int) := fun x hx => by have := hf x (List.mem_cons_of_mem _ hx); omega
    unfold entR
    split
    · split
      · refine ⟨by simp, fun x hx => ?_⟩
        rcases List.mem_cons.1 hx with rfl | hx
        · simp only; omega
        · exact ht x hx
      · refine ⟨by simp, fun x hx => ?_⟩
        rcases List.mem_cons.1 hx with rfl | hx
        · omega
        · exact ht x hx
    · refine ⟨by simp; omega, fun x hx => ?_⟩
      rcases List.mem_cons.1 hx with rfl | hx
      · omega
      · exact i2 x hx
theorem ex_few {N : Nat} {a w : Int} : ∀ {hs : List Ho}, (∀ h ∈ hs, 1 ≤ h.n ∧ h.n ≤ (N : Int)) → ((exR hs a w).2.length ≤ hs.length ∧ ∀ h ∈ (exR hs a w).2, 1 ≤ h.n ∧ h.n ≤ (N : Int))
  | [], _ => ⟨by simp [exR], by intro h hh; simp [exR] at hh⟩
  | h :: t, hf => by
    obtain ⟨i1, i2⟩ := ex_few (a := a) (w := w) (hs := t) (fun x hx => hf x (List.mem_cons_of_mem _ hx))
    have h0 := hf h List.mem_cons_self
    have ht : ∀ x ∈ t, 1 ≤ x.n ∧ x.n ≤ (N : Int) := fun x hx => hf x (List.mem_cons_of_mem _ hx)
    unfold exR
    split
    · split
      · simp only
        split
        · have := List.length_filter_le (fun x : Ho => !(x.a == a)) t
          exact ⟨by simp; omega, fun x hx => ht x ((List.mem_filter.1 hx).1)⟩
        · refine ⟨by simp, fun x hx => ?_⟩
          rcases List.mem_cons.1 hx with rfl | hx
          · simp only; omega
          · exact ht x hx
      · exact ⟨by simp, hf⟩
    · refine ⟨by simp; omega, fun x hx => ?_⟩
      rcases List.mem_cons.1 hx with rfl | hx
      · exact h0
      · exact i2 x hx
theorem few_enter {N : Nat} {hs : List Ho} (h : Few N hs) (a w : Int) : Few (N + 1) (enterT hs a w).2 := by
  by_cases ha : a < 1
  · have : enterT hs a w = (2, hs) := by unfold enterT; rw [if_pos ha]
    rw [this]
    exact ⟨Nat.le_succ_of_le h.1, fun x hx => by have := h.2 x hx; omega⟩
  · rw [ent_eq ha]
    obtain ⟨i1, i2⟩ := ent_few (hs := hs) (N := N) (a := a) (w := w) h.2
    exact ⟨Nat.le_trans i1 (Nat.succ_le_succ h.1), i2⟩
theorem few_exit {N : Nat} {hs : List Ho} (h : Few N hs) (a w : Int) : Few N (exitT hs a w).2 := by
  rw [ex_eq]
  obtain ⟨i1, i2⟩ := ex_few (hs := hs) (N := N) (a := a) (w := w) h.2
  exact ⟨by have := h.1; omega, i2⟩
theorem few_more {N M : Nat} {hs : List Ho} (h : Few N hs) (hM : N ≤ M) : Few M hs := ⟨by have := h.1; omega, fun x hx => by have := h.2 x hx; omega⟩

/-! a thing that is not there -/
def Out (hs : List Ho) (a : Int) : Prop := ∀ h ∈ hs, h.a ≠ a
theorem out_ent {a b w : Int} (hab : b ≠ a) : ∀ {hs : List Ho}, Out hs a → Out (entR hs b w).2 a
  | [], _ => by intro h hh; simp [entR] at hh; subst hh; exact hab
  | h :: t, ho => by
    have ih := out_ent (w := w) hab (hs := t) (fun x hx => ho x (List.mem_cons_of_mem _ hx))
    have h0 := ho h List.mem_cons_self
    unfold entR
    split
    · split
      · intro x hx
        rcases List.mem_cons.1 hx with rfl | hx
        · exact h0
        · exact ho x (List.mem_cons_of_mem _ hx)
      · exact ho
    · intro x hx
      rcases List.mem_cons.1 hx with rfl | hx
      · exact h0
      · exact ih x hx
theorem out_enter {hs : List Ho} {a b : Int} (w : Int) (hab : b ≠ a) (h : Out hs a) : Out (enterT hs b w).2 a := by
  by_cases hb : b < 1
  · have : enterT hs b w = (2, hs) := by unfold enterT; rw [if_pos hb]
    rw [this]; exact h
  · rw [ent_eq hb]; exact out_ent hab h
theorem out_ex {a b w : Int} : ∀ {hs : List Ho}, Out hs a → Out (exR hs b w).2 a
  | [], _ => by intro h hh; simp [exR] at hh
  | h :: t, ho => by
    have ih := out_ex (b := b) (w := w) (hs := t) (fun x hx => ho x (List.mem_cons_of_mem _ hx))
    have h0 := ho h List.mem_cons_self
    unfold exR
    split
    · split
      · simp only
        split
        · exact fun x hx => ho x (List.mem_cons_of_mem _ ((List.mem_filter.1 hx).1))
        · intro x hx
          rcases List.mem_cons.1 hx with rfl | hx
          · exact h0
          · exact ho x (List.mem_cons_of_mem _ hx)
      · exact ho
    · intro x hx
      rcases List.mem_cons.1 hx with rfl | hx
      · exact h0
      · exact ih x hx
theorem out_exit {hs : List Ho} {a : Int} (b w : Int) (h : Out hs a) : Out (exitT hs b w).2 a := by
  rw [ex_eq]; exact out_ex h
/-- a thing that is held m times, at the end; with none: it is not there -/
def With (hs : List Ho) (a w : Int) (m : Nat) : List Ho := if m = 0 then hs else hs ++ [⟨a, w, (m : Int)⟩]
theorem out_new {hs : List Ho} {a : Int} (h : Out hs a) (w : Int) : entR hs a w = (0, hs ++ [⟨a, w, 1⟩]) := by
  induction hs with
  | nil => rfl
  | cons g t ih =>
    have ih := ih (fun x hx => h x (List.mem_cons_of_mem _ hx))
    rw [entR, if_neg (h g List.mem_cons_self), ih]
    rfl
theorem out_no {hs : List Ho} {a : Int} (h : Out hs a) (w : Int) : exR hs a w = (28, hs) := by
  induction hs with
  | nil => rfl
  | cons g t ih =>
    have ih := ih (fun x hx => h x (List.mem_cons_of_mem _ hx))
    rw [exR, if_neg (h g List.mem_cons_self), ih]
theorem end_ent {hs : List Ho} {a : Int} (h : Out hs a) (w v : Int) (n : Int) : entR (hs ++ [⟨a, w, n⟩]) a v = if w = v then (0, hs ++ [⟨a, w, n + 1⟩]) else (29, hs ++ [⟨a, w, n⟩]) := by
  induction hs with
  | nil => rw [List.nil_append, entR, if_pos rfl]; rfl
  | cons g t ih =>
    have ih := ih (fun x hx => h x (List.mem_cons_of_mem _ hx))
    rw [List.cons_append, entR, if_neg (h g List.mem_cons_self), ih]
    split <;> rfl
theorem end_ex {hs : List Ho} {a : Int} (h : Out hs a) (w v : Int) (n : Int) : exR (hs ++ [⟨a, w, n⟩]) a v = if w = v then (0, if n = 1 then hs else hs ++ [⟨a, w, n - 1⟩]) else (28, hs ++ [⟨a, w, n⟩]) := by
  induction hs with
  | nil => rw [List.nil_append, exR, if_pos rfl]; rfl
  | cons g t ih =>
    have ih := ih (fun x hx => h x (List.mem_cons_of_mem _ hx))
    rw [List.cons_append, exR, if_neg (h g List.mem_cons_self), ih]
    split
    · simp only
      split <;> rfl
    · rfl
section
variable {hs : List Ho} {a : Int} (h : Out hs a) (ha : ¬ a < 1) (w v : Int) (m : Nat)
include h
theorem with_exit (hm : 0 < m) : exitT (With hs a w m) a w = (0, With hs a w (m - 1)) := by
  rw [ex_eq]
  unfold With
  rw [if_neg (by omega), end_ex h, if_pos rfl]
  by_cases h1 : m = 1
  · subst h1; rfl
  · rw [if_neg (by omega), if_neg (by omega), show ((m : Int) - 1) = ((m - 1 : Nat) : Int) by omega]
theorem with_exit_no (hm : 0 < m) (hwv : w ≠ v) : exitT (With hs a w m) a v = (28, With hs a w m) := by
  rw [ex_eq]
  unfold With
  rw [if_neg (by omega), end_ex h, if_neg hwv]
theorem with_exit_0 : exitT (With hs a w 0) a v = (28, With hs a w 0) := by
  rw [ex_eq]
  exact out_no h v
include ha
theorem with_enter : enterT (With hs a w m) a w = (0, With hs a w (m + 1)) := by
  rw [ent_eq ha]
  unfold With
  by_cases h0 : m = 0
  · subst h0
    rw [if_pos rfl, out_new h]
    rfl
  · rw [if_neg h0, end_ent h, if_pos rfl, if_neg (by omega)]
    rfl
theorem with_wait (hm : 0 < m) (hwv : w ≠ v) : enterT (With hs a w m) a v = (29, With hs a w m) := by
  rw [ent_eq ha]
  unfold With
  rw [if_neg (by omega), end_ent h, if_neg hwv]
theorem with_other : (enterT (With hs a w 0) a v).1 = 0 := by
  rw [ent_eq ha]
  exact congrArg Prod.fst (out_new h v)
end
theorem few_with {N M : Nat} {hs : List Ho} (h : Few N hs) (a w : Int) {m : Nat} (hm : N + 1 ≤ M) (hm2 : m ≤ M) : Few M (With hs a w m) := by
  unfold With
  by_cases h0 : m = 0
  · rw [if_pos h0]; exact few_more h (by omega)
  · rw [if_neg h0]
    refine ⟨by have := h.1; simp; omega, fun x hx => ?_⟩
    rcases List.mem_append.1 hx with hx | hx
    · have := h.2 x hx; omega
    · rw [List.mem_singleton] at hx; subst hx; simp only; omega
end LkP
end Go.Proofs.Ytkjkofdjnjihjaa
