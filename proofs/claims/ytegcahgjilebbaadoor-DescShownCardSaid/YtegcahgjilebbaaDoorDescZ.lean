/-
  Two types of values that are shown alike.
-/
import Derived.Test.YtegcahgjilebbaaDoorDescL
namespace Go.Proofs.YtegcahgjilebbaaDoor
namespace DescZ
open Go.RowKit BinM DescM DescW DescX DescR DescS

def plainB (l : List UInt8) : Bool := l == [105, 110, 116] || l == [98, 111, 111, 108] || l == [115, 116, 114] || l == [117, 110, 105, 116] || l == [110, 117, 108, 108]

/-- what a type without brackets is -/
theorem bare {l : List UInt8} (hr : rightB l = true) (h0 : ¬ l.head? = some 91) :
    (classT l = ([], false) ∧ ((l = [73] ∧ showT l = [105, 110, 116]) ∨ (l = [66] ∧ showT l = [98, 111, 111, 108]) ∨ (l = [83] ∧ showT l = [115, 116, 114]))) ∨
    ∃ n, l = 76 :: (n ++ [59]) ∧ nameB n = true ∧ classT l = (n, true) ∧ showT l = n := by
  have ht := hr
  rw [right_tail] at ht
  have hb : brk l = 0 := by
    cases l with
    | nil => rfl
    | cons c t => simp at h0; simp [brk, h0]
  rw [hb] at ht
  simp only [List.drop_zero, Bool.and_eq_true] at ht
  have h2 := ht.2
  unfold tailB at h2
  simp only [Bool.or_eq_true, Bool.and_eq_true, beq_iff_eq, decide_eq_true_eq] at h2
  rcases h2 with ((rfl | rfl) | rfl) | ⟨⟨⟨hl, hh⟩, hg⟩, hn⟩
  · exact .inl ⟨by decide, .inl ⟨rfl, by decide⟩⟩
  · exact .inl ⟨by decide, .inr (.inl ⟨rfl, by decide⟩)⟩
  · exact .inl ⟨by decide, .inr (.inr ⟨rfl, by decide⟩)⟩
  · refine .inr ⟨(l.drop 1).take (l.length - 2), ?_, hn, ?_, ?_⟩
    · cases l with
      | nil => simp at hl
      | cons c t =>
        simp at hh
        subst hh
        cases t with
        | nil => simp at hl
        | cons d u =>
          rw [List.getLast?_cons_cons, List.getLast?_eq_some_getLast (by simp)] at hg
          simp only [Option.some.injEq] at hg
          have e := List.dropLast_concat_getLast (l := d :: u) (by simp)
          rw [hg, List.dropLast_eq_take] at e
          simp only [List.drop_one, List.tail_cons, List.length_cons, Nat.add_sub_cancel] at e ⊢
          rw [show u.length + 1 + 1 - 2 = u.length by omega, e]
    · unfold classT classB
      rw [hr, hh]; simp
    · have hL : Long l := by
        cases l with
        | nil => simp at hl
        | cons c t =>
          simp at hh
          subst hh
          exact ⟨by simp, by simp, by simp, by simp, by simp⟩
      rw [show_long hL, hr, hh]; simp

/-- what a type with a bracket is -/
theorem behind {l : List UInt8} (hr : rightB (91 :: l) = true) : rightB l = true ∧ showT (91 :: l) = showT l ++ [91, 93] := by
  refine ⟨?_, ?_⟩
  · have hb : brk (91 :: l) = brk l + 1 := by simp [brk]
    rw [right_tail] at hr ⊢
    rw [hb] at hr
    simp only [Bool.and_eq_true, decide_eq_true_eq, List.drop_succ_cons] at hr ⊢
    exact ⟨by omega, hr.2⟩
  · have hL : Long (91 :: l) := ⟨by simp, by simp, by simp, by simp, by simp⟩
    rw [show_long hL, hr]; simp

/-- what the loop keeps -/
structure Kept (a b : List UInt8) : Prop where
  ra : rightB a = true
  rb : rightB b = true
  ne : a ≠ b
  same : showT a = showT b

theorem Kept.next {a b : List UInt8} (h : Kept (91 :: a) (91 :: b)) : Kept a b := by
  have h1 := behind h.ra
  have h2 := behind h.rb
  refine ⟨h1.1, h2.1, fun e => h.ne (by rw [e]), ?_⟩
  have := h.same
  rw [h1.2, h2.2] at this
  exact List.append_cancel_right this

theorem name_no {n : List UInt8} (h : nameB n = true) : ¬ (91 : UInt8) ∈ n := fun hm => ((name_ok h).1 91 hm).2 rfl

theorem bare_no {l : List UInt8} (hr : rightB l = true) (h0 : ¬ l.head? = some 91) : ¬ (91 : UInt8) ∈ showT l := by
  rcases bare hr h0 with ⟨_, ⟨_, e⟩ | ⟨_, e⟩ | ⟨_, e⟩⟩ | ⟨n, _, hn, _, e⟩
  · rw [e]; decide
  · rw [e]; decide
  · rw [e]; decide
  · rw [e]; exact name_no hn

theorem Kept.end_ {a b : List UInt8} (h : Kept a b) (hx : ¬ (a.head? = some 91 ∧ b.head? = some 91)) : plainB (classT a).1 = !plainB (classT b).1 := by
  have ha : ¬ a.head? = some 91 := by
    intro e
    have hb : ¬ b.head? = some 91 := fun e2 => hx ⟨e, e2⟩
    cases a with
    | nil => simp at e
    | cons c t =>
      simp at e
      subst e
      apply bare_no h.rb hb
      rw [← h.same, (behind h.ra).2]
      simp
  have hb : ¬ b.head? = some 91 := by
    intro e
    cases b with
    | nil => simp at e
    | cons c t =>
      simp at e
      subst e
      apply bare_no h.ra ha
      rw [h.same, (behind h.rb).2]
      simp
  rcases bare h.ra ha with ⟨ca, pa⟩ | ⟨n, rfl, hn, ca, sa⟩
  · rcases bare h.rb hb with ⟨cb, pb⟩ | ⟨n, rfl, hn, cb, sb⟩
    · exfalso
      have hs := h.same
      rcases pa with ⟨rfl, e⟩ | ⟨rfl, e⟩ | ⟨rfl, e⟩ <;> rcases pb with ⟨rfl, e2⟩ | ⟨rfl, e2⟩ | ⟨rfl, e2⟩ <;> first | exact h.ne rfl | (rw [e, e2] at hs; exact absurd hs (by decide))
    · rw [ca, cb]
      have hs := h.same
      rw [sb] at hs
      rcases pa with ⟨rfl, e⟩ | ⟨rfl, e⟩ | ⟨rfl, e⟩ <;> (rw [e] at hs; subst hs; decide)
  · rcases bare h.rb hb with ⟨cb, pb⟩ | ⟨k, rfl, hk, cb, sb⟩
    · rw [ca, cb]
      have hs := h.same
      rw [sa] at hs
      rcases pb with ⟨rfl, e⟩ | ⟨rfl, e⟩ | ⟨rfl, e⟩ <;> (rw [e] at hs; subst hs; decide)
    · exfalso
      have hs := h.same
      rw [sa, sb] at hs
      subst hs
      exact h.ne rfl

/-- plain -/
theorem plain_any (l : List UInt8) (w : World) :
    Calls Tryd.prog 27 #[.string ⟨l.toArray⟩] w fun e w' => e = .returned (.bool (plainB l)) ∧ w = w' := by
  have H := Lib.hid (show plainB l = (l == [105, 110, 116] || l == [98, 111, 111, 108] || l == [115, 116, 114] || l == [117, 110, 105, 116] || l == [110, 117, 108, 108]) from rfl)
  rcases h1 : l == [105, 110, 116] with _ | _
  all_goals rcases h2 : l == [98, 111, 111, 108] with _ | _
  all_goals rcases h3 : l == [115, 116, 114] with _ | _
  all_goals rcases h4 : l == [117, 110, 105, 116] with _ | _
  all_goals rcases h5 : l == [110, 117, 108, 108] with _ | _
  all_goals have Hf := Lib.hid H.out
  all_goals rw [h1, h2, h3, h4, h5] at Hf
  all_goals clear H
  all_goals go_enter Tryd.func27, Tryd.ntmps27
  all_goals go_wp2
  all_goals go_ret
  all_goals exact ⟨by rw [Hf.out]; rfl, rfl⟩

end DescZ
end Go.Proofs.YtegcahgjilebbaaDoor
