/-
  How a type is written in a source, by the program and by the document: what each call returns, for every text.
-/
import Derived.Test.YtegcahgjilebbaaDoorDescR
import Derived.Outline
namespace Go.Proofs.YtegcahgjilebbaaDoor
namespace DescS
open Go.RowKit BinM DescM DescW DescX DescR

/-- how a type is written -/
def showT : List UInt8 → List UInt8
  | [] => [63]
  | c :: t =>
    if c :: t = [73] then [105, 110, 116] else if c :: t = [66] then [98, 111, 111, 108] else if c :: t = [83] then [115, 116, 114]
    else if c :: t = [86] then [117, 110, 105, 116] else if c :: t = [78] then [110, 117, 108, 108]
    else if rightB (c :: t) = false then [63] else if c = 76 then t.take (t.length - 1) else showT t ++ [91, 93]

theorem showT_len : ∀ l : List UInt8, (showT l).length ≤ 2 * l.length + 4
  | [] => by simp [showT]
  | c :: t => by
    have ih := showT_len t
    unfold showT
    split
    · simp
    · split
      · simp
      · split
        · simp
        · split
          · simp
          · split
            · simp
            · split
              · simp
              · split
                · rw [List.length_take, List.length_cons]; omega
                · rw [List.length_append, List.length_cons]; simp; omega

/-- a text that is none of the five short ones -/
structure Long (l : List UInt8) : Prop where
  a : (l == [73]) = false
  b : (l == [66]) = false
  c : (l == [83]) = false
  d : (l == [86]) = false
  e : (l == [78]) = false

theorem long_or (l : List UInt8) : l = [73] ∨ l = [66] ∨ l = [83] ∨ l = [86] ∨ l = [78] ∨ Long l := by
  by_cases h1 : l = [73]
  · exact .inl h1
  · by_cases h2 : l = [66]
    · exact .inr (.inl h2)
    · by_cases h3 : l = [83]
      · exact .inr (.inr (.inl h3))
      · by_cases h4 : l = [86]
        · exact .inr (.inr (.inr (.inl h4)))
        · by_cases h5 : l = [78]
          · exact .inr (.inr (.inr (.inr (.inl h5))))
          · exact .inr (.inr (.inr (.inr (.inr ⟨by simpa using h1, by simpa using h2, by simpa using h3, by simpa using h4, by simpa using h5⟩))))

theorem show_long {l : List UInt8} (h : Long l) : showT l = if rightB l = false then [63] else if l.head? = some 76 then (l.drop 1).take (l.length - 2) else showT (l.drop 1) ++ [91, 93] := by
  cases l with
  | nil => rfl
  | cons c t =>
    have h1 : ¬ c :: t = [73] := by have := h.a; simpa using this
    have h2 : ¬ c :: t = [66] := by have := h.b; simpa using this
    have h3 : ¬ c :: t = [83] := by have := h.c; simpa using this
    have h4 : ¬ c :: t = [86] := by have := h.d; simpa using this
    have h5 : ¬ c :: t = [78] := by have := h.e; simpa using this
    rw [showT, if_neg h1, if_neg h2, if_neg h3, if_neg h4, if_neg h5]
    simp only [List.head?_cons, Option.some.injEq, List.drop_one, List.tail_cons, List.length_cons]
    rw [show t.length + 1 - 2 = t.length - 1 by omega]

set_option maxHeartbeats 2000000 in
theorem show_n : ∀ (n : Nat) (l : List UInt8) (w : World), l.length ≤ n → l.length ≤ 140737488355327 →
    Calls Tryd.prog 15 #[.string ⟨l.toArray⟩] w fun e w' => e = .returned (.string ⟨(showT l).toArray⟩) ∧ w = w' := by
  intro n
  induction n with
  | zero =>
    intro l w hn hl
    have : l = [] := List.eq_nil_of_length_eq_zero (by omega)
    subst this
    go_enter Tryd.func15, Tryd.ntmps15
    go_wp2_with (first | (go_at_call 8; refine (class_any [] _ (by decide)).mono ?_; rw [show classT [] = ([], false) by decide]; unfold twoB; rintro e w' ⟨rfl, rfl⟩) | (go_at_call 20; refine (elem_any [] _ (by decide)).mono ?_; rw [show elemT [] = ([], 10) by decide]; unfold twoI; rintro e w' ⟨rfl, rfl⟩))
    go_ret
    exact ⟨rfl, rfl⟩
  | succ n ih =>
    intro l w hn hl
    have IH := Lib.hid ih
    clear ih
    rcases long_or l with rfl | rfl | rfl | rfl | rfl | hlong
    · go_enter Tryd.func15, Tryd.ntmps15
      go_wp2
      go_ret
      exact ⟨rfl, rfl⟩
    · go_enter Tryd.func15, Tryd.ntmps15
      go_wp2
      go_ret
      exact ⟨rfl, rfl⟩
    · go_enter Tryd.func15, Tryd.ntmps15
      go_wp2
      go_ret
      exact ⟨rfl, rfl⟩
    · go_enter Tryd.func15, Tryd.ntmps15
      go_wp2
      go_ret
      exact ⟨rfl, rfl⟩
    · go_enter Tryd.func15, Tryd.ntmps15
      go_wp2
      go_ret
      exact ⟨rfl, rfl⟩
    · have HS := Lib.hid (show_long hlong)
      obtain ⟨qa, qb, qc, qd, qe⟩ := hlong
      cases hR : rightB l
      · have Hc := Lib.hid (show classT l = ([], false) by unfold classT classB; rw [hR]; rfl)
        have He := Lib.hid (show elemT l = ([], 10) by unfold elemT elemB; rw [hR]; rfl)
        have Hfin := Lib.hid (show showT l = [63] by rw [HS.out, if_pos hR])
        clear hR
        go_enter Tryd.func15, Tryd.ntmps15
        go_wp2_with (first | (go_at_call 8; refine (class_any l _ (by omega)).mono ?_; rw [Hc.out]; unfold twoB; rintro e w' ⟨rfl, rfl⟩) | (go_at_call 20; refine (elem_any l _ (by omega)).mono ?_; rw [He.out]; unfold twoI; rintro e w' ⟨rfl, rfl⟩))
        go_ret
        exact ⟨by rw [Hfin.out]; rfl, rfl⟩
      · by_cases h76 : l.head? = some 76
        · have Hc := Lib.hid (show classT l = ((l.drop 1).take (l.length - 2), true) by unfold classT classB; rw [hR, h76]; rfl)
          have Hfin := Lib.hid (show showT l = (l.drop 1).take (l.length - 2) by rw [HS.out, if_neg (by rw [hR]; simp), if_pos h76])
          clear hR h76
          generalize (l.drop 1).take (l.length - 2) = X at *
          go_enter Tryd.func15, Tryd.ntmps15
          go_wp2_with (go_at_call 8; refine (class_any l _ (by omega)).mono ?_; rw [Hc.out]; unfold twoB; rintro e w' ⟨rfl, rfl⟩)
          go_ret
          exact ⟨by rw [Hfin.out]; rfl, rfl⟩
        · have h91 : l.head? = some 91 := by
            have hp := right_pos hR
            rcases right_head hR hp with h | h | h | h | h
            · subst h; simp at qa
            · subst h; simp at qb
            · subst h; simp at qc
            · exfalso; apply h76; rw [List.head?_eq_getElem?, List.getElem?_eq_getElem (by omega), h]
            · rw [List.head?_eq_getElem?, List.getElem?_eq_getElem (by omega), h]
          have Hc := Lib.hid (show classT l = ([], false) by unfold classT classB; rw [hR, h91]; rfl)
          have He := Lib.hid (show elemT l = (l.drop 1, 0) by unfold elemT elemB; rw [hR, h91]; rfl)
          have Hfin := Lib.hid (show showT l = showT (l.drop 1) ++ [91, 93] by rw [HS.out, if_neg (by rw [hR]; simp), if_neg h76])
          have hlen := showT_len (l.drop 1)
          have hdl : (l.drop 1).length = l.length - 1 := by simp
          clear hR h76 h91
          generalize l.drop 1 = X at *
          have hlen2 : (showT X).length ≤ 562949953421312 := by omega
          clear hlen
          go_enter Tryd.func15, Tryd.ntmps15
          go_wp2_with (first | (go_at_call 8; refine (class_any l _ (by omega)).mono ?_; rw [Hc.out]; unfold twoB; rintro e w' ⟨rfl, rfl⟩) | (go_at_call 20; refine (elem_any l _ (by omega)).mono ?_; rw [He.out]; unfold twoI; rintro e w' ⟨rfl, rfl⟩) | (go_at_call 15; refine (IH.out X _ (by omega) (by omega)).mono ?_; rintro e w' ⟨rfl, rfl⟩))
          go_ret
          exact ⟨by rw [Hfin.out, ← app_mk]; rfl, rfl⟩

theorem show_any (l : List UInt8) (w : World) (hl : l.length ≤ 140737488355327) :
    Calls Tryd.prog 15 #[.string ⟨l.toArray⟩] w fun e w' => e = .returned (.string ⟨(showT l).toArray⟩) ∧ w = w' := show_n l.length l w (Nat.le_refl _) hl

set_option maxHeartbeats 2000000 in
theorem refShow_n : ∀ (n : Nat) (l : List UInt8) (w : World), l.length ≤ n → l.length ≤ 140737488355327 →
    Calls Tryd.prog 16 #[.string ⟨l.toArray⟩] w fun e w' => e = .returned (.string ⟨(showT l).toArray⟩) ∧ w = w' := by
  intro n
  induction n with
  | zero =>
    intro l w hn hl
    have : l = [] := List.eq_nil_of_length_eq_zero (by omega)
    subst this
    go_enter Tryd.func16, Tryd.ntmps16
    go_wp2_with (go_at_call 11; refine (refRight_any [] _ (by decide)).mono ?_; rw [show rightB [] = false by decide]; rintro e w' ⟨rfl, rfl⟩)
    go_ret
    exact ⟨rfl, rfl⟩
  | succ n ih =>
    intro l w hn hl
    have IH := Lib.hid ih
    clear ih
    rcases long_or l with rfl | rfl | rfl | rfl | rfl | hlong
    · go_enter Tryd.func16, Tryd.ntmps16
      go_wp2
      go_ret
      exact ⟨rfl, rfl⟩
    · go_enter Tryd.func16, Tryd.ntmps16
      go_wp2
      go_ret
      exact ⟨rfl, rfl⟩
    · go_enter Tryd.func16, Tryd.ntmps16
      go_wp2
      go_ret
      exact ⟨rfl, rfl⟩
    · go_enter Tryd.func16, Tryd.ntmps16
      go_wp2
      go_ret
      exact ⟨rfl, rfl⟩
    · go_enter Tryd.func16, Tryd.ntmps16
      go_wp2
      go_ret
      exact ⟨rfl, rfl⟩
    · have HS := Lib.hid (show_long hlong)
      obtain ⟨qa, qb, qc, qd, qe⟩ := hlong
      cases hR : rightB l
      · have Hfin := Lib.hid (show showT l = [63] by rw [HS.out, if_pos hR])
        have HR := Lib.hid hR
        clear hR
        go_enter Tryd.func16, Tryd.ntmps16
        go_wp2_with (go_at_call 11; refine (refRight_any l _ (by omega)).mono ?_; rw [HR.out]; rintro e w' ⟨rfl, rfl⟩)
        go_ret
        exact ⟨by rw [Hfin.out]; rfl, rfl⟩
      · have hp : 0 < l.length := right_pos hR
        have hx0 := fun h' => at_mk 0 hp h'
        have HR := Lib.hid hR
        by_cases h76 : l[0] = 76
        · have h76' : l.head? = some 76 := by rw [List.head?_eq_getElem?, List.getElem?_eq_getElem hp, h76]
          have h3 := class_len hR hp h76
          have q : ((l[0].toNat : Int) == 91) = false := by rw [h76]; rfl
          have Hfin := Lib.hid (show showT l = (l.drop 1).take (l.length - 2) by rw [HS.out, if_neg (by rw [hR]; simp), if_pos h76'])
          have hxe : (ByteArray.mk l.toArray).extract 1 (l.length - 1) = ⟨((l.drop 1).take (l.length - 2)).toArray⟩ := by rw [ext]; congr 3
          have Hxe := Lib.hid hxe
          clear hR h76 h76' hxe
          go_enter Tryd.func16, Tryd.ntmps16
          go_wp2_with (go_at_call 11; refine (refRight_any l _ (by omega)).mono ?_; rw [HR.out]; rintro e w' ⟨rfl, rfl⟩)
          go_ret
          exact ⟨by rw [Hfin.out, ← Hxe.out]; rfl, rfl⟩
        · have h91 : l[0] = 91 := by
            rcases right_head hR hp with h | h | h | h | h
            · subst h; simp at qa
            · subst h; simp at qb
            · subst h; simp at qc
            · exact absurd h h76
            · exact h
          have h76' : ¬ l.head? = some 76 := by rw [List.head?_eq_getElem?, List.getElem?_eq_getElem hp]; simpa using h76
          have q : ((l[0].toNat : Int) == 91) = true := by rw [h91]; rfl
          have Hfin := Lib.hid (show showT l = showT (l.drop 1) ++ [91, 93] by rw [HS.out, if_neg (by rw [hR]; simp), if_neg h76'])
          have hxe : (ByteArray.mk l.toArray).extract 1 l.length = ⟨(l.drop 1).toArray⟩ := by rw [ext, List.take_of_length_le (by simp)]
          have hlen := showT_len (l.drop 1)
          have hdl : (l.drop 1).length = l.length - 1 := by simp
          clear hR h76 h91 h76'
          generalize l.drop 1 = X at *
          have hlen2 : (showT X).length ≤ 562949953421312 := by omega
          clear hlen
          go_enter Tryd.func16, Tryd.ntmps16
          go_wp2_with (first | (go_at_call 11; refine (refRight_any l _ (by omega)).mono ?_; rw [HR.out]; rintro e w' ⟨rfl, rfl⟩) | (go_at_call 16; refine (IH.out X _ (by omega) (by omega)).mono ?_; rintro e w' ⟨rfl, rfl⟩))
          go_ret
          exact ⟨by rw [Hfin.out, ← app_mk]; rfl, rfl⟩

theorem refShow_any (l : List UInt8) (w : World) (hl : l.length ≤ 140737488355327) :
    Calls Tryd.prog 16 #[.string ⟨l.toArray⟩] w fun e w' => e = .returned (.string ⟨(showT l).toArray⟩) ∧ w = w' := refShow_n l.length l w (Nat.le_refl _) hl

end DescS
end Go.Proofs.YtegcahgjilebbaaDoor
