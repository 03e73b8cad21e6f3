/-
  Where code goes on, and whether it goes back: ins.Next, ins.Back and the document's own: what each call returns; rising: numbers in order, each once.
-/
import Derived.Test.YtaekdgbbopcpbaaDoorInsC
import Derived.Test.YtaekdgbbopcpbaaDoorBaseMore
namespace Go.Proofs.YtaekdgbbopcpbaaDoor
namespace InsF
open Go.RowKit InsM Base InsA InsB Stru InsC

/-- whether there is such a place, and an instruction there -/
def standsB (l : List InsT) (at_ : Int) : Bool := if 0 ≤ at_ ∧ at_ < (l.length : Int) then (match l[at_.toNat]? with | some x => !(kindI x.1 == -1) | none => false) else false

theorem stands_out {l : List InsT} {p : Int} (h : ¬ (0 ≤ p ∧ p < (l.length : Int))) : standsB l p = false := by unfold standsB; rw [if_neg h]
theorem stands_in {l : List InsT} {k : Nat} (h : k < l.length) : standsB l (k : Int) = !(kindI l[k].1 == -1) := by
  unfold standsB; rw [if_pos (by omega)]; simp [h]

/-- whether code goes back at a place -/
def backB (l : List InsT) (at_ : Int) : Bool := if 0 ≤ at_ ∧ at_ < (l.length : Int) then (match l[at_.toNat]? with | some x => (kindI x.1 == 7) && decide (x.2 ≤ at_) | none => false) else false
theorem back_out {l : List InsT} {p : Int} (h : ¬ (0 ≤ p ∧ p < (l.length : Int))) : backB l p = false := by unfold backB; rw [if_neg h]
theorem back_in {l : List InsT} {k : Nat} (h : k < l.length) : backB l (k : Int) = ((kindI l[k].1 == 7) && decide (l[k].2 ≤ (k : Int))) := by
  unfold backB; rw [if_pos (by omega)]; simp [h]

theorem stands_any (A : Option Addr) (m c : Nat) (l : List InsT) (p : Int) (w : World) (hl : Laid w) (h : IsCode w A m c l) :
    Calls Tryd.prog 79 #[.slice A m c, .int .i64 p] w fun e w' => e = .returned (.bool (standsB l p)) ∧ w = w' := by
  obtain ⟨hm, hle, hmx, hr, _⟩ := h
  have hml : l.length ≤ m := Nat.le_of_eq hm.symm
  have hml2 : m ≤ l.length := Nat.le_of_eq hm
  have Hl := Lib.hid hl
  have Hr := Lib.hid hr
  clear hm hr hl
  by_cases hin : 0 ≤ p ∧ p < (l.length : Int)
  · obtain ⟨k, rfl⟩ : ∃ k : Nat, p = (k : Int) := ⟨p.toNat, by omega⟩
    have hk : k < l.length := by omega
    have hkm : k < m := by omega
    obtain ⟨b, o, rfl, hb, hc, _⟩ := code_at Hr.out hk
    have hi : inB (k : Int) (m : Int) = true := in_t (by omega)
    have H := Lib.hid (stands_in hk)
    clear hin
    generalize hq : l[k].1 = q at *
    clear hq
    cases hK : (kindI q == -1)
    · generalize hKK : kindI q = K at *
      have HK := Lib.hid hKK
      clear hKK
      go_enter Tryd.func79, Tryd.ntmps79
      go_wp2_with (first
        | (go_at_call 32; refine (kind_any _ _ Hl.out).mono ?_; rw [HK.out]; rintro e w' ⟨rfl, rfl⟩)
        | (go_at_call 76; refine (within_any _ _ _).mono ?_; rw [hi]; rintro e w' ⟨rfl, rfl⟩))
      go_ret
      exact ⟨ret_bool (by rw [H.out]; rfl), rfl⟩
    · have hKK : kindI q = -1 := by simpa using hK
      have HK := Lib.hid hKK
      clear hKK hK
      go_enter Tryd.func79, Tryd.ntmps79
      go_wp2_with (first
        | (go_at_call 32; refine (kind_any _ _ Hl.out).mono ?_; rw [HK.out]; rintro e w' ⟨rfl, rfl⟩)
        | (go_at_call 76; refine (within_any _ _ _).mono ?_; rw [hi]; rintro e w' ⟨rfl, rfl⟩))
      go_ret
      exact ⟨ret_bool (by rw [H.out, HK.out]; rfl), rfl⟩
  · have hi : inB p (m : Int) = false := in_f (by omega)
    have H := Lib.hid (stands_out hin)
    clear hin
    go_enter Tryd.func79, Tryd.ntmps79
    go_wp2_with (go_at_call 76; refine (within_any _ _ _).mono ?_; rw [hi]; rintro e w' ⟨rfl, rfl⟩)
    go_ret
    exact ⟨ret_bool H.out.symm, rfl⟩

theorem back_any (A : Option Addr) (m c : Nat) (l : List InsT) (p : Int) (w : World) (hl : Laid w) (h : IsCode w A m c l) :
    Calls Tryd.prog 44 #[.slice A m c, .int .i64 p] w fun e w' => e = .returned (.bool (backB l p)) ∧ w = w' := by
  have hst := stands_any A m c l p w hl h
  obtain ⟨hm, hle, hmx, hr, _⟩ := h
  have hml : l.length ≤ m := Nat.le_of_eq hm.symm
  have hml2 : m ≤ l.length := Nat.le_of_eq hm
  have Hl := Lib.hid hl
  have Hr := Lib.hid hr
  clear hm hr hl
  by_cases hin : 0 ≤ p ∧ p < (l.length : Int)
  · obtain ⟨k, rfl⟩ : ∃ k : Nat, p = (k : Int) := ⟨p.toNat, by omega⟩
    have hk : k < l.length := by omega
    have hkm : k < m := by omega
    obtain ⟨b, o, rfl, hb, hc, hc1⟩ := code_at Hr.out hk
    have H := Lib.hid (back_in hk)
    rw [stands_in hk] at hst
    clear hin
    generalize hq : l[k] = x at *
    obtain ⟨q, a⟩ := x
    clear hq
    simp only at hst hc hc1 H
    by_cases h1 : kindI q = -1
    · rw [h1] at hst
      rw [h1] at H
      have Hst := Lib.hid hst
      clear hst h1
      go_enter Tryd.func44, Tryd.ntmps44
      go_wp2_with fail
      refine Calls.mono Hst.out ?_
      rintro e w' ⟨rfl, rfl⟩
      go_wp2_with fail
      go_ret
      exact ⟨ret_bool (by rw [H.out]; rfl), rfl⟩
    · have h1' : (kindI q == -1) = false := by simpa using h1
      rw [h1'] at hst
      have Hst := Lib.hid hst
      clear hst h1 h1'
      by_cases h7 : kindI q = 7
      · rw [h7] at H
        have H7 := Lib.hid h7
        clear h7
        go_enter Tryd.func44, Tryd.ntmps44
        go_wp2_with fail
        refine Calls.mono Hst.out ?_
        rintro e w' ⟨rfl, rfl⟩
        go_wp2_with fail
        refine (kind_any _ _ Hl.out).mono ?_
        rw [H7.out]
        rintro e w' ⟨rfl, rfl⟩
        go_wp2_with fail
        go_ret
        exact ⟨ret_bool (by rw [H.out]; simp), rfl⟩
      · have h7' : (kindI q == 7) = false := by simpa using h7
        rw [h7'] at H
        clear h7
        generalize hKK : kindI q = K at *
        have HK := Lib.hid hKK
        clear hKK
        go_enter Tryd.func44, Tryd.ntmps44
        go_wp2_with fail
        refine Calls.mono Hst.out ?_
        rintro e w' ⟨rfl, rfl⟩
        go_wp2_with fail
        refine (kind_any _ _ Hl.out).mono ?_
        rw [HK.out]
        rintro e w' ⟨rfl, rfl⟩
        go_wp2_with fail
        go_ret
        exact ⟨ret_bool (by rw [H.out]; simp), rfl⟩
  · rw [stands_out hin] at hst
    have Hst := Lib.hid hst
    have H := Lib.hid (back_out hin)
    clear hin hst
    go_enter Tryd.func44, Tryd.ntmps44
    go_wp2_with fail
    refine Calls.mono Hst.out ?_
    rintro e w' ⟨rfl, rfl⟩
    go_wp2_with fail
    go_ret
    exact ⟨ret_bool H.out.symm, rfl⟩

theorem refBack_any (A : Option Addr) (m c : Nat) (l : List InsT) (p : Int) (w : World) (h : IsCode w A m c l) :
    Calls Tryd.prog 45 #[.slice A m c, .int .i64 p] w (GivesB w (.bool (backB l p))) := by
  obtain ⟨hm, hle, hmx, hr, _⟩ := h
  have hml : l.length ≤ m := Nat.le_of_eq hm.symm
  have hml2 : m ≤ l.length := Nat.le_of_eq hm
  have Hr := Lib.hid hr
  clear hm hr
  by_cases hin : 0 ≤ p ∧ p < (l.length : Int)
  · obtain ⟨k, rfl⟩ : ∃ k : Nat, p = (k : Int) := ⟨p.toNat, by omega⟩
    have hk : k < l.length := by omega
    have hkm : k < m := by omega
    obtain ⟨b, o, rfl, hb, hc, hc1⟩ := code_at Hr.out hk
    have H := Lib.hid (back_in hk)
    clear hin
    generalize hq : l[k] = x at *
    obtain ⟨q, a⟩ := x
    clear hq
    simp only at hc hc1 H
    by_cases h7 : kindI q = 7
    · rw [h7] at H
      have H7 := Lib.hid h7
      clear h7
      go_enter Tryd.func45, Tryd.ntmps45
      go_wp2_with fail
      refine (refKind_any _ _).mono ?_
      rw [H7.out]
      rintro e w1 ⟨rfl, hb1⟩
      have hc1' : w1.cell? ⟨b, o + k * 2 + 1, none⟩ = some (.int .i64 a) := (hb1.cell (p := ⟨b, o + k * 2 + 1, none⟩) hb).trans hc1
      have Hb1 := Lib.hid hb1
      clear hb1
      go_wp2_with fail
      go_ret
      exact ⟨ret_bool (by rw [H.out]; simp), Hb1.out⟩
    · have h7' : (kindI q == 7) = false := by simpa using h7
      rw [h7'] at H
      clear h7
      generalize hKK : kindI q = K at *
      have HK := Lib.hid hKK
      clear hKK
      go_enter Tryd.func45, Tryd.ntmps45
      go_wp2_with fail
      refine (refKind_any _ _).mono ?_
      rw [HK.out]
      rintro e w1 ⟨rfl, hb1⟩
      have Hb1 := Lib.hid hb1
      clear hb1
      go_wp2_with fail
      go_ret
      exact ⟨ret_bool (by rw [H.out]; simp), Hb1.out⟩
  · have H := Lib.hid (back_out hin)
    by_cases h0 : 0 ≤ p
    · have h1 : ¬ p < (m : Int) := by omega
      have h1' : decide (p < (m : Int)) = false := decide_eq_false h1
      clear hin
      go_enter Tryd.func45, Tryd.ntmps45
      go_wp2
      go_ret
      exact ⟨ret_bool H.out.symm, Below.refl _ _⟩
    · clear hin
      go_enter Tryd.func45, Tryd.ntmps45
      go_wp2
      go_ret
      exact ⟨ret_bool H.out.symm, Below.refl _ _⟩

end InsF
end Go.Proofs.YtaekdgbbopcpbaaDoor
