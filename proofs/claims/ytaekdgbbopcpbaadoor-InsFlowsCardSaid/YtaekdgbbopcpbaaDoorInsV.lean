/-
  Where code goes on: ins.Next and the document's own: what each call returns.
-/
import Derived.Test.YtaekdgbbopcpbaaDoorInsU
namespace Go.Proofs.YtaekdgbbopcpbaaDoor
namespace InsV
open Go.RowKit Base InsM InsA InsB Stru InsC InsF InsT InsU

/-- where code may go on behind a place -/
def goesI (op a p : Int) : List Int :=
  if op = 33 ∨ op = 34 ∨ op = 35 then [] else if op = 22 then [a] else if op = 23 ∨ op = 24 then rise [a, p + 1] else [p + 1]
def nextI (l : List InsT) (p : Int) : List Int := if standsB l p then (match l[p.toNat]? with | some x => goesI x.1 x.2 p | none => []) else []

theorem next_out {l : List InsT} {p : Int} (h : standsB l p = false) : nextI l p = [] := by unfold nextI; rw [h]; rfl
theorem next_in {l : List InsT} {k : Nat} (hk : k < l.length) (h : standsB l (k : Int) = true) : nextI l (k : Int) = goesI l[k].1 l[k].2 (k : Int) := by
  unfold nextI; rw [h]; simp [hk]

theorem goes_ways (op a p : Int) : ((op = 33 ∨ op = 34 ∨ op = 35) ∧ goesI op a p = []) ∨ (op = 22 ∧ goesI op a p = [a]) ∨ ((op = 23 ∨ op = 24) ∧ goesI op a p = rise [a, p + 1]) ∨
    ((op ≠ 33 ∧ op ≠ 34 ∧ op ≠ 35 ∧ op ≠ 22 ∧ op ≠ 23 ∧ op ≠ 24) ∧ goesI op a p = [p + 1]) := by
  unfold goesI
  by_cases h1 : op = 33 ∨ op = 34 ∨ op = 35
  · exact .inl ⟨h1, by rw [if_pos h1]⟩
  · by_cases h2 : op = 22
    · exact .inr (.inl ⟨h2, by rw [if_neg h1, if_pos h2]⟩)
    · by_cases h3 : op = 23 ∨ op = 24
      · exact .inr (.inr (.inl ⟨h3, by rw [if_neg h1, if_neg h2, if_pos h3]⟩))
      · exact .inr (.inr (.inr ⟨by omega, by rw [if_neg h1, if_neg h2, if_neg h3]⟩))

/-- a call hands back numbers in new memory -/
def GivesJ (w : World) (l : List Int) (e : Ending) (w' : World) : Prop := ∃ v, e = .returned v ∧ OwnJ w' w.heap.size v l ∧ Below w.heap.size w w'

theorem ownJ_one (w : World) (o : Obj) (a : Int) : OwnJ ((w.alloc o).alloc (.cells #[.int .i64 a] 3)) w.heap.size (.slice (some ⟨w.heap.size + 1, 0, none⟩) 1 1) [a] := by
  have := ownJ_new (w.alloc o) [a] (by simp [maxLen])
  have h2 := own_mono this (show w.heap.size ≤ (w.alloc o).heap.size by simp)
  simpa [OwnJ] using h2
theorem ownJ_two (w : World) (o : Obj) (a b : Int) : OwnJ ((w.alloc o).alloc (.cells #[.int .i64 a, .int .i64 b] 3)) (w.alloc o).heap.size (.slice (some ⟨w.heap.size + 1, 0, none⟩) 2 2) [a, b] := by
  have := ownJ_new (w.alloc o) [a, b] (by simp [maxLen])
  simpa [OwnJ] using this
theorem ownJ_one0 (w : World) (a : Int) : OwnJ (w.alloc (.cells #[.int .i64 a] 3)) w.heap.size (.slice (some ⟨w.heap.size, 0, none⟩) 1 1) [a] := ownJ_new w [a] (by simp [maxLen])
theorem ownJ_two0 (w : World) (a b : Int) : OwnJ (w.alloc (.cells #[.int .i64 a, .int .i64 b] 3)) w.heap.size (.slice (some ⟨w.heap.size, 0, none⟩) 2 2) [a, b] := ownJ_new w [a, b] (by simp [maxLen])

theorem eqf {a b : Int} (h : a ≠ b) : (a == b) = false := by simpa using h

set_option maxRecDepth 100000 in
set_option maxHeartbeats 1000000 in
theorem next_any (A : Option Addr) (m c : Nat) (l : List InsT) (p : Int) (w : World) (hl : Laid w) (h : IsCode w A m c l) :
    Calls Tryd.prog 42 #[.slice A m c, .int .i64 p] w (GivesJ w (nextI l p)) := by
  have hst := stands_any A m c l p w hl h
  obtain ⟨hm, hle, hmx, hr, hfit⟩ := h
  have hml : l.length ≤ m := Nat.le_of_eq hm.symm
  have hml2 : m ≤ l.length := Nat.le_of_eq hm
  have hlm : l.length ≤ 9223372036854775807 := by unfold maxLen at hmx; omega
  have Hr := Lib.hid hr
  have Hfit := Lib.hid hfit
  clear hm hr hl hfit
  cases hs : standsB l p
  · rw [hs] at hst
    have H := Lib.hid (next_out hs)
    have Hst := Lib.hid hst
    clear hst hs
    go_enter Tryd.func42, Tryd.ntmps42
    go_wp2_with fail
    refine Calls.mono Hst.out ?_
    rintro e w1 ⟨rfl, rfl⟩
    go_wp2_with fail
    go_ret
    refine ⟨_, rfl, ?_, Below.refl _ _⟩
    rw [H.out]
    exact OwnJ.nil _ _
  · have hin : 0 ≤ p ∧ p < (l.length : Int) := by
      rcases Decidable.em (0 ≤ p ∧ p < (l.length : Int)) with h | h
      · exact h
      · rw [stands_out h] at hs; cases hs
    obtain ⟨k, rfl⟩ : ∃ k : Nat, p = (k : Int) := ⟨p.toNat, by omega⟩
    have hk : k < l.length := by omega
    have hkm : k < m := by omega
    obtain ⟨b, o, rfl, hb, hc0, hc1⟩ := code_at Hr.out hk
    have hn := next_in hk hs
    have hxf := (Hfit.out l[k] (List.getElem_mem hk)).2
    rw [hs] at hst
    have Hst := Lib.hid hst
    clear hst hs hin
    generalize hx : l[k] = x at *
    obtain ⟨op, a⟩ := x
    simp only at hn hc0 hc1
    clear hx
    have hB1 := (Below.refl w.heap.size w).alloc (Nat.le_refl _) (.cells #[.int .i64 op, .int .i64 a] 90)
    have HB1 := Lib.hid hB1
    clear hB1
    rcases goes_ways op a (k : Int) with ⟨h1, hg⟩ | ⟨rfl, hg⟩ | ⟨h1, hg⟩ | ⟨⟨h1, h2, h3, h4, h5, h6⟩, hg⟩
    · rw [hg] at hn
      have H := Lib.hid hn
      clear hg hn
      rcases h1 with rfl | rfl | rfl
      all_goals
        go_enter Tryd.func42, Tryd.ntmps42
        go_wp2_with fail
        refine Calls.mono Hst.out ?_
        rintro e w1 ⟨rfl, rfl⟩
        go_wp2_with fail
        go_ret
        refine ⟨_, rfl, ?_, HB1.out⟩
        rw [H.out]
        exact OwnJ.nil _ _
    · rw [hg] at hn
      have H := Lib.hid hn
      clear hg hn
      go_enter Tryd.func42, Tryd.ntmps42
      go_wp2_with fail
      refine Calls.mono Hst.out ?_
      rintro e w1 ⟨rfl, rfl⟩
      go_wp2_with fail
      go_ret
      refine ⟨_, rfl, ?_, HB1.out.alloc (by simp) _⟩
      rw [H.out]
      exact ownJ_one _ _ _
    · rw [hg] at hn
      have H := Lib.hid hn
      clear hg hn
      have Hw := Lib.hid (ownJ_two w (.cells #[.int .i64 op, .int .i64 a] 90) a ((k : Int) + 1))
      rcases h1 with rfl | rfl
      all_goals
        go_enter Tryd.func42, Tryd.ntmps42
        go_wp2_with fail
        refine Calls.mono Hst.out ?_
        rintro e w1 ⟨rfl, rfl⟩
        go_wp2_with fail
        refine (rising_any _ _ _ _ Hw.out (by simp)).mono ?_
        rintro e w2 ⟨v, rfl, hown, hbel⟩
        have Hown := Lib.hid (own_mono hown (show w.heap.size ≤ _ by simp))
        have Hbel := Lib.hid (hbel w.heap.size w (by simp) (by simp; omega) (HB1.out.alloc (by simp) _))
        clear hown hbel
        go_wp2_with fail
        go_ret
        refine ⟨_, rfl, ?_, Hbel.out⟩
        rw [H.out]
        exact Hown.out
    · rw [hg] at hn
      have H := Lib.hid hn
      have g1 := eqf h1
      have g2 := eqf h2
      have g3 := eqf h3
      have g4 := eqf h4
      have g5 := eqf h5
      have g6 := eqf h6
      clear hg hn h1 h2 h3 h4 h5 h6
      go_enter Tryd.func42, Tryd.ntmps42
      go_wp2_with fail
      refine Calls.mono Hst.out ?_
      rintro e w1 ⟨rfl, rfl⟩
      go_wp2_with fail
      go_ret
      refine ⟨_, rfl, ?_, HB1.out.alloc (by simp) _⟩
      rw [H.out]
      exact ownJ_one _ _ _

theorem stands_name {l : List InsT} {k : Nat} (hk : k < l.length) : (nameI l[k].1 == []) = !(standsB l (k : Int)) := by
  rw [stands_in hk]
  rw [Bool.eq_iff_iff]
  have h := kind_neg (op := l[k].1)
  by_cases hin : 0 ≤ l[k].1 ∧ l[k].1 < 46
  · have h2 : kindI l[k].1 ≠ -1 := fun e => (h.1 e) hin
    have h3 : nameI l[k].1 ≠ [] := by
      unfold nameI; rw [if_pos hin]; exact name_ne _ (by omega)
    simp [h2, h3]
  · have h2 := kind_out hin
    have h3 := name_out hin
    simp [h2, h3]

set_option maxRecDepth 100000 in
set_option maxHeartbeats 1000000 in
theorem refNext_any (A : Option Addr) (m c : Nat) (l : List InsT) (p : Int) (w : World) (h : IsCode w A m c l) :
    Calls Tryd.prog 43 #[.slice A m c, .int .i64 p] w (GivesJ w (nextI l p)) := by
  obtain ⟨hm, hle, hmx, hr, hfit⟩ := h
  have hml : l.length ≤ m := Nat.le_of_eq hm.symm
  have hml2 : m ≤ l.length := Nat.le_of_eq hm
  have hlm : l.length ≤ 9223372036854775807 := by unfold maxLen at hmx; omega
  have Hr := Lib.hid hr
  have Hfit := Lib.hid hfit
  clear hm hr hfit
  by_cases hin : 0 ≤ p ∧ p < (l.length : Int)
  · obtain ⟨k, rfl⟩ : ∃ k : Nat, p = (k : Int) := ⟨p.toNat, by omega⟩
    have hk : k < l.length := by omega
    have hkm : k < m := by omega
    have hkm' : ¬ (m : Int) ≤ (k : Int) := by omega
    obtain ⟨b, o, rfl, hb, hc0', hc1'⟩ := code_at Hr.out hk
    have hnm := stands_name hk
    have hxf := (Hfit.out l[k] (List.getElem_mem hk)).2
    clear hin
    cases hs : standsB l (k : Int)
    · have H := Lib.hid (next_out hs)
      rw [hs] at hnm
      clear hs
      generalize hx : l[k] = x at *
      obtain ⟨op, a⟩ := x
      simp only at hnm hc0' hc1'
      have hn2 : nameI op = [] := by simpa using hnm
      have Hn := Lib.hid hn2
      clear hx hn2 hnm
      go_enter Tryd.func43, Tryd.ntmps43
      go_wp2_with fail
      refine (refName_any op w).mono ?_
      rw [Hn.out]
      rintro e w1 ⟨rfl, hb1⟩
      have Hb1 := Lib.hid hb1
      clear hb1
      go_wp2_with fail
      go_ret
      refine ⟨_, rfl, ?_, Hb1.out⟩
      rw [H.out]
      exact OwnJ.nil _ _
    · have hn := next_in hk hs
      rw [hs] at hnm
      clear hs
      generalize hx : l[k] = x at *
      obtain ⟨op, a⟩ := x
      simp only at hnm hc0' hc1' hn
      clear hx
      generalize hN : nameI op = N at *
      have HN := Lib.hid hN
      have hnm2 : (N == []) = false := by simpa using hnm
      have hw := goes_ways op a (k : Int)
      clear hN hnm
      go_enter Tryd.func43, Tryd.ntmps43
      go_wp2_with fail
      refine (refName_any op w).mono ?_
      rw [HN.out]
      rintro e w1 ⟨rfl, hb1⟩
      have hc0 : w1.cell? ⟨b, o + k * 2, none⟩ = some (.int .i64 op) := (hb1.cell (p := ⟨b, o + k * 2, none⟩) hb).trans hc0'
      have hc1 : w1.cell? ⟨b, o + k * 2 + 1, none⟩ = some (.int .i64 a) := (hb1.cell (p := ⟨b, o + k * 2 + 1, none⟩) hb).trans hc1'
      have Hb1 := Lib.hid hb1
      have hsz1 := hb1.size
      clear hb1 hc0' hc1'
      rcases hw with ⟨h1, hg⟩ | ⟨rfl, hg⟩ | ⟨h1, hg⟩ | ⟨⟨h1, h2, h3, h4, h5, h6⟩, hg⟩
      · rw [hg] at hn
        have H := Lib.hid hn
        clear hg hn
        rcases h1 with rfl | rfl | rfl
        all_goals
          go_wp2_with fail
          go_ret
          refine ⟨_, rfl, ?_, Hb1.out⟩
          rw [H.out]
          exact OwnJ.nil _ _
      · rw [hg] at hn
        have H := Lib.hid hn
        clear hg hn
        go_wp2_with fail
        go_ret
        refine ⟨_, rfl, ?_, Hb1.out.alloc hsz1 _⟩
        rw [H.out]
        exact own_mono (ownJ_one0 _ _) hsz1
      · rw [hg, rise_two] at hn
        clear hg
        by_cases h7 : a < (k : Int) + 1
        · rw [if_pos h7] at hn
          have H := Lib.hid hn
          clear hn
          rcases h1 with rfl | rfl
          all_goals
            go_wp2_with fail
            go_ret
            refine ⟨_, rfl, ?_, Hb1.out.alloc hsz1 _⟩
            rw [H.out]
            exact own_mono (ownJ_two0 _ _ _) hsz1
        · rw [if_neg h7] at hn
          by_cases h8 : (k : Int) + 1 < a
          · rw [if_pos h8] at hn
            have H := Lib.hid hn
            clear hn
            rcases h1 with rfl | rfl
            all_goals
              go_wp2_with fail
              go_ret
              refine ⟨_, rfl, ?_, Hb1.out.alloc hsz1 _⟩
              rw [H.out]
              exact own_mono (ownJ_two0 _ _ _) hsz1
          · rw [if_neg h8] at hn
            have H := Lib.hid hn
            clear hn
            rcases h1 with rfl | rfl
            all_goals
              go_wp2_with fail
              go_ret
              refine ⟨_, rfl, ?_, Hb1.out.alloc hsz1 _⟩
              rw [H.out]
              exact own_mono (ownJ_one0 _ _) hsz1
      · rw [hg] at hn
        have H := Lib.hid hn
        have g1 := eqf h1
        have g2 := eqf h2
        have g3 := eqf h3
        have g4 := eqf h4
        have g5 := eqf h5
        have g6 := eqf h6
        clear hg hn h1 h2 h3 h4 h5 h6
        go_wp2_with fail
        go_ret
        refine ⟨_, rfl, ?_, Hb1.out.alloc hsz1 _⟩
        rw [H.out]
        exact own_mono (ownJ_one0 _ _) hsz1
  · have H := Lib.hid (next_out (stands_out hin))
    by_cases h0 : p < 0
    · clear hin
      go_enter Tryd.func43, Tryd.ntmps43
      go_wp2
      go_ret
      refine ⟨_, rfl, ?_, Below.refl _ _⟩
      rw [H.out]
      exact OwnJ.nil _ _
    · have h1 : (m : Int) ≤ p := by omega
      clear hin
      go_enter Tryd.func43, Tryd.ntmps43
      go_wp2
      go_ret
      refine ⟨_, rfl, ?_, Below.refl _ _⟩
      rw [H.out]
      exact OwnJ.nil _ _

end InsV
end Go.Proofs.YtaekdgbbopcpbaaDoor
