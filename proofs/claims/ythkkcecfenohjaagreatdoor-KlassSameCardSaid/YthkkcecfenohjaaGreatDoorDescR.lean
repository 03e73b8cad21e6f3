/-
  The document's own answers on types: whether a text is one, and what stands on that: what each call returns, for every text.
-/
import Derived.Test.YthkkcecfenohjaaGreatDoorDescX
import Derived.Outline
namespace Go.Proofs.YthkkcecfenohjaaGreatDoor
namespace DescR
open Go.RowKit BinM DescM DescW DescX
open BinName (ret_bool refName_any)

/-- what the document asks of a text behind its brackets -/
def tailB (d : List UInt8) : Bool := d == [73] || d == [66] || d == [83] || (decide (2 < d.length) && d.head? == some 76 && d.getLast? == some 59 && nameB ((d.drop 1).take (d.length - 2)))

theorem last_cons (c : UInt8) (t : List UInt8) (h : 0 < t.length) : (c :: t).getLast? = some (t[t.length - 1]'(by omega)) := by
  cases t with
  | nil => simp at h
  | cons a r =>
    rw [List.getLast?_cons_cons, List.getLast?_eq_getElem?, List.getElem?_eq_getElem (by simp)]

theorem tail_core (d : List UInt8) : tailB d = (core d == some d.length) := by
  rw [Bool.eq_iff_iff]
  constructor
  · intro h
    simp only [tailB, Bool.or_eq_true, Bool.and_eq_true, beq_iff_eq, decide_eq_true_eq] at h
    rcases h with ((rfl | rfl) | rfl) | ⟨⟨⟨h1, h2⟩, h3⟩, h4⟩
    · decide
    · decide
    · decide
    · cases d with
      | nil => simp at h1
      | cons c t =>
        simp at h2
        subst h2
        simp only [List.drop_one, List.tail_cons, List.length_cons] at h4 h1
        have hok := name_ok h4
        have hlen : (t.take (t.length + 1 - 2)).length = t.length - 1 := by rw [List.length_take]; omega
        have hlast : t[t.length - 1]'(by omega) = 59 := by
          have this := last_cons 76 t (by omega)
          rw [this] at h3
          injection h3
        have hs : semi t = t.length - 1 := by
          refine semi_eq (fun j hj hjm => ?_) (by omega) hlast
          have hm := hok.1 (t.take (t.length + 1 - 2))[j] (List.getElem_mem (by omega))
          rw [List.getElem_take] at hm
          exact hm.1
        rw [core_cons, if_neg (by decide), if_pos rfl, hs]
        have e : t.length + 1 - 2 = t.length - 1 := by omega
        rw [e] at h4
        rw [if_pos ⟨by omega, h4⟩]
        simp; omega
  · intro h
    have h := eq_of_beq h
    cases d with
    | nil => simp [core] at h
    | cons c t =>
      rw [core_cons] at h
      split at h
      · rename_i hc
        injection h with h
        simp only [List.length_cons] at h
        have ht : t = [] := List.eq_nil_of_length_eq_zero (by omega)
        subst ht
        rcases hc with rfl | rfl | rfl <;> decide
      · split at h
        · rename_i hc
          subst hc
          split at h
          · rename_i h3
            simp at h
            have hs : semi t = t.length - 1 := by omega
            have hok := name_ok h3.2
            have hl : (t.take (semi t)).length = semi t := by simp; omega
            have hst := semi_stop t h3.1
            simp only [hs] at hst
            simp only [tailB, Bool.or_eq_true, Bool.and_eq_true, beq_iff_eq, decide_eq_true_eq]
            right
            refine ⟨⟨⟨by simp; omega, by simp⟩, ?_⟩, ?_⟩
            · rw [last_cons 76 t (by omega), hst]
            · have e : (76 :: t).length - 2 = semi t := by simp; omega
              rw [e]; exact h3.2
          · cases h
        · cases h

theorem last_at {d : List UInt8} (h : 0 < d.length) (c : UInt8) : (d.getLast? == some c) = ((d[d.length - 1].toNat : Int) == (c.toNat : Int)) := by
  rw [List.getLast?_eq_getElem?, List.getElem?_eq_getElem (by omega), Bool.eq_iff_iff]
  simp only [beq_iff_eq, Option.some.injEq]
  constructor
  · intro h; rw [h]
  · intro h; exact UInt8.toNat_inj.1 (by omega)

theorem right_tail {l : List UInt8} : rightB l = (decide (brk l ≤ 4) && tailB (l.drop (brk l))) := by
  have hb := brk_le l
  rw [tail_core, Bool.eq_iff_iff]
  unfold rightB leadT
  by_cases h4 : 4 < brk l
  · rw [if_pos h4]; simp; omega
  · rw [if_neg h4]
    cases hc : core (l.drop (brk l)) with
    | none => simp
    | some m => simp; omega

theorem refName_l (l : List UInt8) (w : World) (hl : l.length ≤ 140737488355328) :
    Calls Tryz.prog 45 #[.string ⟨l.toArray⟩] w fun e w' => e = .returned (.bool (nameB l)) ∧ w = w' :=
  refName_any ⟨l.toArray⟩ w (by rw [size_mk]; unfold maxLen; omega)

theorem at_mk {l : List UInt8} (j : Nat) (_h : j < l.length) (h' : j < (ByteArray.mk l.toArray).size) : (ByteArray.mk l.toArray)[j]'h' = l[j]'_h := rfl

set_option maxRecDepth 100000 in
set_option maxHeartbeats 4000000 in
theorem refRight_any (l : List UInt8) (w : World) (hl : l.length ≤ 140737488355328) :
    Calls Tryz.prog 47 #[.string ⟨l.toArray⟩] w fun e w' => e = .returned (.bool (rightB l)) ∧ w = w' := by
  have hb := brk_le l
  have HR := Lib.hid (right_tail (l := l))
  obtain ⟨b, hbk⟩ : ∃ b, b = brk l := ⟨_, rfl⟩
  have Hbk := Lib.hid hbk
  rw [← hbk] at hb
  clear hbk
  go_enter Tryz.func47, Tryz.ntmps47
  go_wp2
  go_loop [3] (fun i => ∃ k : Nat, k ≤ b ∧ i = .int .i64 k) (fun i => l.length - (intOf i).toNat)
  case atStart => exact ⟨0, Nat.zero_le _, rfl⟩
  case round =>
    obtain ⟨k, hk, rfl⟩ := hrel
    by_cases hkb : k < b
    · have hkl : k < l.length := by omega
      have hat := brk_at l k hkl (by rw [← Hbk.out]; exact hkb)
      have hx := fun h' => at_mk k hkl h'
      have hx91 : ((l[k].toNat : Int) == 91) = true := by rw [hat]; rfl
      clear hat
      go_wp2_with fail
      go_round
      case rel => exact ⟨k + 1, by omega, by go_num⟩
      case measure => simp [intOf]; omega
    · obtain rfl : k = b := by omega
      have hx2 : (ByteArray.mk l.toArray).extract k l.length = ⟨(l.drop k).toArray⟩ := by
        rw [ext, List.take_of_length_le (by simp)]
      have hstop : k < l.length → ∀ h : k < l.length, ((l[k].toNat : Int) == 91) = false := by
        intro _ h
        rw [beq_eq_false_iff_ne]
        intro he
        have h91 := brk_stop l (by rw [← Hbk.out]; exact h)
        apply h91
        have : l[brk l]'(by rw [← Hbk.out]; exact h) = l[k] := by congr 1; exact Hbk.out.symm
        rw [this]
        exact UInt8.toNat_inj.1 (by show l[k].toNat = 91; omega)
      have Hstop := Lib.hid hstop
      clear hstop
      by_cases h4 : 4 < k
      · have Hfin := Lib.hid (show rightB l = false by rw [HR.out, ← Hbk.out]; simp; omega)
        by_cases hkl : k < l.length
        · have hx := fun h' => at_mk k hkl h'
          have hx91 := Hstop.out hkl hkl
          go_wp2_with fail
          go_ret
          exact ⟨ret_bool Hfin.out.symm, rfl⟩
        · go_wp2_with fail
          go_ret
          exact ⟨ret_bool Hfin.out.symm, rfl⟩
      · have HD := Lib.hid (show rightB l = tailB (l.drop k) by rw [HR.out, ← Hbk.out]; simp; omega)
        have hdl : (l.drop k).length = l.length - k := by simp
        by_cases hkl : k < l.length
        · have hx := fun h' => at_mk k hkl h'
          have hx91 := Hstop.out hkl hkl
          have hd0 : 0 < (l.drop k).length := by omega
          generalize hdd : l.drop k = d at *
          clear hdd
          have hy0 := fun h' => at_mk 0 hd0 h'
          have hdl1 : d.length - 1 < d.length := by omega
          have hyl := fun h' => at_mk (d.length - 1) hdl1 h'
          have hxt : (ByteArray.mk d.toArray).extract 1 (d.length - 1) = ⟨((d.drop 1).take (d.length - 2)).toArray⟩ := by rw [ext]; congr 3
          have hh0 := head_at hd0 76
          have hhl := last_at hd0 59
          rw [show ((76 : UInt8).toNat : Int) = 76 from rfl] at hh0
          rw [show ((59 : UInt8).toNat : Int) = 59 from rfl] at hhl
          have hdd : d.length ≤ l.length := by omega
          have HT := Lib.hid (show tailB d = _ from by unfold tailB; rw [hh0, hhl])
          clear hh0 hhl
          have Hdl := Lib.hid hdl
          clear hdl
          cases q1 : d == [73]
          · cases q2 : d == [66]
            · cases q3 : d == [83]
              · by_cases h2 : 2 < d.length
                · cases q4 : ((d[0].toNat : Int) == 76)
                  · have Hfin := Lib.hid (show rightB l = false by rw [HD.out, HT.out, q1, q2, q3, q4]; simp)
                    go_wp2_with fail
                    go_ret
                    exact ⟨ret_bool Hfin.out.symm, rfl⟩
                  · cases q5 : ((d[d.length - 1].toNat : Int) == 59)
                    · have Hfin := Lib.hid (show rightB l = false by rw [HD.out, HT.out, q1, q2, q3, q5]; simp)
                      go_wp2_with fail
                      go_ret
                      exact ⟨ret_bool Hfin.out.symm, rfl⟩
                    · have Hfin := Lib.hid (show rightB l = nameB ((d.drop 1).take (d.length - 2)) by rw [HD.out, HT.out, q1, q2, q3, q4, q5]; simp [h2])
                      go_wp2_with (go_at_call 45; refine (refName_l _ _ (by rw [List.length_take]; simp; omega)).mono ?_; rintro e w' ⟨rfl, rfl⟩)
                      go_ret
                      exact ⟨ret_bool (by rw [Hfin.out, List.drop_one]), rfl⟩
                · have Hfin := Lib.hid (show rightB l = false by rw [HD.out, HT.out, q1, q2, q3]; simp [h2])
                  go_wp2_with fail
                  go_ret
                  exact ⟨ret_bool Hfin.out.symm, rfl⟩
              · have Hfin := Lib.hid (show rightB l = true by rw [HD.out, HT.out, q3]; simp)
                go_wp2_with fail
                go_ret
                exact ⟨ret_bool Hfin.out.symm, rfl⟩
            · have Hfin := Lib.hid (show rightB l = true by rw [HD.out, HT.out, q2]; simp)
              go_wp2_with fail
              go_ret
              exact ⟨ret_bool Hfin.out.symm, rfl⟩
          · have Hfin := Lib.hid (show rightB l = true by rw [HD.out, HT.out, q1]; simp)
            go_wp2_with fail
            go_ret
            exact ⟨ret_bool Hfin.out.symm, rfl⟩
        · have hnil : l.drop k = [] := List.drop_of_length_le (by omega)
          have Hfin := Lib.hid (show rightB l = false by rw [HD.out, hnil]; rfl)
          rw [hnil] at hx2
          obtain rfl : k = l.length := by omega
          clear hnil hdl
          go_wp2_with fail
          go_ret
          exact ⟨ret_bool Hfin.out.symm, rfl⟩




/-- one bracket more -/
theorem right_cons {l : List UInt8} (h : rightB l = true) : rightB (91 :: l) = !(decide (brk l = 4)) := by
  have hb : brk (91 :: l) = brk l + 1 := by simp [brk]
  rw [right_tail] at h ⊢
  simp only [Bool.and_eq_true, decide_eq_true_eq] at h
  rw [hb, List.drop_succ_cons, h.2, Bool.and_true, Bool.eq_iff_iff]
  simp; omega


/-- a type's first byte -/
theorem right_head {l : List UInt8} (h : rightB l = true) (h0 : 0 < l.length) : l = [73] ∨ l = [66] ∨ l = [83] ∨ l[0] = 76 ∨ l[0] = 91 := by
  cases l with
  | nil => simp at h0
  | cons c t =>
    by_cases hc : c = 91
    · subst hc; simp
    · have hb : brk (c :: t) = 0 := by simp [brk, hc]
      rw [right_tail, hb, List.drop_zero] at h
      simp only [Bool.and_eq_true, decide_eq_true_eq] at h
      have h2 := h.2
      simp only [tailB, Bool.or_eq_true, Bool.and_eq_true, beq_iff_eq, decide_eq_true_eq] at h2
      rcases h2 with ((h2 | h2) | h2) | ⟨⟨⟨_, h2⟩, _⟩, _⟩
      · exact .inl h2
      · exact .inr (.inl h2)
      · exact .inr (.inr (.inl h2))
      · simp at h2; simp [h2]


end DescR
end Go.Proofs.YthkkcecfenohjaaGreatDoor
