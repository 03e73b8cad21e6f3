/-
  Where code goes on, and whether it goes back: ins.Next, ins.Back and the document's own: what each call returns; rising: numbers in order, each once.
-/
import Derived.Test.YtgnajafkdbiiaaaGreatDoorInsC
import Derived.Test.YtgnajafkdbiiaaaGreatDoorBinM
namespace Go.Proofs.YtgnajafkdbiiaaaGreatDoor
namespace InsF
open Go.RowKit InsM Base InsA InsB Stru InsC

/-- whether there is such a place, and an instruction there -/
def standsB (l : List InsT) (at_ : Int) : Bool := if 0 ≤ at_ ∧ at_ < (l.length : Int) then (match l[at_.toNat]? with | some x => !(kindI x.1 == -1) | none => false) else false

theorem stands_out {l : List InsT} {p : Int} (h : ¬ (0 ≤ p ∧ p < (l.length : Int))) : standsB l p = false := by unfold standsB; rw [if_neg h]
theorem stands_in {l : List InsT} {k : Nat} (h : k < l.length) : standsB l (k : Int) = !(kindI l[k].1 == -1) := by
  unfold standsB; rw [if_pos (by omega)]; simp [h]

/-- whether code goes back at a place -/
def backB (l : List InsT) (at_ : Int) : Bool := if 0 ≤ at_ ∧ at_ < (l.length : Int) then (match l[at_.toNat]? with | some x => (kindI x.1 == 7) && decide (x.2 ≤ at_) | none => false) else false
theorem back_out {l : List InsT} {p : Int} (h : ¬ (0 ≤ p ∧ p < (l.length : Int))) : backB l p = false := by unfold backB; rw [if_neg h]
theorem back_in {l : List InsT} {k : Nat} (h : k < l.length) : backB l (k : Int) = ((kindI l[k].1 == 7) && decide (l[k].2 ≤ (k : Int))) := by
  unfold backB; rw [if_pos (by omega)]; simp [h]

theorem stands_any (A : Option Addr) (m c : Nat) (l : List InsT) (p : Int) (w : World) (hl : Laid w) (h : IsCode w A m c l) :
    Calls Tryz.prog 266 #[.slice A m c, .int .i64 p] w fun e w' => e = .returned (.bool (standsB l p)) ∧ w = w' := by
  obtain ⟨hm, hle, hmx, hr, _⟩ := h
  have hml : l.length ≤ m := Nat.le_of_eq hm.symm
  have hml2 : m ≤ l.length := Nat.le_of_eq hm
  have Hl := Lib.hid hl
  have Hr := Lib.hid hr
  clear hm hr hl
  by_cases hin : 0 ≤ p ∧ p < (l.length : Int)
  · obtain ⟨k, rfl⟩ : ∃ k : Nat, p = (k : Int) := ⟨p.toNat, by omega⟩
    have hk : k < l.length := by omega
    have hkm : k < m := by omega
    obtain ⟨b, o, rfl, hb, hc, _⟩ := code_at Hr.out hk
    have hi : inB (k : Int) (m : Int) = true := in_t (by omega)
    have H := Lib.hid (stands_in hk)
    clear hin
    generalize hq : l[k].1 = q at *
    clear hq
    cases hK : (kindI q == -1)
    · generalize hKK : kindI q = K at *
      have HK := Lib.hid hKK
      clear hKK
      go_enter Tryz.func266, Tryz.ntmps266
      go_wp2_with (first
        | (go_at_call 115; refine (kind_any _ _ Hl.out).mono ?_; rw [HK.out]; rintro e w' ⟨rfl, rfl⟩)
        | (go_at_call 171; refine (within_any _ _ _).mono ?_; rw [hi]; rintro e w' ⟨rfl, rfl⟩))
      go_ret
      exact ⟨ret_bool (by rw [H.out]; rfl), rfl⟩
    · have hKK : kindI q = -1 := by simpa using hK
      have HK := Lib.hid hKK
      clear hKK hK
      go_enter Tryz.func266, Tryz.ntmps266
      go_wp2_with (first
        | (go_at_call 115; refine (kind_any _ _ Hl.out).mono ?_; rw [HK.out]; rintro e w' ⟨rfl, rfl⟩)
        | (go_at_call 171; refine (within_any _ _ _).mono ?_; rw [hi]; rintro e w' ⟨rfl, rfl⟩))
      go_ret
      exact ⟨ret_bool (by rw [H.out, HK.out]; rfl), rfl⟩
  · have hi : inB p (m : Int) = false := in_f (by omega)
    have H := Lib.hid (stands_out hin)
    clear hin
    go_enter Tryz.func266, Tryz.ntmps266
    go_wp2_with (go_at_call 171; refine (within_any _ _ _).mono ?_; rw [hi]; rintro e w' ⟨rfl, rfl⟩)
    go_ret
    exact ⟨ret_bool H.out.symm, rfl⟩



end InsF
end Go.Proofs.YtgnajafkdbiiaaaGreatDoor
