/-
  The document's own answers on names and kinds of instructions: what each call returns.
-/
import Derived.Test.YtaekdgbbopcpbaaDoorInsA
import Derived.Test.YtaekdgbbopcpbaaDoorBaseApp
import Derived.Outline
namespace Go.Proofs.YtaekdgbbopcpbaaDoor
namespace InsB
open Go.RowKit InsM Base InsA

def namesV : List Value := (List.range 46).map fun k => str (nameN k)

/-- names(): a slice of all names, in new memory -/
def GivesNames (w : World) (e : Ending) (w' : World) : Prop :=
  ∃ b, e = .returned (.slice (some ⟨b, 0, none⟩) 46 46) ∧ b < w'.heap.size ∧ (∀ k, k < 46 → w'.cell? ⟨b, k, none⟩ = some (.string ⟨(nameN k).toArray⟩)) ∧ Below w.heap.size w w'

theorem all_names : ((List.range 46).map fun k => Value.string ⟨(nameN k).toArray⟩) = namesV := rfl

set_option maxRecDepth 100000 in
theorem names_any (w : World) : Calls Tryd.prog 77 #[] w (GivesNames w) := by
  go_enter Tryd.func77, Tryd.ntmps77
  go_wp2
  go_ret
  refine ⟨w.heap.size, rfl, by simp, fun k hk => ?_, (Below.refl _ _).alloc (Nat.le_refl _) _⟩
  show ((w.alloc (.cells namesV.toArray 9)).cell? ⟨w.heap.size, k, none⟩) = _
  rw [cell_of_row _ _ k namesV.toArray 9 (0, 0) (heap_alloc_new w _)]
  simp [namesV, str, hk]

/-- a call hands back a value; it makes memory -/
def GivesB (w : World) (v : Value) (e : Ending) (w' : World) : Prop := e = .returned v ∧ Below w.heap.size w w'

set_option maxRecDepth 100000 in
theorem refName_any (op : Int) (w : World) :
    Calls Tryd.prog 35 #[.int .i64 op] w (GivesB w (.string ⟨(nameI op).toArray⟩)) := by
  by_cases h0 : op < 0
  · have H := Lib.hid (name_out (op := op) (by omega))
    go_enter Tryd.func35, Tryd.ntmps35
    go_wp2
    go_ret
    exact ⟨ret_str H.out.symm, Below.refl _ _⟩
  · by_cases h1 : 46 ≤ op
    · have H := Lib.hid (name_out (op := op) (by omega))
      go_enter Tryd.func35, Tryd.ntmps35
      go_wp2_with (go_at_call 77; refine (names_any _).mono ?_; rintro e w1 ⟨b, rfl, hb, hc, hbel⟩; have Hbel := Lib.hid hbel; clear hc hbel)
      go_ret
      exact ⟨ret_str H.out.symm, Hbel.out⟩
    · obtain ⟨k, rfl⟩ : ∃ k : Nat, op = (k : Int) := ⟨op.toNat, by omega⟩
      have hk : k < 46 := by omega
      have H := Lib.hid (name_in hk)
      go_enter Tryd.func35, Tryd.ntmps35
      go_wp2_with fail
      refine (names_any _).mono ?_
      rintro e w1 ⟨b, rfl, hb, hc, hbel⟩
      have Hbel := Lib.hid hbel
      have hsz := hbel.size
      clear hc hbel
      go_wp2_with fail
      refine (names_any _).mono ?_
      rintro e w2 ⟨b2, rfl, hb2, hc2, hbel2⟩
      have Hbel2 := Lib.hid (Hbel.out.trans (hbel2.mono hsz))
      have hc3 := hc2 k hk
      clear hc2 hbel2
      go_wp2_with fail
      go_ret
      exact ⟨ret_str H.out.symm, Hbel2.out⟩

set_option maxRecDepth 100000 in
set_option maxHeartbeats 1000000 in
theorem refFind_any (s : List UInt8) (w : World) :
    Calls Tryd.prog 37 #[.string ⟨s.toArray⟩] w (GivesB w (.int .i64 (findI s))) := by
  go_enter Tryd.func37, Tryd.ntmps37
  go_wp2_with fail
  refine (names_any _).mono ?_
  rintro e w1 ⟨b, rfl, hb, hc, hbel⟩
  have Hc := Lib.hid hc
  have Hbel := Lib.hid hbel
  clear hc hbel
  go_wp2_with fail
  go_loop [4] (fun i => ∃ k : Nat, k ≤ 46 ∧ i = .int .i64 k ∧ Hid (∀ j, j < k → nameN j ≠ s)) (fun i => 46 - (intOf i).toNat)
  case atStart => exact ⟨0, by omega, rfl, Lib.hid (fun j hj => absurd hj (by omega))⟩
  case round =>
    obtain ⟨k, hk, rfl, hb⟩ := hrel
    by_cases hlt : k < 46
    · have hc := Hc.out k hlt
      cases he : (nameN k == s)
      · have hne : nameN k ≠ s := by simpa using he
        have hb2 : Hid (∀ j, j < k + 1 → nameN j ≠ s) := Lib.hid (fun j hj => by
          rcases Nat.lt_succ_iff_lt_or_eq.1 hj with h | h
          · exact hb.out j h
          · subst h; exact hne)
        clear hne
        go_wp2
        go_round
        case rel => exact ⟨k + 1, by omega, by go_num, hb2⟩
        case measure => simp [intOf]; omega
      · have H := Lib.hid (find_at hlt hb.out (by simpa using he))
        go_wp2
        go_ret
        exact ⟨ret_int H.out.symm, Hbel.out⟩
    · have H := Lib.hid (find_none (s := s) (fun j hj => hb.out j (by omega)))
      go_wp2
      go_ret
      exact ⟨ret_int H.out.symm, Hbel.out⟩

theorem listed {op : Int} (h : kindI op ≠ 0) (h2 : 0 ≤ op ∧ op < 46) : op = 1 ∨ op = 2 ∨ op = 25 ∨ op = 28 ∨ op = 38 ∨ op = 39 ∨ op = 26 ∨ op = 27 ∨ op = 45 ∨ op = 32 ∨ op = 6 ∨ op = 7 ∨ op = 22 ∨ op = 23 ∨ op = 24 := by
  have := kinds_listed op.toNat (by omega)
  unfold kindI at h
  rw [if_pos h2] at h
  rcases this with h' | h'
  · omega
  · exact absurd h' h

set_option maxRecDepth 100000 in
theorem refKind_any (op : Int) (w : World) :
    Calls Tryd.prog 33 #[.int .i64 op] w (GivesB w (.int .i64 (kindI op))) := by
  by_cases hin : 0 ≤ op ∧ op < 46
  · by_cases hk : kindI op = 0
    · have hne : (nameI op == []) = false := by
        obtain ⟨k, rfl⟩ : ∃ k : Nat, op = (k : Int) := ⟨op.toNat, by omega⟩
        rw [name_in (by omega)]
        simpa using name_ne k (by omega)
      have n1 : ∀ n : Int, kindI n ≠ 0 → (op == n) = false := fun n hn => by
        simp only [beq_eq_false_iff_ne]
        rintro rfl
        exact hn hk
      have a1 := n1 1 (by decide)
      have a2 := n1 2 (by decide)
      have a25 := n1 25 (by decide)
      have a28 := n1 28 (by decide)
      have a38 := n1 38 (by decide)
      have a39 := n1 39 (by decide)
      have a26 := n1 26 (by decide)
      have a27 := n1 27 (by decide)
      have a45 := n1 45 (by decide)
      have a32 := n1 32 (by decide)
      have a6 := n1 6 (by decide)
      have a7 := n1 7 (by decide)
      have a22 := n1 22 (by decide)
      have a23 := n1 23 (by decide)
      have a24 := n1 24 (by decide)
      have Hk := Lib.hid hk
      clear hk n1 hin
      generalize hN : nameI op = N at hne
      have HN := Lib.hid hN
      clear hN
      go_enter Tryd.func33, Tryd.ntmps33
      go_wp2_with (go_at_call 35; refine (refName_any _ _).mono ?_; rw [HN.out]; rintro e w1 ⟨rfl, hb⟩; have Hb := Lib.hid hb; clear hb)
      go_ret
      exact ⟨ret_int Hk.out.symm, Hb.out⟩
    · rcases listed hk hin with rfl | rfl | rfl | rfl | rfl | rfl | rfl | rfl | rfl | rfl | rfl | rfl | rfl | rfl | rfl
      all_goals
        clear hin hk
        go_enter Tryd.func33, Tryd.ntmps33
        go_wp2
        go_ret
        exact ⟨ret_int (by decide), Below.refl _ _⟩
  · have H := Lib.hid (kind_out hin)
    have hN := name_out hin
    have n1 : ∀ n : Int, 0 ≤ n ∧ n < 46 → (op == n) = false := fun n hn => by
      simp only [beq_eq_false_iff_ne]
      rintro rfl
      exact hin hn
    have a1 := n1 1 (by decide)
    have a2 := n1 2 (by decide)
    have a25 := n1 25 (by decide)
    have a28 := n1 28 (by decide)
    have a38 := n1 38 (by decide)
    have a39 := n1 39 (by decide)
    have a26 := n1 26 (by decide)
    have a27 := n1 27 (by decide)
    have a45 := n1 45 (by decide)
    have a32 := n1 32 (by decide)
    have a6 := n1 6 (by decide)
    have a7 := n1 7 (by decide)
    have a22 := n1 22 (by decide)
    have a23 := n1 23 (by decide)
    have a24 := n1 24 (by decide)
    have HN := Lib.hid hN
    clear n1 hin hN
    go_enter Tryd.func33, Tryd.ntmps33
    go_wp2_with (go_at_call 35; refine (refName_any _ _).mono ?_; rw [HN.out]; rintro e w1 ⟨rfl, hb⟩; have Hb := Lib.hid hb; clear hb)
    go_ret
    exact ⟨ret_int H.out.symm, Hb.out⟩

end InsB
end Go.Proofs.YtaekdgbbopcpbaaDoor
