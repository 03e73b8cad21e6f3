/-
  ins.Kind, Name, Find and the document's own answers to them: what each call returns, where the table lies as the program's text lays it.
-/
import Derived.Test.YtaekdgbbopcpbaaDoorProg
import Derived.Test.YtaekdgbbopcpbaaDoorBase
import Derived.Test.YtaekdgbbopcpbaaDoorInsM
import Derived.WalkKit
import Derived.LoopTactic
import Derived.WalkSpells
import Derived.Lib.Hide
namespace Go.Proofs.YtaekdgbbopcpbaaDoor
namespace InsA
open Go.RowKit InsM Base

/-- a text from its bytes -/
def str (l : List UInt8) : Value := .string ⟨l.toArray⟩

/-- the table lies as the text lays it -/
def Laid (w : World) : Prop := 0 < w.heap.size ∧ ∀ k, k < 46 → w.cell? ⟨0, k * 2, none⟩ = some (.string ⟨(nameN k).toArray⟩) ∧ w.cell? ⟨0, k * 2 + 1, none⟩ = some (.int .i64 (kindN k))

theorem Laid.below {w w' : World} {B : Nat} (h : Laid w) (hb : Below B w w') (hB : 0 < B) : Laid w' :=
  ⟨Nat.lt_of_lt_of_le h.1 hb.size, fun k hk => ⟨(hb.cell (p := ⟨0, k * 2, none⟩) hB).trans (h.2 k hk).1, (hb.cell (p := ⟨0, k * 2 + 1, none⟩) hB).trans (h.2 k hk).2⟩⟩

theorem ret_int {k : IntKind} {a b : Int} (h : a = b) : Ending.returned (.int k a) = .returned (.int k b) := by rw [h]
theorem ret_bool {a b : Bool} (h : a = b) : Ending.returned (.bool a) = .returned (.bool b) := by rw [h]
theorem ret_str {a b : List UInt8} (h : a = b) : Ending.returned (.string ⟨a.toArray⟩) = .returned (.string ⟨b.toArray⟩) := by rw [h]

def inB (n m : Int) : Bool := decide (0 ≤ n ∧ n < m)

theorem within_any (n m : Int) (w : World) :
    Calls Tryd.prog 76 #[.int .i64 n, .int .i64 m] w fun e w' => e = .returned (.bool (inB n m)) ∧ w = w' := by
  by_cases h : 0 ≤ n
  · by_cases h2 : n < m
    all_goals
      go_enter Tryd.func76, Tryd.ntmps76
      go_wp2
      go_ret
      exact ⟨ret_bool (by rw [Bool.eq_iff_iff]; simp [inB]; omega), rfl⟩
  · go_enter Tryd.func76, Tryd.ntmps76
    go_wp2
    go_ret
    exact ⟨ret_bool (by rw [Bool.eq_iff_iff]; simp [inB]; omega), rfl⟩

theorem in_t {n m : Int} (h : 0 ≤ n ∧ n < m) : inB n m = true := decide_eq_true h
theorem in_f {n m : Int} (h : ¬ (0 ≤ n ∧ n < m)) : inB n m = false := decide_eq_false h

theorem kind_any (op : Int) (w : World) (hl : Laid w) :
    Calls Tryd.prog 32 #[.int .i64 op] w fun e w' => e = .returned (.int .i64 (kindI op)) ∧ w = w' := by
  by_cases h : 0 ≤ op ∧ op < 46
  · obtain ⟨k, rfl⟩ : ∃ k : Nat, op = (k : Int) := ⟨op.toNat, by omega⟩
    have hk : k < 46 := by omega
    have hc := (hl.2 k hk).2
    have hi := in_t h
    have H := Lib.hid (kind_in hk)
    clear h hl
    go_enter Tryd.func32, Tryd.ntmps32
    go_wp2_with (go_at_call 76; refine (within_any _ _ _).mono ?_; rw [hi]; rintro e w' ⟨rfl, rfl⟩)
    go_ret
    exact ⟨ret_int H.out.symm, rfl⟩
  · have hi := in_f h
    have H := Lib.hid (kind_out h)
    clear h hl
    go_enter Tryd.func32, Tryd.ntmps32
    go_wp2_with (go_at_call 76; refine (within_any _ _ _).mono ?_; rw [hi]; rintro e w' ⟨rfl, rfl⟩)
    go_ret
    exact ⟨ret_int H.out.symm, rfl⟩

theorem name_any (op : Int) (w : World) (hl : Laid w) :
    Calls Tryd.prog 34 #[.int .i64 op] w fun e w' => e = .returned (.string ⟨(nameI op).toArray⟩) ∧ w = w' := by
  by_cases h : 0 ≤ op ∧ op < 46
  · obtain ⟨k, rfl⟩ : ∃ k : Nat, op = (k : Int) := ⟨op.toNat, by omega⟩
    have hk : k < 46 := by omega
    have hc := (hl.2 k hk).1
    have hi := in_t h
    have H := Lib.hid (name_in hk)
    clear h hl
    go_enter Tryd.func34, Tryd.ntmps34
    go_wp2_with (go_at_call 76; refine (within_any _ _ _).mono ?_; rw [hi]; rintro e w' ⟨rfl, rfl⟩)
    go_ret
    exact ⟨ret_str H.out.symm, rfl⟩
  · have hi := in_f h
    have H := Lib.hid (name_out h)
    clear h hl
    go_enter Tryd.func34, Tryd.ntmps34
    go_wp2_with (go_at_call 76; refine (within_any _ _ _).mono ?_; rw [hi]; rintro e w' ⟨rfl, rfl⟩)
    go_ret
    exact ⟨ret_str H.out.symm, rfl⟩

theorem eq_mk (a b : List UInt8) : ((a == b) = true) ↔ a = b := by simp

set_option maxRecDepth 100000 in
theorem find_any (s : List UInt8) (w : World) (hl : Laid w) :
    Calls Tryd.prog 36 #[.string ⟨s.toArray⟩] w fun e w' => e = .returned (.int .i64 (findI s)) ∧ w = w' := by
  have Hl := Lib.hid hl
  clear hl
  go_enter Tryd.func36, Tryd.ntmps36
  go_wp2
  go_loop [3, 4] (fun _ i => ∃ k : Nat, k ≤ 46 ∧ i = .int .i64 k ∧ Hid (∀ j, j < k → nameN j ≠ s)) (fun _ i => 46 - (intOf i).toNat)
  case atStart => exact ⟨0, by omega, rfl, Lib.hid (fun j hj => absurd hj (by omega))⟩
  case round =>
    obtain ⟨k, hk, rfl, hb⟩ := hrel
    by_cases hlt : k < 46
    · have hc := (Hl.out.2 k hlt).1
      cases he : (nameN k == s)
      · have hne : nameN k ≠ s := by simpa using he
        have hb2 : Hid (∀ j, j < k + 1 → nameN j ≠ s) := Lib.hid (fun j hj => by
          rcases Nat.lt_succ_iff_lt_or_eq.1 hj with h | h
          · exact hb.out j h
          · subst h; exact hne)
        clear hne
        go_wp2
        go_round
        case rel => exact ⟨k + 1, by omega, by go_num, hb2⟩
        case measure => simp [intOf]; omega
      · have H := Lib.hid (find_at hlt hb.out (by simpa using he))
        go_wp2
        go_ret
        exact ⟨ret_int H.out.symm, rfl⟩
    · have H := Lib.hid (find_none (s := s) (fun j hj => hb.out j (by omega)))
      go_wp2
      go_ret
      exact ⟨ret_int H.out.symm, rfl⟩

end InsA
end Go.Proofs.YtaekdgbbopcpbaaDoor
