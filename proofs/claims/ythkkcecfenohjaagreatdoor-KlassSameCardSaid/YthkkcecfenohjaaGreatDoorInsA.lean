/-
  ins.Kind, Name, Find and the document's own answers to them: what each call returns, where the table lies as the program's text lays it.
-/
import Derived.Test.YthkkcecfenohjaaGreatDoorProg
import Derived.Test.YthkkcecfenohjaaGreatDoorBase
import Derived.Test.YthkkcecfenohjaaGreatDoorInsM
import Derived.WalkKit
import Derived.LoopTactic
import Derived.WalkSpells
import Derived.Lib.Hide
namespace Go.Proofs.YthkkcecfenohjaaGreatDoor
namespace InsA
open Go.RowKit InsM Base

/-- a text from its bytes -/
def str (l : List UInt8) : Value := .string ⟨l.toArray⟩

/-- the table lies as the text lays it -/
def Laid (w : World) : Prop := 0 < w.heap.size ∧ ∀ k, k < 46 → w.cell? ⟨0, k * 2, none⟩ = some (.string ⟨(nameN k).toArray⟩) ∧ w.cell? ⟨0, k * 2 + 1, none⟩ = some (.int .i64 (kindN k))

theorem Laid.below {w w' : World} {B : Nat} (h : Laid w) (hb : Below B w w') (hB : 0 < B) : Laid w' :=
  ⟨Nat.lt_of_lt_of_le h.1 hb.size, fun k hk => ⟨(hb.cell (p := ⟨0, k * 2, none⟩) hB).trans (h.2 k hk).1, (hb.cell (p := ⟨0, k * 2 + 1, none⟩) hB).trans (h.2 k hk).2⟩⟩

theorem ret_int {k : IntKind} {a b : Int} (h : a = b) : Ending.returned (.int k a) = .returned (.int k b) := by rw [h]
theorem ret_bool {a b : Bool} (h : a = b) : Ending.returned (.bool a) = .returned (.bool b) := by rw [h]
theorem ret_str {a b : List UInt8} (h : a = b) : Ending.returned (.string ⟨a.toArray⟩) = .returned (.string ⟨b.toArray⟩) := by rw [h]

def inB (n m : Int) : Bool := decide (0 ≤ n ∧ n < m)

theorem within_any (n m : Int) (w : World) :
    Calls Tryz.prog 147 #[.int .i64 n, .int .i64 m] w fun e w' => e = .returned (.bool (inB n m)) ∧ w = w' := by
  by_cases h : 0 ≤ n
  · by_cases h2 : n < m
    all_goals
      go_enter Tryz.func147, Tryz.ntmps147
      go_wp2
      go_ret
      exact ⟨ret_bool (by rw [Bool.eq_iff_iff]; simp [inB]; omega), rfl⟩
  · go_enter Tryz.func147, Tryz.ntmps147
    go_wp2
    go_ret
    exact ⟨ret_bool (by rw [Bool.eq_iff_iff]; simp [inB]; omega), rfl⟩

theorem in_t {n m : Int} (h : 0 ≤ n ∧ n < m) : inB n m = true := decide_eq_true h
theorem in_f {n m : Int} (h : ¬ (0 ≤ n ∧ n < m)) : inB n m = false := decide_eq_false h

theorem kind_any (op : Int) (w : World) (hl : Laid w) :
    Calls Tryz.prog 113 #[.int .i64 op] w fun e w' => e = .returned (.int .i64 (kindI op)) ∧ w = w' := by
  by_cases h : 0 ≤ op ∧ op < 46
  · obtain ⟨k, rfl⟩ : ∃ k : Nat, op = (k : Int) := ⟨op.toNat, by omega⟩
    have hk : k < 46 := by omega
    have hc := (hl.2 k hk).2
    have hi := in_t h
    have H := Lib.hid (kind_in hk)
    clear h hl
    go_enter Tryz.func113, Tryz.ntmps113
    go_wp2_with (go_at_call 147; refine (within_any _ _ _).mono ?_; rw [hi]; rintro e w' ⟨rfl, rfl⟩)
    go_ret
    exact ⟨ret_int H.out.symm, rfl⟩
  · have hi := in_f h
    have H := Lib.hid (kind_out h)
    clear h hl
    go_enter Tryz.func113, Tryz.ntmps113
    go_wp2_with (go_at_call 147; refine (within_any _ _ _).mono ?_; rw [hi]; rintro e w' ⟨rfl, rfl⟩)
    go_ret
    exact ⟨ret_int H.out.symm, rfl⟩


theorem eq_mk (a b : List UInt8) : ((a == b) = true) ↔ a = b := by simp


end InsA
end Go.Proofs.YthkkcecfenohjaaGreatDoor
