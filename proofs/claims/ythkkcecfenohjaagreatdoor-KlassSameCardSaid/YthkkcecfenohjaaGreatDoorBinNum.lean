/-
  The functions that turn a number into one without a sign and back: what each of them returns, for every number.
-/
import Derived.Test.YthkkcecfenohjaaGreatDoorProg
import Derived.Test.YthkkcecfenohjaaGreatDoorBinM
import Derived.WalkKit
import Derived.LoopTactic
import Derived.WalkSpells
import Derived.Lib.Hide
namespace Go.Proofs.YthkkcecfenohjaaGreatDoor
namespace BinNum
open Go.RowKit BinM

theorem ret_int {k : IntKind} {a b : Int} (h : a = b) : Ending.returned (.int k a) = .returned (.int k b) := by rw [h]
theorem ret_bool {a b : Bool} (h : a = b) : Ending.returned (.bool a) = .returned (.bool b) := by rw [h]

theorem fold_any (n : Int) (w : World) (h0 : -9223372036854775808 ≤ n) (h1 : n ≤ 9223372036854775807) :
    Calls Tryz.prog 152 #[.int .i64 n] w fun e w' => e = .returned (.int .u64 (foldI n)) ∧ w = w' := by
  by_cases h : n < 0
  · go_enter Tryz.func152, Tryz.ntmps152
    go_wp2
    go_ret
    exact ⟨ret_int (by unfold foldI; rw [if_pos h]; omega), rfl⟩
  · go_enter Tryz.func152, Tryz.ntmps152
    go_wp2
    go_ret
    exact ⟨ret_int (by unfold foldI; rw [if_neg (by omega)]), rfl⟩

theorem unfold_any (u : Int) (w : World) (h0 : 0 ≤ u) (h1 : u ≤ 18446744073709551615) :
    Calls Tryz.prog 170 #[.int .u64 u] w fun e w' => e = .returned (.int .i64 (unfoldI u)) ∧ w = w' := by
  by_cases h : u % 2 = 1
  · have hb : (u % 2 == 1) = true := by simp [h]
    go_enter Tryz.func170, Tryz.ntmps170
    go_wp2
    go_ret
    exact ⟨ret_int (by unfold unfoldI; rw [if_pos h]), rfl⟩
  · have hb : (u % 2 == 1) = false := by simp [h]
    go_enter Tryz.func170, Tryz.ntmps170
    go_wp2
    go_ret
    exact ⟨ret_int (by unfold unfoldI; rw [if_neg h]), rfl⟩

theorem lastCan_any (c i : Int) (w : World) (h0 : 0 ≤ c) (h1 : c ≤ 255) (h2 : 0 ≤ i) (h3 : i ≤ 9) :
    Calls Tryz.prog 169 #[.int .u8 c, .int .i64 i] w fun e w' => e = .returned (.bool (lastI c i)) ∧ w = w' := by
  rcases (by omega : (0 < i ∧ c ≤ 0) ∨ (i ≤ 0 ∧ i < 9) ∨ ((0 < i ∧ 0 < c) ∧ i < 9) ∨ (0 < c ∧ i = 9 ∧ c ≤ 1) ∨ (0 < c ∧ i = 9 ∧ 1 < c)) with ⟨ha, hb⟩ | ⟨ha, hb⟩ | ⟨⟨ha, ha'⟩, hb⟩ | ⟨ha, rfl, hb⟩ | ⟨ha, rfl, hb⟩
  all_goals
    first | (have hc : (c == 0) = true := by (simp; omega)) | (have hc : (c == 0) = false := by (simp; omega)) | skip
    go_enter Tryz.func169, Tryz.ntmps169
    go_wp2
    go_ret
    exact ⟨ret_bool (by rw [Bool.eq_iff_iff]; simp [lastI] <;> omega), rfl⟩

end BinNum
end Go.Proofs.YthkkcecfenohjaaGreatDoor
