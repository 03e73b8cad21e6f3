/-
  What instructions make of numbers, the program's answer and the document's: contracts of all small functions of arith.
-/
import Derived.Test.YtlboafmofhkacaaChecked
import Derived.Test.YtlboafmofhkacaaArM
import Derived.Test.YtlboafmofhkacaaBinM
import Derived.WalkKit
import Derived.Outline
import Derived.IntWalk
namespace Go.Proofs.Ytlboafmofhkacaa
namespace ArC
open Go.RowKit BinM Base ArM

theorem ret_int {k : IntKind} {a b : Int} (h : a = b) : Ending.returned (.int k a) = .returned (.int k b) := by rw [h]
theorem ret_pair {p : Int × Int} {a b : Int} (h : p = (a, b)) : Ending.returned (.tuple #[.int .i64 a, .int .i64 b]) = .returned (.tuple #[.int .i64 p.1, .int .i64 p.2]) := by rw [h]

theorem truth_any (b : Bool) (w : World) : Calls Try.prog 18 #[.bool b] w fun e w' => e = .returned (.int .i64 (tr b)) ∧ w = w' := by
  cases b
  all_goals
    go_enter Try.func18, Try.ntmps18
    go_wp2
    go_ret
    exact ⟨rfl, rfl⟩
theorem refTruth_any (b : Bool) (w : World) : Calls Try.prog 20 #[.bool b] w fun e w' => e = .returned (.int .i64 (tr b)) ∧ w = w' := by
  cases b
  all_goals
    go_enter Try.func20, Try.ntmps20
    go_wp2
    go_ret
    exact ⟨rfl, rfl⟩

/-- text of a truth -/
def showE (v : Int) : List UInt8 := if v = 1 then [116, 114, 117, 101] else [102, 97, 108, 115, 101]
theorem show_any (v : Int) (w : World) : Calls Try.prog 14 #[.int .i64 v] w fun e w' => e = .returned (.string ⟨(showE v).toArray⟩) ∧ w = w' := by
  by_cases h : v = 1
  · subst h
    go_enter Try.func14, Try.ntmps14
    go_wp2
    go_ret
    exact ⟨rfl, rfl⟩
  · have hE := Lib.hid (show showE v = [102, 97, 108, 115, 101] by unfold showE; rw [if_neg h])
    have hb : (v == 1) = false := by simpa using h
    go_enter Try.func14, Try.ntmps14
    go_wp2
    go_ret
    exact ⟨by rw [hE.out]; rfl, rfl⟩
theorem refShow_any (v : Int) (w : World) : Calls Try.prog 15 #[.int .i64 v] w fun e w' => e = .returned (.string ⟨(showE v).toArray⟩) ∧ w = w' := by
  by_cases h : v = 1
  · subst h
    go_enter Try.func15, Try.ntmps15
    go_wp2
    go_ret
    exact ⟨rfl, rfl⟩
  · have hE := Lib.hid (show showE v = [102, 97, 108, 115, 101] by unfold showE; rw [if_neg h])
    have hb : (v == 1) = false := by simpa using h
    go_enter Try.func15, Try.ntmps15
    go_wp2
    go_ret
    exact ⟨by rw [hE.out]; rfl, rfl⟩

/-- share, and the document's divide: of Div (13) and Rem (14) -/
theorem share_any (op a b : Int) (w : World) (ho : op = 13 ∨ op = 14) : Calls Try.prog 17 #[.int .i64 op, .int .i64 a, .int .i64 b] w fun e w' => e = .returned (.tuple #[.int .i64 (shareE op a b).1, .int .i64 (shareE op a b).2]) ∧ w = w' := by
  by_cases h : b = 0
  · subst h
    have hE := Lib.hid (show shareE op a 0 = (0, 28) by unfold shareE; rw [if_pos rfl])
    go_enter Try.func17, Try.ntmps17
    go_wp2
    go_ret2
    exact ⟨ret_pair hE.out, rfl⟩
  · have hb : (b == 0) = false := by simpa using h
    rcases ho with rfl | rfl
    · have hE := Lib.hid (show shareE 13 a b = (W (a.tdiv b), 0) by unfold shareE; rw [if_neg h, if_pos rfl])
      go_enter Try.func17, Try.ntmps17
      go_wp2
      go_ret2
      exact ⟨ret_pair hE.out, rfl⟩
    · have hE := Lib.hid (show shareE 14 a b = (a.tmod b, 0) by unfold shareE; rw [if_neg h, if_neg (by decide)])
      go_enter Try.func17, Try.ntmps17
      go_wp2
      go_ret2
      exact ⟨ret_pair hE.out, rfl⟩

theorem divide_any (op a b : Int) (w : World) (ho : op = 13 ∨ op = 14) : Calls Try.prog 19 #[.int .i64 op, .int .i64 a, .int .i64 b] w fun e w' => e = .returned (.tuple #[.int .i64 (shareE op a b).1, .int .i64 (shareE op a b).2]) ∧ w = w' := by
  by_cases h : b = 0
  · subst h
    have hE := Lib.hid (show shareE op a 0 = (0, 28) by unfold shareE; rw [if_pos rfl])
    go_enter Try.func19, Try.ntmps19
    go_wp2
    go_ret2
    exact ⟨ret_pair hE.out, rfl⟩
  · have hb : (b == 0) = false := by simpa using h
    by_cases h1 : b = -1
    · subst h1
      rcases ho with rfl | rfl
      · have hE := Lib.hid (show shareE 13 a (-1) = (W (-a), 0) by
          unfold shareE; rw [if_neg (by decide), if_pos rfl, show a.tdiv (-1) = -a by rw [Int.tdiv_neg, Int.tdiv_one]])
        go_enter Try.func19, Try.ntmps19
        go_wp2
        go_ret2
        exact ⟨ret_pair hE.out, rfl⟩
      · have hE := Lib.hid (show shareE 14 a (-1) = (0, 0) by
          unfold shareE; rw [if_neg (by decide), if_neg (by decide), show a.tmod (-1) = 0 by rw [Int.tmod_neg, Int.tmod_one]])
        go_enter Try.func19, Try.ntmps19
        go_wp2
        go_ret2
        exact ⟨ret_pair hE.out, rfl⟩
    · have hb1 : (b == -1) = false := by simpa using h1
      rcases ho with rfl | rfl
      · have hE := Lib.hid (show shareE 13 a b = (W (a.tdiv b), 0) by unfold shareE; rw [if_neg h, if_pos rfl])
        go_enter Try.func19, Try.ntmps19
        go_wp2
        go_ret2
        exact ⟨ret_pair hE.out, rfl⟩
      · have hE := Lib.hid (show shareE 14 a b = (a.tmod b, 0) by unfold shareE; rw [if_neg h, if_neg (by decide)])
        go_enter Try.func19, Try.ntmps19
        go_wp2
        go_ret2
        exact ⟨ret_pair hE.out, rfl⟩

theorem op_cases (op : Int) : op = 10 ∨ op = 11 ∨ op = 12 ∨ op = 13 ∨ op = 14 ∨ op = 15 ∨ op = 16 ∨ op = 17 ∨ op = 18 ∨ op = 19 ∨ op = 20 ∨ op = 21 ∨ (op ≠ 10 ∧ op ≠ 11 ∧ op ≠ 12 ∧ op ≠ 13 ∧ op ≠ 14 ∧ op ≠ 15 ∧ op ≠ 16 ∧ op ≠ 17 ∧ op ≠ 18 ∧ op ≠ 19 ∧ op ≠ 20 ∧ op ≠ 21) := by omega

theorem W_W (x : Int) : W (W x) = W x := by simp only [W_eq]; omega

set_option maxHeartbeats 1000000 in
theorem do_any (op a b : Int) (w : World) : Calls Try.prog 7 #[.int .i64 op, .int .i64 a, .int .i64 b] w fun e w' => e = .returned (.tuple #[.int .i64 (doE op a b).1, .int .i64 (doE op a b).2]) ∧ w = w' := by
  rcases op_cases op with rfl | rfl | rfl | rfl | rfl | rfl | rfl | rfl | rfl | rfl | rfl | rfl | ⟨h0, h1, h2, h3, h4, h5, h6, h7, h8, h9, h10, h11⟩
  case inr.inr.inr.inl =>
    go_enter Try.func7, Try.ntmps7
    go_wp2_with (go_at_call 17; refine (share_any _ _ _ _ (.inl rfl)).mono ?_; rintro e w' ⟨rfl, rfl⟩)
    go_ret2
    exact ⟨rfl, rfl⟩
  case inr.inr.inr.inr.inl =>
    go_enter Try.func7, Try.ntmps7
    go_wp2_with (go_at_call 17; refine (share_any _ _ _ _ (.inr rfl)).mono ?_; rintro e w' ⟨rfl, rfl⟩)
    go_ret2
    exact ⟨rfl, rfl⟩
  case inr.inr.inr.inr.inr.inr.inr.inr.inr.inr.inr.inr =>
    have hE := Lib.hid (show doE op a b = (0, 12) by unfold doE; simp only [if_neg h0, if_neg h1, if_neg h2, h3, h4, if_neg h5, if_neg h6, if_neg h7, if_neg h8, h9, h10, h11, or_self, if_false])
    have g0 : (op == 10) = false := by simpa using h0
    have g1 : (op == 11) = false := by simpa using h1
    have g2 : (op == 12) = false := by simpa using h2
    have g3 : (op == 13) = false := by simpa using h3
    have g4 : (op == 14) = false := by simpa using h4
    have g5 : (op == 15) = false := by simpa using h5
    have g6 : (op == 16) = false := by simpa using h6
    have g7 : (op == 17) = false := by simpa using h7
    have g8 : (op == 18) = false := by simpa using h8
    have g9 : (op == 19) = false := by simpa using h9
    have g10 : (op == 20) = false := by simpa using h10
    have g11 : (op == 21) = false := by simpa using h11
    clear h0 h1 h2 h3 h4 h5 h6 h7 h8 h9 h10 h11
    go_enter Try.func7, Try.ntmps7
    go_wp2
    go_ret2
    exact ⟨ret_pair hE.out, rfl⟩
  all_goals
    go_enter Try.func7, Try.ntmps7
    go_wp2_with (go_at_call 18; refine (truth_any _ _).mono ?_; rintro e w' ⟨rfl, rfl⟩)
    go_ret2
    exact ⟨rfl, rfl⟩

set_option maxHeartbeats 1000000 in
theorem refDo_any (op a b : Int) (w : World) : Calls Try.prog 8 #[.int .i64 op, .int .i64 a, .int .i64 b] w fun e w' => e = .returned (.tuple #[.int .i64 (doE op a b).1, .int .i64 (doE op a b).2]) ∧ w = w' := by
  rcases op_cases op with rfl | rfl | rfl | rfl | rfl | rfl | rfl | rfl | rfl | rfl | rfl | rfl | ⟨h0, h1, h2, h3, h4, h5, h6, h7, h8, h9, h10, h11⟩
  case inr.inr.inl =>
    have hm := Lib.hid (W_mul a b)
    go_enter Try.func8, Try.ntmps8
    go_wp2
    go_ret2
    exact ⟨ret_pair (p := doE 12 a b) (by show (W (a * b), 0) = _; rw [← hm.out]; simp only [IntKind.wrap_u64]), rfl⟩
  case inr.inr.inr.inl =>
    go_enter Try.func8, Try.ntmps8
    go_wp2_with (go_at_call 19; refine (divide_any _ _ _ _ (.inl rfl)).mono ?_; rintro e w' ⟨rfl, rfl⟩)
    go_ret2
    exact ⟨rfl, rfl⟩
  case inr.inr.inr.inr.inl =>
    go_enter Try.func8, Try.ntmps8
    go_wp2_with (go_at_call 19; refine (divide_any _ _ _ _ (.inr rfl)).mono ?_; rintro e w' ⟨rfl, rfl⟩)
    go_ret2
    exact ⟨rfl, rfl⟩
  case inr.inr.inr.inr.inr.inl =>
    have hE := Lib.hid (show doE 15 a b = (W (-a), 0) from rfl)
    go_enter Try.func8, Try.ntmps8
    go_wp2
    go_ret2
    exact ⟨ret_pair hE.out, rfl⟩
  case inr.inr.inr.inr.inr.inr.inr.inr.inr.inr.inr.inr =>
    have hE := Lib.hid (show doE op a b = (0, 12) by unfold doE; simp only [if_neg h0, if_neg h1, if_neg h2, h3, h4, if_neg h5, if_neg h6, if_neg h7, if_neg h8, h9, h10, h11, or_self, if_false])
    have g0 : (op == 10) = false := by simpa using h0
    have g1 : (op == 11) = false := by simpa using h1
    have g2 : (op == 12) = false := by simpa using h2
    have g3 : (op == 13) = false := by simpa using h3
    have g4 : (op == 14) = false := by simpa using h4
    have g5 : (op == 15) = false := by simpa using h5
    have g6 : (op == 16) = false := by simpa using h6
    have g7 : (op == 17) = false := by simpa using h7
    have g8 : (op == 18) = false := by simpa using h8
    have g9 : (op == 19) = false := by simpa using h9
    have g10 : (op == 20) = false := by simpa using h10
    have g11 : (op == 21) = false := by simpa using h11
    clear h0 h1 h2 h3 h4 h5 h6 h7 h8 h9 h10 h11
    go_enter Try.func8, Try.ntmps8
    go_wp2
    go_ret2
    exact ⟨ret_pair hE.out, rfl⟩
  all_goals
    go_enter Try.func8, Try.ntmps8
    go_wp2_with (go_at_call 20; refine (refTruth_any _ _).mono ?_; rintro e w' ⟨rfl, rfl⟩)
    go_ret2
    exact ⟨rfl, rfl⟩

end ArC
end Go.Proofs.Ytlboafmofhkacaa
