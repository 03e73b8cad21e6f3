/-
  Law ArithParts: a number is another one times the first by the other, and what is left, that has its sign and is less.
-/
import Derived.Test.YtlboafmofhkacaaArK
import Derived.OpenShut
namespace Go.Proofs.Ytlboafmofhkacaa
namespace WArithParts
open Go.RowKit BinM Base ArM ArC

/-- nearer to 0, as the law tells it -/
def lessB (r b : Int) : Bool := decide ((if 0 < b then -b else b) < (if 0 < r then -r else r))

theorem less_any (r b : Int) (w : World) (hr0 : -9223372036854775808 ≤ r) (hr1 : r ≤ 9223372036854775807) (hb0 : -9223372036854775808 ≤ b) (hb1 : b ≤ 9223372036854775807) :
    Calls Try.prog 16 #[.int .i64 r, .int .i64 b] w fun e w' => e = .returned (.bool (lessB r b)) ∧ w = w' := by
  by_cases h : 0 < r
  · by_cases g : 0 < b
    · have hE := Lib.hid (show lessB r b = decide (r < b) by unfold lessB; rw [if_pos h, if_pos g]; congr 1; exact propext (by omega))
      go_enter Try.func16, Try.ntmps16
      go_wp2
      go_ret
      exact ⟨by rw [hE.out]; rfl, rfl⟩
    · have hE := Lib.hid (show lessB r b = decide (b < -r) by unfold lessB; rw [if_pos h, if_neg g])
      go_enter Try.func16, Try.ntmps16
      go_wp2
      go_ret
      exact ⟨by rw [hE.out]; rfl, rfl⟩
  · by_cases g : 0 < b
    · have hE := Lib.hid (show lessB r b = decide (-b < r) by unfold lessB; rw [if_neg h, if_pos g])
      go_enter Try.func16, Try.ntmps16
      go_wp2
      go_ret
      exact ⟨by rw [hE.out]; rfl, rfl⟩
    · have hE := Lib.hid (show lessB r b = decide (b < r) by unfold lessB; rw [if_neg h, if_neg g])
      go_enter Try.func16, Try.ntmps16
      go_wp2
      go_ret
      exact ⟨by rw [hE.out]; rfl, rfl⟩

theorem parts (a b : Int) (ha : -9223372036854775808 ≤ a ∧ a ≤ 9223372036854775807) : W (W (W (a.tdiv b) * b) + a.tmod b) = a := by
  have h := Int.tdiv_mul_add_tmod a b
  have e : W (W (W (a.tdiv b) * b) + a.tmod b) = W (a.tdiv b * b + a.tmod b) := by
    generalize a.tdiv b = q
    generalize a.tmod b = r
    have e1 : ∃ k, W q = q + k * 18446744073709551616 := ⟨(W q - q) / 18446744073709551616, by simp only [W_eq]; omega⟩
    obtain ⟨k, hk⟩ := e1
    rw [hk, Int.add_mul, Int.mul_right_comm]
    generalize q * b = x
    generalize k * b = y
    simp only [W_eq]
    omega
  rw [e, h]
  exact W_in a ha.1 ha.2

theorem rem_less (a b : Int) (hb : b ≠ 0) : lessB (a.tmod b) b = true := by
  have h := Int.tmod_lt_of_pos
  unfold lessB
  rw [decide_eq_true_eq]
  have h1 : (a.tmod b).natAbs < b.natAbs := by rw [Int.natAbs_tmod]; exact Nat.mod_lt _ (by omega)
  split <;> split <;> omega
theorem tmod_nonpos' (a b : Int) (h : a ≤ 0) : a.tmod b ≤ 0 := by
  have := Int.tmod_nonneg b (show 0 ≤ -a by omega)
  rw [Int.neg_tmod] at this
  omega
theorem rem_sign (a b : Int) (h : a.tmod b ≠ 0) : decide (a.tmod b < 0) = decide (a < 0) := by
  by_cases h0 : a < 0
  · have := tmod_nonpos' a b (by omega)
    rw [decide_eq_true h0, decide_eq_true_eq]; omega
  · have := Int.tmod_nonneg b (by omega : 0 ≤ a)
    rw [decide_eq_false (by omega : ¬ a < 0), decide_eq_false_iff_not]; omega
theorem rem_fit (a b : Int) (ha : -9223372036854775808 ≤ a ∧ a ≤ 9223372036854775807) : -9223372036854775808 ≤ a.tmod b ∧ a.tmod b ≤ 9223372036854775807 := by
  have h1 : (a.tmod b).natAbs ≤ a.natAbs := by rw [Int.natAbs_tmod]; exact Nat.mod_le _ _
  by_cases h0 : a < 0
  · have := tmod_nonpos' a b (by omega); omega
  · have := Int.tmod_nonneg b (by omega : 0 ≤ a); omega

set_option maxHeartbeats 1000000 in
theorem walk (a0 : Int) (a1 : Int) (w : World) (w0 : (Lit.int .i64 a0).wf = true) (w1 : (Lit.int .i64 a1).wf = true) :
    Calls Try.prog 5 #[.int .i64 a0, .int .i64 a1] w fun e w' => e = .returned (.bool true) ∧ Below w.heap.size w w' := by
  have hf := bounds_i64 w0
  have hg := bounds_i64 w1
  have HK := Lib.hid (ArK.known_any)
  have h13 : ∀ a b : Int, doE 13 a b = shareE 13 a b := fun a b => rfl
  have h14 : ∀ a b : Int, doE 14 a b = shareE 14 a b := fun a b => rfl
  have h12 : ∀ a b : Int, doE 12 a b = (W (a * b), 0) := fun a b => rfl
  have h10 : ∀ a b : Int, doE 10 a b = (W (a + b), 0) := fun a b => rfl
  by_cases hz : a1 = 0
  · subst hz
    have H1 := Lib.hid (fun w => do_any 13 a0 0 w)
    have H2 := Lib.hid (fun w => do_any 14 a0 0 w)
    rw [h13, show shareE 13 a0 0 = (0, 28) from rfl] at H1
    rw [h14, show shareE 14 a0 0 = (0, 28) from rfl] at H2
    clear h13 h14 h12 h10 w0 w1
    go_enter Try.func5, Try.ntmps5
    go_wp2_with (first
      | (go_at_call 7; ((with_reducible refine (H1.out _).mono ?_); rintro e w' ⟨rfl, rfl⟩))
      | (go_at_call 7; ((with_reducible refine (H2.out _).mono ?_); rintro e w' ⟨rfl, rfl⟩))
      | (go_at_call 9; ((with_reducible refine (HK.out _).mono ?_); rintro e w1 ⟨rfl, hb⟩)))
    go_ret
    exact ⟨rfl, hb⟩
  · have hp := parts a0 a1 hf
    have hl := rem_less a0 a1 hz
    have hs := rem_sign a0 a1
    have hr := rem_fit a0 a1 hf
    have H1 := Lib.hid (fun w => do_any 13 a0 a1 w)
    have H2 := Lib.hid (fun w => do_any 14 a0 a1 w)
    have H3 := Lib.hid (fun w => do_any 12 (W (a0.tdiv a1)) a1 w)
    have H4 := Lib.hid (fun w => do_any 10 (W (W (a0.tdiv a1) * a1)) (a0.tmod a1) w)
    have H5 := Lib.hid (fun w => less_any (a0.tmod a1) a1 w hr.1 hr.2 hg.1 hg.2)
    rw [h13, show shareE 13 a0 a1 = (W (a0.tdiv a1), 0) by unfold shareE; rw [if_neg hz, if_pos rfl]] at H1
    rw [h14, show shareE 14 a0 a1 = (a0.tmod a1, 0) by unfold shareE; rw [if_neg hz, if_neg (by decide)]] at H2
    rw [h12] at H3
    rw [h10, hp] at H4
    rw [hl] at H5
    have hzb : (a1 == 0) = false := by simpa using hz
    generalize W (W (a0.tdiv a1) * a1) = p at *
    generalize W (a0.tdiv a1) = q at *
    generalize a0.tmod a1 = r at *
    clear h13 h14 h12 h10 w0 w1 hp hl hz hf hg hr
    by_cases h0 : r = 0
    · subst h0
      clear hs
      go_enter Try.func5, Try.ntmps5
      go_wp2_with (first
        | (go_at_call 7; ((with_reducible refine (H1.out _).mono ?_); rintro e w' ⟨rfl, rfl⟩))
        | (go_at_call 7; ((with_reducible refine (H2.out _).mono ?_); rintro e w' ⟨rfl, rfl⟩))
        | (go_at_call 7; ((with_reducible refine (H3.out _).mono ?_); rintro e w' ⟨rfl, rfl⟩))
        | (go_at_call 7; ((with_reducible refine (H4.out _).mono ?_); rintro e w' ⟨rfl, rfl⟩))
        | (go_at_call 16; ((with_reducible refine (H5.out _).mono ?_); rintro e w' ⟨rfl, rfl⟩))
        | (go_at_call 9; ((with_reducible refine (HK.out _).mono ?_); rintro e w1 ⟨rfl, hb⟩)))
      go_ret
      exact ⟨rfl, hb⟩
    · have hs' := Lib.hid (hs h0)
      have h0' : (r == 0) = false := by simpa using h0
      have hs2 : (decide (r < 0) == decide (a0 < 0)) = true := by rw [hs'.out]; simp
      clear hs h0
      go_enter Try.func5, Try.ntmps5
      go_wp2_with (first
        | (go_at_call 7; ((with_reducible refine (H1.out _).mono ?_); rintro e w' ⟨rfl, rfl⟩))
        | (go_at_call 7; ((with_reducible refine (H2.out _).mono ?_); rintro e w' ⟨rfl, rfl⟩))
        | (go_at_call 7; ((with_reducible refine (H3.out _).mono ?_); rintro e w' ⟨rfl, rfl⟩))
        | (go_at_call 7; ((with_reducible refine (H4.out _).mono ?_); rintro e w' ⟨rfl, rfl⟩))
        | (go_at_call 16; ((with_reducible refine (H5.out _).mono ?_); rintro e w' ⟨rfl, rfl⟩))
        | (go_at_call 9; ((with_reducible refine (HK.out _).mono ?_); rintro e w1 ⟨rfl, hb⟩)))
      go_ret
      exact ⟨rfl, hb⟩

end WArithParts
end Go.Proofs.Ytlboafmofhkacaa
