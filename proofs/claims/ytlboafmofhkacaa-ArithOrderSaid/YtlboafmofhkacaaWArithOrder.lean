/-
  Law ArithOrder: of two numbers just one is below the other, or they are one; a truth turned twice is itself.
-/
import Derived.Test.YtlboafmofhkacaaArK
namespace Go.Proofs.Ytlboafmofhkacaa
namespace WArithOrder
open Go.RowKit BinM Base ArM ArC

set_option maxHeartbeats 1000000 in
theorem walk (a0 : Int) (a1 : Int) (w : World) (_w0 : (Lit.int .i64 a0).wf = true) (_w1 : (Lit.int .i64 a1).wf = true) :
    Calls Try.prog 6 #[.int .i64 a0, .int .i64 a1] w fun e w' => e = .returned (.bool true) ∧ Below w.heap.size w w' := by
  have HK := Lib.hid (ArK.known_any)
  have h17 : ∀ a b : Int, doE 17 a b = (tr (decide (a < b)), 0) := fun a b => rfl
  have h19 : ∀ a b : Int, doE 19 a b = (tr (a == b), 0) := fun a b => rfl
  have h18 : ∀ a b : Int, doE 18 a b = (tr (decide (a ≤ b)), 0) := fun a b => rfl
  have h16 : ∀ a b : Int, doE 16 a b = (tr (a == 0), 0) := fun a b => rfl
  have key : ∀ x y z u : Bool, decide (a0 < a1) = x → decide (a1 < a0) = y → (a0 == a1) = z → decide (a0 ≤ a1) = u → Calls Try.prog 6 #[.int .i64 a0, .int .i64 a1] w fun e w' => e = .returned (.bool true) ∧ Below w.heap.size w w' := by
    intro x y z u hx hy hz hu
    have H1 := Lib.hid (fun w => do_any 17 a0 a1 w)
    have H2 := Lib.hid (fun w => do_any 17 a1 a0 w)
    have H3 := Lib.hid (fun w => do_any 19 a0 a1 w)
    have H4 := Lib.hid (fun w => do_any 18 a0 a1 w)
    have H5 := Lib.hid (fun w => do_any 16 (tr z) 0 w)
    have H6 := Lib.hid (fun w => do_any 16 (tr (!z)) 0 w)
    rw [h17, hx] at H1
    rw [h17, hy] at H2
    rw [h19, hz] at H3
    rw [h18, hu] at H4
    rw [h16, show tr (tr z == 0) = tr (!z) by cases z <;> rfl] at H5
    rw [h16, show tr (tr (!z) == 0) = tr z by cases z <;> rfl] at H6
    have hxyz : (x = true ∧ y = false ∧ z = false ∧ u = true) ∨ (x = false ∧ y = true ∧ z = false ∧ u = false) ∨ (x = false ∧ y = false ∧ z = true ∧ u = true) := by
      subst hx; subst hy; subst hz; subst hu
      rcases Int.lt_trichotomy a0 a1 with h | h | h
      · left; simp; omega
      · right; right; subst h; simp
      · right; left; simp; omega
    clear h17 h19 h18 h16 hx hy hz hu
    rcases hxyz with ⟨rfl, rfl, rfl, rfl⟩ | ⟨rfl, rfl, rfl, rfl⟩ | ⟨rfl, rfl, rfl, rfl⟩
    all_goals
      simp only [tr, Bool.not_true, Bool.not_false, if_true, if_false, Bool.false_eq_true] at H1 H2 H3 H4 H5 H6
      go_enter Try.func6, Try.ntmps6
      go_wp2_with (first
        | (go_at_call 7; ((with_reducible refine (H1.out _).mono ?_); rintro e w' ⟨rfl, rfl⟩))
        | (go_at_call 7; ((with_reducible refine (H2.out _).mono ?_); rintro e w' ⟨rfl, rfl⟩))
        | (go_at_call 7; ((with_reducible refine (H3.out _).mono ?_); rintro e w' ⟨rfl, rfl⟩))
        | (go_at_call 7; ((with_reducible refine (H4.out _).mono ?_); rintro e w' ⟨rfl, rfl⟩))
        | (go_at_call 7; ((with_reducible refine (H5.out _).mono ?_); rintro e w' ⟨rfl, rfl⟩))
        | (go_at_call 7; ((with_reducible refine (H6.out _).mono ?_); rintro e w' ⟨rfl, rfl⟩))
        | (go_at_call 9; ((with_reducible refine (HK.out _).mono ?_); rintro e w1 ⟨rfl, hb⟩)))
      go_ret
      exact ⟨rfl, hb⟩
  exact key _ _ _ _ rfl rfl rfl rfl

end WArithOrder
end Go.Proofs.Ytlboafmofhkacaa
