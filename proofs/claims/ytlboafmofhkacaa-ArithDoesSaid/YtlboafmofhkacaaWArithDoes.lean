/-
  Law ArithDoes: what any instruction makes of any two numbers is what the document says.
-/
import Derived.Test.YtlboafmofhkacaaArK
namespace Go.Proofs.Ytlboafmofhkacaa
namespace WArithDoes
open Go.RowKit BinM Base ArM ArC

set_option maxHeartbeats 1000000 in
theorem walk (a0 : Int) (a1 : Int) (a2 : Int) (w : World) (_w0 : (Lit.int .i64 a0).wf = true) (_w1 : (Lit.int .i64 a1).wf = true) (_w2 : (Lit.int .i64 a2).wf = true) :
    Calls Try.prog 3 #[.int .i64 a0, .int .i64 a1, .int .i64 a2] w fun e w' => e = .returned (.bool true) ∧ Below w.heap.size w w' := by
  have HK := Lib.hid (ArK.known_any)
  have H1 := Lib.hid (fun w => do_any a0 a1 a2 w)
  have H2 := Lib.hid (fun w => refDo_any a0 a1 a2 w)
  generalize doE a0 a1 a2 = r at *
  obtain ⟨x, y⟩ := r
  go_enter Try.func3, Try.ntmps3
  go_wp2_with (first
    | (go_at_call 7; ((with_reducible refine (H1.out _).mono ?_); rintro e w' ⟨rfl, rfl⟩))
    | (go_at_call 8; ((with_reducible refine (H2.out _).mono ?_); rintro e w' ⟨rfl, rfl⟩))
    | (go_at_call 9; ((with_reducible refine (HK.out _).mono ?_); rintro e w1 ⟨rfl, hb⟩)))
  go_ret
  exact ⟨rfl, hb⟩

end WArithDoes
end Go.Proofs.Ytlboafmofhkacaa
