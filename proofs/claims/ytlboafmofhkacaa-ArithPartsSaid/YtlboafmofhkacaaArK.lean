/-
  What must come of law 14's fixed calls: it comes.
-/
import Derived.Test.YtlboafmofhkacaaArR
namespace Go.Proofs.Ytlboafmofhkacaa
namespace ArK
open Go.RowKit BinM Base ArM ArC ArT ArR

theorem d0 : doE 12 4611686018427387904 4 = (0, 0) := by kernel_rfl
theorem d1 : doE 14 (-7) 2 = (-1, 0) := by kernel_rfl
theorem r0 : readE [45, 48] = (0, 5) := by kernel_rfl
theorem t0 : txt (-12) = [45, 49, 50] := by kernel_rfl
theorem s0 : showE 1 = [116, 114, 117, 101] := by kernel_rfl

set_option maxHeartbeats 1000000 in
theorem known_any (w : World) : Calls Try.prog 9 #[] w fun e w' => e = .returned (.bool true) ∧ Below w.heap.size w w' := by
  have H1 := Lib.hid (fun w => do_any 12 4611686018427387904 4 w)
  have H2 := Lib.hid (fun w => do_any 14 (-7) 2 w)
  have H3 := Lib.hid (fun w => read_any [45, 48] w (by decide))
  have H4 := Lib.hid (fun w => text_any (-12) w (by omega) (by omega))
  have H5 := Lib.hid (fun w => show_any 1 w)
  rw [d0] at H1
  rw [d1] at H2
  rw [r0] at H3
  rw [t0] at H4
  rw [s0] at H5
  go_enter Try.func9, Try.ntmps9
  go_wp2_with (first
    | (go_at_call 7; ((with_reducible refine (H1.out _).mono ?_); rintro e w' ⟨rfl, rfl⟩))
    | (go_at_call 7; ((with_reducible refine (H2.out _).mono ?_); rintro e w' ⟨rfl, rfl⟩))
    | (go_at_call 10; ((with_reducible refine (H3.out _).mono ?_); rintro e w1 ⟨rfl, hb1⟩))
    | (go_at_call 12; ((with_reducible refine (H4.out _).mono ?_); rintro e w2 ⟨rfl, hb2⟩))
    | (go_at_call 14; ((with_reducible refine (H5.out _).mono ?_); rintro e w' ⟨rfl, rfl⟩)))
  go_ret
  exact ⟨rfl, hb1.trans (hb2.mono hb1.size)⟩

end ArK
end Go.Proofs.Ytlboafmofhkacaa
