/-
  Law ArithTexts: any number in digits, any digits as a number, and any truth as a word, there and back.
-/
import Derived.Test.YtlboafmofhkacaaArK
import Derived.OpenShut
namespace Go.Proofs.Ytlboafmofhkacaa
namespace WArithTexts
open Go.RowKit BinM Base ArM ArC ArT ArR

set_option maxHeartbeats 1000000 in
theorem walk (a0 : Int) (a1 : ByteArray) (w : World) (w0 : (Lit.int .i64 a0).wf = true) (b1 : a1.size ≤ 140737488351232) :
    Calls Try.prog 4 #[.int .i64 a0, .string a1] w fun e w' => e = .returned (.bool true) ∧ Below w.heap.size w w' := by
  obtain ⟨s, rfl⟩ : ∃ s : List UInt8, a1 = ⟨s.toArray⟩ := ⟨a1.data.toList, by simp⟩
  have hs : s.length ≤ 9223372036854775807 := by have : s.length ≤ 140737488351232 := b1
                                                 omega
  have hf : -9223372036854775808 ≤ a0 ∧ a0 ≤ 9223372036854775807 := bounds_i64 w0
  have HK := Lib.hid (fun v (hv : Below w.heap.size w v) => (ArK.known_any v).mono fun e w' (h : e = .returned (.bool true) ∧ Below v.heap.size v w') => (⟨h.1, hv.trans (h.2.mono hv.size)⟩ : e = .returned (.bool true) ∧ Below w.heap.size w w'))
  have H1 := Lib.hid (fun v (hv : Below w.heap.size w v) => (read_any s v hs).mono fun e w' (h : GivesR v (readE s) e w') => (⟨h.1, hv.trans (h.2.mono hv.size)⟩ : GivesR w (readE s) e w'))
  have H2 := Lib.hid (fun w => refRead_any s w hs)
  have H3 := Lib.hid (fun v (hv : Below w.heap.size w v) => (text_any a0 v hf.1 hf.2).mono fun e w' (h : GivesT v (txt a0) e w') => (⟨h.1, hv.trans (h.2.mono hv.size)⟩ : GivesT w (txt a0) e w'))
  have H4 := Lib.hid (fun w => refText_any a0 w hf.1 hf.2)
  have H5 := Lib.hid (fun v (hv : Below w.heap.size w v) => (read_any (txt a0) v (by have := txt_length a0; omega)).mono fun e w' (h : GivesR v (readE (txt a0)) e w') => (⟨h.1, hv.trans (h.2.mono hv.size)⟩ : GivesR w (readE (txt a0)) e w'))
  have H6 := Lib.hid (fun w => show_any a0 w)
  have H7 := Lib.hid (fun w => refShow_any a0 w)
  rw [← read_eq] at H2
  rw [read_txt a0 hf.1 hf.2] at H5
  generalize readE s = r at *
  obtain ⟨x, y⟩ := r
  generalize showE a0 = sh at *
  have Hs := Lib.hid hs
  clear hf hs b1 w0
  generalize txt a0 = tx at *
  go_enter Try.func4, Try.ntmps4
  go_wp2_with (first
    | (go_at_call 10; ((with_reducible refine (H1.out _ (by first | exact Below.refl _ _ | assumption)).mono ?_); rintro e w1 ⟨rfl, hb1⟩))
    | (go_at_call 10; ((with_reducible refine (H5.out _ (by first | exact Below.refl _ _ | assumption)).mono ?_); rintro e w3 ⟨rfl, hb3⟩))
    | (go_at_call 11; ((with_reducible refine (H2.out _).mono ?_); rintro e w' ⟨rfl, rfl⟩))
    | (go_at_call 13; ((with_reducible refine (H4.out _).mono ?_); rintro e w' ⟨rfl, rfl⟩))
    | (go_at_call 14; ((with_reducible refine (H6.out _).mono ?_); rintro e w' ⟨rfl, rfl⟩))
    | (go_at_call 15; ((with_reducible refine (H7.out _).mono ?_); rintro e w' ⟨rfl, rfl⟩))
    | (go_at_call 9; ((with_reducible refine (HK.out _ (by first | exact Below.refl _ _ | assumption)).mono ?_); rintro e w5 ⟨rfl, hb5⟩))
    | (go_at_call 12; ((with_reducible refine (H3.out _ (by first | exact Below.refl _ _ | assumption)).mono ?_); rintro e w2 ⟨rfl, hb2⟩)))
  go_ret
  exact ⟨rfl, hb5⟩

end WArithTexts
end Go.Proofs.Ytlboafmofhkacaa
