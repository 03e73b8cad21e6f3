/-
  Law LockNil: what every call answers where there is no list of holds.
-/
import Derived.Test.YtkjkofdjnjihjaaLkK
namespace Go.Proofs.Ytkjkofdjnjihjaa
namespace WLockNil
open Go.RowKit Base BinM LkM LkF LkK

set_option maxHeartbeats 4000000 in
theorem walk (a0 : Int) (a1 : Int) (w : World) (_ : (Lit.int .i64 a0).wf = true) (_ : (Lit.int .i64 a1).wf = true) :
    Calls Try.prog 6 #[.int .i64 a0, .int .i64 a1] w fun e w' => e = .returned (.bool true) ∧ Below w.heap.size w w' := by
  have lift : ∀ {f : FuncId} {args : Array Value} {r : Value} (v : World) (_ : Below w.heap.size w v), (Calls Try.prog f args v fun e w' => e = .returned r ∧ Below v.heap.size v w') → Calls Try.prog f args v fun e w' => e = .returned r ∧ Below w.heap.size w w' :=
    fun v hv h => h.mono fun e w' h => ⟨h.1, hv.trans (h.2.mono hv.size)⟩
  have HK := Lib.hid (fun v hv => lift v hv (LkK.known_any v))
  have H1 := Lib.hid (fun v hv => lift v hv (ownerN_any v a0))
  have H2 := Lib.hid (fun v => enterN_any v a0 a1)
  have H3 := Lib.hid (fun v hv => lift v hv (exitN_any v a0 a1))
  have H4 := Lib.hid (fun v hv => lift v hv (heldN_any v))
  have H5 := Lib.hid (fun v hv => lift v hv (ofN_any v a1))
  have H6 := Lib.hid (fun v hv => lift v hv (putN_any v none 0 0))
  have H7 := Lib.hid (fun v hv => lift v hv (freeN_any v a1))
  clear lift
  go_enter Try.func6, Try.ntmps6
  go_wp2_with (first
    | (go_at_call 10; ((with_reducible refine (H1.out _ (by first | exact Below.refl _ _ | assumption)).mono ?_); rintro e v1 ⟨rfl, hb1⟩))
    | (go_at_call 17; ((with_reducible refine (H2.out _).mono ?_); rintro e v2 ⟨rfl, rfl⟩))
    | (go_at_call 18; ((with_reducible refine (H3.out _ (by assumption)).mono ?_); rintro e v3 ⟨rfl, hb3⟩))
    | (go_at_call 13; ((with_reducible refine (H4.out _ (by assumption)).mono ?_); rintro e v4 ⟨rfl, hb4⟩))
    | (go_at_call 15; ((with_reducible refine (H5.out _ (by assumption)).mono ?_); rintro e v5 ⟨rfl, hb5⟩))
    | (go_at_call 20; ((with_reducible refine (H6.out _ (by assumption)).mono ?_); rintro e v6 ⟨rfl, hb6⟩))
    | (go_at_call 19; ((with_reducible refine (H7.out _ (by assumption)).mono ?_); rintro e v7 ⟨rfl, hb7⟩))
    | (go_at_call 8; ((with_reducible refine (HK.out _ (by assumption)).mono ?_); rintro e v8 ⟨rfl, hb8⟩)))
  go_ret
  exact ⟨rfl, by assumption⟩
end WLockNil
end Go.Proofs.Ytkjkofdjnjihjaa
