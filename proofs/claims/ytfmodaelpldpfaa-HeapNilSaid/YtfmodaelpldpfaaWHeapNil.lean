/-
  Law HeapNil: whatever the numbers, a heap that is not there answers so, and what must come of fixed calls comes.
-/
import Derived.Test.YtfmodaelpldpfaaHpK
import Derived.Test.YtfmodaelpldpfaaHpN
namespace Go.Proofs.Ytfmodaelpldpfaa
namespace WHeapNil
open Go.RowKit Base BinM HpM HpN

set_option maxRecDepth 100000 in
set_option maxHeartbeats 8000000 in
theorem walk (a0 : Int) (a1 : Int) (w : World) (_w0 : (Lit.int .i64 a0).wf = true) (_w1 : (Lit.int .i64 a1).wf = true) :
    Calls Try.prog 6 #[.int .i64 a0, .int .i64 a1] w fun e w' => e = .returned (.bool true) ∧ Below w.heap.size w w' := by
  have HK := Lib.hid (HpK.known_any w)
  go_enter Try.func6, Try.ntmps6
  go_wp2_with (first
               | (go_at_call 21; refine (thing_nil _ _ _).mono ?_; rintro e w' ⟨rfl, rfl⟩)
               | (go_at_call 23; refine (array_nil _ _ _).mono ?_; rintro e w' ⟨rfl, rfl⟩)
               | (go_at_call 26; refine (text_nil _ _ _).mono ?_; rintro e w' ⟨rfl, rfl⟩)
               | (go_at_call 25; refine (type_nil _ _).mono ?_; rintro e w' ⟨rfl, rfl⟩)
               | (go_at_call 29; refine (size_nil _ _).mono ?_; rintro e w' ⟨rfl, rfl⟩)
               | (go_at_call 24; refine (get_nil _ _ _).mono ?_; rintro e w' ⟨rfl, rfl⟩)
               | (go_at_call 28; refine (len_nil _ _).mono ?_; rintro e w' ⟨rfl, rfl⟩)
               | (go_at_call 27; refine (bytes_nil _ _).mono ?_; rintro e w' ⟨rfl, rfl⟩)
               | (go_at_call 30; refine (sent_nil _ _).mono ?_; rintro e w' ⟨rfl, rfl⟩)
               | (go_at_call 22; refine (set_nil _ _ _ _).mono ?_; rintro e w' ⟨rfl, rfl⟩)
               | (go_at_call 31; refine (send_nil _ _ _).mono ?_; rintro e w' ⟨rfl, rfl⟩)
               | (go_at_call 15; refine (cap_nil _).mono ?_; rintro e w' ⟨rfl, rfl⟩)
               | (go_at_call 13; refine (used_nil _).mono ?_; rintro e w' ⟨rfl, rfl⟩)
               | (go_at_call 19; refine (all_nil _).mono ?_; rintro e w' ⟨rfl, rfl⟩)
               | (go_at_call 17; refine (raw_nil _).mono ?_; rintro e w' ⟨rfl, rfl⟩)
               | (go_at_call 9; refine HK.out.mono ?_; rintro e w' ⟨rfl, hb⟩))
  go_ret
  exact ⟨rfl, hb⟩

end WHeapNil
end Go.Proofs.Ytfmodaelpldpfaa
