/-
  The law HierNil, walked: for every text it returns true, and nothing that was there is written.
-/
import Derived.Test.YtilakpbgpdbchaaDoorHierX
namespace Go.Proofs.YtilakpbgpdbchaaDoor
namespace WHierNil
open Go.RowKit BinM Base DescM DescW DescX HierS HierT HierM HierC HierD HierK
open HierX (known_any)

set_option maxRecDepth 100000 in
theorem below_nil (c : ByteArray) (w : World) :
    Calls Tryd.prog 19 #[.pointer none, .string c] w fun e w' => e = .returned (.slice none 0 0) ∧ w = w' := by
  have HK := Lib.hid (names_nil w)
  go_enter Tryd.func19, Tryd.ntmps19
  go_wp2_with (go_at_call 13; refine HK.out.mono ?_; rintro e w' ⟨rfl, rfl⟩)
  go_loop [5, 11] (fun b i => b = .slice none 0 0 ∧ i = .int .i64 0) (fun _ _ => 0)
  case atStart => exact ⟨rfl, rfl⟩
  case round =>
    obtain ⟨rfl, rfl⟩ := hrel
    go_wp2
    go_ret
    exact ⟨rfl, rfl⟩

set_option maxRecDepth 100000 in
set_option maxHeartbeats 2000000 in
theorem walk (a0 : ByteArray) (a1 : ByteArray) (w : World) (_b0 : a0.size ≤ 140737488351232) (_b1 : a1.size ≤ 140737488351232) :
    Calls Tryd.prog 6 #[.string a0, .string a1] w fun e w' => e = .returned (.bool true) ∧ Below w.heap.size w w' := by
  have H1 := Lib.hid (super_nil a0 w)
  have H2 := Lib.hid (join_nil a1 a1 w)
  have H3 := Lib.hid (names_nil w)
  have H4 := Lib.hid (has_nil a0 w)
  have H5 := Lib.hid (chain_nil a0 w)
  have H6 := Lib.hid (below_nil a0 w)
  have H7 := Lib.hid (known_nil a1 w)
  have H8 := Lib.hid (sub_nil a1 a1 w)
  have H9 := Lib.hid (known_any w)

  unfold twoB at H1
  go_enter Tryd.func6, Tryd.ntmps6
  go_wp2_with fail
  refine H1.out.mono ?_; rintro e w' ⟨rfl, rfl⟩
  go_wp2_with fail
  refine H2.out.mono ?_; rintro e w' ⟨rfl, rfl⟩
  go_wp2_with fail
  refine H3.out.mono ?_; rintro e w' ⟨rfl, rfl⟩
  go_wp2_with fail
  refine H4.out.mono ?_; rintro e w' ⟨rfl, rfl⟩
  go_wp2_with fail
  refine H5.out.mono ?_; rintro e w' ⟨rfl, rfl⟩
  go_wp2_with fail
  refine H6.out.mono ?_; rintro e w' ⟨rfl, rfl⟩
  go_wp2_with fail
  refine H7.out.mono ?_; rintro e w' ⟨rfl, rfl⟩
  go_wp2_with fail
  refine H8.out.mono ?_; rintro e w' ⟨rfl, rfl⟩
  go_wp2_with fail
  refine H9.out.mono ?_; rintro e w' ⟨rfl, hb⟩
  go_wp2_with fail
  go_ret
  exact ⟨rfl, hb⟩
end WHierNil
end Go.Proofs.YtilakpbgpdbchaaDoor
