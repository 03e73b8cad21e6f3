/-
  The law InsChecks, walked: for all code, constants and locals it returns true, and nothing that was there is written. Condition: the table of names lies as the program's text lays it.
-/
import Derived.Test.YtaekdgbbopcpbaaDoorInsK
import Derived.Test.YtaekdgbbopcpbaaDoorInsE
namespace Go.Proofs.YtaekdgbbopcpbaaDoor
namespace WInsChecks
open Go.RowKit InsM Base InsA InsB InsC InsD InsE InsK Stru

set_option maxRecDepth 100000 in
theorem walk (a0 : Option Addr) (m0 c0 : Nat) (l0 : List InsT) (a1 : Option Addr) (m1 c1 : Nat) (l1 : List Cst) (a2 : Int) (w : World) (hl : Laid w) (w0 : IsCode w a0 m0 c0 l0) (w1 : IsCsts w a1 m1 c1 l1) (_w2 : (Lit.int .i64 a2).wf = true) :
    Calls Tryd.prog 8 #[.slice a0 m0 c0, .slice a1 m1 c1, .int .i64 a2] w fun e w' => e = .returned (.bool true) ∧ Below w.heap.size w w' := by
  have Hl := Lib.hid hl
  have h0 := hl.1
  have H0 : Hid (IsCode w a0 m0 c0 l0) := w0
  have H1 : Hid (IsCsts w a1 m1 c1 l1) := w1
  have hm : m0 ≤ 9223372036854775807 := by have := w0.le; have := w0.max; unfold maxLen at this; omega
  clear hl w0 w1
  by_cases hbig : 600 < m0
  · go_enter Tryd.func8, Tryd.ntmps8
    go_wp2_with fail
    refine (known_any w Hl.out).mono ?_
    rintro e w4 ⟨rfl, hb4⟩
    have Hb4 := Lib.hid hb4
    clear hb4
    go_wp2_with fail
    go_ret
    exact ⟨rfl, Hb4.out⟩
  · generalize hC : checkI l0 l1 a2 = C at *
    have HC := Lib.hid hC
    clear hC
    obtain ⟨x, f⟩ := C
    go_enter Tryd.func8, Tryd.ntmps8
    go_wp2_with fail
    refine (check_any a0 m0 c0 l0 a1 m1 c1 l1 a2 w Hl.out H0.out H1.out).mono ?_
    rw [HC.out]
    unfold twoN
    rintro e w1 ⟨rfl, hb1⟩
    have Hl1 := Lib.hid (Hl.out.below hb1 h0)
    have H01 : Hid (IsCode w1 a0 m0 c0 l0) := IsCode.below H0.out hb1
    have H11 : Hid (IsCsts w1 a1 m1 c1 l1) := IsCsts.below H1.out hb1
    have Hb1 := Lib.hid hb1
    have hsz1 := hb1.size
    clear hb1
    go_wp2_with fail
    refine (refCheck_any a0 m0 c0 l0 a1 m1 c1 l1 a2 w1 H01.out H11.out).mono ?_
    rw [HC.out]
    unfold twoN
    rintro e w2 ⟨rfl, hb2⟩
    have Hl2 := Lib.hid (Hl1.out.below hb2 (Nat.lt_of_lt_of_le h0 hsz1))
    have Hb2 := Lib.hid (Hb1.out.trans (hb2.mono hsz1))
    have hsz2 := Hb2.out.size
    clear hb2
    go_wp2_with fail
    refine (known_any w2 Hl2.out).mono ?_
    rintro e w4 ⟨rfl, hb4⟩
    have Hb4 := Lib.hid (Hb2.out.trans (hb4.mono hsz2))
    clear hb4
    go_wp2_with fail
    go_ret
    exact ⟨rfl, Hb4.out⟩

end WInsChecks
end Go.Proofs.YtaekdgbbopcpbaaDoor
