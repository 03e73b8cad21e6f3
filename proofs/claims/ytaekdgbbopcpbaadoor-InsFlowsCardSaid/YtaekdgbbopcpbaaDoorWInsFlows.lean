/-
  The law InsFlows, walked: for all code and every place it returns true, and nothing that was there is written. Condition: the table of names lies as the program's text lays it.
-/
import Derived.Test.YtaekdgbbopcpbaaDoorInsK
import Derived.Test.YtaekdgbbopcpbaaDoorInsX
namespace Go.Proofs.YtaekdgbbopcpbaaDoor
namespace WInsFlows
open Go.RowKit InsM Base InsA InsB InsC InsK Stru InsF InsT InsU InsV InsW InsX

set_option maxRecDepth 100000 in
set_option maxHeartbeats 4000000 in
theorem walk (a0 : Option Addr) (m0 c0 : Nat) (l0 : List InsT) (a1 : Int) (w : World) (hl : Laid w) (w0 : IsCode w a0 m0 c0 l0) (_w1 : (Lit.int .i64 a1).wf = true) :
    Calls Tryd.prog 9 #[.slice a0 m0 c0, .int .i64 a1] w fun e w' => e = .returned (.bool true) ∧ Below w.heap.size w w' := by
  have h0 := hl.1
  have Hl := Lib.hid hl
  have Hc : Hid (IsCode w a0 m0 c0 l0) := w0
  have hm0 : m0 ≤ 9223372036854775807 := by have := w0.le; have := w0.max; unfold maxLen at this; omega
  clear hl w0
  by_cases hbig : 600 < m0
  · go_enter Tryd.func9, Tryd.ntmps9
    go_wp2_with fail
    refine (known_any w Hl.out).mono ?_
    rintro e w4 ⟨rfl, hb4⟩
    have Hb4 := Lib.hid hb4
    clear hb4
    go_wp2_with fail
    go_ret
    exact ⟨rfl, Hb4.out⟩
  · have h6 : m0 ≤ 600 := by omega
    obtain ⟨N, hN⟩ : ∃ N, N = nextI l0 a1 := ⟨_, rfl⟩
    have HN := Lib.hid hN
    obtain ⟨Bk, hBk⟩ : ∃ Bk, Bk = backB l0 a1 := ⟨_, rfl⟩
    have HBk := Lib.hid hBk
    obtain ⟨U, hU⟩ : ∃ U, U = upsI (usesL l0) := ⟨_, rfl⟩
    have HU := Lib.hid hU
    clear hN hBk hU
    go_enter Tryd.func9, Tryd.ntmps9
    go_wp2_with fail
    refine (next_any a0 m0 c0 l0 a1 w Hl.out Hc.out).mono ?_
    rw [← HN.out]
    rintro e w1 ⟨v1, rfl, hown1, hb1⟩
    obtain ⟨A1, d1, rfl, hd1, hd1', hr1, _⟩ := OwnJ.slice hown1
    have Hr1 := Lib.hid hr1
    have Hb1 := Lib.hid hb1
    have hsz1 := hb1.size
    have Hc1 : Hid (IsCode w1 a0 m0 c0 l0) := IsCode.below Hc.out hb1
    clear hown1 hr1 hb1
    go_wp2_with fail
    refine (refNext_any a0 m0 c0 l0 a1 w1 Hc1.out).mono ?_
    rw [← HN.out]
    rintro e w2 ⟨v2, rfl, hown2, hb2⟩
    obtain ⟨A2, d2, rfl, hd2, hd2', hr2, _⟩ := OwnJ.slice hown2
    have Hr2 := Lib.hid hr2
    have Hr12 := Lib.hid (Hr1.out.below hb2)
    have Hb2 := Lib.hid (Hb1.out.trans (hb2.mono hsz1))
    have hsz2 := Hb2.out.size
    have hnm : N.length ≤ maxLen := Nat.le_trans hd1 hd1'
    clear hown2 hr2 hb2
    go_wp2_with fail
    refine (ints_any A1 A2 N N N.length N.length d1 d2 w2 rfl rfl hnm Hr12.out Hr2.out).mono ?_
    rw [decide_eq_true (rfl : N = N)]
    rintro e w3 ⟨rfl, hb3⟩
    have Hb3 := Lib.hid (Hb2.out.trans (hb3.mono hsz2))
    have hsz3 := Hb3.out.size
    have Hl3 := Lib.hid (Hl.out.below Hb3.out h0)
    have Hc3 : Hid (IsCode w3 a0 m0 c0 l0) := IsCode.below Hc.out Hb3.out
    clear hb3
    go_wp2_with fail
    refine (back_any a0 m0 c0 l0 a1 w3 Hl3.out Hc3.out).mono ?_
    rw [← HBk.out]
    rintro e w4 ⟨rfl, rfl⟩
    go_wp2_with fail
    refine (refBack_any a0 m0 c0 l0 a1 w3 Hc3.out).mono ?_
    rw [← HBk.out]
    rintro e w4 ⟨rfl, hb4⟩
    have Hb4 := Lib.hid (Hb3.out.trans (hb4.mono hsz3))
    have hsz4 := Hb4.out.size
    have Hl4 := Lib.hid (Hl.out.below Hb4.out h0)
    have Hc4 : Hid (IsCode w4 a0 m0 c0 l0) := IsCode.below Hc.out Hb4.out
    clear hb4
    go_wp2_with fail
    refine (uses_any a0 m0 c0 l0 w4 Hl4.out Hc4.out h6).mono ?_
    rw [rise_eq, ← HU.out]
    rintro e w5 ⟨v5, rfl, hown5, hb5⟩
    obtain ⟨A5, d5, rfl, hd5, hd5', hr5, _⟩ := OwnJ.slice hown5
    have Hr5 := Lib.hid hr5
    have Hb5 := Lib.hid (Hb4.out.trans (hb5.mono hsz4))
    have hsz5 := Hb5.out.size
    have Hc5 : Hid (IsCode w5 a0 m0 c0 l0) := IsCode.below Hc.out Hb5.out
    have hum : U.length ≤ maxLen := Nat.le_trans hd5 hd5'
    clear hown5 hr5 hb5
    go_wp2_with fail
    refine (refUses_any a0 m0 c0 l0 w5 Hc5.out h6).mono ?_
    rw [← HU.out]
    rintro e w6 ⟨v6, rfl, hown6, hb6⟩
    obtain ⟨A6, d6, rfl, hd6, hd6', hr6, _⟩ := OwnJ.slice hown6
    have Hr6 := Lib.hid hr6
    have Hr56 := Lib.hid (Hr5.out.below hb6)
    have Hb6 := Lib.hid (Hb5.out.trans (hb6.mono hsz5))
    have hsz6 := Hb6.out.size
    clear hown6 hr6 hb6
    go_wp2_with fail
    refine (ints_any A5 A6 U U U.length U.length d5 d6 w6 rfl rfl hum Hr56.out Hr6.out).mono ?_
    rw [decide_eq_true (rfl : U = U)]
    rintro e w7 ⟨rfl, hb7⟩
    have Hb7 := Lib.hid (Hb6.out.trans (hb7.mono hsz6))
    have hsz7 := Hb7.out.size
    have Hl7 := Lib.hid (Hl.out.below Hb7.out h0)
    clear hb7
    go_wp2_with fail
    refine (known_any w7 Hl7.out).mono ?_
    rintro e w8 ⟨rfl, hb8⟩
    have Hb8 := Lib.hid (Hb7.out.trans (hb8.mono hsz7))
    clear hb8
    go_wp2_with fail
    go_ret
    exact ⟨rfl, Hb8.out⟩

end WInsFlows
end Go.Proofs.YtaekdgbbopcpbaaDoor
