/-
  The law InsBytes, walked: for all bytes, all code and every place it returns true, and nothing that was there is written. Condition: the table of names lies as the program's text lays it.
-/
import Derived.Test.YtaekdgbbopcpbaaDoorInsL
import Derived.Test.YtaekdgbbopcpbaaDoorInsJ
import Derived.Test.YtaekdgbbopcpbaaDoorInsK
namespace Go.Proofs.YtaekdgbbopcpbaaDoor
namespace WInsBytes
open Go.RowKit InsM Base InsA InsB InsC InsK Stru BinM BinE BinPut BinGet Bin8 InsP InsQ InsR InsG InsH InsI InsJ InsL
open RefGet (text_q)

set_option maxRecDepth 100000 in
set_option maxHeartbeats 4000000 in
theorem walk (a0 : Option Addr) (m0 c0 : Nat) (l0 : List UInt8) (a1 : Option Addr) (m1 c1 : Nat) (l1 : List InsT) (a2 : Int) (w : World) (hl : Laid w) (w0 : IsBytes w a0 m0 c0 l0) (b0 : c0 ≤ 140737488351232) (w1 : IsCode w a1 m1 c1 l1) (w2 : (Lit.int .i64 a2).wf = true) :
    Calls Tryd.prog 10 #[.slice a0 m0 c0, .slice a1 m1 c1, .int .i64 a2] w fun e w' => e = .returned (.bool true) ∧ Below w.heap.size w w' := by
  obtain ⟨ha0, ha1⟩ : -9223372036854775808 ≤ a2 ∧ a2 ≤ 9223372036854775807 := by
    simp [Lit.wf, IntKind.min, IntKind.max, IntKind.bits, IntKind.signed] at w2; omega
  obtain ⟨hm0, hle, hmx, hr⟩ := w0
  have h0 := hl.1
  have Hl := Lib.hid hl
  have Hm0 := Lib.hid hm0
  have Hr := Lib.hid hr
  have hl0 : l0.length ≤ m0 := Nat.le_of_eq hm0.symm
  have hl0' : m0 ≤ l0.length := Nat.le_of_eq hm0
  have Hc : Hid (IsCode w a1 m1 c1 l1) := w1
  have hm1 : m1 ≤ 9223372036854775807 := by have := w1.le; have := w1.max; unfold maxLen at this; omega
  clear w2 hm0 hr hl w1
  by_cases hbig : 600 < m1
  · go_enter Tryd.func10, Tryd.ntmps10
    go_wp2_with fail
    refine (known_any w Hl.out).mono ?_
    rintro e w4 ⟨rfl, hb4⟩
    have Hb4 := Lib.hid hb4
    clear hb4
    go_wp2_with fail
    go_ret
    exact ⟨rfl, Hb4.out⟩
  · go_enter Tryd.func10, Tryd.ntmps10
    go_wp2_with fail
    refine (lent_any a0 l0 m0 c0 w Hm0.out (by omega) Hr.out).mono ?_
    rintro e w1 ⟨v1, rfl, hown1, hb1⟩
    obtain ⟨A1, d1, rfl, hd1, hd1', hr1, _⟩ := Own8.slice hown1
    generalize hq1 : l0.length = q1 at *
    have Hq1 := Lib.hid hq1
    have Hr1 := Lib.hid hr1
    have Hb1 := Lib.hid hb1
    have hsz1 := hb1.size
    have Hl1 := Lib.hid (Hl.out.below hb1 h0)
    have Hc1 : Hid (IsCode w1 a1 m1 c1 l1) := IsCode.below Hc.out hb1
    have HM0 : Hid (m0 = l0.length) := Lib.hid (Hm0.out.trans Hq1.out.symm)
    have hq1m : q1 ≤ maxLen := Nat.le_trans hd1 hd1'
    clear hown1 hr1 hb1 hq1
    have hways := put_ways l0 l1
    have hgb := get_back (b := l0) (l := l1)
    obtain ⟨PP, hPP⟩ : ∃ PP, PP = putI l0 l1 := ⟨_, rfl⟩
    rw [← hPP] at hways
    have HPP := Lib.hid hPP
    obtain ⟨X, er⟩ := PP
    have Hways := Lib.hid hways
    have Hgb := Lib.hid hgb
    clear hPP hways hgb
    go_wp2_with fail
    refine (put_any A1 q1 d1 l0 a1 m1 c1 l1 w1 Hl1.out Hq1.out.symm Hr1.out (by omega) Hc1.out).mono ?_
    rw [← HPP.out]
    rintro e w2 ⟨v2, rfl, hown2, hb2⟩
    simp only at hown2
    obtain ⟨A2, d2, rfl, hd2, hd2', hr2, _⟩ := Own8.slice hown2
    generalize hq2 : X.length = q2 at *
    have Hq2 := Lib.hid hq2
    have Hr2 := Lib.hid hr2
    have Hr12 := Lib.hid (Hr1.out.below hb2)
    have Hb2 := Lib.hid (Hb1.out.trans (hb2.mono hsz1))
    have hsz2 := Hb2.out.size
    have Hl2 := Lib.hid (Hl.out.below Hb2.out h0)
    have Hc2 : Hid (IsCode w2 a1 m1 c1 l1) := IsCode.below Hc.out Hb2.out
    clear hown2 hr2 hb2 hq2
    go_wp2_with fail
    refine (refInsPut_any a0 m0 c0 l0 a1 m1 c1 l1 w2 HM0.out (Hr.out.below Hb2.out) (by omega) Hc2.out).mono ?_
    rw [← HPP.out]
    rintro e w3 ⟨v3, rfl, hown3, hb3⟩
    simp only at hown3
    obtain ⟨A3, d3, rfl, hd3, hd3', hr3, _⟩ := Own8.slice hown3
    rw [Hq2.out] at hd3
    have Hr3 := Lib.hid hr3
    have Hr13 := Lib.hid (Hr12.out.below hb3)
    have Hr23 := Lib.hid (Hr2.out.below hb3)
    have Hb3 := Lib.hid (Hb2.out.trans (hb3.mono hsz2))
    have hsz3 := Hb3.out.size
    have Hl3 := Lib.hid (Hl.out.below Hb3.out h0)
    clear hown3 hr3 hb3
    obtain ⟨G, hG⟩ : ∃ G, G = getI l0 a2 := ⟨_, rfl⟩
    have HG := Lib.hid hG
    obtain ⟨cl, gk, ge⟩ := G
    clear hG
    go_wp2_with fail
    refine (insGet_any A1 l0 q1 d1 a2 w3 Hl3.out Hq1.out.symm hq1m ha0 ha1 Hr13.out).mono ?_
    rw [← HG.out]
    rintro e w4 ⟨v4, rfl, hown4, hb4⟩
    simp only at hown4
    obtain ⟨A4, d4, rfl, hd4, hd4', hr4⟩ := OwnK.slice hown4
    have Hr4 := Lib.hid hr4
    have Hr34 := Lib.hid (Hr3.out.below hb4)
    have Hr14 := Lib.hid (Hr13.out.below hb4)
    have Hr24 := Lib.hid (Hr23.out.below hb4)
    have Hb4 := Lib.hid (Hb3.out.trans (hb4.mono hsz3))
    have hsz4 := Hb4.out.size
    clear hown4 hr4 hb4
    go_wp2_with fail
    refine (refInsGet_any a0 l0 m0 c0 a2 w4 HM0.out hle hmx ha0 ha1 (Hr.out.below Hb4.out)).mono ?_
    rw [← HG.out]
    rintro e w5 ⟨v5, rfl, hown5, hb5⟩
    simp only at hown5
    obtain ⟨A5, d5, rfl, hd5, hd5', hr5⟩ := OwnK.slice hown5
    have Hr5 := Lib.hid hr5
    have Hr45 := Lib.hid (Hr4.out.below hb5)
    have Hr35 := Lib.hid (Hr34.out.below hb5)
    have Hr15 := Lib.hid (Hr14.out.below hb5)
    have Hr25 := Lib.hid (Hr24.out.below hb5)
    have Hb5 := Lib.hid (Hb4.out.trans (hb5.mono hsz4))
    have hsz5 := Hb5.out.size
    have hcx2 := text_q w5 (m := q2) Hq2.out Hr25.out d2
    have hcx3 := text_q w5 (m := X.length) rfl Hr35.out d3
    have hclm : cl.length ≤ maxLen := Nat.le_trans hd4 hd4'
    clear hown5 hr5 hb5
    go_wp2_with fail
    refine (same_any A4 A5 cl cl cl.length cl.length d4 d5 w5 rfl rfl hclm Hr45.out Hr5.out).mono ?_
    rw [decide_eq_true (rfl : cl = cl)]
    rintro e w6 ⟨rfl, hb6⟩
    have Hb6 := Lib.hid (Hb5.out.trans (hb6.mono hsz5))
    have hsz6 := Hb6.out.size
    have Hr16 := Lib.hid (Hr15.out.below hb6)
    have Hr26 := Lib.hid (Hr25.out.below hb6)
    have Hl6 := Lib.hid (Hl.out.below Hb6.out h0)
    clear hb6 hcx2 hcx3
    go_wp2_with fail
    refine (kept_any A1 a0 l0 l0 q1 m0 d1 c0 w6 Hq1.out.symm HM0.out Hr16.out (Hr.out.below Hb6.out)).mono ?_
    rw [decide_eq_true (rfl : l0 = l0)]
    rintro e w7 ⟨rfl, rfl⟩
    rcases Hways.out with ⟨e0, he0, hX⟩ | ⟨h5, hok, hX⟩
    · simp only [Prod.mk.injEq] at hX
      obtain ⟨_, rfl⟩ := hX
      have he0' : (er != 0) = true := by simpa using he0
      clear he0 Hways Hgb
      go_wp2_with fail
      refine (known_any w6 Hl6.out).mono ?_
      rintro e w8 ⟨rfl, hb8⟩
      have Hb8 := Lib.hid (Hb6.out.trans (hb8.mono hsz6))
      clear hb8
      go_wp2_with fail
      go_ret
      exact ⟨rfl, Hb8.out⟩
    · simp only [Prod.mk.injEq] at hX
      obtain ⟨hX, rfl⟩ := hX
      have hg := Hgb.out h5 hok Hc.out.fit
      rw [← hX, Hq1.out] at hg
      have Hg := Lib.hid hg
      have hq2m : q2 ≤ maxLen := Nat.le_trans hd2 hd2'
      have Hmq := Lib.hid (show (m0 : Int) = (q1 : Int) by rw [Hm0.out])
      clear hX hok hg Hways Hgb
      go_wp2_with fail
      refine (insGet_any A2 X q2 d2 (m0 : Int) w6 Hl6.out Hq2.out.symm hq2m (by omega) (by omega) Hr26.out).mono ?_
      rw [Hmq.out]
      rcases Hg.out with hg | hg
      · rw [hg]
        rintro e w8 ⟨v8, rfl, hown8, hb8⟩
        simp only at hown8
        obtain ⟨A8, d8, rfl, hd8, hd8', hr8⟩ := OwnK.slice hown8
        have Hr8 := Lib.hid hr8
        have Hb8 := Lib.hid (Hb6.out.trans (hb8.mono hsz6))
        have hsz8 := Hb8.out.size
        have Hl8 := Lib.hid (Hl.out.below Hb8.out h0)
        have Hc8 : Hid (IsCode w8 a1 m1 c1 l1) := IsCode.below Hc.out Hb8.out
        have hlm : l1.length ≤ maxLen := Nat.le_trans hd8 hd8'
        clear hown8 hr8 hb8 hg Hg
        rw [Hq2.out]
        go_wp2_with fail
        refine (same_any A8 a1 l1 l1 l1.length m1 d8 c1 w8 rfl (IsCode.len Hc8.out) hlm Hr8.out (IsCode.rds Hc8.out)).mono ?_
        rw [decide_eq_true (rfl : l1 = l1)]
        rintro e w9 ⟨rfl, hb9⟩
        have Hb9 := Lib.hid (Hb8.out.trans (hb9.mono hsz8))
        have hsz9 := Hb9.out.size
        have Hl9 := Lib.hid (Hl.out.below Hb9.out h0)
        clear hb9
        go_wp2_with fail
        refine (known_any w9 Hl9.out).mono ?_
        rintro e w10 ⟨rfl, hb10⟩
        have Hb10 := Lib.hid (Hb9.out.trans (hb10.mono hsz9))
        clear hb10
        go_wp2_with fail
        go_ret
        exact ⟨rfl, Hb10.out⟩
      · rw [hg]
        rintro e w8 ⟨v8, rfl, hown8, hb8⟩
        have Hb8 := Lib.hid (Hb6.out.trans (hb8.mono hsz6))
        have hsz8 := Hb8.out.size
        have Hl8 := Lib.hid (Hl.out.below Hb8.out h0)
        clear hown8 hb8 hg Hg
        go_wp2_with fail
        refine (known_any w8 Hl8.out).mono ?_
        rintro e w10 ⟨rfl, hb10⟩
        have Hb10 := Lib.hid (Hb8.out.trans (hb10.mono hsz8))
        clear hb10
        go_wp2_with fail
        go_ret
        exact ⟨rfl, Hb10.out⟩

end WInsBytes
end Go.Proofs.YtaekdgbbopcpbaaDoor
