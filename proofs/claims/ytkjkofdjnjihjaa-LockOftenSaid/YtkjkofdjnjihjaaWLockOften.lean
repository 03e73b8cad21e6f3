/-
  Law LockOften: as often as a thread entered it must exit; in between no other one enters; then it does.
-/
import Derived.Test.YtkjkofdjnjihjaaLkK
import Derived.Test.YtkjkofdjnjihjaaLkP
import Derived.Test.YtkjkofdjnjihjaaOpenL
import Derived.StillTailTactics
import Derived.Deep.CutBlock
import Derived.Deep.DeepCutAuto
namespace Go.Proofs.Ytkjkofdjnjihjaa
namespace WLockOften
open Go.RowKit Base BinM LkM LkB LkE LkK LkP

theorem times (x : Int) : ∃ K : Nat, 1 ≤ K ∧ K ≤ 5 ∧ wrap64 (1 + (wrap64 (x.tmod 5 + 5)).tmod 5) = (K : Int) := by
  have h1 : -5 < x.tmod 5 := by
    by_cases hx : 0 ≤ x
    · have := Int.tmod_nonneg 5 hx; omega
    · have e : x.tmod 5 = -((-x).tmod 5) := by rw [Int.neg_tmod, Int.neg_neg]
      have := Int.tmod_lt_of_pos (-x) (b := 5) (by omega)
      omega
  have h2 : x.tmod 5 < 5 := Int.tmod_lt_of_pos x (by omega)
  have e1 : wrap64 (x.tmod 5 + 5) = x.tmod 5 + 5 := by unfold wrap64; omega
  rw [e1]
  have h3 : 0 ≤ (x.tmod 5 + 5).tmod 5 := Int.tmod_nonneg _ (by omega)
  have h4 : (x.tmod 5 + 5).tmod 5 < 5 := Int.tmod_lt_of_pos _ (by omega)
  generalize (x.tmod 5 + 5).tmod 5 = y at *
  have e2 : wrap64 (1 + y) = 1 + y := by unfold wrap64; omega
  exact ⟨(1 + y).toNat, by omega, by omega, by rw [e2]; omega⟩

set_option maxRecDepth 100000 in
set_option maxHeartbeats 16000000 in
theorem walk (a0 : Option Addr) (m0 c0 : Nat) (l0 : List OpenL.ActT) (a1 : Int) (a2 : Int) (a3 : Int) (a4 : Int) (w : World) (wm0 : m0 = l0.length) (_ : m0 ≤ c0) (wx0 : c0 ≤ maxLen) (wr0 : Rds w a0 (l0.flatMap OpenL.actV)) (_ : ∀ x ∈ l0, OpenL.actOk w x) (_ : (Lit.int .i64 a1).wf = true) (_ : (Lit.int .i64 a2).wf = true) (_ : (Lit.int .i64 a3).wf = true) (w4 : (Lit.int .i64 a4).wf = true) :
    Calls Try.prog 4 #[.slice a0 m0 c0, .int .i64 a1, .int .i64 a2, .int .i64 a3, .int .i64 a4] w fun e w' => e = .returned (.bool true) ∧ Below w.heap.size w w' := by
  subst wm0
  have hml : l0.length ≤ 9223372036854775807 := by unfold maxLen at wx0; omega
  have HK := Lib.hid (fun v (hv : Below w.heap.size w v) => (LkK.known_any v).mono fun e w' (h : e = .returned (.bool true) ∧ Below v.heap.size v w') => (⟨h.1, hv.trans (h.2.mono hv.size)⟩ : e = .returned (.bool true) ∧ Below w.heap.size w w'))
  have HR := Lib.hid wr0
  have hf4 : -9223372036854775808 ≤ a4 ∧ a4 ≤ 9223372036854775807 := OpenS.int_in w4
  clear wr0 w4 wx0
  go_enter Try.func4, Try.ntmps4
  go_wp2_with fail
  refine (new_ks (Below.refl _ w)).mono ?_
  rintro e v1 ⟨rfl, h1⟩
  have K1 := Lib.hid h1
  clear h1
  generalize hb : w.heap.size = b at K1 ⊢
  go_upto_block 0 with fail
  go_cut [12] (fun s wx => (∃ z : Value, s = z) ∧ ∃ hs, KL w wx b hs ∧ Few 40 hs ∧ Out hs a1)
  case first =>
    go_wp2_with fail
    go_loopw [12] (fun i wr => ∃ j : Nat, j ≤ l0.length ∧ j ≤ 40 ∧ i = .int .i64 j ∧ ∃ hs, KL w wr b hs ∧ Few j hs ∧ Out hs a1) (fun i _ => l0.length - (intOf i).toNat)
    case atStart => exact ⟨0, Nat.zero_le _, by omega, rfl, [], K1.out, ⟨by simp, by simp⟩, by intro h hh; cases hh⟩
    case round =>
      obtain ⟨j, hj, hj40, rfl, hs, hk, hfew, hout⟩ := hrel
      have HKS := Lib.hid hk
      have HF := Lib.hid hfew
      have HO := Lib.hid hout
      have hlow := hk.low
      clear hk hfew hout
      by_cases hgo : j < l0.length ∧ j < 40
      · obtain ⟨hlt, h40⟩ := hgo
        obtain ⟨ab, ao, rfl, hab, q0, q1, q2, _⟩ := OpenL.act_at (HR.out.below hlow) hlt
        have hj1 : (j : Int) < (l0.length : Int) := by omega
        have hj2 : (j : Int) < 40 := by omega
        generalize l0[j] = x at *
        obtain ⟨xk, xa, xw, xA, xc, xn⟩ := x
        simp only at q0 q1 q2
        by_cases hne : xa = a1
        · have hb1 : (xa != a1) = false := by simpa using hne
          go_wp2_with fail
          go_roundw
          case rel => exact ⟨j + 1, by omega, by omega, by go_num, hs, HKS.out, few_more HF.out (by omega), HO.out⟩
          case measure => simp [intOf]; omega
        · have hb1 : (xa != a1) = true := by simpa using hne
          by_cases h5 : xk < 5
          · by_cases h3 : xk < 3
            · have HE := Lib.hid (enter_ks (w := wr.drew) (HKS.out.later (Below.refl _ _).drew) (N := j) (by omega) HF.out xa xw)
              have HF2 := Lib.hid (few_enter HF.out xa xw)
              have HO2 := Lib.hid (out_enter xw hne HO.out)
              generalize enterT hs xa xw = T at *
              obtain ⟨T1, T2⟩ := T
              go_wp2_with fail
              go_still_tail 11, (by kernel_rfl)
              go_wp2_with fail
              refine HE.out.mono ?_
              rintro e v2 ⟨rfl, hk2⟩
              have HK2 := Lib.hid hk2
              clear hk2
              go_wp2_with fail
              go_roundw
              case rel => exact ⟨j + 1, by omega, by omega, by go_num, T2, HK2.out, HF2.out, HO2.out⟩
              case measure => simp [intOf]; omega
            · have HE := Lib.hid (exit_ks (w := wr.drew) (HKS.out.later (Below.refl _ _).drew) (N := j) (by omega) HF.out xa xw)
              have HF2 := Lib.hid (few_exit HF.out xa xw)
              have HO2 := Lib.hid (out_exit xa xw HO.out)
              generalize exitT hs xa xw = T at *
              obtain ⟨T1, T2⟩ := T
              go_wp2_with fail
              go_still_tail 11, (by kernel_rfl)
              go_wp2_with fail
              refine HE.out.mono ?_
              rintro e v2 ⟨rfl, hk2⟩
              have HK2 := Lib.hid hk2
              clear hk2
              go_wp2_with fail
              go_roundw
              case rel => exact ⟨j + 1, by omega, by omega, by go_num, T2, HK2.out, few_more HF2.out (by omega), HO2.out⟩
              case measure => simp [intOf]; omega
          · go_wp2_with fail
            go_roundw
            case rel => exact ⟨j + 1, by omega, by omega, by go_num, hs, HKS.out, few_more HF.out (by omega), HO.out⟩
            case measure => simp [intOf]; omega
      · have HF40 := Lib.hid (few_more HF.out hj40)
        by_cases hlt2 : j < l0.length
        · have hj1 : (j : Int) < (l0.length : Int) := by omega
          have hj2 : ¬ (j : Int) < 40 := by omega
          go_wp2_with fail
          go_meet
          exact ⟨⟨_, rfl⟩, hs, HKS.out, HF40.out, HO.out⟩
        · have hj1 : ¬ (j : Int) < (l0.length : Int) := by omega
          go_wp2_with fail
          go_meet
          exact ⟨⟨_, rfl⟩, hs, HKS.out, HF40.out, HO.out⟩
  case rest =>
    obtain ⟨⟨z, rfl⟩, hs, hk, hf, ho⟩ := hcut
    have HKS := Lib.hid hk
    have HF := Lib.hid hf
    have HO := Lib.hid ho
    clear hk hf ho K1 HR
    by_cases ha : a1 < 1
    · have HE := Lib.hid (enter_ks HKS.out (N := 40) (by omega) HF.out a1 a2)
      have hE : (enterT hs a1 a2).1 = 2 := by unfold enterT; rw [if_pos ha]
      rw [hE] at HE
      clear hE
      go_wp2_with fail
      refine HE.out.mono ?_
      rintro e v2 ⟨rfl, hk2⟩
      have HK2 := Lib.hid hk2
      clear hk2
      go_wp2_with fail
      go_ret
      exact ⟨rfl, by first | exact HK2.out.low | (rw [← hb]; exact HK2.out.low)⟩
    · by_cases hwo : a2 = a3
      · subst hwo
        have HE := Lib.hid (enter_ks HKS.out (N := 40) (by omega) HF.out a1 a2)
        have hE : (enterT hs a1 a2).1 = 0 := by
          have := with_other (w := a2) HO.out ha a2
          exact this
        rw [hE] at HE
        clear hE
        go_wp2_with fail
        refine HE.out.mono ?_
        rintro e v2 ⟨rfl, hk2⟩
        have HK2 := Lib.hid hk2.low
        clear hk2
        go_wp2_with (go_at_call 8; refine (HK.out _ (by first | exact HK2.out | (rw [hb] at *; exact HK2.out))).mono ?_; rintro e v3 ⟨rfl, hb3⟩)
        go_ret
        exact ⟨rfl, by first | exact hb3 | (rw [← hb]; exact hb3)⟩
      · have hwb : (a2 == a3) = false := by simpa using hwo
        have HA := Lib.hid ha
        have HW := Lib.hid hwo
        obtain ⟨K, hK1, hK5, hK⟩ := times a4
        go_wp2_with fail
        clear hK
        go_loopw [14] (fun i wr => ∃ j : Nat, j ≤ K ∧ i = .int .i64 j ∧ KL w wr b (With hs a1 a2 j)) (fun i _ => K - (intOf i).toNat)
        case atStart => exact ⟨0, Nat.zero_le _, rfl, HKS.out⟩
        case round =>
          obtain ⟨j, hj, rfl, hk⟩ := hrel
          have HKj := Lib.hid hk
          clear hk
          by_cases hlt : j < K
          · have hj1 : (j : Int) < (K : Int) := by omega
            have HE1 := Lib.hid (enter_ks HKj.out (N := 100) (by omega) (few_with HF.out a1 a2 (by omega) (by omega)) a1 a2)
            rw [with_enter HO.out (by have := HA.out; omega) a2 j] at HE1
            have HE2 := Lib.hid (fun (v : World) (hv : KL w v b (With hs a1 a2 (j + 1))) => enter_ks hv (N := 100) (by omega) (few_with HF.out a1 a2 (by omega) (by omega)) a1 a3)
            rw [with_wait HO.out (by have := HA.out; omega) a2 a3 (j + 1) (by omega) HW.out] at HE2
            have HE3 := Lib.hid (fun (v : World) (hv : KL w v b (With hs a1 a2 (j + 1))) => exit_ks hv (N := 100) (by omega) (few_with HF.out a1 a2 (by omega) (by omega)) a1 a3)
            rw [with_exit_no HO.out a2 a3 (j + 1) (by omega) HW.out] at HE3
            generalize hL : With hs a1 a2 (j + 1) = L at *
            have HL := Lib.hid hL
            clear hL
            go_wp2_with fail
            refine HE1.out.mono ?_
            rintro e v2 ⟨rfl, hk2⟩
            have HK2 := Lib.hid hk2
            clear hk2
            go_wp2_with fail
            refine (HE2.out _ HK2.out).mono ?_
            rintro e v3 ⟨rfl, hk3⟩
            have HK3 := Lib.hid hk3
            clear hk3
            go_wp2_with fail
            refine (HE3.out _ HK3.out).mono ?_
            rintro e v4 ⟨rfl, hk4⟩
            have HK4 := Lib.hid hk4
            clear hk4
            go_wp2_with fail
            go_roundw
            case rel => exact ⟨j + 1, by omega, by go_num, by rw [HL.out]; exact HK4.out⟩
            case measure => simp [intOf]; omega
          · have hjK : j = K := by omega
            subst hjK
            go_wp2_with fail
            go_loopw [15] (fun i wr => ∃ q : Nat, q ≤ j ∧ i = .int .i64 q ∧ KL w wr b (With hs a1 a2 (j - q))) (fun i _ => j - (intOf i).toNat)
            case atStart => exact ⟨0, Nat.zero_le _, rfl, HKj.out⟩
            case round =>
              obtain ⟨q, hq, rfl, hk⟩ := hrel
              have HKq := Lib.hid hk
              clear hk
              by_cases hlq : q < j
              · have hq1 : (q : Int) < (j : Int) := by omega
                have HE2 := Lib.hid (enter_ks HKq.out (N := 100) (by omega) (few_with HF.out a1 a2 (by omega) (by omega)) a1 a3)
                rw [with_wait HO.out (by have := HA.out; omega) a2 a3 (j - q) (by omega) HW.out] at HE2
                have HE3 := Lib.hid (fun (v : World) (hv : KL w v b (With hs a1 a2 (j - q))) => exit_ks hv (N := 100) (by omega) (few_with HF.out a1 a2 (by omega) (by omega)) a1 a2)
                rw [with_exit HO.out a2 (j - q) (by omega), show j - q - 1 = j - (q + 1) by omega] at HE3
                generalize With hs a1 a2 (j - q) = L at *
                generalize hL2 : With hs a1 a2 (j - (q + 1)) = L2 at *
                have HL2 := Lib.hid hL2
                clear hL2
                go_wp2_with fail
                refine HE2.out.mono ?_
                rintro e v2 ⟨rfl, hk2⟩
                have HK2 := Lib.hid hk2
                clear hk2
                go_wp2_with fail
                refine (HE3.out _ HK2.out).mono ?_
                rintro e v3 ⟨rfl, hk3⟩
                have HK3 := Lib.hid hk3
                clear hk3
                go_wp2_with fail
                go_roundw
                case rel => exact ⟨q + 1, by omega, by go_num, by rw [HL2.out]; exact HK3.out⟩
                case measure => simp [intOf]; omega
              · have hqj : q = j := by omega
                subst hqj
                rw [Nat.sub_self] at HKq
                have HE2 := Lib.hid (exit_ks HKq.out (N := 100) (by omega) (few_with HF.out a1 a2 (by omega) (by omega)) a1 a2)
                rw [with_exit_0 HO.out a2 a2] at HE2
                have HE3 := Lib.hid (fun (v : World) (hv : KL w v b (With hs a1 a2 0)) => enter_ks hv (N := 100) (by omega) (few_with HF.out a1 a2 (by omega) (by omega)) a1 a3)
                rw [with_other HO.out (by have := HA.out; omega) a2 a3] at HE3
                generalize With hs a1 a2 0 = L at *
                go_wp2_with fail
                refine HE2.out.mono ?_
                rintro e v2 ⟨rfl, hk2⟩
                have HK2 := Lib.hid hk2
                clear hk2
                go_wp2_with fail
                refine (HE3.out _ HK2.out).mono ?_
                rintro e v3 ⟨rfl, hk3⟩
                have HK3 := Lib.hid hk3.low
                clear hk3
                go_wp2_with (go_at_call 8; refine (HK.out _ (by first | exact HK3.out | (rw [hb] at *; exact HK3.out))).mono ?_; rintro e v4 ⟨rfl, hb4⟩)
                go_ret
                exact ⟨rfl, by first | exact hb4 | (rw [← hb]; exact hb4)⟩
end WLockOften
end Go.Proofs.Ytkjkofdjnjihjaa
