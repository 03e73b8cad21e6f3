/-
  Law LockApart: what one thread does changes nothing of what others hold.
-/
import Derived.Test.YtkjkofdjnjihjaaLkT
import Derived.Test.YtkjkofdjnjihjaaOpenL
import Derived.StillTailTactics
import Derived.Deep.CutBlock
import Derived.Deep.DeepCutAuto
namespace Go.Proofs.Ytkjkofdjnjihjaa
namespace WLockApart
open Go.RowKit Base BinM LkM LkB LkE LkK LkP LkT

theorem who8 (x : Int) : ∃ V : Int, 0 ≤ V ∧ V < 8 ∧ (wrap64 (x.tmod 8 + 8)).tmod 8 = V := by
  have h1 : -8 < x.tmod 8 := by
    by_cases hx : 0 ≤ x
    · have := Int.tmod_nonneg 8 hx; omega
    · have e : x.tmod 8 = -((-x).tmod 8) := by rw [Int.neg_tmod, Int.neg_neg]
      have := Int.tmod_lt_of_pos (-x) (b := 8) (by omega)
      omega
  have h2 : x.tmod 8 < 8 := Int.tmod_lt_of_pos x (by omega)
  have e1 : wrap64 (x.tmod 8 + 8) = x.tmod 8 + 8 := by unfold wrap64; omega
  rw [e1]
  exact ⟨_, Int.tmod_nonneg _ (by omega), Int.tmod_lt_of_pos _ (by omega), rfl⟩
theorem at8 (a : Int) {V : Int} (h0 : 0 ≤ V) (h8 : V < 8) : ∃ t : Int, V = t % 8 ∧ a % 100 * 8 + V = t := ⟨_, by omega, rfl⟩
theorem two_new (w : World) (t e : TypeId) (hne : t ≠ e) : K2 t e t e w ((w.alloc (.cells #[.slice none 0 0] t)).alloc (.cells #[.slice none 0 0] t)) w.heap.size [] (w.heap.size + 1) [] [] := by
  refine ⟨none, 0, none, 0, ⟨(Bx.new w #[.slice none 0 0] t).alloc _, World.ownsRow_nil _ _ _ _, hne⟩, ⟨?_, World.ownsRow_nil _ _ _ _, hne⟩, ?_, ?_, ?_, ((Below.refl _ w).alloc (Nat.le_refl _) _).alloc (by simp) _, fun x hx => by cases hx⟩
  · have := Bx.new (w.alloc (.cells #[.slice none 0 0] t)) #[.slice none 0 0] t
    rwa [World.size_alloc] at this
  · rintro k (rfl | ⟨a, h, _⟩) (h2 | ⟨a, h2, _⟩)
    · omega
    · cases h2
    · cases h
    · cases h
  · rintro k (rfl | ⟨a, h, _⟩)
    · exact Nat.le_refl _
    · cases h
  · rintro k (rfl | ⟨a, h, _⟩)
    · omega
    · cases h

set_option maxRecDepth 100000 in
set_option maxHeartbeats 16000000 in
theorem walk (a0 : Option Addr) (m0 c0 : Nat) (l0 : List OpenL.ActT) (a1 : Int) (w : World) (wm0 : m0 = l0.length) (_ : m0 ≤ c0) (wx0 : c0 ≤ maxLen) (wr0 : Rds w a0 (l0.flatMap OpenL.actV)) (_ : ∀ x ∈ l0, OpenL.actOk w x) (_ : (Lit.int .i64 a1).wf = true) :
    Calls Try.prog 5 #[.slice a0 m0 c0, .int .i64 a1] w fun e w' => e = .returned (.bool true) ∧ Below w.heap.size w w' := by
  subst wm0
  have hml : l0.length ≤ 9223372036854775807 := by unfold maxLen at wx0; omega
  have HK := Lib.hid (fun v (hv : Below w.heap.size w v) => (LkK.known_any v).mono fun e w' (h : e = .returned (.bool true) ∧ Below v.heap.size v w') => (⟨h.1, hv.trans (h.2.mono hv.size)⟩ : e = .returned (.bool true) ∧ Below w.heap.size w w'))
  have HR := Lib.hid wr0
  obtain ⟨W, hW0, hW8, hW⟩ := who8 a1
  have HN := Lib.hid (two_new w 48 53 (by decide))
  clear wr0 wx0
  go_enter Try.func5, Try.ntmps5
  go_wp2_with fail
  refine (new_any w).mono ?_
  rintro e v1 ⟨rfl, _, rfl⟩
  go_wp2_with fail
  refine (new_any _).mono ?_
  rintro e v2 ⟨rfl, _, rfl⟩
  generalize ((w.alloc (.cells #[.slice none 0 0] 48)).alloc (.cells #[.slice none 0 0] 48)) = v2 at *
  go_upto_block 0 with fail
  go_cut [7, 8, 9] (fun s1 s2 s3 wx => (∃ z : Value, s1 = z) ∧ (∃ z : Value, s2 = z) ∧ (∃ z : Value, s3 = z) ∧ ∃ hs, K2 48 53 48 53 w wx w.heap.size hs (w.heap.size + 1) (others W hs) [] ∧ Few 60 hs ∧ Own8 hs)
  case first =>
    go_wp2_with fail
    go_loopw [7, 8, 9] (fun i _ _ wr => ∃ j : Nat, j ≤ l0.length ∧ j ≤ 60 ∧ i = .int .i64 j ∧ ∃ hs, K2 48 53 48 53 w wr w.heap.size hs (w.heap.size + 1) (others W hs) [] ∧ Few j hs ∧ Own8 hs) (fun i _ _ _ => l0.length - (intOf i).toNat)
    case atStart => exact ⟨0, Nat.zero_le _, by omega, rfl, [], HN.out, ⟨by simp, by simp⟩, by intro h hh; cases hh⟩
    case round =>
      obtain ⟨j, hj, hj60, rfl, hs, hk, hfew, hown⟩ := hrel
      have HKS := Lib.hid hk
      have HF := Lib.hid hfew
      have HO := Lib.hid hown
      have HFo : Hid (Few j (others W hs)) := Lib.hid ⟨Nat.le_trans (List.length_filter_le _ _) hfew.1, fun x hx => hfew.2 x (List.mem_filter.1 hx).1⟩
      have hlow := hk.low
      clear hk hfew hown
      by_cases hgo : j < l0.length ∧ j < 60
      · obtain ⟨hlt, h60⟩ := hgo
        obtain ⟨ab, ao, rfl, hab, q0, q1, q2, q3⟩ := OpenL.act_at (HR.out.below hlow) hlt
        have hj1 : (j : Int) < (l0.length : Int) := by omega
        have hj2 : (j : Int) < 60 := by omega
        have HBar : Hid (∀ v, Below wr.heap.size wr v → ∃ hs, K2 48 53 48 53 w v w.heap.size hs (w.heap.size + 1) (others W hs) [] ∧ Few (j + 1) hs ∧ Own8 hs) := Lib.hid (fun v hv => ⟨hs, HKS.out.later hv, few_more HF.out (by omega), HO.out⟩)
        have HM : Hid (intOf (.int .i64 ((j : Int) + 1)) = (j : Int) + 1) := Lib.hid rfl
        generalize l0[j] = x at *
        obtain ⟨xk, xa, xw, xA, xc, xn⟩ := x
        simp only at q0 q1 q2 q3
        have hal : Below wr.heap.size wr (wr.alloc (.cells #[.int .i64 xk, .int .i64 xa, .int .i64 xw, .slice xA xn.length xc] 31)) := (Below.refl _ wr).alloc (Nat.le_refl _) _
        have HAl := Lib.hid hal
        clear hal
        by_cases h5 : 5 ≤ xk
        · go_wp2_with fail
          go_roundw
          case rel =>
            obtain ⟨hs', g1, g2, g3⟩ := HBar.out _ HAl.out
            exact ⟨j + 1, by omega, by omega, by go_num, hs', g1, g2, g3⟩
          case measure => simp [intOf]; omega
        · by_cases ha1 : xa < 1
          · go_wp2_with fail
            go_roundw
            case rel =>
              obtain ⟨hs', g1, g2, g3⟩ := HBar.out _ HAl.out
              exact ⟨j + 1, by omega, by omega, by go_num, hs', g1, g2, g3⟩
            case measure => simp [intOf]; omega
          · obtain ⟨V, hV0, hV8, hV⟩ := who8 xw
            obtain ⟨T, hT8, hT⟩ := at8 xa hV0 hV8
            by_cases hT1 : T < 1
            · go_wp2_with fail
              go_roundw
              case rel =>
                obtain ⟨hs', g1, g2, g3⟩ := HBar.out _ HAl.out
                exact ⟨j + 1, by omega, by omega, by go_num, hs', g1, g2, g3⟩
              case measure => simp [intOf]; omega
            · by_cases hk3 : xk < 3
              · skip
                have HC := Lib.hid (enter_k2 (HKS.out.alloc #[.int .i64 xk, .int .i64 xa, .int .i64 xw, .slice xA xn.length xc] 31) (N := j) (by omega) HF.out T V)
                have HF2 : Hid (Few (j + 1) (enterT hs T V).2) := Lib.hid (few_enter HF.out T V)
                have HO2 : Hid (Own8 (enterT hs T V).2) := Lib.hid (by rw [ent_eq (show ¬ T < 1 by omega)]; exact own_ent hT8 HO.out)
                have HSf : Hid (V = W → others W (enterT hs T V).2 = others W hs) := Lib.hid (fun e => by subst e; rw [ent_eq (show ¬ T < 1 by omega)]; exact ent_self hT8 HO.out)
                have HOt : Hid (V ≠ W → others W (enterT hs T V).2 = (enterT (others W hs) T V).2) := Lib.hid (fun e => by rw [ent_eq (show ¬ T < 1 by omega), ent_eq (show ¬ T < 1 by omega)]; exact ent_oth hT8 e HO.out)
                have HD := Lib.hid (fun (v : World) (h : K2 48 53 48 53 w v w.heap.size (enterT hs T V).2 (w.heap.size + 1) (others W hs) [(wr.heap.size, #[.int .i64 xk, .int .i64 xa, .int .i64 xw, .slice xA xn.length xc], 31)]) => enter_k2 h.swap (N := j) (by omega) HFo.out T V)
                generalize enterT (others W hs) T V = Q at *
                obtain ⟨Q1, Q2⟩ := Q
                generalize enterT hs T V = R at *
                obtain ⟨R1, R2⟩ := R
                by_cases hVW : V = W
                · have HSf2 := Lib.hid (HSf.out hVW)
                  have hVW1 : (V != W) = false := by simpa using hVW
                  clear HSf HOt HD HFo hVW hT8
                  go_wp2_with fail
                  refine HC.out.mono ?_
                  rintro e v2 ⟨rfl, hk2⟩
                  have HK2 := Lib.hid hk2
                  have hbx : Bx v2 wr.heap.size #[.int .i64 xk, .int .i64 xa, .int .i64 xw, .slice xA xn.length xc] 31 := hk2.bx List.mem_cons_self
                  have p0 := hbx.cell 0
                  have p1 := hbx.cell 1
                  have p2 := hbx.cell 2
                  clear hk2 hbx
                  go_wp2_with fail
                  go_roundw
                  case rel => exact ⟨j + 1, by omega, by omega, by go_num, R2, by rw [HSf2.out]; exact HK2.out.bare, HF2.out, HO2.out⟩
                  case measure => simp [intOf]; omega
                · have HOt2 := Lib.hid (HOt.out hVW)
                  have hVW1 : (V != W) = true := by simpa using hVW
                  clear HSf HOt HFo hVW hT8
                  go_wp2_with fail
                  refine HC.out.mono ?_
                  rintro e v2 ⟨rfl, hk2⟩
                  have HDv := Lib.hid (HD.out v2 hk2)
                  have hbx : Bx v2 wr.heap.size #[.int .i64 xk, .int .i64 xa, .int .i64 xw, .slice xA xn.length xc] 31 := hk2.bx List.mem_cons_self
                  have p0 := hbx.cell 0
                  have p1 := hbx.cell 1
                  have p2 := hbx.cell 2
                  clear hk2 hbx HD HC
                  go_wp2_with fail
                  refine HDv.out.mono ?_
                  rintro e v3 ⟨rfl, hk3⟩
                  have HK3 := Lib.hid hk3
                  clear hk3
                  go_wp2_with fail
                  go_roundw
                  case rel => exact ⟨j + 1, by omega, by omega, by go_num, R2, by rw [HOt2.out]; exact HK3.out.swap.bare, HF2.out, HO2.out⟩
                  case measure => simp [intOf]; omega
              · skip
                have HC := Lib.hid (exit_k2 (HKS.out.alloc #[.int .i64 xk, .int .i64 xa, .int .i64 xw, .slice xA xn.length xc] 31) (N := j) (by omega) HF.out T V)
                have HF2 : Hid (Few (j + 1) (exitT hs T V).2) := Lib.hid (few_more (few_exit HF.out T V) (by omega))
                have HO2 : Hid (Own8 (exitT hs T V).2) := Lib.hid (by rw [ex_eq T]; exact own_ex HO.out)
                have HSf : Hid (V = W → others W (exitT hs T V).2 = others W hs) := Lib.hid (fun e => by subst e; rw [ex_eq T]; exact ex_self hT8 HO.out)
                have HOt : Hid (V ≠ W → others W (exitT hs T V).2 = (exitT (others W hs) T V).2) := Lib.hid (fun e => by rw [ex_eq T, ex_eq T]; exact ex_oth hT8 e HO.out)
                have HD := Lib.hid (fun (v : World) (h : K2 48 53 48 53 w v w.heap.size (exitT hs T V).2 (w.heap.size + 1) (others W hs) [(wr.heap.size, #[.int .i64 xk, .int .i64 xa, .int .i64 xw, .slice xA xn.length xc], 31)]) => exit_k2 h.swap (N := j) (by omega) HFo.out T V)
                generalize exitT (others W hs) T V = Q at *
                obtain ⟨Q1, Q2⟩ := Q
                generalize exitT hs T V = R at *
                obtain ⟨R1, R2⟩ := R
                by_cases hVW : V = W
                · have HSf2 := Lib.hid (HSf.out hVW)
                  have hVW1 : (V != W) = false := by simpa using hVW
                  clear HSf HOt HD HFo hVW hT8
                  go_wp2_with fail
                  refine HC.out.mono ?_
                  rintro e v2 ⟨rfl, hk2⟩
                  have HK2 := Lib.hid hk2
                  have hbx : Bx v2 wr.heap.size #[.int .i64 xk, .int .i64 xa, .int .i64 xw, .slice xA xn.length xc] 31 := hk2.bx List.mem_cons_self
                  have p0 := hbx.cell 0
                  have p1 := hbx.cell 1
                  have p2 := hbx.cell 2
                  clear hk2 hbx
                  go_wp2_with fail
                  go_roundw
                  case rel => exact ⟨j + 1, by omega, by omega, by go_num, R2, by rw [HSf2.out]; exact HK2.out.bare, HF2.out, HO2.out⟩
                  case measure => simp [intOf]; omega
                · have HOt2 := Lib.hid (HOt.out hVW)
                  have hVW1 : (V != W) = true := by simpa using hVW
                  clear HSf HOt HFo hVW hT8
                  go_wp2_with fail
                  refine HC.out.mono ?_
                  rintro e v2 ⟨rfl, hk2⟩
                  have HDv := Lib.hid (HD.out v2 hk2)
                  have hbx : Bx v2 wr.heap.size #[.int .i64 xk, .int .i64 xa, .int .i64 xw, .slice xA xn.length xc] 31 := hk2.bx List.mem_cons_self
                  have p0 := hbx.cell 0
                  have p1 := hbx.cell 1
                  have p2 := hbx.cell 2
                  clear hk2 hbx HD HC
                  go_wp2_with fail
                  refine HDv.out.mono ?_
                  rintro e v3 ⟨rfl, hk3⟩
                  have HK3 := Lib.hid hk3
                  clear hk3
                  go_wp2_with fail
                  go_roundw
                  case rel => exact ⟨j + 1, by omega, by omega, by go_num, R2, by rw [HOt2.out]; exact HK3.out.swap.bare, HF2.out, HO2.out⟩
                  case measure => simp [intOf]; omega
      · have HF60 := Lib.hid (few_more HF.out hj60)
        by_cases hlt2 : j < l0.length
        · have hj1 : (j : Int) < (l0.length : Int) := by omega
          have hj2 : ¬ (j : Int) < 60 := by omega
          go_wp2_with fail
          go_meet
          exact ⟨⟨_, rfl⟩, ⟨_, rfl⟩, ⟨_, rfl⟩, hs, HKS.out, HF60.out, HO.out⟩
        · have hj1 : ¬ (j : Int) < (l0.length : Int) := by omega
          go_wp2_with fail
          go_meet
          exact ⟨⟨_, rfl⟩, ⟨_, rfl⟩, ⟨_, rfl⟩, hs, HKS.out, HF60.out, HO.out⟩
  case rest =>
    obtain ⟨⟨z1, rfl⟩, ⟨z2, rfl⟩, ⟨z3, rfl⟩, hs, hk, hf, ho⟩ := hcut
    have hl := hf.1
    have hlo : (others W hs).length ≤ 60 := Nat.le_trans (List.length_filter_le _ _) hl
    have HFr : Hid (Calls Try.prog 19 #[.pointer (some ⟨w.heap.size, 0, none⟩), .int .i64 W] wc fun e w' => e = .returned (.int .i64 (ofT hs W : Int)) ∧ K2 48 53 48 53 w w' w.heap.size (others W hs) (w.heap.size + 1) (others W hs) []) := Lib.hid (free_k2 hk (by omega) W)
    have HH1 := Lib.hid (fun (v : World) (h : K2 48 53 48 53 w v w.heap.size (others W hs) (w.heap.size + 1) (others W hs) []) => held_k2 h (by omega))
    have HH2 := Lib.hid (fun (v : World) (h : K2 48 53 48 53 w v w.heap.size (others W hs) (w.heap.size + 1) (others W hs) []) => held_k2 h.swap (by omega))
    have hlo2 : ((others W hs).map Ho.a).length ≤ 60 := by rw [List.length_map]; exact hlo
    clear hk hf ho HN HR
    generalize others W hs = M at *
    generalize M.map Ho.a = L at *
    generalize ofT hs W = cnt at *
    go_wp2_with fail
    refine HFr.out.mono ?_
    rintro e v3 ⟨rfl, hk3⟩
    have K3 := Lib.hid hk3
    clear hk3
    go_wp2_with fail
    refine (HH1.out v3 K3.out).mono ?_
    rintro e v4 ⟨x4, rfl, ho4, hb4⟩
    have O4 := Lib.hid ho4
    have K4 := Lib.hid (K3.out.later hb4)
    clear ho4 hb4
    go_wp2_with fail
    refine (HH2.out v4 K4.out).mono ?_
    rintro e v5 ⟨x5, rfl, ho5, hb5⟩
    have K5 := Lib.hid (K4.out.later hb5)
    have O45 := own_same (w' := v5) O4.out (fun k hk => hb5.block k (O4.out.lt k hk).2)
    obtain ⟨A4, c4, rfl, _, _, _⟩ := own_slice O45
    obtain ⟨A5, c5, rfl, _, _, _⟩ := own_slice ho5
    have HSm := Lib.hid ((same_any A4 A5 L.length L.length c4 c5 (L) (L) v5 rfl rfl (by omega) (by omega) (Rds.own O45) (Rds.own ho5)).mono (R' := fun e w' => e = .returned (.bool true) ∧ ∃ q, w' = v5.drewN q) (fun e w' h => ⟨h.1.trans (by rw [decide_eq_true (rfl : L = L)]), h.2⟩))
    clear O45 ho5 hb5 O4
    go_wp2_with fail
    refine HSm.out.mono ?_
    rintro e v6 ⟨rfl, q, rfl⟩
    have B6 := Lib.hid (bel_drewN K5.out.low q)
    go_wp2_with (go_at_call 8; refine (HK.out _ B6.out).mono ?_; rintro e v7 ⟨rfl, hb7⟩)
    go_ret
    exact ⟨rfl, hb7⟩
end WLockApart
end Go.Proofs.Ytkjkofdjnjihjaa
