/-
  Whether a bundle can be, by the document's own.
-/
import Derived.Test.YthkkcecfenohjaaGreatDoorPckY
namespace Go.Proofs.YthkkcecfenohjaaGreatDoor
namespace PckZ
open Go.RowKit Base BinM DescM Stru PoolM InsM InsA InsC InsD InsE PutN Kls KlsP KlsQ KlsX Pck PckC PckF PckQ PckX PckY OpenP
open Part (Row)

set_option maxRecDepth 100000 in
set_option maxHeartbeats 16000000 in
theorem refRight_any (x : BunT) (w : World) (hx : x.is w) (hl : BunT.lt x) :
    Calls Tryz.prog 30 #[x.V] w fun e w' => e = .returned (.int .i64 (bunE x)) ∧ Below w.heap.size w w' := by
  have HatK := Lib.hid (fun (q : List UInt8) (W : World) (hb : Below w.heap.size w W) => refAtK_any x q W (hx.below hb))
  have HatT := Lib.hid (fun (q : List UInt8) (W : World) (hb : Below w.heap.size w W) => refAtT_any x q W (hx.below hb))
  have Hrt := Lib.hid (fun (y : ClsT) (hy : y ∈ x.classes) (W : World) (hb : Below w.heap.size w W) => KlsX.refRight_any y W ((hx.classes.each y hy).below hb) (hl.classes y hy))
  have Hput := Lib.hid (fun (y : TrnT) (hy : y ∈ x.turns) (W : World) (hb : Below w.heap.size w W) => refConsts_any y.kA y.km y.kc y.consts W ((hx.turns.each y hy).consts.below hb) (hl.turns y hy).consts)
  have Hmv := Lib.hid (fun (y : TrnT) (hy : y ∈ x.turns) (k : Nat) (hk : k < y.moves.length) (W : World) (hb : Below w.heap.size w W) => refMove_any y k hk W ((hx.turns.each y hy).below hb) (hl.turns y hy))
  have HIm := Lib.hid (fun (y : TrnT) (hy : y ∈ x.turns) => (hx.turns.each y hy).moves)
  have Hc := Lib.hid (show IsClss w x.cA x.cm x.cc x.classes from hx.classes)
  have Ht := Lib.hid (show IsTrns w x.tA x.tm x.tc x.turns from hx.turns)
  have hcl : x.classes.length ≤ x.cm := Nat.le_of_eq hx.classes.len.symm
  have hcl2 : x.cm ≤ x.classes.length := Nat.le_of_eq hx.classes.len
  have hcx : x.cm ≤ maxLen := Nat.le_trans hx.classes.le hx.classes.max
  have htl : x.turns.length ≤ x.tm := Nat.le_of_eq hx.turns.len.symm
  have htl2 : x.tm ≤ x.turns.length := Nat.le_of_eq hx.turns.len
  have htx : x.tm ≤ maxLen := Nat.le_trans hx.turns.le hx.turns.max
  unfold maxLen at hcx htx
  clear hx hl
  have HE := Lib.hid (show bunE x = if clssE x.classes ≠ 0 then clssE x.classes else trnsE x.classes x.turns from rfl)
  have HB := Lib.hid ((Below.refl w.heap.size w).alloc (Nat.le_refl _) (.cells #[.slice x.cA x.cm x.cc, .slice x.tA x.tm x.tc] 48))
  have R0 := Lib.hid (Row.new w #[.slice x.cA x.cm x.cc, .slice x.tA x.tm x.tc] 48)
  generalize bunE x = R at *
  obtain ⟨cA, cm, cc, tA, tm, tc, cs, ts⟩ := x
  simp only [BunT.V] at *
  by_cases hs : 32 < cm
  · have Hq := Lib.hid (show R = 6 by
      have h : clssE cs = 6 := by unfold clssE; rw [if_pos (by omega)]
      rw [HE.out, h]; rfl)
    go_enter Tryz.func30, Tryz.ntmps30
    go_wp2_with fail
    go_ret
    exact ⟨ret_i Hq.out.symm, HB.out⟩
  · have HC := Lib.hid (show clssE cs = firstI (ckE cs) cs by unfold clssE; rw [if_neg (by omega)])
    have HE1 := Lib.hid (fun (E : Int) (h : firstI (ckE cs) cs = E) (h2 : E ≠ 0) => show R = E by rw [HE.out, HC.out, h, if_pos h2])
    have HE2 := Lib.hid (fun (h : firstI (ckE cs) cs = 0) => show R = trnsE cs ts by rw [HE.out, HC.out, h, if_neg (by simp)])
    go_enter Tryz.func30, Tryz.ntmps30
    go_wp2_with fail
    generalize w.alloc (.cells #[.slice cA cm cc, .slice tA tm tc] 48) = W0 at *
    go_loopw [3] (fun i wr => ∃ j : Nat, j ≤ cm ∧ i = .int .i64 j ∧ (∀ k (hk : k < cs.length), k < j → ckE cs k cs[k] = 0) ∧ Below W0.heap.size W0 wr) (fun i _ => cm - (intOf i).toNat)
    case atStart => exact ⟨0, Nat.zero_le _, rfl, by intro k _ h; omega, Below.refl _ _⟩
    case round =>
      obtain ⟨j, hj, rfl, hall, hbel⟩ := hrel
      have Hall := Lib.hid hall
      have Hbel := Lib.hid hbel
      have B1 := Lib.hid (HB.out.trans (hbel.mono HB.out.size))
      have R1 := Lib.hid (R0.out.after hbel)
      clear hall hbel
      have g0 : wr.cell? ⟨w.heap.size, 0, none⟩ = some (.slice cA cm cc) := R1.out.cell 0
      have g1 : wr.cell? ⟨w.heap.size, 1, none⟩ = some (.slice tA tm tc) := R1.out.cell 1
      by_cases hlt : j < cm
      · have hja : j < cs.length := by omega
        obtain ⟨b1, o1, rfl, hb1, hc0, hc1, hc2, hc3, hc4⟩ := cls_at (Hc.out.rds.below B1.out) hja
        have hj1 : (j : Int) < (cm : Int) := by omega
        have hj0 : (0 : Int) ≤ (j : Int) := by omega
        have Hhit := Lib.hid (fun hne => firstI_hit hja Hall.out hne)
        have Hnext := Lib.hid (fun h0 => firstI_next Hall.out hja h0)
        have Ha := Lib.hid (fun (E : Int) (h : clsE (cs[j]'hja) = E) h2 => ck_bad (cs := cs) (i := j) (E := E) h h2)
        have Hb := Lib.hid (fun (h : clsE (cs[j]'hja) = 0) h2 => ck_twice (cs := cs) (i := j) h h2)
        have Hk := Lib.hid (fun (h : clsE (cs[j]'hja) = 0) h2 => ck_ok (cs := cs) (i := j) h h2)
        have hrt := Hrt.out _ (List.getElem_mem hja)
        generalize cs[j] = x at *
        generalize ckE cs j x = E at *
        generalize clsE x = C at *
        obtain ⟨x0, x1, x2, x3, x4, x5, x6, x7, x8, x9, x10, x11, x12, x13⟩ := x
        simp only [ClsT.V] at hc0 hc1 hc2 hc3 hc4 hrt
        have Hr2 := Lib.hid hrt
        clear hrt
        go_wp2_with fail
        refine Calls.mono (Hr2.out _ B1.out) ?_
        rintro e w3 ⟨rfl, hb3⟩
        have B3 := Lib.hid (B1.out.trans (hb3.mono B1.out.size))
        have W3 := Lib.hid (Hbel.out.trans (hb3.mono Hbel.out.size))
        have R3 := Lib.hid (R1.out.after hb3)
        have q0 := Lib.hid ((hb3.cell (p := ⟨b1, o1 + j * 5, none⟩) hb1).trans hc0)
        have hb1' : b1 < w3.heap.size := Nat.lt_of_lt_of_le hb1 hb3.size
        clear hb3 g0 g1 hc0 hc1 hc2 hc3 hc4
        by_cases hC : C = 0
        · have Hb2 := Lib.hid (fun h2 => Hb.out hC h2)
          have Hk2 := Lib.hid (fun h2 => Hk.out hC h2)
          subst hC
          have g0 : w3.cell? ⟨w.heap.size, 0, none⟩ = some (.slice (some ⟨b1, o1, none⟩) cm cc) := R3.out.cell 0
          have g1 : w3.cell? ⟨w.heap.size, 1, none⟩ = some (.slice tA tm tc) := R3.out.cell 1
          have hc0 := q0.out
          have Hat2 := Lib.hid (HatK.out x0)
          generalize findP (nameK x0) cs = F at *
          go_wp2_with fail
          go_region_held3 (fun w' => w'.cell? ⟨w.heap.size, 0, none⟩ = some (.slice (some ⟨b1, o1, none⟩) cm cc) ∧ w'.cell? ⟨w.heap.size, 1, none⟩ = some (.slice tA tm tc) ∧ w'.cell? ⟨b1, o1 + j * 5, none⟩ = some (.string ⟨x0.toArray⟩))
            (first | exact ⟨g0, g1, hc0⟩ | go_keep)
            (first
              | (go_at_call 32; refine Calls.mono (Hat2.out _ B3.out.drew) ?_; rintro e w4 ⟨rfl, hb4⟩
                 have B4 := Lib.hid (B3.out.drew.trans (hb4.mono B3.out.size))
                 have W4 := Lib.hid (W3.out.drew.trans (hb4.mono W3.out.size))
                 have K0 := Lib.hid ((hb4.cell (p := ⟨w.heap.size, 0, none⟩) R3.out.lt).trans g0)
                 have K1 := Lib.hid ((hb4.cell (p := ⟨w.heap.size, 1, none⟩) R3.out.lt).trans g1)
                 have K2 := Lib.hid ((hb4.cell (p := ⟨b1, o1 + j * 5, none⟩) hb1').trans hc0)
                 clear hb4 g0 g1 hc0
                 have g0 := K0.out
                 have g1 := K1.out
                 have hc0 := K2.out))
          all_goals
            by_cases hF : F < (j : Int)
            · have Hq := Lib.hid (Hb2.out (by omega))
              have Hf := Lib.hid (HE1.out 8 (by rw [Hhit.out (by rw [Hq.out]; decide), Hq.out]) (by decide))
              go_wp2_with fail
              go_ret
              exact ⟨ret_i Hf.out.symm, B4.out⟩
            · have Hq := Lib.hid (Hk2.out (by omega))
              have Hf := Lib.hid (Hnext.out Hq.out)
              have hF2 : decide (F < (j : Int)) = false := decide_eq_false hF
              go_wp2_with fail
              go_roundw
              case rel => exact ⟨j + 1, by omega, by go_num, Hf.out, W4.out⟩
              case measure => simp [intOf]; omega
        · have Hq := Lib.hid (Ha.out C rfl hC)
          have Hf := Lib.hid (HE1.out C (by rw [Hhit.out (by rw [Hq.out]; exact hC), Hq.out]) hC)
          have hC2 : (C != 0) = true := by simp [hC]
          clear hC
          go_wp2_with fail
          go_ret
          exact ⟨ret_i Hf.out.symm, B3.out⟩
      · have Hq := Lib.hid (HE2.out (firstI_none (fun i hi => Hall.out i hi (by omega))))
        by_cases hts : 32 < tm
        · have Hr := Lib.hid (show R = 6 by rw [Hq.out]; unfold trnsE; rw [if_pos (by omega)])
          go_wp2_with fail
          go_ret
          exact ⟨ret_i Hr.out.symm, B1.out⟩
        · have Hr := Lib.hid (show R = firstI (trnE cs ts) ts by rw [Hq.out]; unfold trnsE; rw [if_neg (by omega)])
          go_wp2_with fail
          clear g0 g1
          obtain ⟨wo, hwo⟩ : ∃ wo : World, wo = wr := ⟨_, rfl⟩
          subst hwo
          go_loopw [5] (fun i wr => ∃ j : Nat, j ≤ tm ∧ i = .int .i64 j ∧ (∀ k (hk : k < ts.length), k < j → trnE cs ts k ts[k] = 0) ∧ Below wo.heap.size wo wr) (fun i _ => tm - (intOf i).toNat)
          case atStart => exact ⟨0, Nat.zero_le _, rfl, by intro k _ h; omega, Below.refl _ _⟩
          case round =>
            obtain ⟨j, hj, rfl, hall, hbel⟩ := hrel
            have Hall := Lib.hid hall
            have Hbel := Lib.hid hbel
            have B2 := Lib.hid (B1.out.trans (hbel.mono B1.out.size))
            have R2 := Lib.hid (R1.out.after hbel)
            clear hall hbel
            have g1 := R2.out.cell 1
            by_cases hlt : j < tm
            · have hja : j < ts.length := by omega
              obtain ⟨b1, o1, rfl, hb1, hc0, hc1, hc2⟩ := trn_at (Ht.out.rds.below B2.out) hja
              have hj1 : (j : Int) < (tm : Int) := by omega
              have hj0 : (0 : Int) ≤ (j : Int) := by omega
              have Hhit := Lib.hid (fun hne => firstI_hit hja Hall.out hne)
              have Hnext := Lib.hid (fun h0 => firstI_next Hall.out hja h0)
              have Ha := Lib.hid (fun (h : findP (nameK (ts[j]'hja).cls) cs < 0) => trn_none (cs := cs) (ts := ts) (i := j) h)
              have Hb := Lib.hid (fun (h : ¬ findP (nameK (ts[j]'hja).cls) cs < 0) h2 => trn_twice (cs := cs) (ts := ts) (i := j) h h2)
              have Hc3 := Lib.hid (fun (h : ¬ findP (nameK (ts[j]'hja).cls) cs < 0) h2 (E : Int) h3 h4 => trn_consts (cs := cs) (ts := ts) (i := j) h h2 (E := E) h3 h4)
              have Hd := Lib.hid (fun (h : ¬ findP (nameK (ts[j]'hja).cls) cs < 0) h2 h3 => trn_moves (cs := cs) (ts := ts) (i := j) h h2 h3)
              have hput := Hput.out _ (List.getElem_mem hja)
              have hmv := Hmv.out _ (List.getElem_mem hja)
              have him := HIm.out _ (List.getElem_mem hja)
              generalize ts[j] = x at *
              generalize trnE cs ts j x = E at *
              generalize allC [] x.consts = K at *
              obtain ⟨x0, x1, x2, x3, x4, x5, x6, x7, x8⟩ := x
              obtain ⟨K0, K1⟩ := K
              simp only [TrnT.V] at hc0 hc1 hc2 hput hmv him
              have Hp2 := Lib.hid hput
              have Hm2 := Lib.hid hmv
              have hvl : x8.length ≤ x5 := Nat.le_of_eq him.len.symm
              have hvl2 : x5 ≤ x8.length := Nat.le_of_eq him.len
              have hvx : x5 ≤ maxLen := Nat.le_trans him.le him.max
              unfold maxLen at hvx
              clear hput hmv him
              have HA := Lib.hid ((Below.refl wr.heap.size wr).alloc (Nat.le_refl _) (.cells #[.string ⟨x0.toArray⟩, .slice x1 x2 x3, .slice x4 x5 x6] 103))
              have RM := Lib.hid (Row.new wr #[.string ⟨x0.toArray⟩, .slice x1 x2 x3, .slice x4 x5 x6] 103)
              have BA := Lib.hid (B2.out.trans (HA.out.mono B2.out.size))
              have WA := Lib.hid (Hbel.out.trans (HA.out.mono Hbel.out.size))
              have RA := Lib.hid (R2.out.after HA.out)
              have a0 := RA.out.cell 0
              have a1 := RA.out.cell 1
              have HatT2 := Lib.hid (HatT.out x0)
              generalize findP (nameT x0) ts = G at *
              go_wp2_with fail
              refine Calls.mono (HatK.out x0 _ BA.out) ?_
              rintro e w3 ⟨rfl, hb3⟩
              have B3 := Lib.hid (BA.out.trans (hb3.mono BA.out.size))
              have W3 := Lib.hid (WA.out.trans (hb3.mono WA.out.size))
              have R3 := Lib.hid (RA.out.after hb3)
              have M3 := Lib.hid (RM.out.after hb3)
              clear hb3 g1 a0 a1 hc0 hc1 hc2
              generalize findP (nameK x0) cs = F at *
              have m0 := M3.out.cell 0
              by_cases hF : F < 0
              · have Hz := Lib.hid (Ha.out (by omega))
                have Hf := Lib.hid (show R = 9 by rw [Hr.out, Hhit.out (by rw [Hz.out]; decide), Hz.out])
                go_wp2_with fail
                go_ret
                exact ⟨ret_i Hf.out.symm, B3.out⟩
              · have Hb2 := Lib.hid (fun h2 => Hb.out (by omega) h2)
                have Hc2 := Lib.hid (fun h2 (E : Int) h3 h4 => Hc3.out (by omega) h2 E h3 h4)
                have Hd2 := Lib.hid (fun h2 h3 => Hd.out (by omega) h2 h3)
                have hF2 : decide (F < 0) = false := decide_eq_false hF
                have g0 := R3.out.cell 0
                have g1 := R3.out.cell 1
                go_wp2_with fail
                refine Calls.mono (HatT2.out _ B3.out) ?_
                rintro e w4 ⟨rfl, hb4⟩
                have B4 := Lib.hid (B3.out.trans (hb4.mono B3.out.size))
                have W4 := Lib.hid (W3.out.trans (hb4.mono W3.out.size))
                have M4 := Lib.hid (M3.out.after hb4)
                clear hb4 g0 g1 m0 hF2 hF
                have m1 := M4.out.cell 1
                by_cases hG : G < (j : Int)
                · have Hz := Lib.hid (Hb2.out (by omega))
                  have Hf := Lib.hid (show R = 8 by rw [Hr.out, Hhit.out (by rw [Hz.out]; decide), Hz.out])
                  go_wp2_with fail
                  go_ret
                  exact ⟨ret_i Hf.out.symm, B4.out⟩
                · have Hc4 := Lib.hid (fun (E : Int) h3 h4 => Hc2.out (by omega) E h3 h4)
                  have Hd4 := Lib.hid (fun h3 => Hd2.out (by omega) h3)
                  have hG2 : decide (G < (j : Int)) = false := decide_eq_false hG
                  go_wp2_with fail
                  refine Calls.mono (Hp2.out _ B4.out) ?_
                  rintro e w5 ⟨rfl, hb5⟩
                  have B5 := Lib.hid (B4.out.trans (hb5.mono B4.out.size))
                  have W5 := Lib.hid (W4.out.trans (hb5.mono W4.out.size))
                  have M5 := Lib.hid (M4.out.after hb5)
                  clear hb5 m1 hG2 hG
                  by_cases hK : K1 = 0
                  · have Hz := Lib.hid (Hd4.out hK)
                    subst hK
                    have m2 := M5.out.cell 2
                    by_cases hms : 16 < x5
                    · have Hy := Lib.hid (show E = 6 by rw [Hz.out]; unfold movsE; rw [if_pos (by omega)])
                      have Hf := Lib.hid (show R = 6 by rw [Hr.out, Hhit.out (by rw [Hy.out]; decide), Hy.out])
                      go_wp2_with fail
                      go_ret
                      exact ⟨ret_i Hf.out.symm, B5.out⟩
                    · have Hy := Lib.hid (show E = firstI (movE x8 x7) x8 by rw [Hz.out]; unfold movsE; rw [if_neg (by omega)])
                      go_wp2_with fail
                      clear m2
                      go_loopw [8] (fun i wr => ∃ k : Nat, k ≤ x5 ∧ i = .int .i64 k ∧ (∀ q (hq : q < x8.length), q < k → movE x8 x7 q x8[q] = 0) ∧ Below w5.heap.size w5 wr) (fun i _ => x5 - (intOf i).toNat)
                      case atStart => exact ⟨0, Nat.zero_le _, rfl, by intro k _ h; omega, Below.refl _ _⟩
                      case round =>
                        obtain ⟨k, hk, rfl, hall2, hbel2⟩ := hrel
                        have Hall2 := Lib.hid hall2
                        have B6 := Lib.hid (B5.out.trans (hbel2.mono B5.out.size))
                        have W6 := Lib.hid (W5.out.trans (hbel2.mono W5.out.size))
                        have M6 := Lib.hid (M5.out.after hbel2)
                        have Hbel2 := Lib.hid hbel2
                        clear hall2 hbel2
                        have m0 := M6.out.cell 0
                        have m1 := M6.out.cell 1
                        have m2 := M6.out.cell 2
                        by_cases hlt2 : k < x5
                        · have hka : k < x8.length := by omega
                          have Hhit2 := Lib.hid (fun hne => firstI_hit hka Hall2.out hne)
                          have Hnext2 := Lib.hid (fun h0 => firstI_next Hall2.out hka h0)
                          have Hm3 := Lib.hid (Hm2.out k hka)
                          generalize movE x8 x7 k x8[k] = V at *
                          go_wp2_with fail
                          refine Calls.mono (Hm3.out _ B6.out) ?_
                          rintro e w7 ⟨rfl, hb7⟩
                          have B7 := Lib.hid (B6.out.trans (hb7.mono B6.out.size))
                          have K7 := Lib.hid (Hbel2.out.trans (hb7.mono Hbel2.out.size))
                          clear hb7 m0 m1 m2
                          by_cases hV : V = 0
                          · have Hf := Lib.hid (Hnext2.out hV)
                            subst hV
                            go_wp2_with fail
                            go_roundw
                            case rel => exact ⟨k + 1, by omega, by go_num, Hf.out, K7.out⟩
                            case measure => simp [intOf]; omega
                          · have Hf := Lib.hid (show R = V by
                              have e1 : E = V := by rw [Hy.out]; exact Hhit2.out hV
                              rw [Hr.out, Hhit.out (by rw [e1]; exact hV), e1])
                            have hV2 : (V != 0) = true := by simp [hV]
                            clear hV
                            go_wp2_with fail
                            go_ret
                            exact ⟨ret_i Hf.out.symm, B7.out⟩
                        · have Hf := Lib.hid (Hnext.out (by rw [Hy.out]; exact firstI_none (fun i hi => Hall2.out i hi (by omega))))
                          go_wp2_with fail
                          go_roundw
                          case rel => exact ⟨j + 1, by omega, by go_num, Hf.out, W6.out⟩
                          case measure => simp [intOf]; omega
                  · have Hz := Lib.hid (Hc4.out K1 rfl hK)
                    have Hf := Lib.hid (show R = K1 by rw [Hr.out, Hhit.out (by rw [Hz.out]; exact hK), Hz.out])
                    have hK2 : (K1 != 0) = true := by simp [hK]
                    clear hK
                    go_wp2_with fail
                    go_ret
                    exact ⟨ret_i Hf.out.symm, B5.out⟩
            · have Hf := Lib.hid (show R = 0 by rw [Hr.out]; exact firstI_none (fun i hi => Hall.out i hi (by omega)))
              go_wp2_with fail
              go_ret
              exact ⟨ret_i Hf.out.symm, B2.out⟩

end PckZ
end Go.Proofs.YthkkcecfenohjaaGreatDoor
