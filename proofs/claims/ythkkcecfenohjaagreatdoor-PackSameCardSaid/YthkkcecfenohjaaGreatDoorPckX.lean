/-
  Whether a bundle can be: pack.Right.
-/
import Derived.Test.YthkkcecfenohjaaGreatDoorPckQ
namespace Go.Proofs.YthkkcecfenohjaaGreatDoor
namespace PckX
open Go.RowKit Base BinM DescM Stru PoolM InsM InsA InsC InsD InsE PutN Kls KlsP KlsQ KlsX Pck PckC PckF PckQ OpenP
open Part (Row)

/-- why a bundle can not be -/
def ckE (cs : List ClsT) (i : Nat) (c : ClsT) : Int := if clsE c ≠ 0 then clsE c else if findP (nameK c.name) cs < (i : Int) then 8 else 0
def clssE (cs : List ClsT) : Int := if 32 < cs.length then 6 else firstI (ckE cs) cs
def trnE (cs : List ClsT) (ts : List TrnT) (i : Nat) (t : TrnT) : Int :=
  if findP (nameK t.cls) cs < 0 then 9 else if findP (nameT t.cls) ts < (i : Int) then 8 else if (allC [] t.consts).2 ≠ 0 then (allC [] t.consts).2 else movsE t.moves t.consts
def trnsE (cs : List ClsT) (ts : List TrnT) : Int := if 32 < ts.length then 6 else firstI (trnE cs ts) ts
def bunE (x : BunT) : Int := if clssE x.classes ≠ 0 then clssE x.classes else trnsE x.classes x.turns
theorem ck_bad {cs : List ClsT} {i : Nat} {c : ClsT} {E : Int} (h : clsE c = E) (h2 : E ≠ 0) : ckE cs i c = E := by unfold ckE; rw [h, if_pos h2]
theorem ck_twice {cs : List ClsT} {i : Nat} {c : ClsT} (h : clsE c = 0) (h2 : findP (nameK c.name) cs < (i : Int)) : ckE cs i c = 8 := by unfold ckE; rw [h, if_neg (by simp), if_pos h2]
theorem ck_ok {cs : List ClsT} {i : Nat} {c : ClsT} (h : clsE c = 0) (h2 : ¬ findP (nameK c.name) cs < (i : Int)) : ckE cs i c = 0 := by unfold ckE; rw [h, if_neg (by simp), if_neg h2]
theorem trn_none {cs : List ClsT} {ts : List TrnT} {i : Nat} {t : TrnT} (h : findP (nameK t.cls) cs < 0) : trnE cs ts i t = 9 := by unfold trnE; rw [if_pos h]
theorem trn_twice {cs : List ClsT} {ts : List TrnT} {i : Nat} {t : TrnT} (h : ¬ findP (nameK t.cls) cs < 0) (h2 : findP (nameT t.cls) ts < (i : Int)) : trnE cs ts i t = 8 := by unfold trnE; rw [if_neg h, if_pos h2]
theorem trn_consts {cs : List ClsT} {ts : List TrnT} {i : Nat} {t : TrnT} (h : ¬ findP (nameK t.cls) cs < 0) (h2 : ¬ findP (nameT t.cls) ts < (i : Int)) {E : Int} (h3 : (allC [] t.consts).2 = E) (h4 : E ≠ 0) : trnE cs ts i t = E := by unfold trnE; rw [if_neg h, if_neg h2, h3, if_pos h4]
theorem trn_moves {cs : List ClsT} {ts : List TrnT} {i : Nat} {t : TrnT} (h : ¬ findP (nameK t.cls) cs < 0) (h2 : ¬ findP (nameT t.cls) ts < (i : Int)) (h3 : (allC [] t.consts).2 = 0) : trnE cs ts i t = movsE t.moves t.consts := by unfold trnE; rw [if_neg h, if_neg h2, if_neg (by rw [h3]; simp)]

set_option maxRecDepth 100000 in
set_option maxHeartbeats 8000000 in
theorem classes_any (x : BunT) (w : World) (hL : Laid w) (hx : x.is w) (hl : BunT.lt x) :
    Calls Tryz.prog 74 #[x.V] w fun e w' => e = .returned (.int .i64 (clssE x.classes)) ∧ Below w.heap.size w w' := by
  have Hat := Lib.hid (fun (q : List UInt8) (W : World) (hb : Below w.heap.size w W) => atK_any x q W (hx.below hb))
  have Hrt := Lib.hid (fun (y : ClsT) (hy : y ∈ x.classes) (W : World) (hb : Below w.heap.size w W) => right_any y W (hL.below hb hL.1) ((hx.classes.each y hy).below hb) (hl.classes y hy))
  have H := Lib.hid (show IsClss w x.cA x.cm x.cc x.classes from hx.classes)
  have hml : x.classes.length ≤ x.cm := Nat.le_of_eq hx.classes.len.symm
  have hml2 : x.cm ≤ x.classes.length := Nat.le_of_eq hx.classes.len
  have hmx : x.cm ≤ maxLen := Nat.le_trans hx.classes.le hx.classes.max
  unfold maxLen at hmx
  clear hx hl hL
  have HB := Lib.hid ((Below.refl w.heap.size w).alloc (Nat.le_refl _) (.cells #[.slice x.cA x.cm x.cc, .slice x.tA x.tm x.tc] 48))
  have R0 := Lib.hid (Row.new w #[.slice x.cA x.cm x.cc, .slice x.tA x.tm x.tc] 48)
  obtain ⟨cA, cm, cc, tA, tm, tc, cs, ts⟩ := x
  simp only [BunT.V] at *
  by_cases hs : 32 < cm
  · have HH := Lib.hid (show clssE cs = 6 by unfold clssE; rw [if_pos (by omega)])
    go_enter Tryz.func74, Tryz.ntmps74
    go_wp2_with fail
    go_ret
    exact ⟨ret_i HH.out.symm, HB.out⟩
  · have HH := Lib.hid (show clssE cs = firstI (ckE cs) cs by unfold clssE; rw [if_neg (by omega)])
    go_enter Tryz.func74, Tryz.ntmps74
    go_wp2_with fail
    generalize w.alloc (.cells #[.slice cA cm cc, .slice tA tm tc] 48) = W0 at *
    go_loopw [3, 4, 13] (fun _ _ i wr => ∃ j : Nat, j ≤ cm ∧ i = .int .i64 j ∧ (∀ k (hk : k < cs.length), k < j → ckE cs k cs[k] = 0) ∧ Below W0.heap.size W0 wr) (fun _ _ i _ => cm - (intOf i).toNat)
    case atStart => exact ⟨0, Nat.zero_le _, rfl, by intro k _ h; omega, Below.refl _ _⟩
    case round =>
      obtain ⟨j, hj, rfl, hall, hbel⟩ := hrel
      have Hall := Lib.hid hall
      have Hbel := Lib.hid hbel
      have B1 := Lib.hid (HB.out.trans (hbel.mono HB.out.size))
      have R1 := Lib.hid (R0.out.after hbel)
      clear hall hbel
      by_cases hlt : j < cm
      · have hja : j < cs.length := by omega
        obtain ⟨b1, o1, rfl, hb1, hc0, hc1, hc2, hc3, hc4⟩ := cls_at (H.out.rds.below B1.out) hja
        have hj1 : (j : Int) < (cm : Int) := by omega
        have hj0 : (0 : Int) ≤ (j : Int) := by omega
        have Hhit := Lib.hid (fun hne => firstI_hit hja Hall.out hne)
        have Hnext := Lib.hid (fun h0 => firstI_next Hall.out hja h0)
        have Ha := Lib.hid (fun (E : Int) (h : clsE (cs[j]'hja) = E) h2 => ck_bad (cs := cs) (i := j) (E := E) h h2)
        have Hb := Lib.hid (fun (h : clsE (cs[j]'hja) = 0) h2 => ck_twice (cs := cs) (i := j) h h2)
        have Hc := Lib.hid (fun (h : clsE (cs[j]'hja) = 0) h2 => ck_ok (cs := cs) (i := j) h h2)
        have hrt := Hrt.out _ (List.getElem_mem hja)
        generalize cs[j] = x at *
        generalize ckE cs j x = E at *
        generalize clsE x = C at *
        obtain ⟨x0, x1, x2, x3, x4, x5, x6, x7, x8, x9, x10, x11, x12, x13⟩ := x
        simp only [ClsT.V] at hc0 hc1 hc2 hc3 hc4 hrt
        have Hr2 := Lib.hid hrt
        clear hrt
        have HA := Lib.hid ((Below.refl wr.heap.size wr).alloc (Nat.le_refl _) (.cells #[.string ⟨x0.toArray⟩, .string ⟨x1.toArray⟩, .slice x2 x3 x4, .slice x5 x6 x7, .slice x8 x9 x10] 26))
        have RM := Lib.hid (Row.new wr #[.string ⟨x0.toArray⟩, .string ⟨x1.toArray⟩, .slice x2 x3 x4, .slice x5 x6 x7, .slice x8 x9 x10] 26)
        have BA := Lib.hid (B1.out.trans (HA.out.mono B1.out.size))
        have WA := Lib.hid (Hbel.out.trans (HA.out.mono Hbel.out.size))
        have RA := Lib.hid (R1.out.after HA.out)
        go_wp2_with fail
        refine Calls.mono (Hr2.out _ BA.out) ?_
        rintro e w3 ⟨rfl, hb3⟩
        have B3 := Lib.hid (BA.out.trans (hb3.mono BA.out.size))
        have W3 := Lib.hid (WA.out.trans (hb3.mono WA.out.size))
        have R3 := Lib.hid (RA.out.after hb3)
        have M3 := Lib.hid (RM.out.after hb3)
        clear hb3
        by_cases hC : C = 0
        · have Hb2 := Lib.hid (fun h2 => Hb.out hC h2)
          have Hc2 := Lib.hid (fun h2 => Hc.out hC h2)
          subst hC
          have g0 := R3.out.cell 0
          have g1 := R3.out.cell 1
          have m0 := M3.out.cell 0
          go_wp2_with fail
          refine Calls.mono (Hat.out x0 _ B3.out) ?_
          rintro e w4 ⟨rfl, hb4⟩
          have B4 := Lib.hid (B3.out.trans (hb4.mono B3.out.size))
          have W4 := Lib.hid (W3.out.trans (hb4.mono W3.out.size))
          clear hb4 g0 g1 m0
          generalize findP (nameK x0) cs = F at *
          by_cases hF : F < (j : Int)
          · have Hq := Lib.hid (Hb2.out (by omega))
            have Hf := Lib.hid (Hhit.out (by rw [Hq.out]; decide))
            go_wp2_with fail
            go_ret
            exact ⟨ret_i (by rw [HH.out, Hf.out, Hq.out]), B4.out⟩
          · have Hq := Lib.hid (Hc2.out (by omega))
            have Hf := Lib.hid (Hnext.out Hq.out)
            have hF2 : decide (F < (j : Int)) = false := decide_eq_false hF
            go_wp2_with fail
            go_roundw
            case rel => exact ⟨j + 1, by omega, by go_num, Hf.out, W4.out⟩
            case measure => simp [intOf]; omega
        · have Hq := Lib.hid (Ha.out C rfl hC)
          have Hf := Lib.hid (Hhit.out (by rw [Hq.out]; exact hC))
          have hC2 : (C != 0) = true := by simp [hC]
          clear hC
          go_wp2_with fail
          go_ret
          exact ⟨ret_i (by rw [HH.out, Hf.out, Hq.out]), B3.out⟩
      · have Hfin := Lib.hid (show firstI (ckE cs) cs = 0 from firstI_none (fun i hi => Hall.out i hi (by omega)))
        go_wp2_with fail
        go_ret
        exact ⟨ret_i (by rw [HH.out, Hfin.out]), B1.out⟩

set_option maxRecDepth 100000 in
set_option maxHeartbeats 8000000 in
theorem turns_any (x : BunT) (w : World) (hL : Laid w) (hx : x.is w) (hl : BunT.lt x) :
    Calls Tryz.prog 75 #[x.V] w fun e w' => e = .returned (.int .i64 (trnsE x.classes x.turns)) ∧ Below w.heap.size w w' := by
  have HatK := Lib.hid (fun (q : List UInt8) (W : World) (hb : Below w.heap.size w W) => atK_any x q W (hx.below hb))
  have HatT := Lib.hid (fun (q : List UInt8) (W : World) (hb : Below w.heap.size w W) => atT_any x q W (hx.below hb))
  have Hput := Lib.hid (fun (y : TrnT) (hy : y ∈ x.turns) (W : World) (hb : Below w.heap.size w W) => putAll_any none 0 0 [] y.kA y.km y.kc y.consts W rfl (.inl rfl) (by omega) ((hx.turns.each y hy).consts.below hb) (hl.turns y hy).consts)
  have Hmv := Lib.hid (fun (y : TrnT) (hy : y ∈ x.turns) (W : World) (hb : Below w.heap.size w W) => moves_any y W (hL.below hb hL.1) ((hx.turns.each y hy).below hb) (hl.turns y hy))
  have H := Lib.hid (show IsTrns w x.tA x.tm x.tc x.turns from hx.turns)
  have hml : x.turns.length ≤ x.tm := Nat.le_of_eq hx.turns.len.symm
  have hml2 : x.tm ≤ x.turns.length := Nat.le_of_eq hx.turns.len
  have hmx : x.tm ≤ maxLen := Nat.le_trans hx.turns.le hx.turns.max
  unfold maxLen at hmx
  clear hx hl hL
  have HB := Lib.hid ((Below.refl w.heap.size w).alloc (Nat.le_refl _) (.cells #[.slice x.cA x.cm x.cc, .slice x.tA x.tm x.tc] 48))
  have R0 := Lib.hid (Row.new w #[.slice x.cA x.cm x.cc, .slice x.tA x.tm x.tc] 48)
  obtain ⟨cA, cm, cc, tA, tm, tc, cs, ts⟩ := x
  simp only [BunT.V] at *
  by_cases hs : 32 < tm
  · have HH := Lib.hid (show trnsE cs ts = 6 by unfold trnsE; rw [if_pos (by omega)])
    go_enter Tryz.func75, Tryz.ntmps75
    go_wp2_with fail
    go_ret
    exact ⟨ret_i HH.out.symm, HB.out⟩
  · have HH := Lib.hid (show trnsE cs ts = firstI (trnE cs ts) ts by unfold trnsE; rw [if_neg (by omega)])
    go_enter Tryz.func75, Tryz.ntmps75
    go_wp2_with fail
    generalize w.alloc (.cells #[.slice cA cm cc, .slice tA tm tc] 48) = W0 at *
    go_loopw [3, 4, 15] (fun _ _ i wr => ∃ j : Nat, j ≤ tm ∧ i = .int .i64 j ∧ (∀ k (hk : k < ts.length), k < j → trnE cs ts k ts[k] = 0) ∧ Below W0.heap.size W0 wr) (fun _ _ i _ => tm - (intOf i).toNat)
    case atStart => exact ⟨0, Nat.zero_le _, rfl, by intro k _ h; omega, Below.refl _ _⟩
    case round =>
      obtain ⟨j, hj, rfl, hall, hbel⟩ := hrel
      have Hall := Lib.hid hall
      have Hbel := Lib.hid hbel
      have B1 := Lib.hid (HB.out.trans (hbel.mono HB.out.size))
      have R1 := Lib.hid (R0.out.after hbel)
      clear hall hbel
      by_cases hlt : j < tm
      · have hja : j < ts.length := by omega
        obtain ⟨b1, o1, rfl, hb1, hc0, hc1, hc2⟩ := trn_at (H.out.rds.below B1.out) hja
        have hj1 : (j : Int) < (tm : Int) := by omega
        have hj0 : (0 : Int) ≤ (j : Int) := by omega
        have Hhit := Lib.hid (fun hne => firstI_hit hja Hall.out hne)
        have Hnext := Lib.hid (fun h0 => firstI_next Hall.out hja h0)
        have Ha := Lib.hid (fun (h : findP (nameK (ts[j]'hja).cls) cs < 0) => trn_none (cs := cs) (ts := ts) (i := j) h)
        have Hb := Lib.hid (fun (h : ¬ findP (nameK (ts[j]'hja).cls) cs < 0) h2 => trn_twice (cs := cs) (ts := ts) (i := j) h h2)
        have Hc := Lib.hid (fun (h : ¬ findP (nameK (ts[j]'hja).cls) cs < 0) h2 (E : Int) h3 h4 => trn_consts (cs := cs) (ts := ts) (i := j) h h2 (E := E) h3 h4)
        have Hd := Lib.hid (fun (h : ¬ findP (nameK (ts[j]'hja).cls) cs < 0) h2 h3 => trn_moves (cs := cs) (ts := ts) (i := j) h h2 h3)
        have hput := Hput.out _ (List.getElem_mem hja)
        have hmv := Hmv.out _ (List.getElem_mem hja)
        generalize ts[j] = x at *
        generalize trnE cs ts j x = E at *
        generalize allC [] x.consts = K at *
        generalize movsE x.moves x.consts = C at *
        obtain ⟨x0, x1, x2, x3, x4, x5, x6, x7, x8⟩ := x
        obtain ⟨K0, K1⟩ := K
        simp only [TrnT.V] at hc0 hc1 hc2 hput hmv
        have Hp2 := Lib.hid hput
        have Hm2 := Lib.hid hmv
        clear hput hmv
        have HA := Lib.hid ((Below.refl wr.heap.size wr).alloc (Nat.le_refl _) (.cells #[.string ⟨x0.toArray⟩, .slice x1 x2 x3, .slice x4 x5 x6] 103))
        have RM := Lib.hid (Row.new wr #[.string ⟨x0.toArray⟩, .slice x1 x2 x3, .slice x4 x5 x6] 103)
        have BA := Lib.hid (B1.out.trans (HA.out.mono B1.out.size))
        have WA := Lib.hid (Hbel.out.trans (HA.out.mono Hbel.out.size))
        have RA := Lib.hid (R1.out.after HA.out)
        have g0 := RA.out.cell 0
        have g1 := RA.out.cell 1
        have HatT2 := Lib.hid (HatT.out x0)
        generalize findP (nameT x0) ts = G at *
        go_wp2_with fail
        refine Calls.mono (HatK.out x0 _ BA.out) ?_
        rintro e w3 ⟨rfl, hb3⟩
        have B3 := Lib.hid (BA.out.trans (hb3.mono BA.out.size))
        have W3 := Lib.hid (WA.out.trans (hb3.mono WA.out.size))
        have R3 := Lib.hid (RA.out.after hb3)
        have M3 := Lib.hid (RM.out.after hb3)
        clear hb3 g0 g1
        generalize findP (nameK x0) cs = F at *
        have m0 := M3.out.cell 0
        by_cases hF : F < 0
        · have Hq := Lib.hid (Ha.out (by omega))
          have Hf := Lib.hid (Hhit.out (by rw [Hq.out]; decide))
          go_wp2_with fail
          go_ret
          exact ⟨ret_i (by rw [HH.out, Hf.out, Hq.out]), B3.out⟩
        · have Hb2 := Lib.hid (fun h2 => Hb.out (by omega) h2)
          have Hc2 := Lib.hid (fun h2 (E : Int) h3 h4 => Hc.out (by omega) h2 E h3 h4)
          have Hd2 := Lib.hid (fun h2 h3 => Hd.out (by omega) h2 h3)
          have hF2 : decide (F < 0) = false := decide_eq_false hF
          have g0 := R3.out.cell 0
          have g1 := R3.out.cell 1
          go_wp2_with fail
          refine Calls.mono (HatT2.out _ B3.out) ?_
          rintro e w4 ⟨rfl, hb4⟩
          have B4 := Lib.hid (B3.out.trans (hb4.mono B3.out.size))
          have W4 := Lib.hid (W3.out.trans (hb4.mono W3.out.size))
          have M4 := Lib.hid (M3.out.after hb4)
          clear hb4 g0 g1 m0 hF2 hF
          have m0 := M4.out.cell 0
          have m1 := M4.out.cell 1
          by_cases hG : G < (j : Int)
          · have Hq := Lib.hid (Hb2.out (by omega))
            have Hf := Lib.hid (Hhit.out (by rw [Hq.out]; decide))
            go_wp2_with fail
            go_ret
            exact ⟨ret_i (by rw [HH.out, Hf.out, Hq.out]), B4.out⟩
          · have Hc3 := Lib.hid (fun (E : Int) h3 h4 => Hc2.out (by omega) E h3 h4)
            have Hd3 := Lib.hid (fun h3 => Hd2.out (by omega) h3)
            have hG2 : decide (G < (j : Int)) = false := decide_eq_false hG
            go_wp2_with fail
            refine Calls.mono (Hp2.out _ B4.out) ?_
            rintro e w5 ⟨v5, rfl, -, hb5⟩
            have B5 := Lib.hid (B4.out.trans (hb5.mono B4.out.size))
            have W5 := Lib.hid (W4.out.trans (hb5.mono W4.out.size))
            have M5 := Lib.hid (M4.out.after hb5)
            clear hb5 m0 m1 hG2 hG
            by_cases hK : K1 = 0
            · have Hq := Lib.hid (Hd3.out hK)
              subst hK
              have m0 := M5.out.cell 0
              have m1 := M5.out.cell 1
              have m2 := M5.out.cell 2
              go_wp2_with fail
              refine Calls.mono (Hm2.out _ B5.out) ?_
              rintro e w6 ⟨rfl, hb6⟩
              have B6 := Lib.hid (B5.out.trans (hb6.mono B5.out.size))
              have W6 := Lib.hid (W5.out.trans (hb6.mono W5.out.size))
              clear hb6 m0 m1 m2
              by_cases hC : C = 0
              · have Hf := Lib.hid (Hnext.out (by rw [Hq.out, hC]))
                subst hC
                go_wp2_with fail
                go_roundw
                case rel => exact ⟨j + 1, by omega, by go_num, Hf.out, W6.out⟩
                case measure => simp [intOf]; omega
              · have Hf := Lib.hid (Hhit.out (by rw [Hq.out]; exact hC))
                have hC2 : (C != 0) = true := by simp [hC]
                clear hC
                go_wp2_with fail
                go_ret
                exact ⟨ret_i (by rw [HH.out, Hf.out, Hq.out]), B6.out⟩
            · have Hq := Lib.hid (Hc3.out K1 rfl hK)
              have Hf := Lib.hid (Hhit.out (by rw [Hq.out]; exact hK))
              have hK2 : (K1 != 0) = true := by simp [hK]
              clear hK
              go_wp2_with fail
              go_ret
              exact ⟨ret_i (by rw [HH.out, Hf.out, Hq.out]), B5.out⟩
      · have Hfin := Lib.hid (show firstI (trnE cs ts) ts = 0 from firstI_none (fun i hi => Hall.out i hi (by omega)))
        go_wp2_with fail
        go_ret
        exact ⟨ret_i (by rw [HH.out, Hfin.out]), B1.out⟩

set_option maxRecDepth 100000 in
set_option maxHeartbeats 2000000 in
theorem right_any (x : BunT) (w : World) (hL : Laid w) (hx : x.is w) (hl : BunT.lt x) :
    Calls Tryz.prog 29 #[x.V] w fun e w' => e = .returned (.int .i64 (bunE x)) ∧ Below w.heap.size w w' := by
  have Hc := Lib.hid (fun (W : World) (hb : Below w.heap.size w W) => classes_any x W (hL.below hb hL.1) (hx.below hb) hl)
  have Ht := Lib.hid (fun (W : World) (hb : Below w.heap.size w W) => turns_any x W (hL.below hb hL.1) (hx.below hb) hl)
  have HE := Lib.hid (show bunE x = if clssE x.classes ≠ 0 then clssE x.classes else trnsE x.classes x.turns from rfl)
  clear hL hx hl
  have HB := Lib.hid ((Below.refl w.heap.size w).alloc (Nat.le_refl _) (.cells #[.slice x.cA x.cm x.cc, .slice x.tA x.tm x.tc] 48))
  have R0 := Lib.hid (Row.new w #[.slice x.cA x.cm x.cc, .slice x.tA x.tm x.tc] 48)
  generalize bunE x = R at *
  generalize clssE x.classes = C at *
  generalize trnsE x.classes x.turns = T at *
  obtain ⟨cA, cm, cc, tA, tm, tc, cs, ts⟩ := x
  simp only [BunT.V] at *
  go_enter Tryz.func29, Tryz.ntmps29
  go_wp2_with fail
  refine Calls.mono (Hc.out _ HB.out) ?_
  rintro e w1 ⟨rfl, hb1⟩
  have B1 := Lib.hid (HB.out.trans (hb1.mono HB.out.size))
  have R1 := Lib.hid (R0.out.after hb1)
  clear hb1
  by_cases hC : C = 0
  · have Hq := Lib.hid (show R = T by rw [HE.out, if_neg (by simp [hC])])
    subst hC
    have g0 := R1.out.cell 0
    have g1 := R1.out.cell 1
    go_wp2_with fail
    refine Calls.mono (Ht.out _ B1.out) ?_
    rintro e w2 ⟨rfl, hb2⟩
    have B2 := Lib.hid (B1.out.trans (hb2.mono B1.out.size))
    clear hb2
    go_wp2_with fail
    go_ret
    exact ⟨ret_i Hq.out.symm, B2.out⟩
  · have Hq := Lib.hid (show R = C by rw [HE.out, if_pos hC])
    have hC2 : (C != 0) = true := by simp [hC]
    clear hC
    go_wp2_with fail
    go_ret
    exact ⟨ret_i Hq.out.symm, B1.out⟩

end PckX
end Go.Proofs.YthkkcecfenohjaaGreatDoor
