/- pieces -/
import Derived.Test.YtmkdhdmkdcankaaGreatDoorK46
namespace Go.Proofs.YtmkdhdmkdcankaaGreatDoor
namespace ClK
open Go.RowKit Base BinM HpM HpA HpB HpG HpP HpT HpZ HpR HpQ HpW ClM ClX ClY ClZ ClI ClJ
theorem kg {f : Nat} {C : List Kls.za} (hb : C.map TabV.zy = (bs f).map TabV.zy) : C.length ≤ 10000 ∧ TabCs.Short C ∧ ∀ x ∈ C, x.meths = [] := by
 have hl : C.length = 2 := by have := congrArg List.length hb; simpa [bs] using this
 have h : ∀ x ∈ C, x.consts = [] ∧ x.fields.length ≤ 3 ∧ x.meths = [] := fun x hx => by
  obtain ⟨k, hk, e⟩ := TabO.xA hb hx
  have e1 := congrArg Kls.za.consts e
  have e2 := congrArg Kls.za.fields e
  have e3 := congrArg Kls.za.meths e
  simp only [TabV.zy] at e1 e2 e3
  simp only [bs, List.mem_cons, List.not_mem_nil, or_false] at hk
  rcases hk with rfl | rfl
  · exact ⟨e1, by rw [e2]; simp [aC], by simpa [aC] using e3⟩
  · exact ⟨e1, by rw [e2]; simp [bC], by simpa [bC] using e3⟩
 refine ⟨by omega, fun x hx => ?_, fun x hx => (h x hx).2.2⟩
 obtain ⟨h1, h2, h3⟩ := h x hx
 exact ⟨by rw [h1]; simp, by omega, by rw [h3]; simp, fun z hz => by rw [h3] at hz; cases hz⟩
set_option maxRecDepth 100000 in
set_option maxHeartbeats 16000000 in
theorem Vj (Am As : Option Addr) (cm cs : Nat) (makes : List OpenMk.MkT) (sets : List OpenMk.StT) (w : World) (hm : Rds w Am (makes.flatMap OpenMk.mkV)) (hmo : ∀ x ∈ makes, OpenMk.mkOk x) (hs : Rds w As (sets.flatMap OpenMk.stV)) (hso : ∀ x ∈ sets, OpenMk.stOk x) (hL : InsA.Laid w) :
 Calls Tryz.prog 8 #[.slice Am makes.length cm, .slice As sets.length cs] w fun e w' => ∃ x, e = .returned (.pointer (some ⟨x, 0, none⟩)) ∧ ∃ g r p u, Qb w w' x g r p u (JB makes sets) := by
 have HM := zH hm
 have HS := zH hs
 have HMo := zH hmo
 have HSo := zH hso
 have HL := zH hL
 have hcnt := @V8
 clear hm hs hmo hso hL
 have HCn := zH hcnt
 clear hcnt
 go_enter Tryz.func8, Tryz.ntmps8
 go_wp2_with fail
 refine (Gg _).mono ?_
 rintro e w1 ⟨f1, k1, rfl, hF1, hK1, hb1⟩
 have B1 := zH hb1
 have HN := zH (TabO.yE (some ⟨k1, 0, none⟩) (bs f1) 2 2 w1 rfl (TabZ.ZG hK1) (bs_is hF1) (HL.out.below hb1 HL.out.1))
 clear hb1 hF1 hK1
 go_wp2_with fail
 refine HN.out.mono ?_
 rintro e w2 ⟨hb2, ⟨_, lo, t, gg, mb, n, A, c, C, f, rfl, hlo, hTa, hTot, hbare, _, hz⟩ | ⟨hne, _⟩⟩
 · have B2 := zH (B1.out.trans (hb2.mono B1.out.size))
   have HTa := zH hTa
   have HTot := zH (And.intro hTot (And.intro hbare hz))
   clear hb2 hTa hTot hbare hz hlo HN
   go_wp2_with fail
   refine (Gg _).mono ?_
   rintro e w3 ⟨f3, k3, rfl, hF3, hK3, hb3⟩
   have B3 := zH (B2.out.trans (hb3.mono B2.out.size))
   have C3 := zH hb3
   have HN := zH (TabL.uU (some ⟨k3, 0, none⟩) (bs f3) 2 2 w3 rfl (TabZ.ZG hK3) (bs_is hF3))
   clear hb3 hF3 hK3
   go_wp2_with fail
   refine HN.out.mono ?_
   rintro e w4 ⟨hb4, ⟨_, lo2, u, g2, A2, c2, rfl, hRT⟩ | ⟨hne, _⟩⟩
   · have B4 := zH (B3.out.trans (hb4.mono B3.out.size))
     have C4 := zH (C3.out.trans (hb4.mono C3.out.size))
     have HU4 : Hid (Gp w4 u) := zH ⟨f3, lo2, g2, A2, c2, fun w' hb' => hRT.ext hb'⟩
     clear hb4 hRT HN
     go_wp2_with fail
     refine (LnkA.VF _).mono ?_
     rintro e w5 ⟨rfl, hY5, hb5⟩
     have B5 := zH (B4.out.trans (hb5.mono B4.out.size))
     have C5 := zH (C4.out.trans (hb5.mono C4.out.size))
     have D5 := zH hb5
     have HY5 := zH hY5
     have E5 : Hid (w4.heap.size < w5.heap.size) := zH hY5.lt
     clear hb5 hY5
     go_wp2_with fail
     refine (Qe _).mono ?_
     rintro e w6 ⟨k6, rfl, hk6, hR6, hb6⟩
     have hyk : k6 ≠ w4.heap.size := by have := E5.out; omega
     have B6 := zH (B5.out.trans (hb6.mono B5.out.size))
     have C6 := zH (C5.out.trans (hb6.mono C5.out.size))
     have D6 := zH (D5.out.trans (hb6.mono D5.out.size))
     have HT6 := zH (LnkA.ty_start (HY5.out.after hb6))
     have R6 := zH hR6
     have hy4 := Nat.le_refl w4.heap.size
     have Hyk := zH hyk
     generalize hye : w4.heap.size = y at Hyk HT6 ⊢
     have HY4 : Hid (∀ k, k = y → w4.heap.size ≤ k) := zH (fun k hk => by omega)
     clear hb6 hR6 hk6 hyk hy4 hye
     go_wp2_with fail
     go_loopw [13] (fun i wr => ∃ j : Nat, j ≤ 6 ∧ i = .int .i64 j ∧ LnkA.TyE w6 wr y (tyn.take j)) (fun i _ => 6 - (intOf i).toNat)
     case atStart => exact ⟨0, by omega, rfl, HT6.out⟩
     case round =>
      obtain ⟨j, hj, rfl, hty⟩ := hrel
      have HTy := zH hty
      have Hlow := zH (ty_low hty)
      clear hty
      by_cases hlt : j < 6
      · obtain ⟨b9, o9, hA9, hb9, hc9⟩ := R6.out.at_ (k := j) (by simp [tyn]; omega)
        injection hA9 with hA9
        injection hA9 with e1 e2
        subst e1
        subst e2
        rw [List.getElem_map] at hc9
        have hc9 := (World.cell?_of_block (a := ⟨k6, 0 + j, none⟩) (Hlow.out.block k6 hb9 Hyk.out)).trans hc9
        rw [Nat.zero_add] at hc9
        have hb9' : k6 < wr.heap.size := Nat.lt_of_lt_of_le hb9 Hlow.out.size
        have hj1 : (j : Int) < 6 := by omega
        have hnw := tyn_new j hlt
        have hlj : (tyn.take j).length ≤ 1000 := by rw [List.length_take]; omega
        have HI := zH (LnkA.id_new HTy.out (tyn[j]'hlt) hnw.1 (by omega) hlj)
        have HE := zH (show tyn.take (j + 1) = tyn.take j ++ [tyn[j]'hlt] from List.take_succ_eq_append_getElem hlt)
        simp only [HierM.sv] at hc9
        clear hnw hlj
        generalize tyn[j]'hlt = d at *
        go_wp2_with fail
        refine HI.out.mono ?_
        rintro e w7 ⟨rfl, hty⟩
        have HT7 := zH hty
        clear hty
        go_wp2_with fail
        go_roundw
        case rel => exact ⟨j + 1, by omega, by go_num, by rw [HE.out]; exact HT7.out⟩
        case measure => simp [intOf]; omega
      · have hj6 : j = 6 := by omega
        subst hj6
        have B7 := zH (B6.out.trans ((Hlow.out.below HY4.out D6.out.size).mono B4.out.size))
        have C7 := zH (C6.out.trans ((Hlow.out.below HY4.out D6.out.size).mono C4.out.size))
        have D7 := zH (D6.out.trans (Hlow.out.below HY4.out D6.out.size))
        have HT7 := zH (show LnkA.TyE w6 wr y tyn from HTy.out)
        have HTa7 := zH (HTa.out.ext C7.out)
        clear HTy Hlow
        have HNew := zH (LnkB.new0_any HTa7.out (kg HTot.out.2.1).1 (kg HTot.out.2.1).2.1 (kg HTot.out.2.1).2.2 y)
        go_wp2_with fail
        refine HNew.out.mono ?_
        rintro e w8 ⟨p, mb8, rfl, hp8, hb8, _⟩
        have HP8 := zH (prog_of HTa7.out HTot.out.1 HTot.out.2.1 HTot.out.2.2 HT7.out hb8 hp8)
        have B8 := zH (B7.out.trans (hb8.mono B7.out.size))
        have HU8 := zH (HU4.out.later (D7.out.trans (hb8.mono D7.out.size)))
        clear hb8 hp8 HNew
        go_wp2_with fail
        refine (HpA.yE 400 w8).mono ?_
        rintro e w9 ⟨hb9, ⟨_, _, g, mb9, rfl, hg, hmb, H9⟩ | ⟨hbad, _⟩⟩
        · have C9 := zH hb9
          have H9' := zH H9
          have HG := zH (And.intro hg hmb)
          clear hb9 H9 hg hmb
          go_wp2_with fail
          refine (HpQ.rnew_any 400 w9).mono ?_
          rintro e wa ⟨hba, ⟨_, _, r, rfl, hr, Xa⟩ | ⟨hbad, _⟩⟩
          · have S0 := zH (zl5 C9.out HG.out.1 HG.out.2 H9'.out hba hr Xa)
            have S1 : Hid (qO w8 (wa.alloc (.cells #[.pointer (some ⟨g, 0, none⟩), .pointer (some ⟨r, 0, none⟩), .pointer (some ⟨p, 0, none⟩), .pointer (some ⟨u, 0, none⟩)] 37)) g r 400 (jH (makes.take 0)) [bx wa.heap.size g r p u]) := zH (S0.out.alloc _ _)
            clear hba hr Xa
            go_wp2_with fail
            generalize (wa.alloc (.cells #[.pointer (some ⟨g, 0, none⟩), .pointer (some ⟨r, 0, none⟩), .pointer (some ⟨p, 0, none⟩), .pointer (some ⟨u, 0, none⟩)] 37)) = wb at *
            generalize wa.heap.size = x at *
            go_loopw [21] (fun i wr => ∃ j : Nat, j ≤ makes.length ∧ j ≤ 40 ∧ i = .int .i64 j ∧ qO w8 wr g r 400 (jH (makes.take j)) [bx x g r p u]) (fun i _ => makes.length - (intOf i).toNat)
            case atStart => exact ⟨0, Nat.zero_le _, by omega, rfl, S1.out⟩
            case round =>
             obtain ⟨j, hj, hj40, rfl, hS⟩ := hrel
             have HSj := zH hS
             have Hlow := zH (B8.out.trans ((qZ hS).mono B8.out.size))
             have hlen := vK (makes.take j)
             rw [List.length_take] at hlen
             clear hS
             by_cases hgo : j < makes.length ∧ j < 40
             · obtain ⟨hlt, h40⟩ := hgo
               obtain ⟨b, o, rfl, hbl, k0, k1', k2⟩ := OpenMk.mk_at HM.out hlt
               have hok := HMo.out _ (List.getElem_mem hlt)
               have hold : ∀ (c : Nat) (v : Value), w.cell? ⟨b, c, none⟩ = some v → wr.cell? ⟨b, c, none⟩ = some v := fun c v h => (World.cell?_of_block (a := ⟨b, c, none⟩) (Hlow.out.block b hbl)).trans h
               have q0 := hold _ _ k0
               have q1 := hold _ _ k1'
               have q2 := hold _ _ k2
               have HE := zH (za8 hlt)
               have hj1 : (j : Int) < (makes.length : Int) := by omega
               have hj2 : (j : Int) < 40 := by omega
               have hbl2 : b < wr.heap.size := Nat.lt_of_lt_of_le hbl Hlow.out.size
               have hml : (jH (makes.take j)).length ≤ 4000 := by omega
               have HMk := zH (make_any (show qO w8 wr g r 400 (jH (makes.take j)) [bx x g r p u] from HSj.out) hml makes[j] hok)
               clear hok hold k0 k1' k2 hml
               generalize makes[j] = m at *
               go_wp2_with fail
               refine HMk.out.mono ?_
               rintro e wc ⟨rfl, hSc⟩
               have HSc := zH hSc
               clear hSc
               go_wp2_with fail
               go_roundw
               case rel => exact ⟨j + 1, by omega, by omega, by go_num, by rw [HE.out]; exact HSc.out⟩
               case measure => simp [intOf]; omega
             · have hE : makes.take 40 = makes.take j := Yx hj40 (by omega)
               have hp40 := vK (makes.take 40)
               have hl40 : (makes.take 40).length ≤ 40 := by rw [List.length_take]; omega
               have hts : (jH (makes.take 40)).length ≤ 40 := by omega
               have hS2 : qO w8 wr g r 400 (Zy (jH (makes.take 40)) (sets.take 0)) [bx x g r p u] := by rw [hE]; exact HSj.out
               have S2 := zH hS2
               have HPl : Hid (JB makes sets = Zy (jH (makes.take 40)) (sets.take 60)) := zH rfl
               generalize jH (makes.take 40) = ts1 at *
               clear hS2 hE hp40 hl40 hlen HSj
               rcases (show j = makes.length ∨ (j = 40 ∧ 40 < makes.length) by omega) with h | h
               · subst h
                 go_wp2_with fail
                 go_loopw [22, 23, 24] (fun i _ _ wr => ∃ j : Nat, j ≤ sets.length ∧ j ≤ 60 ∧ i = .int .i64 j ∧ qO w8 wr g r 400 (Zy ts1 (sets.take j)) [bx x g r p u]) (fun i _ _ _ => sets.length - (intOf i).toNat)
                 case atStart => exact ⟨0, Nat.zero_le _, by omega, rfl, S2.out⟩
                 case round =>
                  obtain ⟨j, hj, hj60, rfl, hS⟩ := hrel
                  have HSj := zH hS
                  have Hlow := zH (B8.out.trans ((qZ hS).mono B8.out.size))
                  have htl : (Zy ts1 (sets.take j)).length ≤ 40 := by rw [yC]; exact hts
                  obtain ⟨AL, cL, hbox, hcells⟩ := uy hS
                  have l0 : wr.cell? ⟨r, 1, none⟩ = some (.slice AL (Zy ts1 (sets.take j)).length cL) := hbox.cell 1
                  have hrl := hbox.lt
                  clear hS hbox
                  by_cases hgo : j < sets.length ∧ j < 60 ∧ 0 < (Zy ts1 (sets.take j)).length
                  · obtain ⟨hlt, h60, hpos⟩ := hgo
                    obtain ⟨b, o, rfl, hbl, k0, k1', k2, k3', k4⟩ := OpenMk.st_at HS.out hlt
                    have hok := HSo.out _ (List.getElem_mem hlt)
                    have HOld : Hid (∀ W, Below w8.heap.size w8 W → ∀ (c : Nat) (v : Value), w.cell? ⟨b, c, none⟩ = some v → W.cell? ⟨b, c, none⟩ = some v) := zH (fun W hW c v h => (World.cell?_of_block (a := ⟨b, c, none⟩) ((B8.out.trans (hW.mono B8.out.size)).block b hbl)).trans h)
                    have hlw := qZ HSj.out
                    have q0 := HOld.out wr hlw _ _ k0
                    have q1 := HOld.out wr hlw _ _ k1'
                    have q2 := HOld.out wr hlw _ _ k2
                    have q3 := HOld.out wr hlw _ _ k3'
                    have q4 := HOld.out wr hlw _ _ k4
                    have HE := zH (uM ts1 hlt)
                    have HSt : Hid (qO w8 wr g r 400 (Zy ts1 (sets.take j)) [bx x g r p u]) := HSj
                    have HFt := zH (kD HSt.out)
                    have K1 := zH k1'
                    have hj1 : (j : Int) < (sets.length : Int) := by omega
                    have hj2 : (j : Int) < 60 := by omega
                    have hbl2 : b < wr.heap.size := Nat.lt_of_lt_of_le hbl Hlow.out.size
                    generalize Zy ts1 (sets.take j) = ts at *
                    generalize sets[j] = m at *
                    obtain ⟨mf, mi, mt, mr, mv⟩ := m
                    obtain ⟨ok1, ok2, ok3, ok4⟩ := hok
                    simp only at q0 q1 q2 q3 q4 ok1 ok2 ok3 ok4
                    obtain ⟨q, hq⟩ : ∃ q : Nat, mf % (ts.length : Int) = (q : Int) := ⟨(mf % (ts.length : Int)).toNat, (Int.toNat_of_nonneg (Int.emod_nonneg _ (by omega))).symm⟩
                    have hql : (q : Int) < (ts.length : Int) := by rw [← hq]; exact Int.emod_lt_of_pos _ (by omega)
                    have HCq : Hid (∀ W, Calls Tryz.prog 40 #[.int .i64 mf, .int .i64 (ts.length : Int)] W fun e w' => e = .returned (.int .i64 (q : Int)) ∧ w' = W) := zH (fun W => (HCn.out mf ts.length W (by omega) (by omega)).mono (by rintro e w' ⟨rfl, rfl⟩; exact ⟨by rw [hq], rfl⟩))
                    obtain ⟨a, ha⟩ : ∃ a, (adr 0 ts).getD q 0 = a := ⟨_, rfl⟩
                    obtain ⟨b2, o2, rfl, c0⟩ := hcells q (by omega)
                    rw [ha] at c0
                    have HA := zH ha
                    have hq0 : (0 : Int) ≤ (q : Int) := by omega
                    have hpos' : (0 : Int) < (ts.length : Int) := by omega
                    have HOk := zH (And.intro ok1 (And.intro ok2 (And.intro ok3 ok4)))
                    have HQ := zH hq
                    clear k0 k1' k2 k3' k4 hq ok1 ok2 ok3 ok4 ha
                    cases mr
                    · by_cases ht : 0 < mt
                      · have ht0 : 0 ≤ mt.tmod (ts.length : Int) := Int.tmod_nonneg _ (by omega)
                        have ht1 : mt.tmod (ts.length : Int) < (ts.length : Int) := Int.tmod_lt_of_pos _ (by omega)
                        obtain ⟨b3, o3, e3, c3⟩ := hcells (mt.tmod (ts.length : Int)).toNat (by omega)
                        injection e3 with e3
                        injection e3 with e4 e5
                        subst e4
                        subst e5
                        have hnz : ((ts.length : Int) == 0) = false := by rw [beq_eq_false_iff_ne]; omega
                        have hnn : ¬ ts = [] := by rintro rfl; simp at hpos
                        obtain ⟨v, hv⟩ : ∃ v, (adr 0 ts).getD (mt.tmod (ts.length : Int)).toNat 0 = v := ⟨_, rfl⟩
                        have hvf := HFt.out (mt.tmod (ts.length : Int)).toNat
                        rw [hv] at c3 hvf
                        have HV := zH (And.intro hv hvf)
                        clear hv hvf
                        have HSe := zH (show Qc ts ⟨mf, mi, mt, false, mv⟩ = yS 0 ts a mi v by unfold Qc; rw [if_neg (by omega)]; simp only; rw [HQ.out, Int.toNat_natCast, HA.out]; exact congrArg _ (by unfold Gt; rw [if_neg (by simp)]; simp only; rw [if_pos ht]; exact HV.out.1))
                        rw [HSe.out] at HE
                        go_wp2_with fail
                        go_quiet ((go_at_call 40; exact Calls.quiet_of_same (HCq.out _)))
                        go_wp2_with fail
                        go_quiet (fail)
                        go_wp2_with fail
                        have HSet := zH (fun d => jS (HSt.out.beside (below_drewN wr d)) (by omega) a mi v HV.out.2)
                        refine (HSet.out _).mono ?_
                        rintro e wc ⟨⟨z1, rfl⟩, _, hlc, hC⟩
                        have q1c := HOld.out wc hlc _ _ K1.out
                        have hblc : b < wc.heap.size := Nat.lt_of_lt_of_le hbl (Nat.le_trans B8.out.size hlc.size)
                        have HC := zH hC
                        clear hC hlc HSet
                        go_wp2_with fail
                        refine HC.out.mono ?_
                        rintro e wd ⟨⟨z2, rfl⟩, hSd⟩
                        have HSd := zH hSd
                        clear hSd
                        go_wp2_with fail
                        go_roundw
                        case rel => exact ⟨j + 1, by omega, by omega, by go_num, by rw [HE.out]; exact HSd.out⟩
                        case measure => simp [intOf]; omega
                      · have htt : decide (0 < mt) = false := by simpa using ht
                        have HSe := zH (show Qc ts ⟨mf, mi, mt, false, mv⟩ = yS 0 ts a mi 0 by unfold Qc; rw [if_neg (by omega)]; simp only; rw [HQ.out, Int.toNat_natCast, HA.out]; exact congrArg _ (by unfold Gt; rw [if_neg (by simp)]; simp only; rw [if_neg ht]))
                        rw [HSe.out] at HE
                        go_wp2_with fail
                        go_quiet ((go_at_call 40; exact Calls.quiet_of_same (HCq.out _)))
                        go_wp2_with fail
                        have HSet := zH (fun d => jS (HSt.out.beside (below_drewN wr d)) (by omega) a mi 0 (by unfold zo; omega))
                        refine (HSet.out _).mono ?_
                        rintro e wc ⟨⟨z1, rfl⟩, _, hlc, hC⟩
                        have q1c := HOld.out wc hlc _ _ K1.out
                        have hblc : b < wc.heap.size := Nat.lt_of_lt_of_le hbl (Nat.le_trans B8.out.size hlc.size)
                        have HC := zH hC
                        clear hC hlc HSet
                        go_wp2_with fail
                        refine HC.out.mono ?_
                        rintro e wd ⟨⟨z2, rfl⟩, hSd⟩
                        have HSd := zH hSd
                        clear hSd
                        go_wp2_with fail
                        go_roundw
                        case rel => exact ⟨j + 1, by omega, by omega, by go_num, by rw [HE.out]; exact HSd.out⟩
                        case measure => simp [intOf]; omega
                    · have hcl := HOk.out.2.2.2
                      clear hcells
                      have HSe := zH (show Qc ts ⟨mf, mi, mt, true, mv⟩ = yS 0 ts a mi mv by unfold Qc; rw [if_neg (by omega)]; simp only; rw [HQ.out, Int.toNat_natCast, HA.out]; exact congrArg _ (by unfold Gt; rw [if_pos rfl]))
                      rw [HSe.out] at HE
                      go_wp2_with fail
                      go_quiet ((go_at_call 40; exact Calls.quiet_of_same (HCq.out _)))
                      go_wp2_with fail
                      have HSet := zH (fun d => jS (HSt.out.beside (below_drewN wr d)) (by omega) a mi mv HOk.out.2.2.2)
                      refine (HSet.out _).mono ?_
                      rintro e wc ⟨⟨z1, rfl⟩, _, hlc, hC⟩
                      have q1c := HOld.out wc hlc _ _ K1.out
                      have hblc : b < wc.heap.size := Nat.lt_of_lt_of_le hbl (Nat.le_trans B8.out.size hlc.size)
                      have HC := zH hC
                      clear hC hlc HSet
                      go_wp2_with fail
                      refine HC.out.mono ?_
                      rintro e wd ⟨⟨z2, rfl⟩, hSd⟩
                      have HSd := zH hSd
                      clear hSd
                      go_wp2_with fail
                      go_roundw
                      case rel => exact ⟨j + 1, by omega, by omega, by go_num, by rw [HE.out]; exact HSd.out⟩
                      case measure => simp [intOf]; omega
                  · have hE2 : Zy ts1 (sets.take 60) = Zy ts1 (sets.take j) := by
                     by_cases h0 : 0 < (Zy ts1 (sets.take j)).length
                     · rw [Yx hj60 (by omega)]
                     · have h00 : ts1.length = 0 := by rw [yC] at h0; omega
                       rw [yB _ _ h00, yB _ _ h00]
                    have HE2 := zH (HPl.out.trans hE2)
                    have htl2 := htl
                    clear hE2 hcells
                    generalize Zy ts1 (sets.take j) = ts at *
                    by_cases hx1 : j < sets.length
                    · have hy1 : (j : Int) < (sets.length : Int) := by omega
                      by_cases hx2 : j < 60
                      · have hy2 : (j : Int) < 60 := by omega
                        have hx3 : ts.length = 0 := by omega
                        have hy3 : ¬ (0 : Int) < (ts.length : Int) := by omega
                        go_wp2_with fail
                        go_ret
                        exact ⟨x, rfl, g, r, p, u, ⟨⟨w8, B8.out, by rw [HE2.out]; exact HSj.out, HP8.out, HU8.out⟩, by rw [HE2.out]; exact htl2⟩⟩
                      · have hy2 : ¬ (j : Int) < 60 := by omega
                        go_wp2_with fail
                        go_ret
                        exact ⟨x, rfl, g, r, p, u, ⟨⟨w8, B8.out, by rw [HE2.out]; exact HSj.out, HP8.out, HU8.out⟩, by rw [HE2.out]; exact htl2⟩⟩
                    · have hy1 : ¬ (j : Int) < (sets.length : Int) := by omega
                      go_wp2_with fail
                      go_ret
                      exact ⟨x, rfl, g, r, p, u, ⟨⟨w8, B8.out, by rw [HE2.out]; exact HSj.out, HP8.out, HU8.out⟩, by rw [HE2.out]; exact htl2⟩⟩
               · obtain ⟨h40, hgt⟩ := h
                 have hgt1 : (j : Int) < (makes.length : Int) := by omega
                 have hgt2 : ¬ (j : Int) < 40 := by omega
                 clear h40 hgt
                 go_wp2_with fail
                 go_loopw [22, 23, 24] (fun i _ _ wr => ∃ j : Nat, j ≤ sets.length ∧ j ≤ 60 ∧ i = .int .i64 j ∧ qO w8 wr g r 400 (Zy ts1 (sets.take j)) [bx x g r p u]) (fun i _ _ _ => sets.length - (intOf i).toNat)
                 case atStart => exact ⟨0, Nat.zero_le _, by omega, rfl, S2.out⟩
                 case round =>
                  obtain ⟨j, hj, hj60, rfl, hS⟩ := hrel
                  have HSj := zH hS
                  have Hlow := zH (B8.out.trans ((qZ hS).mono B8.out.size))
                  have htl : (Zy ts1 (sets.take j)).length ≤ 40 := by rw [yC]; exact hts
                  obtain ⟨AL, cL, hbox, hcells⟩ := uy hS
                  have l0 : wr.cell? ⟨r, 1, none⟩ = some (.slice AL (Zy ts1 (sets.take j)).length cL) := hbox.cell 1
                  have hrl := hbox.lt
                  clear hS hbox
                  by_cases hgo : j < sets.length ∧ j < 60 ∧ 0 < (Zy ts1 (sets.take j)).length
                  · obtain ⟨hlt, h60, hpos⟩ := hgo
                    obtain ⟨b, o, rfl, hbl, k0, k1', k2, k3', k4⟩ := OpenMk.st_at HS.out hlt
                    have hok := HSo.out _ (List.getElem_mem hlt)
                    have HOld : Hid (∀ W, Below w8.heap.size w8 W → ∀ (c : Nat) (v : Value), w.cell? ⟨b, c, none⟩ = some v → W.cell? ⟨b, c, none⟩ = some v) := zH (fun W hW c v h => (World.cell?_of_block (a := ⟨b, c, none⟩) ((B8.out.trans (hW.mono B8.out.size)).block b hbl)).trans h)
                    have hlw := qZ HSj.out
                    have q0 := HOld.out wr hlw _ _ k0
                    have q1 := HOld.out wr hlw _ _ k1'
                    have q2 := HOld.out wr hlw _ _ k2
                    have q3 := HOld.out wr hlw _ _ k3'
                    have q4 := HOld.out wr hlw _ _ k4
                    have HE := zH (uM ts1 hlt)
                    have HSt : Hid (qO w8 wr g r 400 (Zy ts1 (sets.take j)) [bx x g r p u]) := HSj
                    have HFt := zH (kD HSt.out)
                    have K1 := zH k1'
                    have hj1 : (j : Int) < (sets.length : Int) := by omega
                    have hj2 : (j : Int) < 60 := by omega
                    have hbl2 : b < wr.heap.size := Nat.lt_of_lt_of_le hbl Hlow.out.size
                    generalize Zy ts1 (sets.take j) = ts at *
                    generalize sets[j] = m at *
                    obtain ⟨mf, mi, mt, mr, mv⟩ := m
                    obtain ⟨ok1, ok2, ok3, ok4⟩ := hok
                    simp only at q0 q1 q2 q3 q4 ok1 ok2 ok3 ok4
                    obtain ⟨q, hq⟩ : ∃ q : Nat, mf % (ts.length : Int) = (q : Int) := ⟨(mf % (ts.length : Int)).toNat, (Int.toNat_of_nonneg (Int.emod_nonneg _ (by omega))).symm⟩
                    have hql : (q : Int) < (ts.length : Int) := by rw [← hq]; exact Int.emod_lt_of_pos _ (by omega)
                    have HCq : Hid (∀ W, Calls Tryz.prog 40 #[.int .i64 mf, .int .i64 (ts.length : Int)] W fun e w' => e = .returned (.int .i64 (q : Int)) ∧ w' = W) := zH (fun W => (HCn.out mf ts.length W (by omega) (by omega)).mono (by rintro e w' ⟨rfl, rfl⟩; exact ⟨by rw [hq], rfl⟩))
                    obtain ⟨a, ha⟩ : ∃ a, (adr 0 ts).getD q 0 = a := ⟨_, rfl⟩
                    obtain ⟨b2, o2, rfl, c0⟩ := hcells q (by omega)
                    rw [ha] at c0
                    have HA := zH ha
                    have hq0 : (0 : Int) ≤ (q : Int) := by omega
                    have hpos' : (0 : Int) < (ts.length : Int) := by omega
                    have HOk := zH (And.intro ok1 (And.intro ok2 (And.intro ok3 ok4)))
                    have HQ := zH hq
                    clear k0 k1' k2 k3' k4 hq ok1 ok2 ok3 ok4 ha
                    cases mr
                    · by_cases ht : 0 < mt
                      · have ht0 : 0 ≤ mt.tmod (ts.length : Int) := Int.tmod_nonneg _ (by omega)
                        have ht1 : mt.tmod (ts.length : Int) < (ts.length : Int) := Int.tmod_lt_of_pos _ (by omega)
                        obtain ⟨b3, o3, e3, c3⟩ := hcells (mt.tmod (ts.length : Int)).toNat (by omega)
                        injection e3 with e3
                        injection e3 with e4 e5
                        subst e4
                        subst e5
                        have hnz : ((ts.length : Int) == 0) = false := by rw [beq_eq_false_iff_ne]; omega
                        have hnn : ¬ ts = [] := by rintro rfl; simp at hpos
                        obtain ⟨v, hv⟩ : ∃ v, (adr 0 ts).getD (mt.tmod (ts.length : Int)).toNat 0 = v := ⟨_, rfl⟩
                        have hvf := HFt.out (mt.tmod (ts.length : Int)).toNat
                        rw [hv] at c3 hvf
                        have HV := zH (And.intro hv hvf)
                        clear hv hvf
                        have HSe := zH (show Qc ts ⟨mf, mi, mt, false, mv⟩ = yS 0 ts a mi v by unfold Qc; rw [if_neg (by omega)]; simp only; rw [HQ.out, Int.toNat_natCast, HA.out]; exact congrArg _ (by unfold Gt; rw [if_neg (by simp)]; simp only; rw [if_pos ht]; exact HV.out.1))
                        rw [HSe.out] at HE
                        go_wp2_with fail
                        go_quiet ((go_at_call 40; exact Calls.quiet_of_same (HCq.out _)))
                        go_wp2_with fail
                        go_quiet (fail)
                        go_wp2_with fail
                        have HSet := zH (fun d => jS (HSt.out.beside (below_drewN wr d)) (by omega) a mi v HV.out.2)
                        refine (HSet.out _).mono ?_
                        rintro e wc ⟨⟨z1, rfl⟩, _, hlc, hC⟩
                        have q1c := HOld.out wc hlc _ _ K1.out
                        have hblc : b < wc.heap.size := Nat.lt_of_lt_of_le hbl (Nat.le_trans B8.out.size hlc.size)
                        have HC := zH hC
                        clear hC hlc HSet
                        go_wp2_with fail
                        refine HC.out.mono ?_
                        rintro e wd ⟨⟨z2, rfl⟩, hSd⟩
                        have HSd := zH hSd
                        clear hSd
                        go_wp2_with fail
                        go_roundw
                        case rel => exact ⟨j + 1, by omega, by omega, by go_num, by rw [HE.out]; exact HSd.out⟩
                        case measure => simp [intOf]; omega
                      · have htt : decide (0 < mt) = false := by simpa using ht
                        have HSe := zH (show Qc ts ⟨mf, mi, mt, false, mv⟩ = yS 0 ts a mi 0 by unfold Qc; rw [if_neg (by omega)]; simp only; rw [HQ.out, Int.toNat_natCast, HA.out]; exact congrArg _ (by unfold Gt; rw [if_neg (by simp)]; simp only; rw [if_neg ht]))
                        rw [HSe.out] at HE
                        go_wp2_with fail
                        go_quiet ((go_at_call 40; exact Calls.quiet_of_same (HCq.out _)))
                        go_wp2_with fail
                        have HSet := zH (fun d => jS (HSt.out.beside (below_drewN wr d)) (by omega) a mi 0 (by unfold zo; omega))
                        refine (HSet.out _).mono ?_
                        rintro e wc ⟨⟨z1, rfl⟩, _, hlc, hC⟩
                        have q1c := HOld.out wc hlc _ _ K1.out
                        have hblc : b < wc.heap.size := Nat.lt_of_lt_of_le hbl (Nat.le_trans B8.out.size hlc.size)
                        have HC := zH hC
                        clear hC hlc HSet
                        go_wp2_with fail
                        refine HC.out.mono ?_
                        rintro e wd ⟨⟨z2, rfl⟩, hSd⟩
                        have HSd := zH hSd
                        clear hSd
                        go_wp2_with fail
                        go_roundw
                        case rel => exact ⟨j + 1, by omega, by omega, by go_num, by rw [HE.out]; exact HSd.out⟩
                        case measure => simp [intOf]; omega
                    · have hcl := HOk.out.2.2.2
                      clear hcells
                      have HSe := zH (show Qc ts ⟨mf, mi, mt, true, mv⟩ = yS 0 ts a mi mv by unfold Qc; rw [if_neg (by omega)]; simp only; rw [HQ.out, Int.toNat_natCast, HA.out]; exact congrArg _ (by unfold Gt; rw [if_pos rfl]))
                      rw [HSe.out] at HE
                      go_wp2_with fail
                      go_quiet ((go_at_call 40; exact Calls.quiet_of_same (HCq.out _)))
                      go_wp2_with fail
                      have HSet := zH (fun d => jS (HSt.out.beside (below_drewN wr d)) (by omega) a mi mv HOk.out.2.2.2)
                      refine (HSet.out _).mono ?_
                      rintro e wc ⟨⟨z1, rfl⟩, _, hlc, hC⟩
                      have q1c := HOld.out wc hlc _ _ K1.out
                      have hblc : b < wc.heap.size := Nat.lt_of_lt_of_le hbl (Nat.le_trans B8.out.size hlc.size)
                      have HC := zH hC
                      clear hC hlc HSet
                      go_wp2_with fail
                      refine HC.out.mono ?_
                      rintro e wd ⟨⟨z2, rfl⟩, hSd⟩
                      have HSd := zH hSd
                      clear hSd
                      go_wp2_with fail
                      go_roundw
                      case rel => exact ⟨j + 1, by omega, by omega, by go_num, by rw [HE.out]; exact HSd.out⟩
                      case measure => simp [intOf]; omega
                  · have hE2 : Zy ts1 (sets.take 60) = Zy ts1 (sets.take j) := by
                     by_cases h0 : 0 < (Zy ts1 (sets.take j)).length
                     · rw [Yx hj60 (by omega)]
                     · have h00 : ts1.length = 0 := by rw [yC] at h0; omega
                       rw [yB _ _ h00, yB _ _ h00]
                    have HE2 := zH (HPl.out.trans hE2)
                    have htl2 := htl
                    clear hE2 hcells
                    generalize Zy ts1 (sets.take j) = ts at *
                    by_cases hx1 : j < sets.length
                    · have hy1 : (j : Int) < (sets.length : Int) := by omega
                      by_cases hx2 : j < 60
                      · have hy2 : (j : Int) < 60 := by omega
                        have hx3 : ts.length = 0 := by omega
                        have hy3 : ¬ (0 : Int) < (ts.length : Int) := by omega
                        go_wp2_with fail
                        go_ret
                        exact ⟨x, rfl, g, r, p, u, ⟨⟨w8, B8.out, by rw [HE2.out]; exact HSj.out, HP8.out, HU8.out⟩, by rw [HE2.out]; exact htl2⟩⟩
                      · have hy2 : ¬ (j : Int) < 60 := by omega
                        go_wp2_with fail
                        go_ret
                        exact ⟨x, rfl, g, r, p, u, ⟨⟨w8, B8.out, by rw [HE2.out]; exact HSj.out, HP8.out, HU8.out⟩, by rw [HE2.out]; exact htl2⟩⟩
                    · have hy1 : ¬ (j : Int) < (sets.length : Int) := by omega
                      go_wp2_with fail
                      go_ret
                      exact ⟨x, rfl, g, r, p, u, ⟨⟨w8, B8.out, by rw [HE2.out]; exact HSj.out, HP8.out, HU8.out⟩, by rw [HE2.out]; exact htl2⟩⟩
          · exact absurd ⟨by omega, by omega⟩ hbad
        · exact absurd ⟨by omega, by omega⟩ hbad
   · exact absurd (by rw [why_bs]) hne
 · exact absurd (by rw [why_bs]) hne
end ClK
end Go.Proofs.YtmkdhdmkdcankaaGreatDoor
