/- pieces -/
import Derived.Test.YtehainbhoflpnaaGreatDoorK17
namespace Go.Proofs.YtehainbhoflpnaaGreatDoor
namespace KlsW
open Go.RowKit Base BinM DescM DescW DescX DescR DescP DescQ Stru PoolM InsM InsA InsC InsD InsE Kls KlsP KlsQ KlsU KlsV OpenK
theorem zu9 {cd : List InsT} {hd : List qJ} {lo : Int} {ks : List Cst} {K : Int × Int} (h : qA cd ks lo = K) (h2 : K.2 ≠ 0) : QC cd hd lo ks = K.2 := by unfold QC; rw [h, if_pos h2]
theorem zu7 {cd : List InsT} {hd : List qJ} {lo : Int} {ks : List Cst} {K : Int × Int} (h : qA cd ks lo = K) (h2 : K.2 = 0) (h3 : 0 ≤ zD Yf cd) : QC cd hd lo ks = 12 := by unfold QC; rw [h, if_neg (by simp [h2]), if_pos h3]
theorem zu8 {cd : List InsT} {hd : List qJ} {lo : Int} {ks : List Cst} {K : Int × Int} (h : qA cd ks lo = K) (h2 : K.2 = 0) (h3 : ¬ 0 ≤ zD Yf cd) : QC cd hd lo ks = Jp (cd.length : Int) hd := by unfold QC; rw [h, if_neg (by simp [h2]), if_neg h3]
set_option maxRecDepth 100000 in
set_option maxHeartbeats 8000000 in
theorem UC (x : zf) (j : Nat) (hja : j < x.meths.length) (w : World) (hx : x.is w) (hl : zf.lt x) :
 Calls Tryz.prog 96 #[x.V, .int .i64 (j : Int)] w fun e w' => e = .returned (.int .i64 (jZ x.meths x.consts j x.meths[j])) ∧ Below w.heap.size w w' := by
 have Hat := zH (fun (q : List UInt8) (W : World) (hb : Below w.heap.size w W) => Ga x q W (hx.below hb))
 have Hchk := zH (fun (y : zO) (hy : y ∈ x.meths) (W : World) (hb : Below w.heap.size w W) => Vi y.cA y.cm y.cc y.code x.kA x.km x.kc x.consts y.locals W ((hx.meths.each y hy).code.below hb) (hx.consts.below hb))
 have Hhnd := zH (fun (y : zO) (hy : y ∈ x.meths) (W : World) (hb : Below w.heap.size w W) => Vh y.hA y.hm y.hc y.hand (y.cm : Int) W ((hx.meths.each y hy).hand.below hb) (hl.meths y hy).hand)
 have Hcd := zH (fun (y : zO) (hy : y ∈ x.meths) => (hx.meths.each y hy).code)
 have hml : x.meths.length ≤ x.mm := Nat.le_of_eq hx.meths.len.symm
 have hmx : x.mm ≤ maxLen := Nat.le_trans hx.meths.le hx.meths.max
 have Hm := zH hx.meths.rds
 have HL := zH hl.meths
 unfold maxLen at hmx
 clear hx hl
 have HB := zH ((Below.refl w.heap.size w).alloc (Nat.le_refl _) (.cells #[.string ⟨x.name.toArray⟩, .string ⟨x.sup.toArray⟩, .slice x.kA x.km x.kc, .slice x.fA x.fm x.fc, .slice x.mA x.mm x.mc] 81))
 have HP := zH (jq.new w (.string ⟨x.name.toArray⟩) (.string ⟨x.sup.toArray⟩) (.slice x.kA x.km x.kc) (.slice x.fA x.fm x.fc) (.slice x.mA x.mm x.mc) 81)
 obtain ⟨n, s, kA, km, kc, fA, fm, fc, mA, mm, mc, ks, fs, ms⟩ := x
 have hja : j < ms.length := hja
 simp only [zf.V] at *
 obtain ⟨b1, o1, rfl, hb1, hc0, hc1, hc2, hc3, hc4⟩ := jY (Hm.out.below HB.out) hja
 have hj1 : (j : Int) < (mm : Int) := by omega
 have hj0 : (0 : Int) ≤ (j : Int) := by omega
 have hlx := HL.out _ (List.getElem_mem hja)
 have Ha := zH (fun (h : zF (ms[j]'hja).name = false) => Kg (ms := ms) (ks := ks) (i := j) h)
 have Hb := zH (fun (h : zF (ms[j]'hja).name = true) h2 => vF (ms := ms) (ks := ks) (i := j) h h2)
 have Hc := zH (fun (h : zF (ms[j]'hja).name = true) h2 h3 => vE (ms := ms) (ks := ks) (i := j) h h2 h3)
 have Hd := zH (fun (h : zF (ms[j]'hja).name = true) h2 h3 h4 => zd2 (ms := ms) (ks := ks) (i := j) h h2 h3 h4)
 have He := zH (fun (h : zF (ms[j]'hja).name = true) h2 h3 h4 => Kh (ms := ms) (ks := ks) (i := j) h h2 h3 h4)
 have hchk := Hchk.out _ (List.getElem_mem hja)
 have hhnd := Hhnd.out _ (List.getElem_mem hja)
 have hcd := Hcd.out _ (List.getElem_mem hja)
 generalize ms[j] = x at *
 generalize jZ ms ks j x = E at *
 obtain ⟨x0, x1, x2, x3, x4, x5, x6, x7, x8, cd, hd⟩ := x
 simp only at hc0 hc1 hc2 hc3 hc4 hchk hhnd hcd
 have hl0 : x0.length ≤ 140737488351232 := hlx.name
 have hl1 : x1.length ≤ 140737488351232 := hlx.sig
 have Hk2 := zH hchk
 have Hh2 := zH hhnd
 have Hcd2 := zH (show JR w x3 x4 x5 cd from hcd)
 have hcl : cd.length ≤ x4 := Nat.le_of_eq hcd.len.symm
 have hcl2 : x4 ≤ cd.length := Nat.le_of_eq hcd.len
 have hcx : x4 ≤ maxLen := Nat.le_trans hcd.le hcd.max
 unfold maxLen at hcx
 clear hchk hhnd hlx hcd
 have hT6 := XU x1
 have Hs5 := zH (@XW x1)
 generalize hsp : zy x1 = SP at *
 obtain ⟨SG, ST, SE⟩ := SP
 have Hsp := zH hsp
 clear hsp
 simp only at hT6
 generalize hK : qA cd ks x2 = K at *
 have HKb := zH (fun h2 => zu9 (hd := hd) hK h2)
 have HKo := zH (fun h2 h3 => zu7 (hd := hd) hK h2 h3)
 have HKh := zH (fun h2 h3 => zu8 (hd := hd) hK h2 h3)
 clear hK
 obtain ⟨K0, K1⟩ := K
 simp only [zn2] at Hk2 HKb HKo HKh
 have HW := zH (HB.out.alloc (by simp) (.cells #[.string ⟨x0.toArray⟩, .string ⟨x1.toArray⟩, .int .i64 x2, .slice x3 x4 x5, .slice x6 x7 x8] 85))
 have hP := HP.out.after ((Below.refl _ _).alloc (Nat.le_refl _) (.cells #[.string ⟨x0.toArray⟩, .string ⟨x1.toArray⟩, .int .i64 x2, .slice x3 x4 x5, .slice x6 x7 x8] 85))
 have HPc := zH hP
 have hM := jq.new (w.alloc (.cells #[.string ⟨n.toArray⟩, .string ⟨s.toArray⟩, .slice kA km kc, .slice fA fm fc, .slice (some ⟨b1, o1, none⟩) mm mc] 81)) (.string ⟨x0.toArray⟩) (.string ⟨x1.toArray⟩) (.int .i64 x2) (.slice x3 x4 x5) (.slice x6 x7 x8) 85
 rw [show (w.alloc (.cells #[.string ⟨n.toArray⟩, .string ⟨s.toArray⟩, .slice kA km kc, .slice fA fm fc, .slice (some ⟨b1, o1, none⟩) mm mc] 81)).heap.size = w.heap.size + 1 by simp] at hM
 have HM := zH hM
 clear hP
 obtain ⟨g0, g1, g2, g3, g4⟩ := HP.out
 obtain ⟨m0, m1, m2, m3, m4⟩ := hM
 go_enter Tryz.func96, Tryz.ntmps96
 go_wp2_with fail
 refine Calls.mono (Jh x0 _ (by omega)) ?_
 rintro e w3 ⟨rfl, rfl⟩
 cases hN : zF x0
 · have Hq := zH (Ha.out hN)
   clear hN
   go_wp2_with fail
   go_ret
   exact ⟨zJ Hq.out.symm, HW.out⟩
 · have HN := zH hN
   clear hN
   go_wp2_with fail
   have hspl := jm x1 ((w.alloc (.cells #[.string ⟨n.toArray⟩, .string ⟨s.toArray⟩, .slice kA km kc, .slice fA fm fc, .slice (some ⟨b1, o1, none⟩) mm mc] 81)).alloc (.cells #[.string ⟨x0.toArray⟩, .string ⟨x1.toArray⟩, .int .i64 x2, .slice x3 x4 x5, .slice x6 x7 x8] 85)) (by omega)
   rw [Hsp.out] at hspl
   refine Calls.mono hspl ?_
   rintro e w1 ⟨v1, rfl, hown1, hb1⟩
   obtain ⟨A1, c1, rfl, h11, h12, _⟩ := zS hown1
   have B1 := zH (HW.out.trans (hb1.mono HW.out.size))
   have P1 := zH (HPc.out.after hb1)
   have M1 := zH (HM.out.after hb1)
   clear hown1 hb1 h11 h12 hspl g0 g1 g2 g3 g4 m0 m1 m2 m3 m4 hc0 hc1 hc2 hc3 hc4
   generalize ST.length = T at *
   obtain ⟨g0, g1, g2, g3, g4⟩ := P1.out
   obtain ⟨m0, m1, m2, m3, m4⟩ := M1.out
   by_cases hE : SE = 0
   · subst hE
     go_wp2_with fail
     refine Calls.mono (Hat.out x0 _ B1.out) ?_
     rintro e w2 ⟨rfl, hb2⟩
     have B2 := zH (B1.out.trans (hb2.mono B1.out.size))
     have P2 := zH (P1.out.after hb2)
     have M2 := zH (M1.out.after hb2)
     clear hb2 g0 g1 g2 g3 g4 m0 m1 m2 m3 m4
     obtain ⟨g0, g1, g2, g3, g4⟩ := P2.out
     obtain ⟨m0, m1, m2, m3, m4⟩ := M2.out
     have Hc3 := zH (fun h3 => Hc.out HN.out (by trivial) h3)
     have Hd3 := zH (fun h3 h4 => Hd.out HN.out (by trivial) h3 h4)
     have He3 := zH (fun h3 h4 => He.out HN.out (by trivial) h3 h4)
     generalize zD (Zw0 x0) ms = F at *
     by_cases hF : F < (j : Int)
     · have Hq := zH (Hc3.out (by omega))
       go_wp2_with fail
       go_ret
       exact ⟨zJ Hq.out.symm, B2.out⟩
     · have hF2 : decide (F < (j : Int)) = false := decide_eq_false hF
       have hsum : IntKind.i64.wrap ((T : Int) + 1) = (T : Int) + 1 := IntWalk.i64_in _ (by omega)
       have hcase : (decide ((24 : Int) < x2) = true ∧ (x2 > 24 ∨ x2 < 1 + (T : Int))) ∨ (decide ((24 : Int) < x2) = false ∧ decide (x2 < (T : Int) + 1) = true ∧ (x2 > 24 ∨ x2 < 1 + (T : Int))) ∨ (decide ((24 : Int) < x2) = false ∧ decide (x2 < (T : Int) + 1) = false ∧ ¬ (x2 > 24 ∨ x2 < 1 + (T : Int))) := by
        simp only [decide_eq_true_eq, decide_eq_false_iff_not]; omega
       have HF := zH hF
       clear hF
       rcases hcase with ⟨d1, hor⟩ | ⟨d1, d2, hor⟩ | ⟨d1, d2, hor⟩
       · have Hq := zH (Hd3.out (by have := HF.out; omega) (by omega))
         clear hor
         go_wp2_with fail
         go_ret
         exact ⟨zJ Hq.out.symm, B2.out⟩
       · have Hq := zH (Hd3.out (by have := HF.out; omega) (by omega))
         clear hor
         go_wp2_with fail
         go_ret
         exact ⟨zJ Hq.out.symm, B2.out⟩
       · have Hq := zH (He3.out (by have := HF.out; omega) (by omega))
         clear hor
         go_wp2_with fail
         refine Calls.mono (Hk2.out _ B2.out) ?_
         rintro e w4 ⟨rfl, hb4⟩
         have B4 := zH (B2.out.trans (hb4.mono B2.out.size))
         have M4 := zH (M2.out.after hb4)
         clear hb4 g0 g1 g2 g3 g4 m0 m1 m2 m3 m4 d1 d2 hsum hF2
         obtain ⟨m0, m1, m2, m3, m4⟩ := M4.out
         by_cases hK : K1 = 0
         · have HKo2 := zH (fun h3 => HKo.out hK h3)
           have HKh2 := zH (fun h3 => HKh.out hK h3)
           subst hK
           go_wp2_with fail
           go_loop [11] (fun i => ∃ k : Nat, k ≤ x4 ∧ i = .int .i64 k ∧ Hid (∀ y ∈ cd.take k, Yf y = false)) (fun i => x4 - (intOf i).toNat)
           case atStart => exact ⟨0, Nat.zero_le _, rfl, zH (by simp)⟩
           case round =>
            obtain ⟨k, hk, rfl, Hno⟩ := hrel
            by_cases hlt : k < x4
            · have hka : k < cd.length := by omega
              obtain ⟨b2, o2, rfl, hb2, hd0, hd1⟩ := XJ (Hcd2.out.below B4.out).rds hka
              have hk1 : (k : Int) < (x4 : Int) := by omega
              have hk0 : (0 : Int) ≤ (k : Int) := by omega
              cases hD : ((cd[k]).1 == 45)
              · have Hnx := zH (qz (p := Yf) hka Hno.out hD)
                go_wp2_with fail
                go_round
                case rel => exact ⟨k + 1, by omega, by go_num, Hnx⟩
                case measure => simp [intOf]; omega
              · have Hf := zH (HKo2.out (by rw [Zw1 (p := Yf) hka Hno.out hD]; omega))
                go_wp2_with fail
                go_ret
                exact ⟨zJ (by rw [Hq.out, Hf.out]), B4.out⟩
            · have Hf := zH (HKh2.out (by
               have h := Hno.out
               rw [List.take_of_length_le (by omega)] at h
               rw [qX h]; omega))
              have Hcm := zH (show (cd.length : Int) = (x4 : Int) by omega)
              go_wp2_with fail
              refine Calls.mono (Hh2.out _ B4.out) ?_
              rintro e w5 ⟨rfl, hb5⟩
              have B5 := zH (B4.out.trans (hb5.mono B4.out.size))
              clear hb5
              go_wp2_with fail
              go_ret
              exact ⟨zJ (by rw [Hq.out, Hf.out, Hcm.out]), B5.out⟩
         · have Hf := zH (HKb.out hK)
           have hK2 : (K1 != 0) = true := by simp [hK]
           clear hK
           go_wp2_with fail
           go_ret
           exact ⟨zJ (by rw [Hq.out, Hf.out]), B4.out⟩
   · have Hq := zH (Hb.out HN.out hE)
     have h5 : SE = 5 := Hs5.out hE
     subst h5
     clear hE
     go_wp2_with fail
     go_ret
     exact ⟨zJ Hq.out.symm, B1.out⟩
end KlsW
namespace KlsX
open Go.RowKit Base BinM DescM DescW DescX DescR DescP DescQ Stru PoolM InsM InsA InsC InsD InsE InsP PutN Kls KlsP KlsQ KlsU KlsV KlsW OpenK
theorem KZ {x : zf} (h : zF x.name = false ∨ zF x.sup = false) : qY x = 7 := by unfold qY; rw [if_pos h]
theorem Uf {x : zf} (h : zF x.name = true) (h1 : zF x.sup = true) {E : Int} (h2 : (J3 [] x.consts).2 = E) (h3 : E ≠ 0) : qY x = E := by unfold qY; rw [if_neg (by simp [h, h1]), h2, if_pos h3]
theorem Ue {x : zf} (h : zF x.name = true) (h1 : zF x.sup = true) (h2 : (J3 [] x.consts).2 = 0) {E : Int} (h3 : jO x.fields = E) (h4 : E ≠ 0) : qY x = E := by unfold qY; rw [if_neg (by simp [h, h1]), if_neg (by simp [h2]), h3, if_pos h4]
theorem vV {x : zf} (h : zF x.name = true) (h1 : zF x.sup = true) (h2 : (J3 [] x.consts).2 = 0) (h3 : jO x.fields = 0) : qY x = JV x.meths x.consts := by unfold qY; rw [if_neg (by simp [h, h1]), if_neg (by simp [h2]), if_neg (by simp [h3])]
set_option maxRecDepth 100000 in
theorem UD (A : Option Addr) (m c : Nat) (l : List Cst) (w : World) (h : Zq w A m c l) (hlt : ∀ x ∈ l, x.s.length ≤ 140737488351232 ∧ x.t.length ≤ 140737488351232 ∧ x.u.length ≤ 140737488351232) :
 Calls Tryz.prog 70 #[.slice A m c] w fun e w' => e = .returned (.int .i64 (J3 [] l).2) ∧ Below w.heap.size w w' := by
 have hp := PutR.UA none 0 0 [] A m c l w rfl (.inl rfl) (by omega) h hlt
 have Hp := zH hp
 clear hp h hlt
 generalize J3 [] l = R at *
 obtain ⟨R0, R1⟩ := R
 go_enter Tryz.func70, Tryz.ntmps70
 go_wp2_with fail
 refine Calls.mono Hp.out ?_
 rintro e w1 ⟨v1, rfl, -, hb1⟩
 have B1 := zH hb1
 clear hb1
 go_wp2_with fail
 go_ret
 exact ⟨rfl, B1.out⟩
set_option maxRecDepth 100000 in
set_option maxHeartbeats 4000000 in
theorem ZG (x : zf) (w : World) (hL : Laid w) (hx : x.is w) (hl : zf.lt x) :
 Calls Tryz.prog 35 #[x.V] w fun e w' => e = .returned (.int .i64 (qY x)) ∧ Below w.heap.size w w' := by
 have Hflds := zH (fun (W : World) (hb : Below w.heap.size w W) => GH x W (hx.below hb) hl)
 have Hmths := zH (fun (W : World) (hb : Below w.heap.size w W) => Ki x W (hL.below hb hL.1) (hx.below hb) hl)
 have Hput := zH (fun (W : World) (hb : Below w.heap.size w W) => Gc none 0 0 [] x.kA x.km x.kc x.consts W rfl (.inl rfl) (by omega) (hx.consts.below hb) hl.consts)
 have hl0 : x.name.length ≤ 140737488351232 := hl.name
 have hl1 : x.sup.length ≤ 140737488351232 := hl.sup
 have Hcn := zH (@KZ x)
 have Hcc := zH (@Uf x)
 have Hcf := zH (@Ue x)
 have Hcm := zH (@vV x)
 clear hx hl hL
 have HB := zH ((Below.refl w.heap.size w).alloc (Nat.le_refl _) (.cells #[.string ⟨x.name.toArray⟩, .string ⟨x.sup.toArray⟩, .slice x.kA x.km x.kc, .slice x.fA x.fm x.fc, .slice x.mA x.mm x.mc] 81))
 have E1 := zH (jq.new w (.string ⟨x.name.toArray⟩) (.string ⟨x.sup.toArray⟩) (.slice x.kA x.km x.kc) (.slice x.fA x.fm x.fc) (.slice x.mA x.mm x.mc) 81)
 generalize qY x = R at *
 generalize J3 [] x.consts = KK at *
 generalize jO x.fields = FF at *
 generalize JV x.meths x.consts = MM at *
 obtain ⟨n, s, kA, km, kc, fA, fm, fc, mA, mm, mc, ks, fs, ms⟩ := x
 obtain ⟨K0, K1⟩ := KK
 simp only [zf.V] at *
 obtain ⟨g0, g1, g2, g3, g4⟩ := E1.out
 go_enter Tryz.func35, Tryz.ntmps35
 go_wp2_with fail
 refine Calls.mono (uP n _ (by omega)) ?_
 rintro e w3 ⟨rfl, rfl⟩
 cases hN : zF n
 · have Hq := zH (Hcn.out (.inl hN))
   clear hN
   go_wp2_with fail
   go_ret
   exact ⟨zJ Hq.out.symm, HB.out⟩
 · have HN := zH hN
   clear hN
   go_wp2_with fail
   refine Calls.mono (uP s _ (by omega)) ?_
   rintro e w3 ⟨rfl, rfl⟩
   cases hS : zF s
   · have Hq := zH (Hcn.out (.inr hS))
     clear hS
     go_wp2_with fail
     go_ret
     exact ⟨zJ Hq.out.symm, HB.out⟩
   · have HS := zH hS
     clear hS
     go_wp2_with fail
     refine Calls.mono (Hput.out _ HB.out) ?_
     rintro e w1 ⟨v1, rfl, -, hb1⟩
     have B1 := zH (HB.out.trans (hb1.mono HB.out.size))
     have P1 := zH (E1.out.after hb1)
     clear hb1 g0 g1 g2 g3 g4
     by_cases hK : K1 = 0
     · have Hcf2 := zH (fun (E : Int) h4 h5 => Hcf.out HN.out HS.out hK (E := E) h4 h5)
       have Hcm2 := zH (fun h3 => Hcm.out HN.out HS.out hK h3)
       subst hK
       obtain ⟨g0, g1, g2, g3, g4⟩ := P1.out
       go_wp2_with fail
       refine Calls.mono (Hflds.out _ B1.out) ?_
       rintro e w2 ⟨rfl, hb2⟩
       have B2 := zH (B1.out.trans (hb2.mono B1.out.size))
       have P2 := zH (P1.out.after hb2)
       clear hb2 g0 g1 g2 g3 g4
       by_cases hF : FF = 0
       · have Hq := zH (Hcm2.out hF)
         subst hF
         obtain ⟨g0, g1, g2, g3, g4⟩ := P2.out
         go_wp2_with fail
         refine Calls.mono (Hmths.out _ B2.out) ?_
         rintro e w4 ⟨rfl, hb4⟩
         have B4 := zH (B2.out.trans (hb4.mono B2.out.size))
         clear hb4
         go_wp2_with fail
         go_ret
         exact ⟨zJ Hq.out.symm, B4.out⟩
       · have Hq := zH (Hcf2.out FF rfl hF)
         have hF2 : (FF != 0) = true := by simp [hF]
         clear hF
         go_wp2_with fail
         go_ret
         exact ⟨zJ Hq.out.symm, B2.out⟩
     · have Hq := zH (Hcc.out HN.out HS.out (E := K1) rfl hK)
       have hK2 : (K1 != 0) = true := by simp [hK]
       clear hK
       go_wp2_with fail
       go_ret
       exact ⟨zJ Hq.out.symm, B1.out⟩
set_option maxRecDepth 100000 in
set_option maxHeartbeats 8000000 in
theorem zP (x : zf) (w : World) (hx : x.is w) (hl : zf.lt x) :
 Calls Tryz.prog 40 #[x.V] w fun e w' => e = .returned (.int .i64 (qY x)) ∧ Below w.heap.size w w' := by
 have Hat := zH (fun (q : List UInt8) (W : World) (hb : Below w.heap.size w W) => uh x q W (hx.below hb))
 have Hmth := zH (fun (j : Nat) (hj : j < x.meths.length) (W : World) (hb : Below w.heap.size w W) => UC x j hj W (hx.below hb) hl)
 have Hput := zH (fun (W : World) (hb : Below w.heap.size w W) => UD x.kA x.km x.kc x.consts W (hx.consts.below hb) hl.consts)
 have hl0 : x.name.length ≤ 140737488351232 := hl.name
 have hl1 : x.sup.length ≤ 140737488351232 := hl.sup
 have HL := zH hl.fields
 have H := zH (show JQ w x.fA x.fm x.fc x.fields from hx.fields)
 have hml : x.fields.length ≤ x.fm := Nat.le_of_eq hx.fields.len.symm
 have hml2 : x.fm ≤ x.fields.length := Nat.le_of_eq hx.fields.len
 have hmx : x.fm ≤ maxLen := Nat.le_trans hx.fields.le hx.fields.max
 have hmm : x.meths.length ≤ x.mm := Nat.le_of_eq hx.meths.len.symm
 have hmm2 : x.mm ≤ x.meths.length := Nat.le_of_eq hx.meths.len
 have hmmx : x.mm ≤ maxLen := Nat.le_trans hx.meths.le hx.meths.max
 unfold maxLen at hmx hmmx
 have Hcn := zH (@KZ x)
 have Hcc := zH (@Uf x)
 have Hcf := zH (@Ue x)
 have Hcm := zH (@vV x)
 clear hx hl
 have HB := zH ((Below.refl w.heap.size w).alloc (Nat.le_refl _) (.cells #[.string ⟨x.name.toArray⟩, .string ⟨x.sup.toArray⟩, .slice x.kA x.km x.kc, .slice x.fA x.fm x.fc, .slice x.mA x.mm x.mc] 81))
 have E1 := zH (jq.new w (.string ⟨x.name.toArray⟩) (.string ⟨x.sup.toArray⟩) (.slice x.kA x.km x.kc) (.slice x.fA x.fm x.fc) (.slice x.mA x.mm x.mc) 81)
 generalize qY x = R at *
 generalize J3 [] x.consts = KK at *
 obtain ⟨n, s, kA, km, kc, fA, fm, fc, mA, mm, mc, ks, fs, ms⟩ := x
 obtain ⟨K0, K1⟩ := KK
 simp only [zf.V] at *
 obtain ⟨g0, g1, g2, g3, g4⟩ := E1.out
 go_enter Tryz.func40, Tryz.ntmps40
 go_wp2_with fail
 refine Calls.mono (Jh n _ (by omega)) ?_
 rintro e w3 ⟨rfl, rfl⟩
 cases hN : zF n
 · have Hq := zH (Hcn.out (.inl hN))
   clear hN
   go_wp2_with fail
   go_ret
   exact ⟨zJ Hq.out.symm, HB.out⟩
 · have HN := zH hN
   clear hN
   go_wp2_with fail
   refine Calls.mono (Jh s _ (by omega)) ?_
   rintro e w3 ⟨rfl, rfl⟩
   cases hS : zF s
   · have Hq := zH (Hcn.out (.inr hS))
     clear hS
     go_wp2_with fail
     go_ret
     exact ⟨zJ Hq.out.symm, HB.out⟩
   · have HS := zH hS
     clear hS
     go_wp2_with fail
     refine Calls.mono (Hput.out _ HB.out) ?_
     rintro e w1 ⟨rfl, hb1⟩
     have B1 := zH (HB.out.trans (hb1.mono HB.out.size))
     have P1 := zH (E1.out.after hb1)
     clear hb1 g0 g1 g2 g3 g4
     by_cases hK : K1 = 0
     · have Hcf2 := zH (fun (E : Int) h4 h5 => Hcf.out HN.out HS.out hK (E := E) h4 h5)
       have Hcm2 := zH (fun h3 => Hcm.out HN.out HS.out hK h3)
       subst hK
       by_cases hs : 16 < fm
       · have Hq := zH (Hcf2.out 6 (by unfold jO; rw [if_pos (by omega)]) (by decide))
         obtain ⟨g0, g1, g2, g3, g4⟩ := P1.out
         go_wp2_with fail
         go_ret
         exact ⟨zJ Hq.out.symm, B1.out⟩
       · have HH := zH (show jO fs = Zo (Y4 fs) fs by unfold jO; rw [if_neg (by omega)])
         obtain ⟨g0, g1, g2, g3, g4⟩ := P1.out
         go_wp2_with fail
         clear g0 g1 g2 g3 g4
         go_loopw [4] (fun i wr => ∃ j : Nat, j ≤ fm ∧ i = .int .i64 j ∧ (∀ k (hk : k < fs.length), k < j → Y4 fs k fs[k] = 0) ∧ jq wr w.heap.size (.string ⟨n.toArray⟩) (.string ⟨s.toArray⟩) (.slice kA km kc) (.slice fA fm fc) (.slice mA mm mc) ∧ Below w.heap.size w wr) (fun i _ => fm - (intOf i).toNat)
         case atStart => exact ⟨0, Nat.zero_le _, rfl, by intro k _ h; omega, P1.out, B1.out⟩
         case round =>
          obtain ⟨j, hj, rfl, hall, hbox, hbel⟩ := hrel
          have Hall := zH hall
          have Hbox := zH hbox
          have Hbel := zH hbel
          have hsz := hbel.size
          obtain ⟨g0, g1, g2, g3, g4⟩ := hbox
          clear hall
          by_cases hlt : j < fm
          · have hja : j < fs.length := by omega
            obtain ⟨b1, o1, rfl, hb1, hc0, hc1⟩ := JI (H.out.rds.below hbel) hja
            have hj1 : (j : Int) < (fm : Int) := by omega
            have hj0 : (0 : Int) ≤ (j : Int) := by omega
            have Hlx := zH (HL.out _ (List.getElem_mem hja))
            have Hhit := zH (fun hne => qp hja Hall.out hne)
            have Hnext := zH (fun h0 => ZX Hall.out hja h0)
            have Ha := zH (fun (h : zF (fs[j]'hja).name = false) => KJ (fs := fs) (i := j) h)
            have Hb := zH (fun (h : zF (fs[j]'hja).name = true) h2 => KL (fs := fs) (i := j) h h2)
            have Hc := zH (fun (h : zF (fs[j]'hja).name = true) h2 h3 => vM (fs := fs) (i := j) h h2 h3)
            have Hd := zH (fun (h : zF (fs[j]'hja).name = true) h2 h3 => zt2 (fs := fs) (i := j) h h2 h3)
            clear hbel
            generalize fs[j] = x at *
            generalize Y4 fs j x = E at *
            obtain ⟨x0, x1⟩ := x
            simp only at hc0 hc1
            have hl3 : x0.length ≤ 140737488351232 ∧ x1.length ≤ 140737488351232 := Hlx.out
            go_wp2_with fail
            refine Calls.mono (Jh x0 _ (by omega)) ?_
            rintro e w3 ⟨rfl, rfl⟩
            cases hNN : zF x0
            · have Hq := zH (Ha.out hNN)
              have Hf := zH (Hhit.out (by rw [Hq.out]; decide))
              have Hr := zH (Hcf2.out 7 (by rw [HH.out, Hf.out, Hq.out]) (by decide))
              clear hNN
              go_wp2_with fail
              go_ret
              exact ⟨zJ Hr.out.symm, Hbel.out⟩
            · have HNN := zH hNN
              clear hNN
              go_wp2_with fail
              refine Calls.mono (DescR.zP x1 _ (by omega)) ?_
              rintro e w3 ⟨rfl, rfl⟩
              cases hR : zI x1
              · have Hq := zH (Hb.out HNN.out hR)
                have Hf := zH (Hhit.out (by rw [Hq.out]; decide))
                have Hr := zH (Hcf2.out 10 (by rw [HH.out, Hf.out, Hq.out]) (by decide))
                clear hR
                go_wp2_with fail
                go_ret
                exact ⟨zJ Hr.out.symm, Hbel.out⟩
              · have HR := zH hR
                have Hc2 := zH (fun h3 => Hc.out HNN.out HR.out h3)
                have Hd2 := zH (fun h3 => Hd.out HNN.out HR.out h3)
                clear hR
                go_wp2_with fail
                have Hat2 := zH (Hat.out x0)
                generalize zD (qP x0) fs = F at *
                go_region_held3 (fun w' => w'.cell? ⟨w.heap.size, 0, none⟩ = some (.string ⟨n.toArray⟩) ∧ w'.cell? ⟨w.heap.size, 1, none⟩ = some (.string ⟨s.toArray⟩) ∧ w'.cell? ⟨w.heap.size, 2, none⟩ = some (.slice kA km kc) ∧ w'.cell? ⟨w.heap.size, 3, none⟩ = some (.slice (some ⟨b1, o1, none⟩) fm fc) ∧ w'.cell? ⟨w.heap.size, 4, none⟩ = some (.slice mA mm mc) ∧ w'.cell? ⟨b1, o1 + j * 2, none⟩ = some (.string ⟨x0.toArray⟩))
                 (first | exact ⟨g0, g1, g2, g3, g4, hc0⟩ | go_keep)
                 (first
                  | (go_at_call 95; refine Calls.mono (Hat2.out _ Hbel.out.drew) ?_; rintro e w3 ⟨rfl, hb3⟩
                     have B3 := zH (Hbel.out.drew.trans (hb3.mono hsz))
                     have P3 := zH (jq.after (w := wr.drew) Hbox.out hb3)
                     have q0 := zH ((hb3.cell (p := ⟨b1, o1 + j * 2, none⟩) hb1).trans hc0)
                     clear hb3 g0 g1 g2 g3 g4 hc0 hc1
                     obtain ⟨g0, g1, g2, g3, g4⟩ := P3.out
                     have hc0 := q0.out))
                all_goals
                 by_cases hF : F < (j : Int)
                 · have Hq := zH (Hc2.out (by omega))
                   have Hf := zH (Hhit.out (by rw [Hq.out]; decide))
                   have Hr := zH (Hcf2.out 8 (by rw [HH.out, Hf.out, Hq.out]) (by decide))
                   go_wp2_with fail
                   go_ret
                   exact ⟨zJ Hr.out.symm, B3.out⟩
                 · have Hq := zH (Hd2.out (by omega))
                   have Hf := zH (Hnext.out Hq.out)
                   have hF2 : decide (F < (j : Int)) = false := decide_eq_false hF
                   go_wp2_with fail
                   go_roundw
                   case rel => exact ⟨j + 1, by omega, by go_num, Hf.out, P3.out, B3.out⟩
                   case measure => simp [intOf]; omega
          · have Hq := zH (Hcm2.out (by rw [HH.out]; exact ZW (fun i hi => Hall.out i hi (by omega))))
            by_cases hms : 32 < mm
            · have Hr := zH (show R = 6 by rw [Hq.out]; unfold JV; rw [if_pos (by omega)])
              go_wp2_with fail
              go_ret
              exact ⟨zJ Hr.out.symm, hbel⟩
            · have Hr := zH (show R = Zo (jZ ms ks) ms by rw [Hq.out]; unfold JV; rw [if_neg (by omega)])
              go_wp2_with fail
              clear g0 g1 g2 g3 g4
              have W0 := zH Hbox.out
              obtain ⟨wo, hwo⟩ : ∃ wo : World, wo = wr := ⟨_, rfl⟩
              subst hwo
              go_loopw [5] (fun i wr => ∃ j : Nat, j ≤ mm ∧ i = .int .i64 j ∧ (∀ k (hk : k < ms.length), k < j → jZ ms ks k ms[k] = 0) ∧ jq wr w.heap.size (.string ⟨n.toArray⟩) (.string ⟨s.toArray⟩) (.slice kA km kc) (.slice fA fm fc) (.slice mA mm mc) ∧ Below w.heap.size w wr) (fun i _ => mm - (intOf i).toNat)
              case atStart => exact ⟨0, Nat.zero_le _, rfl, by intro k _ h; omega, Hbox.out, Hbel.out⟩
              case round =>
               obtain ⟨k, hk, rfl, hall2, hbox2, hbel2⟩ := hrel
               have Hall2 := zH hall2
               have Hbox2 := zH hbox2
               have Hbel2 := zH hbel2
               have hsz2 := hbel2.size
               obtain ⟨g0, g1, g2, g3, g4⟩ := hbox2
               clear hall2
               by_cases hlt2 : k < mm
               · have hka : k < ms.length := by omega
                 have Hhit := zH (fun hne => qp hka Hall2.out hne)
                 have Hnext := zH (fun h0 => ZX Hall2.out hka h0)
                 have Hm2 := zH (Hmth.out k hka)
                 generalize jZ ms ks k ms[k] = E at *
                 go_wp2_with fail
                 refine Calls.mono (Hm2.out _ Hbel2.out) ?_
                 rintro e w3 ⟨rfl, hb3⟩
                 have B3 := zH (Hbel2.out.trans (hb3.mono hsz2))
                 have P3 := zH (Hbox2.out.after hb3)
                 clear hb3 g0 g1 g2 g3 g4 hbel2
                 by_cases hE : E = 0
                 · have Hf := zH (Hnext.out hE)
                   subst hE
                   go_wp2_with fail
                   go_roundw
                   case rel => exact ⟨k + 1, by omega, by go_num, Hf.out, P3.out, B3.out⟩
                   case measure => simp [intOf]; omega
                 · have Hf := zH (Hhit.out hE)
                   have hE2 : (E != 0) = true := by simp [hE]
                   clear hE
                   go_wp2_with fail
                   go_ret
                   exact ⟨zJ (by rw [Hr.out, Hf.out]), B3.out⟩
               · have Hf := zH (show R = 0 by rw [Hr.out]; exact ZW (fun i hi => Hall2.out i hi (by omega)))
                 go_wp2_with fail
                 go_ret
                 exact ⟨zJ Hf.out.symm, hbel2⟩
     · have Hq := zH (Hcc.out HN.out HS.out (E := K1) rfl hK)
       have hK2 : (K1 != 0) = true := by simp [hK]
       clear hK
       go_wp2_with fail
       go_ret
       exact ⟨zJ Hq.out.symm, B1.out⟩
end KlsX
end Go.Proofs.YtehainbhoflpnaaGreatDoor
