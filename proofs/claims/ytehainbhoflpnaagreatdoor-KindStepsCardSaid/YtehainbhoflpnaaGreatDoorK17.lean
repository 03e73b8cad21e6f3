/- pieces -/
import Derived.Test.YtehainbhoflpnaaGreatDoorK16
namespace Go.Proofs.YtehainbhoflpnaaGreatDoor
namespace KlsU
open Go.RowKit Base BinM DescM DescW DescX DescR DescP DescQ Stru PoolM InsM InsA InsC InsD Kls KlsP KlsQ OpenK
set_option maxRecDepth 100000 in
theorem Za0 (op a : Int) (w : World) :
 Calls Tryz.prog 177 #[.agg #[.int .i64 op, .int .i64 a]] w fun e w' => e = .returned (.bool (op == 45)) ∧ Below w.heap.size w w' := by
 have HB := zH ((Below.refl w.heap.size w).alloc (Nat.le_refl _) (.cells #[.int .i64 op, .int .i64 a] 24))
 go_enter Tryz.func177, Tryz.ntmps177
 go_wp2_with fail
 go_ret
 exact ⟨rfl, HB.out⟩
set_option maxRecDepth 100000 in
set_option maxHeartbeats 2000000 in
theorem Gq (A : Option Addr) (l : List InsT) (m c : Nat) (w : World) (hm : m = l.length) (hmx : m ≤ maxLen) (hr : Rds w A (l.flatMap JG)) :
 Calls Tryz.prog 201 #[.slice A m c, .func (.func 177) #[] #[]] w fun e w' => e = .returned (.int .i64 (zD Yf l)) ∧ Below w.heap.size w w' := by
 have eg : ∀ args w, (callFunc 177 args).run Tryz.prog w = .ok (.enter 177 args) w := enters_of Tryz.func177 (by kernel_rfl) rfl
 have hml : l.length ≤ m := Nat.le_of_eq hm.symm
 have hml2 : m ≤ l.length := Nat.le_of_eq hm
 have Hr := zH hr
 unfold maxLen at hmx
 clear hr hm
 go_enter Tryz.func201, Tryz.ntmps201
 go_wp2_with fail
 go_loopw [5, 8] (fun _ i wr => ∃ j : Nat, j ≤ m ∧ i = .int .i64 j ∧ (∀ x ∈ l.take j, Yf x = false) ∧ Below w.heap.size w wr) (fun _ i _ => m - (intOf i).toNat)
 case atStart => exact ⟨0, Nat.zero_le _, rfl, by simp, Below.refl _ _⟩
 case round =>
  obtain ⟨j, hj, rfl, hno, hbel⟩ := hrel
  have Hno := zH hno
  have Hbel := zH hbel
  have hsz := hbel.size
  clear hno
  by_cases hlt : j < m
  · have hja : j < l.length := by omega
    obtain ⟨b1, o1, rfl, hb1, hc0, hc1⟩ := XJ (Hr.out.below hbel) hja
    have hj1 : (j : Int) < (m : Int) := by omega
    have hj0 : (0 : Int) ≤ (j : Int) := by omega
    have Hat := zH (fun he => Zw1 (p := Yf) hja Hno.out he)
    have Hnext := zH (fun he => qz (p := Yf) hja Hno.out he)
    clear hbel
    generalize l[j] = x at *
    obtain ⟨x0, x1⟩ := x
    simp only at hc0 hc1
    go_wp2_with fail
    refine Calls.mono (Za0 x0 x1 _) ?_
    rintro e w3 ⟨rfl, hb3⟩
    have B3 := zH (Hbel.out.trans (hb3.mono hsz))
    clear hb3
    cases D : x0 == 45
    · have Hq := zH (Hnext.out D)
      clear D
      go_wp2_with fail
      go_roundw
      case rel => exact ⟨j + 1, by omega, by go_num, Hq.out, B3.out⟩
      case measure => simp [intOf]; omega
    · have Hq := zH (Hat.out D)
      clear D
      go_wp2_with fail
      go_ret
      exact ⟨zJ Hq.out.symm, B3.out⟩
  · have Hfin := zH (show zD Yf l = -1 by
     have h := Hno.out
     rw [List.take_of_length_le (by omega)] at h
     exact qX h)
    go_wp2_with fail
    go_ret
    exact ⟨zJ Hfin.out.symm, hbel⟩
theorem Gx (A : Option Addr) (l : List InsT) (m c : Nat) (w : World) (hm : m = l.length) (hmx : m ≤ maxLen) (hr : Rds w A (l.flatMap JG)) :
 Calls Tryz.prog 176 #[.slice A m c, .func (.func 177) #[] #[]] w fun e w' => e = .returned (.bool (decide (0 ≤ zD Yf l))) ∧ Below w.heap.size w w' := by
 have h := Gq A l m c w hm hmx hr
 have H := zH h
 clear h hm hmx hr
 go_enter Tryz.func176, Tryz.ntmps176
 go_wp2_with fail
 refine Calls.mono H.out ?_
 rintro e w3 ⟨rfl, hb3⟩
 have B3 := zH hb3
 clear hb3
 go_wp2_with fail
 go_ret
 exact ⟨rfl, B3.out⟩
set_option maxRecDepth 100000 in
set_option maxHeartbeats 4000000 in
theorem Vh (hA : Option Addr) (hm hc : Nat) (hd : List qJ) (n : Int) (w : World) (hx : Xb w hA hm hc hd) (hl : ∀ h ∈ hd, qJ.lt h) :
 Calls Tryz.prog 146 #[.slice hA hm hc, .int .i64 n] w fun e w' => e = .returned (.int .i64 (Jp n hd)) ∧ Below w.heap.size w w' := by
 have hml : hd.length ≤ hm := Nat.le_of_eq hx.len.symm
 have hml2 : hm ≤ hd.length := Nat.le_of_eq hx.len
 have hmx : hm ≤ maxLen := Nat.le_trans hx.le hx.max
 unfold maxLen at hmx
 have H := zH hx
 have HL := zH hl
 clear hx hl
 by_cases hs : 8 < hm
 · have HH := zH (show Jp n hd = 6 by unfold Jp; rw [if_pos (by omega)])
   go_enter Tryz.func146, Tryz.ntmps146
   go_wp2_with fail
   go_ret
   exact ⟨zJ HH.out.symm, Below.refl _ _⟩
 · have HH := zH (show Jp n hd = Zo (Yk n) hd by unfold Jp; rw [if_neg (by omega)])
   go_enter Tryz.func146, Tryz.ntmps146
   go_wp2_with fail
   go_loopw [5] (fun i wr => ∃ j : Nat, j ≤ hm ∧ i = .int .i64 j ∧ (∀ k (hk : k < hd.length), k < j → Yk (n : Int) k hd[k] = 0) ∧  Below w.heap.size w wr) (fun i _ => hm - (intOf i).toNat)
   case atStart => exact ⟨0, Nat.zero_le _, rfl, by intro k _ h; omega, Below.refl _ _⟩
   case round =>
    obtain ⟨j, hj, rfl, hall, hbel⟩ := hrel
    have Hall := zH hall
    have Hbel := zH hbel
    have hsz := hbel.size
    clear hall
    by_cases hlt : j < hm
    · have hja : j < hd.length := by omega
      obtain ⟨b1, o1, rfl, hb1, hc0, hc1, hc2, hc3⟩ := zs9 (H.out.rds.below hbel) hja
      have hj1 : (j : Int) < (hm : Int) := by omega
      have hj0 : (0 : Int) ≤ (j : Int) := by omega
      have Hlx := zH (HL.out _ (List.getElem_mem hja))
      have Hhit := zH (fun hne => qp hja Hall.out hne)
      have Hnext := zH (fun h0 => ZX Hall.out hja h0)
      have Ha := zH (fun (h : JD (n : Int) (hd[j]'hja) = true) => ze3 (i := j) h)
      have Hb := zH (fun (h : JD (n : Int) (hd[j]'hja) = false) h2 => KA (i := j) h h2)
      have Hc := zH (fun (h : JD (n : Int) (hd[j]'hja) = false) h2 => zs8 (i := j) h h2)
      clear hbel
      generalize hd[j] = x at *
      generalize Yk (n : Int) j x = E at *
      obtain ⟨x0, x1, x2, x3⟩ := x
      simp only at hc0 hc1 hc2 hc3
      have hl3 : x3.length ≤ 140737488351232 := Hlx.out
      have hcs := vD (n : Int) x0 x1 x2 x3
      have HA := zH ((Below.refl wr.heap.size wr).alloc (Nat.le_refl _) (.cells #[.int .i64 x0, .int .i64 x1, .int .i64 x2, .string ⟨x3.toArray⟩] 207))
      have HW := zH (Hbel.out.trans (HA.out.mono hsz))
      generalize hO : JD _ _ = O at hcs
      rcases hcs with ⟨d1, rfl⟩ | ⟨d1, d2, rfl⟩ | ⟨d1, d2, d3, rfl⟩ | ⟨d1, d2, d3, d4, rfl⟩ | ⟨d1, d2, d3, d4, d5, rfl⟩ | ⟨d1, d2, d3, d4, d5, rfl⟩
      · have Hq := zH (Ha.out hO)
        have Hf := zH (Hhit.out (by rw [Hq.out]; decide))
        clear hO
        go_wp2_with fail
        go_ret
        exact ⟨zJ (by rw [HH.out, Hf.out, Hq.out]), HW.out⟩
      · have Hq := zH (Ha.out hO)
        have Hf := zH (Hhit.out (by rw [Hq.out]; decide))
        clear hO
        go_wp2_with fail
        go_ret
        exact ⟨zJ (by rw [HH.out, Hf.out, Hq.out]), HW.out⟩
      · have Hq := zH (Ha.out hO)
        have Hf := zH (Hhit.out (by rw [Hq.out]; decide))
        clear hO
        go_wp2_with fail
        go_ret
        exact ⟨zJ (by rw [HH.out, Hf.out, Hq.out]), HW.out⟩
      · have Hq := zH (Ha.out hO)
        have Hf := zH (Hhit.out (by rw [Hq.out]; decide))
        clear hO
        go_wp2_with fail
        go_ret
        exact ⟨zJ (by rw [HH.out, Hf.out, Hq.out]), HW.out⟩
      · have Hq := zH (Ha.out hO)
        have Hf := zH (Hhit.out (by rw [Hq.out]; decide))
        clear hO
        go_wp2_with fail
        go_ret
        exact ⟨zJ (by rw [HH.out, Hf.out, Hq.out]), HW.out⟩
      · have HO := zH hO
        clear hO
        go_wp2_with fail
        refine Calls.mono (Jh x3 _ (by omega)) ?_
        rintro e w3 ⟨rfl, rfl⟩
        cases hN : zF x3
        · have Hq := zH (Hb.out HO.out hN)
          have Hf := zH (Hhit.out (by rw [Hq.out]; decide))
          clear hN
          go_wp2_with fail
          go_ret
          exact ⟨zJ (by rw [HH.out, Hf.out, Hq.out]), HW.out⟩
        · have Hq := zH (Hc.out HO.out hN)
          have Hf := zH (Hnext.out Hq.out)
          clear hN d1 d2 d3 d4 d5
          go_wp2_with fail
          go_roundw
          case rel => exact ⟨j + 1, by omega, by go_num, Hf.out, HW.out⟩
          case measure => simp [intOf]; omega
    · have Hfin := zH (show Zo (Yk (n : Int)) hd = 0 from ZW (fun i hi => Hall.out i hi (by omega)))
      go_wp2_with fail
      go_ret
      exact ⟨zJ (by rw [HH.out, Hfin.out]), hbel⟩
set_option maxRecDepth 100000 in
set_option maxHeartbeats 8000000 in
theorem zv0 (x : zO) (kA : Option Addr) (km kc : Nat) (ks : List Cst) (w : World) (hL : Laid w) (hx : x.is w) (hl : zO.lt x) (hk : Zq w kA km kc ks) :
 Calls Tryz.prog 136 #[x.V, .slice kA km kc] w fun e w' => e = .returned (.int .i64 (QC x.code x.hand x.locals ks)) ∧ Below w.heap.size w w' := by
 have hHB := (Below.refl w.heap.size w).alloc (Nat.le_refl _) (.cells #[.string ⟨x.name.toArray⟩, .string ⟨x.sig.toArray⟩, .int .i64 x.locals, .slice x.cA x.cm x.cc, .slice x.hA x.hm x.hc] 85)
 have E1 := zH (jq.new w (.string ⟨x.name.toArray⟩) (.string ⟨x.sig.toArray⟩) (.int .i64 x.locals) (.slice x.cA x.cm x.cc) (.slice x.hA x.hm x.hc) 85)
 have hchk := zl7 x.cA x.cm x.cc x.code kA km kc ks x.locals _ (Laid.alloc hL _) (hx.code.below hHB) (hk.below hHB)
 have Hold := zH (fun (W : World) (hb : Below w.heap.size w W) => Gx x.cA x.code x.cm x.cc W hx.code.len (Nat.le_trans hx.code.le hx.code.max) (hx.code.below hb).rds)
 have HB := zH hHB
 have hml : x.hand.length ≤ x.hm := Nat.le_of_eq hx.hand.len.symm
 have hml2 : x.hm ≤ x.hand.length := Nat.le_of_eq hx.hand.len
 have hmx : x.hm ≤ maxLen := Nat.le_trans hx.hand.le hx.hand.max
 have Hcl := zH (show (x.code.length : Int) = (x.cm : Int) by rw [hx.code.len])
 unfold maxLen at hmx
 have H := zH hx.hand
 have HL := zH hl.hand
 clear hx hl hk hL hHB
 obtain ⟨n, s, lo, cA, cm, cc, hA, hm, hc, cd, hd⟩ := x
 simp only [zO.V] at *
 have HE := zH (show QC cd hd lo ks = if (qA cd ks lo).2 ≠ 0 then (qA cd ks lo).2 else if 0 ≤ zD Yf cd then 12 else Jp (cm : Int) hd by unfold QC; rw [Hcl.out])
 generalize qA cd ks lo = K at *
 obtain ⟨K0, K1⟩ := K
 simp only [zn2] at hchk HE
 have Hchk := zH hchk
 clear hchk
 obtain ⟨g0, g1, g2, g3, g4⟩ := E1.out
 by_cases hK : K1 = 0
 · subst hK
   have HE1 := zH (show QC cd hd lo ks = if 0 ≤ zD Yf cd then 12 else Jp (cm : Int) hd by rw [HE.out, if_neg (by simp)])
   go_enter Tryz.func136, Tryz.ntmps136
   go_wp2_with fail
   refine Calls.mono Hchk.out ?_
   rintro e w1 ⟨rfl, hb1⟩
   have B1 := zH (HB.out.trans (hb1.mono HB.out.size))
   have P1 := zH (E1.out.after hb1)
   clear g0 g1 g2 g3 g4 hb1
   obtain ⟨g0, g1, g2, g3, g4⟩ := P1.out
   go_wp2_with fail
   refine Calls.mono (Hold.out _ B1.out) ?_
   rintro e w2 ⟨rfl, hb2⟩
   have B2 := zH (B1.out.trans (hb2.mono B1.out.size))
   have P2 := zH (P1.out.after hb2)
   clear g0 g1 g2 g3 g4 hb2
   obtain ⟨g0, g1, g2, g3, g4⟩ := P2.out
   by_cases hO : 0 ≤ zD Yf cd
   · have HE2 := zH (show QC cd hd lo ks = 12 by rw [HE1.out, if_pos hO])
     rw [decide_eq_true hO]
     clear hO
     go_wp2_with fail
     go_ret
     exact ⟨zJ HE2.out.symm, B2.out⟩
   · have HE2 := zH (show QC cd hd lo ks = Jp (cm : Int) hd by rw [HE1.out, if_neg hO])
     rw [decide_eq_false hO]
     clear hO
     by_cases hs : 8 < hm
     · have HH := zH (show QC cd hd lo ks = 6 by rw [HE2.out]; unfold Jp; rw [if_pos (by omega)])
       go_wp2_with fail
       go_ret
       exact ⟨zJ HH.out.symm, B2.out⟩
     · have HH := zH (show QC cd hd lo ks = Zo (Yk (cm : Int)) hd by rw [HE2.out]; unfold Jp; rw [if_neg (by omega)])
       go_wp2_with fail
       clear g0 g1 g2 g3 g4
       go_loopw [8, 9, 32] (fun _ _ i wr => ∃ j : Nat, j ≤ hm ∧ i = .int .i64 j ∧ (∀ k (hk : k < hd.length), k < j → Yk (cm : Int) k hd[k] = 0) ∧ jq wr w.heap.size (.string ⟨n.toArray⟩) (.string ⟨s.toArray⟩) (.int .i64 lo) (.slice cA cm cc) (.slice hA hm hc) ∧ Below w.heap.size w wr) (fun _ _ i _ => hm - (intOf i).toNat)
       case atStart => exact ⟨0, Nat.zero_le _, rfl, by intro k _ h; omega, P2.out, B2.out⟩
       case round =>
        obtain ⟨j, hj, rfl, hall, hbox, hbel⟩ := hrel
        have Hall := zH hall
        have Hbox := zH hbox
        have Hbel := zH hbel
        have hsz := hbel.size
        clear hall hbox
        by_cases hlt : j < hm
        · have hja : j < hd.length := by omega
          obtain ⟨b1, o1, rfl, hb1, hc0, hc1, hc2, hc3⟩ := zs9 (H.out.rds.below hbel) hja
          have hj1 : (j : Int) < (hm : Int) := by omega
          have hj0 : (0 : Int) ≤ (j : Int) := by omega
          have Hlx := zH (HL.out _ (List.getElem_mem hja))
          have Hhit := zH (fun hne => qp hja Hall.out hne)
          have Hnext := zH (fun h0 => ZX Hall.out hja h0)
          have Ha := zH (fun (h : JD (cm : Int) (hd[j]'hja) = true) => ze3 (i := j) h)
          have Hb := zH (fun (h : JD (cm : Int) (hd[j]'hja) = false) h2 => KA (i := j) h h2)
          have Hc := zH (fun (h : JD (cm : Int) (hd[j]'hja) = false) h2 => zs8 (i := j) h h2)
          clear hbel
          generalize hd[j] = x at *
          generalize Yk (cm : Int) j x = E at *
          obtain ⟨x0, x1, x2, x3⟩ := x
          simp only at hc0 hc1 hc2 hc3
          have hl3 : x3.length ≤ 140737488351232 := Hlx.out
          have hcs := vD (cm : Int) x0 x1 x2 x3
          have HA := zH ((Below.refl wr.heap.size wr).alloc (Nat.le_refl _) (.cells #[.int .i64 x0, .int .i64 x1, .int .i64 x2, .string ⟨x3.toArray⟩] 207))
          have HW := zH (Hbel.out.trans (HA.out.mono hsz))
          have HP := zH (Hbox.out.after HA.out)
          obtain ⟨g0, g1, g2, g3, g4⟩ := HP.out
          generalize hO : JD _ _ = O at hcs
          rcases hcs with ⟨d1, rfl⟩ | ⟨d1, d2, rfl⟩ | ⟨d1, d2, d3, rfl⟩ | ⟨d1, d2, d3, d4, rfl⟩ | ⟨d1, d2, d3, d4, d5, rfl⟩ | ⟨d1, d2, d3, d4, d5, rfl⟩
          · have Hq := zH (Ha.out hO)
            have Hf := zH (Hhit.out (by rw [Hq.out]; decide))
            clear hO
            go_wp2_with fail
            go_ret
            exact ⟨zJ (by rw [HH.out, Hf.out, Hq.out]), HW.out⟩
          · have Hq := zH (Ha.out hO)
            have Hf := zH (Hhit.out (by rw [Hq.out]; decide))
            clear hO
            go_wp2_with fail
            go_ret
            exact ⟨zJ (by rw [HH.out, Hf.out, Hq.out]), HW.out⟩
          · have Hq := zH (Ha.out hO)
            have Hf := zH (Hhit.out (by rw [Hq.out]; decide))
            clear hO
            go_wp2_with fail
            go_ret
            exact ⟨zJ (by rw [HH.out, Hf.out, Hq.out]), HW.out⟩
          · have Hq := zH (Ha.out hO)
            have Hf := zH (Hhit.out (by rw [Hq.out]; decide))
            clear hO
            go_wp2_with fail
            go_ret
            exact ⟨zJ (by rw [HH.out, Hf.out, Hq.out]), HW.out⟩
          · have Hq := zH (Ha.out hO)
            have Hf := zH (Hhit.out (by rw [Hq.out]; decide))
            clear hO
            go_wp2_with fail
            go_ret
            exact ⟨zJ (by rw [HH.out, Hf.out, Hq.out]), HW.out⟩
          · have HO := zH hO
            clear hO
            go_wp2_with fail
            refine Calls.mono (uP x3 _ (by omega)) ?_
            rintro e w3 ⟨rfl, rfl⟩
            cases hN : zF x3
            · have Hq := zH (Hb.out HO.out hN)
              have Hf := zH (Hhit.out (by rw [Hq.out]; decide))
              clear hN
              go_wp2_with fail
              go_ret
              exact ⟨zJ (by rw [HH.out, Hf.out, Hq.out]), HW.out⟩
            · have Hq := zH (Hc.out HO.out hN)
              have Hf := zH (Hnext.out Hq.out)
              clear hN d1 d2 d3 d4 d5
              go_wp2_with fail
              go_roundw
              case rel => exact ⟨j + 1, by omega, by go_num, Hf.out, HP.out, HW.out⟩
              case measure => simp [intOf]; omega
        · have Hfin := zH (show Zo (Yk (cm : Int)) hd = 0 from ZW (fun i hi => Hall.out i hi (by omega)))
          obtain ⟨g0, g1, g2, g3, g4⟩ := Hbox.out
          go_wp2_with fail
          go_ret
          exact ⟨zJ (by rw [HH.out, Hfin.out]), hbel⟩
 · have HE1 := zH (show QC cd hd lo ks = K1 by rw [HE.out, if_pos hK])
   have hK2 : (K1 != 0) = true := by simp [hK]
   clear hK
   go_enter Tryz.func136, Tryz.ntmps136
   go_wp2_with fail
   refine Calls.mono Hchk.out ?_
   rintro e w1 ⟨rfl, hb1⟩
   have B1 := zH (HB.out.trans (hb1.mono HB.out.size))
   clear g0 g1 g2 g3 g4 hb1
   go_wp2_with fail
   go_ret
   exact ⟨zJ HE1.out.symm, B1.out⟩
end KlsU
namespace KlsV
open Go.RowKit Base BinM DescM DescW DescX DescR DescP DescQ Stru PoolM InsM InsA InsC InsD Kls KlsP KlsQ KlsU OpenK
theorem uL : ∀ (n : Nat) {l : List UInt8} {r : List (List UInt8) × List UInt8}, parse n l = some r → r.1.length ≤ n
 | 0, l, r, h => by
   unfold parse at h
   split at h
   · injection h with h; subst h; simp
   · cases h
 | n + 1, l, r, h => by
   unfold parse at h
   split at h
   · injection h with h; subst h; simp
   · split at h
     · cases h
     · rename_i k _
       cases hp : parse n (l.drop k) with
       | none => rw [hp] at h; cases h
       | some q =>
         rw [hp] at h
         simp only [Option.map_some, Option.some.injEq] at h
         subst h
         have := uL n hp
         simp; omega
theorem XU (s : List UInt8) : (zy s).2.1.length ≤ 6 := by
 unfold zy
 split
 · split
   · rename_i h
     split
     · exact uL 6 h
     · simp
   · simp
 · simp
theorem Kg {ms : List zO} {ks : List Cst} {i : Nat} {m : zO} (h : zF m.name = false) : jZ ms ks i m = 7 := by unfold jZ; rw [if_pos h]
theorem vF {ms : List zO} {ks : List Cst} {i : Nat} {m : zO} (h : zF m.name = true) (h2 : (zy m.sig).2.2 ≠ 0) : jZ ms ks i m = 5 := by unfold jZ; rw [if_neg (by rw [h]; simp), if_pos h2]
theorem vE {ms : List zO} {ks : List Cst} {i : Nat} {m : zO} (h : zF m.name = true) (h2 : (zy m.sig).2.2 = 0) (h3 : zD (Zw0 m.name) ms < (i : Int)) : jZ ms ks i m = 8 := by
 unfold jZ; rw [if_neg (by rw [h]; simp), if_neg (by rw [h2]; simp), if_pos h3]
theorem zd2 {ms : List zO} {ks : List Cst} {i : Nat} {m : zO} (h : zF m.name = true) (h2 : (zy m.sig).2.2 = 0) (h3 : ¬ zD (Zw0 m.name) ms < (i : Int)) (h4 : m.locals > 24 ∨ m.locals < 1 + ((zy m.sig).2.1.length : Int)) : jZ ms ks i m = 2 := by
 unfold jZ; rw [if_neg (by rw [h]; simp), if_neg (by rw [h2]; simp), if_neg h3, if_pos h4]
theorem Kh {ms : List zO} {ks : List Cst} {i : Nat} {m : zO} (h : zF m.name = true) (h2 : (zy m.sig).2.2 = 0) (h3 : ¬ zD (Zw0 m.name) ms < (i : Int)) (h4 : ¬ (m.locals > 24 ∨ m.locals < 1 + ((zy m.sig).2.1.length : Int))) : jZ ms ks i m = QC m.code m.hand m.locals ks := by
 unfold jZ; rw [if_neg (by rw [h]; simp), if_neg (by rw [h2]; simp), if_neg h3, if_neg h4]
theorem XW {s : List UInt8} (h : (zy s).2.2 ≠ 0) : (zy s).2.2 = 5 := by rcases zh6 s with h1 | h1; · exact absurd h1 h
                                                                        · exact h1
set_option maxRecDepth 100000 in
set_option maxHeartbeats 8000000 in
theorem Ki (x : zf) (w : World) (hL : Laid w) (hx : x.is w) (hl : zf.lt x) :
 Calls Tryz.prog 79 #[x.V] w fun e w' => e = .returned (.int .i64 (JV x.meths x.consts)) ∧ Below w.heap.size w w' := by
 have Hat := zH (fun (q : List UInt8) (W : World) (hb : Below w.heap.size w W) => Zg0 x q W (hx.below hb))
 have Hcode := zH (fun (y : zO) (hy : y ∈ x.meths) (W : World) (hb : Below w.heap.size w W) => zv0 y x.kA x.km x.kc x.consts W (hL.below hb hL.1) ((hx.meths.each y hy).below hb) (hl.meths y hy) (hx.consts.below hb))
 have H := zH (show yD w x.mA x.mm x.mc x.meths from hx.meths)
 have hml : x.meths.length ≤ x.mm := Nat.le_of_eq hx.meths.len.symm
 have hml2 : x.mm ≤ x.meths.length := Nat.le_of_eq hx.meths.len
 have hmx : x.mm ≤ maxLen := Nat.le_trans hx.meths.le hx.meths.max
 have HL := zH hl.meths
 unfold maxLen at hmx
 clear hx hl hL
 have HB := zH ((Below.refl w.heap.size w).alloc (Nat.le_refl _) (.cells #[.string ⟨x.name.toArray⟩, .string ⟨x.sup.toArray⟩, .slice x.kA x.km x.kc, .slice x.fA x.fm x.fc, .slice x.mA x.mm x.mc] 81))
 have E1 := zH (jq.new w (.string ⟨x.name.toArray⟩) (.string ⟨x.sup.toArray⟩) (.slice x.kA x.km x.kc) (.slice x.fA x.fm x.fc) (.slice x.mA x.mm x.mc) 81)
 obtain ⟨n, s, kA, km, kc, fA, fm, fc, mA, mm, mc, ks, fs, ms⟩ := x
 simp only [zf.V] at *
 by_cases hs : 32 < mm
 · have HH := zH (show JV ms ks = 6 by unfold JV; rw [if_pos (by omega)])
   go_enter Tryz.func79, Tryz.ntmps79
   go_wp2_with fail
   go_ret
   exact ⟨zJ HH.out.symm, HB.out⟩
 · have HH := zH (show JV ms ks = Zo (jZ ms ks) ms by unfold JV; rw [if_neg (by omega)])
   obtain ⟨g0, g1, g2, g3, g4⟩ := E1.out
   go_enter Tryz.func79, Tryz.ntmps79
   go_wp2_with fail
   clear g0 g1 g2 g3 g4
   go_loopw [3, 4, 16] (fun _ _ i wr => ∃ j : Nat, j ≤ mm ∧ i = .int .i64 j ∧ (∀ k (hk : k < ms.length), k < j → jZ ms ks k ms[k] = 0) ∧ jq wr w.heap.size (.string ⟨n.toArray⟩) (.string ⟨s.toArray⟩) (.slice kA km kc) (.slice fA fm fc) (.slice mA mm mc) ∧ Below w.heap.size w wr) (fun _ _ i _ => mm - (intOf i).toNat)
   case atStart => exact ⟨0, Nat.zero_le _, rfl, by intro k _ h; omega, E1.out, HB.out⟩
   case round =>
    obtain ⟨j, hj, rfl, hall, hbox, hbel⟩ := hrel
    have Hall := zH hall
    have Hbox := zH hbox
    have Hbel := zH hbel
    have hsz := hbel.size
    clear hall hbox
    by_cases hlt : j < mm
    · have hja : j < ms.length := by omega
      obtain ⟨b1, o1, rfl, hb1, hc0, hc1, hc2, hc3, hc4⟩ := jY (H.out.rds.below hbel) hja
      have hj1 : (j : Int) < (mm : Int) := by omega
      have hj0 : (0 : Int) ≤ (j : Int) := by omega
      have hlx := HL.out _ (List.getElem_mem hja)
      have Hhit := zH (fun hne => qp hja Hall.out hne)
      have Hnext := zH (fun h0 => ZX Hall.out hja h0)
      have Ha := zH (fun (h : zF (ms[j]'hja).name = false) => Kg (ms := ms) (ks := ks) (i := j) h)
      have Hb := zH (fun (h : zF (ms[j]'hja).name = true) h2 => vF (ms := ms) (ks := ks) (i := j) h h2)
      have Hc := zH (fun (h : zF (ms[j]'hja).name = true) h2 h3 => vE (ms := ms) (ks := ks) (i := j) h h2 h3)
      have Hd := zH (fun (h : zF (ms[j]'hja).name = true) h2 h3 h4 => zd2 (ms := ms) (ks := ks) (i := j) h h2 h3 h4)
      have He := zH (fun (h : zF (ms[j]'hja).name = true) h2 h3 h4 => Kh (ms := ms) (ks := ks) (i := j) h h2 h3 h4)
      have hcode := Hcode.out _ (List.getElem_mem hja)
      clear hbel
      generalize ms[j] = x at *
      generalize jZ ms ks j x = E at *
      obtain ⟨x0, x1, x2, x3, x4, x5, x6, x7, x8, x9, x10⟩ := x
      simp only [zO.V] at hc0 hc1 hc2 hc3 hc4 hcode
      have hl0 : x0.length ≤ 140737488351232 := hlx.name
      have hl1 : x1.length ≤ 140737488351232 := hlx.sig
      have Hc2 := zH hcode
      clear hcode hlx
      have hT6 := XU x1
      have Hs5 := zH (@XW x1)
      generalize hsp : zy x1 = SP at *
      obtain ⟨SG, ST, SE⟩ := SP
      have Hsp := zH hsp
      clear hsp
      simp only at hT6
      have HA := zH ((Below.refl wr.heap.size wr).alloc (Nat.le_refl _) (.cells #[.string ⟨x0.toArray⟩, .string ⟨x1.toArray⟩, .int .i64 x2, .slice x3 x4 x5, .slice x6 x7 x8] 85))
      have HW := zH (Hbel.out.trans (HA.out.mono hsz))
      have HP := zH (Hbox.out.after HA.out)
      have HM := zH (jq.new wr (.string ⟨x0.toArray⟩) (.string ⟨x1.toArray⟩) (.int .i64 x2) (.slice x3 x4 x5) (.slice x6 x7 x8) 85)
      go_wp2_with fail
      have hspl := yJ x1 (wr.alloc (.cells #[.string ⟨x0.toArray⟩, .string ⟨x1.toArray⟩, .int .i64 x2, .slice x3 x4 x5, .slice x6 x7 x8] 85)) (by omega)
      rw [Hsp.out] at hspl
      refine Calls.mono hspl ?_
      rintro e w1 ⟨v1, rfl, hown1, hb1⟩
      obtain ⟨A1, c1, rfl, h11, h12, _⟩ := zS hown1
      have B1 := zH (HW.out.trans (hb1.mono HW.out.size))
      have P1 := zH (HP.out.after hb1)
      have M1 := zH (HM.out.after hb1)
      clear hown1 hb1 h11 h12 hspl
      generalize ST.length = T at *
      obtain ⟨m0, m1, m2, m3, m4⟩ := M1.out
      go_wp2_with fail
      refine Calls.mono (uP x0 _ (by omega)) ?_
      rintro e w3 ⟨rfl, rfl⟩
      cases hN : zF x0
      · have Hq := zH (Ha.out hN)
        have Hf := zH (Hhit.out (by rw [Hq.out]; decide))
        clear hN
        go_wp2_with fail
        go_ret
        exact ⟨zJ (by rw [HH.out, Hf.out, Hq.out]), B1.out⟩
      · have HN := zH hN
        clear hN
        by_cases hE : SE = 0
        · have HE := zH hE
          subst hE
          obtain ⟨g0, g1, g2, g3, g4⟩ := P1.out
          go_wp2_with fail
          refine Calls.mono (Hat.out x0 _ B1.out) ?_
          rintro e w2 ⟨rfl, hb2⟩
          have B2 := zH (B1.out.trans (hb2.mono B1.out.size))
          have P2 := zH (P1.out.after hb2)
          have M2 := zH (M1.out.after hb2)
          clear hb2 g0 g1 g2 g3 g4 m0 m1 m2 m3 m4
          obtain ⟨m0, m1, m2, m3, m4⟩ := M2.out
          have Hc3 := zH (fun h3 => Hc.out HN.out (by trivial) h3)
          have Hd3 := zH (fun h3 h4 => Hd.out HN.out (by trivial) h3 h4)
          have He3 := zH (fun h3 h4 => He.out HN.out (by trivial) h3 h4)
          generalize zD (Zw0 x0) ms = F at *
          by_cases hF : F < (j : Int)
          · have Hq := zH (Hc3.out (by omega))
            have Hf := zH (Hhit.out (by rw [Hq.out]; decide))
            go_wp2_with fail
            go_ret
            exact ⟨zJ (by rw [HH.out, Hf.out, Hq.out]), B2.out⟩
          · have hF2 : decide (F < (j : Int)) = false := decide_eq_false hF
            have hsum : IntKind.i64.wrap (1 + (T : Int)) = 1 + (T : Int) := IntWalk.i64_in _ (by omega)
            have hcase : (decide ((24 : Int) < x2) = true ∧ (x2 > 24 ∨ x2 < 1 + (T : Int))) ∨ (decide ((24 : Int) < x2) = false ∧ decide (x2 < 1 + (T : Int)) = true ∧ (x2 > 24 ∨ x2 < 1 + (T : Int))) ∨ (decide ((24 : Int) < x2) = false ∧ decide (x2 < 1 + (T : Int)) = false ∧ ¬ (x2 > 24 ∨ x2 < 1 + (T : Int))) := by
             simp only [decide_eq_true_eq, decide_eq_false_iff_not]; omega
            have HF := zH hF
            clear hF
            rcases hcase with ⟨d1, hor⟩ | ⟨d1, d2, hor⟩ | ⟨d1, d2, hor⟩
            · have Hq := zH (Hd3.out (by have := HF.out; omega) (by omega))
              have Hf := zH (Hhit.out (by rw [Hq.out]; decide))
              clear hor
              go_wp2_with fail
              go_ret
              exact ⟨zJ (by rw [HH.out, Hf.out, Hq.out]), B2.out⟩
            · have Hq := zH (Hd3.out (by have := HF.out; omega) (by omega))
              have Hf := zH (Hhit.out (by rw [Hq.out]; decide))
              clear hor
              go_wp2_with fail
              go_ret
              exact ⟨zJ (by rw [HH.out, Hf.out, Hq.out]), B2.out⟩
            · have Hq := zH (He3.out (by have := HF.out; omega) (by omega))
              clear hor
              obtain ⟨g0, g1, g2, g3, g4⟩ := P2.out
              go_wp2_with fail
              refine Calls.mono (Hc2.out _ B2.out) ?_
              rintro e w4 ⟨rfl, hb4⟩
              have B4 := zH (B2.out.trans (hb4.mono B2.out.size))
              have P4 := zH (P2.out.after hb4)
              clear hb4 g0 g1 g2 g3 g4 m0 m1 m2 m3 m4 d1 d2 hsum hF2
              generalize QC _ _ _ _ = C at *
              by_cases hC : C = 0
              · have Hf := zH (Hnext.out (by rw [Hq.out, hC]))
                subst hC
                go_wp2_with fail
                go_roundw
                case rel => exact ⟨j + 1, by omega, by go_num, Hf.out, P4.out, B4.out⟩
                case measure => simp [intOf]; omega
              · have Hf := zH (Hhit.out (by rw [Hq.out]; exact hC))
                have hC2 : (C != 0) = true := by simp [hC]
                clear hC
                go_wp2_with fail
                go_ret
                exact ⟨zJ (by rw [HH.out, Hf.out, Hq.out]), B4.out⟩
        · have Hq := zH (Hb.out HN.out hE)
          have Hf := zH (Hhit.out (by rw [Hq.out]; decide))
          have h5 : SE = 5 := Hs5.out hE
          subst h5
          clear hE
          go_wp2_with fail
          go_ret
          exact ⟨zJ (by rw [HH.out, Hf.out, Hq.out]), B1.out⟩
    · have Hfin := zH (show Zo (jZ ms ks) ms = 0 from ZW (fun i hi => Hall.out i hi (by omega)))
      go_wp2_with fail
      go_ret
      exact ⟨zJ (by rw [HH.out, Hfin.out]), hbel⟩
end KlsV
end Go.Proofs.YtehainbhoflpnaaGreatDoor
