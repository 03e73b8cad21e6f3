/-
  Whether a method's code and handlers can be: klass.rightCode, the document's own hands.
  Whether a class's methods can be: klass.rightMethods, the document's own.
-/
import Derived.Test.YtehainbhoflpnaaGreatDoorG16
namespace Go.Proofs.YtehainbhoflpnaaGreatDoor
namespace KlsU
open Go.RowKit Base BinM DescM DescW DescX DescR DescP DescQ Stru PoolM InsM InsA InsC InsD Kls KlsP KlsQ OpenK

set_option maxRecDepth 100000 in
theorem old_any (op a : Int) (w : World) :
    Calls Tryz.prog 177 #[.agg #[.int .i64 op, .int .i64 a]] w fun e w' => e = .returned (.bool (op == 45)) ∧ Below w.heap.size w w' := by
  have HB := Lib.hid ((Below.refl w.heap.size w).alloc (Nat.le_refl _) (.cells #[.int .i64 op, .int .i64 a] 24))
  go_enter Tryz.func177, Tryz.ntmps177
  go_wp2_with fail
  go_ret
  exact ⟨rfl, HB.out⟩

set_option maxRecDepth 100000 in
set_option maxHeartbeats 2000000 in
theorem indexO_any (A : Option Addr) (l : List InsT) (m c : Nat) (w : World) (hm : m = l.length) (hmx : m ≤ maxLen) (hr : Rds w A (l.flatMap insV)) :
    Calls Tryz.prog 201 #[.slice A m c, .func (.func 177) #[] #[]] w fun e w' => e = .returned (.int .i64 (findP oldP l)) ∧ Below w.heap.size w w' := by
  have eg : ∀ args w, (callFunc 177 args).run Tryz.prog w = .ok (.enter 177 args) w := enters_of Tryz.func177 (by kernel_rfl) rfl
  have hml : l.length ≤ m := Nat.le_of_eq hm.symm
  have hml2 : m ≤ l.length := Nat.le_of_eq hm
  have Hr := Lib.hid hr
  unfold maxLen at hmx
  clear hr hm
  go_enter Tryz.func201, Tryz.ntmps201
  go_wp2_with fail
  go_loopw [5, 8] (fun _ i wr => ∃ j : Nat, j ≤ m ∧ i = .int .i64 j ∧ (∀ x ∈ l.take j, oldP x = false) ∧ Below w.heap.size w wr) (fun _ i _ => m - (intOf i).toNat)
  case atStart => exact ⟨0, Nat.zero_le _, rfl, by simp, Below.refl _ _⟩
  case round =>
    obtain ⟨j, hj, rfl, hno, hbel⟩ := hrel
    have Hno := Lib.hid hno
    have Hbel := Lib.hid hbel
    have hsz := hbel.size
    clear hno
    by_cases hlt : j < m
    · have hja : j < l.length := by omega
      obtain ⟨b1, o1, rfl, hb1, hc0, hc1⟩ := code_at (Hr.out.below hbel) hja
      have hj1 : (j : Int) < (m : Int) := by omega
      have hj0 : (0 : Int) ≤ (j : Int) := by omega
      have Hat := Lib.hid (fun he => findP_at (p := oldP) hja Hno.out he)
      have Hnext := Lib.hid (fun he => none_next (p := oldP) hja Hno.out he)
      clear hbel
      generalize l[j] = x at *
      obtain ⟨x0, x1⟩ := x
      simp only at hc0 hc1
      go_wp2_with fail
      refine Calls.mono (old_any x0 x1 _) ?_
      rintro e w3 ⟨rfl, hb3⟩
      have B3 := Lib.hid (Hbel.out.trans (hb3.mono hsz))
      clear hb3
      cases D : x0 == 45
      · have Hq := Lib.hid (Hnext.out D)
        clear D
        go_wp2_with fail
        go_roundw
        case rel => exact ⟨j + 1, by omega, by go_num, Hq.out, B3.out⟩
        case measure => simp [intOf]; omega
      · have Hq := Lib.hid (Hat.out D)
        clear D
        go_wp2_with fail
        go_ret
        exact ⟨ret_i Hq.out.symm, B3.out⟩
    · have Hfin := Lib.hid (show findP oldP l = -1 by
        have h := Hno.out
        rw [List.take_of_length_le (by omega)] at h
        exact findP_none h)
      go_wp2_with fail
      go_ret
      exact ⟨ret_i Hfin.out.symm, hbel⟩

theorem hasOld_any (A : Option Addr) (l : List InsT) (m c : Nat) (w : World) (hm : m = l.length) (hmx : m ≤ maxLen) (hr : Rds w A (l.flatMap insV)) :
    Calls Tryz.prog 176 #[.slice A m c, .func (.func 177) #[] #[]] w fun e w' => e = .returned (.bool (decide (0 ≤ findP oldP l))) ∧ Below w.heap.size w w' := by
  have h := indexO_any A l m c w hm hmx hr
  have H := Lib.hid h
  clear h hm hmx hr
  go_enter Tryz.func176, Tryz.ntmps176
  go_wp2_with fail
  refine Calls.mono H.out ?_
  rintro e w3 ⟨rfl, hb3⟩
  have B3 := Lib.hid hb3
  clear hb3
  go_wp2_with fail
  go_ret
  exact ⟨rfl, B3.out⟩


set_option maxRecDepth 100000 in
set_option maxHeartbeats 4000000 in
theorem refHands_any (hA : Option Addr) (hm hc : Nat) (hd : List HndT) (n : Int) (w : World) (hx : IsHnds w hA hm hc hd) (hl : ∀ h ∈ hd, HndT.lt h) :
    Calls Tryz.prog 146 #[.slice hA hm hc, .int .i64 n] w fun e w' => e = .returned (.int .i64 (hndsE n hd)) ∧ Below w.heap.size w w' := by
  have hml : hd.length ≤ hm := Nat.le_of_eq hx.len.symm
  have hml2 : hm ≤ hd.length := Nat.le_of_eq hx.len
  have hmx : hm ≤ maxLen := Nat.le_trans hx.le hx.max
  unfold maxLen at hmx
  have H := Lib.hid hx
  have HL := Lib.hid hl
  clear hx hl
  by_cases hs : 8 < hm
  · have HH := Lib.hid (show hndsE n hd = 6 by unfold hndsE; rw [if_pos (by omega)])
    go_enter Tryz.func146, Tryz.ntmps146
    go_wp2_with fail
    go_ret
    exact ⟨ret_i HH.out.symm, Below.refl _ _⟩
  · have HH := Lib.hid (show hndsE n hd = firstI (hndE n) hd by unfold hndsE; rw [if_neg (by omega)])
    go_enter Tryz.func146, Tryz.ntmps146
    go_wp2_with fail
    go_loopw [5] (fun i wr => ∃ j : Nat, j ≤ hm ∧ i = .int .i64 j ∧ (∀ k (hk : k < hd.length), k < j → hndE (n : Int) k hd[k] = 0) ∧  Below w.heap.size w wr) (fun i _ => hm - (intOf i).toNat)
    case atStart => exact ⟨0, Nat.zero_le _, rfl, by intro k _ h; omega, Below.refl _ _⟩
    case round =>
      obtain ⟨j, hj, rfl, hall, hbel⟩ := hrel
      have Hall := Lib.hid hall
      have Hbel := Lib.hid hbel
      have hsz := hbel.size
      clear hall
      by_cases hlt : j < hm
      · have hja : j < hd.length := by omega
        obtain ⟨b1, o1, rfl, hb1, hc0, hc1, hc2, hc3⟩ := hnd_at (H.out.rds.below hbel) hja
        have hj1 : (j : Int) < (hm : Int) := by omega
        have hj0 : (0 : Int) ≤ (j : Int) := by omega
        have Hlx := Lib.hid (HL.out _ (List.getElem_mem hja))
        have Hhit := Lib.hid (fun hne => firstI_hit hja Hall.out hne)
        have Hnext := Lib.hid (fun h0 => firstI_next Hall.out hja h0)
        have Ha := Lib.hid (fun (h : outH (n : Int) (hd[j]'hja) = true) => hnd_out (i := j) h)
        have Hb := Lib.hid (fun (h : outH (n : Int) (hd[j]'hja) = false) h2 => hnd_name (i := j) h h2)
        have Hc := Lib.hid (fun (h : outH (n : Int) (hd[j]'hja) = false) h2 => hnd_ok (i := j) h h2)
        clear hbel
        generalize hd[j] = x at *
        generalize hndE (n : Int) j x = E at *
        obtain ⟨x0, x1, x2, x3⟩ := x
        simp only at hc0 hc1 hc2 hc3
        have hl3 : x3.length ≤ 140737488351232 := Hlx.out
        have hcs := out_cases (n : Int) x0 x1 x2 x3
        have HA := Lib.hid ((Below.refl wr.heap.size wr).alloc (Nat.le_refl _) (.cells #[.int .i64 x0, .int .i64 x1, .int .i64 x2, .string ⟨x3.toArray⟩] 207))
        have HW := Lib.hid (Hbel.out.trans (HA.out.mono hsz))
        generalize hO : outH _ _ = O at hcs
        rcases hcs with ⟨d1, rfl⟩ | ⟨d1, d2, rfl⟩ | ⟨d1, d2, d3, rfl⟩ | ⟨d1, d2, d3, d4, rfl⟩ | ⟨d1, d2, d3, d4, d5, rfl⟩ | ⟨d1, d2, d3, d4, d5, rfl⟩
        · have Hq := Lib.hid (Ha.out hO)
          have Hf := Lib.hid (Hhit.out (by rw [Hq.out]; decide))
          clear hO
          go_wp2_with fail
          go_ret
          exact ⟨ret_i (by rw [HH.out, Hf.out, Hq.out]), HW.out⟩
        · have Hq := Lib.hid (Ha.out hO)
          have Hf := Lib.hid (Hhit.out (by rw [Hq.out]; decide))
          clear hO
          go_wp2_with fail
          go_ret
          exact ⟨ret_i (by rw [HH.out, Hf.out, Hq.out]), HW.out⟩
        · have Hq := Lib.hid (Ha.out hO)
          have Hf := Lib.hid (Hhit.out (by rw [Hq.out]; decide))
          clear hO
          go_wp2_with fail
          go_ret
          exact ⟨ret_i (by rw [HH.out, Hf.out, Hq.out]), HW.out⟩
        · have Hq := Lib.hid (Ha.out hO)
          have Hf := Lib.hid (Hhit.out (by rw [Hq.out]; decide))
          clear hO
          go_wp2_with fail
          go_ret
          exact ⟨ret_i (by rw [HH.out, Hf.out, Hq.out]), HW.out⟩
        · have Hq := Lib.hid (Ha.out hO)
          have Hf := Lib.hid (Hhit.out (by rw [Hq.out]; decide))
          clear hO
          go_wp2_with fail
          go_ret
          exact ⟨ret_i (by rw [HH.out, Hf.out, Hq.out]), HW.out⟩
        · have HO := Lib.hid hO
          clear hO
          go_wp2_with fail
          refine Calls.mono (refNm_any x3 _ (by omega)) ?_
          rintro e w3 ⟨rfl, rfl⟩
          cases hN : nameB x3
          · have Hq := Lib.hid (Hb.out HO.out hN)
            have Hf := Lib.hid (Hhit.out (by rw [Hq.out]; decide))
            clear hN
            go_wp2_with fail
            go_ret
            exact ⟨ret_i (by rw [HH.out, Hf.out, Hq.out]), HW.out⟩
          · have Hq := Lib.hid (Hc.out HO.out hN)
            have Hf := Lib.hid (Hnext.out Hq.out)
            clear hN d1 d2 d3 d4 d5
            go_wp2_with fail
            go_roundw
            case rel => exact ⟨j + 1, by omega, by go_num, Hf.out, HW.out⟩
            case measure => simp [intOf]; omega
      · have Hfin := Lib.hid (show firstI (hndE (n : Int)) hd = 0 from firstI_none (fun i hi => Hall.out i hi (by omega)))
        go_wp2_with fail
        go_ret
        exact ⟨ret_i (by rw [HH.out, Hfin.out]), hbel⟩

set_option maxRecDepth 100000 in
set_option maxHeartbeats 8000000 in
theorem code_any (x : MthT) (kA : Option Addr) (km kc : Nat) (ks : List Cst) (w : World) (hL : Laid w) (hx : x.is w) (hl : MthT.lt x) (hk : IsCsts w kA km kc ks) :
    Calls Tryz.prog 136 #[x.V, .slice kA km kc] w fun e w' => e = .returned (.int .i64 (codeE x.code x.hand x.locals ks)) ∧ Below w.heap.size w w' := by
  have hHB := (Below.refl w.heap.size w).alloc (Nat.le_refl _) (.cells #[.string ⟨x.name.toArray⟩, .string ⟨x.sig.toArray⟩, .int .i64 x.locals, .slice x.cA x.cm x.cc, .slice x.hA x.hm x.hc] 85)
  have E1 := Lib.hid (Box5.new w (.string ⟨x.name.toArray⟩) (.string ⟨x.sig.toArray⟩) (.int .i64 x.locals) (.slice x.cA x.cm x.cc) (.slice x.hA x.hm x.hc) 85)
  have hchk := check_any x.cA x.cm x.cc x.code kA km kc ks x.locals _ (Laid.alloc hL _) (hx.code.below hHB) (hk.below hHB)
  have Hold := Lib.hid (fun (W : World) (hb : Below w.heap.size w W) => hasOld_any x.cA x.code x.cm x.cc W hx.code.len (Nat.le_trans hx.code.le hx.code.max) (hx.code.below hb).rds)
  have HB := Lib.hid hHB
  have hml : x.hand.length ≤ x.hm := Nat.le_of_eq hx.hand.len.symm
  have hml2 : x.hm ≤ x.hand.length := Nat.le_of_eq hx.hand.len
  have hmx : x.hm ≤ maxLen := Nat.le_trans hx.hand.le hx.hand.max
  have Hcl := Lib.hid (show (x.code.length : Int) = (x.cm : Int) by rw [hx.code.len])
  unfold maxLen at hmx
  have H := Lib.hid hx.hand
  have HL := Lib.hid hl.hand
  clear hx hl hk hL hHB
  obtain ⟨n, s, lo, cA, cm, cc, hA, hm, hc, cd, hd⟩ := x
  simp only [MthT.V] at *
  have HE := Lib.hid (show codeE cd hd lo ks = if (checkI cd ks lo).2 ≠ 0 then (checkI cd ks lo).2 else if 0 ≤ findP oldP cd then 12 else hndsE (cm : Int) hd by unfold codeE; rw [Hcl.out])
  generalize checkI cd ks lo = K at *
  obtain ⟨K0, K1⟩ := K
  simp only [twoN] at hchk HE
  have Hchk := Lib.hid hchk
  clear hchk
  obtain ⟨g0, g1, g2, g3, g4⟩ := E1.out
  by_cases hK : K1 = 0
  · subst hK
    have HE1 := Lib.hid (show codeE cd hd lo ks = if 0 ≤ findP oldP cd then 12 else hndsE (cm : Int) hd by rw [HE.out, if_neg (by simp)])
    go_enter Tryz.func136, Tryz.ntmps136
    go_wp2_with fail
    refine Calls.mono Hchk.out ?_
    rintro e w1 ⟨rfl, hb1⟩
    have B1 := Lib.hid (HB.out.trans (hb1.mono HB.out.size))
    have P1 := Lib.hid (E1.out.after hb1)
    clear g0 g1 g2 g3 g4 hb1
    obtain ⟨g0, g1, g2, g3, g4⟩ := P1.out
    go_wp2_with fail
    refine Calls.mono (Hold.out _ B1.out) ?_
    rintro e w2 ⟨rfl, hb2⟩
    have B2 := Lib.hid (B1.out.trans (hb2.mono B1.out.size))
    have P2 := Lib.hid (P1.out.after hb2)
    clear g0 g1 g2 g3 g4 hb2
    obtain ⟨g0, g1, g2, g3, g4⟩ := P2.out
    by_cases hO : 0 ≤ findP oldP cd
    · have HE2 := Lib.hid (show codeE cd hd lo ks = 12 by rw [HE1.out, if_pos hO])
      rw [decide_eq_true hO]
      clear hO
      go_wp2_with fail
      go_ret
      exact ⟨ret_i HE2.out.symm, B2.out⟩
    · have HE2 := Lib.hid (show codeE cd hd lo ks = hndsE (cm : Int) hd by rw [HE1.out, if_neg hO])
      rw [decide_eq_false hO]
      clear hO
      by_cases hs : 8 < hm
      · have HH := Lib.hid (show codeE cd hd lo ks = 6 by rw [HE2.out]; unfold hndsE; rw [if_pos (by omega)])
        go_wp2_with fail
        go_ret
        exact ⟨ret_i HH.out.symm, B2.out⟩
      · have HH := Lib.hid (show codeE cd hd lo ks = firstI (hndE (cm : Int)) hd by rw [HE2.out]; unfold hndsE; rw [if_neg (by omega)])
        go_wp2_with fail
        clear g0 g1 g2 g3 g4
        go_loopw [8, 9, 32] (fun _ _ i wr => ∃ j : Nat, j ≤ hm ∧ i = .int .i64 j ∧ (∀ k (hk : k < hd.length), k < j → hndE (cm : Int) k hd[k] = 0) ∧ Box5 wr w.heap.size (.string ⟨n.toArray⟩) (.string ⟨s.toArray⟩) (.int .i64 lo) (.slice cA cm cc) (.slice hA hm hc) ∧ Below w.heap.size w wr) (fun _ _ i _ => hm - (intOf i).toNat)
        case atStart => exact ⟨0, Nat.zero_le _, rfl, by intro k _ h; omega, P2.out, B2.out⟩
        case round =>
          obtain ⟨j, hj, rfl, hall, hbox, hbel⟩ := hrel
          have Hall := Lib.hid hall
          have Hbox := Lib.hid hbox
          have Hbel := Lib.hid hbel
          have hsz := hbel.size
          clear hall hbox
          by_cases hlt : j < hm
          · have hja : j < hd.length := by omega
            obtain ⟨b1, o1, rfl, hb1, hc0, hc1, hc2, hc3⟩ := hnd_at (H.out.rds.below hbel) hja
            have hj1 : (j : Int) < (hm : Int) := by omega
            have hj0 : (0 : Int) ≤ (j : Int) := by omega
            have Hlx := Lib.hid (HL.out _ (List.getElem_mem hja))
            have Hhit := Lib.hid (fun hne => firstI_hit hja Hall.out hne)
            have Hnext := Lib.hid (fun h0 => firstI_next Hall.out hja h0)
            have Ha := Lib.hid (fun (h : outH (cm : Int) (hd[j]'hja) = true) => hnd_out (i := j) h)
            have Hb := Lib.hid (fun (h : outH (cm : Int) (hd[j]'hja) = false) h2 => hnd_name (i := j) h h2)
            have Hc := Lib.hid (fun (h : outH (cm : Int) (hd[j]'hja) = false) h2 => hnd_ok (i := j) h h2)
            clear hbel
            generalize hd[j] = x at *
            generalize hndE (cm : Int) j x = E at *
            obtain ⟨x0, x1, x2, x3⟩ := x
            simp only at hc0 hc1 hc2 hc3
            have hl3 : x3.length ≤ 140737488351232 := Hlx.out
            have hcs := out_cases (cm : Int) x0 x1 x2 x3
            have HA := Lib.hid ((Below.refl wr.heap.size wr).alloc (Nat.le_refl _) (.cells #[.int .i64 x0, .int .i64 x1, .int .i64 x2, .string ⟨x3.toArray⟩] 207))
            have HW := Lib.hid (Hbel.out.trans (HA.out.mono hsz))
            have HP := Lib.hid (Hbox.out.after HA.out)
            obtain ⟨g0, g1, g2, g3, g4⟩ := HP.out
            generalize hO : outH _ _ = O at hcs
            rcases hcs with ⟨d1, rfl⟩ | ⟨d1, d2, rfl⟩ | ⟨d1, d2, d3, rfl⟩ | ⟨d1, d2, d3, d4, rfl⟩ | ⟨d1, d2, d3, d4, d5, rfl⟩ | ⟨d1, d2, d3, d4, d5, rfl⟩
            · have Hq := Lib.hid (Ha.out hO)
              have Hf := Lib.hid (Hhit.out (by rw [Hq.out]; decide))
              clear hO
              go_wp2_with fail
              go_ret
              exact ⟨ret_i (by rw [HH.out, Hf.out, Hq.out]), HW.out⟩
            · have Hq := Lib.hid (Ha.out hO)
              have Hf := Lib.hid (Hhit.out (by rw [Hq.out]; decide))
              clear hO
              go_wp2_with fail
              go_ret
              exact ⟨ret_i (by rw [HH.out, Hf.out, Hq.out]), HW.out⟩
            · have Hq := Lib.hid (Ha.out hO)
              have Hf := Lib.hid (Hhit.out (by rw [Hq.out]; decide))
              clear hO
              go_wp2_with fail
              go_ret
              exact ⟨ret_i (by rw [HH.out, Hf.out, Hq.out]), HW.out⟩
            · have Hq := Lib.hid (Ha.out hO)
              have Hf := Lib.hid (Hhit.out (by rw [Hq.out]; decide))
              clear hO
              go_wp2_with fail
              go_ret
              exact ⟨ret_i (by rw [HH.out, Hf.out, Hq.out]), HW.out⟩
            · have Hq := Lib.hid (Ha.out hO)
              have Hf := Lib.hid (Hhit.out (by rw [Hq.out]; decide))
              clear hO
              go_wp2_with fail
              go_ret
              exact ⟨ret_i (by rw [HH.out, Hf.out, Hq.out]), HW.out⟩
            · have HO := Lib.hid hO
              clear hO
              go_wp2_with fail
              refine Calls.mono (nm_any x3 _ (by omega)) ?_
              rintro e w3 ⟨rfl, rfl⟩
              cases hN : nameB x3
              · have Hq := Lib.hid (Hb.out HO.out hN)
                have Hf := Lib.hid (Hhit.out (by rw [Hq.out]; decide))
                clear hN
                go_wp2_with fail
                go_ret
                exact ⟨ret_i (by rw [HH.out, Hf.out, Hq.out]), HW.out⟩
              · have Hq := Lib.hid (Hc.out HO.out hN)
                have Hf := Lib.hid (Hnext.out Hq.out)
                clear hN d1 d2 d3 d4 d5
                go_wp2_with fail
                go_roundw
                case rel => exact ⟨j + 1, by omega, by go_num, Hf.out, HP.out, HW.out⟩
                case measure => simp [intOf]; omega
          · have Hfin := Lib.hid (show firstI (hndE (cm : Int)) hd = 0 from firstI_none (fun i hi => Hall.out i hi (by omega)))
            obtain ⟨g0, g1, g2, g3, g4⟩ := Hbox.out
            go_wp2_with fail
            go_ret
            exact ⟨ret_i (by rw [HH.out, Hfin.out]), hbel⟩
  · have HE1 := Lib.hid (show codeE cd hd lo ks = K1 by rw [HE.out, if_pos hK])
    have hK2 : (K1 != 0) = true := by simp [hK]
    clear hK
    go_enter Tryz.func136, Tryz.ntmps136
    go_wp2_with fail
    refine Calls.mono Hchk.out ?_
    rintro e w1 ⟨rfl, hb1⟩
    have B1 := Lib.hid (HB.out.trans (hb1.mono HB.out.size))
    clear g0 g1 g2 g3 g4 hb1
    go_wp2_with fail
    go_ret
    exact ⟨ret_i HE1.out.symm, B1.out⟩

end KlsU
end Go.Proofs.YtehainbhoflpnaaGreatDoor

namespace Go.Proofs.YtehainbhoflpnaaGreatDoor
namespace KlsV
open Go.RowKit Base BinM DescM DescW DescX DescR DescP DescQ Stru PoolM InsM InsA InsC InsD Kls KlsP KlsQ KlsU OpenK

theorem parse_many : ∀ (n : Nat) {l : List UInt8} {r : List (List UInt8) × List UInt8}, parse n l = some r → r.1.length ≤ n
  | 0, l, r, h => by
    unfold parse at h
    split at h
    · injection h with h; subst h; simp
    · cases h
  | n + 1, l, r, h => by
    unfold parse at h
    split at h
    · injection h with h; subst h; simp
    · split at h
      · cases h
      · rename_i k _
        cases hp : parse n (l.drop k) with
        | none => rw [hp] at h; cases h
        | some q =>
          rw [hp] at h
          simp only [Option.map_some, Option.some.injEq] at h
          subst h
          have := parse_many n hp
          simp; omega
theorem split_many (s : List UInt8) : (splitT s).2.1.length ≤ 6 := by
  unfold splitT
  split
  · split
    · rename_i h
      split
      · exact parse_many 6 h
      · simp
    · simp
  · simp
theorem mth_name {ms : List MthT} {ks : List Cst} {i : Nat} {m : MthT} (h : nameB m.name = false) : mthE ms ks i m = 7 := by unfold mthE; rw [if_pos h]
theorem mth_split {ms : List MthT} {ks : List Cst} {i : Nat} {m : MthT} (h : nameB m.name = true) (h2 : (splitT m.sig).2.2 ≠ 0) : mthE ms ks i m = 5 := by unfold mthE; rw [if_neg (by rw [h]; simp), if_pos h2]
theorem mth_twice {ms : List MthT} {ks : List Cst} {i : Nat} {m : MthT} (h : nameB m.name = true) (h2 : (splitT m.sig).2.2 = 0) (h3 : findP (nameM m.name) ms < (i : Int)) : mthE ms ks i m = 8 := by
  unfold mthE; rw [if_neg (by rw [h]; simp), if_neg (by rw [h2]; simp), if_pos h3]
theorem mth_arg {ms : List MthT} {ks : List Cst} {i : Nat} {m : MthT} (h : nameB m.name = true) (h2 : (splitT m.sig).2.2 = 0) (h3 : ¬ findP (nameM m.name) ms < (i : Int)) (h4 : m.locals > 24 ∨ m.locals < 1 + ((splitT m.sig).2.1.length : Int)) : mthE ms ks i m = 2 := by
  unfold mthE; rw [if_neg (by rw [h]; simp), if_neg (by rw [h2]; simp), if_neg h3, if_pos h4]
theorem mth_code {ms : List MthT} {ks : List Cst} {i : Nat} {m : MthT} (h : nameB m.name = true) (h2 : (splitT m.sig).2.2 = 0) (h3 : ¬ findP (nameM m.name) ms < (i : Int)) (h4 : ¬ (m.locals > 24 ∨ m.locals < 1 + ((splitT m.sig).2.1.length : Int))) : mthE ms ks i m = codeE m.code m.hand m.locals ks := by
  unfold mthE; rw [if_neg (by rw [h]; simp), if_neg (by rw [h2]; simp), if_neg h3, if_neg h4]
theorem split_five {s : List UInt8} (h : (splitT s).2.2 ≠ 0) : (splitT s).2.2 = 5 := by rcases split_err s with h1 | h1; · exact absurd h1 h
                                                                                        · exact h1

set_option maxRecDepth 100000 in
set_option maxHeartbeats 8000000 in
theorem methods_any (x : ClsT) (w : World) (hL : Laid w) (hx : x.is w) (hl : ClsT.lt x) :
    Calls Tryz.prog 79 #[x.V] w fun e w' => e = .returned (.int .i64 (mthsE x.meths x.consts)) ∧ Below w.heap.size w w' := by
  have Hat := Lib.hid (fun (q : List UInt8) (W : World) (hb : Below w.heap.size w W) => atM_any x q W (hx.below hb))
  have Hcode := Lib.hid (fun (y : MthT) (hy : y ∈ x.meths) (W : World) (hb : Below w.heap.size w W) => code_any y x.kA x.km x.kc x.consts W (hL.below hb hL.1) ((hx.meths.each y hy).below hb) (hl.meths y hy) (hx.consts.below hb))
  have H := Lib.hid (show IsMths w x.mA x.mm x.mc x.meths from hx.meths)
  have hml : x.meths.length ≤ x.mm := Nat.le_of_eq hx.meths.len.symm
  have hml2 : x.mm ≤ x.meths.length := Nat.le_of_eq hx.meths.len
  have hmx : x.mm ≤ maxLen := Nat.le_trans hx.meths.le hx.meths.max
  have HL := Lib.hid hl.meths
  unfold maxLen at hmx
  clear hx hl hL
  have HB := Lib.hid ((Below.refl w.heap.size w).alloc (Nat.le_refl _) (.cells #[.string ⟨x.name.toArray⟩, .string ⟨x.sup.toArray⟩, .slice x.kA x.km x.kc, .slice x.fA x.fm x.fc, .slice x.mA x.mm x.mc] 81))
  have E1 := Lib.hid (Box5.new w (.string ⟨x.name.toArray⟩) (.string ⟨x.sup.toArray⟩) (.slice x.kA x.km x.kc) (.slice x.fA x.fm x.fc) (.slice x.mA x.mm x.mc) 81)
  obtain ⟨n, s, kA, km, kc, fA, fm, fc, mA, mm, mc, ks, fs, ms⟩ := x
  simp only [ClsT.V] at *
  by_cases hs : 32 < mm
  · have HH := Lib.hid (show mthsE ms ks = 6 by unfold mthsE; rw [if_pos (by omega)])
    go_enter Tryz.func79, Tryz.ntmps79
    go_wp2_with fail
    go_ret
    exact ⟨ret_i HH.out.symm, HB.out⟩
  · have HH := Lib.hid (show mthsE ms ks = firstI (mthE ms ks) ms by unfold mthsE; rw [if_neg (by omega)])
    obtain ⟨g0, g1, g2, g3, g4⟩ := E1.out
    go_enter Tryz.func79, Tryz.ntmps79
    go_wp2_with fail
    clear g0 g1 g2 g3 g4
    go_loopw [3, 4, 16] (fun _ _ i wr => ∃ j : Nat, j ≤ mm ∧ i = .int .i64 j ∧ (∀ k (hk : k < ms.length), k < j → mthE ms ks k ms[k] = 0) ∧ Box5 wr w.heap.size (.string ⟨n.toArray⟩) (.string ⟨s.toArray⟩) (.slice kA km kc) (.slice fA fm fc) (.slice mA mm mc) ∧ Below w.heap.size w wr) (fun _ _ i _ => mm - (intOf i).toNat)
    case atStart => exact ⟨0, Nat.zero_le _, rfl, by intro k _ h; omega, E1.out, HB.out⟩
    case round =>
      obtain ⟨j, hj, rfl, hall, hbox, hbel⟩ := hrel
      have Hall := Lib.hid hall
      have Hbox := Lib.hid hbox
      have Hbel := Lib.hid hbel
      have hsz := hbel.size
      clear hall hbox
      by_cases hlt : j < mm
      · have hja : j < ms.length := by omega
        obtain ⟨b1, o1, rfl, hb1, hc0, hc1, hc2, hc3, hc4⟩ := mth_at (H.out.rds.below hbel) hja
        have hj1 : (j : Int) < (mm : Int) := by omega
        have hj0 : (0 : Int) ≤ (j : Int) := by omega
        have hlx := HL.out _ (List.getElem_mem hja)
        have Hhit := Lib.hid (fun hne => firstI_hit hja Hall.out hne)
        have Hnext := Lib.hid (fun h0 => firstI_next Hall.out hja h0)
        have Ha := Lib.hid (fun (h : nameB (ms[j]'hja).name = false) => mth_name (ms := ms) (ks := ks) (i := j) h)
        have Hb := Lib.hid (fun (h : nameB (ms[j]'hja).name = true) h2 => mth_split (ms := ms) (ks := ks) (i := j) h h2)
        have Hc := Lib.hid (fun (h : nameB (ms[j]'hja).name = true) h2 h3 => mth_twice (ms := ms) (ks := ks) (i := j) h h2 h3)
        have Hd := Lib.hid (fun (h : nameB (ms[j]'hja).name = true) h2 h3 h4 => mth_arg (ms := ms) (ks := ks) (i := j) h h2 h3 h4)
        have He := Lib.hid (fun (h : nameB (ms[j]'hja).name = true) h2 h3 h4 => mth_code (ms := ms) (ks := ks) (i := j) h h2 h3 h4)
        have hcode := Hcode.out _ (List.getElem_mem hja)
        clear hbel
        generalize ms[j] = x at *
        generalize mthE ms ks j x = E at *
        obtain ⟨x0, x1, x2, x3, x4, x5, x6, x7, x8, x9, x10⟩ := x
        simp only [MthT.V] at hc0 hc1 hc2 hc3 hc4 hcode
        have hl0 : x0.length ≤ 140737488351232 := hlx.name
        have hl1 : x1.length ≤ 140737488351232 := hlx.sig
        have Hc2 := Lib.hid hcode
        clear hcode hlx
        have hT6 := split_many x1
        have Hs5 := Lib.hid (@split_five x1)
        generalize hsp : splitT x1 = SP at *
        obtain ⟨SG, ST, SE⟩ := SP
        have Hsp := Lib.hid hsp
        clear hsp
        simp only at hT6
        have HA := Lib.hid ((Below.refl wr.heap.size wr).alloc (Nat.le_refl _) (.cells #[.string ⟨x0.toArray⟩, .string ⟨x1.toArray⟩, .int .i64 x2, .slice x3 x4 x5, .slice x6 x7 x8] 85))
        have HW := Lib.hid (Hbel.out.trans (HA.out.mono hsz))
        have HP := Lib.hid (Hbox.out.after HA.out)
        have HM := Lib.hid (Box5.new wr (.string ⟨x0.toArray⟩) (.string ⟨x1.toArray⟩) (.int .i64 x2) (.slice x3 x4 x5) (.slice x6 x7 x8) 85)
        go_wp2_with fail
        have hspl := split_any x1 (wr.alloc (.cells #[.string ⟨x0.toArray⟩, .string ⟨x1.toArray⟩, .int .i64 x2, .slice x3 x4 x5, .slice x6 x7 x8] 85)) (by omega)
        rw [Hsp.out] at hspl
        refine Calls.mono hspl ?_
        rintro e w1 ⟨v1, rfl, hown1, hb1⟩
        obtain ⟨A1, c1, rfl, h11, h12, _⟩ := own_slice hown1
        have B1 := Lib.hid (HW.out.trans (hb1.mono HW.out.size))
        have P1 := Lib.hid (HP.out.after hb1)
        have M1 := Lib.hid (HM.out.after hb1)
        clear hown1 hb1 h11 h12 hspl
        generalize ST.length = T at *
        obtain ⟨m0, m1, m2, m3, m4⟩ := M1.out
        go_wp2_with fail
        refine Calls.mono (nm_any x0 _ (by omega)) ?_
        rintro e w3 ⟨rfl, rfl⟩
        cases hN : nameB x0
        · have Hq := Lib.hid (Ha.out hN)
          have Hf := Lib.hid (Hhit.out (by rw [Hq.out]; decide))
          clear hN
          go_wp2_with fail
          go_ret
          exact ⟨ret_i (by rw [HH.out, Hf.out, Hq.out]), B1.out⟩
        · have HN := Lib.hid hN
          clear hN
          by_cases hE : SE = 0
          · have HE := Lib.hid hE
            subst hE
            obtain ⟨g0, g1, g2, g3, g4⟩ := P1.out
            go_wp2_with fail
            refine Calls.mono (Hat.out x0 _ B1.out) ?_
            rintro e w2 ⟨rfl, hb2⟩
            have B2 := Lib.hid (B1.out.trans (hb2.mono B1.out.size))
            have P2 := Lib.hid (P1.out.after hb2)
            have M2 := Lib.hid (M1.out.after hb2)
            clear hb2 g0 g1 g2 g3 g4 m0 m1 m2 m3 m4
            obtain ⟨m0, m1, m2, m3, m4⟩ := M2.out
            have Hc3 := Lib.hid (fun h3 => Hc.out HN.out (by trivial) h3)
            have Hd3 := Lib.hid (fun h3 h4 => Hd.out HN.out (by trivial) h3 h4)
            have He3 := Lib.hid (fun h3 h4 => He.out HN.out (by trivial) h3 h4)
            generalize findP (nameM x0) ms = F at *
            by_cases hF : F < (j : Int)
            · have Hq := Lib.hid (Hc3.out (by omega))
              have Hf := Lib.hid (Hhit.out (by rw [Hq.out]; decide))
              go_wp2_with fail
              go_ret
              exact ⟨ret_i (by rw [HH.out, Hf.out, Hq.out]), B2.out⟩
            · have hF2 : decide (F < (j : Int)) = false := decide_eq_false hF
              have hsum : IntKind.i64.wrap (1 + (T : Int)) = 1 + (T : Int) := IntWalk.i64_in _ (by omega)
              have hcase : (decide ((24 : Int) < x2) = true ∧ (x2 > 24 ∨ x2 < 1 + (T : Int))) ∨ (decide ((24 : Int) < x2) = false ∧ decide (x2 < 1 + (T : Int)) = true ∧ (x2 > 24 ∨ x2 < 1 + (T : Int))) ∨ (decide ((24 : Int) < x2) = false ∧ decide (x2 < 1 + (T : Int)) = false ∧ ¬ (x2 > 24 ∨ x2 < 1 + (T : Int))) := by
                simp only [decide_eq_true_eq, decide_eq_false_iff_not]; omega
              have HF := Lib.hid hF
              clear hF
              rcases hcase with ⟨d1, hor⟩ | ⟨d1, d2, hor⟩ | ⟨d1, d2, hor⟩
              · have Hq := Lib.hid (Hd3.out (by have := HF.out; omega) (by omega))
                have Hf := Lib.hid (Hhit.out (by rw [Hq.out]; decide))
                clear hor
                go_wp2_with fail
                go_ret
                exact ⟨ret_i (by rw [HH.out, Hf.out, Hq.out]), B2.out⟩
              · have Hq := Lib.hid (Hd3.out (by have := HF.out; omega) (by omega))
                have Hf := Lib.hid (Hhit.out (by rw [Hq.out]; decide))
                clear hor
                go_wp2_with fail
                go_ret
                exact ⟨ret_i (by rw [HH.out, Hf.out, Hq.out]), B2.out⟩
              · have Hq := Lib.hid (He3.out (by have := HF.out; omega) (by omega))
                clear hor
                obtain ⟨g0, g1, g2, g3, g4⟩ := P2.out
                go_wp2_with fail
                refine Calls.mono (Hc2.out _ B2.out) ?_
                rintro e w4 ⟨rfl, hb4⟩
                have B4 := Lib.hid (B2.out.trans (hb4.mono B2.out.size))
                have P4 := Lib.hid (P2.out.after hb4)
                clear hb4 g0 g1 g2 g3 g4 m0 m1 m2 m3 m4 d1 d2 hsum hF2
                generalize codeE _ _ _ _ = C at *
                by_cases hC : C = 0
                · have Hf := Lib.hid (Hnext.out (by rw [Hq.out, hC]))
                  subst hC
                  go_wp2_with fail
                  go_roundw
                  case rel => exact ⟨j + 1, by omega, by go_num, Hf.out, P4.out, B4.out⟩
                  case measure => simp [intOf]; omega
                · have Hf := Lib.hid (Hhit.out (by rw [Hq.out]; exact hC))
                  have hC2 : (C != 0) = true := by simp [hC]
                  clear hC
                  go_wp2_with fail
                  go_ret
                  exact ⟨ret_i (by rw [HH.out, Hf.out, Hq.out]), B4.out⟩
          · have Hq := Lib.hid (Hb.out HN.out hE)
            have Hf := Lib.hid (Hhit.out (by rw [Hq.out]; decide))
            have h5 : SE = 5 := Hs5.out hE
            subst h5
            clear hE
            go_wp2_with fail
            go_ret
            exact ⟨ret_i (by rw [HH.out, Hf.out, Hq.out]), B1.out⟩
      · have Hfin := Lib.hid (show firstI (mthE ms ks) ms = 0 from firstI_none (fun i hi => Hall.out i hi (by omega)))
        go_wp2_with fail
        go_ret
        exact ⟨ret_i (by rw [HH.out, Hfin.out]), hbel⟩

end KlsV
end Go.Proofs.YtehainbhoflpnaaGreatDoor
