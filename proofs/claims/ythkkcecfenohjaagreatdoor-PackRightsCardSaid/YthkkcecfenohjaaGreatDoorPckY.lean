/-
  Whether a move of a turn can be, by the document's own.
-/
import Derived.Test.YthkkcecfenohjaaGreatDoorPckX
namespace Go.Proofs.YthkkcecfenohjaaGreatDoor
namespace PckY
open Go.RowKit Base BinM DescM Stru PoolM InsM InsA InsC InsD InsE PutN Kls KlsP KlsQ KlsX Pck PckC PckF PckQ PckX OpenP
open Part (Row)

theorem lean_bad {cd : List InsT} {ks : List Cst} {K : Int × Int} (h : checkI cd ks 0 = K) (h2 : K.2 ≠ 0) : leanE cd ks = K.2 := by unfold leanE; rw [h, if_pos h2]
theorem lean_no {cd : List InsT} {ks : List Cst} {K : Int × Int} (h : checkI cd ks 0 = K) (h2 : K.2 = 0) (h3 : 0 ≤ findP notLean cd) : leanE cd ks = 12 := by unfold leanE; rw [h, if_neg (by simp [h2]), if_pos h3]
theorem lean_ok {cd : List InsT} {ks : List Cst} {K : Int × Int} (h : checkI cd ks 0 = K) (h2 : K.2 = 0) (h3 : ¬ 0 ≤ findP notLean cd) : leanE cd ks = 0 := by unfold leanE; rw [h, if_neg (by simp [h2]), if_neg h3]

set_option maxRecDepth 100000 in
set_option maxHeartbeats 8000000 in
theorem refMove_any (x : TrnT) (j : Nat) (hja : j < x.moves.length) (w : World) (hx : x.is w) (hl : TrnT.lt x) :
    Calls Tryz.prog 76 #[x.V, .int .i64 (j : Int)] w fun e w' => e = .returned (.int .i64 (movE x.moves x.consts j x.moves[j])) ∧ Below w.heap.size w w' := by
  have Hchk := Lib.hid (fun (y : MovT) (hy : y ∈ x.moves) (W : World) (hb : Below w.heap.size w W) => refCheck_any y.cA y.cm y.cc y.code x.kA x.km x.kc x.consts 0 W ((hx.moves.each y hy).code.below hb) (hx.consts.below hb))
  have Hcd := Lib.hid (fun (y : MovT) (hy : y ∈ x.moves) => (hx.moves.each y hy).code)
  have hml : x.moves.length ≤ x.vm := Nat.le_of_eq hx.moves.len.symm
  have hmx : x.vm ≤ maxLen := Nat.le_trans hx.moves.le hx.moves.max
  have Hm := Lib.hid hx.moves.rds
  have HL := Lib.hid hl.moves
  unfold maxLen at hmx
  clear hx hl
  have HB := Lib.hid ((Below.refl w.heap.size w).alloc (Nat.le_refl _) (.cells #[.string ⟨x.cls.toArray⟩, .slice x.kA x.km x.kc, .slice x.vA x.vm x.vc] 103))
  have R0 := Lib.hid (Row.new w #[.string ⟨x.cls.toArray⟩, .slice x.kA x.km x.kc, .slice x.vA x.vm x.vc] 103)
  obtain ⟨n, kA, km, kc, vA, vm, vc, ks, vs⟩ := x
  have hja : j < vs.length := hja
  simp only [TrnT.V] at *
  obtain ⟨b1, o1, rfl, hb1, hc0, hc1, hc2, hc3⟩ := mov_at (Hm.out.below HB.out) hja
  have hj1 : (j : Int) < (vm : Int) := by omega
  have hj0 : (0 : Int) ≤ (j : Int) := by omega
  have hlx := HL.out _ (List.getElem_mem hja)
  have Ha := Lib.hid (fun (h : nameB (vs[j]'hja).field = false) => mov_name (vs := vs) (ks := ks) (i := j) h)
  have Hb := Lib.hid (fun (h : nameB (vs[j]'hja).field = true) h2 => mov_twice (vs := vs) (ks := ks) (i := j) h h2)
  have Hc := Lib.hid (fun (h : nameB (vs[j]'hja).field = true) h2 => mov_kind (vs := vs) (ks := ks) (i := j) h h2)
  have hchk := Hchk.out _ (List.getElem_mem hja)
  have hcd := Hcd.out _ (List.getElem_mem hja)
  generalize vs[j] = x at *
  generalize movE vs ks j x = E at *
  have hcl : x.code.length = x.cm := hcd.len.symm
  have HE := Lib.hid (show kndE x ks = if x.kind = 0 then (if x.frm ≠ [] ∨ 0 < x.cm then 2 else 0) else if x.kind = 1 then (if nameB x.frm = false then 7 else if 0 < x.cm then 2 else 0) else if x.kind = 2 then (if x.frm ≠ [] then 2 else leanE x.code ks) else 2 by unfold kndE; rw [hcl])
  generalize kndE x ks = R at *
  obtain ⟨x0, x1, x2, x3, x4, x5, cd⟩ := x
  simp only at hc0 hc1 hc2 hc3 hchk hcd hcl
  have hl0 : x0.length ≤ 140737488351232 := hlx.field
  have hl2 : x2.length ≤ 140737488351232 := hlx.frm
  have Hk2 := Lib.hid hchk
  have Hcd2 := Lib.hid (show IsCode w x3 x4 x5 cd from hcd)
  have hcl1 : cd.length ≤ x4 := Nat.le_of_eq hcl
  have hcl2 : x4 ≤ cd.length := Nat.le_of_eq hcl.symm
  have hcx : x4 ≤ maxLen := Nat.le_trans hcd.le hcd.max
  unfold maxLen at hcx
  clear hchk hlx hcd hcl
  generalize hK : checkI cd ks 0 = K at *
  have HKb := Lib.hid (fun h2 => lean_bad hK h2)
  have HKo := Lib.hid (fun h2 h3 => lean_no hK h2 h3)
  have HKh := Lib.hid (fun h2 h3 => lean_ok hK h2 h3)
  clear hK
  obtain ⟨K0, K1⟩ := K
  simp only [twoN] at Hk2 HKb HKo HKh
  have HP := Lib.hid (pair w #[.string ⟨n.toArray⟩, .slice kA km kc, .slice (some ⟨b1, o1, none⟩) vm vc] #[.string ⟨x0.toArray⟩, .int .i64 x1, .string ⟨x2.toArray⟩, .slice x3 x4 x5] 103 105)
  have t2 := R0.out.cell 2
  have g1 := HP.out.1.cell 1
  have g2 := HP.out.1.cell 2
  have m0 := HP.out.2.1.cell 0
  have m1 := HP.out.2.1.cell 1
  have m2 := HP.out.2.1.cell 2
  have m3 := HP.out.2.1.cell 3
  go_enter Tryz.func76, Tryz.ntmps76
  go_wp2_with fail
  refine Calls.mono (refNm_any x0 _ (by omega)) ?_
  rintro e w3 ⟨rfl, rfl⟩
  cases hN : nameB x0
  · have Hq := Lib.hid (Ha.out hN)
    clear hN
    go_wp2_with fail
    go_ret
    exact ⟨ret_i Hq.out.symm, HP.out.2.2⟩
  · have Hb2 := Lib.hid (fun h2 => Hb.out hN h2)
    have Hc2 := Lib.hid (fun h2 => Hc.out hN h2)
    clear hN hc0 hc1 hc2 hc3 t2
    go_wp2_with fail
    generalize ((w.alloc (.cells #[.string ⟨n.toArray⟩, .slice kA km kc, .slice (some ⟨b1, o1, none⟩) vm vc] 103)).alloc (.cells #[.string ⟨x0.toArray⟩, .int .i64 x1, .string ⟨x2.toArray⟩, .slice x3 x4 x5] 105)) = W0 at *
    clear g1 g2 m0 m1 m2 m3
    go_loopw [6] (fun i wr => ∃ k : Nat, k ≤ j ∧ i = .int .i64 k ∧ (∀ y ∈ (vs.take j).take k, nameV x0 y = false) ∧ Row wr w.heap.size #[.string ⟨n.toArray⟩, .slice kA km kc, .slice (some ⟨b1, o1, none⟩) vm vc] 103 ∧ Row wr (w.heap.size + 1) #[.string ⟨x0.toArray⟩, .int .i64 x1, .string ⟨x2.toArray⟩, .slice x3 x4 x5] 105 ∧ Below w.heap.size w wr) (fun i _ => j - (intOf i).toNat)
    case atStart => exact ⟨0, Nat.zero_le _, rfl, by simp, HP.out.1, HP.out.2.1, HP.out.2.2⟩
    case round =>
      obtain ⟨k, hk, rfl, hno, hp1, hp2, hp3⟩ := hrel
      have Hno := Lib.hid hno
      have HPw := Lib.hid (And.intro hp1 (And.intro hp2 hp3))
      clear hno hp1 hp2 hp3
      have g1 := HPw.out.1.cell 1
      have g2 := HPw.out.1.cell 2
      have m0 := HPw.out.2.1.cell 0
      have m1 := HPw.out.2.1.cell 1
      have m2 := HPw.out.2.1.cell 2
      have m3 := HPw.out.2.1.cell 3
      by_cases hlt : k < j
      · have hka : k < vs.length := by omega
        obtain ⟨b2, o2, hA2, hb2, hd0, hd1, hd2, hd3⟩ := mov_at (Hm.out.below HPw.out.2.2) hka
        injection hA2 with hA2
        injection hA2 with e1 e2
        subst e1 e2
        have hk1 : (k : Int) < (vm : Int) := by omega
        have hk2 : (k : Int) < (j : Int) := by omega
        have hk0 : (0 : Int) ≤ (k : Int) := by omega
        have hkt : k < (vs.take j).length := by simp; omega
        have het : (vs.take j)[k]'hkt = vs[k]'hka := by simp
        cases hD : ((vs[k]).field == x0)
        · have Hq := Lib.hid (none_next (p := nameV x0) hkt Hno.out (by rw [het]; exact hD))
          go_wp2_with fail
          go_quiet (fail)
          go_wp2_with fail
          go_roundw
          case rel => exact ⟨k + 1, by omega, by go_num, Hq.out, HPw.out.1, HPw.out.2.1, Stru.drawn HPw.out.2.2 _⟩
          case measure => simp [intOf]; omega
        · have Hq := Lib.hid (Hb2.out (by have h3 := findP_at (p := nameV x0) hkt Hno.out (by rw [het]; exact hD); omega))
          go_wp2_with fail
          go_quiet (fail)
          go_wp2_with fail
          go_ret
          exact ⟨ret_i Hq.out.symm, Stru.drawn HPw.out.2.2 _⟩
      · have Hq := Lib.hid (Hc2.out (by
          have h := Hno.out
          rw [List.take_of_length_le (by simp; omega)] at h
          have h3 := findP_none h
          omega))
        by_cases h0 : x1 = 0
        · subst h0
          have HE0 := Lib.hid (show R = if x2 ≠ [] ∨ 0 < x4 then 2 else 0 from HE.out.trans (if_pos rfl))
          rcases x2 with _ | ⟨c, r⟩
          · by_cases h1 : 0 < x4
            · have Hr := Lib.hid (show R = 2 by rw [HE0.out, if_pos (.inr h1)])
              go_wp2_with fail
              go_ret
              exact ⟨ret_i (by rw [Hq.out, Hr.out]), HPw.out.2.2⟩
            · have Hr := Lib.hid (show R = 0 by rw [HE0.out, if_neg (by simp; omega)])
              have d2 : x4 = 0 := by omega
              subst d2
              go_wp2_with fail
              go_ret
              exact ⟨ret_i (by rw [Hq.out, Hr.out]), HPw.out.2.2⟩
          · have Hr := Lib.hid (show R = 2 by rw [HE0.out, if_pos (.inl (by simp))])
            go_wp2_with fail
            go_ret
            exact ⟨ret_i (by rw [Hq.out, Hr.out]), HPw.out.2.2⟩
        · have e0 : (x1 == 0) = false := by simpa using h0
          by_cases h1 : x1 = 1
          · subst h1
            have HE0 := Lib.hid (show R = if nameB x2 = false then 7 else if 0 < x4 then 2 else 0 from HE.out.trans ((if_neg (by decide)).trans (if_pos rfl)))
            clear h0 e0
            go_wp2_with fail
            refine Calls.mono (refNm_any x2 _ (by omega)) ?_
            rintro e w3 ⟨rfl, rfl⟩
            cases hN : nameB x2
            · have Hr := Lib.hid (show R = 7 by rw [HE0.out, if_pos hN])
              clear hN
              go_wp2_with fail
              go_ret
              exact ⟨ret_i (by rw [Hq.out, Hr.out]), HPw.out.2.2⟩
            · by_cases h1 : 0 < x4
              · have Hr := Lib.hid (show R = 2 by rw [HE0.out, if_neg (by rw [hN]; simp), if_pos h1])
                clear hN
                go_wp2_with fail
                go_ret
                exact ⟨ret_i (by rw [Hq.out, Hr.out]), HPw.out.2.2⟩
              · have Hr := Lib.hid (show R = 0 by rw [HE0.out, if_neg (by rw [hN]; simp), if_neg h1])
                have d2 : x4 = 0 := by omega
                clear h1 hN
                subst d2
                go_wp2_with fail
                go_ret
                exact ⟨ret_i (by rw [Hq.out, Hr.out]), HPw.out.2.2⟩
          · have e1 : (x1 == 1) = false := by simpa using h1
            by_cases h2 : x1 = 2
            · subst h2
              have HE0 := Lib.hid (show R = if x2 ≠ [] then 2 else leanE cd ks from HE.out.trans ((if_neg (by decide)).trans ((if_neg (by decide)).trans (if_pos rfl))))
              clear h0 e0 h1 e1
              rcases x2 with _ | ⟨c, r⟩
              · have Hr := Lib.hid (show R = leanE cd ks by rw [HE0.out, if_neg (by simp)])
                go_wp2_with fail
                refine Calls.mono (Hk2.out _ HPw.out.2.2) ?_
                rintro e w4 ⟨rfl, hb4⟩
                have B4 := Lib.hid (HPw.out.2.2.trans (hb4.mono HPw.out.2.2.size))
                have M4 := Lib.hid (HPw.out.2.1.after hb4)
                clear hb4 g1 g2 m0 m1 m2 m3
                have m3 := M4.out.cell 3
                by_cases hK : K1 = 0
                · have HKo2 := Lib.hid (fun h3 => HKo.out hK h3)
                  have HKh2 := Lib.hid (fun h3 => HKh.out hK h3)
                  subst hK
                  go_wp2_with fail
                  go_loop [9] (fun i => ∃ k : Nat, k ≤ x4 ∧ i = .int .i64 k ∧ Hid (∀ y ∈ cd.take k, notLean y = false)) (fun i => x4 - (intOf i).toNat)
                  case atStart => exact ⟨0, Nat.zero_le _, rfl, Lib.hid (by simp)⟩
                  case round =>
                    obtain ⟨k, hk, rfl, Hno⟩ := hrel
                    by_cases hlt : k < x4
                    · have hka : k < cd.length := by omega
                      obtain ⟨b2, o2, rfl, hb2, hd0, hd1⟩ := code_at (Hcd2.out.below B4.out).rds hka
                      have hk1 : (k : Int) < (x4 : Int) := by omega
                      have hk0 : (0 : Int) ≤ (k : Int) := by omega
                      have Hat := Lib.hid (fun he => findP_at (p := notLean) hka Hno.out he)
                      have Hnx := Lib.hid (fun he => none_next (p := notLean) hka Hno.out he)
                      generalize cd[k] = z at *
                      obtain ⟨z0, z1⟩ := z
                      simp only at hd0 hd1
                      go_wp2_with fail
                      refine Calls.mono (lean_any z0 _) ?_
                      rintro e w5 ⟨rfl, rfl⟩
                      cases hD : decide (z0 ∈ lean)
                      · have Hf := Lib.hid (HKo2.out (by rw [Hat.out (by unfold notLean; rw [hD]; rfl)]; omega))
                        clear hD
                        go_wp2_with fail
                        go_ret
                        exact ⟨ret_i (by rw [Hq.out, Hr.out, Hf.out]), B4.out⟩
                      · have Hf := Lib.hid (Hnx.out (by unfold notLean; rw [hD]; rfl))
                        clear hD
                        go_wp2_with fail
                        go_round
                        case rel => exact ⟨k + 1, by omega, by go_num, Hf⟩
                        case measure => simp [intOf]; omega
                    · have Hf := Lib.hid (HKh2.out (by
                        have h := Hno.out
                        rw [List.take_of_length_le (by omega)] at h
                        rw [findP_none h]; omega))
                      go_wp2_with fail
                      go_ret
                      exact ⟨ret_i (by rw [Hq.out, Hr.out, Hf.out]), B4.out⟩
                · have Hf := Lib.hid (HKb.out hK)
                  have hK2 : (K1 != 0) = true := by simp [hK]
                  clear hK
                  go_wp2_with fail
                  go_ret
                  exact ⟨ret_i (by rw [Hq.out, Hr.out, Hf.out]), B4.out⟩
              · have Hr := Lib.hid (show R = 2 by rw [HE0.out, if_pos (by simp)])
                go_wp2_with fail
                go_ret
                exact ⟨ret_i (by rw [Hq.out, Hr.out]), HPw.out.2.2⟩
            · have e2 : (x1 == 2) = false := by simpa using h2
              have Hr := Lib.hid (show R = 2 by rw [HE.out, if_neg h0, if_neg h1, if_neg h2])
              clear h0 h1 h2
              go_wp2_with fail
              go_ret
              exact ⟨ret_i (by rw [Hq.out, Hr.out]), HPw.out.2.2⟩

end PckY
end Go.Proofs.YthkkcecfenohjaaGreatDoor
