/-
  slices.EqualFunc at methods: what it returns.
-/
import Derived.Test.YthkkcecfenohjaaGreatDoorKlsS
namespace Go.Proofs.YthkkcecfenohjaaGreatDoor
namespace Kls
open Go.RowKit Base BinM Stru PoolM PoolA PoolJ InsJ

set_option maxRecDepth 100000 in
set_option maxHeartbeats 4000000 in
theorem equalM_any (A B : Option Addr) (a b : List MthT) (m k c d : Nat) (w : World) (ha : IsMths w A m c a) (hb : IsMths w B k d b) :
    Calls Tryz.prog 65 #[.slice A m c, .slice B k d, .func (.func 66) #[] #[]] w fun e w' => e = .returned (.bool (decide (a.map MthT.pure = b.map MthT.pure))) ∧ Below w.heap.size w w' := by
  have eg : ∀ args w, (callFunc 66 args).run Tryz.prog w = .ok (.enter 66 args) w := enters_of Tryz.func66 (by kernel_rfl) rfl
  have hml : a.length ≤ m := Nat.le_of_eq ha.len.symm
  have hml2 : m ≤ a.length := Nat.le_of_eq ha.len
  have hkl : b.length ≤ k := Nat.le_of_eq hb.len.symm
  have hkl2 : k ≤ b.length := Nat.le_of_eq hb.len
  have hmx : m ≤ maxLen := Nat.le_trans ha.le ha.max
  have Ha := Lib.hid ha
  have Hb := Lib.hid hb
  unfold maxLen at hmx
  clear ha hb
  generalize hD : decide (List.map MthT.pure _ = List.map MthT.pure _) = D
  by_cases hmk : m = k
  · have hb : ((m : Int) != (k : Int)) = false := by rw [hmk]; simp
    have hkm : k ≤ m := by omega
    have hmk' : m ≤ k := by omega
    clear hmk
    go_enter Tryz.func65, Tryz.ntmps65
    go_wp2_with fail
    go_loopw [7, 8, 9, 17] (fun _ _ _ i wr => ∃ j : Nat, j ≤ m ∧ i = .int .i64 j ∧ (a.map MthT.pure).take j = (b.map MthT.pure).take j ∧ Below w.heap.size w wr) (fun _ _ _ i _ => m - (intOf i).toNat)
    case atStart => exact ⟨0, Nat.zero_le _, rfl, rfl, Below.refl _ _⟩
    case round =>
      obtain ⟨j, hj, rfl, hsame, hbel⟩ := hrel
      have Hsame := Lib.hid hsame
      have Hbel := Lib.hid hbel
      clear hsame
      by_cases hlt : j < m
      · have hja : j < a.length := by omega
        have hjb : j < b.length := by omega
        obtain ⟨b1, o1, rfl, hb1, hc0, hc1, hc2, hc3, hc4⟩ := mth_at (Ha.out.rds.below hbel) hja
        obtain ⟨b2, o2, rfl, hb2, hd0, hd1, hd2, hd3, hd4⟩ := mth_at (Hb.out.rds.below hbel) hjb
        have hj1 : (j : Int) < (m : Int) := by omega
        have hj2 : (j : Int) < (k : Int) := by omega
        have hj0 : (0 : Int) ≤ (j : Int) := by omega
        have hx := Lib.hid ((Ha.out.each _ (List.getElem_mem hja)).below hbel)
        have hy := Lib.hid ((Hb.out.each _ (List.getElem_mem hjb)).below hbel)
        clear hbel
        have e1 : (a.map MthT.pure).take (j + 1) = (a.map MthT.pure).take j ++ [a[j].pure] := by rw [List.take_succ_eq_append_getElem (by simpa using hja)]; simp
        have e2 : (b.map MthT.pure).take (j + 1) = (b.map MthT.pure).take j ++ [b[j].pure] := by rw [List.take_succ_eq_append_getElem (by simpa using hjb)]; simp
        have hno : a[j].pure ≠ b[j].pure → D = false := by
          intro h
          rw [← hD, decide_eq_false_iff_not]
          intro h2
          apply h
          have h3 : (a.map MthT.pure)[j]? = (b.map MthT.pure)[j]? := by rw [h2]
          simpa [hja, hjb] using h3
        have Hno := Lib.hid hno
        have He1 := Lib.hid e1
        have He2 := Lib.hid e2
        clear e1 e2 hno
        go_wp2_with fail
        refine Calls.mono (sameM_any a[j] b[j] _ (hx.out.below (two wr _ _ _ _ _ _ _ _ _ _ _)) (hy.out.below (two wr _ _ _ _ _ _ _ _ _ _ _))) ?_
        rintro e w3 ⟨rfl, hb3⟩
        have Hb3 := Lib.hid (Hbel.out.trans (((two wr _ _ _ _ _ _ _ _ _ _ _).trans (hb3.mono (by simp; omega))).mono Hbel.out.size))
        clear hb3
        by_cases hq : a[j].pure = b[j].pure
        · have Hq := Lib.hid (show (a.map MthT.pure).take (j + 1) = (b.map MthT.pure).take (j + 1) by rw [He1.out, He2.out, Hsame.out, hq])
          rw [decide_eq_true hq]
          clear hq
          go_wp2_with fail
          go_roundw
          case rel => exact ⟨j + 1, by omega, by go_num, Hq.out, Hb3.out⟩
          case measure => simp [intOf]; omega
        · have Hq := Lib.hid (Hno.out hq)
          rw [decide_eq_false hq]
          clear hq
          go_wp2_with fail
          go_ret
          exact ⟨by rw [Hq.out]; rfl, Hb3.out⟩
      · have Hfin := Lib.hid (show D = true by
          have h := Hsame.out
          rw [List.take_of_length_le (by simp; omega), List.take_of_length_le (by simp; omega)] at h
          rw [← hD]; simp [h])
        go_wp2_with fail
        go_ret
        exact ⟨by rw [Hfin.out]; rfl, hbel⟩
  · have hb : ((m : Int) != (k : Int)) = true := by simp; omega
    have Hfin := Lib.hid (show D = false by
      rw [← hD, decide_eq_false_iff_not]
      intro h
      have := congrArg List.length h
      simp at this
      omega)
    clear hmk
    go_enter Tryz.func65, Tryz.ntmps65
    go_wp2_with fail
    go_ret
    exact ⟨by rw [Hfin.out]; rfl, Below.refl _ _⟩

set_option maxRecDepth 100000 in
set_option maxHeartbeats 4000000 in
theorem same_any (x y : ClsT) (w : World) (hx : x.is w) (hy : y.is w) :
    Calls Tryz.prog 23 #[x.V, y.V] w fun e w' => e = .returned (.bool (x.same y)) ∧ Below w.heap.size w w' := by
  obtain ⟨n, s, kA, km, kc, fA, fm, fc, mA, mm, mc, ks, fs, ms⟩ := x
  obtain ⟨n', s', kA', km', kc', fA', fm', fc', mA', mm', mc', ks', fs', ms'⟩ := y
  have Hx := Lib.hid hx
  have Hy := Lib.hid hy
  clear hx hy
  generalize hD : ClsT.same _ _ = D
  simp only [ClsT.V]
  have HB := Lib.hid (two w (.string ⟨n.toArray⟩) (.string ⟨s.toArray⟩) (.slice kA km kc) (.slice fA fm fc) (.slice mA mm mc) (.string ⟨n'.toArray⟩) (.string ⟨s'.toArray⟩) (.slice kA' km' kc') (.slice fA' fm' fc') (.slice mA' mm' mc') 26)
  have H1q := Lib.hid (two1 w (.string ⟨n.toArray⟩) (.string ⟨s.toArray⟩) (.slice kA km kc) (.slice fA fm fc) (.slice mA mm mc) (.string ⟨n'.toArray⟩) (.string ⟨s'.toArray⟩) (.slice kA' km' kc') (.slice fA' fm' fc') (.slice mA' mm' mc') 26)
  have H2q := Lib.hid (two2 w (.string ⟨n.toArray⟩) (.string ⟨s.toArray⟩) (.slice kA km kc) (.slice fA fm fc) (.slice mA mm mc) (.string ⟨n'.toArray⟩) (.string ⟨s'.toArray⟩) (.slice kA' km' kc') (.slice fA' fm' fc') (.slice mA' mm' mc') 26)
  by_cases h1 : n = n'
  · subst h1
    by_cases h2 : s = s'
    · subst h2
      by_cases h3 : ks = ks'
      · have hq3 := decide_eq_true h3
        by_cases h4 : fs = fs'
        · have hq4 := decide_eq_true h4
          have Hf := Lib.hid (show D = decide (ms.map MthT.pure = ms'.map MthT.pure) by rw [← hD]; simp [ClsT.same, h3, h4])
          clear h3 h4 hD
          go_enter Tryz.func23, Tryz.ntmps23
          go_wp2_with fail
          refine Calls.mono (equalC_any kA kA' ks ks' km km' kc kc' _ Hx.out.consts.len Hy.out.consts.len (Nat.le_trans Hx.out.consts.le Hx.out.consts.max) (Hx.out.consts.below HB.out).rds (Hy.out.consts.below HB.out).rds) ?_
          rw [hq3]
          rintro e w3 ⟨rfl, hb3⟩
          have H13 := Lib.hid (H1q.out.after hb3)
          have H23 := Lib.hid (H2q.out.after hb3)
          skip
          obtain ⟨hc0, hc1, hc2, hc3, hc4⟩ := H13.out
          obtain ⟨hd0, hd1, hd2, hd3, hd4⟩ := H23.out
          have Hb3 := Lib.hid (HB.out.trans (hb3.mono HB.out.size))
          clear hb3
          go_wp2_with fail
          refine Calls.mono (equalF_any fA fA' fs fs' fm fm' fc fc' _ Hx.out.fields.len Hy.out.fields.len (Nat.le_trans Hx.out.fields.le Hx.out.fields.max) (Hx.out.fields.below Hb3.out).rds (Hy.out.fields.below Hb3.out).rds) ?_
          rw [hq4]
          rintro e w4 ⟨rfl, hb4⟩
          have H14 := Lib.hid (H13.out.after hb4)
          have H24 := Lib.hid (H23.out.after hb4)
          clear hc0 hc1 hc2 hc3 hc4 hd0 hd1 hd2 hd3 hd4
          obtain ⟨hc0, hc1, hc2, hc3, hc4⟩ := H14.out
          obtain ⟨hd0, hd1, hd2, hd3, hd4⟩ := H24.out
          have Hb4 := Lib.hid (Hb3.out.trans (hb4.mono Hb3.out.size))
          clear hb4
          go_wp2_with fail
          refine Calls.mono (equalM_any mA mA' ms ms' mm mm' mc mc' _ (Hx.out.meths.below Hb4.out) (Hy.out.meths.below Hb4.out)) ?_
          rw [← Hf.out]
          rintro e w5 ⟨rfl, hb5⟩
          have Hb5 := Lib.hid (Hb4.out.trans (hb5.mono Hb4.out.size))
          clear hb5
          go_wp2_with fail
          go_ret
          exact ⟨rfl, Hb5.out⟩
        · have hq4 := decide_eq_false h4
          have Hf := Lib.hid (show D = false by rw [← hD]; simp [ClsT.same, h4])
          clear h3 h4 hD
          go_enter Tryz.func23, Tryz.ntmps23
          go_wp2_with fail
          refine Calls.mono (equalC_any kA kA' ks ks' km km' kc kc' _ Hx.out.consts.len Hy.out.consts.len (Nat.le_trans Hx.out.consts.le Hx.out.consts.max) (Hx.out.consts.below HB.out).rds (Hy.out.consts.below HB.out).rds) ?_
          rw [hq3]
          rintro e w3 ⟨rfl, hb3⟩
          have H13 := Lib.hid (H1q.out.after hb3)
          have H23 := Lib.hid (H2q.out.after hb3)
          skip
          obtain ⟨hc0, hc1, hc2, hc3, hc4⟩ := H13.out
          obtain ⟨hd0, hd1, hd2, hd3, hd4⟩ := H23.out
          have Hb3 := Lib.hid (HB.out.trans (hb3.mono HB.out.size))
          clear hb3
          go_wp2_with fail
          refine Calls.mono (equalF_any fA fA' fs fs' fm fm' fc fc' _ Hx.out.fields.len Hy.out.fields.len (Nat.le_trans Hx.out.fields.le Hx.out.fields.max) (Hx.out.fields.below Hb3.out).rds (Hy.out.fields.below Hb3.out).rds) ?_
          rw [hq4]
          rintro e w4 ⟨rfl, hb4⟩
          have Hb4 := Lib.hid (Hb3.out.trans (hb4.mono Hb3.out.size))
          clear hb4
          go_wp2_with fail
          go_ret
          exact ⟨by rw [Hf.out]; rfl, Hb4.out⟩
      · have hq3 := decide_eq_false h3
        have Hf := Lib.hid (show D = false by rw [← hD]; simp [ClsT.same, h3])
        clear h3 hD
        go_enter Tryz.func23, Tryz.ntmps23
        go_wp2_with fail
        refine Calls.mono (equalC_any kA kA' ks ks' km km' kc kc' _ Hx.out.consts.len Hy.out.consts.len (Nat.le_trans Hx.out.consts.le Hx.out.consts.max) (Hx.out.consts.below HB.out).rds (Hy.out.consts.below HB.out).rds) ?_
        rw [hq3]
        rintro e w3 ⟨rfl, hb3⟩
        have Hb3 := Lib.hid (HB.out.trans (hb3.mono HB.out.size))
        clear hb3
        go_wp2_with fail
        go_ret
        exact ⟨by rw [Hf.out]; rfl, Hb3.out⟩
    · have Hf := Lib.hid (show D = false by rw [← hD]; simp [ClsT.same, h2])
      clear hD
      go_enter Tryz.func23, Tryz.ntmps23
      go_wp2_with fail
      go_ret
      exact ⟨by rw [Hf.out]; rfl, HB.out⟩
  · have Hf := Lib.hid (show D = false by rw [← hD]; simp [ClsT.same, h1])
    clear hD
    go_enter Tryz.func23, Tryz.ntmps23
    go_wp2_with fail
    go_ret
    exact ⟨by rw [Hf.out]; rfl, HB.out⟩

end Kls
end Go.Proofs.YthkkcecfenohjaaGreatDoor
