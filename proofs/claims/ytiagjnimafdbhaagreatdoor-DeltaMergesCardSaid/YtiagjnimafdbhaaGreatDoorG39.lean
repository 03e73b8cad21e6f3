/-
  The document's own Same, of classes: what it returns.
-/
import Derived.Test.YtiagjnimafdbhaaGreatDoorG10
namespace Go.Proofs.YtiagjnimafdbhaaGreatDoor
namespace Kls
open Go.RowKit Base BinM Stru PoolM PoolA PoolJ InsJ

set_option maxRecDepth 100000 in
set_option maxHeartbeats 4000000 in
theorem refSameM_any (x y : MthT) (w : World) (hx : x.is w) (hy : y.is w) :
    Calls Tryz.prog 32 #[x.V, y.V] w fun e w' => e = .returned (.bool (decide (x.pure = y.pure))) ∧ Below w.heap.size w w' := by
  obtain ⟨n, s, lo, cA, cm, cc, hA, hm, hc, cd, hd⟩ := x
  obtain ⟨n', s', lo', cA', cm', cc', hA', hm', hc', cd', hd'⟩ := y
  have Hx := Lib.hid hx
  have Hy := Lib.hid hy
  have hml : hd.length ≤ hm := Nat.le_of_eq hx.hand.len.symm
  have hml2 : hm ≤ hd.length := Nat.le_of_eq hx.hand.len
  have hkl : hd'.length ≤ hm' := Nat.le_of_eq hy.hand.len.symm
  have hkl2 : hm' ≤ hd'.length := Nat.le_of_eq hy.hand.len
  have hmx : hm ≤ maxLen := Nat.le_trans hx.hand.le hx.hand.max
  unfold maxLen at hmx
  clear hx hy
  generalize hD : decide (MthT.pure _ = MthT.pure _) = D
  simp only [MthT.V]
  have HB := Lib.hid (two w (.string ⟨n.toArray⟩) (.string ⟨s.toArray⟩) (.int .i64 lo) (.slice cA cm cc) (.slice hA hm hc) (.string ⟨n'.toArray⟩) (.string ⟨s'.toArray⟩) (.int .i64 lo') (.slice cA' cm' cc') (.slice hA' hm' hc') 55)
  have H1 := Lib.hid (two1 w (.string ⟨n.toArray⟩) (.string ⟨s.toArray⟩) (.int .i64 lo) (.slice cA cm cc) (.slice hA hm hc) (.string ⟨n'.toArray⟩) (.string ⟨s'.toArray⟩) (.int .i64 lo') (.slice cA' cm' cc') (.slice hA' hm' hc') 55)
  have H2 := Lib.hid (two2 w (.string ⟨n.toArray⟩) (.string ⟨s.toArray⟩) (.int .i64 lo) (.slice cA cm cc) (.slice hA hm hc) (.string ⟨n'.toArray⟩) (.string ⟨s'.toArray⟩) (.int .i64 lo') (.slice cA' cm' cc') (.slice hA' hm' hc') 55)
  by_cases h1 : n = n'
  · subst h1
    by_cases h2 : s = s'
    · subst h2
      by_cases h3 : lo = lo'
      · subst h3
        by_cases h4 : cd = cd'
        · have hq := decide_eq_true h4
          by_cases h5 : hm = hm'
          · have Hf := Lib.hid (show D = decide (hd = hd') by rw [← hD]; simp [MthT.pure, h4])
            have hb : ((hm : Int) != (hm' : Int)) = false := by rw [h5]; simp
            have hkm : hm' ≤ hm := by omega
            have hmk' : hm ≤ hm' := by omega
            clear h4 h5 hD
            go_enter Tryz.func32, Tryz.ntmps32
            go_wp2_with fail
            refine Calls.mono (InsJ.same_any cA cA' cd cd' cm cm' cc cc' _ Hx.out.code.len Hy.out.code.len (Nat.le_trans Hx.out.code.le Hx.out.code.max) (Hx.out.code.below HB.out).rds (Hy.out.code.below HB.out).rds) ?_
            rw [hq]
            rintro e w3 ⟨rfl, hb3⟩
            have H13 := Lib.hid (H1.out.after hb3)
            have H23 := Lib.hid (H2.out.after hb3)
            obtain ⟨hc0, hc1, hc2, hc3, hc4⟩ := H13.out
            obtain ⟨hd0, hd1, hd2, hd3, hd4⟩ := H23.out
            have Hb3 := Lib.hid (HB.out.trans (hb3.mono HB.out.size))
            have hs3 := Hb3.out.size
            clear hb3
            go_wp2_with fail
            clear hc0 hc1 hc2 hc3 hc4 hd0 hd1 hd2 hd3 hd4
            go_loopw [5] (fun i wr => ∃ j : Nat, j ≤ hm ∧ i = .int .i64 j ∧ hd.take j = hd'.take j ∧ Below w3.heap.size w3 wr) (fun i _ => hm - (intOf i).toNat)
            case atStart => exact ⟨0, Nat.zero_le _, rfl, rfl, Below.refl _ _⟩
            case round =>
              obtain ⟨j, hj, rfl, hsame, hbel⟩ := hrel
              have Hsame := Lib.hid hsame
              obtain ⟨hc0, hc1, hc2, hc3, hc4⟩ := H13.out.after hbel
              obtain ⟨hd0, hd1, hd2, hd3, hd4⟩ := H23.out.after hbel
              have Hbel := Lib.hid (Hb3.out.trans (hbel.mono hs3))
              have Hbel3 := Lib.hid hbel
              clear hsame
              by_cases hlt : j < hm
              · have hja : j < hd.length := by omega
                have hjb : j < hd'.length := by omega
                obtain ⟨b1, o1, rfl, hb1, hx0, hx1, hx2, hx3⟩ := hnd_at (Hx.out.hand.rds.below Hbel.out) hja
                obtain ⟨b2, o2, rfl, hb2, hy0, hy1, hy2, hy3⟩ := hnd_at (Hy.out.hand.rds.below Hbel.out) hjb
                have e1 : hd.take (j + 1) = hd.take j ++ [hd[j]] := List.take_succ_eq_append_getElem hja
                have e2 : hd'.take (j + 1) = hd'.take j ++ [hd'[j]] := List.take_succ_eq_append_getElem hjb
                have hj1 : (j : Int) < (hm : Int) := by omega
                have hj2 : (j : Int) < (hm' : Int) := by omega
                have hj0 : (0 : Int) ≤ (j : Int) := by omega
                have hg := guard_hnd
                have hne := neq_hnd hd[j].frm hd[j].til hd[j].pos hd[j].cls hd'[j].frm hd'[j].til hd'[j].pos hd'[j].cls
                clear hbel
                cases hxy : hd[j].eqb hd'[j]
                · have Hfin := Lib.hid (show D = false by
                    rw [Hf.out, decide_eq_false_iff_not]
                    intro h
                    have : hd[j] = hd'[j] := by subst h; rfl
                    rw [(HndT.iff _ _).2 this] at hxy
                    cases hxy)
                  replace hne := fun W => (hne W).trans (by rw [show hd[j].eqb hd'[j] = false from hxy]; rfl : _ = Result.ok (.bool true) W)
                  clear e1 e2 hxy
                  generalize hd[j] = x at *
                  generalize hd'[j] = y at *
                  obtain ⟨x0, x1, x2, x3⟩ := x
                  obtain ⟨y0, y1, y2, y3⟩ := y
                  simp only at hx0 hx1 hx2 hx3 hy0 hy1 hy2 hy3 hne
                  go_wp2_with fail
                  go_quiet (fail)
                  go_wp2_with fail
                  go_ret
                  exact ⟨by rw [Hfin.out]; rfl, drawn Hbel.out _⟩
                · have he : hd[j] = hd'[j] := (HndT.iff _ _).1 hxy
                  have Hnext := Lib.hid (show hd.take (j + 1) = hd'.take (j + 1) by rw [e1, e2, Hsame.out, he])
                  replace hne := fun W => (hne W).trans (by rw [show hd[j].eqb hd'[j] = true from hxy]; rfl : _ = Result.ok (.bool false) W)
                  clear e1 e2 hxy he
                  generalize hd[j] = x at *
                  generalize hd'[j] = y at *
                  obtain ⟨x0, x1, x2, x3⟩ := x
                  obtain ⟨y0, y1, y2, y3⟩ := y
                  simp only at hx0 hx1 hx2 hx3 hy0 hy1 hy2 hy3 hne
                  go_wp2_with fail
                  go_quiet (fail)
                  go_wp2_with fail
                  go_roundw
                  case rel => exact ⟨j + 1, by omega, by go_num, Hnext.out, drawn Hbel3.out _⟩
                  case measure => simp [intOf]; omega
              · have Hfin := Lib.hid (show D = true by
                  have h := Hsame.out
                  rw [List.take_of_length_le (by omega), List.take_of_length_le (by omega)] at h
                  rw [Hf.out]; simp [h])
                go_wp2_with fail
                go_ret
                exact ⟨by rw [Hfin.out]; rfl, Hbel.out⟩
          · have hb : ((hm : Int) != (hm' : Int)) = true := by simp; omega
            have Hf := Lib.hid (show D = false by
              rw [← hD, decide_eq_false_iff_not]
              intro h
              have : hd = hd' := congrArg MthP.hand h
              subst this
              omega)
            clear h4 h5 hD
            go_enter Tryz.func32, Tryz.ntmps32
            go_wp2_with fail
            refine Calls.mono (InsJ.same_any cA cA' cd cd' cm cm' cc cc' _ Hx.out.code.len Hy.out.code.len (Nat.le_trans Hx.out.code.le Hx.out.code.max) (Hx.out.code.below HB.out).rds (Hy.out.code.below HB.out).rds) ?_
            rw [hq]
            rintro e w3 ⟨rfl, hb3⟩
            obtain ⟨hc0, hc1, hc2, hc3, hc4⟩ := H1.out.after hb3
            obtain ⟨hd0, hd1, hd2, hd3, hd4⟩ := H2.out.after hb3
            have Hb3 := Lib.hid (HB.out.trans (hb3.mono HB.out.size))
            clear hb3
            go_wp2_with fail
            go_ret
            exact ⟨by rw [Hf.out]; rfl, Hb3.out⟩
        · have Hf := Lib.hid (show D = false by rw [← hD]; simp [MthT.pure, h4])
          have hq : decide (cd = cd') = false := decide_eq_false h4
          clear h4 hD
          go_enter Tryz.func32, Tryz.ntmps32
          go_wp2_with fail
          refine Calls.mono (InsJ.same_any cA cA' cd cd' cm cm' cc cc' _ Hx.out.code.len Hy.out.code.len (Nat.le_trans Hx.out.code.le Hx.out.code.max) (Hx.out.code.below HB.out).rds (Hy.out.code.below HB.out).rds) ?_
          rw [hq]
          rintro e w3 ⟨rfl, hb3⟩
          have Hb3 := Lib.hid (HB.out.trans (hb3.mono HB.out.size))
          clear hb3
          go_wp2_with fail
          go_ret
          exact ⟨by rw [Hf.out]; rfl, Hb3.out⟩
      · have Hf := Lib.hid (show D = false by rw [← hD]; simp [MthT.pure, h3])
        have hb : (lo != lo') = true := by simpa using h3
        clear hD
        go_enter Tryz.func32, Tryz.ntmps32
        go_wp2_with fail
        go_ret
        exact ⟨by rw [Hf.out]; rfl, HB.out⟩
    · have Hf := Lib.hid (show D = false by rw [← hD]; simp [MthT.pure, h2])
      have hb : (s != s') = true := by simpa using h2
      clear hD
      go_enter Tryz.func32, Tryz.ntmps32
      go_wp2_with fail
      go_ret
      exact ⟨by rw [Hf.out]; rfl, HB.out⟩
  · have Hf := Lib.hid (show D = false by rw [← hD]; simp [MthT.pure, h1])
    have hb : (n != n') = true := by simpa using h1
    clear hD
    go_enter Tryz.func32, Tryz.ntmps32
    go_wp2_with fail
    go_ret
    exact ⟨by rw [Hf.out]; rfl, HB.out⟩

set_option maxRecDepth 100000 in
set_option maxHeartbeats 8000000 in
theorem refSame_any (x y : ClsT) (w : World) (hx : x.is w) (hy : y.is w) :
    Calls Tryz.prog 11 #[x.V, y.V] w fun e w' => e = .returned (.bool (x.same y)) ∧ Below w.heap.size w w' := by
  obtain ⟨n, s, kA, km, kc, fA, fm, fc, mA, mm, mc, ks, fs, ms⟩ := x
  obtain ⟨n', s', kA', km', kc', fA', fm', fc', mA', mm', mc', ks', fs', ms'⟩ := y
  have Hx := Lib.hid hx
  have Hy := Lib.hid hy
  have hfl : fs.length ≤ fm := Nat.le_of_eq hx.fields.len.symm
  have hfl2 : fm ≤ fs.length := Nat.le_of_eq hx.fields.len
  have hfl' : fs'.length ≤ fm' := Nat.le_of_eq hy.fields.len.symm
  have hfl2' : fm' ≤ fs'.length := Nat.le_of_eq hy.fields.len
  have hfx : fm ≤ maxLen := Nat.le_trans hx.fields.le hx.fields.max
  have hml : ms.length ≤ mm := Nat.le_of_eq hx.meths.len.symm
  have hml2 : mm ≤ ms.length := Nat.le_of_eq hx.meths.len
  have hml' : ms'.length ≤ mm' := Nat.le_of_eq hy.meths.len.symm
  have hml2' : mm' ≤ ms'.length := Nat.le_of_eq hy.meths.len
  have hmx : mm ≤ maxLen := Nat.le_trans hx.meths.le hx.meths.max
  unfold maxLen at hmx hfx
  clear hx hy
  generalize hD : ClsT.same _ _ = D
  simp only [ClsT.V]
  have HB := Lib.hid (two w (.string ⟨n.toArray⟩) (.string ⟨s.toArray⟩) (.slice kA km kc) (.slice fA fm fc) (.slice mA mm mc) (.string ⟨n'.toArray⟩) (.string ⟨s'.toArray⟩) (.slice kA' km' kc') (.slice fA' fm' fc') (.slice mA' mm' mc') 43)
  have H1 := Lib.hid (two1 w (.string ⟨n.toArray⟩) (.string ⟨s.toArray⟩) (.slice kA km kc) (.slice fA fm fc) (.slice mA mm mc) (.string ⟨n'.toArray⟩) (.string ⟨s'.toArray⟩) (.slice kA' km' kc') (.slice fA' fm' fc') (.slice mA' mm' mc') 43)
  have H2 := Lib.hid (two2 w (.string ⟨n.toArray⟩) (.string ⟨s.toArray⟩) (.slice kA km kc) (.slice fA fm fc) (.slice mA mm mc) (.string ⟨n'.toArray⟩) (.string ⟨s'.toArray⟩) (.slice kA' km' kc') (.slice fA' fm' fc') (.slice mA' mm' mc') 43)
  by_cases h1 : n = n'
  · subst h1
    by_cases h2 : s = s'
    · subst h2
      by_cases h3 : ks = ks'
      · have hq3 := decide_eq_true h3
        by_cases h4 : fm = fm'
        · by_cases h5 : mm = mm'
          · have Hf := Lib.hid (show D = (decide (fs = fs') && decide (ms.map MthT.pure = ms'.map MthT.pure)) by rw [← hD]; simp [ClsT.same, h3])
            have hb : ((fm : Int) != (fm' : Int)) = false := by rw [h4]; simp
            have hbm : ((mm : Int) != (mm' : Int)) = false := by rw [h5]; simp
            have hfe : fm ≤ fm' := by omega
            have hfe' : fm' ≤ fm := by omega
            have hme : mm ≤ mm' := by omega
            have hme' : mm' ≤ mm := by omega
            clear h3 h4 h5 hD
            go_enter Tryz.func11, Tryz.ntmps11
            go_wp2_with fail
            refine Calls.mono (sameCs_any kA kA' ks ks' km km' kc kc' _ Hx.out.consts.len Hy.out.consts.len (Nat.le_trans Hx.out.consts.le Hx.out.consts.max) (Hx.out.consts.below HB.out).rds (Hy.out.consts.below HB.out).rds) ?_
            rw [hq3]
            rintro e w3 ⟨rfl, hb3⟩
            have H13 := Lib.hid (H1.out.after hb3)
            have H23 := Lib.hid (H2.out.after hb3)
            obtain ⟨hc0, hc1, hc2, hc3, hc4⟩ := H13.out
            obtain ⟨hd0, hd1, hd2, hd3, hd4⟩ := H23.out
            have Hb3 := Lib.hid (HB.out.trans (hb3.mono HB.out.size))
            have hs3 := Hb3.out.size
            clear hb3
            go_wp2_with fail
            clear hc0 hc1 hc2 hc3 hc4 hd0 hd1 hd2 hd3 hd4
            go_loopw [5] (fun i wr => ∃ j : Nat, j ≤ fm ∧ i = .int .i64 j ∧ fs.take j = fs'.take j ∧ Below w3.heap.size w3 wr) (fun i _ => fm - (intOf i).toNat)
            case atStart => exact ⟨0, Nat.zero_le _, rfl, rfl, Below.refl _ _⟩
            case round =>
              obtain ⟨j, hj, rfl, hsame, hbel⟩ := hrel
              have Hsame := Lib.hid hsame
              obtain ⟨hc0, hc1, hc2, hc3, hc4⟩ := H13.out.after hbel
              obtain ⟨hd0, hd1, hd2, hd3, hd4⟩ := H23.out.after hbel
              have Hbel := Lib.hid (Hb3.out.trans (hbel.mono hs3))
              have Hbel3 := Lib.hid hbel
              clear hsame
              by_cases hlt : j < fm
              · have hja : j < fs.length := by omega
                have hjb : j < fs'.length := by omega
                obtain ⟨b1, o1, rfl, hb1, hx0, hx1⟩ := fld_at (Hx.out.fields.rds.below Hbel.out) hja
                obtain ⟨b2, o2, rfl, hb2, hy0, hy1⟩ := fld_at (Hy.out.fields.rds.below Hbel.out) hjb
                have e1 : fs.take (j + 1) = fs.take j ++ [fs[j]] := List.take_succ_eq_append_getElem hja
                have e2 : fs'.take (j + 1) = fs'.take j ++ [fs'[j]] := List.take_succ_eq_append_getElem hjb
                have hj1 : (j : Int) < (fm : Int) := by omega
                have hj2 : (j : Int) < (fm' : Int) := by omega
                have hj0 : (0 : Int) ≤ (j : Int) := by omega
                have hg := guard_fld
                have hne := neq_fld fs[j].name fs[j].desc fs'[j].name fs'[j].desc
                clear hbel
                cases hxy : fs[j].eqb fs'[j]
                · have Hfin := Lib.hid (show D = false by
                    rw [Hf.out, Bool.and_eq_false_iff]
                    left
                    rw [decide_eq_false_iff_not]
                    intro h
                    have : fs[j] = fs'[j] := by subst h; rfl
                    rw [(FldT.iff _ _).2 this] at hxy
                    cases hxy)
                  replace hne := fun W => (hne W).trans (by rw [show fs[j].eqb fs'[j] = false from hxy]; rfl : _ = Result.ok (.bool true) W)
                  clear e1 e2 hxy
                  generalize fs[j] = x at *
                  generalize fs'[j] = y at *
                  obtain ⟨x0, x1⟩ := x
                  obtain ⟨y0, y1⟩ := y
                  simp only at hx0 hx1 hy0 hy1 hne
                  go_wp2_with fail
                  go_quiet (fail)
                  go_wp2_with fail
                  go_ret
                  exact ⟨by rw [Hfin.out]; rfl, drawn Hbel.out _⟩
                · have he : fs[j] = fs'[j] := (FldT.iff _ _).1 hxy
                  have Hnext := Lib.hid (show fs.take (j + 1) = fs'.take (j + 1) by rw [e1, e2, Hsame.out, he])
                  replace hne := fun W => (hne W).trans (by rw [show fs[j].eqb fs'[j] = true from hxy]; rfl : _ = Result.ok (.bool false) W)
                  clear e1 e2 hxy he
                  generalize fs[j] = x at *
                  generalize fs'[j] = y at *
                  obtain ⟨x0, x1⟩ := x
                  obtain ⟨y0, y1⟩ := y
                  simp only at hx0 hx1 hy0 hy1 hne
                  go_wp2_with fail
                  go_quiet (fail)
                  go_wp2_with fail
                  go_roundw
                  case rel => exact ⟨j + 1, by omega, by go_num, Hnext.out, drawn Hbel3.out _⟩
                  case measure => simp [intOf]; omega
              · have Hfs := Lib.hid (show D = decide (ms.map MthT.pure = ms'.map MthT.pure) by
                  have h := Hsame.out
                  rw [List.take_of_length_le (by omega), List.take_of_length_le (by omega)] at h
                  rw [Hf.out, h]; simp)
                go_wp2_with fail
                clear hc0 hc1 hc2 hc3 hc4 hd0 hd1 hd2 hd3 hd4
                go_loopw [6] (fun i wr => ∃ j : Nat, j ≤ mm ∧ i = .int .i64 j ∧ (ms.map MthT.pure).take j = (ms'.map MthT.pure).take j ∧ Below w3.heap.size w3 wr) (fun i _ => mm - (intOf i).toNat)
                case atStart => exact ⟨0, Nat.zero_le _, rfl, rfl, Hbel3.out⟩
                case round =>
                  clear Hbel Hbel3 hbel Hsame Hf hlt hj
                  obtain ⟨j, hj, rfl, hsame, hbel⟩ := hrel
                  have Hsame := Lib.hid hsame
                  have H1r := Lib.hid (H13.out.after hbel)
                  have H2r := Lib.hid (H23.out.after hbel)
                  have hc4 := H1r.out.2.2.2.2
                  have hd4 := H2r.out.2.2.2.2
                  have Hbel := Lib.hid (Hb3.out.trans (hbel.mono hs3))
                  have Hbel3 := Lib.hid hbel
                  clear hsame
                  by_cases hlt : j < mm
                  · have hja : j < ms.length := by omega
                    have hjb : j < ms'.length := by omega
                    obtain ⟨b1, o1, rfl, hb1, hx0, hx1, hx2, hx3, hx4⟩ := mth_at (Hx.out.meths.rds.below Hbel.out) hja
                    obtain ⟨b2, o2, rfl, hb2, hy0, hy1, hy2, hy3, hy4⟩ := mth_at (Hy.out.meths.rds.below Hbel.out) hjb
                    have hj1 : (j : Int) < (mm : Int) := by omega
                    have hj2 : (j : Int) < (mm' : Int) := by omega
                    have hj0 : (0 : Int) ≤ (j : Int) := by omega
                    have hx := Lib.hid ((Hx.out.meths.each _ (List.getElem_mem hja)).below Hbel.out)
                    have hy := Lib.hid ((Hy.out.meths.each _ (List.getElem_mem hjb)).below Hbel.out)
                    have He1 := Lib.hid (show (ms.map MthT.pure).take (j + 1) = (ms.map MthT.pure).take j ++ [ms[j].pure] by rw [List.take_succ_eq_append_getElem (by simpa using hja)]; simp)
                    have He2 := Lib.hid (show (ms'.map MthT.pure).take (j + 1) = (ms'.map MthT.pure).take j ++ [ms'[j].pure] by rw [List.take_succ_eq_append_getElem (by simpa using hjb)]; simp)
                    have Hno := Lib.hid (show ms[j].pure ≠ ms'[j].pure → D = false by
                      intro h
                      rw [Hfs.out, decide_eq_false_iff_not]
                      intro h2
                      apply h
                      have h3 : (ms.map MthT.pure)[j]? = (ms'.map MthT.pure)[j]? := by rw [h2]
                      simpa [hja, hjb] using h3)
                    clear hbel
                    generalize ms[j] = x at *
                    generalize ms'[j] = y at *
                    have hsm := fun (W : World) (hb : Below wr.heap.size wr W) => refSameM_any x y W (hx.out.below hb) (hy.out.below hb)
                    by_cases hq : x.pure = y.pure
                    · rw [decide_eq_true hq] at hsm
                      have Hq := Lib.hid (show (ms.map MthT.pure).take (j + 1) = (ms'.map MthT.pure).take (j + 1) by rw [He1.out, He2.out, Hsame.out, hq])
                      have Hsm := Lib.hid hsm
                      clear hq hsm He1 He2 Hno hx hy
                      obtain ⟨x0, x1, x2, x3, x4, x5, x6, x7, x8, x9, x10⟩ := x
                      obtain ⟨y0, y1, y2, y3, y4, y5, y6, y7, y8, y9, y10⟩ := y
                      simp only [MthT.V] at hx0 hx1 hx2 hx3 hx4 hy0 hy1 hy2 hy3 hy4 Hsm
                      have hB0 := Below.refl wr.heap.size wr
                      have hB1 := hB0.drew
                      go_wp2_with fail
                      go_region_held3 (fun w' => w'.cell? ⟨w.heap.size, 4, none⟩ = some (.slice (some ⟨b1, o1, none⟩) mm mc) ∧ w'.cell? ⟨w.heap.size + 1, 4, none⟩ = some (.slice (some ⟨b2, o2, none⟩) mm' mc') ∧ w'.cell? ⟨b1, o1 + j * 5, none⟩ = some (.string ⟨x0.toArray⟩) ∧ w'.cell? ⟨b1, o1 + j * 5 + 1, none⟩ = some (.string ⟨x1.toArray⟩) ∧ w'.cell? ⟨b1, o1 + j * 5 + 2, none⟩ = some (.int .i64 x2) ∧ w'.cell? ⟨b1, o1 + j * 5 + 3, none⟩ = some (.slice x3 x4 x5) ∧ w'.cell? ⟨b1, o1 + j * 5 + 4, none⟩ = some (.slice x6 x7 x8) ∧ w'.cell? ⟨b2, o2 + j * 5, none⟩ = some (.string ⟨y0.toArray⟩) ∧ w'.cell? ⟨b2, o2 + j * 5 + 1, none⟩ = some (.string ⟨y1.toArray⟩) ∧ w'.cell? ⟨b2, o2 + j * 5 + 2, none⟩ = some (.int .i64 y2) ∧ w'.cell? ⟨b2, o2 + j * 5 + 3, none⟩ = some (.slice y3 y4 y5) ∧ w'.cell? ⟨b2, o2 + j * 5 + 4, none⟩ = some (.slice y6 y7 y8))
                        (first | go_keep)
                        (first
                          | (go_at_call 32
                             refine (Hsm.out _ (by assumption)).mono ?_
                             rintro ee wm ⟨rfl, hbm⟩
                             have hBm := Below.trans (B := wr.heap.size) (by assumption) (hbm.mono (Below.size (by assumption)))
                             have hk4 := (H1r.out.after hBm).2.2.2.2
                             have hl4 := (H2r.out.after hBm).2.2.2.2
                             have kx0 := (hBm.cell (p := ⟨b1, o1 + j * 5, none⟩) hb1).trans hx0
                             have kx1 := (hBm.cell (p := ⟨b1, o1 + j * 5 + 1, none⟩) hb1).trans hx1
                             have kx2 := (hBm.cell (p := ⟨b1, o1 + j * 5 + 2, none⟩) hb1).trans hx2
                             have kx3 := (hBm.cell (p := ⟨b1, o1 + j * 5 + 3, none⟩) hb1).trans hx3
                             have kx4 := (hBm.cell (p := ⟨b1, o1 + j * 5 + 4, none⟩) hb1).trans hx4
                             have ky0 := (hBm.cell (p := ⟨b2, o2 + j * 5, none⟩) hb2).trans hy0
                             have ky1 := (hBm.cell (p := ⟨b2, o2 + j * 5 + 1, none⟩) hb2).trans hy1
                             have ky2 := (hBm.cell (p := ⟨b2, o2 + j * 5 + 2, none⟩) hb2).trans hy2
                             have ky3 := (hBm.cell (p := ⟨b2, o2 + j * 5 + 3, none⟩) hb2).trans hy3
                             have ky4 := (hBm.cell (p := ⟨b2, o2 + j * 5 + 4, none⟩) hb2).trans hy4
                             clear hbm))
                      have Hw := Lib.hid (Hbel.out.trans (hBm.mono Hbel.out.size))
                      have Hw3 := Lib.hid (Hbel3.out.trans (hBm.mono Hbel3.out.size))
                      clear hBm hB0 hB1 kx0 kx1 kx2 kx3 kx4 ky0 ky1 ky2 ky3 ky4 hk4 hl4 hx0 hx1 hx2 hx3 hx4 hy0 hy1 hy2 hy3 hy4 hc4 hd4
                      go_wp2_with fail
                      go_roundw
                      case rel => exact ⟨j + 1, by omega, by go_num, Hq.out, Hw3.out⟩
                      case measure => simp [intOf]; omega
                    · rw [decide_eq_false hq] at hsm
                      have Hq := Lib.hid (Hno.out hq)
                      have Hsm := Lib.hid hsm
                      clear hq hsm He1 He2 Hno hx hy
                      obtain ⟨x0, x1, x2, x3, x4, x5, x6, x7, x8, x9, x10⟩ := x
                      obtain ⟨y0, y1, y2, y3, y4, y5, y6, y7, y8, y9, y10⟩ := y
                      simp only [MthT.V] at hx0 hx1 hx2 hx3 hx4 hy0 hy1 hy2 hy3 hy4 Hsm
                      have hB0 := Below.refl wr.heap.size wr
                      have hB1 := hB0.drew
                      go_wp2_with fail
                      go_region_held3 (fun w' => w'.cell? ⟨w.heap.size, 4, none⟩ = some (.slice (some ⟨b1, o1, none⟩) mm mc) ∧ w'.cell? ⟨w.heap.size + 1, 4, none⟩ = some (.slice (some ⟨b2, o2, none⟩) mm' mc') ∧ w'.cell? ⟨b1, o1 + j * 5, none⟩ = some (.string ⟨x0.toArray⟩) ∧ w'.cell? ⟨b1, o1 + j * 5 + 1, none⟩ = some (.string ⟨x1.toArray⟩) ∧ w'.cell? ⟨b1, o1 + j * 5 + 2, none⟩ = some (.int .i64 x2) ∧ w'.cell? ⟨b1, o1 + j * 5 + 3, none⟩ = some (.slice x3 x4 x5) ∧ w'.cell? ⟨b1, o1 + j * 5 + 4, none⟩ = some (.slice x6 x7 x8) ∧ w'.cell? ⟨b2, o2 + j * 5, none⟩ = some (.string ⟨y0.toArray⟩) ∧ w'.cell? ⟨b2, o2 + j * 5 + 1, none⟩ = some (.string ⟨y1.toArray⟩) ∧ w'.cell? ⟨b2, o2 + j * 5 + 2, none⟩ = some (.int .i64 y2) ∧ w'.cell? ⟨b2, o2 + j * 5 + 3, none⟩ = some (.slice y3 y4 y5) ∧ w'.cell? ⟨b2, o2 + j * 5 + 4, none⟩ = some (.slice y6 y7 y8))
                        (first | go_keep)
                        (first
                          | (go_at_call 32
                             refine (Hsm.out _ (by assumption)).mono ?_
                             rintro ee wm ⟨rfl, hbm⟩
                             have hBm := Below.trans (B := wr.heap.size) (by assumption) (hbm.mono (Below.size (by assumption)))
                             have hk4 := (H1r.out.after hBm).2.2.2.2
                             have hl4 := (H2r.out.after hBm).2.2.2.2
                             have kx0 := (hBm.cell (p := ⟨b1, o1 + j * 5, none⟩) hb1).trans hx0
                             have kx1 := (hBm.cell (p := ⟨b1, o1 + j * 5 + 1, none⟩) hb1).trans hx1
                             have kx2 := (hBm.cell (p := ⟨b1, o1 + j * 5 + 2, none⟩) hb1).trans hx2
                             have kx3 := (hBm.cell (p := ⟨b1, o1 + j * 5 + 3, none⟩) hb1).trans hx3
                             have kx4 := (hBm.cell (p := ⟨b1, o1 + j * 5 + 4, none⟩) hb1).trans hx4
                             have ky0 := (hBm.cell (p := ⟨b2, o2 + j * 5, none⟩) hb2).trans hy0
                             have ky1 := (hBm.cell (p := ⟨b2, o2 + j * 5 + 1, none⟩) hb2).trans hy1
                             have ky2 := (hBm.cell (p := ⟨b2, o2 + j * 5 + 2, none⟩) hb2).trans hy2
                             have ky3 := (hBm.cell (p := ⟨b2, o2 + j * 5 + 3, none⟩) hb2).trans hy3
                             have ky4 := (hBm.cell (p := ⟨b2, o2 + j * 5 + 4, none⟩) hb2).trans hy4
                             clear hbm))
                      have Hw := Lib.hid (Hbel.out.trans (hBm.mono Hbel.out.size))
                      clear hBm hB0 hB1 kx0 kx1 kx2 kx3 kx4 ky0 ky1 ky2 ky3 ky4 hk4 hl4 hx0 hx1 hx2 hx3 hx4 hy0 hy1 hy2 hy3 hy4 hc4 hd4
                      go_wp2_with fail
                      go_ret
                      exact ⟨by rw [Hq.out]; rfl, Hw.out⟩
                  · have Hfin := Lib.hid (show D = true by
                      have h := Hsame.out
                      rw [List.take_of_length_le (by simp; omega), List.take_of_length_le (by simp; omega)] at h
                      rw [Hfs.out]; simp [h])
                    go_wp2_with fail
                    go_ret
                    exact ⟨by rw [Hfin.out]; rfl, Hbel.out⟩
          · have hb : ((fm : Int) != (fm' : Int)) = false := by rw [h4]; simp
            have hbm : ((mm : Int) != (mm' : Int)) = true := by simp; omega
            have Hf := Lib.hid (show D = false by
              rw [← hD]
              simp only [ClsT.same, Bool.and_eq_false_iff]
              right
              rw [decide_eq_false_iff_not]
              intro h
              have := congrArg List.length h
              simp at this
              omega)
            clear h3 h4 h5 hD
            go_enter Tryz.func11, Tryz.ntmps11
            go_wp2_with fail
            refine Calls.mono (sameCs_any kA kA' ks ks' km km' kc kc' _ Hx.out.consts.len Hy.out.consts.len (Nat.le_trans Hx.out.consts.le Hx.out.consts.max) (Hx.out.consts.below HB.out).rds (Hy.out.consts.below HB.out).rds) ?_
            rw [hq3]
            rintro e w3 ⟨rfl, hb3⟩
            obtain ⟨hc0, hc1, hc2, hc3, hc4⟩ := H1.out.after hb3
            obtain ⟨hd0, hd1, hd2, hd3, hd4⟩ := H2.out.after hb3
            have Hb3 := Lib.hid (HB.out.trans (hb3.mono HB.out.size))
            clear hb3
            go_wp2_with fail
            go_ret
            exact ⟨by rw [Hf.out]; rfl, Hb3.out⟩
        · have hb : ((fm : Int) != (fm' : Int)) = true := by simp; omega
          have Hf := Lib.hid (show D = false by
            rw [← hD]
            simp only [ClsT.same, Bool.and_eq_false_iff]
            left
            right
            rw [decide_eq_false_iff_not]
            intro h
            have := congrArg List.length h
            omega)
          clear h3 h4 hD
          go_enter Tryz.func11, Tryz.ntmps11
          go_wp2_with fail
          refine Calls.mono (sameCs_any kA kA' ks ks' km km' kc kc' _ Hx.out.consts.len Hy.out.consts.len (Nat.le_trans Hx.out.consts.le Hx.out.consts.max) (Hx.out.consts.below HB.out).rds (Hy.out.consts.below HB.out).rds) ?_
          rw [hq3]
          rintro e w3 ⟨rfl, hb3⟩
          obtain ⟨hc0, hc1, hc2, hc3, hc4⟩ := H1.out.after hb3
          obtain ⟨hd0, hd1, hd2, hd3, hd4⟩ := H2.out.after hb3
          have Hb3 := Lib.hid (HB.out.trans (hb3.mono HB.out.size))
          clear hb3
          go_wp2_with fail
          go_ret
          exact ⟨by rw [Hf.out]; rfl, Hb3.out⟩
      · have hq3 := decide_eq_false h3
        have Hf := Lib.hid (show D = false by rw [← hD]; simp [ClsT.same, h3])
        clear h3 hD
        go_enter Tryz.func11, Tryz.ntmps11
        go_wp2_with fail
        refine Calls.mono (sameCs_any kA kA' ks ks' km km' kc kc' _ Hx.out.consts.len Hy.out.consts.len (Nat.le_trans Hx.out.consts.le Hx.out.consts.max) (Hx.out.consts.below HB.out).rds (Hy.out.consts.below HB.out).rds) ?_
        rw [hq3]
        rintro e w3 ⟨rfl, hb3⟩
        have Hb3 := Lib.hid (HB.out.trans (hb3.mono HB.out.size))
        clear hb3
        go_wp2_with fail
        go_ret
        exact ⟨by rw [Hf.out]; rfl, Hb3.out⟩
    · have Hf := Lib.hid (show D = false by rw [← hD]; simp [ClsT.same, h2])
      have hb : (s != s') = true := by simpa using h2
      clear hD
      go_enter Tryz.func11, Tryz.ntmps11
      go_wp2_with fail
      go_ret
      exact ⟨by rw [Hf.out]; rfl, HB.out⟩
  · have Hf := Lib.hid (show D = false by rw [← hD]; simp [ClsT.same, h1])
    have hb : (n != n') = true := by simpa using h1
    clear hD
    go_enter Tryz.func11, Tryz.ntmps11
    go_wp2_with fail
    go_ret
    exact ⟨by rw [Hf.out]; rfl, HB.out⟩

end Kls
end Go.Proofs.YtiagjnimafdbhaaGreatDoor
