/-
  The document's own Same, of classes: what it returns.
  Classes of which there is but their names: whether they can be, their bytes.
  A class of nothing put and got: klass.Put, part.Open, the reader, klass.Get.
  The bytes of a class of nothing, got: the reader, klass.Get.
  What must come of fixed calls (classes): what the call returns.
-/
import Derived.Test.YthkkcecfenohjaaGreatDoorKlsF
import Derived.Test.YthkkcecfenohjaaGreatDoorPartZ
import Derived.Test.YthkkcecfenohjaaGreatDoorBinNum
import Derived.Lib.SlBytesConst
import Derived.Test.YthkkcecfenohjaaGreatDoorShelf
import Derived.Laws.IdiomStrings
import Derived.Laws.Rows
namespace Go.Proofs.YthkkcecfenohjaaGreatDoor
namespace Kls
open Go.RowKit Base BinM Stru PoolM PoolA PoolJ InsJ

set_option maxRecDepth 100000 in
set_option maxHeartbeats 4000000 in
theorem refSameM_any (x y : MthT) (w : World) (hx : x.is w) (hy : y.is w) :
    Calls Tryz.prog 62 #[x.V, y.V] w fun e w' => e = .returned (.bool (decide (x.pure = y.pure))) ∧ Below w.heap.size w w' := by
  obtain ⟨n, s, lo, cA, cm, cc, hA, hm, hc, cd, hd⟩ := x
  obtain ⟨n', s', lo', cA', cm', cc', hA', hm', hc', cd', hd'⟩ := y
  have Hx := Lib.hid hx
  have Hy := Lib.hid hy
  have hml : hd.length ≤ hm := Nat.le_of_eq hx.hand.len.symm
  have hml2 : hm ≤ hd.length := Nat.le_of_eq hx.hand.len
  have hkl : hd'.length ≤ hm' := Nat.le_of_eq hy.hand.len.symm
  have hkl2 : hm' ≤ hd'.length := Nat.le_of_eq hy.hand.len
  have hmx : hm ≤ maxLen := Nat.le_trans hx.hand.le hx.hand.max
  unfold maxLen at hmx
  clear hx hy
  generalize hD : decide (MthT.pure _ = MthT.pure _) = D
  simp only [MthT.V]
  have HB := Lib.hid (two w (.string ⟨n.toArray⟩) (.string ⟨s.toArray⟩) (.int .i64 lo) (.slice cA cm cc) (.slice hA hm hc) (.string ⟨n'.toArray⟩) (.string ⟨s'.toArray⟩) (.int .i64 lo') (.slice cA' cm' cc') (.slice hA' hm' hc') 62)
  have H1 := Lib.hid (two1 w (.string ⟨n.toArray⟩) (.string ⟨s.toArray⟩) (.int .i64 lo) (.slice cA cm cc) (.slice hA hm hc) (.string ⟨n'.toArray⟩) (.string ⟨s'.toArray⟩) (.int .i64 lo') (.slice cA' cm' cc') (.slice hA' hm' hc') 62)
  have H2 := Lib.hid (two2 w (.string ⟨n.toArray⟩) (.string ⟨s.toArray⟩) (.int .i64 lo) (.slice cA cm cc) (.slice hA hm hc) (.string ⟨n'.toArray⟩) (.string ⟨s'.toArray⟩) (.int .i64 lo') (.slice cA' cm' cc') (.slice hA' hm' hc') 62)
  by_cases h1 : n = n'
  · subst h1
    by_cases h2 : s = s'
    · subst h2
      by_cases h3 : lo = lo'
      · subst h3
        by_cases h4 : cd = cd'
        · have hq := decide_eq_true h4
          by_cases h5 : hm = hm'
          · have Hf := Lib.hid (show D = decide (hd = hd') by rw [← hD]; simp [MthT.pure, h4])
            have hb : ((hm : Int) != (hm' : Int)) = false := by rw [h5]; simp
            have hkm : hm' ≤ hm := by omega
            have hmk' : hm ≤ hm' := by omega
            clear h4 h5 hD
            go_enter Tryz.func62, Tryz.ntmps62
            go_wp2_with fail
            refine Calls.mono (InsJ.same_any cA cA' cd cd' cm cm' cc cc' _ Hx.out.code.len Hy.out.code.len (Nat.le_trans Hx.out.code.le Hx.out.code.max) (Hx.out.code.below HB.out).rds (Hy.out.code.below HB.out).rds) ?_
            rw [hq]
            rintro e w3 ⟨rfl, hb3⟩
            have H13 := Lib.hid (H1.out.after hb3)
            have H23 := Lib.hid (H2.out.after hb3)
            obtain ⟨hc0, hc1, hc2, hc3, hc4⟩ := H13.out
            obtain ⟨hd0, hd1, hd2, hd3, hd4⟩ := H23.out
            have Hb3 := Lib.hid (HB.out.trans (hb3.mono HB.out.size))
            have hs3 := Hb3.out.size
            clear hb3
            go_wp2_with fail
            clear hc0 hc1 hc2 hc3 hc4 hd0 hd1 hd2 hd3 hd4
            go_loopw [5] (fun i wr => ∃ j : Nat, j ≤ hm ∧ i = .int .i64 j ∧ hd.take j = hd'.take j ∧ Below w3.heap.size w3 wr) (fun i _ => hm - (intOf i).toNat)
            case atStart => exact ⟨0, Nat.zero_le _, rfl, rfl, Below.refl _ _⟩
            case round =>
              obtain ⟨j, hj, rfl, hsame, hbel⟩ := hrel
              have Hsame := Lib.hid hsame
              obtain ⟨hc0, hc1, hc2, hc3, hc4⟩ := H13.out.after hbel
              obtain ⟨hd0, hd1, hd2, hd3, hd4⟩ := H23.out.after hbel
              have Hbel := Lib.hid (Hb3.out.trans (hbel.mono hs3))
              have Hbel3 := Lib.hid hbel
              clear hsame
              by_cases hlt : j < hm
              · have hja : j < hd.length := by omega
                have hjb : j < hd'.length := by omega
                obtain ⟨b1, o1, rfl, hb1, hx0, hx1, hx2, hx3⟩ := hnd_at (Hx.out.hand.rds.below Hbel.out) hja
                obtain ⟨b2, o2, rfl, hb2, hy0, hy1, hy2, hy3⟩ := hnd_at (Hy.out.hand.rds.below Hbel.out) hjb
                have e1 : hd.take (j + 1) = hd.take j ++ [hd[j]] := List.take_succ_eq_append_getElem hja
                have e2 : hd'.take (j + 1) = hd'.take j ++ [hd'[j]] := List.take_succ_eq_append_getElem hjb
                have hj1 : (j : Int) < (hm : Int) := by omega
                have hj2 : (j : Int) < (hm' : Int) := by omega
                have hj0 : (0 : Int) ≤ (j : Int) := by omega
                have hg := guard_hnd
                have hne := neq_hnd hd[j].frm hd[j].til hd[j].pos hd[j].cls hd'[j].frm hd'[j].til hd'[j].pos hd'[j].cls
                clear hbel
                cases hxy : hd[j].eqb hd'[j]
                · have Hfin := Lib.hid (show D = false by
                    rw [Hf.out, decide_eq_false_iff_not]
                    intro h
                    have : hd[j] = hd'[j] := by subst h; rfl
                    rw [(HndT.iff _ _).2 this] at hxy
                    cases hxy)
                  replace hne := fun W => (hne W).trans (by rw [show hd[j].eqb hd'[j] = false from hxy]; rfl : _ = Result.ok (.bool true) W)
                  clear e1 e2 hxy
                  generalize hd[j] = x at *
                  generalize hd'[j] = y at *
                  obtain ⟨x0, x1, x2, x3⟩ := x
                  obtain ⟨y0, y1, y2, y3⟩ := y
                  simp only at hx0 hx1 hx2 hx3 hy0 hy1 hy2 hy3 hne
                  go_wp2_with fail
                  go_quiet (fail)
                  go_wp2_with fail
                  go_ret
                  exact ⟨by rw [Hfin.out]; rfl, drawn Hbel.out _⟩
                · have he : hd[j] = hd'[j] := (HndT.iff _ _).1 hxy
                  have Hnext := Lib.hid (show hd.take (j + 1) = hd'.take (j + 1) by rw [e1, e2, Hsame.out, he])
                  replace hne := fun W => (hne W).trans (by rw [show hd[j].eqb hd'[j] = true from hxy]; rfl : _ = Result.ok (.bool false) W)
                  clear e1 e2 hxy he
                  generalize hd[j] = x at *
                  generalize hd'[j] = y at *
                  obtain ⟨x0, x1, x2, x3⟩ := x
                  obtain ⟨y0, y1, y2, y3⟩ := y
                  simp only at hx0 hx1 hx2 hx3 hy0 hy1 hy2 hy3 hne
                  go_wp2_with fail
                  go_quiet (fail)
                  go_wp2_with fail
                  go_roundw
                  case rel => exact ⟨j + 1, by omega, by go_num, Hnext.out, drawn Hbel3.out _⟩
                  case measure => simp [intOf]; omega
              · have Hfin := Lib.hid (show D = true by
                  have h := Hsame.out
                  rw [List.take_of_length_le (by omega), List.take_of_length_le (by omega)] at h
                  rw [Hf.out]; simp [h])
                go_wp2_with fail
                go_ret
                exact ⟨by rw [Hfin.out]; rfl, Hbel.out⟩
          · have hb : ((hm : Int) != (hm' : Int)) = true := by simp; omega
            have Hf := Lib.hid (show D = false by
              rw [← hD, decide_eq_false_iff_not]
              intro h
              have : hd = hd' := congrArg MthP.hand h
              subst this
              omega)
            clear h4 h5 hD
            go_enter Tryz.func62, Tryz.ntmps62
            go_wp2_with fail
            refine Calls.mono (InsJ.same_any cA cA' cd cd' cm cm' cc cc' _ Hx.out.code.len Hy.out.code.len (Nat.le_trans Hx.out.code.le Hx.out.code.max) (Hx.out.code.below HB.out).rds (Hy.out.code.below HB.out).rds) ?_
            rw [hq]
            rintro e w3 ⟨rfl, hb3⟩
            obtain ⟨hc0, hc1, hc2, hc3, hc4⟩ := H1.out.after hb3
            obtain ⟨hd0, hd1, hd2, hd3, hd4⟩ := H2.out.after hb3
            have Hb3 := Lib.hid (HB.out.trans (hb3.mono HB.out.size))
            clear hb3
            go_wp2_with fail
            go_ret
            exact ⟨by rw [Hf.out]; rfl, Hb3.out⟩
        · have Hf := Lib.hid (show D = false by rw [← hD]; simp [MthT.pure, h4])
          have hq : decide (cd = cd') = false := decide_eq_false h4
          clear h4 hD
          go_enter Tryz.func62, Tryz.ntmps62
          go_wp2_with fail
          refine Calls.mono (InsJ.same_any cA cA' cd cd' cm cm' cc cc' _ Hx.out.code.len Hy.out.code.len (Nat.le_trans Hx.out.code.le Hx.out.code.max) (Hx.out.code.below HB.out).rds (Hy.out.code.below HB.out).rds) ?_
          rw [hq]
          rintro e w3 ⟨rfl, hb3⟩
          have Hb3 := Lib.hid (HB.out.trans (hb3.mono HB.out.size))
          clear hb3
          go_wp2_with fail
          go_ret
          exact ⟨by rw [Hf.out]; rfl, Hb3.out⟩
      · have Hf := Lib.hid (show D = false by rw [← hD]; simp [MthT.pure, h3])
        have hb : (lo != lo') = true := by simpa using h3
        clear hD
        go_enter Tryz.func62, Tryz.ntmps62
        go_wp2_with fail
        go_ret
        exact ⟨by rw [Hf.out]; rfl, HB.out⟩
    · have Hf := Lib.hid (show D = false by rw [← hD]; simp [MthT.pure, h2])
      have hb : (s != s') = true := by simpa using h2
      clear hD
      go_enter Tryz.func62, Tryz.ntmps62
      go_wp2_with fail
      go_ret
      exact ⟨by rw [Hf.out]; rfl, HB.out⟩
  · have Hf := Lib.hid (show D = false by rw [← hD]; simp [MthT.pure, h1])
    have hb : (n != n') = true := by simpa using h1
    clear hD
    go_enter Tryz.func62, Tryz.ntmps62
    go_wp2_with fail
    go_ret
    exact ⟨by rw [Hf.out]; rfl, HB.out⟩

set_option maxRecDepth 100000 in
set_option maxHeartbeats 8000000 in
theorem refSame_any (x y : ClsT) (w : World) (hx : x.is w) (hy : y.is w) :
    Calls Tryz.prog 22 #[x.V, y.V] w fun e w' => e = .returned (.bool (x.same y)) ∧ Below w.heap.size w w' := by
  obtain ⟨n, s, kA, km, kc, fA, fm, fc, mA, mm, mc, ks, fs, ms⟩ := x
  obtain ⟨n', s', kA', km', kc', fA', fm', fc', mA', mm', mc', ks', fs', ms'⟩ := y
  have Hx := Lib.hid hx
  have Hy := Lib.hid hy
  have hfl : fs.length ≤ fm := Nat.le_of_eq hx.fields.len.symm
  have hfl2 : fm ≤ fs.length := Nat.le_of_eq hx.fields.len
  have hfl' : fs'.length ≤ fm' := Nat.le_of_eq hy.fields.len.symm
  have hfl2' : fm' ≤ fs'.length := Nat.le_of_eq hy.fields.len
  have hfx : fm ≤ maxLen := Nat.le_trans hx.fields.le hx.fields.max
  have hml : ms.length ≤ mm := Nat.le_of_eq hx.meths.len.symm
  have hml2 : mm ≤ ms.length := Nat.le_of_eq hx.meths.len
  have hml' : ms'.length ≤ mm' := Nat.le_of_eq hy.meths.len.symm
  have hml2' : mm' ≤ ms'.length := Nat.le_of_eq hy.meths.len
  have hmx : mm ≤ maxLen := Nat.le_trans hx.meths.le hx.meths.max
  unfold maxLen at hmx hfx
  clear hx hy
  generalize hD : ClsT.same _ _ = D
  simp only [ClsT.V]
  have HB := Lib.hid (two w (.string ⟨n.toArray⟩) (.string ⟨s.toArray⟩) (.slice kA km kc) (.slice fA fm fc) (.slice mA mm mc) (.string ⟨n'.toArray⟩) (.string ⟨s'.toArray⟩) (.slice kA' km' kc') (.slice fA' fm' fc') (.slice mA' mm' mc') 26)
  have H1 := Lib.hid (two1 w (.string ⟨n.toArray⟩) (.string ⟨s.toArray⟩) (.slice kA km kc) (.slice fA fm fc) (.slice mA mm mc) (.string ⟨n'.toArray⟩) (.string ⟨s'.toArray⟩) (.slice kA' km' kc') (.slice fA' fm' fc') (.slice mA' mm' mc') 26)
  have H2 := Lib.hid (two2 w (.string ⟨n.toArray⟩) (.string ⟨s.toArray⟩) (.slice kA km kc) (.slice fA fm fc) (.slice mA mm mc) (.string ⟨n'.toArray⟩) (.string ⟨s'.toArray⟩) (.slice kA' km' kc') (.slice fA' fm' fc') (.slice mA' mm' mc') 26)
  by_cases h1 : n = n'
  · subst h1
    by_cases h2 : s = s'
    · subst h2
      by_cases h3 : ks = ks'
      · have hq3 := decide_eq_true h3
        by_cases h4 : fm = fm'
        · by_cases h5 : mm = mm'
          · have Hf := Lib.hid (show D = (decide (fs = fs') && decide (ms.map MthT.pure = ms'.map MthT.pure)) by rw [← hD]; simp [ClsT.same, h3])
            have hb : ((fm : Int) != (fm' : Int)) = false := by rw [h4]; simp
            have hbm : ((mm : Int) != (mm' : Int)) = false := by rw [h5]; simp
            have hfe : fm ≤ fm' := by omega
            have hfe' : fm' ≤ fm := by omega
            have hme : mm ≤ mm' := by omega
            have hme' : mm' ≤ mm := by omega
            clear h3 h4 h5 hD
            go_enter Tryz.func22, Tryz.ntmps22
            go_wp2_with fail
            refine Calls.mono (sameCs_any kA kA' ks ks' km km' kc kc' _ Hx.out.consts.len Hy.out.consts.len (Nat.le_trans Hx.out.consts.le Hx.out.consts.max) (Hx.out.consts.below HB.out).rds (Hy.out.consts.below HB.out).rds) ?_
            rw [hq3]
            rintro e w3 ⟨rfl, hb3⟩
            have H13 := Lib.hid (H1.out.after hb3)
            have H23 := Lib.hid (H2.out.after hb3)
            obtain ⟨hc0, hc1, hc2, hc3, hc4⟩ := H13.out
            obtain ⟨hd0, hd1, hd2, hd3, hd4⟩ := H23.out
            have Hb3 := Lib.hid (HB.out.trans (hb3.mono HB.out.size))
            have hs3 := Hb3.out.size
            clear hb3
            go_wp2_with fail
            clear hc0 hc1 hc2 hc3 hc4 hd0 hd1 hd2 hd3 hd4
            go_loopw [5] (fun i wr => ∃ j : Nat, j ≤ fm ∧ i = .int .i64 j ∧ fs.take j = fs'.take j ∧ Below w3.heap.size w3 wr) (fun i _ => fm - (intOf i).toNat)
            case atStart => exact ⟨0, Nat.zero_le _, rfl, rfl, Below.refl _ _⟩
            case round =>
              obtain ⟨j, hj, rfl, hsame, hbel⟩ := hrel
              have Hsame := Lib.hid hsame
              obtain ⟨hc0, hc1, hc2, hc3, hc4⟩ := H13.out.after hbel
              obtain ⟨hd0, hd1, hd2, hd3, hd4⟩ := H23.out.after hbel
              have Hbel := Lib.hid (Hb3.out.trans (hbel.mono hs3))
              have Hbel3 := Lib.hid hbel
              clear hsame
              by_cases hlt : j < fm
              · have hja : j < fs.length := by omega
                have hjb : j < fs'.length := by omega
                obtain ⟨b1, o1, rfl, hb1, hx0, hx1⟩ := fld_at (Hx.out.fields.rds.below Hbel.out) hja
                obtain ⟨b2, o2, rfl, hb2, hy0, hy1⟩ := fld_at (Hy.out.fields.rds.below Hbel.out) hjb
                have e1 : fs.take (j + 1) = fs.take j ++ [fs[j]] := List.take_succ_eq_append_getElem hja
                have e2 : fs'.take (j + 1) = fs'.take j ++ [fs'[j]] := List.take_succ_eq_append_getElem hjb
                have hj1 : (j : Int) < (fm : Int) := by omega
                have hj2 : (j : Int) < (fm' : Int) := by omega
                have hj0 : (0 : Int) ≤ (j : Int) := by omega
                have hg := guard_fld
                have hne := neq_fld fs[j].name fs[j].desc fs'[j].name fs'[j].desc
                clear hbel
                cases hxy : fs[j].eqb fs'[j]
                · have Hfin := Lib.hid (show D = false by
                    rw [Hf.out, Bool.and_eq_false_iff]
                    left
                    rw [decide_eq_false_iff_not]
                    intro h
                    have : fs[j] = fs'[j] := by subst h; rfl
                    rw [(FldT.iff _ _).2 this] at hxy
                    cases hxy)
                  replace hne := fun W => (hne W).trans (by rw [show fs[j].eqb fs'[j] = false from hxy]; rfl : _ = Result.ok (.bool true) W)
                  clear e1 e2 hxy
                  generalize fs[j] = x at *
                  generalize fs'[j] = y at *
                  obtain ⟨x0, x1⟩ := x
                  obtain ⟨y0, y1⟩ := y
                  simp only at hx0 hx1 hy0 hy1 hne
                  go_wp2_with fail
                  go_quiet (fail)
                  go_wp2_with fail
                  go_ret
                  exact ⟨by rw [Hfin.out]; rfl, drawn Hbel.out _⟩
                · have he : fs[j] = fs'[j] := (FldT.iff _ _).1 hxy
                  have Hnext := Lib.hid (show fs.take (j + 1) = fs'.take (j + 1) by rw [e1, e2, Hsame.out, he])
                  replace hne := fun W => (hne W).trans (by rw [show fs[j].eqb fs'[j] = true from hxy]; rfl : _ = Result.ok (.bool false) W)
                  clear e1 e2 hxy he
                  generalize fs[j] = x at *
                  generalize fs'[j] = y at *
                  obtain ⟨x0, x1⟩ := x
                  obtain ⟨y0, y1⟩ := y
                  simp only at hx0 hx1 hy0 hy1 hne
                  go_wp2_with fail
                  go_quiet (fail)
                  go_wp2_with fail
                  go_roundw
                  case rel => exact ⟨j + 1, by omega, by go_num, Hnext.out, drawn Hbel3.out _⟩
                  case measure => simp [intOf]; omega
              · have Hfs := Lib.hid (show D = decide (ms.map MthT.pure = ms'.map MthT.pure) by
                  have h := Hsame.out
                  rw [List.take_of_length_le (by omega), List.take_of_length_le (by omega)] at h
                  rw [Hf.out, h]; simp)
                go_wp2_with fail
                clear hc0 hc1 hc2 hc3 hc4 hd0 hd1 hd2 hd3 hd4
                go_loopw [6] (fun i wr => ∃ j : Nat, j ≤ mm ∧ i = .int .i64 j ∧ (ms.map MthT.pure).take j = (ms'.map MthT.pure).take j ∧ Below w3.heap.size w3 wr) (fun i _ => mm - (intOf i).toNat)
                case atStart => exact ⟨0, Nat.zero_le _, rfl, rfl, Hbel3.out⟩
                case round =>
                  clear Hbel Hbel3 hbel Hsame Hf hlt hj
                  obtain ⟨j, hj, rfl, hsame, hbel⟩ := hrel
                  have Hsame := Lib.hid hsame
                  have H1r := Lib.hid (H13.out.after hbel)
                  have H2r := Lib.hid (H23.out.after hbel)
                  have hc4 := H1r.out.2.2.2.2
                  have hd4 := H2r.out.2.2.2.2
                  have Hbel := Lib.hid (Hb3.out.trans (hbel.mono hs3))
                  have Hbel3 := Lib.hid hbel
                  clear hsame
                  by_cases hlt : j < mm
                  · have hja : j < ms.length := by omega
                    have hjb : j < ms'.length := by omega
                    obtain ⟨b1, o1, rfl, hb1, hx0, hx1, hx2, hx3, hx4⟩ := mth_at (Hx.out.meths.rds.below Hbel.out) hja
                    obtain ⟨b2, o2, rfl, hb2, hy0, hy1, hy2, hy3, hy4⟩ := mth_at (Hy.out.meths.rds.below Hbel.out) hjb
                    have hj1 : (j : Int) < (mm : Int) := by omega
                    have hj2 : (j : Int) < (mm' : Int) := by omega
                    have hj0 : (0 : Int) ≤ (j : Int) := by omega
                    have hx := Lib.hid ((Hx.out.meths.each _ (List.getElem_mem hja)).below Hbel.out)
                    have hy := Lib.hid ((Hy.out.meths.each _ (List.getElem_mem hjb)).below Hbel.out)
                    have He1 := Lib.hid (show (ms.map MthT.pure).take (j + 1) = (ms.map MthT.pure).take j ++ [ms[j].pure] by rw [List.take_succ_eq_append_getElem (by simpa using hja)]; simp)
                    have He2 := Lib.hid (show (ms'.map MthT.pure).take (j + 1) = (ms'.map MthT.pure).take j ++ [ms'[j].pure] by rw [List.take_succ_eq_append_getElem (by simpa using hjb)]; simp)
                    have Hno := Lib.hid (show ms[j].pure ≠ ms'[j].pure → D = false by
                      intro h
                      rw [Hfs.out, decide_eq_false_iff_not]
                      intro h2
                      apply h
                      have h3 : (ms.map MthT.pure)[j]? = (ms'.map MthT.pure)[j]? := by rw [h2]
                      simpa [hja, hjb] using h3)
                    clear hbel
                    generalize ms[j] = x at *
                    generalize ms'[j] = y at *
                    have hsm := fun (W : World) (hb : Below wr.heap.size wr W) => refSameM_any x y W (hx.out.below hb) (hy.out.below hb)
                    by_cases hq : x.pure = y.pure
                    · rw [decide_eq_true hq] at hsm
                      have Hq := Lib.hid (show (ms.map MthT.pure).take (j + 1) = (ms'.map MthT.pure).take (j + 1) by rw [He1.out, He2.out, Hsame.out, hq])
                      have Hsm := Lib.hid hsm
                      clear hq hsm He1 He2 Hno hx hy
                      obtain ⟨x0, x1, x2, x3, x4, x5, x6, x7, x8, x9, x10⟩ := x
                      obtain ⟨y0, y1, y2, y3, y4, y5, y6, y7, y8, y9, y10⟩ := y
                      simp only [MthT.V] at hx0 hx1 hx2 hx3 hx4 hy0 hy1 hy2 hy3 hy4 Hsm
                      have hB0 := Below.refl wr.heap.size wr
                      have hB1 := hB0.drew
                      go_wp2_with fail
                      go_region_held3 (fun w' => w'.cell? ⟨w.heap.size, 4, none⟩ = some (.slice (some ⟨b1, o1, none⟩) mm mc) ∧ w'.cell? ⟨w.heap.size + 1, 4, none⟩ = some (.slice (some ⟨b2, o2, none⟩) mm' mc') ∧ w'.cell? ⟨b1, o1 + j * 5, none⟩ = some (.string ⟨x0.toArray⟩) ∧ w'.cell? ⟨b1, o1 + j * 5 + 1, none⟩ = some (.string ⟨x1.toArray⟩) ∧ w'.cell? ⟨b1, o1 + j * 5 + 2, none⟩ = some (.int .i64 x2) ∧ w'.cell? ⟨b1, o1 + j * 5 + 3, none⟩ = some (.slice x3 x4 x5) ∧ w'.cell? ⟨b1, o1 + j * 5 + 4, none⟩ = some (.slice x6 x7 x8) ∧ w'.cell? ⟨b2, o2 + j * 5, none⟩ = some (.string ⟨y0.toArray⟩) ∧ w'.cell? ⟨b2, o2 + j * 5 + 1, none⟩ = some (.string ⟨y1.toArray⟩) ∧ w'.cell? ⟨b2, o2 + j * 5 + 2, none⟩ = some (.int .i64 y2) ∧ w'.cell? ⟨b2, o2 + j * 5 + 3, none⟩ = some (.slice y3 y4 y5) ∧ w'.cell? ⟨b2, o2 + j * 5 + 4, none⟩ = some (.slice y6 y7 y8))
                        (first | go_keep)
                        (first
                          | (go_at_call 62
                             refine (Hsm.out _ (by assumption)).mono ?_
                             rintro ee wm ⟨rfl, hbm⟩
                             have hBm := Below.trans (B := wr.heap.size) (by assumption) (hbm.mono (Below.size (by assumption)))
                             have hk4 := (H1r.out.after hBm).2.2.2.2
                             have hl4 := (H2r.out.after hBm).2.2.2.2
                             have kx0 := (hBm.cell (p := ⟨b1, o1 + j * 5, none⟩) hb1).trans hx0
                             have kx1 := (hBm.cell (p := ⟨b1, o1 + j * 5 + 1, none⟩) hb1).trans hx1
                             have kx2 := (hBm.cell (p := ⟨b1, o1 + j * 5 + 2, none⟩) hb1).trans hx2
                             have kx3 := (hBm.cell (p := ⟨b1, o1 + j * 5 + 3, none⟩) hb1).trans hx3
                             have kx4 := (hBm.cell (p := ⟨b1, o1 + j * 5 + 4, none⟩) hb1).trans hx4
                             have ky0 := (hBm.cell (p := ⟨b2, o2 + j * 5, none⟩) hb2).trans hy0
                             have ky1 := (hBm.cell (p := ⟨b2, o2 + j * 5 + 1, none⟩) hb2).trans hy1
                             have ky2 := (hBm.cell (p := ⟨b2, o2 + j * 5 + 2, none⟩) hb2).trans hy2
                             have ky3 := (hBm.cell (p := ⟨b2, o2 + j * 5 + 3, none⟩) hb2).trans hy3
                             have ky4 := (hBm.cell (p := ⟨b2, o2 + j * 5 + 4, none⟩) hb2).trans hy4
                             clear hbm))
                      have Hw := Lib.hid (Hbel.out.trans (hBm.mono Hbel.out.size))
                      have Hw3 := Lib.hid (Hbel3.out.trans (hBm.mono Hbel3.out.size))
                      clear hBm hB0 hB1 kx0 kx1 kx2 kx3 kx4 ky0 ky1 ky2 ky3 ky4 hk4 hl4 hx0 hx1 hx2 hx3 hx4 hy0 hy1 hy2 hy3 hy4 hc4 hd4
                      go_wp2_with fail
                      go_roundw
                      case rel => exact ⟨j + 1, by omega, by go_num, Hq.out, Hw3.out⟩
                      case measure => simp [intOf]; omega
                    · rw [decide_eq_false hq] at hsm
                      have Hq := Lib.hid (Hno.out hq)
                      have Hsm := Lib.hid hsm
                      clear hq hsm He1 He2 Hno hx hy
                      obtain ⟨x0, x1, x2, x3, x4, x5, x6, x7, x8, x9, x10⟩ := x
                      obtain ⟨y0, y1, y2, y3, y4, y5, y6, y7, y8, y9, y10⟩ := y
                      simp only [MthT.V] at hx0 hx1 hx2 hx3 hx4 hy0 hy1 hy2 hy3 hy4 Hsm
                      have hB0 := Below.refl wr.heap.size wr
                      have hB1 := hB0.drew
                      go_wp2_with fail
                      go_region_held3 (fun w' => w'.cell? ⟨w.heap.size, 4, none⟩ = some (.slice (some ⟨b1, o1, none⟩) mm mc) ∧ w'.cell? ⟨w.heap.size + 1, 4, none⟩ = some (.slice (some ⟨b2, o2, none⟩) mm' mc') ∧ w'.cell? ⟨b1, o1 + j * 5, none⟩ = some (.string ⟨x0.toArray⟩) ∧ w'.cell? ⟨b1, o1 + j * 5 + 1, none⟩ = some (.string ⟨x1.toArray⟩) ∧ w'.cell? ⟨b1, o1 + j * 5 + 2, none⟩ = some (.int .i64 x2) ∧ w'.cell? ⟨b1, o1 + j * 5 + 3, none⟩ = some (.slice x3 x4 x5) ∧ w'.cell? ⟨b1, o1 + j * 5 + 4, none⟩ = some (.slice x6 x7 x8) ∧ w'.cell? ⟨b2, o2 + j * 5, none⟩ = some (.string ⟨y0.toArray⟩) ∧ w'.cell? ⟨b2, o2 + j * 5 + 1, none⟩ = some (.string ⟨y1.toArray⟩) ∧ w'.cell? ⟨b2, o2 + j * 5 + 2, none⟩ = some (.int .i64 y2) ∧ w'.cell? ⟨b2, o2 + j * 5 + 3, none⟩ = some (.slice y3 y4 y5) ∧ w'.cell? ⟨b2, o2 + j * 5 + 4, none⟩ = some (.slice y6 y7 y8))
                        (first | go_keep)
                        (first
                          | (go_at_call 62
                             refine (Hsm.out _ (by assumption)).mono ?_
                             rintro ee wm ⟨rfl, hbm⟩
                             have hBm := Below.trans (B := wr.heap.size) (by assumption) (hbm.mono (Below.size (by assumption)))
                             have hk4 := (H1r.out.after hBm).2.2.2.2
                             have hl4 := (H2r.out.after hBm).2.2.2.2
                             have kx0 := (hBm.cell (p := ⟨b1, o1 + j * 5, none⟩) hb1).trans hx0
                             have kx1 := (hBm.cell (p := ⟨b1, o1 + j * 5 + 1, none⟩) hb1).trans hx1
                             have kx2 := (hBm.cell (p := ⟨b1, o1 + j * 5 + 2, none⟩) hb1).trans hx2
                             have kx3 := (hBm.cell (p := ⟨b1, o1 + j * 5 + 3, none⟩) hb1).trans hx3
                             have kx4 := (hBm.cell (p := ⟨b1, o1 + j * 5 + 4, none⟩) hb1).trans hx4
                             have ky0 := (hBm.cell (p := ⟨b2, o2 + j * 5, none⟩) hb2).trans hy0
                             have ky1 := (hBm.cell (p := ⟨b2, o2 + j * 5 + 1, none⟩) hb2).trans hy1
                             have ky2 := (hBm.cell (p := ⟨b2, o2 + j * 5 + 2, none⟩) hb2).trans hy2
                             have ky3 := (hBm.cell (p := ⟨b2, o2 + j * 5 + 3, none⟩) hb2).trans hy3
                             have ky4 := (hBm.cell (p := ⟨b2, o2 + j * 5 + 4, none⟩) hb2).trans hy4
                             clear hbm))
                      have Hw := Lib.hid (Hbel.out.trans (hBm.mono Hbel.out.size))
                      clear hBm hB0 hB1 kx0 kx1 kx2 kx3 kx4 ky0 ky1 ky2 ky3 ky4 hk4 hl4 hx0 hx1 hx2 hx3 hx4 hy0 hy1 hy2 hy3 hy4 hc4 hd4
                      go_wp2_with fail
                      go_ret
                      exact ⟨by rw [Hq.out]; rfl, Hw.out⟩
                  · have Hfin := Lib.hid (show D = true by
                      have h := Hsame.out
                      rw [List.take_of_length_le (by simp; omega), List.take_of_length_le (by simp; omega)] at h
                      rw [Hfs.out]; simp [h])
                    go_wp2_with fail
                    go_ret
                    exact ⟨by rw [Hfin.out]; rfl, Hbel.out⟩
          · have hb : ((fm : Int) != (fm' : Int)) = false := by rw [h4]; simp
            have hbm : ((mm : Int) != (mm' : Int)) = true := by simp; omega
            have Hf := Lib.hid (show D = false by
              rw [← hD]
              simp only [ClsT.same, Bool.and_eq_false_iff]
              right
              rw [decide_eq_false_iff_not]
              intro h
              have := congrArg List.length h
              simp at this
              omega)
            clear h3 h4 h5 hD
            go_enter Tryz.func22, Tryz.ntmps22
            go_wp2_with fail
            refine Calls.mono (sameCs_any kA kA' ks ks' km km' kc kc' _ Hx.out.consts.len Hy.out.consts.len (Nat.le_trans Hx.out.consts.le Hx.out.consts.max) (Hx.out.consts.below HB.out).rds (Hy.out.consts.below HB.out).rds) ?_
            rw [hq3]
            rintro e w3 ⟨rfl, hb3⟩
            obtain ⟨hc0, hc1, hc2, hc3, hc4⟩ := H1.out.after hb3
            obtain ⟨hd0, hd1, hd2, hd3, hd4⟩ := H2.out.after hb3
            have Hb3 := Lib.hid (HB.out.trans (hb3.mono HB.out.size))
            clear hb3
            go_wp2_with fail
            go_ret
            exact ⟨by rw [Hf.out]; rfl, Hb3.out⟩
        · have hb : ((fm : Int) != (fm' : Int)) = true := by simp; omega
          have Hf := Lib.hid (show D = false by
            rw [← hD]
            simp only [ClsT.same, Bool.and_eq_false_iff]
            left
            right
            rw [decide_eq_false_iff_not]
            intro h
            have := congrArg List.length h
            omega)
          clear h3 h4 hD
          go_enter Tryz.func22, Tryz.ntmps22
          go_wp2_with fail
          refine Calls.mono (sameCs_any kA kA' ks ks' km km' kc kc' _ Hx.out.consts.len Hy.out.consts.len (Nat.le_trans Hx.out.consts.le Hx.out.consts.max) (Hx.out.consts.below HB.out).rds (Hy.out.consts.below HB.out).rds) ?_
          rw [hq3]
          rintro e w3 ⟨rfl, hb3⟩
          obtain ⟨hc0, hc1, hc2, hc3, hc4⟩ := H1.out.after hb3
          obtain ⟨hd0, hd1, hd2, hd3, hd4⟩ := H2.out.after hb3
          have Hb3 := Lib.hid (HB.out.trans (hb3.mono HB.out.size))
          clear hb3
          go_wp2_with fail
          go_ret
          exact ⟨by rw [Hf.out]; rfl, Hb3.out⟩
      · have hq3 := decide_eq_false h3
        have Hf := Lib.hid (show D = false by rw [← hD]; simp [ClsT.same, h3])
        clear h3 hD
        go_enter Tryz.func22, Tryz.ntmps22
        go_wp2_with fail
        refine Calls.mono (sameCs_any kA kA' ks ks' km km' kc kc' _ Hx.out.consts.len Hy.out.consts.len (Nat.le_trans Hx.out.consts.le Hx.out.consts.max) (Hx.out.consts.below HB.out).rds (Hy.out.consts.below HB.out).rds) ?_
        rw [hq3]
        rintro e w3 ⟨rfl, hb3⟩
        have Hb3 := Lib.hid (HB.out.trans (hb3.mono HB.out.size))
        clear hb3
        go_wp2_with fail
        go_ret
        exact ⟨by rw [Hf.out]; rfl, Hb3.out⟩
    · have Hf := Lib.hid (show D = false by rw [← hD]; simp [ClsT.same, h2])
      have hb : (s != s') = true := by simpa using h2
      clear hD
      go_enter Tryz.func22, Tryz.ntmps22
      go_wp2_with fail
      go_ret
      exact ⟨by rw [Hf.out]; rfl, HB.out⟩
  · have Hf := Lib.hid (show D = false by rw [← hD]; simp [ClsT.same, h1])
    have hb : (n != n') = true := by simpa using h1
    clear hD
    go_enter Tryz.func22, Tryz.ntmps22
    go_wp2_with fail
    go_ret
    exact ⟨by rw [Hf.out]; rfl, HB.out⟩

end Kls
end Go.Proofs.YthkkcecfenohjaaGreatDoor

namespace Go.Proofs.YthkkcecfenohjaaGreatDoor
namespace KlsK
open Go.RowKit Base BinM BinE BinGet BinText BinPut Bin8 Part Kls

/-- a class that has but names -/
def nilV (n s : List UInt8) : Value := .agg #[.string ⟨n.toArray⟩, .string ⟨s.toArray⟩, .slice none 0 0, .slice none 0 0, .slice none 0 0]

set_option maxRecDepth 100000 in
set_option maxHeartbeats 1000000 in
theorem rightFields_nil (n s : List UInt8) (w : World) : Calls Tryz.prog 43 #[nilV n s] w fun e w' => e = .returned (.int .i64 0) ∧ Below w.heap.size w w' := by
  have H1 := Lib.hid (Box5.new w (.string ⟨n.toArray⟩) (.string ⟨s.toArray⟩) (.slice none 0 0) (.slice none 0 0) (.slice none 0 0) 26)
  have HB := Lib.hid ((Below.refl w.heap.size w).alloc (Nat.le_refl _) (.cells #[.string ⟨n.toArray⟩, .string ⟨s.toArray⟩, .slice none 0 0, .slice none 0 0, .slice none 0 0] 26))
  unfold nilV
  go_enter Tryz.func43, Tryz.ntmps43
  go_wp2_with fail
  go_loopw [12] (fun i wr => i = .int .i64 0 ∧ wr = (w.alloc (.cells #[.string ⟨n.toArray⟩, .string ⟨s.toArray⟩, .slice none 0 0, .slice none 0 0, .slice none 0 0] 26))) (fun _ _ => 0)
  case atStart => exact ⟨rfl, rfl⟩
  case round =>
    obtain ⟨rfl, rfl⟩ := hrel
    go_wp2_with fail
    go_ret
    exact ⟨rfl, HB.out⟩

set_option maxRecDepth 100000 in
set_option maxHeartbeats 1000000 in
theorem rightMethods_nil (n s : List UInt8) (w : World) : Calls Tryz.prog 44 #[nilV n s] w fun e w' => e = .returned (.int .i64 0) ∧ Below w.heap.size w w' := by
  have HB := Lib.hid ((Below.refl w.heap.size w).alloc (Nat.le_refl _) (.cells #[.string ⟨n.toArray⟩, .string ⟨s.toArray⟩, .slice none 0 0, .slice none 0 0, .slice none 0 0] 26))
  unfold nilV
  go_enter Tryz.func44, Tryz.ntmps44
  go_wp2_with fail
  go_loopw [16] (fun i wr => i = .int .i64 0 ∧ wr = (w.alloc (.cells #[.string ⟨n.toArray⟩, .string ⟨s.toArray⟩, .slice none 0 0, .slice none 0 0, .slice none 0 0] 26))) (fun _ _ => 0)
  case atStart => exact ⟨rfl, rfl⟩
  case round =>
    obtain ⟨rfl, rfl⟩ := hrel
    go_wp2_with fail
    go_ret
    exact ⟨rfl, HB.out⟩

set_option maxRecDepth 100000 in
set_option maxHeartbeats 1000000 in
theorem right_nil (n s : List UInt8) (w : World) (hn : nameB n = true) (hs : nameB s = true) (hnl : n.length ≤ 100) (hsl : s.length ≤ 100) :
    Calls Tryz.prog 13 #[nilV n s] w fun e w' => e = .returned (.int .i64 0) ∧ Below w.heap.size w w' := by
  have H1 := Lib.hid (Box5.new w (.string ⟨n.toArray⟩) (.string ⟨s.toArray⟩) (.slice none 0 0) (.slice none 0 0) (.slice none 0 0) 26)
  have HB := Lib.hid ((Below.refl w.heap.size w).alloc (Nat.le_refl _) (.cells #[.string ⟨n.toArray⟩, .string ⟨s.toArray⟩, .slice none 0 0, .slice none 0 0, .slice none 0 0] 26))
  have h1 := fun W => BinName.name_any ⟨n.toArray⟩ W (by simp [maxLen, ByteArray.size]; omega)
  have h2 := fun W => BinName.name_any ⟨s.toArray⟩ W (by simp [maxLen, ByteArray.size]; omega)
  simp only at h1 h2
  rw [hn] at h1
  rw [hs] at h2
  have Hn := Lib.hid h1
  have Hs := Lib.hid h2
  clear h1 h2 hn hs
  unfold nilV
  go_enter Tryz.func13, Tryz.ntmps13
  go_wp2_with fail
  refine Calls.mono (Hn.out _) ?_
  rintro e w1 ⟨rfl, rfl⟩
  go_wp2_with fail
  refine Calls.mono (Hs.out _) ?_
  rintro e w1 ⟨rfl, rfl⟩
  go_wp2_with fail
  refine Calls.mono (putAll_nil none [] 0 0 0 _ rfl (by omega) (.inl rfl)) ?_
  rintro e w1 ⟨v1, rfl, -, hb1⟩
  obtain ⟨hc0, hc1, hc2, hc3, hc4⟩ := H1.out.after hb1
  have B1 := Lib.hid (HB.out.trans (hb1.mono HB.out.size))
  have H2 := Lib.hid (H1.out.after hb1)
  clear hb1
  go_wp2_with fail
  refine Calls.mono (rightFields_nil n s w1) ?_
  rintro e w2 ⟨rfl, hb2⟩
  clear hc0 hc1 hc2 hc3 hc4
  obtain ⟨hc0, hc1, hc2, hc3, hc4⟩ := H2.out.after hb2
  have B2 := Lib.hid (B1.out.trans (hb2.mono B1.out.size))
  clear hb2
  go_wp2_with fail
  refine Calls.mono (rightMethods_nil n s w2) ?_
  rintro e w3 ⟨rfl, hb3⟩
  have B3 := Lib.hid (B2.out.trans (hb3.mono B2.out.size))
  clear hb3
  go_wp2_with fail
  go_ret
  exact ⟨rfl, B3.out⟩

set_option maxRecDepth 100000 in
set_option maxHeartbeats 1000000 in
theorem right_none (w : World) : Calls Tryz.prog 13 #[nilV [] []] w fun e w' => e = .returned (.int .i64 7) ∧ Below w.heap.size w w' := by
  have HB := Lib.hid ((Below.refl w.heap.size w).alloc (Nat.le_refl _) (.cells #[.string ⟨#[]⟩, .string ⟨#[]⟩, .slice none 0 0, .slice none 0 0, .slice none 0 0] 26))
  have h1 := fun W => BinName.name_any ⟨#[]⟩ W (by simp [maxLen, ByteArray.size])
  have Hn := Lib.hid h1
  clear h1
  unfold nilV
  go_enter Tryz.func13, Tryz.ntmps13
  go_wp2_with fail
  refine Calls.mono (Hn.out _) ?_
  rw [show nameB (ByteArray.mk #[]).data.toList = false from by decide]
  rintro e w1 ⟨rfl, rfl⟩
  go_wp2_with fail
  go_ret
  exact ⟨rfl, HB.out⟩

/-- bytes of a constant text, turned: the block bears the mark -/
theorem conv_lit (W : World) (C : Array Value) (n c : Nat) :
    (convert 33 33 (.slice (some ⟨W.heap.size, 0, none⟩) n c)).run Tryz.prog ((W.alloc (.cells C 5)).drew) = .ok (.slice (some ⟨W.heap.size, 0, none⟩) n c) ((W.alloc (.cells C 5 (C.size, C.size + 1))).drew) :=
  Lib.run_convert_bytes_const (P := Tryz.prog) W.drew 33 5 C n c Tryz.underlying33 Tryz.underlying5
theorem rds_lit (W : World) (l : List UInt8) (fr : Nat × Nat) : Rds (W.alloc (.cells (cells8 l).toArray 5 fr)) (some ⟨W.heap.size, 0, none⟩) (cells8 l) := by
  refine .inr ⟨W.heap.size, 0, rfl, by simp, fun j u hu => ?_⟩
  rw [Nat.zero_add, cell_of_row _ _ _ _ _ fr (heap_alloc_new W _)]
  simpa using hu

set_option maxRecDepth 100000 in
set_option maxHeartbeats 1000000 in
theorem bytesOf_nil (n s : List UInt8) (w : World) (hnl : n.length ≤ 100) (hsl : s.length ≤ 100) (htn : (txt n).length ≤ 110) (hts : (txt s).length ≤ 110) :
    Calls Tryz.prog 53 #[nilV n s] w fun e w' => ∃ v, e = .returned v ∧ Own8 w' w.heap.size v ((([72, 66, 75, 49] ++ txt n) ++ txt s) ++ [0] ++ [0] ++ [0]) ∧ Below w.heap.size w w' := by
  have H1 := Lib.hid (Box5.new w (.string ⟨n.toArray⟩) (.string ⟨s.toArray⟩) (.slice none 0 0) (.slice none 0 0) (.slice none 0 0) 26)
  have HB := Lib.hid ((Below.refl w.heap.size w).alloc (Nat.le_refl _) (.cells #[.string ⟨n.toArray⟩, .string ⟨s.toArray⟩, .slice none 0 0, .slice none 0 0, .slice none 0 0] 26))
  have HBa := Lib.hid (((Below.refl (w.alloc (.cells #[.string ⟨n.toArray⟩, .string ⟨s.toArray⟩, .slice none 0 0, .slice none 0 0, .slice none 0 0] 26)).heap.size (w.alloc (.cells #[.string ⟨n.toArray⟩, .string ⟨s.toArray⟩, .slice none 0 0, .slice none 0 0, .slice none 0 0] 26))).alloc (Nat.le_refl _) (.cells #[.int .u8 72, .int .u8 66, .int .u8 75, .int .u8 49] 5)).drew)
  have HBm := Lib.hid (((Below.refl (w.alloc (.cells #[.string ⟨n.toArray⟩, .string ⟨s.toArray⟩, .slice none 0 0, .slice none 0 0, .slice none 0 0] 26)).heap.size (w.alloc (.cells #[.string ⟨n.toArray⟩, .string ⟨s.toArray⟩, .slice none 0 0, .slice none 0 0, .slice none 0 0] 26))).alloc (Nat.le_refl _) (.cells #[.int .u8 72, .int .u8 66, .int .u8 75, .int .u8 49] 5 (4, 5))).drew)
  obtain ⟨hc0, hc1, hc2, hc3, hc4⟩ := H1.out
  have hcv := conv_lit (w.alloc (.cells #[.string ⟨n.toArray⟩, .string ⟨s.toArray⟩, .slice none 0 0, .slice none 0 0, .slice none 0 0] 26)) #[.int .u8 72, .int .u8 66, .int .u8 75, .int .u8 49] 4 4
  have hlit := rds_lit (w.alloc (.cells #[.string ⟨n.toArray⟩, .string ⟨s.toArray⟩, .slice none 0 0, .slice none 0 0, .slice none 0 0] 26)) [72, 66, 75, 49] (4, 5)
  have Hsz : (w.alloc (.cells #[.string ⟨n.toArray⟩, .string ⟨s.toArray⟩, .slice none 0 0, .slice none 0 0, .slice none 0 0] 26)).heap.size = w.heap.size + 1 := by simp
  rw [Hsz] at hcv hlit
  have Hlit := Lib.hid hlit
  clear hlit
  obtain ⟨X3, hX3⟩ : ∃ X, X = [72, 66, 75, 49] ++ txt n := ⟨_, rfl⟩
  obtain ⟨X, hX⟩ : ∃ X, X = X3 ++ txt s := ⟨_, rfl⟩
  have hX3l : X3.length ≤ 120 := by rw [hX3]; simp; omega
  have hXl : X.length ≤ 300 := by rw [hX]; simp; omega
  rw [← hX3, ← hX]
  have HX3 := Lib.hid hX3
  have HX := Lib.hid hX
  clear hX3 hX
  unfold nilV
  go_enter Tryz.func53, Tryz.ntmps53
  go_wp2_with fail
  refine wp_region_held_drew (S := fun w' => w'.cell? ⟨w.heap.size, 0, none⟩ = some (.string ⟨n.toArray⟩) ∧ w'.cell? ⟨w.heap.size, 1, none⟩ = some (.string ⟨s.toArray⟩)) (by kernel_rfl) ?hSb (fun hHeld => ?restb)
  case hSb => exact ⟨H1.out.1, H1.out.2.1⟩
  refine wpAnyH_take (i := 2) (oi := _) (v := ?vb1) rfl (by kernel_rfl) (by kernel_rfl) (by kernel_rfl) (fun _ _ _ h => h) (Or.inl ⟨by rfl, ?hyb1⟩) (by assumption) ?restb1
  case hyb1 => (intro w hSw; (try dsimp only at hSw); go_simp <;> with_reducible rfl)
  simp only [Act.put, List.getElem_toArray, List.getElem_cons_zero, List.getElem_cons_succ, List.setIfInBounds_toArray, List.set_cons_zero, List.set_cons_succ]
  refine wpAnyH_take (i := 3) (oi := _) (v := ?vb2) rfl (by kernel_rfl) (by kernel_rfl) (by kernel_rfl) (fun _ _ _ h => h) (Or.inl ⟨by rfl, ?hyb2⟩) (by assumption) ?restb2
  case hyb2 => (intro w hSw; (try dsimp only at hSw); go_simp <;> with_reducible rfl)
  simp only [Act.put, List.getElem_toArray, List.getElem_cons_zero, List.getElem_cons_succ, List.setIfInBounds_toArray, List.set_cons_zero, List.set_cons_succ]
  refine wpAnyH_take (i := 5) (oi := _) (v := ?vb3) rfl (by kernel_rfl) (by kernel_rfl) (by kernel_rfl) (fun _ _ _ h => h) (Or.inl ⟨by rfl, ?hyb3⟩) (by assumption) ?restb3
  case hyb3 => (intro w hSw; (try dsimp only at hSw); go_simp <;> with_reducible rfl)
  simp only [Act.put, List.getElem_toArray, List.getElem_cons_zero, List.getElem_cons_succ, List.setIfInBounds_toArray, List.set_cons_zero, List.set_cons_succ]
  refine wpAnyH_take (i := 6) (oi := _) (v := ?vb4) rfl (by kernel_rfl) (by kernel_rfl) (by kernel_rfl) (fun _ _ _ h => h) (Or.inl ⟨by rfl, ?hyb4⟩) (by assumption) ?restb4
  case hyb4 => (intro w hSw; (try dsimp only at hSw); go_simp <;> with_reducible rfl)
  simp only [Act.put, List.getElem_toArray, List.getElem_cons_zero, List.getElem_cons_succ, List.setIfInBounds_toArray, List.set_cons_zero, List.set_cons_succ]
  refine wpAnyH_ready (rs := [0]) (by kernel_rfl) (by simp) ?_
  refine AllReadyH.cons (o := _) rfl (fun K hK => ?_) AllReadyH.nil
  go_simp
  refine hK.out _ _ ?hSb5 (fun hHeldb5 => ?restb5)
  case hSb5 => exact ⟨(H1.out.after HBa.out).1, (H1.out.after HBa.out).2.1⟩
  clear hK K
  try simp only [Act.put, List.getElem_toArray, List.getElem_cons_zero, List.getElem_cons_succ, List.setIfInBounds_toArray, List.set_cons_zero, List.set_cons_succ]
  refine wpAnyH_ready (rs := [1]) (by kernel_rfl) (by simp) ?_
  refine AllReadyH.cons (o := _) rfl (fun K hK => ?_) AllReadyH.nil
  go_simp
  refine hK.out _ _ ?hSb6 (fun hHeldb6 => ?restb6)
  case hSb6 => exact ⟨(H1.out.after HBm.out).1, (H1.out.after HBm.out).2.1⟩
  clear hK K
  try simp only [Act.put, List.getElem_toArray, List.getElem_cons_zero, List.getElem_cons_succ, List.setIfInBounds_toArray, List.set_cons_zero, List.set_cons_succ]
  refine wpAnyH_ready (rs := [4]) (by kernel_rfl) (by simp) ?_
  refine AllReadyH.cons (o := _) rfl (fun K hK => ?_) AllReadyH.nil
  go_simp
  go_at_call 100
  refine (text_any _ [72, 66, 75, 49] 4 4 ⟨n.toArray⟩ _ rfl (by simp [ByteArray.size]; omega) Hlit.out.drew).mono ?_
  rintro ee w3 ⟨v3, rfl, hown3, hb3⟩
  rw [show [72, 66, 75, 49] ++ txt (ByteArray.mk n.toArray).data.toList = X3 from HX3.out.symm] at hown3
  obtain ⟨A3, c3, rfl, hq3, hq3', hr3, _⟩ := Own8.slice (p := X3) hown3
  have HB3 := Lib.hid (HBm.out.trans (hb3.mono (Nat.le_trans HBm.out.size (Nat.le_refl _))))
  have Hr3 := Lib.hid hr3
  clear hown3 hb3 hr3
  refine hK.out _ _ ?hSb7 (fun hHeldb7 => ?restb7)
  case hSb7 => exact ⟨(H1.out.after HB3.out).1, (H1.out.after HB3.out).2.1⟩
  clear hK K
  refine wpAnyH_ready (rs := [7]) (by kernel_rfl) (by simp) ?_
  refine AllReadyH.cons (o := _) rfl (fun K hK => ?_) AllReadyH.nil
  go_simp
  go_at_call 100
  refine (text_any A3 X3 _ c3 ⟨s.toArray⟩ w3 rfl (by simp [ByteArray.size]; omega) Hr3.out).mono ?_
  rintro ee w4 ⟨v4, rfl, hown4, hb4⟩
  rw [show X3 ++ txt (ByteArray.mk s.toArray).data.toList = X from HX.out.symm] at hown4
  obtain ⟨A4, c4, rfl, hq4, hq4', hr4, _⟩ := Own8.slice (p := X) hown4
  have HB4 := Lib.hid (HB3.out.trans (hb4.mono HB3.out.size))
  have Hr4 := Lib.hid hr4
  clear hown4 hb4 hr4
  refine hK.out _ _ ?hSb8 (fun hHeldb8 => ?restb8)
  case hSb8 => exact ⟨(H1.out.after HB4.out).1, (H1.out.after HB4.out).2.1⟩
  clear hK K
  refine wpAnyH_take (i := 8) (oi := _) (v := ?vb9) rfl (by kernel_rfl) (by kernel_rfl) (by kernel_rfl) (fun _ _ _ h => h) (Or.inl ⟨by rfl, ?hyb9⟩) (by assumption) ?restb9
  case hyb9 => (intro w hSw; (try dsimp only at hSw); go_simp <;> with_reducible rfl)
  simp only [Act.put, List.getElem_toArray, List.getElem_cons_zero, List.getElem_cons_succ, List.setIfInBounds_toArray, List.set_cons_zero, List.set_cons_succ]
  refine wpAnyH_done (by kernel_rfl) ?_ _
  clear hc0 hc1 hc2 hc3 hc4 hcv Hsz
  have H4 := Lib.hid (H1.out.after HB4.out)
  obtain ⟨hc0, hc1, hc2, hc3, hc4⟩ := H4.out
  have B4 := Lib.hid (HB.out.trans (HB4.out.mono HB.out.size))
  clear HB4 HB3 HBa HBm Hlit
  go_wp2_with fail
  refine Calls.mono (putAll_nil A4 X _ c4 0 w4 rfl (by omega) Hr4.out) ?_
  rintro e w5 ⟨v5, rfl, hown5, hb5⟩
  obtain ⟨X5, hX5⟩ : ∃ Y, Y = X ++ [0] := ⟨_, rfl⟩
  have hX5l : X5.length ≤ 310 := by rw [hX5]; simp; omega
  rw [← hX5] at hown5
  have HX5 := Lib.hid hX5
  clear hX5
  obtain ⟨A5, c5, rfl, hq5, hq5', hr5, _⟩ := Own8.slice hown5
  have H5 := Lib.hid (H4.out.after hb5)
  clear hc0 hc1 hc2 hc3 hc4
  obtain ⟨hc0, hc1, hc2, hc3, hc4⟩ := H5.out
  have B5 := Lib.hid (B4.out.trans (hb5.mono B4.out.size))
  have Hr5 := Lib.hid hr5
  clear hown5 hb5 hr5
  go_wp2_with fail
  refine Calls.mono (put_any A5 X5 _ c5 0 w5 rfl (by omega) (by omega) (by omega) Hr5.out) ?_
  rw [show num 0 = [0] from by decide]
  rintro e w6 ⟨v6, rfl, hown6, hb6⟩
  obtain ⟨X6, hX6⟩ : ∃ Y, Y = X5 ++ [0] := ⟨_, rfl⟩
  have hX6l : X6.length ≤ 320 := by rw [hX6]; simp; omega
  replace hown6 : Own8 w6 w5.heap.size v6 (X5 ++ [0]) := hown6
  rw [← hX6] at hown6
  have HX6 := Lib.hid hX6
  clear hX6
  obtain ⟨A6, c6, rfl, hq6, hq6', hr6, _⟩ := Own8.slice hown6
  have H6 := Lib.hid (H5.out.after hb6)
  clear hc0 hc1 hc2 hc3 hc4
  obtain ⟨hc0, hc1, hc2, hc3, hc4⟩ := H6.out
  have B6 := Lib.hid (B5.out.trans (hb6.mono B5.out.size))
  have Hr6 := Lib.hid hr6
  clear hown6 hb6 hr6
  go_wp2_with fail
  go_loopw [3, 31] (fun v i wr => v = .slice A6 X6.length c6 ∧ i = .int .i64 0 ∧ w6 = wr) (fun _ _ _ => 0)
  case atStart => exact ⟨rfl, rfl, rfl⟩
  case round =>
    obtain ⟨rfl, rfl, rfl⟩ := hrel
    go_wp2_with fail
    refine Calls.mono (put_any A6 X6 _ c6 0 w6 rfl (by omega) (by omega) (by omega) Hr6.out) ?_
    rw [show num 0 = [0] from by decide]
    rintro e w7 ⟨v7, rfl, hown7, hb7⟩
    have H7 := Lib.hid (H6.out.after hb7)
    clear hc0 hc1 hc2 hc3 hc4
    obtain ⟨hc0, hc1, hc2, hc3, hc4⟩ := H7.out
    have B7 := Lib.hid (B6.out.trans (hb7.mono B6.out.size))
    have Hown7 := Lib.hid (own_mono hown7 B6.out.size)
    clear hown7 hb7
    go_wp2_with fail
    go_loopw [3, 51] (fun v i wr => v = v7 ∧ i = .int .i64 0 ∧ w7 = wr) (fun _ _ _ => 0)
    case atStart => exact ⟨rfl, rfl, rfl⟩
    case round =>
      obtain ⟨rfl, rfl, rfl⟩ := hrel
      go_wp2_with fail
      go_ret
      rw [← HX5.out, ← HX6.out]
      exact ⟨_, rfl, Hown7.out, B7.out⟩

end KlsK
end Go.Proofs.YthkkcecfenohjaaGreatDoor

namespace Go.Proofs.YthkkcecfenohjaaGreatDoor
namespace KlsG
open Go.RowKit Base BinM BinE BinGet BinText BinPut Bin8 Part Kls KlsK

/-- a struct that is the one result, and lies in a cell -/
theorem results1 {P : Program} {fn : Func} {p : Tmp} {ty : TypeId} (h : fn.results = #[.cell p ty]) (tmps : Array Value) (w : World) (a : Addr) (x : Value)
    (hp : tmps.getD p undef = .pointer (some a)) (hl : (loadVar ty a).run P w = .ok x w) : (results fn tmps).run P w = .ok x w := by
  have hp' : tmps[p]?.getD undef = .pointer (some a) := by simpa using hp
  simp [results, h, hp', asAddr, hl]
/-- a struct that is the first of two results, and lies in a cell -/
theorem results2 {P : Program} {fn : Func} {p t1 : Tmp} {ty : TypeId} (h : fn.results = #[.cell p ty, .tmp t1]) (tmps : Array Value) (w : World) (a : Addr) (x : Value)
    (hp : tmps.getD p undef = .pointer (some a)) (hl : (loadVar ty a).run P w = .ok x w) : (results fn tmps).run P w = .ok (.tuple #[x, tmps.getD t1 undef]) w := by
  have hp' : tmps[p]?.getD undef = .pointer (some a) := by simpa using hp
  simp [results, h, hp', asAddr, hl]

set_option maxRecDepth 100000 in
set_option maxHeartbeats 1000000 in
theorem put_nil (n s : List UInt8) (w : World) (hn : nameB n = true) (hs : nameB s = true) (hnl : n.length ≤ 100) (hsl : s.length ≤ 100) (htn : (txt n).length ≤ 110) (hts : (txt s).length ≤ 110) :
    Calls Tryz.prog 19 #[nilV n s] w fun e w' => ∃ A c, e = .returned (.tuple #[.slice A ((((([72, 66, 75, 49] ++ txt n) ++ txt s) ++ [0] ++ [0] ++ [0]) : List UInt8).length) c, .int .i64 0]) ∧ ((((([72, 66, 75, 49] ++ txt n) ++ txt s) ++ [0] ++ [0] ++ [0]) : List UInt8).length) ≤ c ∧ c ≤ maxLen ∧ Rds w' A (cells8 ((([72, 66, 75, 49] ++ txt n) ++ txt s) ++ [0] ++ [0] ++ [0])) ∧ Below w.heap.size w w' := by
  have H1 := Lib.hid (Box5.new w (.string ⟨n.toArray⟩) (.string ⟨s.toArray⟩) (.slice none 0 0) (.slice none 0 0) (.slice none 0 0) 26)
  have HB := Lib.hid ((Below.refl w.heap.size w).alloc (Nat.le_refl _) (.cells #[.string ⟨n.toArray⟩, .string ⟨s.toArray⟩, .slice none 0 0, .slice none 0 0, .slice none 0 0] 26))
  have hb := fun W => bytesOf_nil n s W hnl hsl htn hts
  have hr := fun W => right_nil n s W hn hs hnl hsl
  obtain ⟨X, hX⟩ : ∃ X, X = (([72, 66, 75, 49] ++ txt n) ++ txt s) ++ [0] ++ [0] ++ [0] := ⟨_, rfl⟩
  have hXl : X.length ≤ 300 := by rw [hX]; simp; omega
  rw [← hX] at hb ⊢
  have Hb := Lib.hid hb
  have Hr := Lib.hid hr
  clear hb hr hX hn hs
  obtain ⟨hc0, hc1, hc2, hc3, hc4⟩ := H1.out
  unfold nilV at Hb Hr ⊢
  go_enter Tryz.func19, Tryz.ntmps19
  go_wp2_with fail
  refine Calls.mono (Hr.out _) ?_
  rintro e w1 ⟨rfl, hb1⟩
  clear hc0 hc1 hc2 hc3 hc4
  obtain ⟨hc0, hc1, hc2, hc3, hc4⟩ := H1.out.after hb1
  have B1 := Lib.hid (HB.out.trans (hb1.mono HB.out.size))
  clear hb1
  go_wp2_with fail
  refine Calls.mono (Hb.out _) ?_
  rintro e w2 ⟨v2, rfl, hown2, hb2⟩
  obtain ⟨A2, c2, rfl, hq2, hq2', hr2, _⟩ := Own8.slice hown2
  have B2 := Lib.hid (B1.out.trans (hb2.mono B1.out.size))
  have R2 := Lib.hid hr2
  have d1 : decide ((65536 : Int) < (X.length : Int)) = false := by simp; omega
  have d2 : ¬ (65536 : Int) < (X.length : Int) := by omega
  clear hb2 hown2 hr2
  go_wp2_with fail
  go_ret2
  exact ⟨A2, c2, rfl, hq2, hq2', R2.out, B2.out⟩

theorem sizeR : (Tryz.prog.info? 81).map (·.size) = some 3 := by kernel_rfl
theorem sizeK : (Tryz.prog.info? 26).map (·.size) = some 5 := by kernel_rfl
/-- bytes as numbers -/
def nums (l : List UInt8) : List Int := l.map fun c => (c.toNat : Int)
theorem nums_get {l : List UInt8} {i : Nat} (h : i < l.length) : (nums l).getD i 0 = (l[i].toNat : Int) := by simp [nums, List.getD_eq_getElem?_getD, h]
theorem nums_back (l : List UInt8) : Lib.bytesOf (nums l) = l := by
  unfold Lib.bytesOf nums
  rw [List.map_map]
  conv => rhs; rw [← List.map_id l]
  refine List.map_congr_left fun c _ => ?_
  simp
theorem cells_nums {w : World} {b o n : Nat} {l : List UInt8} (h : Rds w (some ⟨b, o, none⟩) (cells8 l)) (hn : n ≤ l.length) : ∀ i, i < n → w.cell? ⟨b, o + i, none⟩ = some (.int .u8 ((nums l).getD i 0)) := by
  intro i hi
  obtain ⟨b', o', hA, hb, hc⟩ := h.at_ (k := i) (by rw [cells8_length]; omega)
  injection hA with hA
  injection hA with h1 h2
  subst h1 h2
  rw [hc, nums_get (by omega)]
  simp [cells8, cell8]
theorem prefix_any (b o n c b2 o2 m d : Nat) (l hd : List UInt8) (w : World) (hn : n = l.length) (hm : m = hd.length) (hnc : n ≤ c) (h1 : Rds w (some ⟨b, o, none⟩) (cells8 l)) (h2 : Rds w (some ⟨b2, o2, none⟩) (cells8 hd)) :
    Calls Tryz.prog 103 #[.slice (some ⟨b, o, none⟩) n c, .slice (some ⟨b2, o2, none⟩) m d] w fun e w' => e = .returned (.bool (hd.isPrefixOf l)) ∧ w = w' := by
  refine (Tryz.bytes_HasPrefix b o n c b2 o2 m d (nums l) (nums hd) w (by simp [nums, hn]) (by simp [nums, hm]) hnc (cells_nums h1 (by omega)) (cells_nums h2 (by omega))).mono ?_
  rintro e w' ⟨rfl, rfl⟩
  exact ⟨by rw [nums_back, nums_back]; rfl, rfl⟩
theorem rds_bytes (W : World) (ty : TypeId) (s : List UInt8) (k : Nat) (fr : Nat × Nat) (g : Nat) (hg : W.heap.size = g) : Rds (W.alloc (.cells (bytesRow ⟨s.toArray⟩ k) ty fr)).drew (some ⟨g, 0, none⟩) (cells8 s) := by
  subst hg
  refine Rds.drew ?_
  refine .inr ⟨W.heap.size, 0, rfl, by simp, fun j u hu => ?_⟩
  rw [Nat.zero_add, cell_of_row _ _ _ _ _ fr (heap_alloc_new W _)]
  obtain ⟨hj, rfl⟩ := List.getElem?_eq_some_iff.1 hu
  rw [cells8_length] at hj
  unfold bytesRow
  rw [Array.getElem?_append_left (by simpa using hj)]
  simp [cells8, cell8, hj]

set_option maxRecDepth 100000 in
set_option maxHeartbeats 1000000 in
theorem open_yes (b o : Nat) (l rest : List UInt8) (n cap : Nat) (h0 h1 h2 h3 : UInt8) (w : World) (hl : l = [h0, h1, h2, h3] ++ rest) (hn : n = l.length) (h6 : n ≤ 65536) (hr : Rds w (some ⟨b, o, none⟩) (cells8 l)) (hnc : n ≤ cap) :
    Calls Tryz.prog 58 #[.slice (some ⟨b, o, none⟩) n cap, .string ⟨#[h0, h1, h2, h3]⟩] w fun e w' => e = .returned (.agg #[.slice (some ⟨b, o, none⟩) n cap, .int .i64 4, .int .i64 0]) ∧ Below w.heap.size w w' := by
  have d1 : decide ((65536 : Int) < (n : Int)) = false := by simp; omega
  have d2 : ¬ (65536 : Int) < (n : Int) := by omega
  have Hl := Lib.hid hl
  have Hn := Lib.hid hn
  have Hr := Lib.hid hr
  have hcv := fun W => run_bytes_of_string (P := Tryz.prog) W 9 33 5 ⟨#[h0, h1, h2, h3]⟩ Tryz.underlying9 Tryz.underlying33 Tryz.underlying5
  clear hl hn hr
  go_enter Tryz.func58, Tryz.ntmps58
  go_wp2_with fail
  refine Calls.mono (prefix_any b o n cap _ _ 4 _ l [h0, h1, h2, h3] _ Hn.out rfl hnc ((Hr.out.below (((Below.refl _ _).alloc (Nat.le_refl _) _).drew)).below ((Below.refl _ _).alloc (Nat.le_refl _) _)) (rds_bytes _ _ [h0, h1, h2, h3] _ _ _ (by simp))) ?_
  rw [show [h0, h1, h2, h3].isPrefixOf l = true by rw [Hl.out]; simp]
  rintro e w1 ⟨rfl, rfl⟩
  go_wp2_with fail
  exact bodyPost_ret (v := .agg #[.slice (some ⟨b, o, none⟩) n cap, .int .i64 4, .int .i64 0]) (results1 Tryz.results58 _ _ _ _ rfl (run_loadVar_row _ _ _ _ #[.slice (some ⟨b, o, none⟩) n cap, .int .i64 4, .int .i64 0] (0, 0) _ (heap_alloc2_old _ _ _) Tryz.underlying81 rfl sizeR)) rfl ⟨rfl, (((Below.refl _ _).alloc (Nat.le_refl _) _).alloc (by simp) _).drew⟩

set_option maxRecDepth 100000 in
set_option maxHeartbeats 1000000 in
/-- all was read, without an error -/
theorem end_yes (g : Nat) (A : Option Addr) (n cap : Nat) (ty : TypeId) (w : World) (hrow : Row w g #[.slice A n cap, .int .i64 n, .int .i64 0] ty) :
    Calls Tryz.prog 60 #[.pointer (some ⟨g, 0, none⟩)] w fun e w' => e = .returned (.int .i64 0) ∧ ∃ k, w' = w.drewN k := by
  have hc0 : w.cell? ⟨g, 0, none⟩ = some (.slice A n cap) := hrow.cell 0
  have hc1 : w.cell? ⟨g, 1, none⟩ = some (.int .i64 n) := hrow.cell 1
  have hc2 : w.cell? ⟨g, 2, none⟩ = some (.int .i64 0) := hrow.cell 2
  have hd : decide ((n : Int) < (n : Int)) = false := by simp
  clear hrow
  go_enter Tryz.func60, Tryz.ntmps60
  go_wp2_with fail
  go_quiet (fail)
  go_wp2_with fail
  go_ret
  exact ⟨rfl, _, rfl⟩

end KlsG
end Go.Proofs.YthkkcecfenohjaaGreatDoor

namespace Go.Proofs.YthkkcecfenohjaaGreatDoor
namespace KlsH
open Go.RowKit Base BinM Stru BinE BinGet BinText BinPut Bin8 Part Kls KlsK KlsG

def lit : List UInt8 := [72, 66, 75, 49, 2, 65, 12, 79, 98, 106, 101, 99, 116, 0, 0, 0]
theorem lit0 : getT lit 4 256 = ([65], 6, 0) := by decide +kernel
theorem lit1 : getT lit 6 256 = ([79, 98, 106, 101, 99, 116], 13, 0) := by decide +kernel
theorem lit2 : getS lit 13 = (0, 14, 0) := by decide +kernel
theorem lit3 : getS lit 14 = (0, 15, 0) := by decide +kernel
theorem lit4 : getS lit 15 = (0, 16, 0) := by decide +kernel

/-- the reader's row, and two boxes of classes beside it -/
structure At (w wr : World) (g : Nat) (A : Option Addr) (n cap : Nat) (ty : TypeId) (q : Int) (C : Array Value) : Prop where
  row : Row wr g #[.slice A n cap, .int .i64 q, .int .i64 0] ty
  res : Row wr w.heap.size #[.string ⟨#[]⟩, .string ⟨#[]⟩, .slice none 0 0, .slice none 0 0, .slice none 0 0] 26
  box : Row wr (w.heap.size + 1) C 26
  asd : Part.Aside g w wr
  lt : g < w.heap.size
theorem At.start {w : World} {g : Nat} {A : Option Addr} {n cap : Nat} {ty : TypeId} {q : Int} (h : Row w g #[.slice A n cap, .int .i64 q, .int .i64 0] ty) :
    At w ((w.alloc (.cells #[.string ⟨#[]⟩, .string ⟨#[]⟩, .slice none 0 0, .slice none 0 0, .slice none 0 0] 26)).alloc (.cells #[.string ⟨#[]⟩, .string ⟨#[]⟩, .slice none 0 0, .slice none 0 0, .slice none 0 0] 26)) g A n cap ty q #[.string ⟨#[]⟩, .string ⟨#[]⟩, .slice none 0 0, .slice none 0 0, .slice none 0 0] := by
  have hb : Below w.heap.size w ((w.alloc (.cells #[.string ⟨#[]⟩, .string ⟨#[]⟩, .slice none 0 0, .slice none 0 0, .slice none 0 0] 26)).alloc (.cells #[.string ⟨#[]⟩, .string ⟨#[]⟩, .slice none 0 0, .slice none 0 0, .slice none 0 0] 26)) := ((Below.refl _ _).alloc (Nat.le_refl _) _).alloc (by simp) _
  refine ⟨h.after hb, heap_alloc2_old _ _ _, ?_, Part.Aside.of hb (Nat.le_of_lt h.lt), h.lt⟩
  have := Row.new (w.alloc (.cells #[.string ⟨#[]⟩, .string ⟨#[]⟩, .slice none 0 0, .slice none 0 0, .slice none 0 0] 26)) #[.string ⟨#[]⟩, .string ⟨#[]⟩, .slice none 0 0, .slice none 0 0, .slice none 0 0] 26
  rw [show (w.alloc (.cells #[.string ⟨#[]⟩, .string ⟨#[]⟩, .slice none 0 0, .slice none 0 0, .slice none 0 0] 26)).heap.size = w.heap.size + 1 by simp] at this
  exact this
theorem At.next {w wr w3 : World} {g : Nat} {A : Option Addr} {n cap : Nat} {ty : TypeId} {q q' : Int} {C : Array Value} (h : At w wr g A n cap ty q C) (hr : Row w3 g #[.slice A n cap, .int .i64 q', .int .i64 0] ty) (ha : Part.Aside g wr w3) : At w w3 g A n cap ty q' C :=
  ⟨hr, ha.row h.res (by have := h.lt; omega), ha.row h.box (by have := h.lt; omega), h.asd.trans ha, h.lt⟩
theorem At.set {w wr : World} {g : Nat} {A : Option Addr} {n cap : Nat} {ty : TypeId} {q : Int} {C : Array Value} (h : At w wr g A n cap ty q C) (j : Nat) (v : Value) : At w (wr.setCell ⟨w.heap.size + 1, j, none⟩ v) g A n cap ty q (C.setIfInBounds j v) := by
  have := h.lt
  refine ⟨(heap_setCell_other wr ⟨w.heap.size + 1, j, none⟩ g v (by show g ≠ w.heap.size + 1; omega)).trans h.row, (heap_setCell_other wr ⟨w.heap.size + 1, j, none⟩ w.heap.size v (by show w.heap.size ≠ w.heap.size + 1; omega)).trans h.res, h.box.set j v,
    ⟨h.asd.bel.setCell (by show g ≤ w.heap.size + 1; omega) v, fun k hk hn => (heap_setCell_other wr ⟨w.heap.size + 1, j, none⟩ k v (by show k ≠ w.heap.size + 1; omega)).trans (h.asd.rest k hk hn)⟩, h.lt⟩

/-- the result's box written, cell by cell -/
theorem At.one {w wr : World} {g : Nat} {A : Option Addr} {n cap : Nat} {ty : TypeId} {q : Int} {R : Array Value} (h1 : Row wr g #[.slice A n cap, .int .i64 q, .int .i64 0] ty) (h2 : Row wr w.heap.size R 26) (h3 : Part.Aside g w wr) (hg : g < w.heap.size) (j : Nat) (v : Value) :
    Row (wr.setCell ⟨w.heap.size, j, none⟩ v) g #[.slice A n cap, .int .i64 q, .int .i64 0] ty ∧ Row (wr.setCell ⟨w.heap.size, j, none⟩ v) w.heap.size (R.setIfInBounds j v) 26 ∧ Part.Aside g w (wr.setCell ⟨w.heap.size, j, none⟩ v) :=
  ⟨(heap_setCell_other wr ⟨w.heap.size, j, none⟩ g v (by show g ≠ w.heap.size; omega)).trans h1, h2.set j v,
    ⟨h3.bel.setCell (by show g ≤ w.heap.size; omega) v, fun k hk hn => (heap_setCell_other wr ⟨w.heap.size, j, none⟩ k v (by show k ≠ w.heap.size; omega)).trans (h3.rest k hk hn)⟩⟩
theorem At.fill {w wr : World} {g : Nat} {A : Option Addr} {n cap : Nat} {ty : TypeId} {q : Int} {C : Array Value} (h : At w wr g A n cap ty q C) (v0 v1 v2 v3 v4 : Value) :
    Row (((((wr.setCell ⟨w.heap.size, 0, none⟩ v0).setCell ⟨w.heap.size, 1, none⟩ v1).setCell ⟨w.heap.size, 2, none⟩ v2).setCell ⟨w.heap.size, 3, none⟩ v3).setCell ⟨w.heap.size, 4, none⟩ v4) g #[.slice A n cap, .int .i64 q, .int .i64 0] ty ∧
    Row (((((wr.setCell ⟨w.heap.size, 0, none⟩ v0).setCell ⟨w.heap.size, 1, none⟩ v1).setCell ⟨w.heap.size, 2, none⟩ v2).setCell ⟨w.heap.size, 3, none⟩ v3).setCell ⟨w.heap.size, 4, none⟩ v4) w.heap.size #[v0, v1, v2, v3, v4] 26 ∧
    Part.Aside g w (((((wr.setCell ⟨w.heap.size, 0, none⟩ v0).setCell ⟨w.heap.size, 1, none⟩ v1).setCell ⟨w.heap.size, 2, none⟩ v2).setCell ⟨w.heap.size, 3, none⟩ v3).setCell ⟨w.heap.size, 4, none⟩ v4) := by
  obtain ⟨a0, b0, c0⟩ := At.one h.row h.res h.asd h.lt 0 v0
  obtain ⟨a1, b1, c1⟩ := At.one a0 b0 c0 h.lt 1 v1
  obtain ⟨a2, b2, c2⟩ := At.one a1 b1 c1 h.lt 2 v2
  obtain ⟨a3, b3, c3⟩ := At.one a2 b2 c2 h.lt 3 v3
  exact At.one a3 b3 c3 h.lt 4 v4

set_option maxRecDepth 100000 in
set_option maxHeartbeats 4000000 in
theorem class_lit (g : Nat) (A : Option Addr) (cap : Nat) (ty : TypeId) (w : World) (hrow : Row w g #[.slice A 16 cap, .int .i64 4, .int .i64 0] ty)
    (hnc : 16 ≤ cap) (hm : cap ≤ maxLen) (hr : Rds w A (cells8 lit)) (hne : ∀ a, A = some a → a.block ≠ g) :
    Calls Tryz.prog 59 #[.pointer (some ⟨g, 0, none⟩)] w fun e w' => e = .returned (nilV [65] [79, 98, 106, 101, 99, 116]) ∧ Row w' g #[.slice A 16 cap, .int .i64 16, .int .i64 0] ty ∧ Part.Aside g w w' := by
  have S0 := Lib.hid (At.start hrow)
  have HR : Hid (∀ wr, Part.Aside g w wr → Rds wr A (cells8 lit)) := Lib.hid (fun wr h => by
    rcases hr with h0 | ⟨b, o, hA, hb, hc⟩
    · exact .inl h0
    · refine .inr ⟨b, o, hA, Nat.lt_of_lt_of_le hb h.bel.size, fun j u hu => ?_⟩
      rw [← hc j u hu]
      have := h.rest b hb (hne _ hA)
      unfold World.cell?
      rw [this])
  clear hrow hr hne
  unfold nilV
  go_enter Tryz.func59, Tryz.ntmps59
  go_wp2_with fail
  refine Calls.mono (text_klass g A lit 16 cap 4 ty _ S0.out.row rfl hnc hm (by omega) (by omega) (HR.out _ S0.out.asd)) ?_
  rw [lit0]
  rintro e w1 ⟨rfl, hrow1, ha1⟩
  have T1 := Lib.hid (S0.out.next hrow1 ha1)
  have S1 := Lib.hid (T1.out.set 0 (.string ⟨#[65]⟩))
  have hc := T1.out.box.cell 0
  have hf := T1.out.box.free 0
  clear hrow1 ha1
  go_wp2_with fail
  clear hc hf
  refine Calls.mono (text_klass g A lit 16 cap 6 ty _ S1.out.row rfl hnc hm (by omega) (by omega) (HR.out _ S1.out.asd)) ?_
  rw [lit1]
  rintro e w2 ⟨rfl, hrow2, ha2⟩
  have T2 := Lib.hid (S1.out.next hrow2 ha2)
  have S2 := Lib.hid (T2.out.set 1 (.string ⟨#[79, 98, 106, 101, 99, 116]⟩))
  have hc := T2.out.box.cell 1
  have hf := T2.out.box.free 1
  clear hrow2 ha2
  go_wp2_with fail
  clear hc hf
  refine Calls.mono (nextCst_zero g A lit 16 cap 13 ty 14 _ S2.out.row rfl hnc hm (by omega) (by omega) (HR.out _ S2.out.asd) lit2) ?_
  rintro e w3 ⟨rfl, hrow3, ha3⟩
  have T3 := Lib.hid (S2.out.next hrow3 ha3)
  have S3 := Lib.hid (T3.out.set 2 (.slice none 0 0))
  have hc := T3.out.box.cell 2
  have hf := T3.out.box.free 2
  clear hrow3 ha3
  go_wp2_with fail
  clear hc hf
  refine Calls.mono (listF_zero g A lit 16 cap 14 16 15 _ ty _ S3.out.row rfl hnc hm (by omega) (by omega) (HR.out _ S3.out.asd) lit3 (by omega)) ?_
  rintro e w4 ⟨rfl, hrow4, ha4⟩
  have T4 := Lib.hid (S3.out.next hrow4 ha4)
  have S4 := Lib.hid (T4.out.set 3 (.slice none 0 0))
  have hc := T4.out.box.cell 3
  have hf := T4.out.box.free 3
  clear hrow4 ha4
  go_wp2_with fail
  clear hc hf
  refine Calls.mono (listM_zero g A lit 16 cap 15 32 16 _ ty _ S4.out.row rfl hnc hm (by omega) (by omega) (HR.out _ S4.out.asd) lit4 (by omega)) ?_
  rintro e w5 ⟨rfl, hrow5, ha5⟩
  have T5 := Lib.hid (S4.out.next hrow5 ha5)
  have S5 := Lib.hid (T5.out.set 4 (.slice none 0 0))
  have hc := T5.out.box.cell 4
  have hf := T5.out.box.free 4
  clear hrow5 ha5
  have Hb : Row (w5.setCell ⟨w.heap.size + 1, 4, none⟩ (.slice none 0 0)) (w.heap.size + 1) #[.string ⟨#[65]⟩, .string ⟨#[79, 98, 106, 101, 99, 116]⟩, .slice none 0 0, .slice none 0 0, .slice none 0 0] 26 := S5.out.box
  have g0 := Hb.cell 0
  have g1 := Hb.cell 1
  have g2 := Hb.cell 2
  have g3 := Hb.cell 3
  have g4 := Hb.cell 4
  have f0 := S5.out.res.free 0
  have r0 := S5.out.res.cell 0
  have f1 := S5.out.res.free 1
  have r1 := S5.out.res.cell 1
  have f2 := S5.out.res.free 2
  have r2 := S5.out.res.cell 2
  have f3 := S5.out.res.free 3
  have r3 := S5.out.res.cell 3
  have f4 := S5.out.res.free 4
  have r4 := S5.out.res.cell 4
  have HB := Lib.hid Hb
  clear Hb
  go_wp2_with fail
  have HF := Lib.hid (S5.out.fill (.string ⟨#[65]⟩) (.string ⟨#[79, 98, 106, 101, 99, 116]⟩) (.slice none 0 0) (.slice none 0 0) (.slice none 0 0))
  exact bodyPost_ret (v := nilV [65] [79, 98, 106, 101, 99, 116]) (results1 Tryz.results59 _ _ _ _ rfl (run_loadVar_row _ _ _ _ #[.string ⟨#[65]⟩, .string ⟨#[79, 98, 106, 101, 99, 116]⟩, .slice none 0 0, .slice none 0 0, .slice none 0 0] (0, 0) _ HF.out.2.1 Tryz.underlying26 rfl sizeK)) rfl ⟨rfl, HF.out.1, HF.out.2.2⟩

set_option maxRecDepth 100000 in
set_option maxHeartbeats 4000000 in
/-- the bytes of the class A above Object, got -/
theorem get_lit (b o : Nat) (cap : Nat) (w : World) (hnc : 16 ≤ cap) (hm : cap ≤ maxLen) (hr : Rds w (some ⟨b, o, none⟩) (cells8 lit)) :
    Calls Tryz.prog 21 #[.slice (some ⟨b, o, none⟩) 16 cap] w fun e w' => e = .returned (.tuple #[nilV [65] [79, 98, 106, 101, 99, 116], .int .i64 0]) ∧ Below w.heap.size w w' := by
  have Hr := Lib.hid hr
  clear hr
  unfold nilV
  go_enter Tryz.func21, Tryz.ntmps21
  go_wp2_with fail
  have R0 := Lib.hid (Row.new w #[.string ⟨#[]⟩, .string ⟨#[]⟩, .slice none 0 0, .slice none 0 0, .slice none 0 0] 26)
  have B0 := Lib.hid ((Below.refl w.heap.size w).alloc (Nat.le_refl _) (.cells #[.string ⟨#[]⟩, .string ⟨#[]⟩, .slice none 0 0, .slice none 0 0, .slice none 0 0] 26))
  refine Calls.mono (open_yes b o lit [2, 65, 12, 79, 98, 106, 101, 99, 116, 0, 0, 0] 16 cap 72 66 75 49 _ rfl rfl (by omega) (Hr.out.below B0.out) hnc) ?_
  rintro e w1 ⟨rfl, hb1⟩
  have R1 := Lib.hid (R0.out.after hb1)
  have B1 := Lib.hid (B0.out.trans (hb1.mono B0.out.size))
  clear hb1
  go_wp2_with fail
  have hlt1 : w.heap.size < w1.heap.size := Nat.lt_of_lt_of_le (by simp) (R1.out.lt)
  have hbb : b < w.heap.size := by
    rcases Hr.out with h | ⟨b', o', hA, hb, _⟩
    · cases h
    · injection hA with hA; injection hA with h1 h2; subst h1; exact hb
  have hA1 := (Below.refl w1.heap.size w1).alloc (Nat.le_refl _) (.cells #[.slice (some ⟨b, o, none⟩) 16 cap, .int .i64 4, .int .i64 0] 84)
  have HA1 := Lib.hid hA1
  clear hA1
  refine Calls.mono (class_lit w1.heap.size (some ⟨b, o, none⟩) cap 84 _ (Row.new w1 _ _) hnc hm ((Hr.out.below B1.out).below HA1.out) (by intro a ha; injection ha with ha; subst ha; show b ≠ w1.heap.size; omega)) ?_
  rintro e w2 ⟨rfl, hrow2, ha2⟩
  have R2 := Lib.hid (ha2.row (R1.out.after HA1.out) (by omega))
  have Q2 := Lib.hid hrow2
  have B2 := Lib.hid (B1.out.trans ((HA1.out.trans (ha2.bel)).mono (Nat.le_of_lt hlt1)))
  unfold nilV
  clear hrow2 ha2
  go_wp2_with fail
  have C2 := Lib.hid (Row.new w2 #[.string ⟨#[65]⟩, .string ⟨#[79, 98, 106, 101, 99, 116]⟩, .slice none 0 0, .slice none 0 0, .slice none 0 0] 26)
  have HA2 := Lib.hid ((Below.refl w2.heap.size w2).alloc (Nat.le_refl _) (.cells #[.string ⟨#[65]⟩, .string ⟨#[79, 98, 106, 101, 99, 116]⟩, .slice none 0 0, .slice none 0 0, .slice none 0 0] 26))
  refine Calls.mono (end_yes w1.heap.size (some ⟨b, o, none⟩) 16 cap 84 _ (Q2.out.after HA2.out)) ?_
  rintro e w3 ⟨rfl, k3, hk3⟩
  have C3 : Row w3 w2.heap.size #[.string ⟨#[65]⟩, .string ⟨#[79, 98, 106, 101, 99, 116]⟩, .slice none 0 0, .slice none 0 0, .slice none 0 0] 26 := by rw [hk3]; exact C2.out
  have R3 : Row w3 w.heap.size #[.string ⟨#[]⟩, .string ⟨#[]⟩, .slice none 0 0, .slice none 0 0, .slice none 0 0] 26 := by rw [hk3]; exact R2.out.after (drawn HA2.out k3)
  have B3 : Below w.heap.size w w3 := by rw [hk3]; exact drawn (B2.out.trans (HA2.out.mono B2.out.size)) k3
  have S3 := Lib.hid hk3
  clear hk3
  have g0 := C3.cell 0
  have g1 := C3.cell 1
  have g2 := C3.cell 2
  have g3 := C3.cell 3
  have g4 := C3.cell 4
  have D3 := Lib.hid C3
  have E3 := Lib.hid R3
  have F3 := Lib.hid B3
  clear C3 R3 B3
  go_wp2_with fail
  have hrn := right_nil [65] [79, 98, 106, 101, 99, 116] w3 (by decide) (by decide) (by decide) (by decide)
  unfold nilV at hrn
  refine Calls.mono hrn ?_
  rintro e w4 ⟨rfl, hb4⟩
  clear hrn g0 g1 g2 g3 g4
  have D4 := D3.out.after hb4
  have E4 := E3.out.after hb4
  have F4 := Lib.hid (F3.out.trans (hb4.mono F3.out.size))
  have g0 := D4.cell 0
  have g1 := D4.cell 1
  have g2 := D4.cell 2
  have g3 := D4.cell 3
  have g4 := D4.cell 4
  have r0 := E4.cell 0
  have r1 := E4.cell 1
  have r2 := E4.cell 2
  have r3 := E4.cell 3
  have r4 := E4.cell 4
  have f0 := E4.free 0
  have f1 := E4.free 1
  have f2 := E4.free 2
  have f3 := E4.free 3
  have f4 := E4.free 4
  have G4 := Lib.hid E4
  clear D4 E4 hb4
  go_wp2_with fail
  have h0 := (((((G4.out.set 0 (.string ⟨#[65]⟩)).set 1 (.string ⟨#[79, 98, 106, 101, 99, 116]⟩)).set 2 (.slice none 0 0)).set 3 (.slice none 0 0)).set 4 (.slice none 0 0))
  exact bodyPost_ret (v := .tuple #[.agg #[.string ⟨#[65]⟩, .string ⟨#[79, 98, 106, 101, 99, 116]⟩, .slice none 0 0, .slice none 0 0, .slice none 0 0], .int .i64 0]) (results2 Tryz.results21 _ _ _ _ rfl (run_loadVar_row _ _ _ _ #[.string ⟨#[65]⟩, .string ⟨#[79, 98, 106, 101, 99, 116]⟩, .slice none 0 0, .slice none 0 0, .slice none 0 0] (0, 0) _ h0 Tryz.underlying26 rfl sizeK)) rfl
    ⟨rfl, ((((F4.out.setCell (Nat.le_refl _) _).setCell (Nat.le_refl _) _).setCell (Nat.le_refl _) _).setCell (Nat.le_refl _) _).setCell (Nat.le_refl _) _⟩

end KlsH
end Go.Proofs.YthkkcecfenohjaaGreatDoor

namespace Go.Proofs.YthkkcecfenohjaaGreatDoor
namespace KlsN
open Go.RowKit Base BinM Stru BinE BinGet BinText BinPut Bin8 Part Kls KlsK KlsG KlsH

set_option maxRecDepth 100000 in
set_option maxHeartbeats 4000000 in
theorem known_any (w : World) : Calls Tryz.prog 12 #[] w fun e w' => e = .returned (.bool true) ∧ Below w.heap.size w w' := by
  have hput := put_nil [65] [79, 98, 106, 101, 99, 116] w (by decide) (by decide) (by decide) (by decide) (by decide) (by decide)
  rw [show ([72, 66, 75, 49] ++ txt [65] ++ txt [79, 98, 106, 101, 99, 116] ++ [0] ++ [0] ++ [0] : List UInt8) = lit from by decide] at hput
  rw [show lit.length = 16 from rfl] at hput
  unfold nilV at hput
  have Hp := Lib.hid hput
  clear hput
  go_enter Tryz.func12, Tryz.ntmps12
  go_wp2_with fail
  refine Calls.mono Hp.out ?_
  rintro e w1 ⟨A1, c1, rfl, hq1, hq1', hr1, hb1⟩
  have R1 := Lib.hid hr1
  have B1 := Lib.hid hb1
  obtain ⟨b, o, rfl⟩ : ∃ b o, A1 = some ⟨b, o, none⟩ := by
    rcases hr1 with h | ⟨b, o, hA, _⟩
    · cases h
    · exact ⟨b, o, hA⟩
  clear hr1 hb1
  go_wp2_with fail
  have hget := get_lit b o c1 w1 hq1 hq1' R1.out
  unfold nilV at hget
  refine Calls.mono hget ?_
  rintro e w2 ⟨rfl, hb2⟩
  have B2 := Lib.hid (B1.out.trans (hb2.mono B1.out.size))
  have R2 := Lib.hid (R1.out.below hb2)
  clear hget hb2
  have hb3 := (Below.refl w2.heap.size w2).alloc (Nat.le_refl _) (.cells #[.string ⟨#[65]⟩, .string ⟨#[79, 98, 106, 101, 99, 116]⟩, .slice none 0 0, .slice none 0 0, .slice none 0 0] 26)
  have hcv := run_text (P := Tryz.prog) (w := w2.alloc (.cells #[.string ⟨#[65]⟩, .string ⟨#[79, 98, 106, 101, 99, 116]⟩, .slice none 0 0, .slice none 0 0, .slice none 0 0] 26)) 33 9 5 16 c1 Tryz.underlying33 Tryz.underlying5 Tryz.underlying9 (l := lit) rfl (R2.out.below hb3)
  rw [show (lit.toArray) = #[72, 66, 75, 49, 2, 65, 12, 79, 98, 106, 101, 99, 116, 0, 0, 0] from rfl] at hcv
  have B3 := Lib.hid (B2.out.trans (hb3.mono B2.out.size))
  clear hb3
  go_wp2_with fail
  have hn := right_none (w2.alloc (.cells #[.string ⟨#[65]⟩, .string ⟨#[79, 98, 106, 101, 99, 116]⟩, .slice none 0 0, .slice none 0 0, .slice none 0 0] 26))
  unfold nilV at hn
  refine Calls.mono hn ?_
  rintro e w4 ⟨rfl, hb4⟩
  have B4 := Lib.hid (B3.out.trans (hb4.mono B3.out.size))
  clear hn hb4 hcv
  go_wp2_with fail
  go_ret
  exact ⟨rfl, B4.out⟩

end KlsN
end Go.Proofs.YthkkcecfenohjaaGreatDoor
