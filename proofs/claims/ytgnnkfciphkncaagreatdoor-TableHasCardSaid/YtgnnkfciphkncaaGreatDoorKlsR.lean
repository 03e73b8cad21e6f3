/-
  The document's own Same, of classes: what it returns.
-/
import Derived.Test.YtgnnkfciphkncaaGreatDoorKlsF
namespace Go.Proofs.YtgnnkfciphkncaaGreatDoor
namespace Kls
open Go.RowKit Base BinM Stru PoolM PoolA PoolJ InsJ

set_option maxRecDepth 100000 in
set_option maxHeartbeats 4000000 in
theorem refSameM_any (x y : MthT) (w : World) (hx : x.is w) (hy : y.is w) :
    Calls Tryz.prog 20 #[x.V, y.V] w fun e w' => e = .returned (.bool (decide (x.pure = y.pure))) ∧ Below w.heap.size w w' := by
  obtain ⟨n, s, lo, cA, cm, cc, hA, hm, hc, cd, hd⟩ := x
  obtain ⟨n', s', lo', cA', cm', cc', hA', hm', hc', cd', hd'⟩ := y
  have Hx := Lib.hid hx
  have Hy := Lib.hid hy
  have hml : hd.length ≤ hm := Nat.le_of_eq hx.hand.len.symm
  have hml2 : hm ≤ hd.length := Nat.le_of_eq hx.hand.len
  have hkl : hd'.length ≤ hm' := Nat.le_of_eq hy.hand.len.symm
  have hkl2 : hm' ≤ hd'.length := Nat.le_of_eq hy.hand.len
  have hmx : hm ≤ maxLen := Nat.le_trans hx.hand.le hx.hand.max
  unfold maxLen at hmx
  clear hx hy
  generalize hD : decide (MthT.pure _ = MthT.pure _) = D
  simp only [MthT.V]
  have HB := Lib.hid (two w (.string ⟨n.toArray⟩) (.string ⟨s.toArray⟩) (.int .i64 lo) (.slice cA cm cc) (.slice hA hm hc) (.string ⟨n'.toArray⟩) (.string ⟨s'.toArray⟩) (.int .i64 lo') (.slice cA' cm' cc') (.slice hA' hm' hc') 43)
  have H1 := Lib.hid (two1 w (.string ⟨n.toArray⟩) (.string ⟨s.toArray⟩) (.int .i64 lo) (.slice cA cm cc) (.slice hA hm hc) (.string ⟨n'.toArray⟩) (.string ⟨s'.toArray⟩) (.int .i64 lo') (.slice cA' cm' cc') (.slice hA' hm' hc') 43)
  have H2 := Lib.hid (two2 w (.string ⟨n.toArray⟩) (.string ⟨s.toArray⟩) (.int .i64 lo) (.slice cA cm cc) (.slice hA hm hc) (.string ⟨n'.toArray⟩) (.string ⟨s'.toArray⟩) (.int .i64 lo') (.slice cA' cm' cc') (.slice hA' hm' hc') 43)
  by_cases h1 : n = n'
  · subst h1
    by_cases h2 : s = s'
    · subst h2
      by_cases h3 : lo = lo'
      · subst h3
        by_cases h4 : cd = cd'
        · have hq := decide_eq_true h4
          by_cases h5 : hm = hm'
          · have Hf := Lib.hid (show D = decide (hd = hd') by rw [← hD]; simp [MthT.pure, h4])
            have hb : ((hm : Int) != (hm' : Int)) = false := by rw [h5]; simp
            have hkm : hm' ≤ hm := by omega
            have hmk' : hm ≤ hm' := by omega
            clear h4 h5 hD
            go_enter Tryz.func20, Tryz.ntmps20
            go_wp2_with fail
            refine Calls.mono (InsJ.same_any cA cA' cd cd' cm cm' cc cc' _ Hx.out.code.len Hy.out.code.len (Nat.le_trans Hx.out.code.le Hx.out.code.max) (Hx.out.code.below HB.out).rds (Hy.out.code.below HB.out).rds) ?_
            rw [hq]
            rintro e w3 ⟨rfl, hb3⟩
            have H13 := Lib.hid (H1.out.after hb3)
            have H23 := Lib.hid (H2.out.after hb3)
            obtain ⟨hc0, hc1, hc2, hc3, hc4⟩ := H13.out
            obtain ⟨hd0, hd1, hd2, hd3, hd4⟩ := H23.out
            have Hb3 := Lib.hid (HB.out.trans (hb3.mono HB.out.size))
            have hs3 := Hb3.out.size
            clear hb3
            go_wp2_with fail
            clear hc0 hc1 hc2 hc3 hc4 hd0 hd1 hd2 hd3 hd4
            go_loopw [5] (fun i wr => ∃ j : Nat, j ≤ hm ∧ i = .int .i64 j ∧ hd.take j = hd'.take j ∧ Below w3.heap.size w3 wr) (fun i _ => hm - (intOf i).toNat)
            case atStart => exact ⟨0, Nat.zero_le _, rfl, rfl, Below.refl _ _⟩
            case round =>
              obtain ⟨j, hj, rfl, hsame, hbel⟩ := hrel
              have Hsame := Lib.hid hsame
              obtain ⟨hc0, hc1, hc2, hc3, hc4⟩ := H13.out.after hbel
              obtain ⟨hd0, hd1, hd2, hd3, hd4⟩ := H23.out.after hbel
              have Hbel := Lib.hid (Hb3.out.trans (hbel.mono hs3))
              have Hbel3 := Lib.hid hbel
              clear hsame
              by_cases hlt : j < hm
              · have hja : j < hd.length := by omega
                have hjb : j < hd'.length := by omega
                obtain ⟨b1, o1, rfl, hb1, hx0, hx1, hx2, hx3⟩ := hnd_at (Hx.out.hand.rds.below Hbel.out) hja
                obtain ⟨b2, o2, rfl, hb2, hy0, hy1, hy2, hy3⟩ := hnd_at (Hy.out.hand.rds.below Hbel.out) hjb
                have e1 : hd.take (j + 1) = hd.take j ++ [hd[j]] := List.take_succ_eq_append_getElem hja
                have e2 : hd'.take (j + 1) = hd'.take j ++ [hd'[j]] := List.take_succ_eq_append_getElem hjb
                have hj1 : (j : Int) < (hm : Int) := by omega
                have hj2 : (j : Int) < (hm' : Int) := by omega
                have hj0 : (0 : Int) ≤ (j : Int) := by omega
                have hg := guard_hnd
                have hne := neq_hnd hd[j].frm hd[j].til hd[j].pos hd[j].cls hd'[j].frm hd'[j].til hd'[j].pos hd'[j].cls
                clear hbel
                cases hxy : hd[j].eqb hd'[j]
                · have Hfin := Lib.hid (show D = false by
                    rw [Hf.out, decide_eq_false_iff_not]
                    intro h
                    have : hd[j] = hd'[j] := by subst h; rfl
                    rw [(HndT.iff _ _).2 this] at hxy
                    cases hxy)
                  replace hne := fun W => (hne W).trans (by rw [show hd[j].eqb hd'[j] = false from hxy]; rfl : _ = Result.ok (.bool true) W)
                  clear e1 e2 hxy
                  generalize hd[j] = x at *
                  generalize hd'[j] = y at *
                  obtain ⟨x0, x1, x2, x3⟩ := x
                  obtain ⟨y0, y1, y2, y3⟩ := y
                  simp only at hx0 hx1 hx2 hx3 hy0 hy1 hy2 hy3 hne
                  go_wp2_with fail
                  go_quiet (fail)
                  go_wp2_with fail
                  go_ret
                  exact ⟨by rw [Hfin.out]; rfl, drawn Hbel.out _⟩
                · have he : hd[j] = hd'[j] := (HndT.iff _ _).1 hxy
                  have Hnext := Lib.hid (show hd.take (j + 1) = hd'.take (j + 1) by rw [e1, e2, Hsame.out, he])
                  replace hne := fun W => (hne W).trans (by rw [show hd[j].eqb hd'[j] = true from hxy]; rfl : _ = Result.ok (.bool false) W)
                  clear e1 e2 hxy he
                  generalize hd[j] = x at *
                  generalize hd'[j] = y at *
                  obtain ⟨x0, x1, x2, x3⟩ := x
                  obtain ⟨y0, y1, y2, y3⟩ := y
                  simp only at hx0 hx1 hx2 hx3 hy0 hy1 hy2 hy3 hne
                  go_wp2_with fail
                  go_quiet (fail)
                  go_wp2_with fail
                  go_roundw
                  case rel => exact ⟨j + 1, by omega, by go_num, Hnext.out, drawn Hbel3.out _⟩
                  case measure => simp [intOf]; omega
              · have Hfin := Lib.hid (show D = true by
                  have h := Hsame.out
                  rw [List.take_of_length_le (by omega), List.take_of_length_le (by omega)] at h
                  rw [Hf.out]; simp [h])
                go_wp2_with fail
                go_ret
                exact ⟨by rw [Hfin.out]; rfl, Hbel.out⟩
          · have hb : ((hm : Int) != (hm' : Int)) = true := by simp; omega
            have Hf := Lib.hid (show D = false by
              rw [← hD, decide_eq_false_iff_not]
              intro h
              have : hd = hd' := congrArg MthP.hand h
              subst this
              omega)
            clear h4 h5 hD
            go_enter Tryz.func20, Tryz.ntmps20
            go_wp2_with fail
            refine Calls.mono (InsJ.same_any cA cA' cd cd' cm cm' cc cc' _ Hx.out.code.len Hy.out.code.len (Nat.le_trans Hx.out.code.le Hx.out.code.max) (Hx.out.code.below HB.out).rds (Hy.out.code.below HB.out).rds) ?_
            rw [hq]
            rintro e w3 ⟨rfl, hb3⟩
            obtain ⟨hc0, hc1, hc2, hc3, hc4⟩ := H1.out.after hb3
            obtain ⟨hd0, hd1, hd2, hd3, hd4⟩ := H2.out.after hb3
            have Hb3 := Lib.hid (HB.out.trans (hb3.mono HB.out.size))
            clear hb3
            go_wp2_with fail
            go_ret
            exact ⟨by rw [Hf.out]; rfl, Hb3.out⟩
        · have Hf := Lib.hid (show D = false by rw [← hD]; simp [MthT.pure, h4])
          have hq : decide (cd = cd') = false := decide_eq_false h4
          clear h4 hD
          go_enter Tryz.func20, Tryz.ntmps20
          go_wp2_with fail
          refine Calls.mono (InsJ.same_any cA cA' cd cd' cm cm' cc cc' _ Hx.out.code.len Hy.out.code.len (Nat.le_trans Hx.out.code.le Hx.out.code.max) (Hx.out.code.below HB.out).rds (Hy.out.code.below HB.out).rds) ?_
          rw [hq]
          rintro e w3 ⟨rfl, hb3⟩
          have Hb3 := Lib.hid (HB.out.trans (hb3.mono HB.out.size))
          clear hb3
          go_wp2_with fail
          go_ret
          exact ⟨by rw [Hf.out]; rfl, Hb3.out⟩
      · have Hf := Lib.hid (show D = false by rw [← hD]; simp [MthT.pure, h3])
        have hb : (lo != lo') = true := by simpa using h3
        clear hD
        go_enter Tryz.func20, Tryz.ntmps20
        go_wp2_with fail
        go_ret
        exact ⟨by rw [Hf.out]; rfl, HB.out⟩
    · have Hf := Lib.hid (show D = false by rw [← hD]; simp [MthT.pure, h2])
      have hb : (s != s') = true := by simpa using h2
      clear hD
      go_enter Tryz.func20, Tryz.ntmps20
      go_wp2_with fail
      go_ret
      exact ⟨by rw [Hf.out]; rfl, HB.out⟩
  · have Hf := Lib.hid (show D = false by rw [← hD]; simp [MthT.pure, h1])
    have hb : (n != n') = true := by simpa using h1
    clear hD
    go_enter Tryz.func20, Tryz.ntmps20
    go_wp2_with fail
    go_ret
    exact ⟨by rw [Hf.out]; rfl, HB.out⟩


end Kls
end Go.Proofs.YtgnnkfciphkncaaGreatDoor
