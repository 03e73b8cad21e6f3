/-
  When bundles are alike, by the document's own.
-/
import Derived.Test.YthkkcecfenohjaaGreatDoorPckM
namespace Go.Proofs.YthkkcecfenohjaaGreatDoor
namespace PckR
open Go.RowKit Base BinM Stru PoolM PoolA PoolJ InsJ Kls Pck
open Part (Row)

set_option maxRecDepth 100000 in
set_option maxHeartbeats 16000000 in
theorem refSameB_any (x y : BunT) (w : World) (hx : x.is w) (hy : y.is w) :
    Calls Tryz.prog 38 #[x.V, y.V] w fun e w' => e = .returned (.bool (x.same y)) ∧ Below w.heap.size w w' := by
  obtain ⟨cA, cm, cc, tA, tm, tc, cs, ts⟩ := x
  obtain ⟨cA', cm', cc', tA', tm', tc', cs', ts'⟩ := y
  have hc1 : cs.length ≤ cm := Nat.le_of_eq hx.classes.len.symm
  have hc2 : cm ≤ cs.length := Nat.le_of_eq hx.classes.len
  have hcx : cm ≤ maxLen := Nat.le_trans hx.classes.le hx.classes.max
  have hc1' : cs'.length ≤ cm' := Nat.le_of_eq hy.classes.len.symm
  have hc2' : cm' ≤ cs'.length := Nat.le_of_eq hy.classes.len
  have ht1 : ts.length ≤ tm := Nat.le_of_eq hx.turns.len.symm
  have ht2 : tm ≤ ts.length := Nat.le_of_eq hx.turns.len
  have htx : tm ≤ maxLen := Nat.le_trans hx.turns.le hx.turns.max
  have ht1' : ts'.length ≤ tm' := Nat.le_of_eq hy.turns.len.symm
  have ht2' : tm' ≤ ts'.length := Nat.le_of_eq hy.turns.len
  unfold maxLen at hcx htx
  have Hc := Lib.hid (show IsClss w cA cm cc cs from hx.classes)
  have Hc' := Lib.hid (show IsClss w cA' cm' cc' cs' from hy.classes)
  have Ht := Lib.hid (show IsTrns w tA tm tc ts from hx.turns)
  have Ht' := Lib.hid (show IsTrns w tA' tm' tc' ts' from hy.turns)
  clear hx hy
  have Hno1 := Lib.hid (fun (h : ¬ cs.map ClsT.pure = cs'.map ClsT.pure) => show BunT.same ⟨cA, cm, cc, tA, tm, tc, cs, ts⟩ ⟨cA', cm', cc', tA', tm', tc', cs', ts'⟩ = false by simp [BunT.same, h])
  have Hno2 := Lib.hid (fun (h : ¬ ts.map TrnT.pure = ts'.map TrnT.pure) => show BunT.same ⟨cA, cm, cc, tA, tm, tc, cs, ts⟩ ⟨cA', cm', cc', tA', tm', tc', cs', ts'⟩ = false by simp [BunT.same, h])
  have Hyes := Lib.hid (fun (h : cs.map ClsT.pure = cs'.map ClsT.pure) (h2 : ts.map TrnT.pure = ts'.map TrnT.pure) => show BunT.same ⟨cA, cm, cc, tA, tm, tc, cs, ts⟩ ⟨cA', cm', cc', tA', tm', tc', cs', ts'⟩ = true by simp [BunT.same, h, h2])
  generalize BunT.same _ _ = D at *
  simp only [BunT.V]
  have HP := Lib.hid (pair w #[.slice cA cm cc, .slice tA tm tc] #[.slice cA' cm' cc', .slice tA' tm' tc'] 48 48)
  by_cases hl1 : cm = cm'
  · by_cases hl2 : tm = tm'
    · have e1 : ((cm : Int) != (cm' : Int)) = false := by rw [hl1]; simp
      have e2 : ((tm : Int) != (tm' : Int)) = false := by rw [hl2]; simp
      have hcm1 : cm ≤ cm' := by omega
      have hcm2 : cm' ≤ cm := by omega
      have htm1 : tm ≤ tm' := by omega
      have htm2 : tm' ≤ tm := by omega
      clear hl1 hl2
      go_enter Tryz.func38, Tryz.ntmps38
      go_wp2_with fail
      clear e1 e2
      generalize ((w.alloc (.cells #[.slice cA cm cc, .slice tA tm tc] 48)).alloc (.cells #[.slice cA' cm' cc', .slice tA' tm' tc'] 48)) = W0 at *
      go_loopw [5] (fun i wr => ∃ (j : Nat), j ≤ cm ∧ i = .int .i64 j ∧ (cs.map ClsT.pure).take j = (cs'.map ClsT.pure).take j ∧ Below W0.heap.size W0 wr) (fun i _ => cm - (intOf i).toNat)
      case atStart => exact ⟨0, Nat.zero_le _, rfl, rfl, Below.refl _ _⟩
      case round =>
        obtain ⟨j, hj, rfl, hsame, hbel⟩ := hrel
        have Hsame := Lib.hid hsame
        have R1 := Lib.hid (HP.out.1.after hbel)
        have R2 := Lib.hid (HP.out.2.1.after hbel)
        have B1 := Lib.hid (HP.out.2.2.trans (hbel.mono HP.out.2.2.size))
        have Hbel := Lib.hid hbel
        clear hsame hbel
        by_cases hlt : j < cm
        · have hja : j < cs.length := by omega
          have hjb : j < cs'.length := by omega
          obtain ⟨b1, o1, rfl, hb1, hx0, hx1, hx2, hx3, hx4⟩ := cls_at (Hc.out.rds.below B1.out) hja
          obtain ⟨b2, o2, rfl, hb2, hy0, hy1, hy2, hy3, hy4⟩ := cls_at (Hc'.out.rds.below B1.out) hjb
          have hj1 : (j : Int) < (cm : Int) := by omega
          have hj2 : (j : Int) < (cm' : Int) := by omega
          have hj0 : (0 : Int) ≤ (j : Int) := by omega
          have hcon := fun (W : World) (hb : Below w.heap.size w W) => refSame_any _ _ W ((Hc.out.each _ (List.getElem_mem hja)).below hb) ((Hc'.out.each _ (List.getElem_mem hjb)).below hb)
          have Hno := Lib.hid (fun (h : (cs[j]'hja).pure ≠ (cs'[j]'hjb).pure) => map_ne hja hjb h)
          have Hye := Lib.hid (fun (h : (cs[j]'hja).pure = (cs'[j]'hjb).pure) => map_take hja hjb Hsame.out h)
          simp only [same_pure] at hcon
          generalize cs[j] = x at *
          generalize cs'[j] = y at *
          generalize hq : decide (x.pure = y.pure) = Q at *
          have Hq1 := Lib.hid (fun (h : Q = true) => Hye.out (of_decide_eq_true (hq.trans h)))
          have Hq2 := Lib.hid (fun (h : Q = false) => Hno.out (of_decide_eq_false (hq.trans h)))
          clear hq
          obtain ⟨x0, x1, x2, x3, x4, x5, x6, x7, x8, x9, x10, x11, x12, x13⟩ := x
          obtain ⟨y0, y1, y2, y3, y4, y5, y6, y7, y8, y9, y10, y11, y12, y13⟩ := y
          simp only [ClsT.V] at hcon hx0 hx1 hx2 hx3 hx4 hy0 hy1 hy2 hy3 hy4
          have Hcon := Lib.hid hcon
          clear hcon
          have g0 : wr.cell? ⟨w.heap.size, 0, none⟩ = some (.slice (some ⟨b1, o1, none⟩) cm cc) := R1.out.cell 0
          have g1 : wr.cell? ⟨w.heap.size + 1, 0, none⟩ = some (.slice (some ⟨b2, o2, none⟩) cm' cc') := R2.out.cell 0
          go_wp2_with fail
          go_region_held3 (fun w' => w'.cell? ⟨w.heap.size, 0, none⟩ = some (.slice (some ⟨b1, o1, none⟩) cm cc) ∧ w'.cell? ⟨w.heap.size + 1, 0, none⟩ = some (.slice (some ⟨b2, o2, none⟩) cm' cc') ∧ w'.cell? ⟨b1, o1 + j * 5, none⟩ = some (.string ⟨x0.toArray⟩) ∧ w'.cell? ⟨b1, o1 + j * 5 + 1, none⟩ = some (.string ⟨x1.toArray⟩) ∧ w'.cell? ⟨b1, o1 + j * 5 + 2, none⟩ = some (.slice x2 x3 x4) ∧ w'.cell? ⟨b1, o1 + j * 5 + 3, none⟩ = some (.slice x5 x6 x7) ∧ w'.cell? ⟨b1, o1 + j * 5 + 4, none⟩ = some (.slice x8 x9 x10) ∧ w'.cell? ⟨b2, o2 + j * 5, none⟩ = some (.string ⟨y0.toArray⟩) ∧ w'.cell? ⟨b2, o2 + j * 5 + 1, none⟩ = some (.string ⟨y1.toArray⟩) ∧ w'.cell? ⟨b2, o2 + j * 5 + 2, none⟩ = some (.slice y2 y3 y4) ∧ w'.cell? ⟨b2, o2 + j * 5 + 3, none⟩ = some (.slice y5 y6 y7) ∧ w'.cell? ⟨b2, o2 + j * 5 + 4, none⟩ = some (.slice y8 y9 y10))
            (first | exact ⟨g0, g1, hx0, hx1, hx2, hx3, hx4, hy0, hy1, hy2, hy3, hy4⟩ | go_keep)
            (first
              | (go_at_call 22; refine Calls.mono (Hcon.out _ B1.out.drew) ?_; rintro e w3 ⟨rfl, hb⟩
                 have K3 := Lib.hid (Hbel.out.drew.trans (hb.mono Hbel.out.size))
                 have q0 := Lib.hid ((hb.cell (p := ⟨w.heap.size, 0, none⟩) R1.out.lt).trans g0)
                 have q1 := Lib.hid ((hb.cell (p := ⟨w.heap.size + 1, 0, none⟩) R2.out.lt).trans g1)
                 have X := Lib.hid (And.intro ((hb.cell (p := ⟨b1, o1 + j * 5, none⟩) hb1).trans hx0) (And.intro ((hb.cell (p := ⟨b1, o1 + j * 5 + 1, none⟩) hb1).trans hx1) (And.intro ((hb.cell (p := ⟨b1, o1 + j * 5 + 2, none⟩) hb1).trans hx2) (And.intro ((hb.cell (p := ⟨b1, o1 + j * 5 + 3, none⟩) hb1).trans hx3) ((hb.cell (p := ⟨b1, o1 + j * 5 + 4, none⟩) hb1).trans hx4)))))
                 have Y := Lib.hid (And.intro ((hb.cell (p := ⟨b2, o2 + j * 5, none⟩) hb2).trans hy0) (And.intro ((hb.cell (p := ⟨b2, o2 + j * 5 + 1, none⟩) hb2).trans hy1) (And.intro ((hb.cell (p := ⟨b2, o2 + j * 5 + 2, none⟩) hb2).trans hy2) (And.intro ((hb.cell (p := ⟨b2, o2 + j * 5 + 3, none⟩) hb2).trans hy3) ((hb.cell (p := ⟨b2, o2 + j * 5 + 4, none⟩) hb2).trans hy4)))))
                 clear hb g0 g1 hx0 hx1 hx2 hx3 hx4 hy0 hy1 hy2 hy3 hy4
                 have g0 := q0.out
                 have g1 := q1.out
                 obtain ⟨hx0, hx1, hx2, hx3, hx4⟩ := X.out
                 obtain ⟨hy0, hy1, hy2, hy3, hy4⟩ := Y.out))
          all_goals
            cases Q
            · have Hq := Lib.hid (Hno1.out (Hq2.out rfl))
              go_wp2_with fail
              go_ret
              exact ⟨by rw [Hq.out]; rfl, HP.out.2.2.trans (K3.out.mono HP.out.2.2.size)⟩
            · have Hq := Lib.hid (Hq1.out rfl)
              go_wp2_with fail
              go_roundw
              case rel => exact ⟨j + 1, by omega, by go_num, Hq.out, K3.out⟩
              case measure => simp [intOf]; omega
        · have Hall := Lib.hid (show cs.map ClsT.pure = cs'.map ClsT.pure by
            have h := Hsame.out
            rwa [List.take_of_length_le (by simp; omega), List.take_of_length_le (by simp; omega)] at h)
          have g0 := R1.out.cell 0
          go_wp2_with fail
          clear g0
          obtain ⟨wo, hwo⟩ : ∃ wo : World, wo = wr := ⟨_, rfl⟩
          subst hwo
          go_loopw [6] (fun i wr => ∃ (j : Nat), j ≤ tm ∧ i = .int .i64 j ∧ (ts.map TrnT.pure).take j = (ts'.map TrnT.pure).take j ∧ Below wo.heap.size wo wr) (fun i _ => tm - (intOf i).toNat)
          case atStart => exact ⟨0, Nat.zero_le _, rfl, rfl, Below.refl _ _⟩
          case round =>
            obtain ⟨j, hj, rfl, hsame, hbel⟩ := hrel
            have Hsame := Lib.hid hsame
            have R1 := Lib.hid (R1.out.after hbel)
            have R2 := Lib.hid (R2.out.after hbel)
            have B1 := Lib.hid (B1.out.trans (hbel.mono B1.out.size))
            have Hbel := Lib.hid hbel
            clear hsame hbel
            have g0 := R1.out.cell 1
            by_cases hlt : j < tm
            · have hja : j < ts.length := by omega
              have hjb : j < ts'.length := by omega
              obtain ⟨b1, o1, rfl, hb1, hx0, hx1, hx2⟩ := trn_at (Ht.out.rds.below B1.out) hja
              obtain ⟨b2, o2, rfl, hb2, hy0', hy1', hy2'⟩ := trn_at (Ht'.out.rds.below B1.out) hjb
              have hj1 : (j : Int) < (tm : Int) := by omega
              have hj2 : (j : Int) < (tm' : Int) := by omega
              have hj0 : (0 : Int) ≤ (j : Int) := by omega
              have hxi := Lib.hid ((Ht.out.each _ (List.getElem_mem hja)).below B1.out)
              have hyi := Lib.hid ((Ht'.out.each _ (List.getElem_mem hjb)).below B1.out)
              have Hno := Lib.hid (fun (h : (ts[j]'hja).pure ≠ (ts'[j]'hjb).pure) => map_ne hja hjb h)
              have Hye := Lib.hid (fun (h : (ts[j]'hja).pure = (ts'[j]'hjb).pure) => map_take hja hjb Hsame.out h)
              generalize ts[j] = x at *
              generalize ts'[j] = y at *
              obtain ⟨x0, x1, x2, x3, x4, x5, x6, x7, x8⟩ := x
              obtain ⟨y0, y1, y2, y3, y4, y5, y6, y7, y8⟩ := y
              have HQ := Lib.hid (pair wr #[.string ⟨x0.toArray⟩, .slice x1 x2 x3, .slice x4 x5 x6] #[.string ⟨y0.toArray⟩, .slice y1 y2 y3, .slice y4 y5 y6] 103 103)
              have hA1 := (Below.refl wr.heap.size wr).alloc (Nat.le_refl _) (.cells #[.string ⟨x0.toArray⟩, .slice x1 x2 x3, .slice x4 x5 x6] 103)
              have g1 := (R2.out.after hA1).cell 1
              have hy0 := (hA1.cell (p := ⟨b2, o2 + j * 3, none⟩) hb2).trans hy0'
              have hy1 := (hA1.cell (p := ⟨b2, o2 + j * 3 + 1, none⟩) hb2).trans hy1'
              have hy2 := (hA1.cell (p := ⟨b2, o2 + j * 3 + 2, none⟩) hb2).trans hy2'
              clear hA1 hy0' hy1' hy2'
              simp only at hx0 hx1 hx2 hy0 hy1 hy2
              have BQ := Lib.hid (B1.out.trans (HQ.out.2.2.mono B1.out.size))
              have WQ := Lib.hid (Hbel.out.trans (HQ.out.2.2.mono Hbel.out.size))
              by_cases q1 : x0 = y0
              · subst q1
                by_cases q2 : x7 = y7
                · have hq2 := decide_eq_true q2
                  by_cases q3 : x5 = y5
                  · have e3 : ((x5 : Int) != (y5 : Int)) = false := by rw [q3]; simp
                    have hx51 : x8.length ≤ x5 := Nat.le_of_eq hxi.out.moves.len.symm
                    have hx52 : x5 ≤ x8.length := Nat.le_of_eq hxi.out.moves.len
                    have hx5x : x5 ≤ maxLen := Nat.le_trans hxi.out.moves.le hxi.out.moves.max
                    have hy51 : y8.length ≤ y5 := Nat.le_of_eq hyi.out.moves.len.symm
                    have hy52 : y5 ≤ y8.length := Nat.le_of_eq hyi.out.moves.len
                    have h55 : x5 ≤ y5 := by omega
                    have h55' : y5 ≤ x5 := by omega
                    unfold maxLen at hx5x
                    have Hm := Lib.hid hxi.out.moves
                    have Hm' := Lib.hid hyi.out.moves
                    have Hno3 := Lib.hid (fun (h : ¬ x8.map MovT.pure = y8.map MovT.pure) => Hno.out (by simp [TrnT.pure, h]))
                    have Hye3 := Lib.hid (fun (h : x8.map MovT.pure = y8.map MovT.pure) => Hye.out (by simp [TrnT.pure, q2, h]))
                    clear q2 q3
                    go_wp2_with fail
                    refine Calls.mono (sameCs_any _ _ x7 y7 _ _ _ _ _ hxi.out.consts.len hyi.out.consts.len (Nat.le_trans hxi.out.consts.le hxi.out.consts.max) (hxi.out.consts.below HQ.out.2.2).rds (hyi.out.consts.below HQ.out.2.2).rds) ?_
                    rw [hq2]
                    rintro e w3 ⟨rfl, hb3⟩
                    have B3 := Lib.hid (BQ.out.trans (hb3.mono BQ.out.size))
                    have W3 := Lib.hid (WQ.out.trans (hb3.mono WQ.out.size))
                    have M3 := Lib.hid (HQ.out.2.2.trans (hb3.mono HQ.out.2.2.size))
                    have T1 := Lib.hid (HQ.out.1.after hb3)
                    have T2 := Lib.hid (HQ.out.2.1.after hb3)
                    have g2 := T1.out.cell 2
                    have g3 := T2.out.cell 2
                    clear hb3 hq2 g0 g1 hx0 hx1 hx2 hy0 hy1 hy2
                    go_wp2_with fail
                    clear g2 g3 e3
                    go_loopw [9] (fun i wr => ∃ (k : Nat), k ≤ x5 ∧ i = .int .i64 k ∧ (x8.map MovT.pure).take k = (y8.map MovT.pure).take k ∧ Below w3.heap.size w3 wr) (fun i _ => x5 - (intOf i).toNat)
                    case atStart => exact ⟨0, Nat.zero_le _, rfl, rfl, Below.refl _ _⟩
                    case round =>
                      obtain ⟨k, hk, rfl, hsame2, hbel2⟩ := hrel
                      have Hsame2 := Lib.hid hsame2
                      have T1 := Lib.hid (T1.out.after hbel2)
                      have T2 := Lib.hid (T2.out.after hbel2)
                      have B4 := Lib.hid (B3.out.trans (hbel2.mono B3.out.size))
                      have W4 := Lib.hid (W3.out.trans (hbel2.mono W3.out.size))
                      have M4 := Lib.hid (M3.out.trans (hbel2.mono M3.out.size))
                      have Hbel2 := Lib.hid hbel2
                      clear hsame2 hbel2
                      have g2 := T1.out.cell 2
                      by_cases hlt2 : k < x5
                      · have hka : k < x8.length := by omega
                        have hkb : k < y8.length := by omega
                        obtain ⟨b3, o3, rfl, hb3, hm0, hm1, hm2, hm3⟩ := mov_at (Hm.out.rds.below M4.out) hka
                        obtain ⟨b4, o4, rfl, hb4, hn0', hn1', hn2', hn3'⟩ := mov_at (Hm'.out.rds.below M4.out) hkb
                        have hk1 : (k : Int) < (x5 : Int) := by omega
                        have hk2 : (k : Int) < (y5 : Int) := by omega
                        have hk0 : (0 : Int) ≤ (k : Int) := by omega
                        have hmi := Lib.hid ((Hm.out.each _ (List.getElem_mem hka)).below M4.out)
                        have hni := Lib.hid ((Hm'.out.each _ (List.getElem_mem hkb)).below M4.out)
                        have Hno4 := Lib.hid (fun (h : (x8[k]'hka).pure ≠ (y8[k]'hkb).pure) => map_ne hka hkb h)
                        have Hye4 := Lib.hid (fun (h : (x8[k]'hka).pure = (y8[k]'hkb).pure) => map_take hka hkb Hsame2.out h)
                        generalize x8[k] = u at *
                        generalize y8[k] = v at *
                        obtain ⟨u0, u1, u2, u3, u4, u5, u6⟩ := u
                        obtain ⟨v0, v1, v2, v3, v4, v5, v6⟩ := v
                        have HU := Lib.hid (pair wr #[.string ⟨u0.toArray⟩, .int .i64 u1, .string ⟨u2.toArray⟩, .slice u3 u4 u5] #[.string ⟨v0.toArray⟩, .int .i64 v1, .string ⟨v2.toArray⟩, .slice v3 v4 v5] 105 105)
                        have hA1 := (Below.refl wr.heap.size wr).alloc (Nat.le_refl _) (.cells #[.string ⟨u0.toArray⟩, .int .i64 u1, .string ⟨u2.toArray⟩, .slice u3 u4 u5] 105)
                        have g3 := (T2.out.after hA1).cell 2
                        have hn0 := (hA1.cell (p := ⟨b4, o4 + k * 4, none⟩) hb4).trans hn0'
                        have hn1 := (hA1.cell (p := ⟨b4, o4 + k * 4 + 1, none⟩) hb4).trans hn1'
                        have hn2 := (hA1.cell (p := ⟨b4, o4 + k * 4 + 2, none⟩) hb4).trans hn2'
                        have hn3 := (hA1.cell (p := ⟨b4, o4 + k * 4 + 3, none⟩) hb4).trans hn3'
                        clear hA1 hn0' hn1' hn2' hn3'
                        simp only at hm0 hm1 hm2 hm3 hn0 hn1 hn2 hn3
                        have BU := Lib.hid (B4.out.trans (HU.out.2.2.mono B4.out.size))
                        have KU := Lib.hid (Hbel2.out.trans (HU.out.2.2.mono Hbel2.out.size))
                        by_cases p1 : u0 = v0
                        · subst p1
                          by_cases p2 : u1 = v1
                          · subst p2
                            by_cases p3 : u2 = v2
                            · subst p3
                              generalize hR : decide (u6 = v6) = R at *
                              have Hr1 := Lib.hid (fun (h : R = true) => Hye4.out (by have := of_decide_eq_true (hR.trans h); simp [MovT.pure, this]))
                              have Hr2 := Lib.hid (fun (h : R = false) => Hno2.out (Hno3.out (Hno4.out (by have := of_decide_eq_false (hR.trans h); simp [MovT.pure, this]))))
                              have hcon := fun (W : World) (hb : Below wr.heap.size wr W) => InsJ.same_any _ _ u6 v6 _ _ u5 v5 W hmi.out.code.len hni.out.code.len (Nat.le_trans hmi.out.code.le hmi.out.code.max) (hmi.out.code.below hb).rds (hni.out.code.below hb).rds
                              simp only [hR] at hcon
                              have Hcon := Lib.hid hcon
                              clear hcon hR
                              go_wp2_with fail
                              refine Calls.mono (Hcon.out _ HU.out.2.2) ?_
                              rintro e w5 ⟨rfl, hb5⟩
                              have B5 := Lib.hid (BU.out.trans (hb5.mono BU.out.size))
                              have K5 := Lib.hid (KU.out.trans (hb5.mono KU.out.size))
                              clear hb5 hm0 hm1 hm2 hm3 hn0 hn1 hn2 hn3 g2 g3
                              cases R
                              · have Hq := Lib.hid (Hr2.out rfl)
                                go_wp2_with fail
                                go_ret
                                exact ⟨by rw [Hq.out]; rfl, B5.out⟩
                              · have Hq := Lib.hid (Hr1.out rfl)
                                go_wp2_with fail
                                go_roundw
                                case rel => exact ⟨k + 1, by omega, by go_num, Hq.out, K5.out⟩
                                case measure => simp [intOf]; omega
                            · have Hq := Lib.hid (Hno2.out (Hno3.out (Hno4.out (by simp [MovT.pure, p3]))))
                              go_wp2_with fail
                              go_ret
                              exact ⟨by rw [Hq.out]; rfl, BU.out⟩
                          · have Hq := Lib.hid (Hno2.out (Hno3.out (Hno4.out (by simp [MovT.pure, p2]))))
                            go_wp2_with fail
                            go_ret
                            exact ⟨by rw [Hq.out]; rfl, BU.out⟩
                        · have Hq := Lib.hid (Hno2.out (Hno3.out (Hno4.out (by simp [MovT.pure, p1]))))
                          go_wp2_with fail
                          go_ret
                          exact ⟨by rw [Hq.out]; rfl, BU.out⟩
                      · have Hq := Lib.hid (Hye3.out (by
                          have h := Hsame2.out
                          rwa [List.take_of_length_le (by simp; omega), List.take_of_length_le (by simp; omega)] at h))
                        go_wp2_with fail
                        go_roundw
                        case rel => exact ⟨j + 1, by omega, by go_num, Hq.out, W4.out⟩
                        case measure => simp [intOf]; omega
                  · have e3 : ((x5 : Int) != (y5 : Int)) = true := by simp; omega
                    have Hq := Lib.hid (Hno2.out (Hno.out (by
                      simp only [TrnT.pure, ne_eq, TrnP.mk.injEq, not_and]
                      intro _ _ h
                      have h1 := congrArg List.length h
                      have h2 := hxi.out.moves.len
                      have h3 := hyi.out.moves.len
                      simp at h1 h2 h3
                      omega)))
                    clear q2 q3
                    go_wp2_with fail
                    refine Calls.mono (sameCs_any _ _ x7 y7 _ _ _ _ _ hxi.out.consts.len hyi.out.consts.len (Nat.le_trans hxi.out.consts.le hxi.out.consts.max) (hxi.out.consts.below HQ.out.2.2).rds (hyi.out.consts.below HQ.out.2.2).rds) ?_
                    rw [hq2]
                    rintro e w3 ⟨rfl, hb3⟩
                    have B3 := Lib.hid (BQ.out.trans (hb3.mono BQ.out.size))
                    have g2 := (HQ.out.1.after hb3).cell 2
                    have g3 := (HQ.out.2.1.after hb3).cell 2
                    clear hb3 hq2
                    go_wp2_with fail
                    go_ret
                    exact ⟨by rw [Hq.out]; rfl, B3.out⟩
                · have hq2 := decide_eq_false q2
                  have Hq := Lib.hid (Hno2.out (Hno.out (by simp [TrnT.pure, q2])))
                  clear q2
                  go_wp2_with fail
                  refine Calls.mono (sameCs_any _ _ x7 y7 _ _ _ _ _ hxi.out.consts.len hyi.out.consts.len (Nat.le_trans hxi.out.consts.le hxi.out.consts.max) (hxi.out.consts.below HQ.out.2.2).rds (hyi.out.consts.below HQ.out.2.2).rds) ?_
                  rw [hq2]
                  rintro e w3 ⟨rfl, hb3⟩
                  have B3 := Lib.hid (BQ.out.trans (hb3.mono BQ.out.size))
                  clear hb3 hq2
                  go_wp2_with fail
                  go_ret
                  exact ⟨by rw [Hq.out]; rfl, B3.out⟩
              · have Hq := Lib.hid (Hno2.out (Hno.out (by simp [TrnT.pure, q1])))
                go_wp2_with fail
                go_ret
                exact ⟨by rw [Hq.out]; rfl, BQ.out⟩
            · have Hq := Lib.hid (Hyes.out Hall.out (by
                have h := Hsame.out
                rwa [List.take_of_length_le (by simp; omega), List.take_of_length_le (by simp; omega)] at h))
              go_wp2_with fail
              go_ret
              exact ⟨by rw [Hq.out]; rfl, B1.out⟩
    · have e1 : ((cm : Int) != (cm' : Int)) = false := by rw [hl1]; simp
      have e2 : ((tm : Int) != (tm' : Int)) = true := by simp; omega
      have Hq := Lib.hid (Hno2.out (by intro h; have := congrArg List.length h; simp at this; omega))
      clear hl1 hl2
      go_enter Tryz.func38, Tryz.ntmps38
      go_wp2_with fail
      go_ret
      exact ⟨by rw [Hq.out]; rfl, HP.out.2.2⟩
  · have e1 : ((cm : Int) != (cm' : Int)) = true := by simp; omega
    have Hq := Lib.hid (Hno1.out (by intro h; have := congrArg List.length h; simp at this; omega))
    clear hl1
    go_enter Tryz.func38, Tryz.ntmps38
    go_wp2_with fail
    go_ret
    exact ⟨by rw [Hq.out]; rfl, HP.out.2.2⟩

end PckR
end Go.Proofs.YthkkcecfenohjaaGreatDoor
