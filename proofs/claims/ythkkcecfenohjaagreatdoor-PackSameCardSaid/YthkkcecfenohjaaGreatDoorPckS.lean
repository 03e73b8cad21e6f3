/-
  Whether a bundle is not too long to be played with: the call tells something.
-/
import Derived.Test.YthkkcecfenohjaaGreatDoorPckM
namespace Go.Proofs.YthkkcecfenohjaaGreatDoor
namespace PckS
open Go.RowKit Base BinM Stru PoolM PoolA PoolJ InsJ Kls Pck
open Part (Row)

def Tells (w : World) (e : Ending) (w' : World) : Prop := ∃ r : Bool, e = .returned (.bool r) ∧ Below w.heap.size w w'
theorem tells {w w' : World} {r : Bool} (hb : Below w.heap.size w w') : Tells w (.returned (.bool r)) w' := ⟨r, rfl, hb⟩

set_option maxRecDepth 100000 in
set_option maxHeartbeats 8000000 in
theorem small_any (x : BunT) (w : World) (hx : x.is w) : Calls Tryz.prog 27 #[x.V] w (Tells w) := by
  obtain ⟨cA, cm, cc, tA, tm, tc, cs, ts⟩ := x
  have hc1 : cs.length ≤ cm := Nat.le_of_eq hx.classes.len.symm
  have hc2 : cm ≤ cs.length := Nat.le_of_eq hx.classes.len
  have hcx : cm ≤ maxLen := Nat.le_trans hx.classes.le hx.classes.max
  have ht1 : ts.length ≤ tm := Nat.le_of_eq hx.turns.len.symm
  have ht2 : tm ≤ ts.length := Nat.le_of_eq hx.turns.len
  have htx : tm ≤ maxLen := Nat.le_trans hx.turns.le hx.turns.max
  unfold maxLen at hcx htx
  have Hc := Lib.hid (show IsClss w cA cm cc cs from hx.classes)
  have Ht := Lib.hid (show IsTrns w tA tm tc ts from hx.turns)
  clear hx
  simp only [BunT.V]
  have HB := Lib.hid ((Below.refl w.heap.size w).alloc (Nat.le_refl _) (.cells #[.slice cA cm cc, .slice tA tm tc] 48))
  have R0 := Lib.hid (Row.new w #[.slice cA cm cc, .slice tA tm tc] 48)
  by_cases h1 : (40 : Int) < (cm : Int)
  · go_enter Tryz.func27, Tryz.ntmps27
    go_wp2_with fail
    go_ret
    exact tells HB.out
  · have d1 : decide ((40 : Int) < (cm : Int)) = false := by simpa using h1
    by_cases h2 : (40 : Int) < (tm : Int)
    · go_enter Tryz.func27, Tryz.ntmps27
      go_wp2_with fail
      go_ret
      exact tells HB.out
    · have d2 : decide ((40 : Int) < (tm : Int)) = false := by simpa using h2
      go_enter Tryz.func27, Tryz.ntmps27
      go_wp2_with fail
      clear d1 d2
      generalize w.alloc (.cells #[.slice cA cm cc, .slice tA tm tc] 48) = W0 at *
      go_loopw [3, 4] (fun n i wr => ∃ (z : Int) (j : Nat), j ≤ cm ∧ i = .int .i64 j ∧ n = .int .i64 z ∧ Below W0.heap.size W0 wr) (fun _ i _ => cm - (intOf i).toNat)
      case atStart => exact ⟨0, 0, Nat.zero_le _, rfl, rfl, Below.refl _ _⟩
      case round =>
        obtain ⟨z, j, hj, rfl, rfl, hbel⟩ := hrel
        have R1 := Lib.hid (R0.out.after hbel)
        have B1 := Lib.hid (HB.out.trans (hbel.mono HB.out.size))
        have Hbel := Lib.hid hbel
        have g0 := R1.out.cell 0
        have g1 := R1.out.cell 1
        clear hbel
        by_cases hlt : j < cm
        · have hja : j < cs.length := by omega
          obtain ⟨b1, o1, rfl, hb1, hx0, hx1, hx2, hx3, hx4⟩ := cls_at (Hc.out.rds.below B1.out) hja
          have hj1 : (j : Int) < (cm : Int) := by omega
          have hj0 : (0 : Int) ≤ (j : Int) := by omega
          have Hy := Lib.hid ((Hc.out.each _ (List.getElem_mem hja)).meths)
          generalize cs[j] = y at *
          obtain ⟨y0, y1, y2, y3, y4, y5, y6, y7, y8, y9, y10, y11, y12, y13⟩ := y
          simp only at hx0 hx1 hx2 hx3 hx4
          have hym : y13.length ≤ y9 := Nat.le_of_eq Hy.out.len.symm
          have hym2 : y9 ≤ y13.length := Nat.le_of_eq Hy.out.len
          have hyx : y9 ≤ maxLen := Nat.le_trans Hy.out.le Hy.out.max
          unfold maxLen at hyx
          have HA := Lib.hid ((Below.refl wr.heap.size wr).alloc (Nat.le_refl _) (.cells #[.string ⟨y0.toArray⟩, .string ⟨y1.toArray⟩, .slice y2 y3 y4, .slice y5 y6 y7, .slice y8 y9 y10] 26))
          have RA := Lib.hid (Row.new wr #[.string ⟨y0.toArray⟩, .string ⟨y1.toArray⟩, .slice y2 y3 y4, .slice y5 y6 y7, .slice y8 y9 y10] 26)
          have BA := Lib.hid (B1.out.trans (HA.out.mono B1.out.size))
          have WA := Lib.hid (Hbel.out.trans (HA.out.mono Hbel.out.size))
          have hcase : (decide ((300 : Int) < (y3 : Int)) = true) ∨ (decide ((300 : Int) < (y3 : Int)) = false ∧ decide ((40 : Int) < (y6 : Int)) = true) ∨ (decide ((300 : Int) < (y3 : Int)) = false ∧ decide ((40 : Int) < (y6 : Int)) = false ∧ decide ((40 : Int) < (y9 : Int)) = true) ∨ (decide ((300 : Int) < (y3 : Int)) = false ∧ decide ((40 : Int) < (y6 : Int)) = false ∧ decide ((40 : Int) < (y9 : Int)) = false) := by
            simp only [decide_eq_true_eq, decide_eq_false_iff_not]; omega
          rcases hcase with e1 | ⟨e1, e2⟩ | ⟨e1, e2, e3⟩ | ⟨e1, e2, e3⟩
          · go_wp2_with fail
            go_ret
            exact tells BA.out
          · go_wp2_with fail
            go_ret
            exact tells BA.out
          · go_wp2_with fail
            go_ret
            exact tells BA.out
          · go_wp2_with fail
            clear e1 e2 e3 g0 g1 hx0 hx1 hx2 hx3 hx4
            generalize wr.alloc (.cells #[.string ⟨y0.toArray⟩, .string ⟨y1.toArray⟩, .slice y2 y3 y4, .slice y5 y6 y7, .slice y8 y9 y10] 26) = W1 at *
            go_loopw [3, 6] (fun n i wr => ∃ (z : Int) (k : Nat), k ≤ y9 ∧ i = .int .i64 k ∧ n = .int .i64 z ∧ Below W1.heap.size W1 wr) (fun _ i _ => y9 - (intOf i).toNat)
            case atStart => exact ⟨z, 0, Nat.zero_le _, rfl, rfl, Below.refl _ _⟩
            case round =>
              obtain ⟨z2, k, hk, rfl, rfl, hbel2⟩ := hrel
              have B2 := Lib.hid (BA.out.trans (hbel2.mono BA.out.size))
              have WB := Lib.hid (WA.out.trans (hbel2.mono WA.out.size))
              have Hbel2 := Lib.hid hbel2
              have r4 := (RA.out.after hbel2).cell 4
              clear hbel2
              by_cases hlt2 : k < y9
              · have hka : k < y13.length := by omega
                obtain ⟨b2, o2, rfl, hb2, hz0, hz1, hz2, hz3, hz4⟩ := mth_at (Hy.out.rds.below B2.out) hka
                have hk1 : (k : Int) < (y9 : Int) := by omega
                have hk0 : (0 : Int) ≤ (k : Int) := by omega
                generalize y13[k].cm = p at *
                generalize y13[k].hm = q at *
                obtain ⟨Z, hZ⟩ : ∃ Z, Z = wrap64 (wrap64 (z2 + (p : Int)) + (q : Int)) := ⟨_, rfl⟩
                have HZ := Lib.hid hZ
                clear hZ
                go_wp2_with fail
                go_quiet (fail)
                rw [← HZ.out]
                cases hD : decide ((4000 : Int) < Z)
                · go_wp2_with fail
                  go_roundw
                  case rel => exact ⟨Z, k + 1, by omega, by go_num, rfl, drawn Hbel2.out _⟩
                  case measure => simp [intOf]; omega
                · go_wp2_with fail
                  go_ret
                  exact tells (drawn B2.out _)
              · go_wp2_with fail
                go_roundw
                case rel => exact ⟨z2, j + 1, by omega, by go_num, rfl, WB.out⟩
                case measure => simp [intOf]; omega
        · go_wp2_with fail
          clear g0 g1
          obtain ⟨wo, hwo⟩ : ∃ wo : World, wo = wr := ⟨_, rfl⟩
          subst hwo
          go_loopw [3, 7] (fun n i wr => ∃ (z : Int) (j : Nat), j ≤ tm ∧ i = .int .i64 j ∧ n = .int .i64 z ∧ Below wo.heap.size wo wr) (fun _ i _ => tm - (intOf i).toNat)
          case atStart => exact ⟨z, 0, Nat.zero_le _, rfl, rfl, Below.refl _ _⟩
          case round =>
            obtain ⟨z, j, hj, rfl, rfl, hbel⟩ := hrel
            have R1 := Lib.hid (R1.out.after hbel)
            have B1 := Lib.hid (B1.out.trans (hbel.mono B1.out.size))
            have Hbel := Lib.hid hbel
            have g1 := R1.out.cell 1
            clear hbel
            by_cases hlt : j < tm
            · have hja : j < ts.length := by omega
              obtain ⟨b1, o1, rfl, hb1, hx0, hx1, hx2⟩ := trn_at (Ht.out.rds.below B1.out) hja
              have hj1 : (j : Int) < (tm : Int) := by omega
              have hj0 : (0 : Int) ≤ (j : Int) := by omega
              have Hy := Lib.hid ((Ht.out.each _ (List.getElem_mem hja)).moves)
              generalize ts[j] = y at *
              obtain ⟨y0, y1, y2, y3, y4, y5, y6, y7, y8⟩ := y
              simp only at hx0 hx1 hx2
              have hym : y8.length ≤ y5 := Nat.le_of_eq Hy.out.len.symm
              have hym2 : y5 ≤ y8.length := Nat.le_of_eq Hy.out.len
              have hyx : y5 ≤ maxLen := Nat.le_trans Hy.out.le Hy.out.max
              unfold maxLen at hyx
              have HA := Lib.hid ((Below.refl wr.heap.size wr).alloc (Nat.le_refl _) (.cells #[.string ⟨y0.toArray⟩, .slice y1 y2 y3, .slice y4 y5 y6] 103))
              have RA := Lib.hid (Row.new wr #[.string ⟨y0.toArray⟩, .slice y1 y2 y3, .slice y4 y5 y6] 103)
              have BA := Lib.hid (B1.out.trans (HA.out.mono B1.out.size))
              have WA := Lib.hid (Hbel.out.trans (HA.out.mono Hbel.out.size))
              have hcase : (decide ((300 : Int) < (y2 : Int)) = true) ∨ (decide ((300 : Int) < (y2 : Int)) = false ∧ decide ((40 : Int) < (y5 : Int)) = true) ∨ (decide ((300 : Int) < (y2 : Int)) = false ∧ decide ((40 : Int) < (y5 : Int)) = false) := by
                simp only [decide_eq_true_eq, decide_eq_false_iff_not]; omega
              rcases hcase with e1 | ⟨e1, e2⟩ | ⟨e1, e2⟩
              · go_wp2_with fail
                go_ret
                exact tells BA.out
              · go_wp2_with fail
                go_ret
                exact tells BA.out
              · go_wp2_with fail
                clear e1 e2 g1 hx0 hx1 hx2
                generalize wr.alloc (.cells #[.string ⟨y0.toArray⟩, .slice y1 y2 y3, .slice y4 y5 y6] 103) = W1 at *
                go_loopw [3, 9] (fun n i wr => ∃ (z : Int) (k : Nat), k ≤ y5 ∧ i = .int .i64 k ∧ n = .int .i64 z ∧ Below W1.heap.size W1 wr) (fun _ i _ => y5 - (intOf i).toNat)
                case atStart => exact ⟨z, 0, Nat.zero_le _, rfl, rfl, Below.refl _ _⟩
                case round =>
                  obtain ⟨z2, k, hk, rfl, rfl, hbel2⟩ := hrel
                  have B2 := Lib.hid (BA.out.trans (hbel2.mono BA.out.size))
                  have WB := Lib.hid (WA.out.trans (hbel2.mono WA.out.size))
                  have Hbel2 := Lib.hid hbel2
                  have r4 := (RA.out.after hbel2).cell 2
                  clear hbel2
                  by_cases hlt2 : k < y5
                  · have hka : k < y8.length := by omega
                    obtain ⟨b2, o2, rfl, hb2, hz0, hz1, hz2, hz3⟩ := mov_at (Hy.out.rds.below B2.out) hka
                    have hk1 : (k : Int) < (y5 : Int) := by omega
                    have hk0 : (0 : Int) ≤ (k : Int) := by omega
                    generalize y8[k].cm = p at *
                    cases hD : decide ((4000 : Int) < wrap64 (z2 + (p : Int)))
                    · go_wp2_with fail
                      go_roundw
                      case rel => exact ⟨_, k + 1, by omega, by go_num, rfl, Hbel2.out⟩
                      case measure => simp [intOf]; omega
                    · go_wp2_with fail
                      go_ret
                      exact tells B2.out
                  · go_wp2_with fail
                    go_roundw
                    case rel => exact ⟨z2, j + 1, by omega, by go_num, rfl, WB.out⟩
                    case measure => simp [intOf]; omega
            · go_wp2_with fail
              go_ret
              exact tells B1.out

end PckS
end Go.Proofs.YthkkcecfenohjaaGreatDoor
