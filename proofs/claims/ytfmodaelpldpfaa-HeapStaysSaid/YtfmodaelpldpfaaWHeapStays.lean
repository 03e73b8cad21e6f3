/-
  Law HeapStays: whatever is made and written besides, what was not written into stays.
-/
import Derived.Test.YtfmodaelpldpfaaHpV
import Derived.Test.YtfmodaelpldpfaaOpenA
import Derived.Deep.RegionWith
import Derived.Deep.CutBlock
import Derived.Deep.DeepCutAuto
namespace Go.Proofs.Ytfmodaelpldpfaa
namespace WHeapStays
open Go.RowKit Base BinM HpM HpA HpS HpB HpG HpP HpT HpZ HpK HpV

theorem refUsed_nil {w : World} {g c : Nat} {most : Int} (h : Bx w g #[.int .i64 most, .slice none 0 c] 47) :
    Calls Try.prog 14 #[.pointer (some ⟨g, 0, none⟩)] w fun e w' => e = .returned (.int .i64 0) ∧ w = w' := by
  have c1 := h.cell 1
  clear h
  go_enter Try.func14, Try.ntmps14
  go_wp2
  go_loopw [3, 4] (fun s i wr => s = .int .i64 0 ∧ i = .int .i64 0 ∧ w = wr) (fun _ _ _ => 0)
  case atStart => exact ⟨rfl, rfl, rfl⟩
  case round =>
    obtain ⟨rfl, rfl, rfl⟩ := hrel
    go_wp2
    go_ret
    exact ⟨rfl, rfl⟩

set_option maxRecDepth 100000 in
set_option maxHeartbeats 16000000 in
theorem walk (a0 : Option Addr) (m0 c0 : Nat) (l0 : List Int) (a1 : Int) (a2 : Int) (a3 : Option Addr) (m3 c3 : Nat) (l3 : List OpenA.ActT) (w : World) (w0 : IsInts w a0 m0 c0 l0) (_b0 : c0 * 8 ≤ 140737488351232) (_w1 : (Lit.int .i64 a1).wf = true) (w2 : (Lit.int .i64 a2).wf = true) (wm3 : m3 = l3.length) (_wc3 : m3 ≤ c3) (_wx3 : c3 ≤ maxLen) (wr3 : Rds w a3 (l3.flatMap OpenA.actV)) (b3 : ∀ x ∈ l3, OpenA.actOk x) :
    Calls Try.prog 4 #[.slice a0 m0 c0, .int .i64 a1, .int .i64 a2, .slice a3 m3 c3] w fun e w' => e = .returned (.bool true) ∧ Below w.heap.size w w' := by
  have hv : fitI a2 := by
    unfold fitI
    simp [Lit.wf, IntKind.min, IntKind.max, IntKind.bits, IntKind.signed] at w2
    omega
  have HV := Lib.hid hv
  have HK := Lib.hid (fun w => HpK.known_any w)
  have H0 := Lib.hid w0
  have hm0 : m0 = l0.length := w0.len
  have HR := Lib.hid wr3
  have HB3 := Lib.hid b3
  obtain ⟨i0, hi, hz, hz1, hz2⟩ := info_parts info64
  have I0 := Lib.hid hi
  have I1 := Lib.hid hz
  have I2 := Lib.hid hz1
  have I3 := Lib.hid hz2
  clear hi hz hz1 hz2 w0 w2 wr3 b3 hv
  subst wm3
  subst hm0
  go_enter Try.func4, Try.ntmps4
  go_wp2_with fail
  refine (new_any 4096 w).mono ?_
  rintro e w1 ⟨hb1, ⟨_, _, g, mb, rfl, hg, hmb, H1⟩ | ⟨h, _⟩⟩
  · have S0 : St w w1 g mb none 0 [] a2 none := ⟨none, 0, none, 0, [], 0, _, H1, fits_nil (by omega), World.ownsRow_nil _ _ _ _, (fun a ha => by cases ha), (fun k hk => by
      rcases hk with rfl | rfl | ⟨a, h, _⟩ | ⟨a, h, _⟩
      · exact hg
      · exact hmb
      · cases h
      · cases h), hb1, (fun a ha => by simp at ha), trivial⟩
    have HS0 := Lib.hid S0
    clear S0 H1 hb1 hg hmb
    go_upto_block 0 with fail
    go_cut [11] (fun s wx => ∃ (A : Option Addr) (c : Nat) (R : List Int), s = .slice A R.length c ∧ R.length ≤ 40 ∧ St w wx g mb A c R a2 none)
    case first =>
      go_wp2_with fail
      go_loopw [11, 12] (fun s i wr => ∃ (j : Nat) (A : Option Addr) (c : Nat) (R : List Int), j ≤ l0.length ∧ j ≤ 40 ∧ i = .int .i64 j ∧ s = .slice A R.length c ∧ R.length ≤ j ∧ St w wr g mb A c R a2 none) (fun _ i _ => l0.length - (intOf i).toNat)
      case atStart => exact ⟨0, none, 0, [], Nat.zero_le _, by omega, rfl, rfl, by simp, HS0.out⟩
      case round =>
        obtain ⟨j, A, c, R, hj, hj40, rfl, rfl, hRj, hS⟩ := hrel
        have HS := Lib.hid hS
        clear hS
        by_cases hlt : j < l0.length ∧ j < 40
        · obtain ⟨hlt, hlt40⟩ := hlt
          obtain ⟨b, o, hA0, hbl, hc⟩ := rds_getD H0.out.rds hlt
          have hcw : wr.cell? ⟨b, o + j, none⟩ = some (.int .i64 (l0.getD j 0)) := by
            obtain ⟨_, _, _, _, _, _, _, S⟩ := HS.out
            exact (World.cell?_of_block (S.bel.block b hbl)).trans hc
          subst hA0
          clear hc
          have hj1 : (j : Int) < (l0.length : Int) := by omega
          generalize l0.getD j 0 = x at *
          have htm : x.tmod 100 < 100 := Int.tmod_lt_of_pos x (by omega)
          have hrow : w.heap.size ≤ wr.heap.size := by
            obtain ⟨_, _, _, _, _, _, _, S⟩ := HS.out
            exact S.bel.size
          have HT := Lib.hid (st_two HS.out (x.tmod 100) htm)
          go_wp2_with fail
          refine HT.out.mono ?_
          rintro e w4 (⟨z, hz, rfl, hS4⟩ | ⟨a, ha, rfl, hS4⟩)
          · have HS4 := Lib.hid hS4
            have hz0 : (z == 0) = false := by simpa using hz
            clear hS4 hcw
            go_wp2_with fail
            go_roundw
            case rel => exact ⟨j + 1, A, c, R, by omega, by omega, by go_num, rfl, by omega, HS4.out⟩
            case measure => simp [intOf]; omega
          · have HS4 := Lib.hid hS4
            have hw4 : w.heap.size ≤ w4.heap.size := by
              obtain ⟨_, _, _, _, _, _, _, _, _, _, S⟩ := hS4
              exact S.bel.size
            clear hS4 hcw
            have L5 := Lib.hid (show (R ++ [a]).length = R.length + 1 by simp)
            unfold fitI at ha
            go_wp2_with (at_builtin
                         obtain ⟨Aw, cw, Aa, ca, ts, n, f, id, hid, hae, S⟩ := HS4.out
                         have S' := S.beside ((Below.refl _ _).alloc (Nat.le_refl _) (.cells #[.int .i64 a] 2))
                         refine wpList_append_lies _ rfl (.tmp 50) (.tmp 52) 38 rfl w.heap.size 2 i0 _ 1 8 Try.underlying38 I0.out I1.out I2.out I3.out rfl (by omega) (.slice A R.length c) R.length (R.map (Value.int .i64)) rfl S'.row ⟨w4.heap.size, 0, none⟩ 1 1 [.int .i64 a] rfl rfl (World.news_of_block (cs := #[.int .i64 a]) (t := 2) (fr := (0, 0)) (alloc_at _ _ rfl)) (by simp [Value.oneCell']) (by omega) (by unfold maxLen; omega) (by omega) (by simp; omega) (w4.heap.size + 1) (by simp) ?_
                         intro b5 c5 w5 hown5 hg5 hat5 hlt5
                         have P5 := S'.app (R' := R ++ [a]) (b := b5) (c' := c5) hg5 (by unfold OwnI; rw [L5.out, List.map_append]; exact hown5) (by rcases hat5 with h | h; exact .inl h; exact .inr (by rw [h]; simp))
                         have SL := Lib.hid (show StL w w5 g mb (some ⟨b5, 0, none⟩) c5 (R ++ [a]) R a2 a none from ⟨_, _, _, _, _, _, _, id, hid, hae, P5⟩)
                         clear hown5 hg5 hat5 P5 S S' hid hae)
            refine (st_put SL.out HV.out).mono ?_
            rintro e w6 ⟨rfl, hS6⟩
            have HS6 := Lib.hid (show St w w6 g mb (some ⟨b5, 0, none⟩) c5 (R ++ [a]) a2 none from hS6)
            clear hS6
            go_wp2_with fail
            go_roundw
            case rel => exact ⟨j + 1, some ⟨b5, 0, none⟩, c5, R ++ [a], by omega, by omega, by go_num, by rw [L5.out], by rw [L5.out]; omega, HS6.out⟩
            case measure => simp [intOf]; omega
        · by_cases hlt2 : j < l0.length
          · have hj1 : (j : Int) < (l0.length : Int) := by omega
            have hj2 : ¬ (j : Int) < 40 := by omega
            go_wp2_with fail
            go_meet
            exact ⟨A, c, R, rfl, by omega, HS.out⟩
          · have hj1 : ¬ (j : Int) < (l0.length : Int) := by omega
            go_wp2_with fail
            go_meet
            exact ⟨A, c, R, rfl, by omega, HS.out⟩
    case rest =>
      obtain ⟨A, c, R, rfl, hR40, hS⟩ := hcut
      have HS := Lib.hid hS
      clear hS HS0
      have HS2 := Lib.hid (st_box HS.out #[.int .i64 4096, .slice none 0 0] 47)
      generalize hX : (some (wc.heap.size, #[.int .i64 4096, .slice none 0 0], 47) : Option (Nat × Array Value × TypeId)) = X at HS2
      have HX := Lib.hid hX
      clear hX
      go_upto_block 2 with fail
      go_cut [16] (fun s wx => (∃ z : Value, s = z) ∧ St w wx g mb A c R a2 X)
      case first =>
        go_wp2_with fail
        go_loopw [16] (fun i wr => ∃ j : Nat, j ≤ l3.length ∧ j ≤ 40 ∧ i = .int .i64 j ∧ St w wr g mb A c R a2 X) (fun i _ => l3.length - (intOf i).toNat)
        case atStart => exact ⟨0, Nat.zero_le _, by omega, rfl, HS2.out⟩
        case round =>
          obtain ⟨j, hj, hj40, rfl, hS⟩ := hrel
          have HS' := Lib.hid hS
          clear hS
          by_cases hlt : j < l3.length ∧ j < 40
          · obtain ⟨hlt, hlt40⟩ := hlt
            obtain ⟨b, o, rfl, hbl, k0, k1, k2, _, k4, k5, _⟩ := OpenA.act_at HR.out hlt
            have k0 := HS'.out.old hbl k0
            have k1 := HS'.out.old hbl k1
            have k2 := HS'.out.old hbl k2
            have k4 := HS'.out.old hbl k4
            have k5 := HS'.out.old hbl k5
            have HXv := Lib.hid ((HB3.out _ (List.getElem_mem hlt)).2.2.2.2.2)
            have HSd := Lib.hid (st_drew HS'.out)
            have hj1 : (j : Int) < (l3.length : Int) := by omega
            generalize l3[j] = y at *
            obtain ⟨kd, y1, y2, y3, y4, y5, y6⟩ := y
            simp only at k0 k1 k2 k4 k5 HXv
            by_cases h0 : kd = 0
            · subst h0
              go_wp2_with fail
              go_region_with (go_at_call 21; refine (st_thing HSd.out _ _).mono ?_; rintro e w4 ⟨z1, z2, rfl, hS4⟩; have HS4 := Lib.hid hS4; clear hS4)
              all_goals
                go_wp2_with fail
                go_roundw
                case rel => exact ⟨j + 1, by omega, by omega, by go_num, HS4.out⟩
                case measure => simp [intOf]; omega
            · have h0' : (kd == 0) = false := by simpa using h0
              by_cases h1 : kd = 1
              · subst h1
                go_wp2_with fail
                go_region_with (go_at_call 21; refine (st_thing HSd.out _ _).mono ?_; rintro e w4 ⟨z1, z2, rfl, hS4⟩; have HS4 := Lib.hid hS4; clear hS4)
                all_goals
                  go_wp2_with fail
                  go_roundw
                  case rel => exact ⟨j + 1, by omega, by omega, by go_num, HS4.out⟩
                  case measure => simp [intOf]; omega
              · have h1' : (kd == 1) = false := by simpa using h1
                by_cases h2 : kd = 2
                · subst h2
                  go_wp2_with fail
                  go_region_with (go_at_call 23; refine (st_array HSd.out _ _).mono ?_; rintro e w4 ⟨z1, z2, rfl, hS4⟩; have HS4 := Lib.hid hS4; clear hS4)
                  all_goals
                    go_wp2_with fail
                    go_roundw
                    case rel => exact ⟨j + 1, by omega, by omega, by go_num, HS4.out⟩
                    case measure => simp [intOf]; omega
                · have h2' : (kd == 2) = false := by simpa using h2
                  by_cases h4 : kd = 4
                  · subst h4
                    go_wp2_with fail
                    go_region_with (go_at_call 22; refine (st_set HSd.out _ _ HXv.out).mono ?_; rintro e w4 ⟨z1, rfl, hS4⟩; have HS4 := Lib.hid hS4; clear hS4)
                    all_goals
                      go_wp2_with fail
                      go_roundw
                      case rel => exact ⟨j + 1, by omega, by omega, by go_num, HS4.out⟩
                      case measure => simp [intOf]; omega
                  · have h4' : (kd == 4) = false := by simpa using h4
                    by_cases h5 : kd = 5
                    · subst h5
                      go_wp2_with fail
                      go_region_with (go_at_call 22; refine (st_set HSd.out _ _ HXv.out).mono ?_; rintro e w4 ⟨z1, rfl, hS4⟩; have HS4 := Lib.hid hS4; clear hS4)
                      all_goals
                        go_wp2_with fail
                        go_roundw
                        case rel => exact ⟨j + 1, by omega, by omega, by go_num, HS4.out⟩
                        case measure => simp [intOf]; omega
                    · have h5' : (kd == 5) = false := by simpa using h5
                      go_wp2_with fail
                      go_roundw
                      case rel => exact ⟨j + 1, by omega, by omega, by go_num, HS'.out⟩
                      case measure => simp [intOf]; omega
          · by_cases hlt2 : j < l3.length
            · have hj1 : (j : Int) < (l3.length : Int) := by omega
              have hj2 : ¬ (j : Int) < 40 := by omega
              go_wp2_with fail
              go_meet
              exact ⟨⟨_, rfl⟩, HS'.out⟩
            · have hj1 : ¬ (j : Int) < (l3.length : Int) := by omega
              go_wp2_with fail
              go_meet
              exact ⟨⟨_, rfl⟩, HS'.out⟩
      case rest =>
        obtain ⟨⟨z, rfl⟩, hS⟩ := hcut
        have HS3 := Lib.hid hS
        clear hS
        go_wp2_with fail
        go_loopw [17] (fun i wr => ∃ j : Nat, j ≤ R.length ∧ i = .int .i64 j ∧ St w wr g mb A c R a2 X) (fun i _ => R.length - (intOf i).toNat)
        case atStart => exact ⟨0, Nat.zero_le _, rfl, HS3.out⟩
        case round =>
          obtain ⟨j, hj, rfl, hS⟩ := hrel
          have HS' := Lib.hid hS
          clear hS
          by_cases hlt : j < R.length
          · obtain ⟨b, o, rfl, hc⟩ := HS'.out.row hlt
            have hmem : R.getD j 0 ∈ R := by
              rw [List.getD_eq_getElem?_getD, List.getElem?_eq_getElem hlt]
              exact List.getElem_mem hlt
            generalize R.getD j 0 = x at *
            have HG := Lib.hid (st_get HS'.out hmem)
            have HTy := Lib.hid (fun q => st_type (HS'.out.drewN q) hmem)
            have HD := Lib.hid (fun q => HS'.out.drewN q)
            have hj1 : (j : Int) < (R.length : Int) := by omega
            clear hmem
            go_wp2_with fail
            refine HG.out.mono ?_
            rintro e w4 ⟨rfl, q, rfl⟩
            go_wp2_with fail
            refine (HTy.out q).mono ?_
            rintro e w5 ⟨⟨id, hid, rfl⟩, q', rfl⟩
            have hid1 : ¬ (100 : Int) ≤ (id : Int) := by omega
            go_wp2_with fail
            go_roundw
            case rel => exact ⟨j + 1, by omega, by go_num, HD.out (q + q')⟩
            case measure => simp [intOf]; omega
          · have hj1 : ¬ (j : Int) < (R.length : Int) := by omega
            have hS := HS'.out
            rw [← HX.out] at hS
            have HU := Lib.hid (refUsed_nil hS.beside_box)
            have HL := Lib.hid hS.low
            clear hS
            go_wp2_with fail
            refine HU.out.mono ?_
            rintro e w4 ⟨rfl, rfl⟩
            go_wp2_with fail
            refine (HK.out _).mono ?_
            rintro e w5 ⟨rfl, hb5⟩
            have B5 := Lib.hid (HL.out.trans (hb5.mono HL.out.size))
            go_wp2_with fail
            go_ret
            exact ⟨rfl, B5.out⟩
  · exact absurd ⟨by omega, by omega⟩ h

end WHeapStays
end Go.Proofs.Ytfmodaelpldpfaa
