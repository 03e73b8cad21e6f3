/-
  The document's Changed.
-/
import Derived.Test.YtblikehnfdhcpaaGreatDoorTabCa
namespace Go.Proofs.YtblikehnfdhcpaaGreatDoor
namespace TabCr
open Go.RowKit Base BinM Stru DescM DescW DescX HierS HierT HierM HierC HierD HierN HierR HierU Kls KlsP KlsQ TabC TabM TabK TabP TabE TabB TabG TabH TabT TabU TabV TabW TabN TabO TabY TabR TabQ TabEq TabCg TabCa

theorem hasR_refL (l : List P2) (q : T) : hasR (refL l) q = (mk l).has q := by rw [hasR_any_map, refL_names]; rfl
set_option maxRecDepth 100000 in
set_option maxHeartbeats 8000000 in
/-- the document's Changed -/
theorem changedR_any {lo : Nat} {w : World} {r g : Nat} {A : Option Addr} {c : Nat} {ps : List P2} {L : List ClsT} (H : RT lo w r g A c ps L) (U : Ups ps L)
    {lo2 r2 g2 : Nat} {A2 : Option Addr} {c2 : Nat} {ps2 : List P2} {M : List ClsT} (H2 : RT lo2 w r2 g2 A2 c2 ps2 M) (U2 : Ups ps2 M) (hn41 : (mk ps).names.length ≤ 41) :
    Calls Tryz.prog 12 #[.pointer (some ⟨r, 0, none⟩), .pointer (some ⟨r2, 0, none⟩)] w fun e w' => ∃ v, e = .returned v ∧ OwnT w' w.heap.size v (chL (mk ps).names (mk ps2).has L M) ∧ Below w.heap.size w w' := by
  have HNs : Hid (∀ W, Below w.heap.size w W → Calls Tryz.prog 31 #[.pointer (some ⟨g, 0, none⟩)] W fun e w' => ∃ A c, e = .returned (.slice A (mk ps).names.length c) ∧ Rds w' A ((mk ps).names.map sv) ∧ Below W.heap.size W w') := Lib.hid (fun W hb => (namesR_any lo g (refL ps) W (H.ext hb).hier (H.ext hb).base).mono (fun e w' ⟨v, h1, h2, h3⟩ => by
    rw [refL_names] at h2
    obtain ⟨A5, c, rfl, _, _, r3, _⟩ := h2.slice
    exact ⟨A5, c, h1, r3, h3⟩))
  have HHs : Hid (∀ W, Below w.heap.size w W → ∀ q : T, Calls Tryz.prog 32 #[.pointer (some ⟨g2, 0, none⟩), .string ⟨q.toArray⟩] W fun e w' => e = .returned (.bool ((mk ps2).has q)) ∧ W = w') := Lib.hid (fun W hb q => (hasR_any lo2 g2 (refL ps2) q W (H2.ext hb).hier).mono (fun e w' h => by rw [hasR_refL] at h; exact h))
  have HAl := Lib.hid (fun W (hb : Below w.heap.size w W) (q : T) => alikeR_any (H.ext hb) U (H2.ext hb) U2 q)
  have HB2 := Lib.hid (fun W (hb : Below w.heap.size w W) => (H2.ext hb).box)
  have b0 := H.box.cell 0
  have Z := Lib.hid (Below.refl w.heap.size w)
  clear H U H2 U2
  generalize (mk ps2).has = has at *
  generalize (mk ps).names = ns at *
  go_enter Tryz.func12, Tryz.ntmps12
  go_wp2_with fail
  refine (HNs.out _ Z.out).mono ?_
  rintro e w1 ⟨A1, c1, rfl, r1, hb1⟩
  have R1 := Lib.hid r1
  have B1 := Lib.hid hb1
  have Z1 := Lib.hid (Below.refl w1.heap.size w1)
  clear hb1 b0 r1
  go_wp2_with fail
  go_loopw [5, 7] (fun v i wr => ∃ (j : Nat), j ≤ ns.length ∧ i = .int .i64 j ∧ OwnT wr w1.heap.size v (chL (ns.take j) has L M) ∧ Below w1.heap.size w1 wr) (fun _ i _ => ns.length - (intOf i).toNat)
  case atStart => exact ⟨0, Nat.zero_le _, rfl, World.ownsRow_nil _ _ _ _, Z1.out⟩
  case round =>
    obtain ⟨j, hj, rfl, hown, hbw⟩ := hrel
    have Hbw := Lib.hid hbw
    have HO := Lib.hid hown
    have GB := Lib.hid (B1.out.trans (hbw.mono B1.out.size))
    obtain ⟨A5, c5, rfl, _, _, _, _⟩ := hown.slice
    by_cases hlt : j < ns.length
    · obtain ⟨b9, o9, hA9, hb9, hc9⟩ := (R1.out.below hbw).at_ (k := j) (by simp; omega)
      subst hA9
      rw [List.getElem_map] at hc9
      have hj1 : (j : Int) < (ns.length : Int) := by omega
      have hj0 : (0 : Int) ≤ (j : Int) := by omega
      have HT := Lib.hid (chL_take (has := has) (C := L) (D := M) hlt)
      have hl := chL_len (ns.take j) has L M
      rw [List.length_take] at hl
      have x20 := (HB2.out _ GB.out).cell 0
      have xlt := (HB2.out _ GB.out).lt
      have hsz := hbw.size
      have HC9 := Lib.hid hc9
      have Hb9 := Lib.hid hb9
      clear hbw hown
      generalize ns[j] = q at *
      generalize chL (ns.take j) has L M = cs at *
      simp only [sv] at hc9
      have HHq := Lib.hid (fun W hb => HHs.out W hb q)
      generalize hhas : has q = hb at *
      clear hhas
      obtain ⟨wB, hwB⟩ : ∃ x, x = wr := ⟨_, rfl⟩
      subst hwB
      have Z9 := Lib.hid (Below.refl wB.heap.size wB)
      cases hb
      · have HQ := Lib.hid (fun (n : Nat) => (HHq.out (wB.drewN n) (Stru.drawn GB.out n)).mono (R' := fun e w' => e = .returned (.bool false) ∧ w' = wB.drewN n) fun _ _ h => ⟨h.1, h.2.symm⟩)
        go_wp2_with fail
        go_quiet ((go_at_call 32; exact Calls.quiet_of_same (HQ.out _)))
        go_wp2_with fail
        go_roundw
        case rel => exact ⟨j + 1, by omega, by go_num, by rw [app_no HT.out rfl]; exact own_ext HO.out (Stru.drawn (Below.refl _ _) _), Stru.drawn Hbw.out _⟩
        case measure => simp [intOf]; omega
      · have HAq := Lib.hid (fun W hb => HAl.out W hb q)
        generalize chg L M q = D at *
        cases D
        · skip
          go_wp2_with fail
          have hB0 := GB.out
          have hB1 := hB0.drew
          have hC0 := Z9.out
          have hC1 := hC0.drew
          go_region_held3 (fun w' => w'.cell? ⟨r2, 0, none⟩ = some (.pointer (some ⟨g2, 0, none⟩)) ∧ w'.cell? ⟨b9, o9 + j, none⟩ = some (.string ⟨q.toArray⟩))
            (first | exact ⟨x20, hc9⟩ | exact ⟨x60, x61⟩ | go_keep)
            (first
              | (go_at_call 32
                 refine (HHq.out _ (by assumption)).mono ?_
                 rintro ee w' ⟨rfl, rfl⟩)
              | (go_at_call 33
                 refine (HAq.out _ (by assumption)).mono ?_
                 rintro ee w6 ⟨rfl, hb6⟩
                 have hC6 := hC1.trans (hb6.mono hC1.size)
                 have x60 := (HB2.out _ (GB.out.trans (hC6.mono GB.out.size))).cell 0
                 have x61 : w6.cell? ⟨b9, o9 + j, none⟩ = some (.string ⟨q.toArray⟩) := (hC6.cell (p := ⟨b9, o9 + j, none⟩) Hb9.out).trans HC9.out))
          all_goals
            have O6 := Lib.hid (own_ext HO.out hC6)
            have B6 := Lib.hid (Hbw.out.trans (hC6.mono hsz))
            have h61 := x61
            have h6s := B6.out.size
            go_wp2_with (at_builtin
                         refine appT rfl (.tmp 38) (.tmp 43) rfl w1.heap.size _ cs rfl (World.ownsRow.alloc O6.out _) (some ⟨w6.heap.size, 0, none⟩) 1 1 [q] rfl rfl (rds_new _ #[sv q] 9) (by simp; omega) (by simp; omega) ?_
                         intro v7 w7 hown7 hg7
                         have B7 := Lib.hid (below_own (B6.out.alloc h6s _) (World.ownsRow.alloc O6.out _) (Nat.le_refl _) (by simp; omega) hg7)
                         have O7 := Lib.hid hown7
                         clear hown7 hg7)
            go_roundw
            case rel => exact ⟨j + 1, by omega, by go_num, by rw [app_yes HT.out rfl]; exact O7.out, B7.out⟩
            case measure => simp [intOf]; omega
        · skip
          go_wp2_with fail
          have hB0 := GB.out
          have hB1 := hB0.drew
          have hC0 := Z9.out
          have hC1 := hC0.drew
          go_region_held3 (fun w' => w'.cell? ⟨r2, 0, none⟩ = some (.pointer (some ⟨g2, 0, none⟩)) ∧ w'.cell? ⟨b9, o9 + j, none⟩ = some (.string ⟨q.toArray⟩))
            (first | exact ⟨x20, hc9⟩ | exact ⟨x60, x61⟩ | go_keep)
            (first
              | (go_at_call 32
                 refine (HHq.out _ (by assumption)).mono ?_
                 rintro ee w' ⟨rfl, rfl⟩)
              | (go_at_call 33
                 refine (HAq.out _ (by assumption)).mono ?_
                 rintro ee w6 ⟨rfl, hb6⟩
                 have hC6 := hC1.trans (hb6.mono hC1.size)
                 have x60 := (HB2.out _ (GB.out.trans (hC6.mono GB.out.size))).cell 0
                 have x61 : w6.cell? ⟨b9, o9 + j, none⟩ = some (.string ⟨q.toArray⟩) := (hC6.cell (p := ⟨b9, o9 + j, none⟩) Hb9.out).trans HC9.out))
          all_goals
            have O6 := Lib.hid (own_ext HO.out hC6)
            have B6 := Lib.hid (Hbw.out.trans (hC6.mono hsz))
            have h61 := x61
            have h6s := B6.out.size
            go_wp2_with fail
            go_roundw
            case rel => exact ⟨j + 1, by omega, by go_num, by rw [app_no HT.out rfl]; exact O6.out, B6.out⟩
            case measure => simp [intOf]; omega
    · have hjm : j = ns.length := by omega
      have HF := Lib.hid (show OwnT wr w.heap.size (.slice A5 (chL (ns.take j) has L M).length c5) (chL ns has L M) by
        have e : ns.take j = ns := List.take_of_length_le (by omega)
        have h := HO.out
        rw [e] at h ⊢
        exact World.ownsRow.mono h B1.out.size)
      clear hbw hown
      go_wp2_with fail
      go_ret
      exact ⟨_, rfl, HF.out, GB.out⟩
end TabCr
end Go.Proofs.YtblikehnfdhcpaaGreatDoor
