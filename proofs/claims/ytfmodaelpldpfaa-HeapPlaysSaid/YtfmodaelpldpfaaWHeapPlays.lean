/-
  Law HeapPlays: whatever is made, written and sent, in any order, a heap answers as the document's heap does.
-/
import Derived.Test.YtfmodaelpldpfaaHpH
import Derived.Test.YtfmodaelpldpfaaHpC
import Derived.Test.YtfmodaelpldpfaaHpK
namespace Go.Proofs.Ytfmodaelpldpfaa
namespace WHeapPlays
open Go.RowKit Base BinM HpM HpA HpS HpB HpG HpP HpT HpY HpZ HpR HpQ HpE HpF HpI HpJ HpL HpO HpU HpW HpD HpH HpC

set_option maxRecDepth 100000 in
set_option maxHeartbeats 16000000 in
theorem walk (a0 : Int) (a1 : Option Addr) (m1 c1 : Nat) (l1 : List OpenA.ActT) (w : World) (w0 : (Lit.int .i64 a0).wf = true) (wm1 : m1 = l1.length) (_wc1 : m1 ≤ c1) (_wx1 : c1 ≤ maxLen) (wr1 : Rds w a1 (l1.flatMap OpenA.actV)) (b1 : ∀ x ∈ l1, OpenA.actOk x) :
    Calls Try.prog 3 #[.int .i64 a0, .slice a1 m1 c1] w fun e w' => e = .returned (.bool true) ∧ Below w.heap.size w w' := by
  have hf0 : fitI a0 := by
    unfold fitI
    simp [Lit.wf, IntKind.min, IntKind.max, IntKind.bits, IntKind.signed] at w0
    omega
  have HK := Lib.hid (fun w => HpK.known_any w)
  have HR := Lib.hid wr1
  have HB3 := Lib.hid b1
  subst wm1
  clear wr1 b1 w0
  unfold fitI at hf0
  go_enter Try.func3, Try.ntmps3
  go_wp2_with fail
  refine (new_any a0 w).mono ?_
  rintro e w1 ⟨hb1, ⟨h16, h4096, g, mb, rfl, hg, hmb, H1⟩ | ⟨hbad, rfl⟩⟩
  · have B1 := Lib.hid hb1
    have H1' := Lib.hid H1
    have HG := Lib.hid (And.intro hg hmb)
    clear hb1 H1 hg hmb
    go_wp2_with fail
    refine (rnew_any a0 w1).mono ?_
    rintro e w2 ⟨hb2, ⟨_, _, r, rfl, hr, X2⟩ | ⟨hbad, _⟩⟩
    · obtain ⟨most, rfl⟩ : ∃ m : Nat, a0 = (m : Int) := ⟨a0.toNat, by omega⟩
      have S0 : SimE w w2 g r most 0 := by
        have H1 := H1'.out
        rw [Int.toNat_natCast] at H1 X2
        refine ⟨mb, none, 0, none, 0, none, 0, [], 0, _, ⟨H1.beside hb2, X2, HpK.fits_nil (by omega), fun k hk hf => ?_, fun k hk => ?_, fun k hk => ?_, B1.out.trans (hb2.mono B1.out.size), (fun m hm => by cases hm), fun a _ => rfl⟩, Nat.le_refl _, Nat.le_refl _⟩
        · have h9 := H1.lt hk
          rcases hf with rfl | ⟨a, h, _⟩ | ⟨m, hm, _⟩
          · omega
          · cases h
          · cases hm
        · rcases hk with rfl | rfl | ⟨a, h, _⟩ | ⟨a, h, _⟩
          · exact HG.out.1
          · exact HG.out.2
          · cases h
          · cases h
        · rcases hk with rfl | ⟨a, h, _⟩ | ⟨m, hm, _⟩
          · have := B1.out.size; omega
          · cases h
          · cases hm
      have HS0 := Lib.hid S0
      clear S0 X2 hb2 hr
      go_wp2_with fail
      go_loopw [9] (fun i wr => ∃ j : Nat, j ≤ l1.length ∧ j ≤ 60 ∧ i = .int .i64 j ∧ SimE w wr g r most j) (fun i _ => l1.length - (intOf i).toNat)
      case atStart => exact ⟨0, Nat.zero_le _, by omega, rfl, HS0.out⟩
      case round =>
        obtain ⟨j, hj, hj60, rfl, hS⟩ := hrel
        have HS := Lib.hid hS
        clear hS
        by_cases hlt : j < l1.length
        · have hj1 : (j : Int) < (l1.length : Int) := by omega
          by_cases h60 : j < 60
          · obtain ⟨b, o, rfl, hbl, k0, k1, k2, k3, k4, k5, k6⟩ := OpenA.act_at HR.out hlt
            have hok := HB3.out _ (List.getElem_mem hlt)
            have HOk := Lib.hid hok
            have hold : ∀ W : World, Below wr.heap.size wr W → ∀ (c : Nat) (v : Value), w.cell? ⟨b, c, none⟩ = some v → W.cell? ⟨b, c, none⟩ = some v := fun W hb c v h =>
              (World.cell?_of_block ((HS.out.low.trans (hb.mono HS.out.low.size)).block b hbl)).trans h
            have HOld := Lib.hid hold
            generalize l1[j] = y at *
            obtain ⟨kd, y1, y2, y3, y4, y5, y6⟩ := y
            simp only at k0 k1 k2 k3 k4 k5 k6
            have K := Lib.hid (And.intro k0 (And.intro k1 (And.intro k2 (And.intro k3 (And.intro k4 (And.intro k5 k6))))))
            have Hcells := Lib.hid (fun (W : World) (hb : Below wr.heap.size wr W) => And.intro (HOld.out W hb _ _ k0) (And.intro (HOld.out W hb _ _ k1) (And.intro (HOld.out W hb _ _ k2) (And.intro (HOld.out W hb _ _ k3) (And.intro (HOld.out W hb _ _ k4) (And.intro (HOld.out W hb _ _ k5) (HOld.out W hb _ _ k6)))))))
            clear hold hok k0 k1 k2 k3 k4 k5 k6
            obtain ⟨k0, k1, k2, k3, k4, k5, k6⟩ := Hcells.out wr (Below.refl _ _)
            by_cases hlen : 70000 < y3.length
            · have hl1 : (70000 : Int) < (y3.length : Int) := by omega
              have hss : (⟨y3.toArray⟩ : ByteArray).size = y3.length := by show y3.toArray.size = _; simp
              have HLow := Lib.hid HS.out.low
              go_wp2_with fail
              refine (HK.out _).mono ?_
              rintro e w4 ⟨rfl, hb4⟩
              have B4 := Lib.hid (HLow.out.trans (hb4.mono HLow.out.size))
              go_wp2_with fail
              go_ret
              exact ⟨rfl, B4.out⟩
            · have hl1 : ¬ (70000 : Int) < (y3.length : Int) := by omega
              have hss : (⟨y3.toArray⟩ : ByteArray).size = y3.length := by show y3.toArray.size = _; simp
              have HW := Lib.hid (where_any HS.out kd y1 y2 y4 y5 y3 y6 HOk.out.2.2.2.2.1)
              go_wp2_with fail
              refine HW.out.mono ?_
              rintro e w4 ⟨x, hx, rfl, hb4⟩
              have Hx := Lib.hid hx
              have HS4 := Lib.hid (HS.out.beside hb4)
              clear k0 k1 k2 k3 k4 k5 k6
              obtain ⟨k0, k1, k2, k3, k4, k5, k6⟩ := Hcells.out w4 hb4
              have B4 := Lib.hid hb4
              clear hb4 hx
              have HD := Lib.hid (do_any HS4.out (by omega) ⟨kd, y1, y2, y3, y4, y5, y6⟩ HOk.out x)
              unfold actC at HD
              simp only at HD
              go_wp2_with fail
              refine HD.out.mono ?_
              rintro e w5 ⟨rfl, hS5⟩
              have HS5 := Lib.hid hS5
              have k25 : w5.cell? ⟨b, o + j * 7 + 2, none⟩ = some (.int .i64 y2) := (World.cell?_of_block (hS5.low.block b hbl)).trans K.out.2.2.1
              have HA := Lib.hid (alike_any hS5 (by omega) x y2 Hx.out)
              clear hS5 k0 k1 k2 k3 k4 k5 k6
              go_wp2_with fail
              refine HA.out.mono ?_
              rintro e w6 ⟨rfl, hb6⟩
              have HS6 := Lib.hid (HS5.out.beside hb6)
              clear hb6 k25
              obtain ⟨U, hu1, hu2, hu3⟩ := used_two HS6.out (by omega)
              have U1 := Lib.hid hu1
              have U2 := Lib.hid hu2
              have U3 := Lib.hid hu3
              clear hu1 hu2 hu3
              go_wp2_with fail
              refine U1.out.mono ?_
              rintro e w7 ⟨rfl, rfl⟩
              go_wp2_with fail
              refine U2.out.mono ?_
              rintro e w7 ⟨rfl, rfl⟩
              go_wp2_with fail
              refine U3.out.mono ?_
              rintro e w7 ⟨rfl, rfl⟩
              go_wp2_with fail
              go_roundw
              case rel => exact ⟨j + 1, by omega, by omega, by go_num, HS6.out⟩
              case measure => simp [intOf]; omega
          · have hj2 : ¬ (j : Int) < 60 := by omega
            have HE := Lib.hid (ends HS.out (by omega))
            obtain ⟨R, L, hR, hL, hE⟩ := HE.out
            have HEE := Lib.hid hE
            have HLow := Lib.hid HS.out.low
            clear hE
            have hq0 : Below wr.heap.size wr wr := Below.refl _ _
            go_wp2_with fail
            refine (HEE.out wr hq0).1.mono ?_
            rintro e w4 ⟨A4, c4, rfl, r4, hb4⟩
            have R4 := Lib.hid r4
            have B4 := Lib.hid hb4
            clear r4 hb4
            go_wp2_with fail
            refine (HEE.out w4 B4.out).2.1.mono ?_
            rintro e w5 ⟨A5, c5, rfl, r5, hb5⟩
            have R45 := Lib.hid (R4.out.below hb5)
            have R5 := Lib.hid r5
            have B5 := Lib.hid (B4.out.trans (hb5.mono B4.out.size))
            clear r5 hb5
            have HSm := Lib.hid (same_any A4 A5 R.length R.length c4 c5 R R w5 rfl rfl (by omega) (by omega) R45.out R5.out)
            rw [decide_eq_true rfl] at HSm
            go_wp2_with fail
            refine HSm.out.mono ?_
            rintro e w6 ⟨rfl, q6, rfl⟩
            have B6 := Lib.hid (drawnN B5.out q6)
            go_wp2_with fail
            refine (HEE.out _ B6.out).2.2.1.mono ?_
            rintro e w7 ⟨A7, c7, rfl, r7, hb7⟩
            have R7 := Lib.hid r7
            have B7 := Lib.hid (B6.out.trans (hb7.mono B6.out.size))
            clear r7 hb7
            go_wp2_with fail
            refine (HEE.out w7 B7.out).2.2.2.mono ?_
            rintro e w8 ⟨A8, c8, rfl, r8, hb8⟩
            have R78 := Lib.hid (R7.out.below hb8)
            have R8 := Lib.hid r8
            have B8 := Lib.hid (B7.out.trans (hb8.mono B7.out.size))
            clear r8 hb8
            have HSn := Lib.hid (same_any A7 A8 L.length L.length c7 c8 L L w8 rfl rfl (by omega) (by omega) R78.out R8.out)
            rw [decide_eq_true rfl] at HSn
            go_wp2_with fail
            refine HSn.out.mono ?_
            rintro e w9 ⟨rfl, q9, rfl⟩
            have B9 := Lib.hid (drawnN B8.out q9)
            go_wp2_with fail
            refine (HK.out _).mono ?_
            rintro e wz ⟨rfl, hbz⟩
            have BZ := Lib.hid (HLow.out.trans ((B9.out.trans (hbz.mono B9.out.size)).mono HLow.out.size))
            go_wp2_with fail
            go_ret
            exact ⟨rfl, BZ.out⟩
        · have hj1 : ¬ (j : Int) < (l1.length : Int) := by omega
          have HE := Lib.hid (ends HS.out (by omega))
          obtain ⟨R, L, hR, hL, hE⟩ := HE.out
          have HEE := Lib.hid hE
          have HLow := Lib.hid HS.out.low
          clear hE
          have hq0 : Below wr.heap.size wr wr := Below.refl _ _
          go_wp2_with fail
          refine (HEE.out wr hq0).1.mono ?_
          rintro e w4 ⟨A4, c4, rfl, r4, hb4⟩
          have R4 := Lib.hid r4
          have B4 := Lib.hid hb4
          clear r4 hb4
          go_wp2_with fail
          refine (HEE.out w4 B4.out).2.1.mono ?_
          rintro e w5 ⟨A5, c5, rfl, r5, hb5⟩
          have R45 := Lib.hid (R4.out.below hb5)
          have R5 := Lib.hid r5
          have B5 := Lib.hid (B4.out.trans (hb5.mono B4.out.size))
          clear r5 hb5
          have HSm := Lib.hid (same_any A4 A5 R.length R.length c4 c5 R R w5 rfl rfl (by omega) (by omega) R45.out R5.out)
          rw [decide_eq_true rfl] at HSm
          go_wp2_with fail
          refine HSm.out.mono ?_
          rintro e w6 ⟨rfl, q6, rfl⟩
          have B6 := Lib.hid (drawnN B5.out q6)
          go_wp2_with fail
          refine (HEE.out _ B6.out).2.2.1.mono ?_
          rintro e w7 ⟨A7, c7, rfl, r7, hb7⟩
          have R7 := Lib.hid r7
          have B7 := Lib.hid (B6.out.trans (hb7.mono B6.out.size))
          clear r7 hb7
          go_wp2_with fail
          refine (HEE.out w7 B7.out).2.2.2.mono ?_
          rintro e w8 ⟨A8, c8, rfl, r8, hb8⟩
          have R78 := Lib.hid (R7.out.below hb8)
          have R8 := Lib.hid r8
          have B8 := Lib.hid (B7.out.trans (hb8.mono B7.out.size))
          clear r8 hb8
          have HSn := Lib.hid (same_any A7 A8 L.length L.length c7 c8 L L w8 rfl rfl (by omega) (by omega) R78.out R8.out)
          rw [decide_eq_true rfl] at HSn
          go_wp2_with fail
          refine HSn.out.mono ?_
          rintro e w9 ⟨rfl, q9, rfl⟩
          have B9 := Lib.hid (drawnN B8.out q9)
          go_wp2_with fail
          refine (HK.out _).mono ?_
          rintro e wz ⟨rfl, hbz⟩
          have BZ := Lib.hid (HLow.out.trans ((B9.out.trans (hbz.mono B9.out.size)).mono HLow.out.size))
          go_wp2_with fail
          go_ret
          exact ⟨rfl, BZ.out⟩
    · exact absurd ⟨h16, h4096⟩ hbad
  · have HB1 := Lib.hid hb1
    clear hb1
    go_wp2_with fail
    refine (rnew_any a0 w1).mono ?_
    rintro e w2 ⟨hb2, ⟨h1, h2, _⟩ | ⟨_, rfl⟩⟩
    · exact absurd ⟨h1, h2⟩ hbad
    · have B2 := Lib.hid (HB1.out.trans (hb2.mono HB1.out.size))
      clear hb2 hbad
      go_wp2_with fail
      refine (HK.out _).mono ?_
      rintro e w3 ⟨rfl, hb3⟩
      have B3 := Lib.hid (B2.out.trans (hb3.mono B2.out.size))
      go_wp2_with fail
      go_ret
      exact ⟨rfl, B3.out⟩

end WHeapPlays
end Go.Proofs.Ytfmodaelpldpfaa
