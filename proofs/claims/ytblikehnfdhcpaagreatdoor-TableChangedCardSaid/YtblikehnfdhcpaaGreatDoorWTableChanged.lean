/-
  The law TableChanged, walked: for all classes and all other classes it returns true, and nothing that was there is written.
-/
import Derived.Test.YtblikehnfdhcpaaGreatDoorTabOp
import Derived.Test.YtblikehnfdhcpaaGreatDoorTabCr
import Derived.Test.YtblikehnfdhcpaaGreatDoorTabS
import Derived.Test.YtblikehnfdhcpaaGreatDoorOpenC
import Derived.Test.YtblikehnfdhcpaaGreatDoorLaidM
namespace Go.Proofs.YtblikehnfdhcpaaGreatDoor
namespace WTableChanged
open Go.RowKit Base BinM Stru DescM DescW DescX DescS DescG DescP DescQ HierS HierT HierM HierC HierD HierN HierV HierR HierU HierY Kls KlsP KlsQ OpenK TabC TabM TabK TabP TabE TabB TabG TabH TabT TabU TabV TabX TabW TabF TabN TabO TabY TabR TabQ TabL TabS TabOp TabEq TabCg TabCa TabCr

theorem names_short {L : List ClsT} (hl : ∀ k ∈ L, k.name.length ≤ 140737488351232) : ∀ q ∈ (mk (pairs L)).names, q.length ≤ 140737488351232 := by
  intro q hq
  have hm : q ∈ nms (full (pairs L)) := hq
  unfold nms full at hm
  rcases List.mem_cons.1 hm with rfl | hm
  · decide
  · obtain ⟨p, hp, rfl⟩ := List.mem_map.1 hm
    rcases List.mem_append.1 hp with hp | hp
    · exact TabL.alw_short p hp
    · obtain ⟨k, hk, rfl⟩ := List.mem_map.1 hp
      exact hl k hk
theorem chL_hav {C L D M : List ClsT} (h1 : hav C = hav L) (h2 : hav D = hav M) (ns : List T) (has : T → Bool) : chL ns has C D = chL ns has L M := by
  unfold chL chg
  rw [h1, h2]
theorem few_of {C L : List ClsT} (hb : C.map bareC = L.map bareC) (hz : ∀ x ∈ L, clsE x = 0) : ∀ k ∈ C, k.fields.length ≤ 16 ∧ k.meths.length ≤ 32 := fun k hk => by
  obtain ⟨k', h1, h2⟩ := bare_mem hb hk
  exact (alk_of h2).few (cls_few (hz k' h1))

theorem texts_same (A B : Option Addr) (a : List T) (m k c d : Nat) (w : World) (hm : m = a.length) (hk : k = a.length) (hmx : m ≤ maxLen) (hr : Rds w A (a.map sv)) (hr2 : Rds w B (a.map sv)) :
    Calls Tryz.prog 8 #[.slice A m c, .slice B k d] w fun e w' => e = .returned (.bool true) ∧ Below w.heap.size w w' :=
  (HierR.texts_any A B a a m k c d w hm hk hmx hr hr2).mono fun e w' ⟨h1, h2⟩ => ⟨by rw [h1]; simp, h2⟩

set_option maxRecDepth 100000 in
set_option maxHeartbeats 16000000 in
theorem walk (a0 : Option Addr) (m0 c0 : Nat) (l0 : List Kls.ClsT) (a1 : Option Addr) (m1 c1 : Nat) (l1 : List Kls.ClsT) (w : World) (hl : InsA.Laid w) (wm0 : m0 = l0.length) (wc0 : m0 ≤ c0) (wx0 : c0 ≤ maxLen) (wr0 : Rds w a0 (l0.flatMap OpenK.ClsT.vals)) (b0 : ∀ x ∈ l0, x.is w ∧ OpenK.ClsT.lt x) (wm1 : m1 = l1.length) (wc1 : m1 ≤ c1) (wx1 : c1 ≤ maxLen) (wr1 : Rds w a1 (l1.flatMap OpenK.ClsT.vals)) (b1 : ∀ x ∈ l1, x.is w ∧ OpenK.ClsT.lt x) :
    Calls Tryz.prog 4 #[.slice a0 m0 c0, .slice a1 m1 c1] w fun e w' => e = .returned (.bool true) ∧ Below w.heap.size w w' := by
  subst wm0
  subst wm1
  have HSm := Lib.hid (small_any a0 l0 l0.length c0 w rfl (Nat.le_trans wc0 wx0) wr0 (fun x hx => (b0 x hx).1))
  have HSn := Lib.hid (fun W (hb : Below w.heap.size w W) => small_any a1 l1 l1.length c1 W rfl (Nat.le_trans wc1 wx1) (Rds.below (xs := l1.flatMap valsC) wr1 hb) (fun x hx => (b1 x hx).1.below hb))
  have HOp := Lib.hid (fun W (hb : Below w.heap.size w W) => open_any a0 l0 l0.length c0 W rfl (Rds.below (xs := l0.flatMap valsC) wr0 hb) (fun x hx => ⟨(b0 x hx).1.below hb, (b0 x hx).2⟩) (hl.below hb hl.1))
  have HOq := Lib.hid (fun W (hb : Below w.heap.size w W) => open_any a1 l1 l1.length c1 W rfl (Rds.below (xs := l1.flatMap valsC) wr1 hb) (fun x hx => ⟨(b1 x hx).1.below hb, (b1 x hx).2⟩) (hl.below hb hl.1))
  have HK := Lib.hid (fun W (hb : Below w.heap.size w W) => TabZ.known_any W (hl.below hb hl.1))
  have Hnm := Lib.hid (show ∀ k ∈ l0, k.name.length ≤ 140737488351232 from fun k hk => (b0 k hk).2.name)
  clear hl wc0 wx0 wr0 b0 wc1 wx1 wr1 b1
  go_enter Tryz.func4, Tryz.ntmps4
  go_wp2_with fail
  refine HSm.out.mono ?_
  rintro e w1 ⟨b, rfl, hb1⟩
  have B1 := Lib.hid hb1
  clear hb1
  cases b
  · go_wp2_with fail
    refine (HK.out _ B1.out).mono ?_
    rintro e w2 ⟨rfl, hb2⟩
    have B2 := Lib.hid (B1.out.trans (hb2.mono B1.out.size))
    clear hb2
    go_wp2_with fail
    go_ret
    exact ⟨rfl, B2.out⟩
  · go_wp2_with fail
    refine (HSn.out _ B1.out).mono ?_
    rintro e w2 ⟨b, rfl, hb2⟩
    have B2 := Lib.hid (B1.out.trans (hb2.mono B1.out.size))
    clear hb2
    cases b
    · go_wp2_with fail
      refine (HK.out _ B2.out).mono ?_
      rintro e w3 ⟨rfl, hb3⟩
      have B3 := Lib.hid (B2.out.trans (hb3.mono B2.out.size))
      clear hb3
      go_wp2_with fail
      go_ret
      exact ⟨rfl, B3.out⟩
    · go_wp2_with fail
      refine (HOp.out _ B2.out).mono ?_
      rintro e w3 ⟨hb3, hor⟩
      have B3 := Lib.hid (B2.out.trans (hb3.mono B2.out.size))
      clear hb3 HSm HSn HOp
      rcases hor with ⟨hz, t, r, C, rfl, hBo⟩ | ⟨hne, rfl⟩
      · have HBo := Lib.hid hBo
        clear hBo hz
        go_wp2_with fail
        refine (HOq.out _ B3.out).mono ?_
        rintro e w4 ⟨hb4, hor⟩
        have B4 := Lib.hid (B3.out.trans (hb4.mono B3.out.size))
        have HBo4 := Lib.hid (HBo.out.ext hb4)
        clear hb4 HBo
        rcases hor with ⟨hz, u, s, D, rfl, hBq⟩ | ⟨hne, rfl⟩
        · obtain ⟨⟨lo, g, mb, n, A, c, f, hlo, hTa, hTo⟩, ⟨lo', g', A', c', hRT⟩, hbare, hwhy, hright⟩ := HBo4.out
          obtain ⟨⟨lo2, g2, mb2, n2, A2, c2, f2, hlo2, hTa2, hTo2⟩, ⟨lo2', g2', A2', c2', hRT2⟩, hbare2, hwhy2, hright2⟩ := hBq
          have hU := ups_of hwhy hright
          have hU2 := ups_of hwhy2 hright2
          have hFw := few_of hbare hright
          have hFw2 := few_of hbare2 hright2
          have hfew : (mk (pairs l0)).names.length ≤ 41 := hTa.hier.few
          have hsh := names_short Hnm.out
          have hch := chL_hav (hav_alike hbare) (hav_alike hbare2) (mk (pairs l0)).names (mk (pairs l1)).has
          have hcl := chL_len (mk (pairs l0)).names (mk (pairs l1)).has l0 l1
          have HC1 : Hid (∀ W, Below w4.heap.size w4 W → Calls Tryz.prog 11 #[.pointer (some ⟨t, 0, none⟩), .pointer (some ⟨u, 0, none⟩)] W fun e w' => ∃ A c, e = .returned (.slice A (chL (mk (pairs l0)).names (mk (pairs l1)).has l0 l1).length c) ∧ Rds w' A ((chL (mk (pairs l0)).names (mk (pairs l1)).has l0 l1).map sv) ∧ Below W.heap.size W w') := Lib.hid (fun W hb => (changed_any (hTa.ext hb) hTo hFw (hTa2.ext hb) hTo2 hFw2 hsh).mono (fun e w' ⟨v, h1, h2, h3⟩ => by
            rw [hch] at h2
            obtain ⟨A, c, rfl, _, _, r3, _⟩ := h2.slice
            exact ⟨A, c, h1, r3, h3⟩))
          have HC2 : Hid (∀ W, Below w4.heap.size w4 W → Calls Tryz.prog 12 #[.pointer (some ⟨r, 0, none⟩), .pointer (some ⟨s, 0, none⟩)] W fun e w' => ∃ A c, e = .returned (.slice A (chL (mk (pairs l0)).names (mk (pairs l1)).has l0 l1).length c) ∧ Rds w' A ((chL (mk (pairs l0)).names (mk (pairs l1)).has l0 l1).map sv) ∧ Below W.heap.size W w') := Lib.hid (fun W hb => (changedR_any (hRT.ext hb) hU (hRT2.ext hb) hU2 hfew).mono (fun e w' ⟨v, h1, h2, h3⟩ => by
            obtain ⟨A, c, rfl, _, _, r3, _⟩ := h2.slice
            exact ⟨A, c, h1, r3, h3⟩))
          have HC3 : Hid (∀ W, Below w4.heap.size w4 W → Calls Tryz.prog 11 #[.pointer (some ⟨t, 0, none⟩), .pointer (some ⟨t, 0, none⟩)] W fun e w' => ∃ A c, e = .returned (.slice A 0 c) ∧ Below W.heap.size W w') := Lib.hid (fun W hb => (changed_any (hTa.ext hb) hTo hFw (hTa.ext hb) hTo hFw hsh).mono (fun e w' ⟨v, h1, h2, h3⟩ => by
            rw [chL_self] at h2
            obtain ⟨A, c, rfl, _, _, r3, _⟩ := h2.slice
            exact ⟨A, c, h1, h3⟩))
          have Z4 := Lib.hid (Below.refl w4.heap.size w4)
          clear hlo hTa hTo hRT hbare hwhy hright hlo2 hTa2 hTo2 hRT2 hbare2 hwhy2 hright2 hU hU2 hFw hFw2 hsh hch hz HBo4 HOq Hnm
          generalize chL (mk (pairs l0)).names (mk (pairs l1)).has l0 l1 = cs at *
          generalize (mk (pairs l0)).names = ns at *
          go_wp2_with fail
          refine (HC1.out _ Z4.out).mono ?_
          rintro e w5 ⟨A5, c5, rfl, r5, hb5⟩
          have G5 := Lib.hid hb5
          have R5 := Lib.hid r5
          clear r5 hb5
          go_wp2_with fail
          refine (HC2.out _ G5.out).mono ?_
          rintro e w6 ⟨A6, c6, rfl, r6, hb6⟩
          have G6 := Lib.hid (G5.out.trans (hb6.mono G5.out.size))
          have HTx := Lib.hid (texts_same A5 A6 cs cs.length cs.length c5 c6 w6 rfl rfl (by unfold maxLen; omega) (R5.out.below hb6) r6)
          clear r6 hb6
          go_wp2_with fail
          refine HTx.out.mono ?_
          rintro e w7 ⟨rfl, hb7⟩
          have G7 := Lib.hid (G6.out.trans (hb7.mono G6.out.size))
          clear hb7 HTx
          go_wp2_with fail
          refine (HC3.out _ G7.out).mono ?_
          rintro e w8 ⟨A8, c8, rfl, hb8⟩
          have G8 := Lib.hid (G7.out.trans (hb8.mono G7.out.size))
          have B8 := Lib.hid (B4.out.trans (G8.out.mono B4.out.size))
          clear hb8
          go_wp2_with fail
          refine (HK.out _ B8.out).mono ?_
          rintro e w9 ⟨rfl, hb9⟩
          have B9 := Lib.hid (B8.out.trans (hb9.mono B8.out.size))
          clear hb9
          go_wp2_with fail
          go_ret
          exact ⟨rfl, B9.out⟩
        · clear HBo4 HOq Hnm hne
          go_wp2_with fail
          refine (HK.out _ B4.out).mono ?_
          rintro e w5 ⟨rfl, hb5⟩
          have B5 := Lib.hid (B4.out.trans (hb5.mono B4.out.size))
          clear hb5
          go_wp2_with fail
          go_ret
          exact ⟨rfl, B5.out⟩
      · clear hne
        go_wp2_with fail
        refine (HOq.out _ B3.out).mono ?_
        rintro e w4 ⟨hb4, hor⟩
        have B4 := Lib.hid (B3.out.trans (hb4.mono B3.out.size))
        clear hb4 HOq Hnm
        rcases hor with ⟨hz, u, s, D, rfl, hBq⟩ | ⟨hne, rfl⟩
        · clear hz hBq
          go_wp2_with fail
          refine (HK.out _ B4.out).mono ?_
          rintro e w5 ⟨rfl, hb5⟩
          have B5 := Lib.hid (B4.out.trans (hb5.mono B4.out.size))
          clear hb5
          go_wp2_with fail
          go_ret
          exact ⟨rfl, B5.out⟩
        · clear hne
          go_wp2_with fail
          refine (HK.out _ B4.out).mono ?_
          rintro e w5 ⟨rfl, hb5⟩
          have B5 := Lib.hid (B4.out.trans (hb5.mono B4.out.size))
          clear hb5
          go_wp2_with fail
          go_ret
          exact ⟨rfl, B5.out⟩
end WTableChanged
end Go.Proofs.YtblikehnfdhcpaaGreatDoor
