/-
  The law HierMakes, walked: for all classes and names it returns true, and nothing that was there is written.
-/
import Derived.Test.YtilakpbgpdbchaaDoorHierX
import Derived.Test.YtilakpbgpdbchaaDoorHierZ
import Derived.Test.YtilakpbgpdbchaaDoorOpenH
namespace Go.Proofs.YtilakpbgpdbchaaDoor
namespace WHierMakes
open Go.RowKit BinM Base DescM DescW DescX HierS HierT HierM HierC HierD HierK HierN HierV HierW HierG HierR HierU HierQ HierY HierZ

theorem texts_same (A B : Option Addr) (a : List T) (m k c d : Nat) (w : World) (hm : m = a.length) (hk : k = a.length) (hmx : m ≤ maxLen) (hr : Rds w A (a.map sv)) (hr2 : Rds w B (a.map sv)) :
    Calls Tryd.prog 12 #[.slice A m c, .slice B k d] w fun e w' => e = .returned (.bool true) ∧ Below w.heap.size w w' :=
  (texts_any A B a a m k c d w hm hk hmx hr hr2).mono fun e w' ⟨h1, h2⟩ => ⟨by rw [h1]; simp, h2⟩

set_option maxRecDepth 100000 in
set_option maxHeartbeats 16000000 in
theorem walk (a0 : Option Addr) (m0 c0 : Nat) (l0 : List HierT.P2) (a1 : ByteArray) (w : World) (wm0 : m0 = l0.length) (_wc0 : m0 ≤ c0) (_wx0 : c0 ≤ maxLen) (wr0 : Rds w a0 (l0.flatMap HierG.pv)) (b0 : ∀ x ∈ l0, OpenH.prLt x) (b1 : a1.size ≤ 140737488351232) :
    Calls Tryd.prog 3 #[.slice a0 m0 c0, .string a1] w fun e w' => e = .returned (.bool true) ∧ Below w.heap.size w w' := by
  obtain ⟨a, rfl⟩ : ∃ l : List UInt8, a1 = ⟨l.toArray⟩ := ⟨a1.data.toList, (Lib.mk_data a1).symm⟩
  rw [size_mk] at b1
  have Ha : Hid (a.length ≤ 140737488355328) := Lib.hid (by omega)
  have h0 := Lib.hid (Below.refl w.heap.size w)
  have HK := Lib.hid (fun wr => HierX.known_any wr)
  by_cases h60 : 60 < m0
  · have h60' : (60 : Int) < (m0 : Int) := by omega
    clear wm0 _wc0 _wx0 wr0 b0 b1
    go_enter Tryd.func3, Tryd.ntmps3
    go_wp2_with fail
    refine (HK.out _).mono ?_; rintro e w' ⟨rfl, hb⟩
    go_wp2_with fail
    go_ret
    exact ⟨rfl, hb⟩
  · have h60' : ¬ (60 : Int) < (m0 : Int) := by omega
    have HL := show ∀ x ∈ l0, x.1.length ≤ 140737488355000 from fun x hx => by have := (b0 x hx).1; omega
    have HO := Lib.hid (open_any a0 l0 m0 c0 w wm0 (by omega) wr0 HL)
    have HCan := Lib.hid (show (whyT l0).2 = 0 → HierQ.Can l0 from fun hz => by
      obtain ⟨k1, k2, k3, k4⟩ := why_good hz
      refine ⟨k1, k4, ?_, k3, ?_⟩
      · unfold whyT at hz
        rw [if_neg (by omega), k4] at hz
        simp only at hz
        cases hs : noSup (nms (full l0)) (full l0) with
        | none => rfl
        | some c => rw [hs] at hz; cases hz
      · intro c hc
        have hc' : c ∈ nms (full l0) := hc
        unfold nms full at hc'
        rcases List.mem_cons.1 hc' with rfl | hc'
        · decide
        · obtain ⟨p, hp, rfl⟩ := List.mem_map.1 hc'
          rcases List.mem_append.1 hp with hp | hp
          · unfold alw at hp
            simp at hp
            rcases hp with rfl | rfl | rfl | rfl | rfl | rfl | rfl | rfl <;> decide
          · exact HL p hp)
    clear wm0 _wc0 _wx0 wr0 b0 b1 HL
    go_enter Tryd.func3, Tryd.ntmps3
    go_wp2_with fail
    refine HO.out.mono ?_
    rintro e w2 ⟨hb2, hor⟩
    have B2 := Lib.hid hb2
    clear hb2
    rcases hor with ⟨hz, g, r, rfl, hH, hR⟩ | ⟨hne, rfl⟩
    · have hC := HCan.out hz
      have HC := Lib.hid hC
      have HHb := Lib.hid (fun (wr : World) (hb : Below w2.heap.size w2 wr) => hH.below hb)
      have HRb := Lib.hid (fun (wr : World) (hb : Below w2.heap.size w2 wr) => hR.below hb)
      have Z := Lib.hid (Below.refl w2.heap.size w2)
      have hss := sup_same hC.tw hC.su a
      have hhs := has_same l0 a
      have hfew : (mk l0).names.length ≤ 41 := hH.few
      have hcl := chain_len hC.good a
      have hbl : ((mk l0).below a).length ≤ 41 := by
        have h1 : ((mk l0).below a).length ≤ (mk l0).names.length := List.length_filter_le _ _
        omega
      generalize hS : superT (mk l0) a = S at *
      generalize hB : (mk l0).has a = hb at *
      have K1 := Lib.hid (super_t w2.heap.size g (mk l0) a S w2 hH Ha.out hS)
      have K2 := Lib.hid (supR_any w2.heap.size r (refL l0) a S hss w2 hR)
      have K3 := Lib.hid (names_any w2.heap.size g (mk l0) w2 hH)
      have K4 := Lib.hid (fun wr hbel => namesR_any w2.heap.size r (refL l0) wr (HRb.out wr hbel) hbel.size)
      rw [refL_names] at K4
      have K5 := Lib.hid (fun wr hbel => has_any w2.heap.size g (mk l0) a wr (HHb.out wr hbel))
      rw [hB] at K5
      have K6 := Lib.hid (fun wr hbel => hasR_any w2.heap.size r (refL l0) a wr (HRb.out wr hbel))
      rw [hhs] at K6
      have K7 := Lib.hid (fun wr hbel => chain_any w2.heap.size g (mk l0) a wr (HHb.out wr hbel) hbel.size HC.out.good Ha.out)
      have K8 := Lib.hid (fun wr hbel => chainR_any w2.heap.size r l0 a wr (HRb.out wr hbel) hbel.size HC.out)
      have K9 := Lib.hid (fun wr hbel => below_any w2.heap.size g (mk l0) a wr (HHb.out wr hbel) hbel.size HC.out.good)
      have K10 := Lib.hid (fun wr hbel => belowR_any w2.heap.size r l0 a wr (HRb.out wr hbel) hbel.size HC.out)
      obtain ⟨s, ok⟩ := S
      simp only at K1 K2
      generalize (mk l0).names = ns at *
      generalize (mk l0).chain a = ch at *
      generalize (mk l0).below a = bl at *
      clear hz hH hR hC hss hhs hS hB HHb HRb HC
      have hself : (s == s) = true := by simp
      cases ok
      all_goals
        cases hb
        all_goals
          go_wp2_with fail
          refine K1.out.mono ?_; rintro e w' ⟨rfl, rfl⟩
          go_wp2_with fail
          refine K2.out.mono ?_; rintro e w' ⟨rfl, rfl⟩
          go_wp2_with fail
          refine K3.out.mono ?_; rintro e w3 ⟨v3, rfl, o3, b3⟩
          obtain ⟨A3, c3, rfl, _, _, r3, _⟩ := o3.slice
          have R3 := Lib.hid r3
          have G3 := Lib.hid b3
          clear o3 r3 b3
          go_wp2_with fail
          refine (K4.out _ G3.out).mono ?_; rintro e w4 ⟨v4, rfl, o4, b4⟩
          obtain ⟨A4, c4, rfl, _, _, r4, _⟩ := o4.slice
          have T4 := Lib.hid (texts_same A3 A4 ns ns.length ns.length c3 c4 w4 rfl rfl (by unfold maxLen; omega) (R3.out.below b4) r4)
          have G4 := Lib.hid (G3.out.trans (b4.mono G3.out.size))
          clear o4 r4 b4
          go_wp2_with fail
          refine T4.out.mono ?_; rintro e w5 ⟨rfl, b5⟩
          have G5 := Lib.hid (G4.out.trans (b5.mono G4.out.size))
          clear b5
          go_wp2_with fail
          refine (K5.out _ G5.out).mono ?_; rintro e w' ⟨rfl, rfl⟩
          go_wp2_with fail
          refine (K6.out _ G5.out).mono ?_; rintro e w' ⟨rfl, rfl⟩
          go_wp2_with fail
          refine (K7.out _ G5.out).mono ?_; rintro e w7 ⟨v7, rfl, o7, b7⟩
          obtain ⟨A7, c7, rfl, _, _, r7, _⟩ := o7.slice
          have R7 := Lib.hid r7
          have G7 := Lib.hid (G5.out.trans (b7.mono G5.out.size))
          clear o7 r7 b7
          go_wp2_with fail
          refine (K8.out _ G7.out).mono ?_; rintro e w8 ⟨v8, rfl, o8, b8⟩
          obtain ⟨A8, c8, rfl, _, _, r8, _⟩ := o8.slice
          have T8 := Lib.hid (texts_same A7 A8 ch ch.length ch.length c7 c8 w8 rfl rfl (by unfold maxLen; omega) (R7.out.below b8) r8)
          have G8 := Lib.hid (G7.out.trans (b8.mono G7.out.size))
          clear o8 r8 b8
          go_wp2_with fail
          refine T8.out.mono ?_; rintro e w9 ⟨rfl, b9⟩
          have G9 := Lib.hid (G8.out.trans (b9.mono G8.out.size))
          clear b9
          go_wp2_with fail
          refine (K9.out _ G9.out).mono ?_; rintro e w10 ⟨v10, rfl, o10, b10⟩
          obtain ⟨A10, c10, rfl, _, _, r10, _⟩ := o10.slice
          have R10 := Lib.hid r10
          have G10 := Lib.hid (G9.out.trans (b10.mono G9.out.size))
          clear o10 r10 b10
          go_wp2_with fail
          refine (K10.out _ G10.out).mono ?_; rintro e w11 ⟨v11, rfl, o11, b11⟩
          obtain ⟨A11, c11, rfl, _, _, r11, _⟩ := o11.slice
          have T11 := Lib.hid (texts_same A10 A11 bl bl.length bl.length c10 c11 w11 rfl rfl (by unfold maxLen; omega) (R10.out.below b11) r11)
          have G11 := Lib.hid (G10.out.trans (b11.mono G10.out.size))
          clear o11 r11 b11
          go_wp2_with fail
          refine T11.out.mono ?_; rintro e w12 ⟨rfl, b12⟩
          have G12 := Lib.hid (G11.out.trans (b12.mono G11.out.size))
          clear b12
          go_wp2_with fail
          refine (HK.out _).mono ?_; rintro e w13 ⟨rfl, b13⟩
          have B13 := Lib.hid (B2.out.trans ((G12.out.trans (b13.mono G12.out.size)).mono B2.out.size))
          clear b13
          go_wp2_with fail
          go_ret
          exact ⟨rfl, B13.out⟩
    · go_wp2_with fail
      refine (HK.out _).mono ?_; rintro e w9 ⟨rfl, hb9⟩
      have B9 := Lib.hid (B2.out.trans (hb9.mono B2.out.size))
      clear hb9
      go_wp2_with fail
      go_ret
      exact ⟨rfl, B9.out⟩
end WHierMakes
end Go.Proofs.YtilakpbgpdbchaaDoor
