/-
  The law HierOrder, walked: for all classes and texts it returns true, and nothing that was there is written.
-/
import Derived.Test.YtilakpbgpdbchaaDoorHierX
import Derived.Test.YtilakpbgpdbchaaDoorHierG
import Derived.Test.YtilakpbgpdbchaaDoorOpenH
namespace Go.Proofs.YtilakpbgpdbchaaDoor
namespace WHierOrder
open Go.RowKit BinM Base DescM DescW DescX HierS HierT HierM HierC HierD HierK HierN HierV HierW HierG


set_option maxRecDepth 100000 in
set_option maxHeartbeats 4000000 in
theorem walk (a0 : Option Addr) (m0 c0 : Nat) (l0 : List HierT.P2) (a1 : ByteArray) (a2 : ByteArray) (a3 : ByteArray) (w : World) (wm0 : m0 = l0.length) (_wc0 : m0 ≤ c0) (_wx0 : c0 ≤ maxLen) (wr0 : Rds w a0 (l0.flatMap HierG.pv)) (b0 : ∀ x ∈ l0, OpenH.prLt x) (b1 : a1.size ≤ 140737488351232) (b2 : a2.size ≤ 140737488351232) (b3 : a3.size ≤ 140737488351232) :
    Calls Tryd.prog 4 #[.slice a0 m0 c0, .string a1, .string a2, .string a3] w fun e w' => e = .returned (.bool true) ∧ Below w.heap.size w w' := by
  obtain ⟨a, rfl⟩ : ∃ l : List UInt8, a1 = ⟨l.toArray⟩ := ⟨a1.data.toList, (Lib.mk_data a1).symm⟩
  obtain ⟨b, rfl⟩ : ∃ l : List UInt8, a2 = ⟨l.toArray⟩ := ⟨a2.data.toList, (Lib.mk_data a2).symm⟩
  obtain ⟨c, rfl⟩ : ∃ l : List UInt8, a3 = ⟨l.toArray⟩ := ⟨a3.data.toList, (Lib.mk_data a3).symm⟩
  rw [size_mk] at b1 b2 b3
  have Ha : Hid (a.length ≤ 140737488355328) := Lib.hid (by omega)
  have Hb : Hid (b.length ≤ 140737488355328) := Lib.hid (by omega)
  have Hc : Hid (c.length ≤ 140737488355328) := Lib.hid (by omega)
  have h0 := Lib.hid (Below.refl w.heap.size w)
  have HK := Lib.hid (fun wr => HierX.known_any wr)
  by_cases h60 : 60 < m0
  · have h60' : (60 : Int) < (m0 : Int) := by omega
    clear wm0 _wc0 _wx0 wr0 b0 b1 b2 b3
    go_enter Tryd.func4, Tryd.ntmps4
    go_wp2_with fail
    refine (HK.out _).mono ?_; rintro e w' ⟨rfl, hb⟩
    go_wp2_with fail
    go_ret
    exact ⟨rfl, hb⟩
  · have h60' : ¬ (60 : Int) < (m0 : Int) := by omega
    have HG := Lib.hid (given_any a0 l0 m0 c0 w wm0 (by omega) wr0)
    have HL := Lib.hid (show ∀ x ∈ l0.map bare, x.name.length ≤ 140737488355000 by
      intro x hx
      obtain ⟨p, hp, rfl⟩ := List.mem_map.1 hx
      have := (b0 p hp).1
      show p.1.length ≤ _
      omega)
    have HN := Lib.hid (fun W A m c hm hr => new_any A (l0.map bare) m c W hm hr HL.out)
    rw [bare_p2] at HN
    clear wm0 _wc0 _wx0 wr0 b0 b1 b2 b3
    go_enter Tryd.func4, Tryd.ntmps4
    go_wp2_with fail
    refine HG.out.mono ?_
    rintro e w1 ⟨v1, rfl, hown1, hb1⟩
    obtain ⟨A1, c1, rfl, _, _, hr1, _⟩ := hown1.slice
    have B1 := Lib.hid hb1
    have HN1 := Lib.hid (HN.out w1 A1 l0.length c1 (by simp) hr1)
    clear hown1 hb1 hr1
    go_wp2_with fail
    refine HN1.out.mono ?_
    rintro e w2 ⟨hb2, hor⟩
    have B2 := Lib.hid (B1.out.trans (hb2.mono B1.out.size))
    clear hb2
    rcases hor with ⟨hz, g, rfl, hH⟩ | ⟨hne, rfl⟩
    · have hg := (why_good hz).1
      have HSub := Lib.hid (fun (wr : World) (hbel : Below w2.heap.size w2 wr) (x y : T) (hx : x.length ≤ 140737488355328) (hy : y.length ≤ 140737488355328) => (sub_any w2.heap.size g (mk l0) x y wr (hH.below hbel) hbel.size hg hx hy).mono (R' := fun e w' => e = .returned (.bool ((mk l0).sub x y)) ∧ Below w2.heap.size w2 w') fun e w' ⟨h1, h2⟩ => ⟨h1, hbel.trans (h2.mono hbel.size)⟩)
      have HKn := Lib.hid (fun (wr : World) (hbel : Below w2.heap.size w2 wr) => HierD.known_any w2.heap.size g (mk l0) a wr (hH.below hbel) Ha.out)
      have hself := sub_self (mk l0) a
      have Htr := Lib.hid (sub_trans (h := mk l0) hg (a := a) (b := b) (c := c))
      have S1 := Lib.hid (fun wr hbel => HSub.out wr hbel a a Ha.out Ha.out)
      have S2 := Lib.hid (fun wr hbel => HSub.out wr hbel a b Ha.out Hb.out)
      have S3 := Lib.hid (fun wr hbel => HSub.out wr hbel b c Hb.out Hc.out)
      have S4 := Lib.hid (fun wr hbel => HSub.out wr hbel a c Ha.out Hc.out)
      have Z := Lib.hid (Below.refl w2.heap.size w2)
      clear hz hH hg HSub
      generalize (mk l0).sub a a = s1 at *
      generalize (mk l0).sub a b = s2 at *
      generalize (mk l0).sub b c = s3 at *
      generalize (mk l0).sub a c = s4 at *
      generalize (mk l0).known a = kn at *
      cases hN : a == [78]
      · rw [hN] at hself
        simp only [Bool.false_or] at hself
        subst hself
        cases s1
        all_goals
          go_wp2_with fail
          refine (S1.out _ Z.out).mono ?_; rintro e w3 ⟨rfl, hb3⟩
          have G3 := Lib.hid hb3
          clear hb3
          go_wp2_with fail
          refine (HKn.out _ G3.out).mono ?_; rintro e w7 ⟨rfl, rfl⟩
          cases s2
          · go_wp2_with fail
            refine (S2.out _ G3.out).mono ?_; rintro e w4 ⟨rfl, hb4⟩
            have G4 := Lib.hid hb4
            clear hb4
            go_wp2_with fail
            refine (HK.out _).mono ?_; rintro e w9 ⟨rfl, hb9⟩
            have B9 := Lib.hid (B2.out.trans ((G4.out.trans (hb9.mono G4.out.size)).mono B2.out.size))
            clear hb9
            go_wp2_with fail
            go_ret
            exact ⟨rfl, B9.out⟩
          · cases s3
            · go_wp2_with fail
              refine (S2.out _ G3.out).mono ?_; rintro e w4 ⟨rfl, hb4⟩
              have G4 := Lib.hid hb4
              clear hb4
              go_wp2_with fail
              refine (S3.out _ G4.out).mono ?_; rintro e w5 ⟨rfl, hb5⟩
              have G5 := Lib.hid hb5
              clear hb5
              go_wp2_with fail
              refine (HK.out _).mono ?_; rintro e w9 ⟨rfl, hb9⟩
              have B9 := Lib.hid (B2.out.trans ((G5.out.trans (hb9.mono G5.out.size)).mono B2.out.size))
              clear hb9
              go_wp2_with fail
              go_ret
              exact ⟨rfl, B9.out⟩
            · cases s4
              · exact absurd (Htr.out rfl rfl) (by decide)
              · go_wp2_with fail
                refine (S2.out _ G3.out).mono ?_; rintro e w4 ⟨rfl, hb4⟩
                have G4 := Lib.hid hb4
                clear hb4
                go_wp2_with fail
                refine (S3.out _ G4.out).mono ?_; rintro e w5 ⟨rfl, hb5⟩
                have G5 := Lib.hid hb5
                clear hb5
                go_wp2_with fail
                refine (S4.out _ G5.out).mono ?_; rintro e w6 ⟨rfl, hb6⟩
                have G6 := Lib.hid hb6
                clear hb6
                go_wp2_with fail
                refine (HK.out _).mono ?_; rintro e w9 ⟨rfl, hb9⟩
                have B9 := Lib.hid (B2.out.trans ((G6.out.trans (hb9.mono G6.out.size)).mono B2.out.size))
                clear hb9
                go_wp2_with fail
                go_ret
                exact ⟨rfl, B9.out⟩
      · rw [hN] at hself
        simp only [Bool.true_or] at hself
        subst hself
        go_wp2_with fail
        refine (S1.out _ Z.out).mono ?_; rintro e w3 ⟨rfl, hb3⟩
        have G3 := Lib.hid hb3
        clear hb3
        cases s2
        · go_wp2_with fail
          refine (S2.out _ G3.out).mono ?_; rintro e w4 ⟨rfl, hb4⟩
          have G4 := Lib.hid hb4
          clear hb4
          go_wp2_with fail
          refine (HK.out _).mono ?_; rintro e w9 ⟨rfl, hb9⟩
          have B9 := Lib.hid (B2.out.trans ((G4.out.trans (hb9.mono G4.out.size)).mono B2.out.size))
          clear hb9
          go_wp2_with fail
          go_ret
          exact ⟨rfl, B9.out⟩
        · cases s3
          · go_wp2_with fail
            refine (S2.out _ G3.out).mono ?_; rintro e w4 ⟨rfl, hb4⟩
            have G4 := Lib.hid hb4
            clear hb4
            go_wp2_with fail
            refine (S3.out _ G4.out).mono ?_; rintro e w5 ⟨rfl, hb5⟩
            have G5 := Lib.hid hb5
            clear hb5
            go_wp2_with fail
            refine (HK.out _).mono ?_; rintro e w9 ⟨rfl, hb9⟩
            have B9 := Lib.hid (B2.out.trans ((G5.out.trans (hb9.mono G5.out.size)).mono B2.out.size))
            clear hb9
            go_wp2_with fail
            go_ret
            exact ⟨rfl, B9.out⟩
          · cases s4
            · exact absurd (Htr.out rfl rfl) (by decide)
            · go_wp2_with fail
              refine (S2.out _ G3.out).mono ?_; rintro e w4 ⟨rfl, hb4⟩
              have G4 := Lib.hid hb4
              clear hb4
              go_wp2_with fail
              refine (S3.out _ G4.out).mono ?_; rintro e w5 ⟨rfl, hb5⟩
              have G5 := Lib.hid hb5
              clear hb5
              go_wp2_with fail
              refine (S4.out _ G5.out).mono ?_; rintro e w6 ⟨rfl, hb6⟩
              have G6 := Lib.hid hb6
              clear hb6
              go_wp2_with fail
              refine (HK.out _).mono ?_; rintro e w9 ⟨rfl, hb9⟩
              have B9 := Lib.hid (B2.out.trans ((G6.out.trans (hb9.mono G6.out.size)).mono B2.out.size))
              clear hb9
              go_wp2_with fail
              go_ret
              exact ⟨rfl, B9.out⟩
    · have hne' : ((whyT l0).2 == 0) = false := by simpa using hne
      generalize (whyT l0).2 = er at *
      generalize (whyT l0).1 = nm at *
      clear hne
      go_wp2_with fail
      refine (HK.out _).mono ?_; rintro e w9 ⟨rfl, hb9⟩
      have B9 := Lib.hid (B2.out.trans (hb9.mono B2.out.size))
      clear hb9
      go_wp2_with fail
      go_ret
      exact ⟨rfl, B9.out⟩
end WHierOrder
end Go.Proofs.YtilakpbgpdbchaaDoor
