/-
  KlassSame: what the law returns, walked in the order of its text.
-/
import Derived.Test.YthkkcecfenohjaaGreatDoorKlsN
import Derived.Test.YthkkcecfenohjaaGreatDoorKlsB
import Derived.Test.YthkkcecfenohjaaGreatDoorKlsF
import Derived.Test.YthkkcecfenohjaaGreatDoorOpenK
namespace Go.Proofs.YthkkcecfenohjaaGreatDoor
namespace WKlassSame
open Go.RowKit Base BinM Stru PoolM PoolA PoolJ InsJ Kls KlsN

theorem _root_.Go.Proofs.YthkkcecfenohjaaGreatDoor.Kls.Box5.drew {w : World} {g : Nat} {a b c d e : Value} (h : Box5 w g a b c d e) : Box5 w.drew g a b c d e := h
set_option maxRecDepth 100000 in
set_option maxHeartbeats 8000000 in
theorem walk (x0 : ClsT) (x1 : ClsT) (w : World) (_ : InsA.Laid w) (w0 : x0.is w) (_ : OpenK.ClsT.lt x0) (w1 : x1.is w) (_ : OpenK.ClsT.lt x1) :
    Calls Tryz.prog 6 #[x0.V, x1.V] w fun e w' => e = .returned (.bool true) ∧ Below w.heap.size w w' := by
  have hs0 := fun (W : World) (hb : Below w.heap.size w W) => small_any x0 W (w0.below hb)
  have hs1 := fun (W : World) (hb : Below w.heap.size w W) => small_any x1 W (w1.below hb)
  have h01 := fun (W : World) (hb : Below w.heap.size w W) => same_any x0 x1 W (w0.below hb) (w1.below hb)
  have h00 := fun (W : World) (hb : Below w.heap.size w W) => same_any x0 x0 W (w0.below hb) (w0.below hb)
  have h11 := fun (W : World) (hb : Below w.heap.size w W) => same_any x1 x1 W (w1.below hb) (w1.below hb)
  have hr := fun (W : World) (hb : Below w.heap.size w W) => refSame_any x0 x1 W (w0.below hb) (w1.below hb)
  rw [ClsT.same_refl] at h00 h11
  clear w0 w1
  obtain ⟨n, s, kA, km, kc, fA, fm, fc, mA, mm, mc, ks, fs, ms⟩ := x0
  obtain ⟨n', s', kA', km', kc', fA', fm', fc', mA', mm', mc', ks', fs', ms'⟩ := x1
  simp only [ClsT.V] at hs0 hs1 h01 h00 h11 hr ⊢
  generalize ClsT.same _ _ = D at *
  have Hs0 := Lib.hid hs0
  have Hs1 := Lib.hid hs1
  have H01 := Lib.hid h01
  have H00 := Lib.hid h00
  have H11 := Lib.hid h11
  have Hr := Lib.hid hr
  clear hs0 hs1 h01 h00 h11 hr
  have HB := Lib.hid (two w (.string ⟨n.toArray⟩) (.string ⟨s.toArray⟩) (.slice kA km kc) (.slice fA fm fc) (.slice mA mm mc) (.string ⟨n'.toArray⟩) (.string ⟨s'.toArray⟩) (.slice kA' km' kc') (.slice fA' fm' fc') (.slice mA' mm' mc') 26)
  have E1 := Lib.hid (two1 w (.string ⟨n.toArray⟩) (.string ⟨s.toArray⟩) (.slice kA km kc) (.slice fA fm fc) (.slice mA mm mc) (.string ⟨n'.toArray⟩) (.string ⟨s'.toArray⟩) (.slice kA' km' kc') (.slice fA' fm' fc') (.slice mA' mm' mc') 26)
  have E2 := Lib.hid (two2 w (.string ⟨n.toArray⟩) (.string ⟨s.toArray⟩) (.slice kA km kc) (.slice fA fm fc) (.slice mA mm mc) (.string ⟨n'.toArray⟩) (.string ⟨s'.toArray⟩) (.slice kA' km' kc') (.slice fA' fm' fc') (.slice mA' mm' mc') 26)
  go_enter Tryz.func6, Tryz.ntmps6
  go_wp2_with fail
  refine Calls.mono (Hs0.out _ HB.out) ?_
  rintro e w3 ⟨r, rfl, -, hb3⟩
  have B3 := Lib.hid (HB.out.trans (hb3.mono HB.out.size))
  have F1 := Lib.hid (E1.out.after hb3)
  have F2 := Lib.hid (E2.out.after hb3)
  clear hb3
  cases r
  · go_wp2_with fail
    refine (known_any _).mono ?_
    rintro e w9 ⟨rfl, hb9⟩
    have B9 := Lib.hid (B3.out.trans (hb9.mono B3.out.size))
    clear hb9
    go_wp2_with fail
    go_ret
    exact ⟨rfl, B9.out⟩
  · obtain ⟨g0, g1, g2, g3, g4⟩ := F2.out
    go_wp2_with fail
    refine Calls.mono (Hs1.out _ B3.out) ?_
    rintro e w4 ⟨r, rfl, -, hb4⟩
    have B4 := Lib.hid (B3.out.trans (hb4.mono B3.out.size))
    have P4 := Lib.hid (F1.out.after hb4)
    have Q4 := Lib.hid (F2.out.after hb4)
    clear hb4 g0 g1 g2 g3 g4
    cases r
    · go_wp2_with fail
      refine (known_any _).mono ?_
      rintro e w9 ⟨rfl, hb9⟩
      have B9 := Lib.hid (B4.out.trans (hb9.mono B4.out.size))
      clear hb9
      go_wp2_with fail
      go_ret
      exact ⟨rfl, B9.out⟩
    · obtain ⟨c0, c1, c2, c3, c4⟩ := P4.out
      obtain ⟨d0, d1, d2, d3, d4⟩ := Q4.out
      go_wp2_with fail
      go_region_held3 (fun w' => w'.cell? ⟨w.heap.size, 0, none⟩ = some (.string ⟨n.toArray⟩) ∧ w'.cell? ⟨w.heap.size, 1, none⟩ = some (.string ⟨s.toArray⟩) ∧ w'.cell? ⟨w.heap.size, 2, none⟩ = some (.slice kA km kc) ∧ w'.cell? ⟨w.heap.size, 3, none⟩ = some (.slice fA fm fc) ∧ w'.cell? ⟨w.heap.size, 4, none⟩ = some (.slice mA mm mc) ∧ w'.cell? ⟨w.heap.size + 1, 0, none⟩ = some (.string ⟨n'.toArray⟩) ∧ w'.cell? ⟨w.heap.size + 1, 1, none⟩ = some (.string ⟨s'.toArray⟩) ∧ w'.cell? ⟨w.heap.size + 1, 2, none⟩ = some (.slice kA' km' kc') ∧ w'.cell? ⟨w.heap.size + 1, 3, none⟩ = some (.slice fA' fm' fc') ∧ w'.cell? ⟨w.heap.size + 1, 4, none⟩ = some (.slice mA' mm' mc'))
        (first | exact ⟨c0, c1, c2, c3, c4, d0, d1, d2, d3, d4⟩ | go_keep)
        (first
          | (go_at_call 12; refine (known_any _).mono ?_; rintro e w12 ⟨rfl, hb⟩
             have B12 := Lib.hid (B11.out.trans (hb.mono B11.out.size))
             have P12 := Lib.hid (P11.out.after hb)
             have Q12 := Lib.hid (Q11.out.after hb)
             clear hb c0 c1 c2 c3 c4 d0 d1 d2 d3 d4
             obtain ⟨c0, c1, c2, c3, c4⟩ := P12.out
             obtain ⟨d0, d1, d2, d3, d4⟩ := Q12.out)
          | (go_at_call 23; refine (H11.out _ B10.out).mono ?_; rintro e w11 ⟨rfl, hb⟩
             have B11 := Lib.hid (B10.out.trans (hb.mono B10.out.size))
             have P11 := Lib.hid (P10.out.after hb)
             have Q11 := Lib.hid (Q10.out.after hb)
             clear hb c0 c1 c2 c3 c4 d0 d1 d2 d3 d4
             obtain ⟨c0, c1, c2, c3, c4⟩ := P11.out
             obtain ⟨d0, d1, d2, d3, d4⟩ := Q11.out)
          | (go_at_call 23; refine (H00.out _ B9.out).mono ?_; rintro e w10 ⟨rfl, hb⟩
             have B10 := Lib.hid (B9.out.trans (hb.mono B9.out.size))
             have P10 := Lib.hid (P9.out.after hb)
             have Q10 := Lib.hid (Q9.out.after hb)
             clear hb c0 c1 c2 c3 c4 d0 d1 d2 d3 d4
             obtain ⟨c0, c1, c2, c3, c4⟩ := P10.out
             obtain ⟨d0, d1, d2, d3, d4⟩ := Q10.out)
          | (go_at_call 23; refine (H01.out _ B8.out).mono ?_; rintro e w9 ⟨rfl, hb⟩
             have B9 := Lib.hid (B8.out.trans (hb.mono B8.out.size))
             have P9 := Lib.hid (P8.out.after hb)
             have Q9 := Lib.hid (Q8.out.after hb)
             clear hb c0 c1 c2 c3 c4 d0 d1 d2 d3 d4
             obtain ⟨c0, c1, c2, c3, c4⟩ := P9.out
             obtain ⟨d0, d1, d2, d3, d4⟩ := Q9.out)
          | (go_at_call 22; refine (Hr.out _ B7.out).mono ?_; rintro e w9 ⟨rfl, hb⟩
             have B9 := Lib.hid (B7.out.trans (hb.mono B7.out.size))
             have P9 := Lib.hid (P7.out.after hb)
             have Q9 := Lib.hid (Q7.out.after hb)
             clear hb c0 c1 c2 c3 c4 d0 d1 d2 d3 d4
             obtain ⟨c0, c1, c2, c3, c4⟩ := P9.out
             obtain ⟨d0, d1, d2, d3, d4⟩ := Q9.out)
          | (go_at_call 23; refine (H01.out _ B4.out.drew).mono ?_; rintro e w7 ⟨rfl, hb⟩
             have B7 := Lib.hid (B4.out.drew.trans (hb.mono B4.out.size))
             have P7 := Lib.hid (P4.out.drew.after hb)
             have Q7 := Lib.hid (Q4.out.drew.after hb)
             clear hb c0 c1 c2 c3 c4 d0 d1 d2 d3 d4
             obtain ⟨c0, c1, c2, c3, c4⟩ := P7.out
             obtain ⟨d0, d1, d2, d3, d4⟩ := Q7.out)
          | (go_at_call 22; refine (Hr.out _ B4.out.drew).mono ?_; rintro e w8 ⟨rfl, hb⟩
             have B8 := Lib.hid (B4.out.drew.trans (hb.mono B4.out.size))
             have P8 := Lib.hid (P4.out.drew.after hb)
             have Q8 := Lib.hid (Q4.out.drew.after hb)
             clear hb c0 c1 c2 c3 c4 d0 d1 d2 d3 d4
             obtain ⟨c0, c1, c2, c3, c4⟩ := P8.out
             obtain ⟨d0, d1, d2, d3, d4⟩ := Q8.out))
      all_goals
        go_wp2_with fail
        go_ret
        exact ⟨rfl, B12.out⟩

end WKlassSame
end Go.Proofs.YthkkcecfenohjaaGreatDoor
