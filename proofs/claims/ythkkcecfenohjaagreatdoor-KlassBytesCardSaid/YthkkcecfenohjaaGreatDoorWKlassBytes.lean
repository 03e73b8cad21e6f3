/-
  KlassBytes: what the law returns, walked in the order of its text.
-/
import Derived.Test.YthkkcecfenohjaaGreatDoorKlsN
import Derived.Test.YthkkcecfenohjaaGreatDoorKlsJ
import Derived.Test.YthkkcecfenohjaaGreatDoorKlsZ
namespace Go.Proofs.YthkkcecfenohjaaGreatDoor
namespace WKlassBytes
open Go.RowKit Base BinM Stru PoolM PoolA PoolJ InsJ BinPut Bin8 Kls KlsN KlsP KlsQ KlsX KlsD KlsI KlsZ

theorem _root_.Go.Proofs.YthkkcecfenohjaaGreatDoor.Kls.Box5.drew {w : World} {g : Nat} {a b c d e : Value} (h : Box5 w g a b c d e) : Box5 w.drew g a b c d e := h
theorem ways {x : ClsT} : ∃ l E, putK x = (l, E) ∧ ((E ≠ 0 ∧ l = []) ∨ (E = 0 ∧ l = clsB x ∧ clsE x = 0 ∧ l.length ≤ 65536)) := by
  by_cases h : clsE x = 0
  · by_cases h2 : 65536 < (clsB x).length
    · exact ⟨_, _, putK_long h h2, .inl ⟨by decide, rfl⟩⟩
    · exact ⟨_, _, putK_ok h h2, .inr ⟨rfl, rfl, h, by omega⟩⟩
  · exact ⟨_, _, putK_bad h, .inl ⟨h, rfl⟩⟩
theorem text_w (W : World) (A : Option Addr) (n c : Nat) (l : List UInt8) (h : n = l.length) (hr : Rds W A (cells8 l)) : (convert 33 9 (.slice A n c)).run Tryz.prog W = .ok (.string ⟨l.toArray⟩) W :=
  run_text (P := Tryz.prog) (w := W) 33 9 5 n c Tryz.underlying33 Tryz.underlying5 Tryz.underlying9 (l := l) h hr
set_option maxRecDepth 100000 in
set_option maxHeartbeats 8000000 in
theorem walk (x0 : ClsT) (w : World) (hl : InsA.Laid w) (w0 : x0.is w) (b0 : OpenK.ClsT.lt x0) :
    Calls Tryz.prog 4 #[x0.V] w fun e w' => e = .returned (.bool true) ∧ Below w.heap.size w w' := by
  obtain ⟨l, E, hP, hW⟩ := ways (x := x0)
  have hs := fun (W : World) (hb : Below w.heap.size w W) => small_any x0 W (w0.below hb)
  have hp := fun (W : World) (hb : Below w.heap.size w W) => put_any x0 W (hl.below hb hl.1) (w0.below hb) b0
  have hq := fun (W : World) (hb : Below w.heap.size w W) => KlsJ.refPut_any x0 W (hl.below hb hl.1) (w0.below hb) b0
  rw [hP] at hp hq
  have Hg := Lib.hid (fun (hE : clsE x0 = 0) (hll : l = clsB x0) (h6 : l.length ≤ 65536) (b o cap : Nat) (W : World) (hb : Below w.heap.size w W) (h1 : l.length ≤ cap) (h2 : cap ≤ maxLen) (hr : Rds W (some ⟨b, o, none⟩) (cells8 l)) => show Calls Tryz.prog 21 #[.slice (some ⟨b, o, none⟩) l.length cap] W fun e w' => ∃ y : ClsT, e = .returned (.tuple #[y.V, .int .i64 0]) ∧ y.is w' ∧ y.same x0 = true ∧ Below W.heap.size W w' by
    subst hll
    exact KlsZ.get_any x0 b o cap W (hl.below hb hl.1) (readC_of w0 hE) hE b0 h1 h2 h6 hr)
  have Hx := Lib.hid (fun (W : World) (hb : Below w.heap.size w W) => (w0.below hb : x0.is W))
  have HW := Lib.hid hW
  have HNE := Lib.hid (show l = clsB x0 → l ≠ [] from fun h e => by rw [e] at h; have := congrArg List.length h; simp [clsB, clsF, clsH] at this)
  clear w0 hl b0 hP hW
  obtain ⟨n, s, kA, km, kc, fA, fm, fc, mA, mm, mc, ks, fs, ms⟩ := x0
  simp only [ClsT.V] at hs hp hq ⊢
  have Hs := Lib.hid hs
  have Hp := Lib.hid hp
  have Hq := Lib.hid hq
  clear hs hp hq
  have HB := Lib.hid ((Below.refl w.heap.size w).alloc (Nat.le_refl _) (.cells #[.string ⟨n.toArray⟩, .string ⟨s.toArray⟩, .slice kA km kc, .slice fA fm fc, .slice mA mm mc] 26))
  have E1 := Lib.hid (Box5.new w (.string ⟨n.toArray⟩) (.string ⟨s.toArray⟩) (.slice kA km kc) (.slice fA fm fc) (.slice mA mm mc) 26)
  go_enter Tryz.func4, Tryz.ntmps4
  go_wp2_with fail
  refine Calls.mono (Hs.out _ HB.out) ?_
  rintro e w3 ⟨r, rfl, -, hb3⟩
  have B3 := Lib.hid (HB.out.trans (hb3.mono HB.out.size))
  have C3 := Lib.hid (E1.out.after hb3)
  clear hb3
  cases r
  · go_wp2_with fail
    refine (known_any _).mono ?_
    rintro e w9 ⟨rfl, hb9⟩
    have B9 := Lib.hid (B3.out.trans (hb9.mono B3.out.size))
    clear hb9
    go_wp2_with fail
    go_ret
    exact ⟨rfl, B9.out⟩
  · obtain ⟨c0, c1, c2, c3, c4⟩ := C3.out
    go_wp2_with fail
    refine Calls.mono (Hp.out _ B3.out) ?_
    rintro e w4 ⟨v4, rfl, hown4, hb4⟩
    obtain ⟨A4, d4, rfl, hq4, hq4', hr4, _⟩ := Own8.slice (p := l) hown4
    have B4 := Lib.hid (B3.out.trans (hb4.mono B3.out.size))
    have C4 := Lib.hid (C3.out.after hb4)
    have R4 := Lib.hid hr4
    clear hb4 hown4 hr4 c0 c1 c2 c3 c4
    obtain ⟨c0, c1, c2, c3, c4⟩ := C4.out
    go_wp2_with fail
    refine Calls.mono (Hq.out _ B4.out) ?_
    rintro e w5 ⟨v5, rfl, hown5, hb5⟩
    obtain ⟨A5, d5, rfl, hq5, hq5', hr5, _⟩ := Own8.slice (p := l) hown5
    have B5 := Lib.hid (B4.out.trans (hb5.mono B4.out.size))
    have C5 := Lib.hid (C4.out.after hb5)
    have R5 := Lib.hid hr5
    have R45 := Lib.hid (R4.out.below hb5)
    clear hb5 hown5 hr5 c0 c1 c2 c3 c4
    rcases HW.out with ⟨hE, hll⟩ | ⟨hE, hll, hcl, h6⟩
    · have hE2 : (E != 0) = true := by simp [hE]
      clear hE hll
      have hv1 := text_w w5 A4 l.length d4 l rfl R45.out
      have hv2 := text_w w5 A5 l.length d5 l rfl R5.out
      have hv3 := text_w w5.drew A4 l.length d4 l rfl R45.out.drew
      have hv4 := text_w w5.drew A5 l.length d5 l rfl R5.out.drew
      go_wp2_with fail
      clear hv1 hv2 hv3 hv4
      refine (known_any _).mono ?_
      rintro e w9 ⟨rfl, hb9⟩
      have B9 := Lib.hid (B5.out.trans (hb9.mono B5.out.size))
      clear hb9
      go_wp2_with fail
      go_ret
      exact ⟨rfl, B9.out⟩
    · subst hE
      obtain ⟨b, o, rfl⟩ : ∃ b o, A4 = some ⟨b, o, none⟩ := by
        rcases R45.out with h | ⟨b, o, hA, _⟩
        · exact (HNE.out hll (List.eq_nil_of_length_eq_zero (by rw [← cells8_length]; rw [h]; rfl))).elim
        · exact ⟨b, o, hA⟩
      have HG := Lib.hid (Hg.out hcl hll h6 b o d4 w5 B5.out hq4 hq4' R45.out)
      clear hll hcl h6
      have hv1 := text_w w5 _ l.length d4 l rfl R45.out
      have hv2 := text_w w5 A5 l.length d5 l rfl R5.out
      have hv3 := text_w w5.drew _ l.length d4 l rfl R45.out.drew
      have hv4 := text_w w5.drew A5 l.length d5 l rfl R5.out.drew
      go_wp2_with fail
      clear hv1 hv2 hv3 hv4
      refine Calls.mono HG.out ?_
      rintro e w6 ⟨y, rfl, hy6, hsm, hb6⟩
      have B6 := Lib.hid (B5.out.trans (hb6.mono B5.out.size))
      have C6 := Lib.hid (C5.out.after hb6)
      have Y6 := Lib.hid hy6
      have SM := Lib.hid hsm
      clear hb6 hy6 hsm
      obtain ⟨y0, y1, yA, ym, yc, zA, zm, zc, uA, um, uc, ys, zs, us⟩ := y
      simp only [ClsT.V]
      have HA := Lib.hid ((Below.refl w6.heap.size w6).alloc (Nat.le_refl _) (.cells #[.string ⟨y0.toArray⟩, .string ⟨y1.toArray⟩, .slice yA ym yc, .slice zA zm zc, .slice uA um uc] 26))
      have D6 := Lib.hid (Box5.new w6 (.string ⟨y0.toArray⟩) (.string ⟨y1.toArray⟩) (.slice yA ym yc) (.slice zA zm zc) (.slice uA um uc) 26)
      have B7 := Lib.hid (B6.out.trans (HA.out.mono B6.out.size))
      have C7 := Lib.hid (C6.out.after HA.out)
      have HY := Lib.hid (fun (W : World) (hb : Below (w6.alloc (.cells #[.string ⟨y0.toArray⟩, .string ⟨y1.toArray⟩, .slice yA ym yc, .slice zA zm zc, .slice uA um uc] 26)).heap.size (w6.alloc (.cells #[.string ⟨y0.toArray⟩, .string ⟨y1.toArray⟩, .slice yA ym yc, .slice zA zm zc, .slice uA um uc] 26)) W) => ((Y6.out.below HA.out).below hb : ClsT.is W _))
      have D7 := Lib.hid D6.out
      obtain ⟨c0, c1, c2, c3, c4⟩ := C7.out
      obtain ⟨d0, d1, d2, d3, d4⟩ := D7.out
      go_wp2_with fail
      have SMo := SM.out
      refine Calls.mono (refSame_any ⟨y0, y1, yA, ym, yc, zA, zm, zc, uA, um, uc, ys, zs, us⟩ ⟨n, s, kA, km, kc, fA, fm, fc, mA, mm, mc, ks, fs, ms⟩ _ (HY.out _ (Below.refl _ _)) (Hx.out _ B7.out)) ?_
      rw [SMo]
      rintro e w12 ⟨rfl, hb⟩
      have B12 := Lib.hid (B7.out.trans (hb.mono B7.out.size))
      have K12 := Lib.hid hb
      have C12 := Lib.hid (C7.out.after hb)
      have D12 := Lib.hid (D7.out.after hb)
      clear hb c0 c1 c2 c3 c4 d0 d1 d2 d3 d4
      obtain ⟨c0, c1, c2, c3, c4⟩ := C12.out
      obtain ⟨d0, d1, d2, d3, d4⟩ := D12.out
      go_wp2_with fail
      refine Calls.mono (same_any ⟨y0, y1, yA, ym, yc, zA, zm, zc, uA, um, uc, ys, zs, us⟩ ⟨n, s, kA, km, kc, fA, fm, fc, mA, mm, mc, ks, fs, ms⟩ _ (HY.out _ K12.out) (Hx.out _ B12.out)) ?_
      rw [SMo]
      rintro e w13 ⟨rfl, hb⟩
      have B13 := Lib.hid (B12.out.trans (hb.mono B12.out.size))
      clear hb
      go_wp2_with fail
      refine (known_any _).mono ?_
      rintro e w14 ⟨rfl, hb⟩
      have B14 := Lib.hid (B13.out.trans (hb.mono B13.out.size))
      clear hb
      go_wp2_with fail
      go_ret
      exact ⟨rfl, B14.out⟩

end WKlassBytes
end Go.Proofs.YthkkcecfenohjaaGreatDoor
