/-
  The law TableMakes, walked: for all classes it returns true, and nothing that was there is written.
-/
import Derived.Test.YtfpijjhldacndaaGreatDoorTabOp
import Derived.Test.YtfpijjhldacndaaGreatDoorTabCl
import Derived.Test.YtfpijjhldacndaaGreatDoorTabS
import Derived.Test.YtfpijjhldacndaaGreatDoorKlsR
import Derived.Test.YtfpijjhldacndaaGreatDoorOpenC
import Derived.Test.YtfpijjhldacndaaGreatDoorLaidM
namespace Go.Proofs.YtfpijjhldacndaaGreatDoor
namespace WTableMakes
open Go.RowKit Base BinM Stru DescM DescW DescX DescS DescG DescP DescQ HierS HierT HierM HierC HierD HierN HierV HierR HierU HierY Kls KlsP KlsQ OpenK TabC TabM TabK TabP TabE TabB TabG TabH TabT TabU TabV TabX TabW TabF TabN TabO TabY TabI TabR TabL TabS TabCs TabCl TabOp

theorem pure_of {x y : ClsT} (h : bareC x = bareC y) : x.meths.map MthT.pure = y.meths.map MthT.pure := by
  have h1 := congrArg (fun z : ClsT => z.meths.map MthT.pure) h
  simp only [bareC, List.map_map] at h1
  exact h1
theorem same_of {x y : ClsT} (h : bareC x = bareC y) : x.same y = true := by
  have e1 : x.name = y.name := by
    have e := congrArg ClsT.name h
    exact e
  have e2 : x.sup = y.sup := by
    have e := congrArg ClsT.sup h
    exact e
  have e3 : x.consts = y.consts := by
    have e := congrArg ClsT.consts h
    exact e
  have e4 : x.fields = y.fields := by
    have e := congrArg ClsT.fields h
    exact e
  have e5 := pure_of h
  simp [ClsT.same, e1, e2, e3, e4, e5]
theorem short_of {C L : List ClsT} (hb : C.map bareC = L.map bareC) (hr : ∀ x ∈ L, clsE x = 0) : Short C := fun k hk => by
  obtain ⟨k', h1, h2⟩ := bare_mem hb hk
  have e3 : k.consts = k'.consts := by
    have e := congrArg ClsT.consts h2
    exact e
  have e4 : k.fields = k'.fields := by
    have e := congrArg ClsT.fields h2
    exact e
  have e5 := pure_of h2
  have hs := cls_short (hr k' h1)
  have hf := cls_few (hr k' h1)
  have hlen : k.meths.length = k'.meths.length := by have := congrArg List.length e5; simpa using this
  refine ⟨by rw [e3]; omega, by rw [e4]; omega, by omega, fun z hz => ?_⟩
  have hm : z.pure ∈ k'.meths.map MthT.pure := by rw [← e5]; exact List.mem_map_of_mem hz
  obtain ⟨z', hz', ez⟩ := List.mem_map.1 hm
  have hs2 := hs.2 z' hz'
  have e6 : z'.code = z.code := congrArg MthP.code ez
  have e7 : z'.hand = z.hand := congrArg MthP.hand ez
  rw [← e6, ← e7]
  omega
theorem find_self : ∀ (L : List ClsT), (L.map ClsT.name).Nodup → ∀ k ∈ L, L.find? (named k.name) = some k
  | [], _, k, hk => by cases hk
  | x :: L, hn, k, hk => by
    rw [List.map_cons, List.nodup_cons] at hn
    rw [List.find?_cons]
    rcases List.mem_cons.1 hk with rfl | hk
    · simp [named]
    · have hne : x.name ≠ k.name := fun e => hn.1 (by rw [e]; exact List.mem_map_of_mem hk)
      have h0 : named k.name x = false := by unfold named; simp [hne]
      rw [h0]
      exact find_self L hn.2 k hk
theorem names_nodup {L : List ClsT} (h : (whyT (pairs L)).2 = 0) : (L.map ClsT.name).Nodup := by
  obtain ⟨_, h2, _⟩ := why_parts h
  have h3 := (twice_in _ _ h2).2
  unfold full at h3
  rw [List.map_append] at h3
  have h4 := (List.nodup_append.1 h3).2.1
  unfold pairs at h4
  rw [List.map_map] at h4
  exact h4
/-- what Class says of a name of L -/
theorem kept_of {C L : List ClsT} (hb : C.map bareC = L.map bareC) (hn : (L.map ClsT.name).Nodup) {k : ClsT} (hk : k ∈ L) : (C.find? (named k.name)).isSome = true ∧ bareC (keptC k.name C) = bareC k := by
  have h1 := find_self L hn k hk
  have h2 := find_bare C k.name
  have h3 := find_bare L k.name
  rw [hb, h3, h1] at h2
  unfold keptC
  cases hf : C.find? (named k.name) with
  | none => rw [hf] at h2; cases h2
  | some k' =>
    rw [hf] at h2
    injection h2 with h2
    exact ⟨rfl, h2.symm⟩
theorem texts_same (A B : Option Addr) (a : List T) (m k c d : Nat) (w : World) (hm : m = a.length) (hk : k = a.length) (hmx : m ≤ maxLen) (hr : Rds w A (a.map sv)) (hr2 : Rds w B (a.map sv)) :
    Calls Tryz.prog 8 #[.slice A m c, .slice B k d] w fun e w' => e = .returned (.bool true) ∧ Below w.heap.size w w' :=
  (HierR.texts_any A B a a m k c d w hm hk hmx hr hr2).mono fun e w' ⟨h1, h2⟩ => ⟨by rw [h1]; simp, h2⟩

set_option maxRecDepth 100000 in
theorem hier_any {lo : Nat} {w : World} {t g mb n : Nat} {A : Option Addr} {c : Nat} {h : Hr} {L : List ClsT} {f : T → Option HavT} (H : Ta lo w t g mb n A c h L f) :
    Calls Tryz.prog 9 #[.pointer (some ⟨t, 0, none⟩)] w fun e w' => e = .returned (.pointer (some ⟨g, 0, none⟩)) ∧ w = w' := by
  have b0 := H.box.cell 0
  have hgl := H.box.lt
  clear H
  go_enter Tryz.func9, Tryz.ntmps9
  go_wp2_with fail
  go_ret
  exact ⟨rfl, rfl⟩

structure Row5 (W : World) (b o : Nat) (x : ClsT) : Prop where
  lt : b < W.heap.size
  c0 : W.cell? ⟨b, o, none⟩ = some (.string ⟨x.name.toArray⟩)
  c1 : W.cell? ⟨b, o + 1, none⟩ = some (.string ⟨x.sup.toArray⟩)
  c2 : W.cell? ⟨b, o + 2, none⟩ = some (.slice x.kA x.km x.kc)
  c3 : W.cell? ⟨b, o + 3, none⟩ = some (.slice x.fA x.fm x.fc)
  c4 : W.cell? ⟨b, o + 4, none⟩ = some (.slice x.mA x.mm x.mc)
theorem Row5.ext {W W' : World} {b o : Nat} {x : ClsT} (h : Row5 W b o x) (hb : Below W.heap.size W W') : Row5 W' b o x :=
  ⟨Nat.lt_of_lt_of_le h.lt hb.size, (hb.cell (p := ⟨b, o, none⟩) h.lt).trans h.c0, (hb.cell (p := ⟨b, o + 1, none⟩) h.lt).trans h.c1, (hb.cell (p := ⟨b, o + 2, none⟩) h.lt).trans h.c2, (hb.cell (p := ⟨b, o + 3, none⟩) h.lt).trans h.c3, (hb.cell (p := ⟨b, o + 4, none⟩) h.lt).trans h.c4⟩

set_option maxRecDepth 100000 in
set_option maxHeartbeats 16000000 in
theorem walk (a0 : Option Addr) (m0 c0 : Nat) (l0 : List Kls.ClsT) (w : World) (hl : InsA.Laid w) (wm0 : m0 = l0.length) (wc0 : m0 ≤ c0) (wx0 : c0 ≤ maxLen) (wr0 : Rds w a0 (l0.flatMap OpenK.ClsT.vals)) (b0 : ∀ x ∈ l0, x.is w ∧ OpenK.ClsT.lt x) :
    Calls Tryz.prog 3 #[.slice a0 m0 c0] w fun e w' => e = .returned (.bool true) ∧ Below w.heap.size w w' := by
  subst wm0
  have HSm := Lib.hid (small_any a0 l0 l0.length c0 w rfl (Nat.le_trans wc0 wx0) wr0 (fun x hx => (b0 x hx).1))
  have HOp := Lib.hid (fun W (hb : Below w.heap.size w W) => open_any a0 l0 l0.length c0 W rfl (Rds.below (xs := l0.flatMap valsC) wr0 hb) (fun x hx => ⟨(b0 x hx).1.below hb, (b0 x hx).2⟩) (hl.below hb hl.1))
  have HK := Lib.hid (fun W (hb : Below w.heap.size w W) => TabZ.known_any W (hl.below hb hl.1))
  have Hr := Lib.hid (show Rds w a0 (l0.flatMap valsC) from wr0)
  have His := Lib.hid b0
  clear hl wc0 wx0 wr0 b0
  go_enter Tryz.func3, Tryz.ntmps3
  go_wp2_with fail
  refine HSm.out.mono ?_
  rintro e w1 ⟨b, rfl, hb1⟩
  have B1 := Lib.hid hb1
  clear hb1
  cases b
  · go_wp2_with fail
    refine (HK.out _ B1.out).mono ?_
    rintro e w2 ⟨rfl, hb2⟩
    have B2 := Lib.hid (B1.out.trans (hb2.mono B1.out.size))
    clear hb2
    go_wp2_with fail
    go_ret
    exact ⟨rfl, B2.out⟩
  · go_wp2_with fail
    refine (HOp.out _ B1.out).mono ?_
    rintro e w2 ⟨hb2, hor⟩
    have B2 := Lib.hid (B1.out.trans (hb2.mono B1.out.size))
    clear hb2
    rcases hor with ⟨hz, t, r, C, rfl, hBo⟩ | ⟨hne, rfl⟩
    · obtain ⟨⟨lo, g, mb, n, A, c, f, hlo, hTa, hTo⟩, ⟨lo', g', A', c', hRT⟩, hbare, hwhy, hright⟩ := hBo
      have HTa := Lib.hid (fun W (hb : Below w2.heap.size w2 W) => hTa.ext hb)
      have HRT := Lib.hid (fun W (hb : Below w2.heap.size w2 W) => hRT.ext hb)
      have HShort := Lib.hid (short_of hbare hright)
      have HBare := Lib.hid hbare
      have hCl : C.length = l0.length := by have := congrArg List.length hbare; simpa using this
      have hl32 : l0.length ≤ 32 := by have := (why_parts hwhy).1; unfold pairs at this; simpa using this
      have hC32 : C.length ≤ 32 := by omega
      have HNd := Lib.hid (names_nodup hwhy)
      have HCs := Lib.hid (classes_any hTa (by omega) HShort.out)
      have hfew : (mk (pairs l0)).names.length ≤ 41 := hTa.hier.few
      clear hlo hTa hTo hRT hbare hwhy hright hz
      go_wp2_with fail
      refine HCs.out.mono ?_
      rintro e w3 ⟨A3, c3, D, rfl, hRd, hDi, hDb, hb3⟩
      have hDl : D.length = l0.length := by have := congrArg List.length hDb; simp at this; omega
      rw [hDl]
      have HRd := Lib.hid hRd
      have HDi := Lib.hid hDi
      have HDb := Lib.hid (show D.map bareC = l0.map bareC from hDb.trans HBare.out)
      have HDl := Lib.hid hDl
      have B3 := Lib.hid (B2.out.trans (hb3.mono B2.out.size))
      have Z3 := Lib.hid (Below.refl w3.heap.size w3)
      have H23 := Lib.hid hb3
      have HHi := Lib.hid (fun W (hb : Below w3.heap.size w3 W) => hier_any (HTa.out W (H23.out.trans (hb.mono H23.out.size))))
      have HN := Lib.hid (fun W (hb : Below w3.heap.size w3 W) => (names_any lo g (mk (pairs l0)) W (HTa.out W (H23.out.trans (hb.mono H23.out.size))).hier).mono (R' := fun e w' => ∃ A c, e = .returned (.slice A (mk (pairs l0)).names.length c) ∧ Rds w' A ((mk (pairs l0)).names.map sv) ∧ Below w3.heap.size w3 w' ∧ w'.cell? ⟨r, 0, none⟩ = some (.pointer (some ⟨g', 0, none⟩))) (fun e w' ⟨v, h1, h2, h3⟩ => by
        obtain ⟨A, c, rfl, _, _, r3, _⟩ := h2.slice
        have hb := hb.trans (h3.mono hb.size)
        exact ⟨A, c, h1, r3, hb, (HRT.out w' (H23.out.trans (hb.mono H23.out.size))).box.cell 0⟩))
      have HNR := Lib.hid (fun W (hb : Below w3.heap.size w3 W) (A : Option Addr) (hA : Rds W A ((mk (pairs l0)).names.map sv)) => (namesR_any lo' g' (refL (pairs l0)) W (HRT.out W (H23.out.trans (hb.mono H23.out.size))).hier (HRT.out W (H23.out.trans (hb.mono H23.out.size))).base).mono (R' := fun e w' => ∃ A5 c, e = .returned (.slice A5 (mk (pairs l0)).names.length c) ∧ Rds w' A5 ((mk (pairs l0)).names.map sv) ∧ Rds w' A ((mk (pairs l0)).names.map sv) ∧ Below w3.heap.size w3 w') (fun e w' ⟨v, h1, h2, h3⟩ => by
        rw [refL_names] at h2
        obtain ⟨A5, c, rfl, _, _, r3, _⟩ := h2.slice
        exact ⟨A5, c, h1, r3, hA.below h3, hb.trans (h3.mono hb.size)⟩))
      have rc := (HRT.out w3 hb3).box.cell 0
      clear hRd hDi hDb hb3 hDl
      generalize (mk (pairs l0)).names = ns at *
      go_upto_region 9 with fail
      go_cut [43] (fun s wx => s = .bool false ∧ Below w3.heap.size w3 wx)
      case first =>
        have hB0 := Below.refl w3.heap.size w3
        have hB1 := hB0.drew
        go_region_held3 (fun w' => w'.cell? ⟨r, 0, none⟩ = some (.pointer (some ⟨g', 0, none⟩)))
          (first | go_keep)
          (first
            | (go_at_call 9
               refine (HHi.out _ (by assumption)).mono ?_
               rintro ee w' ⟨rfl, rfl⟩)
            | (go_at_call 10
               refine (HN.out _ (by assumption)).mono ?_
               rintro ee w4 ⟨A4, c4, rfl, r4, hb4, rc4⟩
               have R4 := Lib.hid r4
               have G4 := Lib.hid hb4
               clear r4)
            | (go_at_call 11
               refine (HNR.out _ G4.out A4 R4.out).mono ?_
               rintro ee w5 ⟨A5, c5, rfl, r5, r45, hb5⟩
               have rc5 := (HRT.out w5 (H23.out.trans (hb5.mono H23.out.size))).box.cell 0
               have R5 := Lib.hid (And.intro r45 r5)
               clear r5 r45)
            | (go_at_call 8
               refine (texts_same A4 A5 ns ns.length ns.length c4 c5 _ rfl rfl (by unfold maxLen; omega) R5.out.1 R5.out.2).mono ?_
               rintro ee w6 ⟨rfl, hb56⟩
               have hb6 := hb5.trans (hb56.mono hb5.size)
               have rc6 := (HRT.out w6 (H23.out.trans (hb6.mono H23.out.size))).box.cell 0))
        all_goals
          go_wp2_with fail
          go_meet
          exact ⟨rfl, hb6⟩
      case rest =>
        obtain ⟨rfl, hb9⟩ := hcut
        have G9 := Lib.hid hb9
        have B9 := Lib.hid (B3.out.trans (hb9.mono B3.out.size))
        have T9 := Lib.hid (HTa.out wc (H23.out.trans (hb9.mono H23.out.size)))
        have D9 := Lib.hid (And.intro (HRd.out.below hb9) (fun x hx => (HDi.out x hx).below hb9))
        have Z9 := Lib.hid (Below.refl wc.heap.size wc)
        clear hb9 rc HHi HN HNR H23 HRT HTa Z3 G9
        go_wp2_with fail
        go_loopw [7] (fun i wr => ∃ j : Nat, j ≤ l0.length ∧ i = .int .i64 j ∧ Below wc.heap.size wc wr) (fun i _ => l0.length - (intOf i).toNat)
        case atStart => exact ⟨0, Nat.zero_le _, rfl, Z9.out⟩
        case round =>
          obtain ⟨j, hj, rfl, hbr⟩ := hrel
          have Hbr := Lib.hid hbr
          have hbw := B9.out.trans (hbr.mono B9.out.size)
          have Hbw := Lib.hid hbw
          by_cases hlt : j < l0.length
          · obtain ⟨b1, o1, hA, hb1, hc0, hc1, hc2, hc3, hc4⟩ := cls_at (Hr.out.below hbw) hlt
            have hltD : j < D.length := by have := HDl.out; omega
            obtain ⟨b2, o2, hA2, hb2, hd0, hd1, hd2, hd3, hd4⟩ := cls_at (D9.out.1.below hbr) hltD
            subst hA
            subst hA2
            have hj1 : (j : Int) < (l0.length : Int) := by omega
            have hj0 : (0 : Int) ≤ (j : Int) := by omega
            have hbe := bare_get HDb.out hltD hlt
            have hxis := (His.out _ (List.getElem_mem hlt)).1.below hbw
            have hyis := (D9.out.2 _ (List.getElem_mem hltD)).below hbr
            have hke := kept_of HBare.out HNd.out (List.getElem_mem hlt)
            have HCl := Lib.hid (class_any (T9.out.ext hbr) (by omega) HShort.out l0[j].name)
            clear hbr hbw
            generalize l0[j] = x at *
            generalize D[j] = y at *
            have hS1 := same_of hbe
            rw [hke.1] at HCl
            have HX := Lib.hid (And.intro hxis hyis)
            have HKe := Lib.hid hke.2
            have HS1 := Lib.hid hS1
            clear hxis hyis hke hbe hS1
            go_wp2_with fail
            refine HCl.out.mono ?_
            rintro e w6 ⟨z, rfl, hz, hzx, hb6⟩
            simp only [clsV]
            have hb67 := hb6.trans (((Below.refl w6.heap.size w6).alloc (Nat.le_refl _) (.cells #[.string ⟨z.name.toArray⟩, .string ⟨z.sup.toArray⟩, .slice z.kA z.km z.kc, .slice z.fA z.fm z.fc, .slice z.mA z.mm z.mc] 42)).mono hb6.size)
            have XR := Lib.hid ((Row5.mk hb1 hc0 hc1 hc2 hc3 hc4).ext hb67)
            have YR := Lib.hid ((Row5.mk hb2 hd0 hd1 hd2 hd3 hd4).ext hb67)
            obtain ⟨xl, x0, x1, x2, x3, x4⟩ := (Row5.mk hb1 hc0 hc1 hc2 hc3 hc4).ext hb6
            obtain ⟨yl, y0, y1, y2, y3, y4⟩ := (Row5.mk hb2 hd0 hd1 hd2 hd3 hd4).ext hb6
            have ZB := Lib.hid (Bx.new w6 #[.string ⟨z.name.toArray⟩, .string ⟨z.sup.toArray⟩, .slice z.kA z.km z.kc, .slice z.fA z.fm z.fc, .slice z.mA z.mm z.mc] 42)
            have hS2 := same_of (hzx.trans HKe.out)
            have B7 := Lib.hid (Hbw.out.trans (hb67.mono Hbw.out.size))
            have G7 := Lib.hid (Hbr.out.trans (hb67.mono Hbr.out.size))
            have HZ7 := Lib.hid (hz.below ((Below.refl w6.heap.size w6).alloc (Nat.le_refl _) (.cells #[.string ⟨z.name.toArray⟩, .string ⟨z.sup.toArray⟩, .slice z.kA z.km z.kc, .slice z.fA z.fm z.fc, .slice z.mA z.mm z.mc] 42)))
            have HXY7 := Lib.hid (And.intro (HX.out.1.below hb67) (HX.out.2.below hb67))
            generalize hw7 : w6.alloc (.cells #[.string ⟨z.name.toArray⟩, .string ⟨z.sup.toArray⟩, .slice z.kA z.km z.kc, .slice z.fA z.fm z.fc, .slice z.mA z.mm z.mc] 42) = w7 at XR YR ZB B7 G7 HZ7 HXY7
            have Z7 := Lib.hid (Below.refl w7.heap.size w7)
            have HC1 := Lib.hid (fun W (hb : Below w7.heap.size w7 W) => (refSame_any y x W (HXY7.out.2.below hb) (HXY7.out.1.below hb)).mono (R' := fun e w' => e = .returned (.bool true) ∧ Below w7.heap.size w7 w') (fun e w' ⟨h1, h2⟩ => ⟨by rw [h1, HS1.out], hb.trans (h2.mono hb.size)⟩))
            have HC2 := Lib.hid (fun W (hb : Below w7.heap.size w7 W) => (refSame_any z x W (HZ7.out.below hb) (HXY7.out.1.below hb)).mono (R' := fun e w' => e = .returned (.bool true) ∧ Below w7.heap.size w7 w') (fun e w' ⟨h1, h2⟩ => ⟨by rw [h1, hS2], hb.trans (h2.mono hb.size)⟩))
            simp only [ClsT.V] at HC1 HC2
            clear hb6 hb67 hz hzx hS2 hc0 hc1 hc2 hc3 hc4 hd0 hd1 hd2 hd3 hd4 hb1 hb2 HCl HX HKe HS1
            go_upto_region 15 with fail
            clear hw7 x0 x1 x2 x3 x4 y0 y1 y2 y3 y4 xl yl
            obtain ⟨xl, x0, x1, x2, x3, x4⟩ := XR.out
            obtain ⟨yl, y0, y1, y2, y3, y4⟩ := YR.out
            go_cut [82] (fun s wx => s = .bool false ∧ Below w7.heap.size w7 wx)
            case first =>
              clear HK His HShort HBare HNd HDb HDl Hr B9 D9 Z9 T9 Hbr Hbw B7 G7 HZ7 HXY7
              obtain ⟨q0, q1, q2, q3, q4⟩ := And.intro (ZB.out.cell 0) (And.intro (ZB.out.cell 1) (And.intro (ZB.out.cell 2) (And.intro (ZB.out.cell 3) (ZB.out.cell 4))))
              have hB0 := Below.refl w7.heap.size w7
              have hB1 := hB0.drew
              go_region_held3 (fun w' => w'.cell? ⟨b1, o1 + j * 5, none⟩ = some (.string ⟨x.name.toArray⟩) ∧ w'.cell? ⟨b1, o1 + j * 5 + 1, none⟩ = some (.string ⟨x.sup.toArray⟩) ∧ w'.cell? ⟨b1, o1 + j * 5 + 2, none⟩ = some (.slice x.kA x.km x.kc) ∧ w'.cell? ⟨b1, o1 + j * 5 + 3, none⟩ = some (.slice x.fA x.fm x.fc) ∧ w'.cell? ⟨b1, o1 + j * 5 + 4, none⟩ = some (.slice x.mA x.mm x.mc) ∧ w'.cell? ⟨b2, o2 + j * 5, none⟩ = some (.string ⟨y.name.toArray⟩) ∧ w'.cell? ⟨b2, o2 + j * 5 + 1, none⟩ = some (.string ⟨y.sup.toArray⟩) ∧ w'.cell? ⟨b2, o2 + j * 5 + 2, none⟩ = some (.slice y.kA y.km y.kc) ∧ w'.cell? ⟨b2, o2 + j * 5 + 3, none⟩ = some (.slice y.fA y.fm y.fc) ∧ w'.cell? ⟨b2, o2 + j * 5 + 4, none⟩ = some (.slice y.mA y.mm y.mc) ∧ w'.cell? ⟨w6.heap.size, 0, none⟩ = some (.string ⟨z.name.toArray⟩) ∧ w'.cell? ⟨w6.heap.size, 1, none⟩ = some (.string ⟨z.sup.toArray⟩) ∧ w'.cell? ⟨w6.heap.size, 2, none⟩ = some (.slice z.kA z.km z.kc) ∧ w'.cell? ⟨w6.heap.size, 3, none⟩ = some (.slice z.fA z.fm z.fc) ∧ w'.cell? ⟨w6.heap.size, 4, none⟩ = some (.slice z.mA z.mm z.mc))
                (first | exact ⟨x0, x1, x2, x3, x4, y0, y1, y2, y3, y4, q0, q1, q2, q3, q4⟩ | exact ⟨x80, x81, x82, x83, x84, y80, y81, y82, y83, y84, q80, q81, q82, q83, q84⟩ | exact ⟨x90, x91, x92, x93, x94, y90, y91, y92, y93, y94, q90, q91, q92, q93, q94⟩ | go_keep)
                (first
                  | (have hG := hb8
                     clear hG
                     go_at_call 13
                     refine (HC2.out _ (by assumption)).mono ?_
                     rintro ee w9 ⟨rfl, hb9⟩
                     obtain ⟨xl9, x90, x91, x92, x93, x94⟩ := XR.out.ext hb9
                     obtain ⟨yl9, y90, y91, y92, y93, y94⟩ := YR.out.ext hb9
                     have q90 := (ZB.out.after hb9).cell 0
                     have q91 := (ZB.out.after hb9).cell 1
                     have q92 := (ZB.out.after hb9).cell 2
                     have q93 := (ZB.out.after hb9).cell 3
                     have q94 := (ZB.out.after hb9).cell 4)
                  | (go_at_call 13
                     refine (HC1.out _ (by assumption)).mono ?_
                     rintro ee w8 ⟨rfl, hb8⟩
                     obtain ⟨xl8, x80, x81, x82, x83, x84⟩ := XR.out.ext hb8
                     obtain ⟨yl8, y80, y81, y82, y83, y84⟩ := YR.out.ext hb8
                     have q80 := (ZB.out.after hb8).cell 0
                     have q81 := (ZB.out.after hb8).cell 1
                     have q82 := (ZB.out.after hb8).cell 2
                     have q83 := (ZB.out.after hb8).cell 3
                     have q84 := (ZB.out.after hb8).cell 4))
              all_goals
                go_wp2_with fail
                go_meet
                exact ⟨rfl, hb9⟩
            case rest =>
              obtain ⟨rfl, hb8⟩ := hcut
              have G8 := Lib.hid (G7.out.trans (hb8.mono G7.out.size))
              clear hb8
              go_wp2_with fail
              go_roundw
              case rel => exact ⟨j + 1, by omega, by go_num, G8.out⟩
              case measure => simp [intOf]; omega
          · clear hbr
            go_wp2_with fail
            refine (HK.out _ Hbw.out).mono ?_
            rintro e w8 ⟨rfl, hb8⟩
            have B8 := Lib.hid (Hbw.out.trans (hb8.mono Hbw.out.size))
            clear hb8
            go_wp2_with fail
            go_ret
            exact ⟨rfl, B8.out⟩
    · go_wp2_with fail
      refine (HK.out _ B2.out).mono ?_
      rintro e w3 ⟨rfl, hb3⟩
      have B3 := Lib.hid (B2.out.trans (hb3.mono B2.out.size))
      clear hb3
      go_wp2_with fail
      go_ret
      exact ⟨rfl, B3.out⟩
end WTableMakes
end Go.Proofs.YtfpijjhldacndaaGreatDoor
