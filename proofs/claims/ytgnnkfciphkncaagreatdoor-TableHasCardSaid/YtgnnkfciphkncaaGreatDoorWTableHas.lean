/-
  The law TableHas, walked: for all classes and every two names it returns true, and nothing that was there is written.
-/
import Derived.Test.YtgnnkfciphkncaaGreatDoorTabOp
import Derived.Test.YtgnnkfciphkncaaGreatDoorTabHc
import Derived.Test.YtgnnkfciphkncaaGreatDoorTabHe
import Derived.Test.YtgnnkfciphkncaaGreatDoorTabS
import Derived.Test.YtgnnkfciphkncaaGreatDoorKlsR
import Derived.Test.YtgnnkfciphkncaaGreatDoorOpenC
import Derived.Test.YtgnnkfciphkncaaGreatDoorLaidM
namespace Go.Proofs.YtgnnkfciphkncaaGreatDoor
namespace WTableHas
open Go.RowKit Base BinM Stru DescM DescW DescX DescS DescG DescP DescQ HierS HierT HierM HierC HierD HierN HierV HierR HierU HierY Kls KlsP KlsQ OpenK TabC TabM TabK TabP TabE TabB TabG TabH TabT TabU TabV TabX TabW TabF TabN TabO TabY TabI TabR TabQ TabD TabL TabS TabCs TabCl TabOp TabHc TabHe

theorem pure_of {x y : ClsT} (h : bareC x = bareC y) : x.meths.map MthT.pure = y.meths.map MthT.pure := by
  have h1 := congrArg (fun z : ClsT => z.meths.map MthT.pure) h
  simp only [bareC, List.map_map] at h1
  exact h1
theorem short_of {C L : List ClsT} (hb : C.map bareC = L.map bareC) (hr : ∀ x ∈ L, clsE x = 0) : Short C := fun k hk => by
  obtain ⟨k', h1, h2⟩ := bare_mem hb hk
  have e3 : k.consts = k'.consts := by
    have e := congrArg ClsT.consts h2
    exact e
  have e4 : k.fields = k'.fields := by
    have e := congrArg ClsT.fields h2
    exact e
  have e5 := pure_of h2
  have hs := cls_short (hr k' h1)
  have hf := cls_few (hr k' h1)
  have hlen : k.meths.length = k'.meths.length := by have := congrArg List.length e5; simpa using this
  refine ⟨by rw [e3]; omega, by rw [e4]; omega, by omega, fun z hz => ?_⟩
  have hm : z.pure ∈ k'.meths.map MthT.pure := by rw [← e5]; exact List.mem_map_of_mem hz
  obtain ⟨z', hz', ez⟩ := List.mem_map.1 hm
  have hs2 := hs.2 z' hz'
  have e6 : z'.code = z.code := congrArg MthP.code ez
  have e7 : z'.hand = z.hand := congrArg MthP.hand ez
  rw [← e6, ← e7]
  omega
theorem own_bare {x y : ClsT} (h : bareC x = bareC y) (nm : T) : (ownP x nm).2 = (ownP y nm).2 ∧ (ownP x nm).1.pure = (ownP y nm).1.pure := by
  have hp := pure_of h
  have hf0 : ∀ l : List MthT, findP (nameM nm) l = findP (fun p : MthP => p.name == nm) (l.map MthT.pure) := fun l => (findP_map (fun p : MthP => p.name == nm) MthT.pure l).symm
  have hf : findP (nameM nm) y.meths = findP (nameM nm) x.meths := by rw [hf0, hf0, hp]
  have hl : x.meths.length = y.meths.length := by have := congrArg List.length hp; simpa using this
  rcases findP_cases (nameM nm) x.meths with h1 | ⟨j, hj, h1⟩
  · rw [own_no_ h1, own_no_ (hf.trans h1)]; exact ⟨rfl, rfl⟩
  · have hj2 : j < y.meths.length := by omega
    rw [own_yes hj h1, own_yes hj2 (hf.trans h1)]
    refine ⟨rfl, ?_⟩
    have h2 := congrArg (fun l : List MthP => l[j]?) hp
    simp [hj, hj2] at h2
    exact h2
theorem kept_bare {C L : List ClsT} (hb : C.map bareC = L.map bareC) (q : T) : bareC (keptC q C) = bareC (keptC q L) := by
  have h2 := find_bare C q
  have h3 := find_bare L q
  rw [hb, h3] at h2
  unfold keptC
  cases h4 : C.find? (named q) with
  | none =>
    cases h5 : L.find? (named q) with
    | none => rfl
    | some y => rw [h4, h5] at h2; cases h2
  | some x =>
    cases h5 : L.find? (named q) with
    | none => rw [h4, h5] at h2; cases h2
    | some y =>
      rw [h4, h5] at h2
      injection h2 with h2
      exact h2.symm
theorem own_short {C : List ClsT} (h : Short C) (q nm : T) : (ownP (keptC q C) nm).1.code.length ≤ 10000 ∧ (ownP (keptC q C) nm).1.hand.length ≤ 10000 := by
  rcases findP_cases (nameM nm) (keptC q C).meths with h1 | ⟨j, hj, h1⟩
  · rw [own_no_ h1]; simp [noM]
  · rw [own_yes hj h1]
    exact (kept_short h q).2.2.2 _ (List.getElem_mem hj)
theorem few_of {C L : List ClsT} (hb : C.map bareC = L.map bareC) (hz : ∀ x ∈ L, clsE x = 0) : ∀ k ∈ C, k.fields.length ≤ 16 ∧ k.meths.length ≤ 32 := fun k hk => by
  obtain ⟨k', h1, h2⟩ := bare_mem hb hk
  exact (alk_of h2).few (cls_few (hz k' h1))

set_option maxRecDepth 100000 in
set_option maxHeartbeats 16000000 in
theorem walk (a0 : Option Addr) (m0 c0 : Nat) (l0 : List Kls.ClsT) (a1 : ByteArray) (a2 : ByteArray) (w : World) (hl : InsA.Laid w) (wm0 : m0 = l0.length) (wc0 : m0 ≤ c0) (wx0 : c0 ≤ maxLen) (wr0 : Rds w a0 (l0.flatMap OpenK.ClsT.vals)) (b0 : ∀ x ∈ l0, x.is w ∧ OpenK.ClsT.lt x) (b1 : a1.size ≤ 140737488351232) (b2 : a2.size ≤ 140737488351232) :
    Calls Tryz.prog 3 #[.slice a0 m0 c0, .string a1, .string a2] w fun e w' => e = .returned (.bool true) ∧ Below w.heap.size w w' := by
  subst wm0
  obtain ⟨q, rfl⟩ : ∃ l : List UInt8, a1 = ⟨l.toArray⟩ := ⟨a1.data.toList, (Lib.mk_data a1).symm⟩
  obtain ⟨nm, rfl⟩ : ∃ l : List UInt8, a2 = ⟨l.toArray⟩ := ⟨a2.data.toList, (Lib.mk_data a2).symm⟩
  have hq : q.length ≤ 140737488351232 := by rw [size_mk] at b1; exact b1
  have Hq := Lib.hid hq
  have HSm := Lib.hid (small_any a0 l0 l0.length c0 w rfl (Nat.le_trans wc0 wx0) wr0 (fun x hx => (b0 x hx).1))
  have HOp := Lib.hid (fun W (hb : Below w.heap.size w W) => open_any a0 l0 l0.length c0 W rfl (Rds.below (xs := l0.flatMap valsC) wr0 hb) (fun x hx => ⟨(b0 x hx).1.below hb, (b0 x hx).2⟩) (hl.below hb hl.1))
  have HK := Lib.hid (fun W (hb : Below w.heap.size w W) => TabZ.known_any W (hl.below hb hl.1))
  have Hnm := Lib.hid (show ∀ k ∈ l0, k.name.length ≤ 140737488351232 from fun k hk => (b0 k hk).2.name)
  clear hl wc0 wx0 wr0 b0 b1 b2 hq
  go_enter Tryz.func3, Tryz.ntmps3
  go_wp2_with fail
  refine HSm.out.mono ?_
  rintro e w1 ⟨b, rfl, hb1⟩
  have B1 := Lib.hid hb1
  clear hb1
  cases b
  · go_wp2_with fail
    refine (HK.out _ B1.out).mono ?_
    rintro e w2 ⟨rfl, hb2⟩
    have B2 := Lib.hid (B1.out.trans (hb2.mono B1.out.size))
    clear hb2
    go_wp2_with fail
    go_ret
    exact ⟨rfl, B2.out⟩
  · go_wp2_with fail
    refine (HOp.out _ B1.out).mono ?_
    rintro e w2 ⟨hb2, hor⟩
    have B2 := Lib.hid (B1.out.trans (hb2.mono B1.out.size))
    clear hb2
    rcases hor with ⟨hz, t, r, C, rfl, hBo⟩ | ⟨hne, rfl⟩
    · obtain ⟨⟨lo, g, mb, n, A, c, f, hlo, hTa, hTo⟩, ⟨lo', g', A', c', hRT⟩, hbare, hwhy, hright⟩ := hBo
      have hC32 : C.length ≤ 32 := by
        have h1 : C.length = l0.length := by have := congrArg List.length hbare; simpa using this
        have h2 : l0.length ≤ 32 := by have := (why_parts hwhy).1; unfold pairs at this; simpa using this
        omega
      have hL32 : l0.length ≤ 32 := by have := (why_parts hwhy).1; unfold pairs at this; simpa using this
      have hU := ups_of hwhy hright
      have hCn := can_of hwhy Hnm.out
      have hav' : hav C = hav l0 := hav_alike hbare
      have hSh := short_of hbare hright
      have hFw := few_of hbare hright
      have hOb := own_bare (kept_bare hbare q) nm
      have hOs := own_short hSh q nm
      have HF1 : Hid (∀ W, Below w2.heap.size w2 W → Calls Tryz.prog 7 #[.pointer (some ⟨t, 0, none⟩), .string ⟨q.toArray⟩, .string ⟨nm.toArray⟩] W fun e w' => e = .returned (.tuple #[.agg #[.string ⟨(fx (hav l0 q).1 nm).name.toArray⟩, .string ⟨(fx (hav l0 q).1 nm).desc.toArray⟩], .string ⟨(fx (hav l0 q).1 nm).cls.toArray⟩, .int .i64 (findP (nameFd nm) (hav l0 q).1)]) ∧ Below W.heap.size W w') := Lib.hid (fun W hb => (field_any (hTa.ext hb) hTo q nm Hq.out).mono (fun e w' h => ⟨by rw [← hav']; exact gives_fx h.1, h.2⟩))
      have HF2 : Hid (∀ W, Below w2.heap.size w2 W → Calls Tryz.prog 8 #[.pointer (some ⟨r, 0, none⟩), .string ⟨q.toArray⟩, .string ⟨nm.toArray⟩] W fun e w' => e = .returned (.tuple #[.agg #[.string ⟨(fx (hav l0 q).1 nm).name.toArray⟩, .string ⟨(fx (hav l0 q).1 nm).desc.toArray⟩], .string ⟨(fx (hav l0 q).1 nm).cls.toArray⟩, .int .i64 (findP (nameFd nm) (hav l0 q).1)]) ∧ Below W.heap.size W w') := Lib.hid (fun W hb => (fieldR_any (hRT.ext hb) hU hCn q nm).mono (fun e w' h => ⟨gives_fx h.1, h.2⟩))
      have HM1 : Hid (∀ W, Below w2.heap.size w2 W → Calls Tryz.prog 9 #[.pointer (some ⟨t, 0, none⟩), .string ⟨q.toArray⟩, .string ⟨nm.toArray⟩] W fun e w' => e = .returned (.tuple #[.agg #[.string ⟨(ex (hav l0 q).2 nm).name.toArray⟩, .string ⟨(ex (hav l0 q).2 nm).sig.toArray⟩, .string ⟨(ex (hav l0 q).2 nm).cls.toArray⟩], .int .i64 (findE (nameE nm) (hav l0 q).2)]) ∧ Below W.heap.size W w') := Lib.hid (fun W hb => (method_any (hTa.ext hb) hTo q nm Hq.out).mono (fun e w' h => ⟨by rw [← hav']; exact gives_ex h.1, h.2⟩))
      have HM2 : Hid (∀ W, Below w2.heap.size w2 W → Calls Tryz.prog 10 #[.pointer (some ⟨r, 0, none⟩), .string ⟨q.toArray⟩, .string ⟨nm.toArray⟩] W fun e w' => e = .returned (.tuple #[.agg #[.string ⟨(ex (hav l0 q).2 nm).name.toArray⟩, .string ⟨(ex (hav l0 q).2 nm).sig.toArray⟩, .string ⟨(ex (hav l0 q).2 nm).cls.toArray⟩], .int .i64 (findE (nameE nm) (hav l0 q).2)]) ∧ Below W.heap.size W w') := Lib.hid (fun W hb => (methodR_any (hRT.ext hb) hU q nm).mono (fun e w' h => ⟨gives_ex h.1, h.2⟩))
      have HC1 : Hid (∀ W, Below w2.heap.size w2 W → Calls Tryz.prog 11 #[.pointer (some ⟨t, 0, none⟩), .string ⟨q.toArray⟩, .string ⟨nm.toArray⟩] W fun e w' => ∃ y : MthT, e = .returned (.tuple #[mthV y, .bool (ownP (keptC q l0) nm).2]) ∧ y.is w' ∧ y.pure = (ownP (keptC q l0) nm).1.pure ∧ Below W.heap.size W w') := Lib.hid (fun W hb => (code_any t _ _ A C c q nm W (hTa.ext hb).box (by omega) (hTa.ext hb).rds (hTa.ext hb).each hOs).mono (fun e w' ⟨y, h1, h2, h3, h4⟩ => ⟨y, by rw [h1, hOb.1], h2, h3.trans hOb.2, h4⟩))
      have HC2 : Hid (∀ W, Below w2.heap.size w2 W → Calls Tryz.prog 12 #[.pointer (some ⟨r, 0, none⟩), .string ⟨q.toArray⟩, .string ⟨nm.toArray⟩] W fun e w' => e = .returned (.tuple #[mthV (ownP (keptC q l0) nm).1, .bool (ownP (keptC q l0) nm).2]) ∧ Below W.heap.size W w') := Lib.hid (fun W hb => codeR_any (hRT.ext hb) (by omega) q nm)
      have HIs : Hid (∀ W, Below w2.heap.size w2 W → (ownP (keptC q l0) nm).1.is W) := Lib.hid (fun W hb => own_is (kept_is (hRT.ext hb).each q) nm)
      have HL1 : Hid (∀ W, Below w2.heap.size w2 W → Calls Tryz.prog 14 #[.pointer (some ⟨t, 0, none⟩), .string ⟨q.toArray⟩] W fun e w' => ∃ A c, e = .returned (.slice A ((hav l0 q).1.map fldOf).length c) ∧ Rds w' A (((hav l0 q).1.map fldOf).flatMap FldT.vals) ∧ Below W.heap.size W w') := Lib.hid (fun W hb => (layout_any (hTa.ext hb) hTo q Hq.out hFw).mono (fun e w' ⟨v, h1, h2, h3⟩ => by
        rw [hav'] at h2
        obtain ⟨A, c, rfl, _, _, _, _⟩ := own_slice h2
        exact ⟨A, c, h1, Rds.ownN h2, h3⟩))
      have HL2 : Hid (∀ W, Below w2.heap.size w2 W → Calls Tryz.prog 15 #[.pointer (some ⟨r, 0, none⟩), .string ⟨q.toArray⟩] W fun e w' => ∃ A c, e = .returned (.slice A ((hav l0 q).1.map fldOf).length c) ∧ Rds w' A (((hav l0 q).1.map fldOf).flatMap FldT.vals) ∧ Below W.heap.size W w') := Lib.hid (fun W hb => (layoutR_any (hRT.ext hb) hU q).mono (fun e w' ⟨v, h1, h2, h3⟩ => by
        obtain ⟨A, c, rfl, _, _, _, _⟩ := own_slice h2
        exact ⟨A, c, h1, Rds.ownN h2, h3⟩))
      have HE1 : Hid (∀ W, Below w2.heap.size w2 W → Calls Tryz.prog 18 #[.pointer (some ⟨t, 0, none⟩), .string ⟨q.toArray⟩] W fun e w' => ∃ A c, e = .returned (.slice A (hav l0 q).2.length c) ∧ Rds w' A ((hav l0 q).2.flatMap EntT.vals) ∧ Below W.heap.size W w') := Lib.hid (fun W hb => (methods_any (hTa.ext hb) hTo q Hq.out hFw).mono (fun e w' ⟨v, h1, h2, h3⟩ => by
        rw [hav'] at h2
        obtain ⟨A, c, rfl, _, _, _, _⟩ := own_slice h2
        exact ⟨A, c, h1, Rds.ownN h2, h3⟩))
      have HE2 : Hid (∀ W, Below w2.heap.size w2 W → Calls Tryz.prog 19 #[.pointer (some ⟨r, 0, none⟩), .string ⟨q.toArray⟩] W fun e w' => ∃ A c, e = .returned (.slice A (hav l0 q).2.length c) ∧ Rds w' A ((hav l0 q).2.flatMap EntT.vals) ∧ Below W.heap.size W w') := Lib.hid (fun W hb => (methodsR_any (hRT.ext hb) hU q).mono (fun e w' ⟨v, h1, h2, h3⟩ => by
        obtain ⟨A, c, rfl, _, _, _, _⟩ := own_slice h2
        exact ⟨A, c, h1, Rds.ownN h2, h3⟩))
      have hlenF : ((hav l0 q).1.map fldOf).length ≤ 5000 := by rw [List.length_map, ← hav']; exact (hav_len hFw q).1
      have hlenE : (hav l0 q).2.length ≤ 5000 := by rw [← hav']; exact (hav_len hFw q).2
      have Z2 := Lib.hid (Below.refl w2.heap.size w2)
      clear hz hlo hTa hTo hRT hbare hwhy hright hU hCn hav' hSh hFw hOb hOs hC32 hL32 HSm HOp Hnm
      generalize (hav l0 q).1.map fldOf = LF at *
      generalize (hav l0 q).2 = LE at *
      generalize fx (hav l0 q).1 nm = xf at *
      generalize findP (nameFd nm) (hav l0 q).1 = kf at *
      generalize ex LE nm = xe at *
      generalize findE (nameE nm) LE = ke at *
      generalize ownP (keptC q l0) nm = P at *
      obtain ⟨mm, ok⟩ := P
      obtain ⟨xf0, xf1, xf2⟩ := xf
      obtain ⟨xe0, xe1, xe2⟩ := xe
      obtain ⟨x0, x1, x2, cA, cm, cc, hA, hm, hcc, code, hand⟩ := mm
      simp only at HF1 HF2 HM1 HM2 HC1 HC2 HIs
      simp only [mthV] at HC2
      go_wp2_with fail
      refine (HF1.out _ Z2.out).mono ?_
      rintro e w3 ⟨rfl, hb3⟩
      have hA3 : Below w3.heap.size w3 (w3.alloc (.cells #[.string ⟨xf0.toArray⟩, .string ⟨xf1.toArray⟩] 30)) := (Below.refl _ _).alloc (Nat.le_refl _) _
      have X3 := Lib.hid (Bx.new w3 #[.string ⟨xf0.toArray⟩, .string ⟨xf1.toArray⟩] 30)
      have G3 := Lib.hid (hb3.trans (hA3.mono hb3.size))
      clear hb3 hA3
      go_wp2_with fail
      refine (HF2.out _ G3.out).mono ?_
      rintro e w4 ⟨rfl, hb4⟩
      have hA4 : Below w4.heap.size w4 (w4.alloc (.cells #[.string ⟨xf0.toArray⟩, .string ⟨xf1.toArray⟩] 30)) := (Below.refl _ _).alloc (Nat.le_refl _) _
      have X4 := Lib.hid (Bx.new w4 #[.string ⟨xf0.toArray⟩, .string ⟨xf1.toArray⟩] 30)
      have S4 := Lib.hid (hb4.trans (hA4.mono hb4.size))
      have G4 := Lib.hid (G3.out.trans (S4.out.mono G3.out.size))
      have X34 := Lib.hid (X3.out.after S4.out)
      clear hb4 hA4 X3 S4
      go_wp2_with fail
      refine (HM1.out _ G4.out).mono ?_
      rintro e w5 ⟨rfl, hb5⟩
      have hA5 : Below w5.heap.size w5 (w5.alloc (.cells #[.string ⟨xe0.toArray⟩, .string ⟨xe1.toArray⟩, .string ⟨xe2.toArray⟩] 34)) := (Below.refl _ _).alloc (Nat.le_refl _) _
      have X5 := Lib.hid (Bx.new w5 #[.string ⟨xe0.toArray⟩, .string ⟨xe1.toArray⟩, .string ⟨xe2.toArray⟩] 34)
      have S5 := Lib.hid (hb5.trans (hA5.mono hb5.size))
      have G5 := Lib.hid (G4.out.trans (S5.out.mono G4.out.size))
      have X35 := Lib.hid (And.intro (X34.out.after S5.out) (X4.out.after S5.out))
      clear hb5 hA5 X34 X4 S5
      go_wp2_with fail
      refine (HM2.out _ G5.out).mono ?_
      rintro e w6 ⟨rfl, hb6⟩
      have hA6 : Below w6.heap.size w6 (w6.alloc (.cells #[.string ⟨xe0.toArray⟩, .string ⟨xe1.toArray⟩, .string ⟨xe2.toArray⟩] 37)) := (Below.refl _ _).alloc (Nat.le_refl _) _
      have X6 := Lib.hid (Bx.new w6 #[.string ⟨xe0.toArray⟩, .string ⟨xe1.toArray⟩, .string ⟨xe2.toArray⟩] 37)
      have S6 := Lib.hid (hb6.trans (hA6.mono hb6.size))
      have G6 := Lib.hid (G5.out.trans (S6.out.mono G5.out.size))
      have X36 := Lib.hid (And.intro (X35.out.1.after S6.out) (And.intro (X35.out.2.after S6.out) (X5.out.after S6.out)))
      clear hb6 hA6 X35 X5 S6
      go_wp2_with fail
      refine (HC1.out _ G6.out).mono ?_
      rintro e w7 ⟨y, rfl, hy7, hyp, hb7⟩
      obtain ⟨y0, y1, y2, ycA, ycm, ycc, yhA, yhm, yhc, ycode, yhand⟩ := y
      simp only [mthV]
      have hA7 : Below w7.heap.size w7 (w7.alloc (.cells #[.string ⟨y0.toArray⟩, .string ⟨y1.toArray⟩, .int .i64 y2, .slice ycA ycm ycc, .slice yhA yhm yhc] 43)) := (Below.refl _ _).alloc (Nat.le_refl _) _
      have X7 := Lib.hid (Bx.new w7 #[.string ⟨y0.toArray⟩, .string ⟨y1.toArray⟩, .int .i64 y2, .slice ycA ycm ycc, .slice yhA yhm yhc] 43)
      have HY7 := Lib.hid (hy7.below hA7)
      have HYp := Lib.hid hyp
      have S7 := Lib.hid (hb7.trans (hA7.mono hb7.size))
      have G7 := Lib.hid (G6.out.trans (S7.out.mono G6.out.size))
      have X37 := Lib.hid (And.intro (X36.out.1.after S7.out) (And.intro (X36.out.2.1.after S7.out) (And.intro (X36.out.2.2.after S7.out) (X6.out.after S7.out))))
      clear hb7 hA7 hy7 hyp X36 X6 S7
      go_wp2_with fail
      refine (HC2.out _ G7.out).mono ?_
      rintro e w8 ⟨rfl, hb8⟩
      have hA8 : Below w8.heap.size w8 (w8.alloc (.cells #[.string ⟨x0.toArray⟩, .string ⟨x1.toArray⟩, .int .i64 x2, .slice cA cm cc, .slice hA hm hcc] 43)) := (Below.refl _ _).alloc (Nat.le_refl _) _
      have X8 := Lib.hid (Bx.new w8 #[.string ⟨x0.toArray⟩, .string ⟨x1.toArray⟩, .int .i64 x2, .slice cA cm cc, .slice hA hm hcc] 43)
      have S8 := Lib.hid (hb8.trans (hA8.mono hb8.size))
      have G8 := Lib.hid (G7.out.trans (S8.out.mono G7.out.size))
      have HY8 := Lib.hid (HY7.out.below S8.out)
      have X38 := Lib.hid (And.intro (X37.out.1.after S8.out) (And.intro (X37.out.2.1.after S8.out) (And.intro (X37.out.2.2.1.after S8.out) (And.intro (X37.out.2.2.2.after S8.out) (X7.out.after S8.out)))))
      have T8 := Lib.hid (Below.refl (w8.alloc (.cells #[.string ⟨x0.toArray⟩, .string ⟨x1.toArray⟩, .int .i64 x2, .slice cA cm cc, .slice hA hm hcc] 43)).heap.size (w8.alloc (.cells #[.string ⟨x0.toArray⟩, .string ⟨x1.toArray⟩, .int .i64 x2, .slice cA cm cc, .slice hA hm hcc] 43)))
      clear hb8 hA8 X37 X7 S8 HY7 HF1 HF2 HM1 HM2 HC1 HC2
      go_wp2_with fail
      generalize w8.alloc (.cells #[.string ⟨x0.toArray⟩, .string ⟨x1.toArray⟩, .int .i64 x2, .slice cA cm cc, .slice hA hm hcc] 43) = W8 at *
      refine (HL1.out _ G8.out).mono ?_
      rintro e w9 ⟨A9, c9, rfl, r9, hb9⟩
      have T9 := Lib.hid hb9
      have R9 := Lib.hid r9
      clear hb9 r9
      go_wp2_with fail
      refine (HL2.out _ (G8.out.trans (T9.out.mono G8.out.size))).mono ?_
      rintro e w10 ⟨A10, c10, rfl, r10, hb10⟩
      have T10 := Lib.hid (T9.out.trans (hb10.mono T9.out.size))
      have HSf := Lib.hid (sameF_any A9 A10 LF LF.length LF.length c9 c10 w10 rfl rfl (by omega) (R9.out.below hb10) r10)
      clear hb10 r10
      go_wp2_with fail
      refine HSf.out.mono ?_
      rintro e w11 ⟨rfl, hb11⟩
      have T11 := Lib.hid (T10.out.trans (hb11.mono T10.out.size))
      clear hb11 HSf
      go_wp2_with fail
      refine (HE1.out _ (G8.out.trans (T11.out.mono G8.out.size))).mono ?_
      rintro e w12 ⟨A12, c12, rfl, r12, hb12⟩
      have T12 := Lib.hid (T11.out.trans (hb12.mono T11.out.size))
      have HEn := Lib.hid (entries_any A12 LE LE.length c12 w12 rfl hlenE r12)
      clear hb12 r12
      go_wp2_with fail
      refine HEn.out.mono ?_
      rintro e w13 ⟨v13, rfl, ho13, hb13⟩
      have T13 := Lib.hid (T12.out.trans (hb13.mono T12.out.size))
      unfold OwnE at ho13
      obtain ⟨A13, c13, rfl, _, _, _, _⟩ := own_slice ho13
      have R13 := Lib.hid (Rds.ownN ho13)
      clear ho13 hb13 HEn
      go_wp2_with fail
      refine (HE2.out _ (G8.out.trans (T13.out.mono G8.out.size))).mono ?_
      rintro e w14 ⟨A14, c14, rfl, r14, hb14⟩
      have T14 := Lib.hid (T13.out.trans (hb14.mono T13.out.size))
      have HSe := Lib.hid (sameE_any A13 A14 LE LE.length LE.length c13 c14 w14 rfl rfl (by omega) (R13.out.below hb14) r14)
      clear hb14 r14
      go_wp2_with fail
      refine HSe.out.mono ?_
      rintro e w15 ⟨rfl, hb15⟩
      have T15 := Lib.hid (T14.out.trans (hb15.mono T14.out.size))
      clear hb15 HSe
      obtain ⟨Y1, Y2, Y3, Y4, Y5⟩ := X38.out
      have Y1 := Lib.hid (Y1.after T15.out)
      have Y2 := Lib.hid (Y2.after T15.out)
      have Y3 := Lib.hid (Y3.after T15.out)
      have Y4 := Lib.hid (Y4.after T15.out)
      have Y5 := Lib.hid (Y5.after T15.out)
      have Y6 := Lib.hid (X8.out.after T15.out)
      have a10 := Y1.out.cell 0
      have a11 := Y1.out.cell 1
      have a20 := Y2.out.cell 0
      have a21 := Y2.out.cell 1
      have a30 := Y3.out.cell 0
      have a31 := Y3.out.cell 1
      have a32 := Y3.out.cell 2
      have a40 := Y4.out.cell 0
      have a41 := Y4.out.cell 1
      have a42 := Y4.out.cell 2
      have a50 := Y5.out.cell 0
      have a51 := Y5.out.cell 1
      have a52 := Y5.out.cell 2
      have a53 := Y5.out.cell 3
      have a54 := Y5.out.cell 4
      have a60 := Y6.out.cell 0
      have a61 := Y6.out.cell 1
      have a62 := Y6.out.cell 2
      have a63 := Y6.out.cell 3
      have a64 := Y6.out.cell 4
      have hef := eql_fld xf0 xf1
      have e0 : (xf2 == xf2) = true := by simp
      have e1 : (xe0 == xe0) = true := by simp
      have e2 : (xe1 == xe1) = true := by simp
      have e3 : (xe2 == xe2) = true := by simp
      have HSm := Lib.hid ((refSameM_any ⟨y0, y1, y2, ycA, ycm, ycc, yhA, yhm, yhc, ycode, yhand⟩ ⟨x0, x1, x2, cA, cm, cc, hA, hm, hcc, code, hand⟩ w15 (HY8.out.below T15.out) (HIs.out _ (G8.out.trans (T15.out.mono G8.out.size)))).mono (R' := fun e w' => e = .returned (.bool true) ∧ Below w15.heap.size w15 w') (fun e w' ⟨h1, h2⟩ => ⟨by rw [h1, decide_eq_true HYp.out], h2⟩))
      simp only [MthT.V] at HSm
      clear X38 X8
      go_wp2_with fail
      refine HSm.out.mono ?_
      rintro e w16 ⟨rfl, hb16⟩
      have T16 := Lib.hid (T15.out.trans (hb16.mono T15.out.size))
      have B16 := Lib.hid (B2.out.trans ((G8.out.trans (T16.out.mono G8.out.size)).mono B2.out.size))
      clear hb16 HSm
      have e4 : (ok == ok) = true := by simp
      go_wp2_with fail
      refine (HK.out _ B16.out).mono ?_
      rintro e w17 ⟨rfl, hb17⟩
      have B17 := Lib.hid (B16.out.trans (hb17.mono B16.out.size))
      clear hb17
      go_wp2_with fail
      go_ret
      exact ⟨rfl, B17.out⟩
    · go_wp2_with fail
      refine (HK.out _ B2.out).mono ?_
      rintro e w3 ⟨rfl, hb3⟩
      have B3 := Lib.hid (B2.out.trans (hb3.mono B2.out.size))
      clear hb3
      go_wp2_with fail
      go_ret
      exact ⟨rfl, B3.out⟩
end WTableHas
end Go.Proofs.YtgnnkfciphkncaaGreatDoor
