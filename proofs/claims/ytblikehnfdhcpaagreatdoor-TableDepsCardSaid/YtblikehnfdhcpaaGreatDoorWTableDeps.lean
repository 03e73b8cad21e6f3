/-
  The law TableDeps, walked: for all classes and every two names it returns true, and nothing that was there is written.
-/
import Derived.Test.YtblikehnfdhcpaaGreatDoorTabOp
import Derived.Test.YtblikehnfdhcpaaGreatDoorTabDp
import Derived.Test.YtblikehnfdhcpaaGreatDoorTabS
import Derived.Test.YtblikehnfdhcpaaGreatDoorOpenC
import Derived.Test.YtblikehnfdhcpaaGreatDoorLaidM
namespace Go.Proofs.YtblikehnfdhcpaaGreatDoor
namespace WTableDeps
open Go.RowKit Base BinM Stru DescM DescW DescX DescS DescG DescP DescQ HierS HierT HierM HierC HierD HierN HierV HierR HierU HierY Kls KlsP KlsQ OpenK TabC TabM TabK TabP TabE TabB TabG TabH TabT TabU TabV TabX TabW TabF TabN TabO TabY TabR TabQ TabL TabS TabCl TabOp TabHc TabDp TabD

theorem pure_of {x y : ClsT} (h : bareC x = bareC y) : x.meths.map MthT.pure = y.meths.map MthT.pure := by
  have h1 := congrArg (fun z : ClsT => z.meths.map MthT.pure) h
  simp only [bareC, List.map_map] at h1
  exact h1
theorem own_bare {x y : ClsT} (h : bareC x = bareC y) (nm : T) : (ownP x nm).2 = (ownP y nm).2 ∧ (ownP x nm).1.pure = (ownP y nm).1.pure := by
  have hp := pure_of h
  have hf0 : ∀ l : List MthT, findP (nameM nm) l = findP (fun p : MthP => p.name == nm) (l.map MthT.pure) := fun l => (findP_map (fun p : MthP => p.name == nm) MthT.pure l).symm
  have hf : findP (nameM nm) y.meths = findP (nameM nm) x.meths := by rw [hf0, hf0, hp]
  have hl : x.meths.length = y.meths.length := by have := congrArg List.length hp; simpa using this
  rcases findP_cases (nameM nm) x.meths with h1 | ⟨j, hj, h1⟩
  · rw [own_no_ h1, own_no_ (hf.trans h1)]; exact ⟨rfl, rfl⟩
  · have hj2 : j < y.meths.length := by omega
    rw [own_yes hj h1, own_yes hj2 (hf.trans h1)]
    refine ⟨rfl, ?_⟩
    have h2 := congrArg (fun l : List MthP => l[j]?) hp
    simp [hj, hj2] at h2
    exact h2
theorem kept_bare {C L : List ClsT} (hb : C.map bareC = L.map bareC) (q : T) : bareC (keptC q C) = bareC (keptC q L) := by
  have h2 := find_bare C q
  have h3 := find_bare L q
  rw [hb, h3] at h2
  unfold keptC
  cases h4 : C.find? (named q) with
  | none =>
    cases h5 : L.find? (named q) with
    | none => rfl
    | some y => rw [h4, h5] at h2; cases h2
  | some x =>
    cases h5 : L.find? (named q) with
    | none => rw [h4, h5] at h2; cases h2
    | some y =>
      rw [h4, h5] at h2
      injection h2 with h2
      exact h2.symm
theorem ownC_bare {x y : ClsT} (h : bareC x = bareC y) (nm : T) : (ownC x nm).consts = (ownC y nm).consts := by
  have h1 := (own_bare h nm).1
  unfold ownC
  rw [h1]
  split
  · have e := congrArg ClsT.consts h
    exact e
  · rfl
theorem good_bare {x y : ClsT} (h : bareC x = bareC y) (nm : T) (hg : GoodM (ownC y nm) (ownP y nm).1) : GoodM (ownC x nm) (ownP x nm).1 ∧ depsM (ownC x nm).consts (ownP x nm).1 = depsM (ownC y nm).consts (ownP y nm).1 := by
  have h1 := ownC_bare h nm
  have h2 := (own_bare h nm).2
  have e6 : (ownP x nm).1.code = (ownP y nm).1.code := congrArg MthP.code h2
  have e7 : (ownP x nm).1.hand = (ownP y nm).1.hand := congrArg MthP.hand h2
  refine ⟨⟨by rw [e6]; exact hg.code, by rw [e7]; exact hg.hand, by rw [e6, h1]; exact hg.used, by rw [h1]; exact hg.lt⟩, ?_⟩
  unfold depsM
  rw [h1, e6, e7]
theorem texts_same (A B : Option Addr) (a : List T) (m k c d : Nat) (w : World) (hm : m = a.length) (hk : k = a.length) (hmx : m ≤ maxLen) (hr : Rds w A (a.map sv)) (hr2 : Rds w B (a.map sv)) :
    Calls Tryz.prog 8 #[.slice A m c, .slice B k d] w fun e w' => e = .returned (.bool true) ∧ Below w.heap.size w w' :=
  (HierR.texts_any A B a a m k c d w hm hk hmx hr hr2).mono fun e w' ⟨h1, h2⟩ => ⟨by rw [h1]; simp, h2⟩

set_option maxRecDepth 100000 in
set_option maxHeartbeats 16000000 in
theorem walk (a0 : Option Addr) (m0 c0 : Nat) (l0 : List Kls.ClsT) (a1 : ByteArray) (a2 : ByteArray) (w : World) (hl : InsA.Laid w) (wm0 : m0 = l0.length) (wc0 : m0 ≤ c0) (wx0 : c0 ≤ maxLen) (wr0 : Rds w a0 (l0.flatMap OpenK.ClsT.vals)) (b0 : ∀ x ∈ l0, x.is w ∧ OpenK.ClsT.lt x) (b1 : a1.size ≤ 140737488351232) (b2 : a2.size ≤ 140737488351232) :
    Calls Tryz.prog 3 #[.slice a0 m0 c0, .string a1, .string a2] w fun e w' => e = .returned (.bool true) ∧ Below w.heap.size w w' := by
  subst wm0
  obtain ⟨q, rfl⟩ : ∃ l : List UInt8, a1 = ⟨l.toArray⟩ := ⟨a1.data.toList, (Lib.mk_data a1).symm⟩
  obtain ⟨nm, rfl⟩ : ∃ l : List UInt8, a2 = ⟨l.toArray⟩ := ⟨a2.data.toList, (Lib.mk_data a2).symm⟩
  have HSm := Lib.hid (small_any a0 l0 l0.length c0 w rfl (Nat.le_trans wc0 wx0) wr0 (fun x hx => (b0 x hx).1))
  have HOp := Lib.hid (fun W (hb : Below w.heap.size w W) => open_any a0 l0 l0.length c0 W rfl (Rds.below (xs := l0.flatMap valsC) wr0 hb) (fun x hx => ⟨(b0 x hx).1.below hb, (b0 x hx).2⟩) (hl.below hb hl.1))
  have HK := Lib.hid (fun W (hb : Below w.heap.size w W) => TabZ.known_any W (hl.below hb hl.1))
  have HL := Lib.hid hl
  have Hlt := Lib.hid (show ∀ k ∈ l0, ClsT.lt k from fun k hk => (b0 k hk).2)
  clear hl wc0 wx0 wr0 b0 b1 b2
  go_enter Tryz.func3, Tryz.ntmps3
  go_wp2_with fail
  refine HSm.out.mono ?_
  rintro e w1 ⟨b, rfl, hb1⟩
  have B1 := Lib.hid hb1
  clear hb1
  cases b
  · go_wp2_with fail
    refine (HK.out _ B1.out).mono ?_
    rintro e w2 ⟨rfl, hb2⟩
    have B2 := Lib.hid (B1.out.trans (hb2.mono B1.out.size))
    clear hb2
    go_wp2_with fail
    go_ret
    exact ⟨rfl, B2.out⟩
  · go_wp2_with fail
    refine (HOp.out _ B1.out).mono ?_
    rintro e w2 ⟨hb2, hor⟩
    have B2 := Lib.hid (B1.out.trans (hb2.mono B1.out.size))
    clear hb2
    rcases hor with ⟨hz, t, r, C, rfl, hBo⟩ | ⟨hne, rfl⟩
    · obtain ⟨⟨lo, g, mb, n, A, c, f, hlo, hTa, hTo⟩, ⟨lo', g', A', c', hRT⟩, hbare, hwhy, hright⟩ := hBo
      have hL32 : l0.length ≤ 32 := by have := (why_parts hwhy).1; unfold pairs at this; simpa using this
      have hC32 : C.length ≤ 32 := by
        have h1 : C.length = l0.length := by have := congrArg List.length hbare; simpa using this
        omega
      have hG := good_of hright Hlt.out q nm
      obtain ⟨hGC, hEq⟩ := good_bare (kept_bare hbare q) nm hG
      have hdl := deps_len hG
      have HC1 : Hid (∀ W, Below w2.heap.size w2 W → Calls Tryz.prog 9 #[.pointer (some ⟨t, 0, none⟩), .string ⟨q.toArray⟩, .string ⟨nm.toArray⟩] W fun e w' => ∃ A c, e = .returned (.slice A (depsM (ownC (keptC q l0) nm).consts (ownP (keptC q l0) nm).1).length c) ∧ Rds w' A ((depsM (ownC (keptC q l0) nm).consts (ownP (keptC q l0) nm).1).map sv) ∧ Below W.heap.size W w') := Lib.hid (fun W hb => (deps_any (hTa.ext hb) (by omega) (HL.out.below (B2.out.trans (hb.mono B2.out.size)) HL.out.1) q nm hGC).mono (fun e w' ⟨v, h1, h2, h3⟩ => by
        rw [hEq] at h2
        obtain ⟨A, c, rfl, _, _, r3, _⟩ := h2.slice
        exact ⟨A, c, h1, r3, h3⟩))
      have HC2 : Hid (∀ W, Below w2.heap.size w2 W → Calls Tryz.prog 10 #[.pointer (some ⟨r, 0, none⟩), .string ⟨q.toArray⟩, .string ⟨nm.toArray⟩] W fun e w' => ∃ A c, e = .returned (.slice A (depsM (ownC (keptC q l0) nm).consts (ownP (keptC q l0) nm).1).length c) ∧ Rds w' A ((depsM (ownC (keptC q l0) nm).consts (ownP (keptC q l0) nm).1).map sv) ∧ Below W.heap.size W w') := Lib.hid (fun W hb => (depsR_any (hRT.ext hb) (by omega) q nm hG).mono (fun e w' ⟨v, h1, h2, h3⟩ => by
        obtain ⟨A, c, rfl, _, _, r3, _⟩ := h2.slice
        exact ⟨A, c, h1, r3, h3⟩))
      have Z2 := Lib.hid (Below.refl w2.heap.size w2)
      clear hlo hTa hTo hRT hbare hwhy hright hz hL32 hC32 hG hGC hEq HSm HOp Hlt HL
      generalize depsM (ownC (keptC q l0) nm).consts (ownP (keptC q l0) nm).1 = cs at *
      go_wp2_with fail
      refine (HC1.out _ Z2.out).mono ?_
      rintro e w5 ⟨A5, c5, rfl, r5, hb5⟩
      have G5 := Lib.hid hb5
      have R5 := Lib.hid r5
      clear r5 hb5
      go_wp2_with fail
      refine (HC2.out _ G5.out).mono ?_
      rintro e w6 ⟨A6, c6, rfl, r6, hb6⟩
      have G6 := Lib.hid (G5.out.trans (hb6.mono G5.out.size))
      have HTx := Lib.hid (texts_same A5 A6 cs cs.length cs.length c5 c6 w6 rfl rfl (by unfold maxLen; omega) (R5.out.below hb6) r6)
      clear r6 hb6
      go_wp2_with fail
      refine HTx.out.mono ?_
      rintro e w7 ⟨rfl, hb7⟩
      have G7 := Lib.hid (G6.out.trans (hb7.mono G6.out.size))
      have B7 := Lib.hid (B2.out.trans (G7.out.mono B2.out.size))
      clear hb7 HTx
      go_wp2_with fail
      refine (HK.out _ B7.out).mono ?_
      rintro e w9 ⟨rfl, hb9⟩
      have B9 := Lib.hid (B7.out.trans (hb9.mono B7.out.size))
      clear hb9
      go_wp2_with fail
      go_ret
      exact ⟨rfl, B9.out⟩
    · go_wp2_with fail
      refine (HK.out _ B2.out).mono ?_
      rintro e w3 ⟨rfl, hb3⟩
      have B3 := Lib.hid (B2.out.trans (hb3.mono B2.out.size))
      clear hb3
      go_wp2_with fail
      go_ret
      exact ⟨rfl, B3.out⟩
end WTableDeps
end Go.Proofs.YtblikehnfdhcpaaGreatDoor
