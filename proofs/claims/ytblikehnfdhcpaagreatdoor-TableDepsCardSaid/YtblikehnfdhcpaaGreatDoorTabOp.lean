/-
  The tables of some classes, the program's and the document's (law 8's open): what the call returns.
-/
import Derived.Test.YtblikehnfdhcpaaGreatDoorTabCs
import Derived.Test.YtblikehnfdhcpaaGreatDoorTabL
namespace Go.Proofs.YtblikehnfdhcpaaGreatDoor
namespace TabOp
open Go.RowKit Base BinM Stru DescM DescW DescX DescS DescG DescP DescQ HierS HierT HierM HierC HierD HierN HierV HierR HierU HierQ HierY Kls KlsP KlsQ OpenK TabC TabM TabK TabP TabE TabB TabG TabH TabT TabU TabV TabX TabW TabF TabN TabO TabY TabI TabR TabQ TabD TabJ TabL

/-- both tables of the classes L -/
structure Both (w0 w : World) (t r : Nat) (L C : List ClsT) : Prop where
  ta : ∃ lo g mb n A c f, w0.heap.size ≤ lo ∧ Ta lo w t g mb n A c (mk (pairs L)) C f ∧ Total C f
  rt : ∃ lo g A c, RT lo w r g A c (pairs L) L
  bare : C.map bareC = L.map bareC
  why : (whyT (pairs L)).2 = 0
  right : ∀ x ∈ L, clsE x = 0
theorem Both.ext {w0 w w' : World} {t r : Nat} {L C : List ClsT} (h : Both w0 w t r L C) (hb : Below w.heap.size w w') : Both w0 w' t r L C := by
  obtain ⟨⟨lo, g, mb, n, A, c, f, h1, h2, h3⟩, ⟨lo', g', A', c', h4⟩, h5, h6, h7⟩ := h
  exact ⟨⟨lo, g, mb, n, A, c, f, h1, h2.ext hb, h3⟩, ⟨lo', g', A', c', h4.ext hb⟩, h5, h6, h7⟩
def GivesO (L : List ClsT) (w : World) (e : Ending) (w' : World) : Prop :=
  Below w.heap.size w w' ∧ (((whyC L).2 = 0 ∧ ∃ (t r : Nat) (C : List ClsT), e = .returned (.tuple #[.pointer (some ⟨t, 0, none⟩), .pointer (some ⟨r, 0, none⟩), .bool true]) ∧ Both w w' t r L C) ∨
    ((whyC L).2 ≠ 0 ∧ e = .returned (.tuple #[.pointer none, .pointer none, .bool true])))

set_option maxRecDepth 100000 in
set_option maxHeartbeats 4000000 in
theorem open_any (A : Option Addr) (l : List ClsT) (m c : Nat) (w : World) (hm : m = l.length) (hr : Rds w A (l.flatMap valsC)) (his : ∀ x ∈ l, x.is w ∧ ClsT.lt x) (hL : InsA.Laid w) :
    Calls Tryz.prog 7 #[.slice A m c] w (GivesO l w) := by
  have HN := Lib.hid (new_any A l m c w hm hr his hL)
  have HR := Lib.hid (fun (w1 : World) (hb : Below w.heap.size w w1) => newR_any A l m c w1 hm (hr.below hb) (fun x hx => ⟨(his x hx).1.below hb, (his x hx).2⟩))
  clear hr his hL
  subst hm
  go_enter Tryz.func7, Tryz.ntmps7
  go_wp2_with fail
  refine HN.out.mono ?_
  rintro e w1 ⟨hb1, hor⟩
  have HR1 := Lib.hid (HR.out w1 hb1)
  have B1 := Lib.hid hb1
  clear hb1
  rcases hor with ⟨hz, lo, t, g, mb, n, A1, c1, C, f, rfl, hlo, hTa, hTo, hBa, hT, hC⟩ | ⟨hne, rfl⟩
  · have HTa := Lib.hid (And.intro hlo (And.intro hTa hTo))
    have HB := Lib.hid (And.intro hBa (And.intro hT hC))
    have HZ := Lib.hid hz
    clear hlo hTa hTo hBa hT hC hz
    go_wp2_with fail
    refine HR1.out.mono ?_
    rintro e w2 ⟨hb2, hor2⟩
    have B2 := Lib.hid hb2
    clear hb2
    rcases hor2 with ⟨hz2, lo', r, g', A', c', rfl, hRT⟩ | ⟨hne2, rfl⟩
    · have HRT := Lib.hid hRT
      clear hRT hz2
      go_wp2_with fail
      go_ret3
      exact ⟨B1.out.trans (B2.out.mono B1.out.size), .inl ⟨HZ.out, t, r, C, rfl, ⟨⟨lo, g, mb, n, A1, c1, f, HTa.out.1, HTa.out.2.1.ext B2.out, HTa.out.2.2⟩, ⟨lo', g', A', c', HRT.out⟩, HB.out.1, HB.out.2.1, HB.out.2.2⟩⟩⟩
    · exact absurd HZ.out hne2
  · have HNe := Lib.hid hne
    clear hne
    go_wp2_with fail
    refine HR1.out.mono ?_
    rintro e w2 ⟨hb2, hor2⟩
    have B2 := Lib.hid hb2
    clear hb2
    rcases hor2 with ⟨hz2, lo', r, g', A', c', rfl, hRT⟩ | ⟨hne2, rfl⟩
    · exact absurd hz2 HNe.out
    · go_wp2_with fail
      go_ret3
      exact ⟨B1.out.trans (B2.out.mono B1.out.size), .inr ⟨HNe.out, rfl⟩⟩
end TabOp
end Go.Proofs.YtblikehnfdhcpaaGreatDoor
