/-
  klass.Same and the document's own Same, of classes: what they return.
-/
import Derived.Test.YthkkcecfenohjaaGreatDoorKlsE
import Derived.Deep.RegionHeld3
namespace Go.Proofs.YthkkcecfenohjaaGreatDoor
namespace Kls
open Go.RowKit Base BinM Stru PoolM PoolA PoolJ InsJ

/-- a box of five cells -/
def Box5 (w : World) (g : Nat) (a b c d e : Value) : Prop :=
  w.cell? ⟨g, 0, none⟩ = some a ∧ w.cell? ⟨g, 1, none⟩ = some b ∧ w.cell? ⟨g, 2, none⟩ = some c ∧ w.cell? ⟨g, 3, none⟩ = some d ∧ w.cell? ⟨g, 4, none⟩ = some e
theorem Box5.new (w : World) (a b c d e : Value) (ty : TypeId) : Box5 (w.alloc (.cells #[a, b, c, d, e] ty)) w.heap.size a b c d e := by
  refine ⟨?_, ?_, ?_, ?_, ?_⟩
  all_goals (rw [cell_of_row _ _ _ _ ty (0, 0) (heap_alloc_new w _)]; rfl)
theorem Box5.below {w w' : World} {B g : Nat} {a b c d e : Value} (h : Box5 w g a b c d e) (hb : Below B w w') (hg : g < B) : Box5 w' g a b c d e :=
  ⟨(hb.cell (p := ⟨g, 0, none⟩) hg).trans h.1, (hb.cell (p := ⟨g, 1, none⟩) hg).trans h.2.1, (hb.cell (p := ⟨g, 2, none⟩) hg).trans h.2.2.1, (hb.cell (p := ⟨g, 3, none⟩) hg).trans h.2.2.2.1, (hb.cell (p := ⟨g, 4, none⟩) hg).trans h.2.2.2.2⟩
theorem Box5.after {w w' : World} {g : Nat} {a b c d e : Value} (h : Box5 w g a b c d e) (hb : Below w.heap.size w w') : Box5 w' g a b c d e :=
  h.below hb (World.block_lt_of_cell? w ⟨g, 0, none⟩ h.1)

def MthT.V (x : MthT) : Value := .agg #[.string ⟨x.name.toArray⟩, .string ⟨x.sig.toArray⟩, .int .i64 x.locals, .slice x.cA x.cm x.cc, .slice x.hA x.hm x.hc]

/-- two boxes, one behind the other -/
theorem two (w : World) (a b c d e a' b' c' d' e' : Value) (ty : TypeId) : Below w.heap.size w ((w.alloc (.cells #[a, b, c, d, e] ty)).alloc (.cells #[a', b', c', d', e'] ty)) :=
  ((Below.refl _ _).alloc (Nat.le_refl _) _).alloc (by simp) _
theorem two1 (w : World) (a b c d e a' b' c' d' e' : Value) (ty : TypeId) : Box5 ((w.alloc (.cells #[a, b, c, d, e] ty)).alloc (.cells #[a', b', c', d', e'] ty)) w.heap.size a b c d e :=
  (Box5.new w a b c d e ty).after ((Below.refl _ _).alloc (Nat.le_refl _) _)
theorem two2 (w : World) (a b c d e a' b' c' d' e' : Value) (ty : TypeId) : Box5 ((w.alloc (.cells #[a, b, c, d, e] ty)).alloc (.cells #[a', b', c', d', e'] ty)) (w.heap.size + 1) a' b' c' d' e' := by
  have h := Box5.new (w.alloc (.cells #[a, b, c, d, e] ty)) a' b' c' d' e' ty
  rw [show (w.alloc (.cells #[a, b, c, d, e] ty)).heap.size = w.heap.size + 1 by simp] at h
  exact h

set_option maxRecDepth 100000 in
set_option maxHeartbeats 4000000 in
theorem sameM_any (x y : MthT) (w : World) (hx : x.is w) (hy : y.is w) :
    Calls Tryz.prog 66 #[x.V, y.V] w fun e w' => e = .returned (.bool (decide (x.pure = y.pure))) ∧ Below w.heap.size w w' := by
  obtain ⟨n, s, lo, cA, cm, cc, hA, hm, hc, cd, hd⟩ := x
  obtain ⟨n', s', lo', cA', cm', cc', hA', hm', hc', cd', hd'⟩ := y
  have Hx := Lib.hid hx
  have Hy := Lib.hid hy
  clear hx hy
  generalize hD : decide (MthT.pure _ = MthT.pure _) = D
  simp only [MthT.V]
  have HB := Lib.hid (two w (.string ⟨n.toArray⟩) (.string ⟨s.toArray⟩) (.int .i64 lo) (.slice cA cm cc) (.slice hA hm hc) (.string ⟨n'.toArray⟩) (.string ⟨s'.toArray⟩) (.int .i64 lo') (.slice cA' cm' cc') (.slice hA' hm' hc') 62)
  have H1 := Lib.hid (two1 w (.string ⟨n.toArray⟩) (.string ⟨s.toArray⟩) (.int .i64 lo) (.slice cA cm cc) (.slice hA hm hc) (.string ⟨n'.toArray⟩) (.string ⟨s'.toArray⟩) (.int .i64 lo') (.slice cA' cm' cc') (.slice hA' hm' hc') 62)
  have H2 := Lib.hid (two2 w (.string ⟨n.toArray⟩) (.string ⟨s.toArray⟩) (.int .i64 lo) (.slice cA cm cc) (.slice hA hm hc) (.string ⟨n'.toArray⟩) (.string ⟨s'.toArray⟩) (.int .i64 lo') (.slice cA' cm' cc') (.slice hA' hm' hc') 62)
  by_cases h1 : n = n'
  · subst h1
    by_cases h2 : s = s'
    · subst h2
      by_cases h3 : lo = lo'
      · subst h3
        by_cases h4 : cd = cd'
        · have Hf := Lib.hid (show D = decide (hd = hd') by rw [← hD]; simp [MthT.pure, h4])
          have hq : decide (cd = cd') = true := decide_eq_true h4
          clear h4 hD
          go_enter Tryz.func66, Tryz.ntmps66
          go_wp2_with fail
          refine Calls.mono (equalI_any cA cA' cd cd' cm cm' cc cc' _ Hx.out.code.len Hy.out.code.len (Nat.le_trans Hx.out.code.le Hx.out.code.max) (Hx.out.code.below HB.out).rds (Hy.out.code.below HB.out).rds) ?_
          rw [hq]
          rintro e w3 ⟨rfl, hb3⟩
          obtain ⟨hc0, hc1, hc2, hc3, hc4⟩ := H1.out.after hb3
          obtain ⟨hd0, hd1, hd2, hd3, hd4⟩ := H2.out.after hb3
          have Hb3 := Lib.hid (HB.out.trans (hb3.mono HB.out.size))
          clear hb3
          go_wp2_with fail
          refine Calls.mono (equalH_any hA hA' hd hd' hm hm' hc hc' _ Hx.out.hand.len Hy.out.hand.len (Nat.le_trans Hx.out.hand.le Hx.out.hand.max) (Hx.out.hand.below Hb3.out).rds (Hy.out.hand.below Hb3.out).rds) ?_
          rw [← Hf.out]
          rintro e w4 ⟨rfl, hb4⟩
          have Hb4 := Lib.hid (Hb3.out.trans (hb4.mono Hb3.out.size))
          clear hb4
          go_wp2_with fail
          go_ret
          exact ⟨rfl, Hb4.out⟩
        · have Hf := Lib.hid (show D = false by rw [← hD]; simp [MthT.pure, h4])
          have hq : decide (cd = cd') = false := decide_eq_false h4
          clear h4 hD
          go_enter Tryz.func66, Tryz.ntmps66
          go_wp2_with fail
          refine Calls.mono (equalI_any cA cA' cd cd' cm cm' cc cc' _ Hx.out.code.len Hy.out.code.len (Nat.le_trans Hx.out.code.le Hx.out.code.max) (Hx.out.code.below HB.out).rds (Hy.out.code.below HB.out).rds) ?_
          rw [hq]
          rintro e w3 ⟨rfl, hb3⟩
          have Hb3 := Lib.hid (HB.out.trans (hb3.mono HB.out.size))
          clear hb3
          go_wp2_with fail
          go_ret
          exact ⟨by rw [Hf.out]; rfl, Hb3.out⟩
      · have Hf := Lib.hid (show D = false by rw [← hD]; simp [MthT.pure, h3])
        clear hD
        go_enter Tryz.func66, Tryz.ntmps66
        go_wp2_with fail
        go_ret
        exact ⟨by rw [Hf.out]; rfl, HB.out⟩
    · have Hf := Lib.hid (show D = false by rw [← hD]; simp [MthT.pure, h2])
      clear hD
      go_enter Tryz.func66, Tryz.ntmps66
      go_wp2_with fail
      go_ret
      exact ⟨by rw [Hf.out]; rfl, HB.out⟩
  · have Hf := Lib.hid (show D = false by rw [← hD]; simp [MthT.pure, h1])
    clear hD
    go_enter Tryz.func66, Tryz.ntmps66
    go_wp2_with fail
    go_ret
    exact ⟨by rw [Hf.out]; rfl, HB.out⟩

end Kls
end Go.Proofs.YthkkcecfenohjaaGreatDoor
