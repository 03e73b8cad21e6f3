/-
  PackSame: what the law returns, walked in the order of its text.
-/
import Derived.Test.YthkkcecfenohjaaGreatDoorPckK
import Derived.Test.YthkkcecfenohjaaGreatDoorPckS
import Derived.Test.YthkkcecfenohjaaGreatDoorPckR
import Derived.Test.YthkkcecfenohjaaGreatDoorOpenP
namespace Go.Proofs.YthkkcecfenohjaaGreatDoor
namespace WPackSame
open Go.RowKit Base BinM Stru PoolM PoolA PoolJ InsJ Kls Pck PckS PckR PckK

/-- a box of two cells -/
def Box2 (w : World) (g : Nat) (a b : Value) : Prop := w.cell? ⟨g, 0, none⟩ = some a ∧ w.cell? ⟨g, 1, none⟩ = some b
theorem Box2.of {w : World} {g : Nat} {a b : Value} {ty : TypeId} (h : Part.Row w g #[a, b] ty) : Box2 w g a b := ⟨h.cell 0, h.cell 1⟩
theorem Box2.after {w w' : World} {g : Nat} {a b : Value} (h : Box2 w g a b) (hb : Below w.heap.size w w') : Box2 w' g a b :=
  have hl : g < w.heap.size := World.block_lt_of_cell? w ⟨g, 0, none⟩ h.1
  ⟨(hb.cell (p := ⟨g, 0, none⟩) hl).trans h.1, (hb.cell (p := ⟨g, 1, none⟩) hl).trans h.2⟩
theorem Box2.drew {w : World} {g : Nat} {a b : Value} (h : Box2 w g a b) : Box2 w.drew g a b := h

set_option maxRecDepth 100000 in
set_option maxHeartbeats 8000000 in
theorem walk (x0 : BunT) (x1 : BunT) (w : World) (hl : InsA.Laid w) (w0 : x0.is w) (_ : OpenP.BunT.lt x0) (w1 : x1.is w) (_ : OpenP.BunT.lt x1) :
    Calls Tryz.prog 9 #[x0.V, x1.V] w fun e w' => e = .returned (.bool true) ∧ Below w.heap.size w w' := by
  have Hk := Lib.hid (fun (W : World) (hb : Below w.heap.size w W) => known_any W (hl.below hb hl.1))
  have hs0 := fun (W : World) (hb : Below w.heap.size w W) => small_any x0 W (w0.below hb)
  have hs1 := fun (W : World) (hb : Below w.heap.size w W) => small_any x1 W (w1.below hb)
  have h01 := fun (W : World) (hb : Below w.heap.size w W) => sameB_any x0 x1 W (w0.below hb) (w1.below hb)
  have h00 := fun (W : World) (hb : Below w.heap.size w W) => sameB_any x0 x0 W (w0.below hb) (w0.below hb)
  have hr := fun (W : World) (hb : Below w.heap.size w W) => refSameB_any x0 x1 W (w0.below hb) (w1.below hb)
  rw [BunT.same_refl] at h00
  clear w0 w1 hl
  obtain ⟨cA, cm, cc, tA, tm, tc, cs, ts⟩ := x0
  obtain ⟨cA', cm', cc', tA', tm', tc', cs', ts'⟩ := x1
  simp only [BunT.V] at hs0 hs1 h01 h00 hr ⊢
  generalize BunT.same _ _ = D at *
  have Hs0 := Lib.hid hs0
  have Hs1 := Lib.hid hs1
  have H01 := Lib.hid h01
  have H00 := Lib.hid h00
  have Hr := Lib.hid hr
  clear hs0 hs1 h01 h00 hr
  have hp := pair w #[.slice cA cm cc, .slice tA tm tc] #[.slice cA' cm' cc', .slice tA' tm' tc'] 48 48
  have HB := Lib.hid hp.2.2
  have E1 := Lib.hid (Box2.of hp.1)
  have E2 := Lib.hid (Box2.of hp.2.1)
  clear hp
  go_enter Tryz.func9, Tryz.ntmps9
  go_wp2_with fail
  refine Calls.mono (Hs0.out _ HB.out) ?_
  rintro e w3 ⟨r, rfl, hb3⟩
  have B3 := Lib.hid (HB.out.trans (hb3.mono HB.out.size))
  have F1 := Lib.hid (E1.out.after hb3)
  have F2 := Lib.hid (E2.out.after hb3)
  clear hb3
  cases r
  · go_wp2_with fail
    refine (Hk.out _ B3.out).mono ?_
    rintro e w9 ⟨rfl, hb9⟩
    have B9 := Lib.hid (B3.out.trans (hb9.mono B3.out.size))
    clear hb9
    go_wp2_with fail
    go_ret
    exact ⟨rfl, B9.out⟩
  · obtain ⟨g0, g1⟩ := F2.out
    go_wp2_with fail
    refine Calls.mono (Hs1.out _ B3.out) ?_
    rintro e w4 ⟨r, rfl, hb4⟩
    have B4 := Lib.hid (B3.out.trans (hb4.mono B3.out.size))
    have C4 := Lib.hid (F1.out.after hb4)
    have D4 := Lib.hid (F2.out.after hb4)
    clear hb4 g0 g1
    cases r
    · go_wp2_with fail
      refine (Hk.out _ B4.out).mono ?_
      rintro e w9 ⟨rfl, hb9⟩
      have B9 := Lib.hid (B4.out.trans (hb9.mono B4.out.size))
      clear hb9
      go_wp2_with fail
      go_ret
      exact ⟨rfl, B9.out⟩
    · obtain ⟨c0, c1⟩ := C4.out
      obtain ⟨d0, d1⟩ := D4.out
      go_wp2_with fail
      go_region_held3 (fun w' => w'.cell? ⟨w.heap.size, 0, none⟩ = some (.slice cA cm cc) ∧ w'.cell? ⟨w.heap.size, 1, none⟩ = some (.slice tA tm tc) ∧ w'.cell? ⟨w.heap.size + 1, 0, none⟩ = some (.slice cA' cm' cc') ∧ w'.cell? ⟨w.heap.size + 1, 1, none⟩ = some (.slice tA' tm' tc'))
        (first | exact ⟨c0, c1, d0, d1⟩ | go_keep)
        (first
          | (have hB := B11; clear hB; go_at_call 28; refine Calls.mono (Hk.out _ B11.out) ?_; rintro e w12 ⟨rfl, hb⟩
             have B12 := Lib.hid (B11.out.trans (hb.mono B11.out.size))
             have C12 := Lib.hid (C11.out.after hb)
             have D12 := Lib.hid (D11.out.after hb)
             clear hb c0 c1 d0 d1
             obtain ⟨c0, c1⟩ := C12.out
             obtain ⟨d0, d1⟩ := D12.out)
          | (have hB := B9; clear hB; go_at_call 39; refine Calls.mono (H00.out _ B9.out) ?_; rintro e w11 ⟨rfl, hb⟩
             have B11 := Lib.hid (B9.out.trans (hb.mono B9.out.size))
             have C11 := Lib.hid (C9.out.after hb)
             have D11 := Lib.hid (D9.out.after hb)
             clear hb c0 c1 d0 d1
             obtain ⟨c0, c1⟩ := C11.out
             obtain ⟨d0, d1⟩ := D11.out)
          | (have hB := B8; clear hB; go_at_call 39; refine Calls.mono (H01.out _ B8.out) ?_; rintro e w9 ⟨rfl, hb⟩
             have B9 := Lib.hid (B8.out.trans (hb.mono B8.out.size))
             have C9 := Lib.hid (C8.out.after hb)
             have D9 := Lib.hid (D8.out.after hb)
             clear hb c0 c1 d0 d1
             obtain ⟨c0, c1⟩ := C9.out
             obtain ⟨d0, d1⟩ := D9.out)
          | (have hB := B7; clear hB; go_at_call 38; refine Calls.mono (Hr.out _ B7.out) ?_; rintro e w9 ⟨rfl, hb⟩
             have B9 := Lib.hid (B7.out.trans (hb.mono B7.out.size))
             have C9 := Lib.hid (C7.out.after hb)
             have D9 := Lib.hid (D7.out.after hb)
             clear hb c0 c1 d0 d1
             obtain ⟨c0, c1⟩ := C9.out
             obtain ⟨d0, d1⟩ := D9.out)
          | (have hB := B4; clear hB; go_at_call 39; refine Calls.mono (H01.out _ B4.out.drew) ?_; rintro e w7 ⟨rfl, hb⟩
             have B7 := Lib.hid (B4.out.drew.trans (hb.mono B4.out.size))
             have C7 := Lib.hid (C4.out.drew.after hb)
             have D7 := Lib.hid (D4.out.drew.after hb)
             clear hb c0 c1 d0 d1
             obtain ⟨c0, c1⟩ := C7.out
             obtain ⟨d0, d1⟩ := D7.out)
          | (have hB := B4; clear hB; go_at_call 38; refine Calls.mono (Hr.out _ B4.out.drew) ?_; rintro e w8 ⟨rfl, hb⟩
             have B8 := Lib.hid (B4.out.drew.trans (hb.mono B4.out.size))
             have C8 := Lib.hid (C4.out.drew.after hb)
             have D8 := Lib.hid (D4.out.drew.after hb)
             clear hb c0 c1 d0 d1
             obtain ⟨c0, c1⟩ := C8.out
             obtain ⟨d0, d1⟩ := D8.out))
      all_goals
        go_wp2_with fail
        go_ret
        exact ⟨rfl, B12.out⟩

end WPackSame
end Go.Proofs.YthkkcecfenohjaaGreatDoor
