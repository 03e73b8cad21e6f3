/-
  PackRights: what the law returns, walked in the order of its text.
-/
import Derived.Test.YthkkcecfenohjaaGreatDoorPckK
import Derived.Test.YthkkcecfenohjaaGreatDoorPckS
import Derived.Test.YthkkcecfenohjaaGreatDoorPckZ
import Derived.Test.YthkkcecfenohjaaGreatDoorOpenP
namespace Go.Proofs.YthkkcecfenohjaaGreatDoor
namespace WPackRights
open Go.RowKit Base BinM Stru PoolM PoolA PoolJ InsJ Kls KlsP KlsQ Pck PckS PckF PckX PckK

/-- a box of two cells -/
def Box2 (w : World) (g : Nat) (a b : Value) : Prop := w.cell? ⟨g, 0, none⟩ = some a ∧ w.cell? ⟨g, 1, none⟩ = some b
theorem Box2.of {w : World} {g : Nat} {a b : Value} {ty : TypeId} (h : Part.Row w g #[a, b] ty) : Box2 w g a b := ⟨h.cell 0, h.cell 1⟩
theorem Box2.after {w w' : World} {g : Nat} {a b : Value} (h : Box2 w g a b) (hb : Below w.heap.size w w') : Box2 w' g a b :=
  have hl : g < w.heap.size := World.block_lt_of_cell? w ⟨g, 0, none⟩ h.1
  ⟨(hb.cell (p := ⟨g, 0, none⟩) hl).trans h.1, (hb.cell (p := ⟨g, 1, none⟩) hl).trans h.2⟩
theorem Box2.drew {w : World} {g : Nat} {a b : Value} (h : Box2 w g a b) : Box2 w.drew g a b := h

set_option maxRecDepth 100000 in
set_option maxHeartbeats 8000000 in
theorem walk (x0 : BunT) (a1 : ByteArray) (w : World) (hl : InsA.Laid w) (w0 : x0.is w) (b0 : OpenP.BunT.lt x0) (_ : a1.size ≤ 140737488351232) :
    Calls Tryz.prog 7 #[x0.V, .string a1] w fun e w' => e = .returned (.bool true) ∧ Below w.heap.size w w' := by
  obtain ⟨q, rfl⟩ : ∃ q : List UInt8, a1 = ⟨q.toArray⟩ := ⟨a1.data.toList, by simp⟩
  have Hk := Lib.hid (fun (W : World) (hb : Below w.heap.size w W) => known_any W (hl.below hb hl.1))
  have hs := fun (W : World) (hb : Below w.heap.size w W) => small_any x0 W (w0.below hb)
  have hr := fun (W : World) (hb : Below w.heap.size w W) => PckX.right_any x0 W (hl.below hb hl.1) (w0.below hb) b0
  have hrr := fun (W : World) (hb : Below w.heap.size w W) => PckZ.refRight_any x0 W (w0.below hb) b0
  have hf := fun (W : World) (hb : Below w.heap.size w W) => atK_any x0 q W (w0.below hb)
  have hrf := fun (W : World) (hb : Below w.heap.size w W) => refAtK_any x0 q W (w0.below hb)
  have hm := fun (W : World) (hb : Below w.heap.size w W) => atT_any x0 q W (w0.below hb)
  have hrm := fun (W : World) (hb : Below w.heap.size w W) => refAtT_any x0 q W (w0.below hb)
  generalize bunE x0 = D at *
  generalize findP (nameK q) x0.classes = E at *
  generalize findP (nameT q) x0.turns = G at *
  clear w0 hl b0
  obtain ⟨cA, cm, cc, tA, tm, tc, cs, ts⟩ := x0
  simp only [BunT.V] at hs hr hrr hf hrf hm hrm ⊢
  have Hs := Lib.hid hs
  have Hr := Lib.hid hr
  have Hrr := Lib.hid hrr
  have Hf := Lib.hid hf
  have Hrf := Lib.hid hrf
  have Hm := Lib.hid hm
  have Hrm := Lib.hid hrm
  clear hs hr hrr hf hrf hm hrm
  have HB := Lib.hid ((Below.refl w.heap.size w).alloc (Nat.le_refl _) (.cells #[.slice cA cm cc, .slice tA tm tc] 48))
  have E1 := Lib.hid (Box2.of (Part.Row.new w #[.slice cA cm cc, .slice tA tm tc] 48))
  go_enter Tryz.func7, Tryz.ntmps7
  go_wp2_with fail
  refine Calls.mono (Hs.out _ HB.out) ?_
  rintro e w3 ⟨r, rfl, hb3⟩
  have B3 := Lib.hid (HB.out.trans (hb3.mono HB.out.size))
  have C3 := Lib.hid (E1.out.after hb3)
  clear hb3
  cases r
  · go_wp2_with fail
    refine (Hk.out _ B3.out).mono ?_
    rintro e w9 ⟨rfl, hb9⟩
    have B9 := Lib.hid (B3.out.trans (hb9.mono B3.out.size))
    clear hb9
    go_wp2_with fail
    go_ret
    exact ⟨rfl, B9.out⟩
  · obtain ⟨c0, c1⟩ := C3.out
    go_wp2_with fail
    go_region_held3 (fun w' => w'.cell? ⟨w.heap.size, 0, none⟩ = some (.slice cA cm cc) ∧ w'.cell? ⟨w.heap.size, 1, none⟩ = some (.slice tA tm tc))
      (first | exact ⟨c0, c1⟩ | go_keep)
      (first
        | (go_at_call 28; refine Calls.mono (Hk.out _ B13.out) ?_; rintro e w14 ⟨rfl, hb⟩
           have B14 := Lib.hid (B13.out.trans (hb.mono B13.out.size))
           have C14 := Lib.hid (C13.out.after hb)
           clear hb c0 c1
           obtain ⟨c0, c1⟩ := C14.out)
        | (go_at_call 33; refine Calls.mono (Hm.out _ B22.out) ?_; rintro e w13 ⟨rfl, hb⟩
           have B13 := Lib.hid (B22.out.trans (hb.mono B22.out.size))
           have C13 := Lib.hid (C22.out.after hb)
           clear hb c0 c1
           obtain ⟨c0, c1⟩ := C13.out)
        | (go_at_call 34; refine Calls.mono (Hrm.out _ B12.out) ?_; rintro e w13 ⟨rfl, hb⟩
           have B13 := Lib.hid (B12.out.trans (hb.mono B12.out.size))
           have C13 := Lib.hid (C12.out.after hb)
           clear hb c0 c1
           obtain ⟨c0, c1⟩ := C13.out)
        | (go_at_call 33; refine Calls.mono (Hm.out _ B11.out) ?_; rintro e w12 ⟨rfl, hb⟩
           have B12 := Lib.hid (B11.out.trans (hb.mono B11.out.size))
           have C12 := Lib.hid (C11.out.after hb)
           clear hb c0 c1
           obtain ⟨c0, c1⟩ := C12.out)
        | (go_at_call 34; refine Calls.mono (Hrm.out _ B11.out) ?_; rintro e w22 ⟨rfl, hb⟩
           have B22 := Lib.hid (B11.out.trans (hb.mono B11.out.size))
           have C22 := Lib.hid (C11.out.after hb)
           clear hb c0 c1
           obtain ⟨c0, c1⟩ := C22.out)
        | (go_at_call 31; refine Calls.mono (Hf.out _ B20.out) ?_; rintro e w11 ⟨rfl, hb⟩
           have B11 := Lib.hid (B20.out.trans (hb.mono B20.out.size))
           have C11 := Lib.hid (C20.out.after hb)
           clear hb c0 c1
           obtain ⟨c0, c1⟩ := C11.out)
        | (go_at_call 32; refine Calls.mono (Hrf.out _ B10.out) ?_; rintro e w11 ⟨rfl, hb⟩
           have B11 := Lib.hid (B10.out.trans (hb.mono B10.out.size))
           have C11 := Lib.hid (C10.out.after hb)
           clear hb c0 c1
           obtain ⟨c0, c1⟩ := C11.out)
        | (go_at_call 31; refine Calls.mono (Hf.out _ B9.out) ?_; rintro e w10 ⟨rfl, hb⟩
           have B10 := Lib.hid (B9.out.trans (hb.mono B9.out.size))
           have C10 := Lib.hid (C9.out.after hb)
           clear hb c0 c1
           obtain ⟨c0, c1⟩ := C10.out)
        | (go_at_call 32; refine Calls.mono (Hrf.out _ B9.out) ?_; rintro e w20 ⟨rfl, hb⟩
           have B20 := Lib.hid (B9.out.trans (hb.mono B9.out.size))
           have C20 := Lib.hid (C9.out.after hb)
           clear hb c0 c1
           obtain ⟨c0, c1⟩ := C20.out)
        | (go_at_call 29; refine Calls.mono (Hr.out _ B8.out) ?_; rintro e w9 ⟨rfl, hb⟩
           have B9 := Lib.hid (B8.out.trans (hb.mono B8.out.size))
           have C9 := Lib.hid (C8.out.after hb)
           clear hb c0 c1
           obtain ⟨c0, c1⟩ := C9.out)
        | (go_at_call 30; refine Calls.mono (Hrr.out _ B7.out) ?_; rintro e w9 ⟨rfl, hb⟩
           have B9 := Lib.hid (B7.out.trans (hb.mono B7.out.size))
           have C9 := Lib.hid (C7.out.after hb)
           clear hb c0 c1
           obtain ⟨c0, c1⟩ := C9.out)
        | (go_at_call 29; refine Calls.mono (Hr.out _ B3.out.drew) ?_; rintro e w7 ⟨rfl, hb⟩
           have B7 := Lib.hid (B3.out.drew.trans (hb.mono B3.out.size))
           have C7 := Lib.hid (C3.out.drew.after hb)
           clear hb c0 c1
           obtain ⟨c0, c1⟩ := C7.out)
        | (go_at_call 30; refine Calls.mono (Hrr.out _ B3.out.drew) ?_; rintro e w8 ⟨rfl, hb⟩
           have B8 := Lib.hid (B3.out.drew.trans (hb.mono B3.out.size))
           have C8 := Lib.hid (C3.out.drew.after hb)
           clear hb c0 c1
           obtain ⟨c0, c1⟩ := C8.out))
    all_goals
      go_wp2_with fail
      go_ret
      exact ⟨rfl, B14.out⟩

end WPackRights
end Go.Proofs.YthkkcecfenohjaaGreatDoor
