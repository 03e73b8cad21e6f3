/-
  The law KindNil, walked: for every instruction it returns true, and nothing that was there is written.
-/
import Derived.Test.YtdebambmcjcopaaGreatDoorKndK
import Derived.Test.YtdebambmcjcopaaGreatDoorOpenI
import Derived.Test.YtdebambmcjcopaaGreatDoorLaidM
namespace Go.Proofs.YtdebambmcjcopaaGreatDoor
namespace WKindNil
open Go.RowKit Base BinM Stru KndK OpenI
set_option maxRecDepth 100000 in
set_option maxHeartbeats 4000000 in
theorem walk (x0 : OpenI.InT) (w : World) (hl : InsA.Laid w) (_ : x0.is w) (_ : OpenI.InT.lt x0) :
    Calls Tryz.prog 4 #[x0.V] w fun e w' => e = .returned (.bool true) ∧ Below w.heap.size w w' := by
  obtain ⟨op, a⟩ := x0
  simp only [InT.V]
  have hb1 : Below w.heap.size w (w.alloc (.cells #[.int .i64 op, .int .i64 a] 40)) := (Below.refl _ _).alloc (Nat.le_refl _) _
  have HS := Lib.hid (step_nil none 0 0 [86] op a none none 0 0 0 0 (w.alloc (.cells #[.int .i64 op, .int .i64 a] 40)))
  have HB := Lib.hid hb1
  have HK := Lib.hid (fun W (hb : Below w.heap.size w W) => known_any W (hl.below hb hl.1))
  clear hb1 hl
  go_enter Tryz.func4, Tryz.ntmps4
  go_wp2_with fail
  refine HS.out.mono ?_
  rintro e w1 ⟨rfl, hb1⟩
  have B1 := Lib.hid (HB.out.trans (hb1.mono HB.out.size))
  clear hb1
  go_wp2_with fail
  refine (HK.out _ (B1.out.alloc B1.out.size _)).mono ?_
  rintro e w2 ⟨rfl, hb2⟩
  have B2 := Lib.hid ((B1.out.alloc B1.out.size _).trans (hb2.mono (B1.out.alloc B1.out.size _).size))
  clear hb2
  go_wp2_with fail
  go_ret
  exact ⟨rfl, B2.out⟩
end WKindNil
end Go.Proofs.YtdebambmcjcopaaGreatDoor
