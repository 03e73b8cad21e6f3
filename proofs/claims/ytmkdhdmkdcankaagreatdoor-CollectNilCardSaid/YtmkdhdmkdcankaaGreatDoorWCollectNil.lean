/-
  Law CollectNil: without a heap, or a program, nothing is collected.
-/
import Derived.Test.YtmkdhdmkdcankaaGreatDoorG48
namespace Go.Proofs.YtmkdhdmkdcankaaGreatDoor
namespace WCollectNil
open Go.RowKit Base BinM HpM HpA ClJ ClN ClO

set_option maxRecDepth 100000 in
set_option maxHeartbeats 8000000 in
theorem walk (a0 : Int) (w : World) (hl : InsA.Laid w) (_ : (Lit.int .i64 a0).wf = true) :
    Calls Tryz.prog 7 #[.int .i64 a0] w fun e w' => e = .returned (.bool true) ∧ Below w.heap.size w w' := by
  have HBg := Lib.hid (ClK.begin_any none none 0 0 [] [] w (.inl rfl) (by intro m hm; cases hm) (.inl rfl) (by intro m hm; cases hm) hl)
  have HK := Lib.hid (fun v (hv : Below w.heap.size w v) => (known_any v (hl.below hv hl.1)).mono fun e w' (h : e = .returned (.bool true) ∧ Below v.heap.size v w') => (⟨h.1, hv.trans (h.2.mono hv.size)⟩ : e = .returned (.bool true) ∧ Below w.heap.size w w'))
  clear hl
  go_enter Tryz.func7, Tryz.ntmps7
  go_wp2_with fail
  refine HBg.out.mono ?_
  rintro e w3 ⟨x, rfl, g, r, p, u, hP⟩
  have hx := ClP.Play.box hP
  have a0' : w3.cell? ⟨x, 0, none⟩ = some (.pointer (some ⟨g, 0, none⟩)) := hx.cell 0
  have a1' : w3.cell? ⟨x, 2, none⟩ = some (.pointer (some ⟨p, 0, none⟩)) := hx.cell 2
  have hxl := hx.lt
  have B3 := Lib.hid (ClP.Play.low hP)
  clear hP hx HBg
  go_wp2_with (first
    | (go_at_call 10; refine (reach_nil _ _ _ _ _ _ (by first | exact .inl rfl | exact .inr rfl)).mono ?_; rintro e v ⟨rfl, rfl⟩)
    | (go_at_call 13; refine (live_nil _ _ _ _ _ _ (by first | exact .inl rfl | exact .inr rfl)).mono ?_; rintro e v ⟨rfl, rfl⟩)
    | (go_at_call 21; refine (run_nil _ _ _ _ _ _ (by first | exact .inl rfl | exact .inr rfl)).mono ?_; rintro e v ⟨rfl, rfl⟩)
    | (go_at_call 16; refine (refs_nil _ _ _ (by first | exact .inl rfl | exact .inr rfl) _).mono ?_; rintro e v ⟨rfl, rfl⟩))
  refine (HK.out _ ((B3.out.alloc B3.out.size _).alloc (by have := B3.out.size; simp; omega) _)).mono ?_
  rintro e v8 ⟨rfl, hb8⟩
  go_wp2_with fail
  go_ret
  exact ⟨rfl, hb8⟩
end WCollectNil
end Go.Proofs.YtmkdhdmkdcankaaGreatDoor
