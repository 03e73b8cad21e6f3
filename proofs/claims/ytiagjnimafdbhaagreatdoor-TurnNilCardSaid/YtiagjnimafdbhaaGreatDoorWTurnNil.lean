/-
  The law TurnNil, walked: it returns true, and nothing that was there is written.
-/
import Derived.Test.YtiagjnimafdbhaaGreatDoorTnJ
import Derived.Test.YtiagjnimafdbhaaGreatDoorTabO
import Derived.Test.YtiagjnimafdbhaaGreatDoorLaidM
namespace Go.Proofs.YtiagjnimafdbhaaGreatDoor
namespace WTurnNil
open Go.RowKit Base BinM Stru DescM DescW DescX HierS HierT HierM HierC HierD HierN Kls KlsP KlsQ OpenK TabC TabM TabK TabP TabE TabB TabG TabH TabT TabU TabV TabW TabN TabO TabY

set_option maxRecDepth 100000 in
theorem check_nil (p q : Option Addr) (x : Array Value) (w : World) (h : p = none ∨ q = none) : Calls Tryz.prog 12 #[.pointer p, .pointer q, .agg x] w fun e w' => e = .returned (.tuple #[.string ⟨#[]⟩, .int .i64 1]) ∧ Below w.heap.size w w' := by
  have Z := Lib.hid (Below.refl w.heap.size w)
  cases p with
  | none =>
    go_enter Tryz.func12, Tryz.ntmps12
    go_wp2_with fail
    go_ret2
    exact ⟨rfl, Z.out.alloc Z.out.size _⟩
  | some p =>
    rcases h with h | rfl
    · cases h
    · go_enter Tryz.func12, Tryz.ntmps12
      go_wp2_with fail
      go_ret2
      exact ⟨rfl, Z.out.alloc Z.out.size _⟩
set_option maxRecDepth 100000 in
theorem plan_nil (p q : Option Addr) (x : Array Value) (c : Value) (w : World) (h : p = none ∨ q = none) : Calls Tryz.prog 13 #[.pointer p, .pointer q, .agg x, c] w fun e w' => e = .returned (.slice none 0 0) ∧ Below w.heap.size w w' := by
  have Z := Lib.hid (Below.refl w.heap.size w)
  cases p with
  | none =>
    go_enter Tryz.func13, Tryz.ntmps13
    go_wp2_with fail
    go_ret
    exact ⟨rfl, Z.out.alloc Z.out.size _⟩
  | some p =>
    rcases h with h | rfl
    · cases h
    · go_enter Tryz.func13, Tryz.ntmps13
      go_wp2_with fail
      go_ret
      exact ⟨rfl, Z.out.alloc Z.out.size _⟩
set_option maxRecDepth 100000 in
theorem moves_nil (p q : Option Addr) (x : Array Value) (w : World) (h : p = none ∨ q = none) : Calls Tryz.prog 14 #[.pointer p, .pointer q, .agg x] w fun e w' => e = .returned (.slice none 0 0) ∧ Below w.heap.size w w' := by
  have Z := Lib.hid (Below.refl w.heap.size w)
  cases p with
  | none =>
    go_enter Tryz.func14, Tryz.ntmps14
    go_wp2_with fail
    go_ret
    exact ⟨rfl, Z.out.alloc Z.out.size _⟩
  | some p =>
    rcases h with h | rfl
    · cases h
    · go_enter Tryz.func14, Tryz.ntmps14
      go_wp2_with fail
      go_ret
      exact ⟨rfl, Z.out.alloc Z.out.size _⟩
theorem why_none : whyC [] = ([], 0) := by kernel_rfl
set_option maxRecDepth 100000 in
set_option maxHeartbeats 8000000 in
theorem walk (a0 : ByteArray) (w : World) (hl : InsA.Laid w) (_ : a0.size ≤ 140737488351232) :
    Calls Tryz.prog 4 #[.string a0] w fun e w' => e = .returned (.bool true) ∧ Below w.heap.size w w' := by
  have HN := Lib.hid (TabO.new_any none [] 0 0 w rfl (.inl rfl) (by simp) hl)
  clear hl
  go_enter Tryz.func4, Tryz.ntmps4
  go_wp2_with fail
  refine HN.out.mono ?_
  rintro e w1 ⟨hb1, hor⟩
  have B1 := Lib.hid hb1
  rcases hor with ⟨_, lo, t, g, mb, n, A, c, C, f, rfl, hlo, _, _, _, _, _⟩ | ⟨hne, _⟩
  · clear hb1 hlo
    go_wp2_with fail
    refine (check_nil _ _ _ _ (.inl rfl)).mono ?_
    rintro e w2 ⟨rfl, hb2⟩
    have B2 := Lib.hid (B1.out.trans (hb2.mono B1.out.size))
    clear hb2
    go_wp2_with fail
    refine (check_nil _ _ _ _ (.inr rfl)).mono ?_
    rintro e w3 ⟨rfl, hb3⟩
    have B3 := Lib.hid (B2.out.trans (hb3.mono B2.out.size))
    clear hb3
    go_wp2_with fail
    refine (plan_nil _ _ _ _ _ (.inl rfl)).mono ?_
    rintro e w4 ⟨rfl, hb4⟩
    have B4 := Lib.hid (B3.out.trans (hb4.mono B3.out.size))
    clear hb4
    go_wp2_with fail
    refine (plan_nil _ _ _ _ _ (.inr rfl)).mono ?_
    rintro e w5 ⟨rfl, hb5⟩
    have B5 := Lib.hid (B4.out.trans (hb5.mono B4.out.size))
    clear hb5
    go_wp2_with fail
    refine (moves_nil _ _ _ _ (.inl rfl)).mono ?_
    rintro e w6 ⟨rfl, hb6⟩
    have B6 := Lib.hid (B5.out.trans (hb6.mono B5.out.size))
    clear hb6
    go_wp2_with fail
    refine (moves_nil _ _ _ _ (.inr rfl)).mono ?_
    rintro e w7 ⟨rfl, hb7⟩
    have B7 := Lib.hid (B6.out.trans (hb7.mono B6.out.size))
    clear hb7
    go_wp2_with fail
    refine (TnJ.known_any _).mono ?_
    rintro e w8 ⟨rfl, hb8⟩
    have B8 := Lib.hid (B7.out.trans (hb8.mono B7.out.size))
    clear hb8
    go_wp2_with fail
    go_ret
    exact ⟨rfl, B8.out⟩
  · exact absurd (by rw [why_none]) hne
end WTurnNil
end Go.Proofs.YtiagjnimafdbhaaGreatDoor
