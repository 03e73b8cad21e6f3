/-
  A move's code: cutting a stack, taking from it, and each instruction that is wanted.
-/
import Derived.Test.YtiagjnimafdbhaaGreatDoorTnA
namespace Go.Proofs.YtiagjnimafdbhaaGreatDoor
namespace TnB
open Go.RowKit Go.Shelf Base BinM TabM TnA
attribute [local go_sem] Oper.semAt_some

theorem cutP_any (g o n c m : Nat) (hm : m ≤ n) (hn : n ≤ c) (hc : c ≤ maxLen) (w : World) :
    Calls Tryz.prog 202 #[.slice (some ⟨g, o, none⟩) n c, .int .i64 (m : Int)] w fun e w' => e = .returned (.slice (some ⟨g, o, none⟩) (n - m) (n - m)) ∧ w = w' := by
  unfold maxLen at hc
  have h1 : (0 : Int) ≤ (n : Int) - (m : Int) := by omega
  have h2 : (n : Int) - (m : Int) ≤ (c : Int) := by omega
  go_enter Tryz.func202, Tryz.ntmps202
  go_wp2_with fail
  go_ret
  exact ⟨by simp, rfl⟩
theorem cutI_any (g o n c m : Nat) (hm : m ≤ n) (hn : n ≤ c) (hc : c ≤ maxLen) (w : World) :
    Calls Tryz.prog 179 #[.slice (some ⟨g, o, none⟩) n c, .int .i64 (m : Int)] w fun e w' => e = .returned (.slice (some ⟨g, o, none⟩) (n - m) (n - m)) ∧ w = w' := by
  unfold maxLen at hc
  have h1 : (0 : Int) ≤ (n : Int) - (m : Int) := by omega
  have h2 : (n : Int) - (m : Int) ≤ (c : Int) := by omega
  go_enter Tryz.func179, Tryz.ntmps179
  go_wp2_with fail
  go_ret
  exact ⟨by simp, rfl⟩

set_option maxRecDepth 100000 in
set_option maxHeartbeats 4000000 in
theorem pop_any (b g n c : Nat) (O : Value) (p : Option Addr) (w : World) (hbx : Bx w b #[.slice (some ⟨g, 0, none⟩) (n + 1) c, O] 215) (hc : n + 1 ≤ c) (hcm : c ≤ maxLen) (hp : w.cell? ⟨g, n, none⟩ = some (.pointer p)) :
    Calls Tryz.prog 178 #[.pointer (some ⟨b, 0, none⟩)] w fun e w' => e = .returned (.tuple #[.pointer p, .bool true]) ∧ Bx w' b #[.slice (some ⟨g, 0, none⟩) n n, O] 215 ∧ Tu (fun k => k = b) w w' := by
  have b0 := hbx.cell 0
  have f0 := hbx.free 0
  have hbl := hbx.lt
  have HC := Lib.hid (fun W => cutP_any g 0 (n + 1) c 1 (by omega) hc hcm W)
  have HX := Lib.hid hbx
  have h1 : ((n + 1 : Nat) : Int) = (n : Int) + 1 := by omega
  have hn0 : ¬ ((n : Int) + 1 = 0) := by omega
  have hn1 : (0 : Int) ≤ (n : Int) := by omega
  have hn2 : (n : Int) < (n : Int) + 1 := by omega
  clear hbx
  unfold maxLen at hcm
  go_enter Tryz.func178, Tryz.ntmps178
  go_wp2_with fail
  go_quiet (fail)
  go_wp2_with (go_at_call 202; refine (HC.out _).mono ?_; rintro e w' ⟨rfl, rfl⟩)
  go_ret2
  exact ⟨rfl, HX.out.set 0 _, ⟨rfl, rfl, rfl, by simp, fun k _ hk => heap_setCell_other _ ⟨b, 0, none⟩ k _ hk⟩⟩
end TnB
end Go.Proofs.YtiagjnimafdbhaaGreatDoor
