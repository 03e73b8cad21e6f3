/-
  Put whole; the document's calls beside the program's list; the law's do.
-/
import Derived.Test.YtkjkofdjnjihjaaLkX
import Derived.Test.YtkjkofdjnjihjaaLkU
import Derived.Test.YtkjkofdjnjihjaaOpenL
import Derived.Deep.RegionHeld3
namespace Go.Proofs.Ytkjkofdjnjihjaa
namespace LkY
open Go.RowKit Go.Shelf Base BinM LkM LkA LkB LkE LkP LkG LkT

set_option maxRecDepth 100000 in
set_option maxHeartbeats 4000000 in
theorem put_any {w : World} {b : Nat} {A : Option Addr} {c : Nat} {hs : List Ho} (H : Lk 48 53 w b A c hs) (hl : hs.length ≤ 10000) (B : Option Addr) (now : List Int) (m cc : Nat) (hm : m = now.length) (hml : m ≤ 10000) (hr : Rds w B (now.map (Value.int .i64))) (hap : ∀ a, B = some a → 0 < now.length → ∀ k, feet b A k → k ≠ a.block) :
    Calls Try.prog 20 #[.pointer (some ⟨b, 0, none⟩), .slice B m cc] w fun e w' => e = .returned (.int .i64 (putT hs now).1) ∧ NextL 48 53 w w' b A (putT hs now).2 := by
  subst hm
  by_cases hlen : now.length = hs.length
  · by_cases hG : GoodL now
    · have hE : putT hs now = (0, putL hs now) := by unfold putT; rw [if_pos ⟨hlen, hG⟩]
      rw [hE]
      exact (callsIn_wide (n := 3)).1 (LkX.put_good Fence.wide rfl 3 (Nat.le_refl _) H hl B now cc hlen hr hG hap)
    · have HE := Lib.hid (show putT hs now = (2, hs) by unfold putT; rw [if_neg (fun h => hG h.2)])
      have hal : Below w.heap.size w (w.alloc (.cells #[.slice B now.length cc] 29)) := (Below.refl _ w).alloc (Nat.le_refl _) _
      have c0 : (w.alloc (.cells #[.slice B now.length cc] 29)).cell? ⟨b, 0, none⟩ = some (.slice A hs.length c) := (H.box.after hal).cell 0
      have hlt := H.box.lt
      have hle : ((now.length : Int) != (hs.length : Int)) = false := by simp; omega
      have HD : ∀ W, Below (w.alloc (.cells #[.slice B now.length cc] 29)).heap.size (w.alloc (.cells #[.slice B now.length cc] 29)) W → Calls Try.prog 31 #[.slice B now.length cc] W fun e w' => e = .returned (.bool false) ∧ Below W.heap.size W w' := fun W hW => (LkW.differ_any B now now.length cc W rfl (by omega) ((hr.below hal).below hW)).mono fun e w' h => ⟨by rw [h.1, decide_eq_false hG], h.2⟩
      have hbs : ∀ q, Below (w.alloc (.cells #[.slice B now.length cc] 29)).heap.size (w.alloc (.cells #[.slice B now.length cc] 29)) ((w.alloc (.cells #[.slice B now.length cc] 29)).drewN q) := fun q => bel_drewN (Below.refl _ _) q
      have HAl := Lib.hid hal
      have HH := Lib.hid (fun w1 (hb : Below w.heap.size w w1) => H.beside hb)
      have hmx : Try.prog.follows .mixedOrders = true := by kernel_rfl
      clear hlen H hr hap hal
      go_enter Try.func20, Try.ntmps20
      go_wp2_with fail
      first
        | go_region_with (go_at_call 31; refine (HD _ (hbs _)).mono ?_; rintro e w2 ⟨rfl, hb2⟩)
        | fail
      all_goals
        have hB2 : Below w.heap.size w w2 := (HAl.out.trans ((hbs _).mono HAl.out.size)).trans (hb2.mono HAl.out.size)
        have HX := Lib.hid (And.intro (HH.out w2 hB2) hB2)
        clear hB2 hb2 hbs HD
        go_wp2_with fail
        go_ret
        rw [HE.out]
        exact ⟨rfl, A, c, HX.out.1, Turned.of_below HX.out.2, fun _ h => .inl h⟩
  · have HE := Lib.hid (show putT hs now = (2, hs) by unfold putT; rw [if_neg (fun h => hlen h.1)])
    have hal : Below w.heap.size w (w.alloc (.cells #[.slice B now.length cc] 29)) := (Below.refl _ w).alloc (Nat.le_refl _) _
    have c0 : (w.alloc (.cells #[.slice B now.length cc] 29)).cell? ⟨b, 0, none⟩ = some (.slice A hs.length c) := (H.box.after hal).cell 0
    have hlt := H.box.lt
    have hle : ((now.length : Int) != (hs.length : Int)) = true := by simp; omega
    have HAl := Lib.hid hal
    have HH := Lib.hid (fun w1 (hb : Below w.heap.size w w1) => H.beside hb)
    clear hlen H hr hap hal
    go_enter Try.func20, Try.ntmps20
    go_wp2_with fail
    go_quiet (fail)
    go_wp2_with fail
    go_ret
    rw [HE.out]
    have hB2 := HAl.out.trans ((bel_drewN (Below.refl _ (w.alloc (.cells #[.slice B now.length cc] 29))) nq).mono HAl.out.size)
    exact ⟨rfl, A, c, HH.out _ hB2, Turned.of_below hB2, fun _ h => .inl h⟩
end LkY
end Go.Proofs.Ytkjkofdjnjihjaa
