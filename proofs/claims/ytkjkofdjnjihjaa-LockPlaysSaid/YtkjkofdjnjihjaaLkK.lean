/-
  A list of holds in new memory, from call to call; the known answers of law 16.
-/
import Derived.Test.YtkjkofdjnjihjaaLkF
namespace Go.Proofs.Ytkjkofdjnjihjaa
namespace LkK
open Go.RowKit Go.Shelf Base BinM LkM LkA LkB LkD LkE LkF

/-- all that is held, in memory that is new since w0 -/
def KS (tb te : TypeId) (w0 w : World) (b : Nat) (hs : List Ho) : Prop := ∃ A c, Lk tb te w b A c hs ∧ (∀ k, feet b A k → w0.heap.size ≤ k) ∧ Below w0.heap.size w0 w
abbrev KL := KS 48 53
section
variable {tb te : TypeId} {w0 w w' : World} {b : Nat} {A : Option Addr} {hs : List Ho}
theorem ks_next (hf : ∀ k, feet b A k → w0.heap.size ≤ k) (hb : Below w0.heap.size w0 w) (h : NextL tb te w w' b A hs) : KS tb te w0 w' b hs := by
  obtain ⟨A', c', H, T, F⟩ := h
  refine ⟨A', c', H, fun k hk => ?_, hb.trans (T.below hf hb.size)⟩
  rcases F k hk with h | h
  · exact hf k h
  · exact Nat.le_trans hb.size h
theorem KS.low (h : KS tb te w0 w b hs) : Below w0.heap.size w0 w := by
  obtain ⟨A, c, _, _, hb⟩ := h
  exact hb
theorem KS.later (h : KS tb te w0 w b hs) (hb : Below w.heap.size w w') : KS tb te w0 w' b hs := by
  obtain ⟨A, c, H, hf, h0⟩ := h
  exact ⟨A, c, H.beside hb, hf, h0.trans (hb.mono h0.size)⟩
end
section
variable {w0 w : World} {b : Nat} {hs : List Ho}
theorem new_ks (h0 : Below w0.heap.size w0 w) : Calls Try.prog 7 #[] w fun e w' => e = .returned (.pointer (some ⟨w.heap.size, 0, none⟩)) ∧ KL w0 w' w.heap.size [] := by
  refine (new_any w).mono ?_
  rintro e w' ⟨rfl, H, rfl⟩
  refine ⟨rfl, none, 0, H, fun k hk => ?_, h0.alloc h0.size _⟩
  rcases hk with rfl | ⟨a, h, _⟩
  · exact h0.size
  · cases h
theorem enter_ks (h : KL w0 w b hs) {N : Nat} (hN : N ≤ 10000) (hF : Few N hs) (a who : Int) :
    Calls Try.prog 17 #[.pointer (some ⟨b, 0, none⟩), .int .i64 a, .int .i64 who] w fun e w' => e = .returned (.int .i64 (enterT hs a who).1) ∧ KL w0 w' b (enterT hs a who).2 := by
  obtain ⟨A, c, H, hf, h0⟩ := h
  exact (enter_any H hN hF a who).mono fun e w' h => ⟨h.1, ks_next hf h0 h.2⟩
theorem exit_ks (h : KL w0 w b hs) {N : Nat} (hN : N ≤ 10000) (hF : Few N hs) (a who : Int) :
    Calls Try.prog 18 #[.pointer (some ⟨b, 0, none⟩), .int .i64 a, .int .i64 who] w fun e w' => e = .returned (.int .i64 (exitT hs a who).1) ∧ KL w0 w' b (exitT hs a who).2 := by
  obtain ⟨A, c, H, hf, h0⟩ := h
  exact (exit_any H hN hF a who).mono fun e w' h => ⟨h.1, ks_next hf h0 h.2⟩
theorem free_ks (h : KL w0 w b hs) (hl : hs.length ≤ 10000) (who : Int) :
    Calls Try.prog 19 #[.pointer (some ⟨b, 0, none⟩), .int .i64 who] w fun e w' => e = .returned (.int .i64 (ofT hs who : Int)) ∧ KL w0 w' b (hs.filter (fun h => !(h.w == who))) := by
  obtain ⟨A, c, H, hf, h0⟩ := h
  exact (free_any H hl who).mono fun e w' h => ⟨h.1, ks_next hf h0 h.2⟩
theorem owner_ks (h : KL w0 w b hs) (hl : hs.length ≤ 10000) (a : Int) :
    Calls Try.prog 10 #[.pointer (some ⟨b, 0, none⟩), .int .i64 a] w fun e w' => e = .returned (.tuple #[.int .i64 (ownerT hs a).1, .int .i64 (ownerT hs a).2.1, .bool (ownerT hs a).2.2]) ∧ KL w0 w' b hs := by
  obtain ⟨A, c, H, hf, h0⟩ := h
  exact (owner_any H hl a).mono fun e w' h => ⟨h.1, KS.later ⟨A, c, H, hf, h0⟩ h.2⟩
end
/-! the lists of known -/
def k1 : List Ho := [⟨5, 1, 1⟩]
def k2 : List Ho := [⟨5, 1, 2⟩]
theorem e1 : enterT [] 5 1 = (0, k1) := rfl
theorem e2 : enterT k1 5 1 = (0, k2) := rfl
theorem e3 : enterT k2 5 2 = (29, k2) := rfl
theorem e4 : exitT k2 5 1 = (0, k1) := rfl
theorem e5 : ownerT k1 5 = (1, 1, true) := rfl
theorem few1 : Few 10 k1 := ⟨by decide, by intro h hh; simp [k1] at hh; subst hh; decide⟩
theorem few2 : Few 10 k2 := ⟨by decide, by intro h hh; simp [k2] at hh; subst hh; decide⟩

set_option maxHeartbeats 4000000 in
theorem known_any (w : World) : Calls Try.prog 8 #[] w fun e w' => e = .returned (.bool true) ∧ Below w.heap.size w w' := by
  have H1 := Lib.hid (fun (W : World) (h : KL w W w.heap.size []) => enter_ks h (N := 10) (by omega) ⟨by simp, by simp⟩ 5 1)
  have H2 := Lib.hid (fun (W : World) (h : KL w W w.heap.size k1) => enter_ks h (N := 10) (by omega) few1 5 1)
  have H3 := Lib.hid (fun (W : World) (h : KL w W w.heap.size k2) => enter_ks h (N := 10) (by omega) few2 5 2)
  have H4 := Lib.hid (fun (W : World) (h : KL w W w.heap.size k2) => exit_ks h (N := 10) (by omega) few2 5 1)
  have H5 := Lib.hid (fun (W : World) (h : KL w W w.heap.size k1) => owner_ks h (by decide) 5)
  rw [e1] at H1
  rw [e2] at H2
  rw [e3] at H3
  rw [e4] at H4
  rw [e5] at H5
  generalize k1 = l1 at *
  generalize k2 = l2 at *
  go_enter Try.func8, Try.ntmps8
  go_wp2_with fail
  refine (new_ks (Below.refl _ w)).mono ?_
  rintro e w1 ⟨rfl, h1⟩
  have K1 := Lib.hid h1
  clear h1
  go_wp2_with fail
  refine (H1.out _ K1.out).mono ?_
  rintro e w2 ⟨rfl, h2⟩
  have K2 := Lib.hid h2
  clear h2
  go_wp2_with fail
  refine (H2.out _ K2.out).mono ?_
  rintro e w3 ⟨rfl, h3⟩
  have K3 := Lib.hid h3
  clear h3
  go_wp2_with fail
  refine (H3.out _ K3.out).mono ?_
  rintro e w4 ⟨rfl, h4⟩
  have K4 := Lib.hid h4
  clear h4
  go_wp2_with fail
  refine (H4.out _ K4.out).mono ?_
  rintro e w5 ⟨rfl, h5⟩
  have K5 := Lib.hid h5
  clear h5
  go_wp2_with fail
  refine (H5.out _ K5.out).mono ?_
  rintro e w6 ⟨rfl, h6⟩
  have K6 := Lib.hid h6
  clear h6
  go_wp2_with fail
  go_ret
  exact ⟨rfl, K6.out.low⟩
end LkK
end Go.Proofs.Ytkjkofdjnjihjaa
