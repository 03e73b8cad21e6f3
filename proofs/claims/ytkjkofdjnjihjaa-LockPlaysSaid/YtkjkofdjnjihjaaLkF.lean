/-
  Free; and what every call answers where there is no list.
-/
import Derived.Test.YtkjkofdjnjihjaaLkE
namespace Go.Proofs.Ytkjkofdjnjihjaa
namespace LkF
open Go.RowKit Go.Shelf Base BinM LkM LkA LkB LkD LkE

attribute [local go_sem] Oper.semAt_some

set_option maxRecDepth 100000 in
set_option maxHeartbeats 4000000 in
theorem free_any {w : World} {b : Nat} {A : Option Addr} {c : Nat} {hs : List Ho} (H : Lk 48 53 w b A c hs) (hl : hs.length ≤ 10000) (who : Int) :
    Calls Try.prog 19 #[.pointer (some ⟨b, 0, none⟩), .int .i64 who] w fun e w' => e = .returned (.int .i64 (ofT hs who : Int)) ∧ NextL 48 53 w w' b A (hs.filter (fun h => !(h.w == who))) := by
  have hal : Below w.heap.size w (w.alloc (.cells #[.int .i64 who] 3)) := (Below.refl _ w).alloc (Nat.le_refl _) _
  have hbx := Bx.new w #[.int .i64 who] 3
  have q0 := hbx.cell 0
  have HOf := Lib.hid (of_any (H.beside hal) (by omega) who)
  have HBx := Lib.hid hbx
  have HAl := Lib.hid hal
  have HH := Lib.hid (fun w1 (hb : Below w.heap.size w w1) => H.beside hb)
  have HSz : Hid ((w.alloc (.cells #[.int .i64 who] 3)).heap.size = w.heap.size + 1) := Lib.hid (by simp)
  have HDr := Lib.hid (fun (W : World) (hW : Lk 48 53 W b A c hs) (hB : Bx W w.heap.size #[.int .i64 who] 3) => drop_any (enters_of Try.func30 (by kernel_rfl) rfl) (asksW w.heap.size who) (by decide) hW (by omega) hB)
  have HZ : Hid (ofT hs who = 0 → hs.filter (fun h => !(h.w == who)) = hs) := Lib.hid (fun h => by
    unfold ofT at h
    rw [List.countP_eq_zero] at h
    rw [List.filter_eq_self]
    intro x hx
    have := h x hx
    simpa using this)
  generalize hc : ofT hs who = N at *
  have hN : N ≤ hs.length := by rw [← hc]; exact List.countP_le_length
  clear H hal hbx hc
  by_cases h0 : N = 0
  · subst h0
    have hz : ¬ (0 : Int) < ((0 : Nat) : Int) := by omega
    go_enter Try.func19, Try.ntmps19
    go_wp2_with (go_at_call 15; refine HOf.out.mono ?_; rintro e w1 ⟨rfl, hb1⟩; have B1 := HAl.out.trans (hb1.mono (by have := HSz.out; omega)); have HX := Lib.hid B1; clear hb1 B1)
    go_ret
    exact ⟨rfl, A, c, by rw [HZ.out trivial]; exact HH.out _ HX.out, Turned.of_below HX.out, fun _ h => .inl h⟩
  · have hz : (0 : Int) < (N : Int) := by omega
    go_enter Try.func19, Try.ntmps19
    go_wp2_with (first
      | (go_at_call 15; refine HOf.out.mono ?_; rintro e w1 ⟨rfl, hb1⟩; have B1 := HAl.out.trans (hb1.mono (by have := HSz.out; omega)); have hbw := HBx.out.after hb1; have HX := Lib.hid (And.intro (HH.out w1 B1) (And.intro B1 hbw)); clear hb1 B1 hbw)
      | (go_at_call 28; refine (HDr.out _ HX.out.1 HX.out.2.2).mono ?_; rintro e w2 ⟨rfl, hn2⟩; have HN2 := Lib.hid hn2; clear hn2))
    go_ret
    exact ⟨rfl, NextL.trans (Turned.of_below HX.out.2.1) (fun _ h => .inl h) HN2.out⟩

/-! no list -/
set_option maxRecDepth 100000 in
set_option maxHeartbeats 2000000 in
theorem findN_in (F : Fence) (n : Nat) (h1 : F.fn 25) (h2 : F.fn 27) (h3 : F.fn 32) (hro : F.round = none) (hn : 3 ≤ n) (w : World) (x : Int) :
    CallsIn F n Try.prog 25 #[.pointer none, .int .i64 x] w fun e w' => e = .returned (.pointer none) ∧ Below w.heap.size w w' := by
  have hn1 : 1 ≤ n := by omega
  refine callsIn_of_wp_marks Try.func25 rfl h1 ?_ hro
  simp only [Try.ntmps25, List.size_toArray, List.length_cons, List.length_nil, Nat.reduceAdd, Nat.reduceSub, Array.replicate_succ, Array.replicate_zero, List.push_toArray, List.append_toArray, List.nil_append, List.cons_append]
  gi_wp2_with (gi_at_call 27; refine (all_in F (n - 1) h2 hro _ _).mono ?_; rintro e w' ⟨rfl, rfl⟩)
  have hB0 : Below w.heap.size w (((w.alloc (.cells #[.int .i64 x] 2)).alloc (.cells #[.pointer none] 50)).alloc (.cells #[.pointer none] 23)) := (((Below.refl _ w).alloc (Nat.le_refl _) _).alloc (by simp) _).alloc (by simp; omega) _
  have b1 := Bx.new (w.alloc (.cells #[.int .i64 x] 2)) #[.pointer none] 50
  have b2 := Bx.new ((w.alloc (.cells #[.int .i64 x] 2)).alloc (.cells #[.pointer none] 50)) #[.pointer none] 23
  simp only [World.size_alloc] at b1 b2
  refine wpIn_rangeFunc_ownF hro hn1 (gf := 32) (lb := #[.pointer (some ⟨w.heap.size + 1 + 1, 0, none⟩)]) rfl h3 (enters_of Try.func32 (by kernel_rfl) rfl)
    (all_stops_nil F (n - 1) h3 hro (w.heap.size + 1 + 1) _ b2) kpl_t (kpl_b (by simp) (by simp)) (Below.refl _ _) (fun _ => rfl)
    (fun (_ : List (Fin 0)) W => Bx W (w.heap.size + 1) #[.pointer none] 50 ∧ Below w.heap.size w W)
    (fun _ _ _ => False)
    (OwnFrom.and bx_from (ownFrom_below (Nat.le_refl _) (by simp; omega)))
    (fun _ _ _ _ _ hs _ _ => hs)
    ⟨b1.alloc _, hB0⟩
    (fun _ => { tmps := #[], defers := [] }) ?assign ?body ?done ?stop
  case assign => exact fun _ k => k.elim0
  case body => exact fun _ _ k => k.elim0
  case done =>
    rintro D ys W hD rfl ⟨q1, hB⟩ hK
    have e1 := q1.cell 0
    have e2 := q1.free 0
    gi_wp2
    have hK' := (KeepsOthers.setCell W ⟨w.heap.size + 1, 0, none⟩ (.pointer none)).same D _ hK rfl
    refine ⟨by simp, .inl ⟨_, _, rfl, run_takeDeferred hK', ?_⟩⟩
    have hc5 := cell_kept ((q1.set 0 (.pointer none)).cell 0) (grownBy_putObj' _ D (.deferred none)) (fun r e => by cases e; exact ⟨_, hK', rfl⟩)
    refine ⟨.pointer none, ?_, rfl, (hB.setCell (p := ⟨w.heap.size + 1, 0, none⟩) (by simp) _).trans (belowK_b (w := w) (Nat.le_refl _) _ D _ _ (by simp at hD; omega) hK' rfl rfl)⟩
    simp [results, Try.f25, go_sem, hc5]
  case stop =>
    rintro D c pre W _ _ h _
    exact h.elim
theorem findN_any (w : World) (x : Int) : Calls Try.prog 25 #[.pointer none, .int .i64 x] w fun e w' => e = .returned (.pointer none) ∧ Below w.heap.size w w' :=
  (callsIn_wide (n := 3)).1 (findN_in Fence.wide 3 trivial trivial trivial rfl (Nat.le_refl _) w x)
theorem ownerN_any (w : World) (x : Int) : Calls Try.prog 10 #[.pointer none, .int .i64 x] w fun e w' => e = .returned (.tuple #[.int .i64 0, .int .i64 0, .bool false]) ∧ Below w.heap.size w w' := by
  go_enter Try.func10, Try.ntmps10
  go_wp2_with (go_at_call 25; refine (findN_any _ _).mono ?_; rintro e w1 ⟨rfl, hb1⟩; have HX := Lib.hid hb1; clear hb1)
  go_ret3
  exact ⟨rfl, HX.out⟩
theorem enterN_any (w : World) (x y : Int) : Calls Try.prog 17 #[.pointer none, .int .i64 x, .int .i64 y] w fun e w' => e = .returned (.int .i64 1) ∧ w' = w := by
  go_enter Try.func17, Try.ntmps17
  go_wp2_with fail
  go_ret
  exact ⟨rfl, rfl⟩
theorem exitN_any (w : World) (x y : Int) : Calls Try.prog 18 #[.pointer none, .int .i64 x, .int .i64 y] w fun e w' => e = .returned (.int .i64 1) ∧ Below w.heap.size w w' := by
  have hal : Below w.heap.size w (w.alloc (.cells #[.int .i64 x] 2)) := (Below.refl _ w).alloc (Nat.le_refl _) _
  have HA := Lib.hid hal
  clear hal
  go_enter Try.func18, Try.ntmps18
  go_wp2_with fail
  go_ret
  exact ⟨rfl, HA.out⟩
theorem putN_any (w : World) (A : Option Addr) (n c : Nat) : Calls Try.prog 20 #[.pointer none, .slice A n c] w fun e w' => e = .returned (.int .i64 1) ∧ Below w.heap.size w w' := by
  have hal : Below w.heap.size w (w.alloc (.cells #[.slice A n c] 29)) := (Below.refl _ w).alloc (Nat.le_refl _) _
  have HA := Lib.hid hal
  clear hal
  go_enter Try.func20, Try.ntmps20
  go_wp2_with fail
  go_ret
  exact ⟨rfl, HA.out⟩

set_option maxRecDepth 100000 in
set_option maxHeartbeats 2000000 in
theorem ofN_in (F : Fence) (n : Nat) (h1 : F.fn 15) (h2 : F.fn 27) (h3 : F.fn 32) (hro : F.round = none) (hn : 3 ≤ n) (w : World) (x : Int) :
    CallsIn F n Try.prog 15 #[.pointer none, .int .i64 x] w fun e w' => e = .returned (.int .i64 0) ∧ Below w.heap.size w w' := by
  have hn1 : 1 ≤ n := by omega
  refine callsIn_of_wp_marks Try.func15 rfl h1 ?_ hro
  simp only [Try.ntmps15, List.size_toArray, List.length_cons, List.length_nil, Nat.reduceAdd, Nat.reduceSub, Array.replicate_succ, Array.replicate_zero, List.push_toArray, List.append_toArray, List.nil_append, List.cons_append]
  gi_wp2_with (gi_at_call 27; refine (all_in F (n - 1) h2 hro _ _).mono ?_; rintro e w' ⟨rfl, rfl⟩)
  have hB0 : Below w.heap.size w (((w.alloc (.cells #[.int .i64 x] 3)).alloc (.cells #[.int .i64 0] 3)).alloc (.cells #[.pointer none] 23)) := (((Below.refl _ w).alloc (Nat.le_refl _) _).alloc (by simp) _).alloc (by simp; omega) _
  have b1 := Bx.new (w.alloc (.cells #[.int .i64 x] 3)) #[.int .i64 0] 3
  have b2 := Bx.new ((w.alloc (.cells #[.int .i64 x] 3)).alloc (.cells #[.int .i64 0] 3)) #[.pointer none] 23
  simp only [World.size_alloc] at b1 b2
  refine wpIn_rangeFunc_ownF hro hn1 (gf := 32) (lb := #[.pointer (some ⟨w.heap.size + 1 + 1, 0, none⟩)]) rfl h3 (enters_of Try.func32 (by kernel_rfl) rfl)
    (all_stops_nil F (n - 1) h3 hro (w.heap.size + 1 + 1) _ b2) kpl_t (kpl_b (by simp) (by simp)) (Below.refl _ _) (fun _ => rfl)
    (fun (_ : List (Fin 0)) W => Bx W (w.heap.size + 1) #[.int .i64 0] 3 ∧ Below w.heap.size w W)
    (fun _ _ _ => False)
    (OwnFrom.and bx_from (ownFrom_below (Nat.le_refl _) (by simp; omega)))
    (fun _ _ _ _ _ hs _ _ => hs)
    ⟨b1.alloc _, hB0⟩
    (fun _ => { tmps := #[], defers := [] }) ?assign ?body ?done ?stop
  case assign => exact fun _ k => k.elim0
  case body => exact fun _ _ k => k.elim0
  case done =>
    rintro D ys W hD rfl ⟨q1, hB⟩ hK
    have e1 := q1.cell 0
    gi_wp2
    refine ⟨by simp, .inl ⟨_, _, rfl, run_takeDeferred hK, ?_⟩⟩
    exact ⟨_, results_tmp rfl _ _ _, rfl, hB.trans (belowK_b (w := w) (Nat.le_refl _) W D _ _ (by simp at hD; omega) hK rfl rfl)⟩
  case stop =>
    rintro D c pre W _ _ h _
    exact h.elim
theorem ofN_any (w : World) (x : Int) : Calls Try.prog 15 #[.pointer none, .int .i64 x] w fun e w' => e = .returned (.int .i64 0) ∧ Below w.heap.size w w' :=
  (callsIn_wide (n := 3)).1 (ofN_in Fence.wide 3 trivial trivial trivial rfl (Nat.le_refl _) w x)
theorem freeN_any (w : World) (x : Int) : Calls Try.prog 19 #[.pointer none, .int .i64 x] w fun e w' => e = .returned (.int .i64 0) ∧ Below w.heap.size w w' := by
  have hal : Below w.heap.size w (w.alloc (.cells #[.int .i64 x] 3)) := (Below.refl _ w).alloc (Nat.le_refl _) _
  have HA := Lib.hid hal
  have HSz : Hid ((w.alloc (.cells #[.int .i64 x] 3)).heap.size = w.heap.size + 1) := Lib.hid (by simp)
  clear hal
  go_enter Try.func19, Try.ntmps19
  go_wp2_with (go_at_call 15; refine (ofN_any _ _).mono ?_; rintro e w1 ⟨rfl, hb1⟩; have HX := Lib.hid (HA.out.trans (hb1.mono (by have := HSz.out; omega))); clear hb1)
  go_ret
  exact ⟨rfl, HX.out⟩

set_option maxRecDepth 100000 in
set_option maxHeartbeats 2000000 in
theorem heldN_in (F : Fence) (n : Nat) (h1 : F.fn 13) (h2 : F.fn 27) (h3 : F.fn 32) (hro : F.round = none) (hn : 3 ≤ n) (w : World) :
    CallsIn F n Try.prog 13 #[.pointer none] w fun e w' => e = .returned (.slice none 0 0) ∧ Below w.heap.size w w' := by
  have hn1 : 1 ≤ n := by omega
  refine callsIn_of_wp_marks Try.func13 rfl h1 ?_ hro
  simp only [Try.ntmps13, List.size_toArray, List.length_cons, List.length_nil, Nat.reduceAdd, Nat.reduceSub, Array.replicate_succ, Array.replicate_zero, List.push_toArray, List.append_toArray, List.nil_append, List.cons_append]
  gi_wp2_with (gi_at_call 27; refine (all_in F (n - 1) h2 hro _ _).mono ?_; rintro e w' ⟨rfl, rfl⟩)
  have hB0 : Below w.heap.size w ((w.alloc (.cells #[.slice none 0 0] 29)).alloc (.cells #[.pointer none] 23)) := ((Below.refl _ w).alloc (Nat.le_refl _) _).alloc (by simp) _
  have b1 := Bx.new w #[.slice none 0 0] 29
  have b2 := Bx.new (w.alloc (.cells #[.slice none 0 0] 29)) #[.pointer none] 23
  simp only [World.size_alloc] at b2
  refine wpIn_rangeFunc_ownF hro hn1 (gf := 32) (lb := #[.pointer (some ⟨w.heap.size + 1, 0, none⟩)]) rfl h3 (enters_of Try.func32 (by kernel_rfl) rfl)
    (all_stops_nil F (n - 1) h3 hro (w.heap.size + 1) _ b2) kpl_t (kpl_b (by simp) (by simp)) (Below.refl _ _) (fun _ => rfl)
    (fun (_ : List (Fin 0)) W => Bx W w.heap.size #[.slice none 0 0] 29 ∧ Below w.heap.size w W)
    (fun _ _ _ => False)
    (OwnFrom.and bx_from (ownFrom_below (Nat.le_refl _) (by simp; omega)))
    (fun _ _ _ _ _ hs _ _ => hs)
    ⟨b1.alloc _, hB0⟩
    (fun _ => { tmps := #[], defers := [] }) ?assign ?body ?done ?stop
  case assign => exact fun _ k => k.elim0
  case body => exact fun _ _ k => k.elim0
  case done =>
    rintro D ys W hD rfl ⟨q1, hB⟩ hK
    have e1 := q1.cell 0
    gi_wp2
    refine ⟨by simp, .inl ⟨_, _, rfl, run_takeDeferred hK, ?_⟩⟩
    exact ⟨_, results_tmp rfl _ _ _, rfl, hB.trans (belowK_b (w := w) (Nat.le_refl _) W D _ _ (by simp at hD; omega) hK rfl rfl)⟩
  case stop =>
    rintro D c pre W _ _ h _
    exact h.elim
theorem heldN_any (w : World) : Calls Try.prog 13 #[.pointer none] w fun e w' => e = .returned (.slice none 0 0) ∧ Below w.heap.size w w' :=
  (callsIn_wide (n := 3)).1 (heldN_in Fence.wide 3 trivial trivial trivial rfl (Nat.le_refl _) w)
end LkF
end Go.Proofs.Ytkjkofdjnjihjaa
