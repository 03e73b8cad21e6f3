/-
  A move's code: types taken, the last one from the top.
-/
import Derived.Test.YtiagjnimafdbhaaGreatDoorTnB
namespace Go.Proofs.YtiagjnimafdbhaaGreatDoor
namespace TnC
open Go.RowKit Go.Shelf Base BinM TabM TnA TnB
attribute [local go_sem] Oper.semAt_some

def KpL (b bl : Nat) (W W' : World) : Prop := W'.heap[b]? = W.heap[b]? ∧ W'.heap[bl]? = W.heap[bl]?
theorem kpl_t {b bl : Nat} {A B C : World} (h : KpL b bl A B) (k : KpL b bl B C) : KpL b bl A C := ⟨k.1.trans h.1, k.2.trans h.2⟩
theorem kpl_b {b bl : Nat} {w : World} (hb : b < w.heap.size) (hl : bl < w.heap.size) (W : World) (l : Nat) (o o' : Obj) (hle : w.heap.size ≤ l) (_ : W.heap[l]? = some o) (_ : o.isCells = false) (_ : o.isWalk = false) : KpL b bl W (W.putObj l o') :=
  ⟨World.putObj_heap_other (by omega), World.putObj_heap_other (by omega)⟩

set_option maxRecDepth 100000 in
set_option maxHeartbeats 4000000 in
/-- two texts alike, the last one first -/
theorem back1_in (F : Fence) (n : Nat) (hf : F.fn 201) (hro : F.round = none) (hn : 1 ≤ n) (l Bs tb : Nat) (z : List UInt8) (J Jx : List (Fin 2) → World → Prop)
    (hY : ∀ pre (x : Fin 2) W, J pre W → pre.length < 2 → YieldAt F (n - 1) Tryz.prog l #[.int .i64 ((x.val : Nat) : Int), .string ⟨z.toArray⟩] W fun e W' =>
      (e = .returned (.bool true) ∧ J (pre ++ [x]) W' ∧ KpL tb Bs W W') ∨ (e = .returned (.bool false) ∧ Jx (pre ++ [x]) W'))
    (W : World) (hBs : Bx W Bs #[.slice (some ⟨tb, 0, none⟩) 2 2] 49) (ht : Bx W tb #[.string ⟨z.toArray⟩, .string ⟨z.toArray⟩] 9) (h0 : J [] W) :
    CallsIn F n Tryz.prog 201 #[.func (.yield l) #[] #[], .pointer (some ⟨Bs, 0, none⟩)] W fun e W' => (∃ v, e = .returned v) ∧
      ((∃ ys, ys.length = 2 ∧ J ys W') ∨ (∃ pre, True ∧ Jx pre W')) := by
  have hb0 := hBs.cell 0
  refine callsIn_of_wp Tryz.func201 rfl hf ?_ hro
  simp only [Tryz.ntmps201, List.size_toArray, List.length_cons, List.length_nil, Nat.reduceAdd, Nat.reduceSub, Array.replicate_succ, Array.replicate_zero, List.push_toArray, List.append_toArray, List.nil_append, List.cons_append]
  gi_wp2
  gi_loopw [3] (fun i wr => ∃ (k : Nat) (pre : List (Fin 2)), k ≤ 2 ∧ pre.length = k ∧ i = .int .i64 (1 - (k : Int)) ∧ J pre wr ∧ KpL tb Bs W wr)
    (fun i _ => (intOf i + 1).toNat)
  case atStart => exact ⟨0, [], by omega, rfl, rfl, h0, rfl, rfl⟩
  case round =>
    obtain ⟨k, pre, hk, hpl, rfl, hJs, hnx⟩ := hrel
    have hbs : wr.cell? ⟨Bs, 0, none⟩ = some (.slice (some ⟨tb, 0, none⟩) 2 2) := Bx.cell (hnx.2.trans hBs) 0
    have hto : Bx wr tb _ _ := hnx.1.trans ht
    have d0 := hto.cell 0
    have d1 := hto.cell 1
    rcases (by omega : k = 0 ∨ k = 1 ∨ k = 2) with rfl | rfl | rfl
    · obtain ⟨fn, tmps, assign, body, hy, hR⟩ := hY _ ⟨1, by omega⟩ wr hJs (by omega)
      dsimp only at hy
      rw [show ((1 : Nat) : Int) = (1 : Int) from rfl] at hy
      gi_wp2
      refine hR.mono ?_
      rintro e W3 (⟨rfl, hJ3, hk3⟩ | ⟨rfl, hJx3⟩)
      · gi_wp2
        go_roundw
        case rel => exact ⟨1, _, by omega, by simp [hpl], by simp, hJ3, kpl_t hnx hk3⟩
        case measure => simp [intOf]
      · gi_wp2
        refine bodyPost_ret (results_none rfl _ _ _) rfl ?_
        exact ⟨⟨_, rfl⟩, .inr ⟨_, trivial, hJx3⟩⟩
    · obtain ⟨fn, tmps, assign, body, hy, hR⟩ := hY _ ⟨0, by omega⟩ wr hJs (by omega)
      dsimp only at hy
      rw [show ((0 : Nat) : Int) = (0 : Int) from rfl] at hy
      gi_wp2
      refine hR.mono ?_
      rintro e W3 (⟨rfl, hJ3, hk3⟩ | ⟨rfl, hJx3⟩)
      · gi_wp2
        go_roundw
        case rel => exact ⟨2, _, by omega, by simp [hpl], by simp, hJ3, kpl_t hnx hk3⟩
        case measure => simp [intOf]
      · gi_wp2
        refine bodyPost_ret (results_none rfl _ _ _) rfl ?_
        exact ⟨⟨_, rfl⟩, .inr ⟨_, trivial, hJx3⟩⟩
    · gi_wp2
      go_end0
      exact ⟨⟨_, rfl⟩, .inl ⟨_, hpl, hJs⟩⟩
theorem back_in (F : Fence) (n : Nat) (hf : F.fn 177) (hro : F.round = none) (a : Option Addr) (len cap : Nat) (w : World) :
    CallsIn F n Tryz.prog 177 #[.slice a len cap] w fun e w' => e = .returned (.func (.func 201) #[] #[.pointer (some ⟨w.heap.size, 0, none⟩)]) ∧ w' = w.alloc (.cells #[.slice a len cap] 49) := by
  refine callsIn_of_wp Tryz.func177 rfl hf ?_ hro
  simp only [Tryz.ntmps177, List.size_toArray, List.length_cons, List.length_nil, Nat.reduceAdd, Nat.reduceSub, Array.replicate_succ, Array.replicate_zero, List.push_toArray, List.append_toArray, List.nil_append, List.cons_append]
  gi_wp2
  go_ret
  exact ⟨rfl, rfl⟩
theorem back_stops (F : Fence) (n : Nat) (hf : F.fn 201) (hro : F.round = none) (hn : 1 ≤ n) (Bs tb : Nat) (z : List UInt8) (w : World)
    (hBs : Bx w Bs #[.slice (some ⟨tb, 0, none⟩) 2 2] 49) (ht : Bx w tb #[.string ⟨z.toArray⟩, .string ⟨z.toArray⟩] 9) :
    SeqStopsK F n Tryz.prog 201 #[.pointer (some ⟨Bs, 0, none⟩)] (fun x : Fin 2 => #[Value.int .i64 ((x.val : Nat) : Int), .string ⟨z.toArray⟩]) (KpL tb Bs) (fun ys => ys.length = 2) (fun _ => True) 2 w := fun l J Jx W hW _ _ hY h0 =>
  back1_in F n hf hro hn l Bs tb z J Jx hY W (hBs.after hW) (ht.after hW) h0
end TnC
end Go.Proofs.YtiagjnimafdbhaaGreatDoor
