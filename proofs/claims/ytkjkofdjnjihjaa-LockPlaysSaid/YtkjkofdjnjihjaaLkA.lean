/-
  Going through all that is held: the iterator's contract; find, Owner, New: what each of them hands back.
-/
import Derived.Test.YtkjkofdjnjihjaaLkM
import Derived.RangeFuncNested
import Derived.RangeFuncBound
import Derived.RangeFuncCalls
import Derived.RangeFuncLeaves
import Derived.RangeFuncBox
import Derived.Shelf.Abstract
import Derived.Shelf.RegionOpen
import Derived.WalkKit
import Derived.OwnWalkIn
import Derived.TacticsInMore
import Derived.LoopNIn
import Derived.LoopIn
import Derived.Maps.AppendAt
namespace Go.Proofs.Ytkjkofdjnjihjaa
namespace LkA
open Go.RowKit Go.Shelf Base BinM LkM

attribute [local go_sem] Oper.semAt_some

/-- what a round must keep: the box, and where its address lies -/
def KpL (b bl : Nat) (W W' : World) : Prop := W'.heap[b]? = W.heap[b]? ∧ W'.heap[bl]? = W.heap[bl]?
theorem kpl_t {b bl : Nat} {A B C : World} (h : KpL b bl A B) (k : KpL b bl B C) : KpL b bl A C := ⟨k.1.trans h.1, k.2.trans h.2⟩
theorem kpl_b {b bl : Nat} {w : World} (hb : b < w.heap.size) (hl : bl < w.heap.size) (W : World) (l : Nat) (o o' : Obj) (hle : w.heap.size ≤ l) (_ : W.heap[l]? = some o) (_ : o.isCells = false) (_ : o.isWalk = false) : KpL b bl W (W.putObj l o') :=
  ⟨World.putObj_heap_other (by omega), World.putObj_heap_other (by omega)⟩

theorem take_fin {n k : Nat} (h : k < n) : (List.finRange n).take (k + 1) = (List.finRange n).take k ++ [⟨k, h⟩] := by
  rw [List.take_succ_eq_append_getElem (by rw [List.length_finRange]; exact h)]
  simp
theorem take_fin_last {n m : Nat} {ini : List (Fin n)} {y : Fin n} (h : ini ++ [y] = (List.finRange n).take m) : y.val = ini.length ∧ ∀ j, j < ini.length → ∃ z ∈ ini, z.val = j := by
  have hl := congrArg List.length h
  simp only [List.length_append, List.length_singleton, List.length_take, List.length_finRange] at hl
  have hk : ini.length < n := by omega
  have hm : (List.finRange n).take m = (List.finRange n).take (ini.length + 1) := by
    rcases Nat.lt_or_ge m n with h1 | h1
    · rw [show m = ini.length + 1 by omega]
    · rw [List.take_of_length_le (by rw [List.length_finRange]; exact h1), List.take_of_length_le (by rw [List.length_finRange]; omega)]
  rw [hm, take_fin hk] at h
  obtain ⟨h1, h2⟩ := List.append_inj' h rfl
  have h3 : y = ⟨ini.length, hk⟩ := by simpa using h2
  refine ⟨by rw [h3], fun j hj => ⟨⟨j, Nat.lt_trans hj hk⟩, ?_, rfl⟩⟩
  have h4 : (⟨j, Nat.lt_trans hj hk⟩ : Fin n) ∈ (List.finRange n).take ini.length := List.mem_take_iff_getElem.2 ⟨j, by rw [List.length_finRange]; omega, by simp⟩
  rwa [← h1] at h4

set_option maxRecDepth 100000 in
set_option maxHeartbeats 2000000 in
theorem all1_in (F : Fence) (n : Nat) (hf : F.fn 32) (hro : F.round = none) (hn : 1 ≤ n) (l b bl : Nat) (A : Option Addr) (g len cap : Nat) (hlen : len ≤ 100000) (hA : 0 < len → A = some ⟨g, 0, none⟩)
    (J Jx : List (Fin len) → World → Prop)
    (hY : ∀ pre (x : Fin len) W, J pre W → pre.length < len → YieldAt F (n - 1) Try.prog l #[.int .i64 ((x.val : Nat) : Int), .pointer (some ⟨g, x.val * 3, none⟩)] W fun e W' =>
      (e = .returned (.bool true) ∧ J (pre ++ [x]) W' ∧ KpL b bl W W') ∨ (e = .returned (.bool false) ∧ Jx (pre ++ [x]) W'))
    (W : World) (hbl : Bx W bl #[.pointer (some ⟨b, 0, none⟩)] 23) (hb : Bx W b #[.slice A len cap] 48) (h0 : J [] W) :
    CallsIn F n Try.prog 32 #[.func (.yield l) #[] #[], .pointer (some ⟨bl, 0, none⟩)] W fun e W' => (∃ v, e = .returned v) ∧
      ((∃ ys, ys = List.finRange len ∧ J ys W') ∨ (∃ pre, (∃ k, k ≤ len ∧ pre = (List.finRange len).take k) ∧ Jx pre W')) := by
  have c1 := hbl.cell 0
  have c2 := hb.cell 0
  refine callsIn_of_wp Try.func32 rfl hf ?_ hro
  simp only [Try.ntmps32, List.size_toArray, List.length_cons, List.length_nil, Nat.reduceAdd, Nat.reduceSub, Array.replicate_succ, Array.replicate_zero, List.push_toArray, List.append_toArray, List.nil_append, List.cons_append]
  gi_wp2
  gi_loopw [3, 11] (fun _ i wr => ∃ k : Nat, k ≤ len ∧ i = .int .i64 k ∧ J ((List.finRange len).take k) wr ∧ KpL b bl W wr)
    (fun _ i _ => len - (intOf i).toNat)
  case atStart => exact ⟨0, Nat.zero_le _, rfl, h0, rfl, rfl⟩
  case round =>
    obtain ⟨k, hk, rfl, hJs, hkp⟩ := hrel
    by_cases hlt : k < len
    · obtain rfl := hA (by omega)
      obtain ⟨fn, tmps, assign, body, hy, hR⟩ := hY _ ⟨k, hlt⟩ wr hJs (by rw [List.length_take, List.length_finRange]; omega)
      dsimp only at hy
      have d1 : wr.cell? ⟨bl, 0, none⟩ = some (.pointer (some ⟨b, 0, none⟩)) := Bx.cell (hkp.2.trans hbl) 0
      have d2 : wr.cell? ⟨b, 0, none⟩ = some (.slice (some ⟨g, 0, none⟩) len cap) := Bx.cell (hkp.1.trans hb) 0
      gi_wp2
      refine hR.mono ?_
      rintro e W3 (⟨rfl, hJ3, hk3⟩ | ⟨rfl, hJx3⟩)
      · gi_wp2
        go_roundw
        case rel => exact ⟨k + 1, by omega, by simp, by rw [take_fin hlt]; exact hJ3, kpl_t hkp hk3⟩
        case measure => simp [intOf]; omega
      · gi_wp2
        refine bodyPost_ret (results_none rfl _ _ _) rfl ?_
        exact ⟨⟨_, rfl⟩, .inr ⟨_, ⟨k + 1, by omega, rfl⟩, by rw [take_fin hlt]; exact hJx3⟩⟩
    · obtain rfl : k = len := by omega
      gi_wp2
      go_end0
      exact ⟨⟨_, rfl⟩, .inl ⟨_, rfl, by rwa [List.take_of_length_le (by rw [List.length_finRange]; exact Nat.le_refl _)] at hJs⟩⟩

set_option maxRecDepth 100000 in
set_option maxHeartbeats 2000000 in
theorem all1_nil_in (F : Fence) (n : Nat) (hf : F.fn 32) (hro : F.round = none) (l bl : Nat) {len : Nat} (J : List (Fin len) → World → Prop) (W : World) (hbl : Bx W bl #[.pointer none] 23) (h0 : J [] W) :
    CallsIn F n Try.prog 32 #[.func (.yield l) #[] #[], .pointer (some ⟨bl, 0, none⟩)] W fun e W' => (∃ v, e = .returned v) ∧ J [] W' := by
  have c1 := hbl.cell 0
  refine callsIn_of_wp Try.func32 rfl hf ?_ hro
  simp only [Try.ntmps32, List.size_toArray, List.length_cons, List.length_nil, Nat.reduceAdd, Nat.reduceSub, Array.replicate_succ, Array.replicate_zero, List.push_toArray, List.append_toArray, List.nil_append, List.cons_append]
  gi_wp2
  refine bodyPost_ret (results_none rfl _ _ _) rfl ?_
  exact ⟨⟨_, rfl⟩, h0⟩
theorem all_in (F : Fence) (n : Nat) (hf : F.fn 27) (hro : F.round = none) (p : Option Addr) (w : World) :
    CallsIn F n Try.prog 27 #[.pointer p] w fun e w' => e = .returned (.func (.func 32) #[] #[.pointer (some ⟨w.heap.size, 0, none⟩)]) ∧ w' = w.alloc (.cells #[.pointer p] 23) := by
  refine callsIn_of_wp Try.func27 rfl hf ?_ hro
  simp only [Try.ntmps27, List.size_toArray, List.length_cons, List.length_nil, Nat.reduceAdd, Nat.reduceSub, Array.replicate_succ, Array.replicate_zero, List.push_toArray, List.append_toArray, List.nil_append, List.cons_append]
  gi_wp2
  go_ret
  exact ⟨rfl, rfl⟩
theorem all_stops (F : Fence) (n : Nat) (hf : F.fn 32) (hro : F.round = none) (hn : 1 ≤ n) (b bl : Nat) (A : Option Addr) (g len cap : Nat) (hlen : len ≤ 100000) (hA : 0 < len → A = some ⟨g, 0, none⟩) (w : World)
    (hbl : Bx w bl #[.pointer (some ⟨b, 0, none⟩)] 23) (hb : Bx w b #[.slice A len cap] 48) :
    SeqStopsK F n Try.prog 32 #[.pointer (some ⟨bl, 0, none⟩)] (fun x : Fin len => #[Value.int .i64 ((x.val : Nat) : Int), Value.pointer (some ⟨g, x.val * 3, none⟩)]) (KpL b bl) (fun ys => ys = List.finRange len) (fun pre => ∃ k, k ≤ len ∧ pre = (List.finRange len).take k) len w :=
  fun l J Jx W hW _ _ hY h0 => all1_in F n hf hro hn l b bl A g len cap hlen hA J Jx hY W (hbl.after hW) (hb.after hW) h0
theorem all_stops_nil (F : Fence) (n : Nat) (hf : F.fn 32) (hro : F.round = none) (bl : Nat) (w : World) (hbl : Bx w bl #[.pointer none] 23) :
    SeqStopsK F n Try.prog 32 #[.pointer (some ⟨bl, 0, none⟩)] (fun x : Fin 0 => #[Value.int .i64 ((x.val : Nat) : Int), Value.pointer (some ⟨0, x.val * 3, none⟩)]) (KpL bl bl) (fun ys => ys = []) (fun _ => False) 0 w :=
  fun l J _ W hW _ _ _ h0 => (all1_nil_in F n hf hro l bl J W (hbl.after hW) h0).mono fun _ _ h => ⟨h.1, .inl ⟨_, rfl, h.2⟩⟩

theorem bx_kept {W W' : World} {row : Option Nat} {b : Nat} {C : Array Value} {t : TypeId} (h : Bx W b C t) (hg : W.grownBy W' row) (hr : ∀ r, row = some r → ∃ o : Obj, W.heap[r]? = some o ∧ o.isCells = false) : Bx W' b C t := by
  refine (hg.block b h.lt (fun e => ?_)).trans h
  obtain ⟨o, ho, hc⟩ := hr b e.symm
  have h2 : W.heap[b]? = some (.cells C t (0, 0)) := h
  rw [h2] at ho
  cases ho
  cases hc
theorem bx_from {β : Type} {B b : Nat} {C : β → Array Value} {t : TypeId} : OwnFrom B (fun (s : β) W => Bx W b (C s) t) := fun _ _ _ _ hs hg hr => bx_kept hs hg (fun r e => (hr r e).2)
theorem pure_from {β : Type} {B : Nat} {p : β → Prop} : OwnFrom B (fun (s : β) _ => p s) := fun _ _ _ _ hs _ _ => hs
theorem range_inj {a b : Nat} (h : List.range a = List.range b) : a = b := by
  have := congrArg List.length h
  simpa using this
/-- what find answers -/
def ptrE (A : Option Addr) (hs : List Ho) (x : Int) : Value := if fnd hs x < hs.length then .pointer (A.map fun a => ⟨a.block, fnd hs x * 3, none⟩) else .pointer none

set_option maxRecDepth 100000 in
set_option maxHeartbeats 2000000 in
theorem find_in (F : Fence) (n : Nat) (h1 : F.fn 25) (h2 : F.fn 27) (h3 : F.fn 32) (hro : F.round = none) (hn : 3 ≤ n) {b : Nat} {A : Option Addr} {c : Nat} {hs : List Ho} {w : World} (H : Lk 48 53 w b A c hs) (hl : hs.length ≤ 100000) (x : Int) :
    CallsIn F n Try.prog 25 #[.pointer (some ⟨b, 0, none⟩), .int .i64 x] w fun e w' => e = .returned (ptrE A hs x) ∧ Below w.heap.size w w' := by
  have hn1 : 1 ≤ n := by omega
  obtain ⟨g, hA⟩ : ∃ g, 0 < hs.length → A = some ⟨g, 0, none⟩ := by
    by_cases h0 : 0 < hs.length
    · obtain ⟨g, e, _⟩ := H.at_ h0
      exact ⟨g, fun _ => e⟩
    · exact ⟨0, fun h => absurd h h0⟩
  have hgl : 0 < hs.length → g < w.heap.size := fun h => H.lt (.inr ⟨_, hA h, rfl⟩)
  have hcell : ∀ k (hk : k < hs.length), w.cell? ⟨g, k * 3, none⟩ = some (.int .i64 hs[k].a) := fun k hk => by
    have h := hA (by omega)
    subst h
    exact (H.cells hk).1
  have hbx := H.box
  refine callsIn_of_wp_marks Try.func25 rfl h1 ?_ hro
  simp only [Try.ntmps25, List.size_toArray, List.length_cons, List.length_nil, Nat.reduceAdd, Nat.reduceSub, Array.replicate_succ, Array.replicate_zero, List.push_toArray, List.append_toArray, List.nil_append, List.cons_append]
  gi_wp2_with (gi_at_call 27; refine (all_in F (n - 1) h2 hro _ _).mono ?_; rintro e w' ⟨rfl, rfl⟩)
  have hB0 : Below w.heap.size w (((w.alloc (.cells #[.int .i64 x] 2)).alloc (.cells #[.pointer none] 50)).alloc (.cells #[.pointer (some ⟨b, 0, none⟩)] 23)) := (((Below.refl _ w).alloc (Nat.le_refl _) _).alloc (by simp) _).alloc (by simp; omega) _
  have b0 := Bx.new w #[.int .i64 x] 2
  have b1 := Bx.new (w.alloc (.cells #[.int .i64 x] 2)) #[.pointer none] 50
  have b2 := Bx.new ((w.alloc (.cells #[.int .i64 x] 2)).alloc (.cells #[.pointer none] 50)) #[.pointer (some ⟨b, 0, none⟩)] 23
  simp only [World.size_alloc] at b1 b2
  have hlt := hbx.lt
  have hbx2 := hbx.after hB0
  refine wpIn_rangeFunc_ownF hro hn1 (gf := 32) (lb := #[.pointer (some ⟨w.heap.size + 1 + 1, 0, none⟩)]) rfl h3 (enters_of Try.func32 (by kernel_rfl) rfl)
    (all_stops F (n - 1) h3 hro (by omega) b (w.heap.size + 1 + 1) A g hs.length c hl hA _ b2 hbx2) kpl_t (kpl_b (by simp; omega) (by simp)) (Below.refl _ _) (fun _ => rfl)
    (fun (pre : List (Fin hs.length)) W => ((∀ j ∈ pre, hs[j.val].a ≠ x) ∧ Bx W w.heap.size #[.int .i64 x] 2 ∧ Bx W (w.heap.size + 1) #[.pointer none] 50) ∧ Below w.heap.size w W)
    (fun c (pre : List (Fin hs.length)) W => (∃ (ini : List (Fin hs.length)) (y : Fin hs.length), (c = .ret ∧ pre = ini ++ [y] ∧ (∀ j ∈ ini, hs[j.val].a ≠ x) ∧ hs[y.val].a = x) ∧ Bx W (w.heap.size + 1) #[.pointer (some ⟨g, y.val * 3, none⟩)] 50) ∧ Below w.heap.size w W)
    (OwnFrom.and (OwnFrom.and pure_from (OwnFrom.and bx_from bx_from)) (ownFrom_below (Nat.le_refl _) (by simp; omega)))
    (fun c => OwnFrom.and (fun s W W' row ⟨ini, y, hp, hb⟩ hg hr => ⟨ini, y, hp, bx_kept hb hg (fun r e => (hr r e).2)⟩) (ownFrom_below (Nat.le_refl _) (by simp; omega)))
    ⟨⟨by simp, (b0.alloc _).alloc _, b1.alloc _⟩, hB0⟩
    (fun k : Fin hs.length => { tmps := #[.pointer (some ⟨b, 0, none⟩), .int .i64 x, undef, .pointer (some ⟨w.heap.size, 0, none⟩), .pointer (some ⟨w.heap.size + 1, 0, none⟩), undef, .pointer (some ⟨g, k.val * 3, none⟩), .pointer (some ⟨b, 0, none⟩), .func (.func 32) #[] #[.pointer (some ⟨w.heap.size + 1 + 1, 0, none⟩)], .int .i64 ((k.val : Nat) : Int), .pointer (some ⟨g, k.val * 3, none⟩), undef, undef, undef, undef, undef, undef, undef], defers := [] }) ?assign ?body ?done ?stop
  case assign =>
    intro l k W K hK
    gi_wp2
    exact hK
  case body =>
    rintro l pre k W ⟨⟨hno, q0, q1⟩, hB⟩ _
    have e0 := q0.cell 0
    have e1 := q1.cell 0
    have e2 := q1.free 0
    have e3 : W.cell? ⟨g, k.val * 3, none⟩ = some (.int .i64 hs[k.val].a) := (hB.cell (p := ⟨g, k.val * 3, none⟩) (hgl (by omega))).trans (hcell k.val k.isLt)
    have hmx : Try.prog.follows .mixedOrders = true := by kernel_rfl
    by_cases hx : hs[k.val].a = x
    · have hx1 : (hs[k.val].a == x) = true := by simpa using hx
      gi_wp2
      gi_region_o
      all_goals gi_wp2
      all_goals exact ⟨(KeepsOthers.setCell _ _ _).trans (KeepsOthers.drew _), ⟨pre, k, ⟨rfl, rfl, hno, hx⟩, q1.set 0 _⟩, (hB.setCell (p := ⟨w.heap.size + 1, 0, none⟩) (by simp) _).drew⟩
    · have hx1 : (hs[k.val].a == x) = false := by simpa using hx
      gi_wp2
      gi_region_o
      all_goals gi_wp2
      all_goals exact ⟨KeepsOthers.drew _, ⟨rfl, rfl⟩, ⟨fun j hj => by
        rw [List.mem_append, List.mem_singleton] at hj
        rcases hj with hj | rfl
        · exact hno j hj
        · exact hx, q0, q1⟩, hB.drew⟩
  case done =>
    rintro D ys W hD rfl ⟨⟨hno, q0, q1⟩, hB⟩ hK
    have e1 := q1.cell 0
    have e2 := q1.free 0
    gi_wp2
    have hf : fnd hs x = hs.length := fnd_miss (fun j hj => hno ⟨j, hj⟩ (List.mem_finRange _))
    have hK' := (KeepsOthers.setCell W ⟨w.heap.size + 1, 0, none⟩ (.pointer none)).same D _ hK rfl
    refine ⟨by simp, .inl ⟨_, _, rfl, run_takeDeferred hK', ?_⟩⟩
    have hc5 := cell_kept ((q1.set 0 (.pointer none)).cell 0) (grownBy_putObj' _ D (.deferred none)) (fun r e => by cases e; exact ⟨_, hK', rfl⟩)
    refine ⟨.pointer none, ?_, by unfold ptrE; rw [if_neg (by omega)], (hB.setCell (p := ⟨w.heap.size + 1, 0, none⟩) (by simp) _).trans (belowK_b (w := w) (Nat.le_refl _) _ D _ _ (by simp at hD; omega) hK' rfl rfl)⟩
    simp [results, Try.f25, go_sem, hc5]
  case stop =>
    rintro D c pre W hD ⟨m, hm, hpre⟩ ⟨⟨ini, y, ⟨rfl, rfl, hno, hy⟩, q1⟩, hB⟩ hK
    gi_wp2
    obtain ⟨hyl, hin⟩ := take_fin_last hpre
    have hf : fnd hs x = y.val := fnd_hit y.isLt (fun j hj hj2 => by
      obtain ⟨z, hz, rfl⟩ := hin j (by omega)
      exact hno z hz) hy
    refine ⟨by simp, .inl ⟨_, _, rfl, run_takeDeferred hK, ?_⟩⟩
    have hc5 := cell_kept (q1.cell 0) (grownBy_putObj' _ D (.deferred none)) (fun r e => by cases e; exact ⟨_, hK, rfl⟩)
    have hyl := y.isLt
    refine ⟨.pointer (some ⟨g, y.val * 3, none⟩), ?_, by unfold ptrE; rw [if_pos (by omega), hf, hA (by omega)]; rfl, hB.trans (belowK_b (w := w) (Nat.le_refl _) _ D _ _ (by simp at hD; omega) hK rfl rfl)⟩
    simp [results, Try.f25, go_sem, hc5]
theorem find_any {b : Nat} {A : Option Addr} {c : Nat} {hs : List Ho} {w : World} (H : Lk 48 53 w b A c hs) (hl : hs.length ≤ 100000) (x : Int) :
    Calls Try.prog 25 #[.pointer (some ⟨b, 0, none⟩), .int .i64 x] w fun e w' => e = .returned (ptrE A hs x) ∧ Below w.heap.size w w' :=
  (callsIn_wide (n := 3)).1 (find_in Fence.wide 3 trivial trivial trivial rfl (Nat.le_refl _) H hl x)
end LkA
end Go.Proofs.Ytkjkofdjnjihjaa
