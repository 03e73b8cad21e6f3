/-
  A move's code: what is put on a stack, and taken from it; types and numbers.
-/
import Derived.Test.YtiagjnimafdbhaaGreatDoorTabO
import Derived.RangeFuncNested
import Derived.RangeFuncBound
import Derived.RangeFuncCalls
import Derived.RangeFuncLeaves
import Derived.RangeFuncBox
import Derived.Shelf.Abstract
import Derived.Shelf.RegionOpen
import Derived.WalkKit
import Derived.OwnWalkIn
import Derived.TacticsInMore
import Derived.LoopNIn
import Derived.LoopIn
import Derived.Deep.QuietTactic
import Derived.BigQuiet
import Derived.StillTailTactics
import Derived.Laws.AppendOwn
namespace Go.Proofs.YtiagjnimafdbhaaGreatDoor
namespace TnA
open Go.RowKit Go.Shelf Base BinM TabM

attribute [local go_sem] Oper.semAt_some

/-- what is outside F, and was there, is as it was -/
structure Tu (F : Nat → Prop) (w w' : World) : Prop where
  os : w'.os = w.os
  tape : w'.tape = w.tape
  output : w'.output = w.output
  size : w.heap.size ≤ w'.heap.size
  block : ∀ k, k < w.heap.size → ¬ F k → w'.heap[k]? = w.heap[k]?
theorem Tu.of_below {F : Nat → Prop} {w w' : World} (h : Below w.heap.size w w') : Tu F w w' := ⟨h.os, h.tape, h.output, h.size, fun k hk _ => h.block k hk⟩
theorem Tu.of_grown {F : Nat → Prop} {w w' : World} {row : Option Nat} (h : w.grownBy w' row) (hF : ∀ k, row = some k → F k) : Tu F w w' := ⟨h.os, h.tape, h.output, h.size, fun k hk hn => h.block k hk (fun e => hn (hF k e.symm))⟩
theorem Tu.of_set {F : Nat → Prop} (w : World) {a : Addr} (hF : F a.block) (v : Value) : Tu F w (w.setCell a v) :=
  ⟨rfl, rfl, rfl, by simp, fun k _ hn => heap_setCell_other w a k v (fun e => hn (by rw [e]; exact hF))⟩
theorem Tu.trans {F G : Nat → Prop} {a b c : World} (h : Tu F a b) (k : Tu G b c) (hG : ∀ j, G j → F j ∨ a.heap.size ≤ j) : Tu F a c :=
  ⟨k.os.trans h.os, k.tape.trans h.tape, k.output.trans h.output, Nat.le_trans h.size k.size, fun j hj hn => (k.block j (Nat.lt_of_lt_of_le hj h.size) (fun g => by
    rcases hG j g with h1 | h1
    · exact hn h1
    · omega)).trans (h.block j hj hn)⟩
theorem Tu.mono {F G : Nat → Prop} {a b : World} (h : Tu F a b) (hG : ∀ j, F j → G j) : Tu G a b := ⟨h.os, h.tape, h.output, h.size, fun j hj hn => h.block j hj (fun f => hn (hG j f))⟩
theorem Tu.below {F : Nat → Prop} {w w' : World} {B : Nat} (h : Tu F w w') (hB : ∀ k, F k → B ≤ k) (hs : B ≤ w.heap.size) : Below B w w' :=
  ⟨h.os, h.tape, h.output, h.size, fun k hk => h.block k (by omega) (fun f => by have := hB k f; omega)⟩
theorem Tu.bx {F : Nat → Prop} {w w' : World} (h : Tu F w w') {b : Nat} {C : Array Value} {t : TypeId} (hb : Bx w b C t) (hn : ¬ F b) : Bx w' b C t := (h.block b hb.lt hn).trans hb
theorem Tu.drew {F : Nat → Prop} {w w' : World} (h : Tu F w w') (n : Nat) : Tu F w (w'.drewN n) := ⟨h.os, h.tape, h.output, h.size, h.block⟩

/-- a row of one's own, or one that was cut to nothing -/
def Row (w : World) (base : Nat) (e : TypeId) (v : Value) (xs : List Value) : Prop := w.ownsRow base e 1 v xs.length xs ∨ (xs = [] ∧ ∃ g : Addr, v = .slice (some g) 0 0 ∧ g.block < w.heap.size)
theorem run_app_row {P : Program} {w : World} (t ty e : TypeId) (i : TypeInfo) (z : Value) (ht : P.underlying t = some (.slice e)) (hi : P.info? e = some i) (hz : i.zero = some z) (hsize : i.size = 1) (hb : i.bytes ≤ 100) (hzs : z.cells.size = 1)
    (base : Nat) (v : Value) (xs : List Value) (h : Row w base e v xs) (hl : xs.length ≤ 1000) (ab ao c : Nat) (u : Value) (hu : w.cell? ⟨ab, ao, none⟩ = some u) (h1 : u.oneCell' = true) (hbase : base ≤ w.heap.size) :
    ∃ v' w', (Builtin.append_ #[t, t] ty #[v, .slice (some ⟨ab, ao, none⟩) 1 c]).run P w = .ok v' w' ∧ w'.ownsRow base e 1 v' (xs.length + 1) (xs ++ [u]) ∧ w.grownBy w' v.ownBlock := by
  have hnews : ∀ j x, [u][j]? = some x → w.cell? ((⟨ab, ao, none⟩ : Addr).add j) = some x := by
    intro j x hj
    rw [Addr.add_mid]
    cases j with
    | zero => simp at hj; subst hj; simpa using hu
    | succ j => simp at hj
  rcases h with h | ⟨rfl, g, rfl, _⟩
  · obtain ⟨v', w', hr, h2, h3, _⟩ := run_append_own (P := P) w base t ty e i z 1 i.bytes ht hi hz hsize rfl hzs (by omega) v xs.length xs h ⟨ab, ao, none⟩ 1 c [u] rfl hnews (by simp [h1]) (by unfold maxLen; omega) (by
      have : (xs.length + 1) * i.bytes ≤ 1001 * 100 := Nat.mul_le_mul (by omega) hb
      omega) hbase
    exact ⟨v', w', hr, h2, h3⟩
  · have hr := run_append_grow (P := P) w t ty e i z ht hi hz g 0 0 [] (by simp) (by simp) ⟨ab, ao, none⟩ 1 c [u] (by simp [hsize]) hnews (by omega) (by omega) (by
      have h1 : Builtin.nextslicecap (0 + 1) 0 = 1 := by decide
      rw [h1]; omega)
    have hge := grownCap_ge w (0 + 1) 0 e
    have hcm := grownCap_le_maxLen w (0 + 1) 0 e (by unfold maxLen; omega)
    refine ⟨_, _, hr, ⟨by simp, .inr ⟨w.heap.size, _, _, rfl, hbase, heap_alloc_new w.drew _, hge, hcm, ?_, ?_⟩⟩, ⟨rfl, rfl, rfl, by simp, fun k hk _ => heap_alloc_old w.drew _ hk⟩⟩
    · simp only [Array.size_append, List.size_toArray, size_zeroCells, hzs, List.length_nil, List.length_singleton]
      omega
    · simp
theorem app_row {P : Program} {ops : Array Oper} {rest : List Oper} {o : Oper} {a : Act} {w : World} {Q : Exit → Act → World → Prop} (hgd : o.guard = none) (s x : Operand) (t : TypeId)
    (ho : o.op = .call { callee := .builtin .append, args := #[s, x], argTypes := #[t, t] }) (e : TypeId) (i : TypeInfo) (z : Value) (ht : P.underlying t = some (.slice e)) (hi : P.info? e = some i) (hz : i.zero = some z) (hsize : i.size = 1) (hb : i.bytes ≤ 100) (hzs : z.cells.size = 1)
    (base : Nat) (v : Value) (xs : List Value) (hs : a.eval s = v) (h : Row w base e v xs) (hl : xs.length ≤ 1000) (ab ao c : Nat) (u : Value) (hx : a.eval x = .slice (some ⟨ab, ao, none⟩) 1 c) (hu : w.cell? ⟨ab, ao, none⟩ = some u) (h1 : u.oneCell' = true) (hbase : base ≤ w.heap.size)
    (hK : ∀ A c' w', w'.ownsRow base e 1 (.slice A (xs.length + 1) c') (xs.length + 1) (xs ++ [u]) → w.grownBy w' v.ownBlock → wpList P ops Q rest (a.put o.dst (.slice A (xs.length + 1) c')) w') : wpList P ops Q (o :: rest) a w := by
  refine wpList_plain hgd fun K hK' => ?_
  obtain ⟨v', w', hr, h2, h3⟩ := run_app_row (P := P) t o.type e i z ht hi hz hsize hb hzs base v xs h hl ab ao c u hu h1 hbase
  obtain ⟨A, c', rfl, _⟩ := own_slice h2
  unfold Oper.wp execOp
  simp only [ho, resolve, invoke, builtin, Sem.run_bind, Sem.run_pure, Result.andThen_ok, List.map_toArray, List.map_cons, List.map_nil, hs, hx, hr]
  exact hK' _ _ (hK A c' w' h2 h3)
theorem row_ne {w : World} {base b : Nat} {e : TypeId} {A : Option Addr} {n c : Nat} {xs : List Value} {C : Array Value} {ty : TypeId} (h : w.ownsRow base e 1 (.slice A n c) n xs) (hb : Bx w b C ty) (hne : ty ≠ e) : (Value.slice A n c).ownBlock ≠ some b := by
  intro e'
  rcases h.2 with ⟨hv, _⟩ | ⟨g, cap, cur, hv, _, hh, _⟩
  · rw [hv] at e'; cases e'
  · rw [hv] at e'
    have e2 : g = b := by injection e'
    subst e2
    unfold Bx at hb
    rw [hh] at hb
    injection hb with hb
    injection hb with _ h2 _
    exact hne h2.symm
theorem infoP : (Tryz.prog.info? 257).map (fun i => (i.zero, i.size, i.bytes)) = some (some (.pointer none), 1, 8) := by kernel_rfl
theorem infoI : (Tryz.prog.info? 2).map (fun i => (i.zero, i.size, i.bytes)) = some (some (.int .i64 0), 1, 8) := by kernel_rfl

set_option maxRecDepth 100000 in
set_option maxHeartbeats 4000000 in
/-- a value of a type is left -/
theorem leave_any (b base : Nat) (A : Option Addr) (n c : Nat) (O : Value) (ps : List Value) (d : List UInt8) (w : World) (hbx : Bx w b #[.slice A n c, O] 215) (hn : n = ps.length) (hr : Row w base 257 (.slice A n c) ps) (hne : (Value.slice A n c).ownBlock ≠ some b) (hl : ps.length ≤ 1000) (hbase : base ≤ w.heap.size) :
    Calls Tryz.prog 199 #[.pointer (some ⟨b, 0, none⟩), .string ⟨d.toArray⟩] w fun e w' => e = .returned (.bool true) ∧ ∃ A' c', Bx w' b #[.slice A' (ps.length + 1) c', O] 215 ∧ w'.ownsRow base 257 1 (.slice A' (ps.length + 1) c') (ps.length + 1) (ps ++ [.pointer (some ⟨w.heap.size, 0, none⟩)]) ∧
      Bx w' w.heap.size #[.string ⟨d.toArray⟩] 9 ∧ Tu (fun k => k = b ∨ (Value.slice A n c).ownBlock = some k) w w' := by
  obtain ⟨i, hi, hz, hs1, hb1⟩ := info_parts infoP
  subst hn
  have HI := Lib.hid (And.intro hi (And.intro hz (And.intro hs1 hb1)))
  have hbl := hbx.lt
  have b0 := hbx.cell 0
  have f0 := hbx.free 0
  have B1 := Lib.hid (TabZ.bx_al (TabZ.bx_al hbx (.cells #[.string ⟨d.toArray⟩] 9)) (.cells #[.pointer (some ⟨w.heap.size, 0, none⟩)] 257))
  have D1 := Lib.hid (TabZ.bx_al (Bx.new w #[.string ⟨d.toArray⟩] 9) (.cells #[.pointer (some ⟨w.heap.size, 0, none⟩)] 257))
  have R1 : Hid (Row ((w.alloc (.cells #[.string ⟨d.toArray⟩] 9)).alloc (.cells #[.pointer (some ⟨w.heap.size, 0, none⟩)] 257)) base 257 (.slice A ps.length c) ps) := Lib.hid (hr.imp (fun h => World.ownsRow.alloc (World.ownsRow.alloc h _) _) (fun ⟨h1, g, h2, h3⟩ => ⟨h1, g, h2, by simp; omega⟩))
  have Hne := Lib.hid hne
  have T1 := Lib.hid (Tu.of_below (F := fun k => k = b ∨ (Value.slice A ps.length c).ownBlock = some k) (((Below.refl w.heap.size w).alloc (Nat.le_refl _) (.cells #[.string ⟨d.toArray⟩] 9)).alloc (by simp) (.cells #[.pointer (some ⟨w.heap.size, 0, none⟩)] 257)))
  have Hlt := Lib.hid (show (Value.slice A ps.length c).ownBlock ≠ some w.heap.size from fun e => by
    rcases hr with h | ⟨_, g, hg, hgl⟩
    · have := (h.lt w.heap.size e).2; omega
    · rw [hg] at e; have := Option.some.inj e; omega)
  clear hi hz hs1 hb1 hbx hr hne
  go_enter Tryz.func199, Tryz.ntmps199
  go_wp2_with (at_builtin
               refine app_row rfl (.tmp 9) (.tmp 10) 213 rfl 257 i _ Tryz.underlying213 HI.out.1 HI.out.2.1 HI.out.2.2.1 (by rw [HI.out.2.2.2]; omega) rfl base _ ps rfl R1.out hl (w.heap.size + 1) 0 1 (.pointer (some ⟨w.heap.size, 0, none⟩)) rfl (Bx.cell (TabZ.bx_at _ _ _ _ (by simp)) 0) rfl (by simp; omega) ?_
               intro A2 c2 w2 hown2 hg2
               have hx2 : Bx w2 b _ _ := (hg2.block b B1.out.lt (fun e => Hne.out e.symm)).trans B1.out
               have g0 := hx2.free 0
               have g1 := hx2.cell 0
               have D2 := Lib.hid (show Bx w2 w.heap.size _ _ from (hg2.block w.heap.size D1.out.lt (fun e => Hlt.out e.symm)).trans D1.out)
               have X2 := Lib.hid hx2
               have O2 := Lib.hid hown2
               have T2 := Lib.hid (T1.out.trans (Tu.of_grown (F := fun k => (Value.slice A ps.length c).ownBlock = some k) hg2 (fun _ h => h)) (fun j hj => .inl (.inr hj)))
               clear hown2 hg2 hx2)
  go_ret
  have hn2 := row_ne O2.out X2.out (by decide)
  refine ⟨rfl, A2, c2, X2.out.set 0 _, own_same O2.out (fun k hk => heap_setCell_other _ ⟨b, 0, none⟩ _ _ (fun e => hn2 (by rw [hk, e]))), (heap_setCell_other _ ⟨b, 0, none⟩ _ _ (by show w.heap.size ≠ b; omega)).trans D2.out, T2.out.trans (Tu.of_set (F := fun k => k = b) w2 rfl _) (fun j hj => .inl (.inl hj))⟩
end TnA
end Go.Proofs.YtiagjnimafdbhaaGreatDoor
