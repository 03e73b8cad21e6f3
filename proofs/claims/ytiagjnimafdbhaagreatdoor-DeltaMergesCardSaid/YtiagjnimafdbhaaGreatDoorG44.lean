/-
  delta.named: a map from names to classes, the first one of a name.
-/
import Derived.Test.YtiagjnimafdbhaaGreatDoorG43
import Derived.RangeFuncNested
import Derived.RangeFuncBound
import Derived.RangeFuncCalls
import Derived.RangeFuncLeaves
import Derived.RangeFuncBox
import Derived.Shelf.Abstract
import Derived.Shelf.RegionOpen
import Derived.WalkKit
import Derived.OwnWalkIn
import Derived.TacticsInMore
import Derived.LoopNIn
import Derived.LoopIn
import Derived.Maps.OwnIn
import Derived.Maps.AppendAt
namespace Go.Proofs.YtiagjnimafdbhaaGreatDoor
namespace DlN
open Go.RowKit Go.Shelf Base BinM Stru DescM DescW DescX HierS HierT HierM HierC HierD HierN Kls KlsP KlsQ OpenK TabC TabM TabK TabP TabE TabB TabG TabH TabT TabU TabV TabW TabN TabO TabY TabCs TabCl DlP

attribute [local go_sem] Oper.semAt_some

/-- the places of a list from its end, so many -/
def bk (len k : Nat) : List Nat := (List.range k).map fun t => len - 1 - t
theorem bk_succ (len k : Nat) : bk len (k + 1) = bk len k ++ [len - 1 - k] := by simp [bk, List.range_succ]
theorem bk_length (len k : Nat) : (bk len k).length = k := by simp [bk]
theorem bk_rev (zs : List ClsT) : ((bk zs.length zs.length).reverse).map (fun j => zs.getD j noC) = zs := by
  apply List.ext_getElem
  · simp [bk]
  · intro i h1 h2
    simp only [bk, List.getElem_map, List.getElem_reverse, List.length_map, List.length_range, List.getElem_range]
    rw [show zs.length - 1 - (zs.length - 1 - i) = i by omega]
    simp [List.getD_eq_getElem?_getD, h2]
/-- what stands in the map behind some places -/
def fpre (zs : List ClsT) (pre : List Nat) (q : T) : Option ClsT := ((pre.reverse).map (fun j => zs.getD j noC)).find? (named q)
theorem fpre_all (zs : List ClsT) : fpre zs (bk zs.length zs.length) = fun q => zs.find? (named q) := by
  funext q
  unfold fpre
  rw [bk_rev]
theorem fpre_next (zs : List ClsT) (pre : List Nat) (x : Nat) : (fun q => if q = (zs.getD x noC).name then some (zs.getD x noC) else fpre zs pre q) = fpre zs (pre ++ [x]) := by
  funext q
  unfold fpre
  rw [List.reverse_append, List.reverse_singleton, List.singleton_append, List.map_cons, List.find?_cons]
  by_cases h : q = (zs.getD x noC).name
  · subst h
    simp [named]
  · have h0 : named q (zs.getD x noC) = false := by unfold named; simp; exact fun e => h e.symm
    rw [if_neg h, h0]
def At5 (W : World) (b off : Nat) (x : ClsT) : Prop :=
  W.cell? ⟨b, off, none⟩ = some (.string ⟨x.name.toArray⟩) ∧ W.cell? ⟨b, off + 1, none⟩ = some (.string ⟨x.sup.toArray⟩) ∧ W.cell? ⟨b, off + 2, none⟩ = some (.slice x.kA x.km x.kc) ∧ W.cell? ⟨b, off + 3, none⟩ = some (.slice x.fA x.fm x.fc) ∧ W.cell? ⟨b, off + 4, none⟩ = some (.slice x.mA x.mm x.mc)
theorem At5.ext {n₀ : Nat} {W W' : World} {b off : Nat} {x : ClsT} (h : At5 W b off x) (hb : Below n₀ W W') (hl : b < n₀) : At5 W' b off x :=
  ⟨(hb.cell (p := ⟨b, off, none⟩) hl).trans h.1, (hb.cell (p := ⟨b, off + 1, none⟩) hl).trans h.2.1, (hb.cell (p := ⟨b, off + 2, none⟩) hl).trans h.2.2.1, (hb.cell (p := ⟨b, off + 3, none⟩) hl).trans h.2.2.2.1, (hb.cell (p := ⟨b, off + 4, none⟩) hl).trans h.2.2.2.2⟩

/-- what a round must keep: what lay below, and the box of the list -/
def Keep2 (n₀ Bs : Nat) (W W' : World) : Prop := Below n₀ W W' ∧ W'.heap[Bs]? = W.heap[Bs]?
theorem keep2_t {n₀ Bs : Nat} {A B C : World} (h : Keep2 n₀ Bs A B) (k : Keep2 n₀ Bs B C) : Keep2 n₀ Bs A C := ⟨h.1.trans k.1, k.2.trans h.2⟩
theorem keep2_b {n₀ Bs : Nat} {w : World} (hn : n₀ ≤ w.heap.size) (hl : Bs < w.heap.size) (W : World) (l : Nat) (o o' : Obj) (hle : w.heap.size ≤ l) (h1 : W.heap[l]? = some o) (h2 : o.isCells = false) (h3 : o.isWalk = false) : Keep2 n₀ Bs W (W.putObj l o') :=
  ⟨belowK_b hn W l o o' hle h1 h2 h3, World.putObj_heap_other (by omega)⟩
theorem keep2_r (n₀ Bs : Nat) (W : World) : Keep2 n₀ Bs W W := ⟨Below.refl _ _, rfl⟩

set_option maxRecDepth 100000 in
set_option maxHeartbeats 4000000 in
theorem back1_in (F : Fence) (n : Nat) (hf : F.fn 134) (hro : F.round = none) (hn : 1 ≤ n) (l Bs n₀ b off len cap : Nat) (A : Option Addr) (zs : List ClsT) (hlen : len ≤ 100000) (hb : 0 < len → b < n₀) (hA : 0 < len → A = some ⟨b, off, none⟩) (J Jx : List Nat → World → Prop)
    (hY : ∀ pre (x : Nat) W, J pre W → pre.length < len → YieldAt F (n - 1) Tryz.prog l #[.int .i64 (x : Int), (zs.getD x noC).V] W fun e W' =>
      (e = .returned (.bool true) ∧ J (pre ++ [x]) W' ∧ Keep2 n₀ Bs W W') ∨ (e = .returned (.bool false) ∧ Jx (pre ++ [x]) W'))
    (W : World) (hBs : Bx W Bs #[.slice A len cap] 22) (hc : ∀ j, j < len → At5 W b (off + j * 5) (zs.getD j noC)) (h0 : J [] W) :
    CallsIn F n Tryz.prog 134 #[.func (.yield l) #[] #[], .pointer (some ⟨Bs, 0, none⟩)] W fun e W' => (∃ v, e = .returned v) ∧
      ((∃ ys, ys = bk len len ∧ J ys W') ∨ (∃ pre, (∃ k, k ≤ len ∧ pre = bk len k) ∧ Jx pre W')) := by
  have hb0 := hBs.cell 0
  refine callsIn_of_wp Tryz.func134 rfl hf ?_ hro
  simp only [Tryz.ntmps134, List.size_toArray, List.length_cons, List.length_nil, Nat.reduceAdd, Nat.reduceSub, Array.replicate_succ, Array.replicate_zero, List.push_toArray, List.append_toArray, List.nil_append, List.cons_append]
  gi_wp2
  gi_loopw [3] (fun i wr => ∃ k : Nat, k ≤ len ∧ i = .int .i64 ((len : Int) - 1 - k) ∧ J (bk len k) wr ∧ Keep2 n₀ Bs W wr)
    (fun i _ => (intOf i + 1).toNat)
  case atStart => exact ⟨0, Nat.zero_le _, by simp, h0, keep2_r _ _ _⟩
  case round =>
    obtain ⟨k, hk, rfl, hJs, hnx⟩ := hrel
    by_cases hlt : k < len
    · have hbs : wr.cell? ⟨Bs, 0, none⟩ = some (.slice A len cap) := Bx.cell (hnx.2.trans hBs) 0
      obtain ⟨d0, d1, d2, d3, d4⟩ := (hc (len - 1 - k) (by omega)).ext hnx.1 (hb (by omega))
      obtain rfl := hA (by omega)
      obtain ⟨fn, tmps, assign, body, hy, hR⟩ := hY _ (len - 1 - k) wr hJs (by rw [bk_length]; exact hlt)
      have hi0 : (0 : Int) ≤ (len : Int) - 1 - k := by omega
      have hix : ((len - 1 - k : Nat) : Int) = (len : Int) - 1 - k := by omega
      rw [hix] at hy
      generalize zs.getD (len - 1 - k) noC = x at *
      simp only [ClsT.V] at hy
      gi_wp2
      refine hR.mono ?_
      rintro e W3 (⟨rfl, hJ3, hk3⟩ | ⟨rfl, hJx3⟩)
      · gi_wp2
        go_roundw
        case rel => exact ⟨k + 1, by omega, by go_num, by rw [bk_succ]; exact hJ3, keep2_t hnx hk3⟩
        case measure => simp [intOf]; omega
      · gi_wp2
        refine bodyPost_ret (results_none rfl _ _ _) rfl ?_
        exact ⟨⟨_, rfl⟩, .inr ⟨_, ⟨k + 1, by omega, (bk_succ _ _).symm⟩, hJx3⟩⟩
    · obtain rfl : k = len := by omega
      gi_wp2
      go_end0
      exact ⟨⟨_, rfl⟩, .inl ⟨_, rfl, hJs⟩⟩

theorem back_in (F : Fence) (n : Nat) (hf : F.fn 85) (hro : F.round = none) (a : Option Addr) (len cap : Nat) (w : World) :
    CallsIn F n Tryz.prog 85 #[.slice a len cap] w fun e w' => e = .returned (.func (.func 134) #[] #[.pointer (some ⟨w.heap.size, 0, none⟩)]) ∧ w' = w.alloc (.cells #[.slice a len cap] 22) := by
  refine callsIn_of_wp Tryz.func85 rfl hf ?_ hro
  simp only [Tryz.ntmps85, List.size_toArray, List.length_cons, List.length_nil, Nat.reduceAdd, Nat.reduceSub, Array.replicate_succ, Array.replicate_zero, List.push_toArray, List.append_toArray, List.nil_append, List.cons_append]
  gi_wp2
  go_ret
  exact ⟨rfl, rfl⟩
theorem back_stops (F : Fence) (n : Nat) (hf : F.fn 134) (hro : F.round = none) (hn : 1 ≤ n) (Bs n₀ : Nat) (A : Option Addr) (cap : Nat) (zs : List ClsT) (hl : zs.length ≤ 100000) (w : World) (hn₀ : n₀ ≤ w.heap.size)
    (hBs : Bx w Bs #[.slice A zs.length cap] 22) (b off : Nat) (hb : 0 < zs.length → b < n₀) (hA : 0 < zs.length → A = some ⟨b, off, none⟩) (hc : ∀ j, j < zs.length → At5 w b (off + j * 5) (zs.getD j noC)) :
    SeqStopsK F n Tryz.prog 134 #[.pointer (some ⟨Bs, 0, none⟩)] (fun x : Nat => #[Value.int .i64 (x : Int), (zs.getD x noC).V]) (Keep2 n₀ Bs) (fun ys => ys = bk zs.length zs.length) (fun _ => True) zs.length w := fun l J Jx W hW _ _ hY h0 => by
  refine (back1_in F n hf hro hn l Bs n₀ b off zs.length cap A zs hl hb hA J Jx hY W (hBs.after hW) (fun j hj => (hc j hj).ext hW (by have := hb (by omega); omega)) h0).mono ?_
  rintro e W' ⟨he, ⟨ys, rfl, hj⟩ | ⟨pre, ⟨k, hk, rfl⟩, hj⟩⟩
  · exact ⟨he, .inl ⟨_, rfl, hj⟩⟩
  · exact ⟨he, .inr ⟨_, trivial, hj⟩⟩

theorem bx_keptN {W W' : World} {row : Option Nat} {b : Nat} {C : Array Value} {t : TypeId} (h : Bx W b C t) (hg : W.grownBy W' row) (hr : ∀ r, row = some r → ∃ o : Obj, W.heap[r]? = some o ∧ o.isCells = false) : Bx W' b C t := by
  refine (hg.block b h.lt (fun e => ?_)).trans h
  obtain ⟨o, ho, hc⟩ := hr b e.symm
  have h2 : W.heap[b]? = some (.cells C t (0, 0)) := h
  rw [h2] at ho
  cases ho
  cases hc
theorem bx_fromN {β : Type} {B b : Nat} {C : β → Array Value} {t : TypeId} : OwnFrom B (fun (s : β) W => Bx W b (C s) t) := fun _ _ _ _ hs hg hr => bx_keptN hs hg (fun r e => (hr r e).2)
theorem keyOf_sN (c : T) (hc : c.length ≤ 140737488351232) : keyOf Tryz.prog 9 (.string ⟨c.toArray⟩) = some (.string c) := keyOf_s c hc

set_option maxRecDepth 100000 in
set_option maxHeartbeats 4000000 in
theorem named_in (F : Fence) (n : Nat) (h1 : F.fn 29) (h2 : F.fn 85) (h3 : F.fn 134) (hro : F.round = none) (hn : 3 ≤ n) (A : Option Addr) (cap : Nat) (zs : List ClsT) (hl : zs.length ≤ 100000) (hlt : ∀ x ∈ zs, x.name.length ≤ 140737488351232) (w : World) (hr : Rds w A (zs.flatMap valsC)) :
    CallsIn F n Tryz.prog 29 #[.slice A zs.length cap] w fun e w' => ∃ mb m, e = .returned (.map (some mb)) ∧ MapC w' mb m (fun q => zs.find? (named q)) ∧ m = zs.length ∧ w.heap.size ≤ mb ∧ Below w.heap.size w w' := by
  have hn1 : 1 ≤ n := by omega
  obtain ⟨b, off, hb, hA, hc⟩ : ∃ b off, (0 < zs.length → b < w.heap.size) ∧ (0 < zs.length → A = some ⟨b, off, none⟩) ∧ ∀ j, j < zs.length → At5 w b (off + j * 5) (zs.getD j noC) := by
    by_cases h0 : 0 < zs.length
    · obtain ⟨b, o, e, hb, _⟩ := cls_at hr h0
      refine ⟨b, o, fun _ => hb, fun _ => e, fun j hj => ?_⟩
      obtain ⟨b', o', e', _, hc0, hc1, hc2, hc3, hc4⟩ := cls_at hr hj
      rw [e] at e'
      cases e'
      rw [List.getD_eq_getElem?_getD, List.getElem?_eq_getElem hj]
      exact ⟨hc0, hc1, hc2, hc3, hc4⟩
    · exact ⟨0, 0, fun h => absurd h h0, fun h => absurd h h0, fun j hj => absurd hj (by omega)⟩
  have hnm : ∀ x : Nat, (zs.getD x noC).name.length ≤ 140737488351232 := fun x => by
    rw [List.getD_eq_getElem?_getD]
    cases e : zs[x]? with
    | none => simp [noC]
    | some y => exact hlt y (List.mem_of_getElem? e)
  have hmm := @run_makeMap Tryz.prog
  refine callsIn_of_wp_marks Tryz.func29 rfl h1 ?_ hro
  simp only [Tryz.ntmps29, List.size_toArray, List.length_cons, List.length_nil, Nat.reduceAdd, Nat.reduceSub, Array.replicate_succ, Array.replicate_zero, List.push_toArray, List.append_toArray, List.nil_append, List.cons_append]
  gi_wp2_with (gi_at_call 85; refine (back_in F (n - 1) h2 hro _ _ _ _).mono ?_; rintro e w' ⟨rfl, rfl⟩)
  have hB0 : Below w.heap.size w (((w.alloc (.map #[] 0)).alloc (.cells #[.map (some w.heap.size)] 89)).alloc (.cells #[.slice A zs.length cap] 22)) := (((Below.refl _ w).alloc (Nat.le_refl _) _).alloc (by simp) _).alloc (by simp; omega) _
  have bM := Bx.new (w.alloc (.map #[] 0)) #[.map (some w.heap.size)] 89
  have bL := Bx.new ((w.alloc (.map #[] 0)).alloc (.cells #[.map (some w.heap.size)] 89)) #[.slice A zs.length cap] 22
  simp only [World.size_alloc] at bM bL
  refine wpIn_rangeFunc_ownH hro hn1 (gf := 134) (lb := #[.pointer (some ⟨w.heap.size + 1 + 1, 0, none⟩)]) rfl h3 (enters_of Tryz.func134 (by kernel_rfl) rfl)
    (back_stops F (n - 1) h3 hro (by omega) (w.heap.size + 1 + 1) w.heap.size A cap zs hl _ (by simp; omega) bL b off hb hA (fun j hj => (hc j hj).ext hB0 (hb (by omega)))) keep2_t (keep2_b (by simp; omega) (by simp)) (Below.refl _ _) (fun _ => rfl)
    (fun (pre : List Nat) W => (MapC W w.heap.size pre.length (fpre zs pre) ∧ Bx W (w.heap.size + 1) #[.map (some w.heap.size)] 89 ∧ Bx W (w.heap.size + 1 + 1) #[.slice A zs.length cap] 22) ∧ Below w.heap.size w W)
    (fun _ _ _ => False)
    (OwnFrom.and (OwnFrom.and (fun s X Y row hs hg hr => hs.block (hg.block _ hs.lt (fun e => by have := (hr _ e.symm).1; simp at this; omega))) (OwnFrom.and bx_fromN bx_fromN)) (ownFrom_below (Nat.le_refl _) (by simp; omega)))
    (fun _ _ _ _ _ hs _ _ => hs)
    ⟨⟨((mapC_made w).ext ((Below.refl _ _).alloc (Nat.le_refl _) _)).ext ((Below.refl _ _).alloc (Nat.le_refl _) _), TabZ.bx_al bM _, bL⟩, hB0⟩
    (fun (x : Nat) a' W => ∃ cb, a' = { tmps := #[.slice A zs.length cap, undef, .map none, .pointer (some ⟨w.heap.size + 1, 0, none⟩), undef, .pointer (some ⟨cb, 0, none⟩), .map (some w.heap.size), .slice A zs.length cap, .func (.func 134) #[] #[.pointer (some ⟨w.heap.size + 1 + 1, 0, none⟩)], .int .i64 (x : Int), (zs.getD x noC).V, undef, undef, undef, undef, undef], defers := [] } ∧ Bx W cb #[.string ⟨(zs.getD x noC).name.toArray⟩, .string ⟨(zs.getD x noC).sup.toArray⟩, .slice (zs.getD x noC).kA (zs.getD x noC).km (zs.getD x noC).kc, .slice (zs.getD x noC).fA (zs.getD x noC).fm (zs.getD x noC).fc, .slice (zs.getD x noC).mA (zs.getD x noC).mm (zs.getD x noC).mc] 43)
    (fun x a' _ W W' row ⟨cb, e, hcb⟩ hg hr => ⟨cb, e, bx_keptN hcb hg (fun r e => (hr r e).2)⟩) ?assign ?body ?done ?stop
  case assign =>
    intro l pre x W K hi hK
    simp only [ClsT.V]
    gi_wp2
    refine hK _ _ ((KeepsOthers.alloc _ _).from _) ⟨(Below.refl _ _).alloc hi.2.size _, Below.heap_alloc _ _ _ hi.1.2.2.lt⟩ ⟨⟨hi.1.1.ext ((Below.refl _ _).alloc (Nat.le_refl _) _), TabZ.bx_al hi.1.2.1 _, TabZ.bx_al hi.1.2.2 _⟩, hi.2.alloc hi.2.size _⟩ ⟨_, rfl, Bx.new _ _ _⟩
  case body =>
    rintro l pre x a' W hl2 hlr ⟨⟨⟨D, ho, hD, hall⟩, hm, hL⟩, hB⟩ ⟨cb, rfl, hcb⟩ hlt
    have HN := Lib.hid (fpre_next zs pre x)
    have hkey := keyOf_sN (zs.getD x noC).name (hnm x)
    have e0 := hm.cell 0
    have c0 := hcb.cell 0
    have c1 := hcb.cell 1
    have c2 := hcb.cell 2
    have c3 := hcb.cell 3
    have c4 := hcb.cell 4
    have HP := Lib.hid (fun W' h => mapC_put (w' := W') (b := w.heap.size) (n := pre.length) hD hall (zs.getD x noC).name (zs.getD x noC) h)
    obtain ⟨es, ck, hh, _⟩ := id ho
    generalize zs.getD x noC = y at *
    simp only [ClsT.V] at *
    gi_wp2_with (gi_at_mapUpdate; refine wpListIn_mapUpdate_own _ rfl _ _ _ 89 rfl 9 43 keyS Tryz.underlying89 RV w.heap.size pre.length D rfl ho (by unfold maxLen; omega) _ _ _ rfl rfl hkey (.held (.agg #[.string ⟨y.name.toArray⟩, .string ⟨y.sup.toArray⟩, .slice y.kA y.km y.kc, .slice y.fA y.fm y.fc, .slice y.mA y.mm y.mc])) [] rfl ?_; intro w1 hown1 hgrow1)
    refine ⟨KeepsFrom.of_grownBy hgrow1 (fun j e => by cases e; simp; omega), ⟨(Below.refl _ W).grown hgrow1 hB.size (fun k e => by cases e; exact Nat.le_refl _), hgrow1.block _ hL.lt (fun e => by have := Option.some.inj e; omega)⟩, ⟨?_, bx_keptN hm hgrow1 (fun r e => by cases e; exact ⟨_, hh, rfl⟩), bx_keptN hL hgrow1 (fun r e => by cases e; exact ⟨_, hh, rfl⟩)⟩, hB.grown hgrow1 hB.size (fun k e => by cases e; exact Nat.le_refl _)⟩
    have h2 := HP.out w1 hown1
    rw [HN.out] at h2
    rw [List.length_append]
    exact h2
  case done =>
    rintro D ys W hD rfl ⟨⟨hM, hm, _⟩, hB⟩ hK
    have e0 := hm.cell 0
    gi_wp2
    refine ⟨by simp, .inl ⟨_, _, rfl, run_takeDeferred hK, ?_⟩⟩
    rw [bk_length, fpre_all] at hM
    exact ⟨_, results_tmp rfl _ _ _, w.heap.size, zs.length, rfl, hM.block (World.putObj_heap_other (by simp at hD; omega)), rfl, Nat.le_refl _, hB.trans (belowK_b (w := w) (Nat.le_refl _) W D _ _ (by simp at hD; omega) hK rfl rfl)⟩
  case stop =>
    rintro D c pre W _ _ h _
    exact h.elim
theorem named_any (A : Option Addr) (cap : Nat) (zs : List ClsT) (hl : zs.length ≤ 100000) (hlt : ∀ x ∈ zs, x.name.length ≤ 140737488351232) (w : World) (hr : Rds w A (zs.flatMap valsC)) :
    Calls Tryz.prog 29 #[.slice A zs.length cap] w fun e w' => ∃ mb m, e = .returned (.map (some mb)) ∧ MapC w' mb m (fun q => zs.find? (named q)) ∧ m = zs.length ∧ w.heap.size ≤ mb ∧ Below w.heap.size w w' :=
  (callsIn_wide (n := 3)).1 (named_in Fence.wide 3 trivial trivial trivial rfl (Nat.le_refl _) A cap zs hl hlt w hr)
end DlN
end Go.Proofs.YtiagjnimafdbhaaGreatDoor
