/-
  What lies in memory while hier.New works: facts, no walk.
-/
import Derived.Test.YtilakpbgpdbchaaDoorHierN
namespace Go.Proofs.YtilakpbgpdbchaaDoor
namespace HierV
open Go.RowKit BinM Base Stru DescM DescW DescX HierS HierT HierM HierN

theorem why_size {ps : List P2} (h : 32 < ps.length) : whyT ps = ([], 6) := by unfold whyT; rw [if_pos h]
theorem why_twice {ps : List P2} {c : T} (h : ps.length ≤ 32) (ht : twice [objN] (full ps) = some c) : whyT ps = (c, 8) := by unfold whyT; rw [if_neg (by omega), ht]
theorem why_sup {ps : List P2} {c : T} (h : ps.length ≤ 32) (ht : twice [objN] (full ps) = none) (hs : noSup (nms (full ps)) (full ps) = some c) : whyT ps = (c, 9) := by unfold whyT; rw [if_neg (by omega), ht]; simp only; rw [hs]
theorem why_loop {ps : List P2} {c : T} (h : ps.length ≤ 32) (ht : twice [objN] (full ps) = none) (hs : noSup (nms (full ps)) (full ps) = none) (hl : inLoop (mk ps) (full ps) = some c) : whyT ps = (c, 14) := by unfold whyT; rw [if_neg (by omega), ht]; simp only; rw [hs]; simp only; rw [hl]
theorem why_ok {ps : List P2} (h : ps.length ≤ 32) (ht : twice [objN] (full ps) = none) (hs : noSup (nms (full ps)) (full ps) = none) (hl : inLoop (mk ps) (full ps) = none) : whyT ps = ([], 0) := by unfold whyT; rw [if_neg (by omega), ht]; simp only; rw [hs]; simp only; rw [hl]

/-- what New hands back -/
def GivesH (ps : List P2) (w : World) (e : Ending) (w' : World) : Prop :=
  Below w.heap.size w w' ∧ (((whyT ps).2 = 0 ∧ ∃ g, e = .returned (.tuple #[.pointer (some ⟨g, 0, none⟩), .string ⟨#[]⟩, .int .i64 0]) ∧ IsH w'.heap.size w' g (mk ps)) ∨
    ((whyT ps).2 ≠ 0 ∧ e = .returned (.tuple #[.pointer none, .string ⟨(whyT ps).1.toArray⟩, .int .i64 (whyT ps).2])))
theorem givesH_no {ps : List P2} {w w' : World} {c : T} {n : Int} (h : whyT ps = (c, n)) (hn : n ≠ 0) (hb : Below w.heap.size w w') : GivesH ps w (.returned (.tuple #[.pointer none, .string ⟨c.toArray⟩, .int .i64 n])) w' :=
  ⟨hb, .inr ⟨by rw [h]; exact hn, by rw [h]⟩⟩
theorem givesH_yes {ps : List P2} {w w' : World} {g : Nat} (h : whyT ps = ([], 0)) (hb : Below w.heap.size w w') (H : IsH w'.heap.size w' g (mk ps)) : GivesH ps w (.returned (.tuple #[.pointer (some ⟨g, 0, none⟩), .string ⟨#[]⟩, .int .i64 0])) w' :=
  ⟨hb, .inl ⟨by rw [h], g, rfl, H⟩⟩

theorem own_same {w w' : World} {base : Nat} {e : TypeId} {size n : Nat} {v : Value} {xs : List Value} (h : w.ownsRow base e size v n xs) (hb : ∀ k, v.ownBlock = some k → w'.heap[k]? = w.heap[k]?) : w'.ownsRow base e size v n xs := by
  obtain ⟨h1, h2⟩ := h
  refine ⟨h1, ?_⟩
  rcases h2 with h2 | ⟨g, cap, cur, rfl, b, c, d⟩
  · exact .inl h2
  · exact .inr ⟨g, cap, cur, rfl, b, (hb g rfl).trans c, d⟩

/-- a map from names to places, of at most n entries -/
def MapN (w : World) (b n : Nat) (f : T → Option Nat) : Prop :=
  ∃ D : DW, w.ownsMap Tryd.prog 9 (plainElem Tryd.prog 3) b n D ∧ Maps.IsMap D ∧
    ∀ c, (f c = none → Maps.has D (.string c) = false) ∧ (∀ i : Nat, f c = some i → Maps.has D (.string c) = true ∧ D.atKey (.string c) (.lit (.int .i64 0)) = .lit (.int .i64 (i : Int)))
theorem MapN.is {w : World} {b n : Nat} {f : T → Option Nat} (h : MapN w b n f) (hn : n ≤ 100000) : MapIs w b f := by
  obtain ⟨D, h1, h2⟩ := h
  exact ⟨n, D, hn, h1, h2⟩
theorem MapN.block {w w' : World} {b n : Nat} {f : T → Option Nat} (h : MapN w b n f) (hb : w'.heap[b]? = w.heap[b]?) : MapN w' b n f := by
  obtain ⟨D, h1, h2⟩ := h
  exact ⟨D, ownsMap_block h1 hb, h2⟩
/-- the hierarchy so far, the classes' row, the map -/
structure Mk (w wr : World) (F : List CE) (lb q : Nat) (ns : List T) (f : T → Option Nat) : Prop where
  row : ∃ A c, wr.heap[w.heap.size + 2]? = some (.cells #[.slice A ns.length c, .map (some (w.heap.size + 1))] 66 (0, 0)) ∧ OwnT wr w.heap.size (.slice A ns.length c) ns ∧ (∀ a, A = some a → a.block ≠ w.heap.size + 2 ∧ a.block ≠ w.heap.size + 1 ∧ a.block ≠ lb)
  map : MapN wr (w.heap.size + 1) q f
  lst : Rds wr (some ⟨lb, 0, none⟩) (F.flatMap CE.vals)
  lo : w.heap.size + 2 < lb
  hi : lb < wr.heap.size
  bel : Below w.heap.size w wr
theorem rds_block {w w' : World} {b : Nat} {xs : List Value} (h : Rds w (some ⟨b, 0, none⟩) xs) (hs : w.heap.size ≤ w'.heap.size) (hb : w'.heap[b]? = w.heap[b]?) : Rds w' (some ⟨b, 0, none⟩) xs := by
  rcases h with h | ⟨b', o, hA, hlt, hc⟩
  · exact .inl h
  · cases hA
    refine .inr ⟨b, 0, rfl, Nat.lt_of_lt_of_le hlt hs, fun j u hu => ?_⟩
    rw [← hc j u hu]
    unfold World.cell?
    rw [hb]
theorem Mk.ext {w wr w' : World} {F : List CE} {lb q : Nat} {ns : List T} {f : T → Option Nat} (h : Mk w wr F lb q ns f) (hb : Below wr.heap.size wr w') : Mk w w' F lb q ns f := by
  obtain ⟨⟨A, c, h1, h2, h3⟩, h4, h5, h6, h7, h8⟩ := h
  have hs := hb.size
  exact ⟨⟨A, c, (hb.block _ (by omega)).trans h1, own_same h2 (fun k hk => hb.block k (h2.lt k hk).2), h3⟩, h4.block (hb.block _ (by omega)), rds_block h5 hs (hb.block _ h7), h6, by omega, h8.trans (hb.mono h8.size)⟩
theorem Mk.isH {w wr : World} {F : List CE} {lb q : Nat} {ns : List T} {f : T → Option Nat} (h : Mk w wr F lb q ns f) (inn : ∀ c i, f c = some i → i < ns.length) (few : ns.length ≤ 41) (long : ∀ c ∈ ns, c.length ≤ 140737488355000) (hq : q ≤ 100000) : IsH wr.heap.size wr (w.heap.size + 2) ⟨ns, f⟩ := by
  obtain ⟨⟨A, c, h1, h2, h3⟩, h4, h5, h6, h7, h8⟩ := h
  obtain ⟨A', c', e, k1, k2, k3, k4⟩ := h2.slice
  cases e
  exact ⟨⟨A, _, c, _, h1, rfl, k1, k2, k3, fun a ha => (k4 a ha).2, by omega, h4.is hq⟩, by show w.heap.size + 2 < wr.heap.size; omega, inn, few, long⟩
/-- one name more, stored -/
theorem Mk.app {w wr w1 : World} {F : List CE} {lb q : Nat} {ns : List T} {f : T → Option Nat} {A : Option Addr} {c gg cap : Nat} {x : T} (h : Mk w wr F lb q ns f) (hA : wr.heap[w.heap.size + 2]? = some (.cells #[.slice A ns.length c, .map (some (w.heap.size + 1))] 66 (0, 0)))
    (hown : OwnT w1 w.heap.size (.slice (some ⟨gg, 0, none⟩) (ns ++ [x]).length cap) (ns ++ [x])) (hg : wr.grownBy w1 (Value.slice A ns.length c).ownBlock) (hat : (Value.slice A ns.length c).ownBlock = some gg ∨ wr.heap.size ≤ gg) :
    Mk w (w1.setCell ⟨w.heap.size + 2, 0, none⟩ (.slice (some ⟨gg, 0, none⟩) (ns ++ [x]).length cap)) F lb q (ns ++ [x]) f := by
  obtain ⟨⟨A', c', h1, h2, h3⟩, h4, h5, h6, h7, h8⟩ := h
  have e := h1.symm.trans hA
  injection e with e
  injection e with e
  have e1 : Value.slice A' ns.length c' = Value.slice A ns.length c := by injection e with e; injection e
  cases e1
  have hs := hg.size
  have hs8 := h8.size
  have hgn : gg ≠ w.heap.size + 2 ∧ gg ≠ w.heap.size + 1 ∧ gg ≠ lb := by
    rcases hat with hat | hat
    · cases A with
      | none => cases hat
      | some a =>
        have := h3 a rfl
        simp [Value.ownBlock] at hat
        omega
    · omega
  have hnb : ∀ k, (k = w.heap.size + 2 ∨ k = w.heap.size + 1 ∨ k = lb) → some k ≠ (Value.slice A ns.length c).ownBlock := by
    intro k hk e
    cases A with
    | none => cases e
    | some a =>
      have := h3 a rfl
      simp [Value.ownBlock] at e
      omega
  have b1 : w1.heap[w.heap.size + 1]? = wr.heap[w.heap.size + 1]? := hg.block _ (by omega) (hnb _ (.inr (.inl rfl)))
  have b2 : w1.heap[w.heap.size + 2]? = wr.heap[w.heap.size + 2]? := hg.block _ (by omega) (hnb _ (.inl rfl))
  have b3 : w1.heap[lb]? = wr.heap[lb]? := hg.block _ h7 (hnb _ (.inr (.inr rfl)))
  have hbel : Below w.heap.size w w1 := below_own h8 h2 (Nat.le_refl _) hs8 hg
  refine ⟨⟨some ⟨gg, 0, none⟩, cap, ?_, ?_, ?_⟩, ?_, ?_, h6, ?_, ?_⟩
  · have := heap_setCell_same w1 (w.heap.size + 2) 0 _ _ (.slice (some ⟨gg, 0, none⟩) (ns ++ [x]).length cap) (b2.trans h1)
    rw [this]; rfl
  · refine own_same hown (fun k hk => heap_setCell_other w1 _ k _ ?_)
    simp [Value.ownBlock] at hk
    show k ≠ w.heap.size + 2
    omega
  · intro a ha
    cases ha
    exact hgn
  · exact h4.block ((heap_setCell_other w1 _ _ _ (by show w.heap.size + 1 ≠ w.heap.size + 2; omega)).trans b1)
  · exact rds_block h5 (by simp; omega) ((heap_setCell_other w1 _ _ _ (by show lb ≠ w.heap.size + 2; omega)).trans b3)
  · simp; omega
  · exact hbel.setCell (by show w.heap.size ≤ w.heap.size + 2; omega) _
/-- the map written -/
theorem Mk.upd {w wr w1 : World} {F : List CE} {lb q : Nat} {ns : List T} {f f' : T → Option Nat} (h : Mk w wr F lb q ns f) (hg : wr.grownBy w1 (some (w.heap.size + 1))) {q' : Nat} (hm : MapN w1 (w.heap.size + 1) q' f') : Mk w w1 F lb q' ns f' := by
  obtain ⟨⟨A, c, h1, h2, h3⟩, h4, h5, h6, h7, h8⟩ := h
  have hs := hg.size
  have hs8 := h8.size
  refine ⟨⟨A, c, (hg.block _ (by omega) (by simp)).trans h1, own_same h2 (fun k hk => hg.block k (h2.lt k hk).2 ?_), h3⟩, hm, rds_block h5 hs (hg.block _ h7 (by simp; omega)), h6, by omega, h8.grown hg hs8 (fun k hk => by simp at hk; omega)⟩
  cases A with
  | none => cases hk
  | some a =>
    have := h3 a rfl
    simp [Value.ownBlock] at hk
    simp
    omega

theorem map_made (w : World) : MapN (w.alloc (.map #[] 0)) w.heap.size 0 (fun _ => none) := by
  refine ⟨.map [], World.ownsMap_made w _ _ _, Maps.isMap_empty, fun c => ⟨fun _ => rfl, fun i h => ?_⟩⟩
  cases h
/-- a store into the map -/
theorem map_put {w : World} {b n : Nat} {f : T → Option Nat} (h : MapN w b n f) (hn : n ≤ 90000) (c : T) (i : Nat) (hc : c.length ≤ 140737488355328) (hi : i ≤ 1000) :
    ∃ w', (Instr.mapUpdate 64 (.map (some b)) (.string ⟨c.toArray⟩) (.int .i64 (i : Int))).run Tryd.prog w = .ok () w' ∧ w.grownBy w' (some b) ∧ MapN w' b (n + 1) (fun c' => if c' = c then some i else f c') := by
  obtain ⟨D, hown, hD, hall⟩ := h
  have hkey : keyOf Tryd.prog 9 (.string ⟨c.toArray⟩) = some (.string c) := Go.WideMaps.keyOf_string_mk Tryd.underlying9 (s := ⟨c.toArray⟩) (by show c.length ≤ maxLen; unfold maxLen; omega)
  have hwf : (Lit.int .i64 (i : Int)).wf = true := by
    simp [Lit.wf, IntKind.min, IntKind.max, IntKind.bits, IntKind.signed]; omega
  obtain ⟨w', hrun, h1, h2⟩ := hown.update keyS Tryd.underlying64 (by unfold maxLen; omega) hkey (plainElem_int Tryd.underlying3 hwf)
  refine ⟨w', hrun, h2, _, h1, hD.put _ _, fun c' => ?_⟩
  simp only
  by_cases e : c' = c
  · subst e
    rw [if_pos rfl]
    refine ⟨fun h => ?_, fun j hj => ?_⟩
    · cases h
    · cases hj
      exact ⟨Maps.has_put_same hD (show WideAt.IsKeyLit (.string c') from True.intro) _, Maps.atKey_put_same hD (show WideAt.IsKeyLit (.string c') from True.intro) _ _⟩
  · rw [if_neg e]
    have hne : (Lit.string c') ≠ Lit.string c := by intro h; injection h with h; exact e h
    obtain ⟨k1, k2⟩ := hall c'
    refine ⟨fun h => ?_, fun j hj => ?_⟩
    · rw [Maps.has_put_other hne]; exact k1 h
    · rw [Maps.has_put_other hne, Maps.atKey_put_other hne]
      exact k2 j hj
theorem heap_second (w : World) (o : Obj) (cs : Array Value) (t : TypeId) : ((w.alloc o).alloc (.cells cs t)).drew.heap[w.heap.size + 1]? = some (.cells cs t (0, 0)) := by
  have := heap_alloc_new (w.alloc o) (.cells cs t)
  have e : (w.alloc o).heap.size = w.heap.size + 1 := by simp
  rw [e] at this
  exact this
/-- the world in which New's loops begin -/
def W0 (w : World) : World := ((w.alloc (.cells #[sv objN] 9)).alloc (.map #[] 0)).alloc (.cells #[.slice (some ⟨w.heap.size, 0, none⟩) 1 1, .map (some (w.heap.size + 1))] 66)
theorem W0_size (w : World) : (W0 w).heap.size = w.heap.size + 3 := by simp [W0]
theorem W0_below (w : World) : Below w.heap.size w (W0 w) := (((Below.refl _ _).alloc (Nat.le_refl _) _).alloc (by simp) _).alloc (by simp; omega) _
theorem Mk.start {w w2 w3 : World} {F C : List CE} {v2 : Value} {lb cap : Nat} (hb2 : Below (w.heap.size + 3) (W0 w) w2) (h2 : OwnC w2 (w.heap.size + 3) v2 C) (hg : w2.grownBy w3 v2.ownBlock) (h3 : OwnC w3 (w.heap.size + 3) (.slice (some ⟨lb, 0, none⟩) F.length cap) F) : Mk w w3 F lb 0 [objN] (fun _ => none) := by
  have hs0 := W0_size w
  have hs2 := hb2.size
  have hs3 := hg.size
  have hblk : ∀ k, k < w.heap.size + 3 → w3.heap[k]? = (W0 w).heap[k]? := fun k hk => (hg.block k (by omega) (fun e => by have := (h2.lt k e.symm).1; omega)).trans (hb2.block k hk)
  have k0 : (W0 w).heap[w.heap.size]? = (w.alloc (.cells #[sv objN] 9)).heap[w.heap.size]? := by
    unfold W0
    rw [Below.heap_alloc _ _ _ (by simp; omega), Below.heap_alloc _ _ _ (by simp)]
  have k1 : (W0 w).heap[w.heap.size + 1]? = ((w.alloc (.cells #[sv objN] 9)).alloc (.map #[] 0)).heap[w.heap.size + 1]? := by
    unfold W0
    rw [Below.heap_alloc _ _ _ (by simp)]
  have k2 : (W0 w).heap[w.heap.size + 2]? = some (.cells #[.slice (some ⟨w.heap.size, 0, none⟩) 1 1, .map (some (w.heap.size + 1))] 66 (0, 0)) := by
    have := heap_alloc_new ((w.alloc (.cells #[sv objN] 9)).alloc (.map #[] 0)) (.cells #[.slice (some ⟨w.heap.size, 0, none⟩) 1 1, .map (some (w.heap.size + 1))] 66)
    have e2 : ((w.alloc (.cells #[sv objN] 9)).alloc (.map #[] 0)).heap.size = w.heap.size + 2 := by simp
    rw [e2] at this
    exact this
  obtain ⟨lo, hi⟩ := h3.lt lb rfl
  refine ⟨⟨some ⟨w.heap.size, 0, none⟩, 1, (hblk _ (by omega)).trans k2, ?_, ?_⟩, ?_, ?_, by omega, hi, ?_⟩
  · exact own_same (OwnT.one w objN) (fun k hk => by simp [Value.ownBlock] at hk; subst hk; exact (hblk _ (by omega)).trans k0)
  · intro a ha
    cases ha
    exact ⟨by simp, by simp, by simp; omega⟩
  · have hm := map_made (w.alloc (.cells #[sv objN] 9))
    have e : (w.alloc (.cells #[sv objN] 9)).heap.size = w.heap.size + 1 := by simp
    rw [e] at hm
    exact hm.block ((hblk _ (by omega)).trans k1)
  · obtain ⟨A, c, e, _, _, hr, _⟩ := h3.slice
    cases e
    exact hr
  · exact (W0_below w).trans ((hb2.mono (by omega)).trans (below_own (Below.refl _ _) h2 (by omega) (by omega) hg))
end HierV
end Go.Proofs.YtilakpbgpdbchaaDoor
