/-
  What the class above has, a class has at the same place: by definition, no walk.
-/
import Derived.Test.YtgnajafkdbiiaaaDoorTabO
namespace Go.Proofs.YtgnajafkdbiiaaaDoor
namespace TabA
open Go.RowKit Base BinM Stru DescM DescW DescX DescS DescG DescP DescQ HierS HierT HierM HierC HierD HierN HierV Kls KlsP KlsQ OpenK TabC TabM TabK TabP TabE TabB TabG TabH TabT TabU TabV TabX TabW TabF TabN TabO TabY

theorem findE_first {p : EntT → Bool} : ∀ {l : List EntT} {j : Nat} (_ : findE p l = (j : Int)) (hj : j < l.length), p l[j] = true ∧ ∀ k (hk : k < j), p (l[k]'(by omega)) = false
  | [], _, _, hj => by simp at hj
  | x :: r, j, h, hj => by
    unfold findE at h
    by_cases hp : p x = true
    · rw [if_pos hp] at h
      have : j = 0 := by omega
      subst this
      exact ⟨hp, fun k hk => absurd hk (Nat.not_lt_zero k)⟩
    · rw [if_neg hp] at h
      by_cases h2 : findE p r = -1
      · rw [if_pos h2] at h; omega
      · rw [if_neg h2] at h
        cases j with
        | zero =>
          rcases findE_cases p r with e | ⟨k, _, e⟩
          · exact absurd e h2
          · omega
        | succ j =>
          obtain ⟨h3, h4⟩ := findE_first (p := p) (l := r) (j := j) (by omega) (by simpa using hj)
          refine ⟨h3, fun k hk => ?_⟩
          cases k with
          | zero => simpa using hp
          | succ k => exact h4 k (by omega)
/-- at each place of xs, l has the same name and the same signature -/
def Keepz (xs l : List EntT) : Prop := xs.length ≤ l.length ∧ ∀ i (hi : i < xs.length) (hl : i < l.length), l[i].name = xs[i].name ∧ l[i].sig = xs[i].sig
theorem keep_add {xs l : List EntT} {e : EntT} (h : Keepz xs l) (hov : ∀ o, xs.find? (nameE e.name) = some o → o.sig = e.sig) : Keepz xs (addM l e) := by
  obtain ⟨h1, h2⟩ := h
  rcases findE_cases (nameE e.name) l with hf | ⟨j, hj, hf⟩
  · rw [addM_none hf]
    refine ⟨by simp; omega, fun i hi hl => ?_⟩
    rw [List.getElem_append_left (by omega)]
    exact h2 i hi (by omega)
  · rw [addM_at hf]
    obtain ⟨q1, q2⟩ := findE_first hf hj
    refine ⟨by simpa using h1, fun i hi hl => ?_⟩
    rw [List.getElem_set]
    by_cases e1 : j = i
    · subst e1
      rw [if_pos rfl]
      have hn : l[j].name = e.name := by unfold nameE at q1; exact eq_of_beq q1
      refine ⟨by rw [← (h2 j hi hj).1, hn], ?_⟩
      refine (hov _ ?_).symm
      rw [List.find?_eq_some_iff_getElem]
      refine ⟨by unfold nameE; rw [← (h2 j hi hj).1, hn]; simp, j, hi, rfl, fun k hk => ?_⟩
      have := q2 k hk
      unfold nameE at this ⊢
      rw [← (h2 k (by omega) (by omega)).1, this]; rfl
    · rw [if_neg e1]
      exact h2 i hi (by simpa using hl)
theorem keep_below (cn : T) {xs : List EntT} : ∀ {ms : List MthT} {l : List EntT}, Keepz xs l → (∀ m ∈ ms, overB xs m = false) → Keepz xs (ms.foldl (fun l m => addM l (ownM cn m)) l)
  | [], _, h, _ => h
  | m :: r, l, h, ho => by
    rw [List.foldl_cons]
    refine keep_below cn (keep_add h (fun o hf => ?_)) (fun x hx => ho x (by simp [hx]))
    have h1 := ho m (by simp)
    unfold overB at h1
    have hf' : xs.find? (nameE m.name) = some o := hf
    rw [hf'] at h1
    simp only [Option.elim, bne_eq_false_iff_eq] at h1
    exact h1
theorem badC_zero {e : ClsT → Int} {l : List ClsT} (h : (badC e l).2 = 0) : ∀ x ∈ l, e x = 0 := by
  induction l with
  | nil => simp
  | cons a r ih =>
    unfold badC at h
    by_cases ha : e a ≠ 0
    · rw [if_pos ha] at h; exact absurd h ha
    · rw [if_neg ha] at h
      intro x hx
      rcases List.mem_cons.1 hx with rfl | hx
      · exact Classical.byContradiction ha
      · exact ih h x hx
theorem why_zero {L : List ClsT} (h : (whyC L).2 = 0) : (whyT (pairs L)).2 = 0 ∧ (∀ x ∈ L, clsE x = 0) ∧ ∀ x ∈ L, fitE (mk (pairs L)) L x = 0 := by
  unfold whyC at h
  split at h
  · rename_i h1; exact absurd h h1
  · rename_i h1
    split at h
    · rename_i h2; exact absurd h h2
    · rename_i h2
      exact ⟨Classical.byContradiction h1, badC_zero (Classical.byContradiction h2), badC_zero h⟩
theorem fit_over {h : Hr} {L : List ClsT} {x : ClsT} (hz : fitE h L x = 0) : ∀ m ∈ x.meths, overB (hav L x.sup).2 m = false := by
  unfold fitE at hz
  split at hz
  · rename_i h1; exact absurd hz h1
  · split at hz
    · omega
    · split at hz
      · rename_i h3; exact absurd hz h3
      · rename_i h3
        have h3' := firstI_zero (Classical.byContradiction h3)
        intro m hm
        obtain ⟨i, hi, rfl⟩ := List.getElem_of_mem hm
        have := h3' i hi
        unfold fmE at this
        split at this
        · omega
        · split at this
          · omega
          · rename_i h5
            simpa using h5
theorem alw_up : ∀ p ∈ alw, p.2 = objN ∨ ∃ q ∈ alw, q.1 = p.2 := by decide
/-- what the class above has -/
theorem above {L : List ClsT} (hz : (whyC L).2 = 0) {c s : T} (hu : (mk (pairs L)).up c = some s) : (∃ r, (hav L c).1 = (hav L s).1 ++ r) ∧ Keepz (hav L s).2 (hav L c).2 := by
  obtain ⟨hT, hC, hF⟩ := why_zero hz
  cases hf : L.find? (named c) with
  | some k =>
    have e : s = k.sup := by
      have := (up_kept hT hf).symm.trans hu
      injection this with this
      exact this.symm
    subst e
    obtain ⟨hk, hn⟩ := named_of hf
    obtain ⟨l, hw, hl⟩ := TabV.ways hT hk
    rw [hn] at hw
    rw [hav_some (fun d k hf => up_kept hT hf) hw hl hf]
    exact ⟨⟨_, rfl⟩, keep_below k.name ⟨Nat.le_refl _, fun i hi hl => ⟨rfl, rfl⟩⟩ (fit_over (hF k hk))⟩
  | none =>
    have hs : L.find? (named s) = none := by
      cases hk : L.find? (named s) with
      | none => rfl
      | some k =>
        obtain ⟨hkm, hkn⟩ := named_of hk
        obtain ⟨h1, h2⟩ := alw_not hT hkm
        exfalso
        have hu' : ((abv (full (pairs L)) c).bind fun i => (nms (full (pairs L)))[i]?) = some s := hu
        unfold abv at hu'
        cases hfa : (full (pairs L)).find? (fun p => p.1 == c) with
        | none => rw [hfa] at hu'; cases hu'
        | some p =>
          rw [hfa] at hu'
          have hpm := List.mem_of_find?_eq_some hfa
          have hpc := List.find?_some hfa
          obtain ⟨_, _, h3⟩ := why_parts hT
          have hin := noSup_in _ _ h3 p hpm
          have hu2 : (nms (full (pairs L)))[(nms (full (pairs L))).idxOf p.2]? = some s := hu'
          rw [idx_get hin] at hu2
          injection hu2 with hu2
          have hpa : p ∈ alw := by
            unfold full at hpm
            rcases List.mem_append.1 hpm with hp | hp
            · exact hp
            · exfalso
              obtain ⟨x, hx, rfl⟩ := List.mem_map.1 hp
              rw [List.find?_eq_none] at hf
              exact hf x hx (by unfold named; exact hpc)
          rcases alw_up p hpa with e | ⟨q, hq, e⟩
          · exact h2 (by rw [hkn, ← hu2, e])
          · exact h1 q hq (by rw [e, hu2, hkn])
    rw [hav_none hf, hav_none hs]
    exact ⟨⟨[], rfl⟩, Nat.le_refl _, fun i hi => absurd hi (Nat.not_lt_zero i)⟩
end TabA
end Go.Proofs.YtgnajafkdbiiaaaDoor
