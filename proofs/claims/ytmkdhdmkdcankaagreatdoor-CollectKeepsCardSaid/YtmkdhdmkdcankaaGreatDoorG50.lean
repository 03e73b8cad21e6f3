/-
  What can be come to is closed; with more roots there is not less of it: plain facts.
-/
import Derived.Test.YtmkdhdmkdcankaaGreatDoorG36
namespace Go.Proofs.YtmkdhdmkdcankaaGreatDoor
namespace ClG
open Go.RowKit Base BinM HpM HpA HpB HpG HpT ClM ClL ClV

theorem come_all {A : List Int} : ∀ {xs out o : List Int}, come A out xs = some o → ∀ x ∈ xs, x = 0 ∨ x ∈ o
  | [], _, _, _, x, hx => by cases hx
  | y :: ys, out, o, e, x, hx => by
    rw [come] at e
    rcases List.mem_cons.1 hx with rfl | hx
    · split at e
      · rename_i h
        exact h.imp id (fun hm => (come_prefix e).subset hm)
      · split at e
        · exact .inr ((come_prefix e).subset (by simp))
        · cases e
    · split at e
      · exact come_all e x hx
      · split at e
        · exact come_all e x hx
        · cases e
theorem reachF_closed {ts : List Th} : ∀ (k i : Nat) (out o : List Int), reachF ts k i out = (0, o) → o.length < i + k → ∀ j (hj : j < o.length), i ≤ j → ∃ t ps, thAt ts o[j] = some t ∧ refsE t = some ps ∧ ∀ v ∈ wordsE t ps, v = 0 ∨ v ∈ o
  | 0, i, out, o, e, h, j, hj, hi => by omega
  | k + 1, i, out, o, e, h, j, hj, hi => by
    rw [reachF] at e
    split at e
    · rename_i hn
      injection e with _ e
      subst e
      rw [List.getElem?_eq_none_iff] at hn
      omega
    · rename_i x hx
      split at e
      · injection e with e _; cases e
      · rename_i t ht
        split at e
        · injection e with e _; cases e
        · rename_i ps hp
          split at e
          · injection e with e _; cases e
          · rename_i o2 hc
            by_cases hij : i = j
            · subst hij
              have h3 := reachF_prefix k (i + 1) o2 o e
              have h2 : out <+: o := (come_prefix hc).trans h3
              obtain ⟨hl, rfl⟩ := List.getElem?_eq_some_iff.1 hx
              refine ⟨t, ps, ?_, hp, fun v hv => (come_all hc v hv).imp id (fun hm => h3.subset hm)⟩
              rw [← ht]
              congr 1
              exact (h2.getElem hl).symm
            · exact reachF_closed k (i + 1) o2 o e (by omega) j hj (by omega)
/-- what can be come to holds its roots, and what its things hold -/
theorem reachE_closed {ts : List Th} {roots o : List Int} (h : reachE ts roots = (0, o)) : (∀ x ∈ roots, x = 0 ∨ x ∈ o) ∧ ∀ x ∈ o, ∃ t ps, thAt ts x = some t ∧ refsE t = some ps ∧ ∀ v ∈ wordsE t ps, v = 0 ∨ v ∈ o := by
  have hg := reachE_good h
  have hl := hg.len
  rw [adr_len] at hl
  unfold reachE at h
  split at h
  · injection h with h _; cases h
  · rename_i o1 hc
    have hp := reachF_prefix _ _ _ _ h
    refine ⟨fun x hx => (come_all hc x hx).imp id (fun hm => hp.subset hm), fun x hx => ?_⟩
    obtain ⟨j, hj, rfl⟩ := List.mem_iff_getElem.1 hx
    exact reachF_closed (ts.length + 1) 0 _ o h (by omega) j hj (Nat.zero_le _)
theorem come_in {A O : List Int} (hO : O ⊆ A) : ∀ {xs out : List Int}, (∀ x ∈ xs, x = 0 ∨ x ∈ O) → out ⊆ O → ∃ o, come A out xs = some o ∧ o ⊆ O
  | [], out, _, ho => ⟨out, rfl, ho⟩
  | x :: xs, out, hx, ho => by
    have hxs : ∀ y ∈ xs, y = 0 ∨ y ∈ O := fun y hy => hx y (List.mem_cons_of_mem _ hy)
    rw [come]
    by_cases h1 : x = 0 ∨ x ∈ out
    · rw [if_pos h1]
      exact come_in hO hxs ho
    · rw [if_neg h1]
      have hxO : x ∈ O := by
        rcases hx x List.mem_cons_self with h | h
        · exact absurd (.inl h) h1
        · exact h
      rw [if_pos (hO hxO)]
      refine come_in hO hxs ?_
      intro y hy
      rcases List.mem_append.1 hy with hy | hy
      · exact ho hy
      · rw [List.mem_singleton] at hy; subst hy; exact hxO
theorem reachF_in {ts : List Th} {O : List Int} (hO : O ⊆ adr 0 ts) (hc : ∀ x ∈ O, ∃ t ps, thAt ts x = some t ∧ refsE t = some ps ∧ ∀ v ∈ wordsE t ps, v = 0 ∨ v ∈ O) : ∀ (k i : Nat) (out : List Int), out ⊆ O → ∃ o, reachF ts k i out = (0, o) ∧ o ⊆ O
  | 0, i, out, ho => ⟨out, rfl, ho⟩
  | k + 1, i, out, ho => by
    rw [reachF]
    cases hx : out[i]? with
    | none => exact ⟨out, rfl, ho⟩
    | some x =>
      obtain ⟨hl, hxx⟩ := List.getElem?_eq_some_iff.1 hx
      obtain ⟨t, ps, h1, h2, h3⟩ := hc x (ho (by rw [← hxx]; exact List.getElem_mem hl))
      obtain ⟨o2, h4, h5⟩ := come_in hO h3 ho
      simp only [h1, h2, h4]
      exact reachF_in hO hc k (i + 1) o2 h5
theorem sum_sub (f : Int → Nat) : ∀ {o O : List Int}, o.Nodup → o ⊆ O → (o.map f).sum ≤ (O.map f).sum
  | [], _, _, _ => Nat.zero_le _
  | x :: t, O, hn, hs => by
    obtain ⟨p, q, rfl⟩ := List.append_of_mem (hs List.mem_cons_self)
    rw [List.nodup_cons] at hn
    have ht : t ⊆ p ++ q := fun y hy => by
      have h := hs (List.mem_cons_of_mem _ hy)
      have hne : y ≠ x := fun e => hn.1 (e ▸ hy)
      rcases List.mem_append.1 h with h | h
      · exact List.mem_append_left _ h
      · rcases List.mem_cons.1 h with h | h
        · exact absurd h hne
        · exact List.mem_append_right _ h
    have ih := sum_sub f hn.2 ht
    simp only [List.map_append, List.map_cons, List.sum_append, List.sum_cons] at ih ⊢
    omega
/-- with more roots: no error that was not there, and not fewer words -/
theorem live_more (ts : List Th) (a b : List Int) (hb : (liveE ts (a ++ b)).2 = 0) : (liveE ts a).2 = 0 ∧ (liveE ts a).1 ≤ (liveE ts (a ++ b)).1 := by
  unfold liveE at hb ⊢
  cases hE : reachE ts (a ++ b) with
  | mk e O =>
    rw [hE] at hb
    simp only at hb ⊢
    by_cases he : e = 0
    · subst he
      have hg := reachE_good hE
      obtain ⟨hr, hc⟩ := reachE_closed hE
      have hsub : O ⊆ adr 0 ts := hg.sub
      obtain ⟨o1, h1, h2⟩ := come_in hsub (xs := a) (out := []) (fun x hx => hr x (List.mem_append_left _ hx)) (by intro y hy; cases hy)
      obtain ⟨o, h3, h4⟩ := reachF_in hsub hc (ts.length + 1) 0 o1 h2
      have hA : reachE ts a = (0, o) := by unfold reachE; rw [h1]; exact h3
      rw [hA]
      simp only [if_true]
      refine ⟨trivial, ?_⟩
      have := sum_sub (fun x => 1 + ((thAt ts x).map (fun t => t.W.length)).getD 0) (reachE_good hA).nodup h4
      unfold sumW
      omega
    · rw [if_neg he] at hb
      exact absurd hb he
end ClG
end Go.Proofs.YtmkdhdmkdcankaaGreatDoor
