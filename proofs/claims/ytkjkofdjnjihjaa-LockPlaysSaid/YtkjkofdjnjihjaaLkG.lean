/-
  Which addresses can be put, and what is held then.
-/
import Derived.Test.YtkjkofdjnjihjaaLkS
namespace Go.Proofs.Ytkjkofdjnjihjaa
namespace LkG
open Go.RowKit Go.Shelf Base BinM LkM LkA LkB LkE LkR LkP LkS

/-- addresses that can be put -/
def GoodL (now : List Int) : Prop := (∀ x ∈ now, 1 ≤ x) ∧ now.Nodup
instance (now : List Int) : Decidable (GoodL now) := by unfold GoodL; exact inferInstance
def putL (hs : List Ho) (now : List Int) : List Ho := List.zipWith (fun h a => (⟨a, h.w, h.n⟩ : Ho)) hs now
/-- what Put answers, and what is held then -/
def putT (hs : List Ho) (now : List Int) : Int × List Ho := if now.length = hs.length ∧ GoodL now then (0, putL hs now) else (2, hs)
theorem putL_len {hs : List Ho} {now : List Int} (h : now.length = hs.length) : (putL hs now).length = hs.length := by
  unfold putL; rw [List.length_zipWith]; omega
theorem putL_at {hs : List Ho} {now : List Int} {j : Nat} (h1 : j < hs.length) (h2 : j < now.length) (h : j < (putL hs now).length) : (putL hs now)[j] = ⟨now[j], hs[j].w, hs[j].n⟩ := by
  simp only [putL, List.getElem_zipWith]
theorem putL_adr {hs : List Ho} {now : List Int} (h : now.length = hs.length) : (putL hs now).map Ho.a = now := by
  apply List.ext_getElem
  · rw [List.length_map, putL_len h, h]
  · intro i h1 h2
    rw [List.getElem_map, putL_at (by omega) h2]
theorem put_once {hs : List Ho} {now : List Int} (hO : Once hs) : Once (putT hs now).2 := by
  unfold putT
  split
  · rename_i h
    unfold Once
    simp only
    rw [putL_adr h.1]
    exact h.2.2
  · exact hO
theorem put_few {N : Nat} {hs : List Ho} (hF : Few N hs) (now : List Int) : Few N (putT hs now).2 := by
  unfold putT
  split
  · rename_i h
    refine ⟨by simp only; rw [putL_len h.1]; exact hF.1, fun x hx => ?_⟩
    obtain ⟨i, hi, rfl⟩ := List.getElem_of_mem hx
    have h1 : i < hs.length := by rw [putL_len h.1] at hi; exact hi
    rw [putL_at h1 (by omega)]
    exact hF.2 hs[i] (List.getElem_mem h1)
  · exact hF
theorem good_next {now : List Int} {j : Nat} (hj : j < now.length) (h : GoodL (now.take j)) (h1 : 1 ≤ now[j]) (h2 : ∀ m (_ : m < j) (hm : m < now.length), now[m] ≠ now[j]) : GoodL (now.take (j + 1)) := by
  rw [List.take_succ_eq_append_getElem hj]
  refine ⟨fun x hx => ?_, ?_⟩
  · rcases List.mem_append.1 hx with hx | hx
    · exact h.1 x hx
    · rw [List.mem_singleton] at hx; subst hx; exact h1
  · rw [List.nodup_append]
    refine ⟨h.2, by simp, fun a ha b hb => ?_⟩
    rw [List.mem_singleton] at hb
    subst hb
    obtain ⟨m, hm, rfl⟩ := List.getElem_of_mem ha
    rw [List.length_take] at hm
    rw [List.getElem_take]
    exact h2 m (by omega) (by omega)
theorem good_low {now : List Int} {j : Nat} (hj : j < now.length) (h1 : now[j] < 1) : ¬ GoodL now := fun h => by
  have := h.1 _ (List.getElem_mem hj); omega
theorem good_twice {now : List Int} {j m : Nat} (hj : j < now.length) (hm : m < j) (h1 : now[m] = now[j]) : ¬ GoodL now := fun h => by
  have := (List.nodup_iff_pairwise_ne.1 h.2)
  rw [List.pairwise_iff_getElem] at this
  exact this m j (by omega) hj hm h1
end LkG
end Go.Proofs.Ytkjkofdjnjihjaa
