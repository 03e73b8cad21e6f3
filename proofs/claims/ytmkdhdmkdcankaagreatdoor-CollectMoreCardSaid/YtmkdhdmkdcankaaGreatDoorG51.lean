/-
  Numbers that came in, opened; what a call's arguments weigh.
-/
import Derived.Test.YtmkdhdmkdcankaaGreatDoorRows
import Derived.Test.YtmkdhdmkdcankaaGreatDoorG1
import Derived.Test.YtmkdhdmkdcankaaGreatDoorG17
import Derived.ProofKit
import Derived.SizedLaws
import Derived.SliceStrings
namespace Go.Proofs.YtmkdhdmkdcankaaGreatDoor
namespace Opened
open Go.RowKit Go.ChangeShapes Base

def Places {H : Type} (d : DataW H) (c : Nat) : Prop := (d = .nil ∧ c = 0) ∨ ∃ el sp, d = .slice el sp ∧ el.length + sp.length = c

section
variable {H : Type} {enc : TypeId × Value → H} {P : Program} {w : World}
theorem rds_of_cells {x : Addr} {f : Nat → Value} {n : Nat} {xs : List Value} (hx : xs.length ≤ n) (h : ∀ i, i < n → w.cell? (x.add i) = some (f i)) (hf : ∀ i (hi : i < xs.length), xs[i] = f i) : Rds w (some x) xs := by
  rcases Nat.eq_zero_or_pos xs.length with h0 | h0
  · exact .inl (List.eq_nil_of_length_eq_zero h0)
  · obtain ⟨b, o, spot⟩ := x
    have hc := h 0 (by omega)
    have hs : spot = none := by simpa [Addr.add] using World.cell?_spot hc
    subst hs
    have hc' : w.cell? ⟨b, o, none⟩ = some (f 0) := by simpa [Addr.add] using hc
    refine .inr ⟨b, o, rfl, World.block_lt_of_cell? w ⟨b, o, none⟩ hc', fun j u hu => ?_⟩
    obtain ⟨hj, rfl⟩ := List.getElem?_eq_some_iff.1 hu
    have := h j (by omega)
    rw [Addr.add_mid] at this
    rw [this, hf j hj]

theorem open_nums {t e : TypeId} {fuel : Nat} {A : Option Addr} {m c : Nat} {d : DataW H} {p : List MemPlace} (ht : P.underlying t = some (.slice e)) (he : P.underlying e = some (.int .i64)) (hc : P.cellsOf e = 1)
    (h : DataW.trod enc P w 0 (fun _ => true) true fuel t (Value.slice A m c).cells.toList = some (d, p)) :
    ∃ l, IsInts w A m c l ∧ Places d c := by
  rcases open_ints ht he hc h with ⟨hcs, hd⟩ | ⟨x, len, cap, zs, hcs, _, hl, hm, hz, hd, hcell, hwf⟩
  · simp [Value.cells] at hcs
    obtain ⟨rfl, rfl, rfl⟩ := hcs
    injection hd with hd
    exact ⟨[], ⟨rfl, Nat.le_refl _, by simp [maxLen], .inl rfl, by simp⟩, .inl ⟨hd, rfl⟩⟩
  · simp [Value.cells] at hcs
    obtain ⟨rfl, rfl, rfl⟩ := hcs
    injection hd with hd
    simp only [if_true] at hz
    refine ⟨zs.take m, ⟨by simp; omega, hl, hm, ?_, fun x hx => ?_⟩, .inr ⟨_, _, hd, by simp [lits]; omega⟩⟩
    · refine rds_of_cells (n := zs.length) (f := fun i => .int .i64 (zs.getD i 0)) (by simp; omega) hcell (fun i hi => ?_)
      have hi' : i < zs.length := by simp at hi; omega
      simp only [List.getElem_map, List.getElem_take]
      rw [List.getD_eq_getElem?_getD, List.getElem?_eq_getElem hi', Option.getD_some]
    · have := hwf x (List.mem_of_mem_take hx)
      simp [Lit.wf, IntKind.min, IntKind.max, IntKind.bits, IntKind.signed] at this
      omega

theorem reach_slice {ts : List TypeId} {ds : List (DataW H)} (h : (DataW.weightsEach P ts ds).all (· ≤ reachBytes) = true) {j : Nat} {t e : TypeId} {d : DataW H} {c : Nat} (ht : ts[j]? = some t) (hd : ds[j]? = some d)
    (hp : Places d c) (hu : P.underlying t = some (.slice e)) {k : Nat} (hk : P.bytesOf e = k) : c * k ≤ 140737488351232 := by
  rcases hp with ⟨_, rfl⟩ | ⟨el, sp, rfl, rfl⟩
  · simp
  · have := sized_slice h ht hd hu
    rw [hk] at this
    simpa [reachBytes] using this


end
end Opened
namespace OpenG
open Go.RowKit Go.ChangeShapes Go.WideShapes Go.Deep Base Stru Opened OpenS
section
variable {H : Type} {P : Program}
theorem Light.of_each {ts : List TypeId} {ds : List (DataW H)} (h : (DataW.weightsEach P ts ds).all (· ≤ reachBytes) = true) {j : Nat} {t : TypeId} {d : DataW H} (ht : ts[j]? = some t) (hd : ds[j]? = some d) : Light P t d :=
  fun q hq => of_decide_eq_true (List.all_eq_true.1 h _ (DataW.weights_mem_each ht hd q hq))
end
end OpenG
end Go.Proofs.YtmkdhdmkdcankaaGreatDoor
