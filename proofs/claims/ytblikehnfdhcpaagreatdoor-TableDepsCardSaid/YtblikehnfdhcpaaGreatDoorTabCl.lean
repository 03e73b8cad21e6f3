/-
  What a table hands out of its classes: Class.
-/
import Derived.Test.YtblikehnfdhcpaaGreatDoorTabI
import Derived.Test.YtblikehnfdhcpaaGreatDoorTabCs
namespace Go.Proofs.YtblikehnfdhcpaaGreatDoor
namespace TabCl
open Go.RowKit Base BinM Stru DescM DescW DescX DescS DescG DescP DescQ HierS HierT HierM HierC HierD HierN Kls KlsP KlsQ OpenK TabC TabM TabK TabP TabE TabB TabG TabH TabT TabU TabV TabX TabW TabN TabO TabY TabI TabCs

theorem kept_in (q : T) (L : List ClsT) : keptC q L = noC ∨ keptC q L ∈ L := by
  unfold keptC
  cases h : L.find? (named q) with
  | none => exact .inl rfl
  | some k => exact .inr (List.mem_of_find?_eq_some h)
theorem kept_is {L : List ClsT} {w : World} (h : ∀ x ∈ L, x.is w) (q : T) : (keptC q L).is w := by
  rcases kept_in q L with e | e
  · rw [e]; exact noC_is _
  · exact h _ e
theorem kept_short {L : List ClsT} (h : Short L) (q : T) : (keptC q L).consts.length ≤ 10000 ∧ (keptC q L).fields.length ≤ 10000 ∧ (keptC q L).meths.length ≤ 10000 ∧ ∀ z ∈ (keptC q L).meths, z.code.length ≤ 10000 ∧ z.hand.length ≤ 10000 := by
  rcases kept_in q L with e | e
  · rw [e]; simp [noC]
  · exact h _ e

end TabCl
end Go.Proofs.YtblikehnfdhcpaaGreatDoor
