/-
  Texts that came in, as lists of bytes.
-/
import Derived.Test.YtegcahgjilebbaaDoorDescK
import Derived.Test.YtegcahgjilebbaaDoorBaseMore
namespace Go.Proofs.YtegcahgjilebbaaDoor
namespace DescL
open Go.RowKit BinM DescM DescW DescG Base

theorem bulk_mem {l : List ByteArray} {s : ByteArray} (h : s ∈ l) : s.size + 1 ≤ textBulk l := by
  induction l with
  | nil => cases h
  | cons a t ih =>
    simp only [textBulk, List.map_cons, List.sum_cons]
    rcases List.mem_cons.1 h with rfl | h
    · omega
    · have := ih h
      unfold textBulk at this
      omega

/-- texts that came in -/
theorem texts_in {w : World} {A : Option Addr} {m c : Nat} {l : List ByteArray} (h : IsStrs w A m c l) (hb : textBulk l ≤ 1048576) :
    ∃ ts : List (List UInt8), m = ts.length ∧ m ≤ c ∧ m ≤ maxLen ∧ Rds w A (ts.map str) ∧ ∀ t ∈ ts, t.length ≤ 1048576 := by
  refine ⟨l.map (fun s => s.data.toList), by rw [List.length_map]; exact h.len, h.le, Nat.le_trans h.le h.max, ?_, ?_⟩
  · have e : (l.map (fun s => s.data.toList)).map str = l.map Value.string := by
      rw [List.map_map]
      apply List.map_congr_left
      intro s _
      show Value.string (ByteArray.mk s.data.toList.toArray) = Value.string s
      rw [Lib.mk_data]
    rw [e]
    exact h.rds
  · intro t ht
    obtain ⟨s, hs, rfl⟩ := List.mem_map.1 ht
    have := bulk_mem hs
    have e : s.data.toList.length = s.size := by rw [Array.length_toList]; rfl
    omega

theorem texts_in2 {w : World} {A : Option Addr} {m c : Nat} {l : List ByteArray} (h : IsStrs w A m c l) (hb : ∀ s ∈ l, s.size ≤ 140737488351232) :
    ∃ ts : List (List UInt8), m = ts.length ∧ m ≤ c ∧ m ≤ maxLen ∧ Rds w A (ts.map str) ∧ ∀ t ∈ ts, t.length ≤ 140737488351232 := by
  refine ⟨l.map (fun s => s.data.toList), by rw [List.length_map]; exact h.len, h.le, Nat.le_trans h.le h.max, ?_, ?_⟩
  · have e : (l.map (fun s => s.data.toList)).map str = l.map Value.string := by
      rw [List.map_map]
      apply List.map_congr_left
      intro s _
      show Value.string (ByteArray.mk s.data.toList.toArray) = Value.string s
      rw [Lib.mk_data]
    rw [e]
    exact h.rds
  · intro t ht
    obtain ⟨s, hs, rfl⟩ := List.mem_map.1 ht
    have := hb s hs
    have e : s.data.toList.length = s.size := by rw [Array.length_toList]; rfl
    omega

end DescL
end Go.Proofs.YtegcahgjilebbaaDoor
