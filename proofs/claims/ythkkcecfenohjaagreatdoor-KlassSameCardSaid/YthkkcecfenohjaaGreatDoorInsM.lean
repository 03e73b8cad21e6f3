/-
  Plain facts on instructions: names, kinds, and what a search for a name gives: no program is loaded here.
-/
import Derived.Below
namespace Go.Proofs.YthkkcecfenohjaaGreatDoor
namespace InsM

/-- name and kind of each instruction, by number -/
def rowsL : List (List UInt8 × Int) := [([110, 111, 112], 0), ([105, 110, 116], 1), ([115, 116, 114], 2), ([116, 114, 117, 101], 0), ([102, 97, 108, 115, 101], 0), ([110, 117, 108, 108], 0), ([108, 111, 97, 100], 6), ([115, 116, 111, 114, 101], 6), ([112, 111, 112], 0), ([100, 117, 112], 0), ([97, 100, 100], 0), ([115, 117, 98], 0), ([109, 117, 108], 0), ([100, 105, 118], 0), ([114, 101, 109], 0), ([110, 101, 103], 0), ([110, 111, 116], 0), ([108, 116], 0), ([108, 101], 0), ([101, 113, 105], 0), ([101, 113, 98], 0), ([101, 113, 114], 0), ([106, 117, 109, 112], 7), ([106, 117, 109, 112, 116], 7), ([106, 117, 109, 112, 102], 7), ([110, 101, 119], 3), ([103, 101, 116, 102], 4), ([112, 117, 116, 102], 4), ([97, 114, 114], 3), ([97, 108, 111, 97, 100], 0), ([97, 115, 116, 111, 114, 101], 0), ([97, 108, 101, 110], 0), ([99, 97, 108, 108], 5), ([114, 101, 116], 0), ([114, 101, 116, 118], 0), ([116, 104, 114, 111, 119], 0), ([101, 110, 116, 101, 114], 0), ([101, 120, 105, 116], 0), ([99, 97, 115, 116], 3), ([105, 115], 3), ([112, 114, 105, 110, 116], 0), ([114, 101, 97, 100], 0), ([106, 111, 105, 110], 0), ([115, 108, 101, 110], 0), ([115, 112, 97, 119, 110], 0), ([111, 108, 100], 4)]
def nameN (k : Nat) : List UInt8 := (rowsL.getD k ([], -1)).1
def kindN (k : Nat) : Int := (rowsL.getD k ([], -1)).2
def kindI (op : Int) : Int := if 0 ≤ op ∧ op < 46 then kindN op.toNat else -1
def nameI (op : Int) : List UInt8 := if 0 ≤ op ∧ op < 46 then nameN op.toNat else []
/-- which instruction has a name -/
def findI (s : List UInt8) : Int := match (List.range 46).find? (fun k => nameN k == s) with
  | some k => (k : Int)
  | none => -1

theorem kind_out {op : Int} (h : ¬ (0 ≤ op ∧ op < 46)) : kindI op = -1 := by unfold kindI; rw [if_neg h]
theorem kind_in {k : Nat} (h : k < 46) : kindI (k : Int) = kindN k := by unfold kindI; rw [if_pos (by omega)]; simp
theorem name_out {op : Int} (h : ¬ (0 ≤ op ∧ op < 46)) : nameI op = [] := by unfold nameI; rw [if_neg h]
theorem name_in {k : Nat} (h : k < 46) : nameI (k : Int) = nameN k := by unfold nameI; rw [if_pos (by omega)]; simp

theorem find_none {s : List UInt8} (h : ∀ j, j < 46 → nameN j ≠ s) : findI s = -1 := by
  unfold findI
  have : (List.range 46).find? (fun k => nameN k == s) = none := by
    rw [List.find?_eq_none]
    intro k hk
    have := h k (List.mem_range.1 hk)
    simpa using this
  rw [this]
theorem find_range {s : List UInt8} {k : Nat} : ∀ n, k < n → (∀ j, j < k → nameN j ≠ s) → nameN k = s → (List.range n).find? (fun k => nameN k == s) = some k := by
  intro n hn hb hk
  rw [List.find?_eq_some_iff_getElem]
  refine ⟨by simpa using hk, k, by simpa using hn, by simp, ?_⟩
  intro j hj
  simpa using hb j hj
theorem find_at {s : List UInt8} {k : Nat} (hk : k < 46) (hb : ∀ j, j < k → nameN j ≠ s) (h : nameN k = s) : findI s = (k : Int) := by
  unfold findI
  rw [find_range 46 hk hb h]

theorem kindN_range : ∀ k, k < 46 → 0 ≤ kindN k ∧ kindN k ≤ 7 := by decide
theorem kind_range (op : Int) : -1 ≤ kindI op ∧ kindI op ≤ 7 := by
  unfold kindI
  split
  · rename_i h
    have := kindN_range op.toNat (by omega)
    omega
  · omega
theorem kind_neg {op : Int} : kindI op = -1 ↔ ¬ (0 ≤ op ∧ op < 46) := by
  constructor
  · intro h hc
    have := kindN_range op.toNat (by omega)
    unfold kindI at h
    rw [if_pos hc] at h
    omega
  · exact kind_out
theorem name_ne : ∀ k, k < 46 → nameN k ≠ [] := by decide
/-- the kinds, as a switch has them -/
theorem kinds_listed : ∀ k, k < 46 → (k = 1 ∨ k = 2 ∨ k = 25 ∨ k = 28 ∨ k = 38 ∨ k = 39 ∨ k = 26 ∨ k = 27 ∨ k = 45 ∨ k = 32 ∨ k = 6 ∨ k = 7 ∨ k = 22 ∨ k = 23 ∨ k = 24) ∨ kindN k = 0 := by decide
theorem kind_other {op : Int} (h : 0 ≤ op ∧ op < 46) (h1 : op ≠ 1) (h2 : op ≠ 2) (h25 : op ≠ 25) (h28 : op ≠ 28) (h38 : op ≠ 38) (h39 : op ≠ 39) (h26 : op ≠ 26) (h27 : op ≠ 27) (h45 : op ≠ 45) (h32 : op ≠ 32) (h6 : op ≠ 6) (h7 : op ≠ 7) (h22 : op ≠ 22) (h23 : op ≠ 23) (h24 : op ≠ 24) : kindI op = 0 := by
  have := kinds_listed op.toNat (by omega)
  unfold kindI
  rw [if_pos h]
  rcases this with h' | h'
  · omega
  · exact h'

end InsM
end Go.Proofs.YthkkcecfenohjaaGreatDoor
