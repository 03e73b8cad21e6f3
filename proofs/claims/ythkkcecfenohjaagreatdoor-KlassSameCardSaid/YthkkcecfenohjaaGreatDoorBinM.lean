/-
  Plain facts on names, on numbers as bytes, and on lists of bytes: no program is loaded here.
-/
import Derived.Below
namespace Go.Proofs.YthkkcecfenohjaaGreatDoor
namespace BinM

/-- a letter, as a number of a byte -/
def isLet (x : Int) : Bool := decide ((65 ≤ x ∧ x ≤ 90) ∨ (97 ≤ x ∧ x ≤ 122) ∨ x = 95)
def isDig (x : Int) : Bool := decide (48 ≤ x ∧ x ≤ 57)
/-- what a name's byte may be: a letter, or, not at the head, a digit -/
def okI (k : Nat) (x : Int) : Bool := isLet x || (decide (k ≠ 0) && isDig x)
def okB (k : Nat) (c : UInt8) : Bool := okI k (c.toNat : Int)
/-- all bytes of a text fit, the first of them standing at place k -/
def restB : Nat → List UInt8 → Bool
  | _, [] => true
  | k, c :: t => okB k c && restB (k + 1) t
def nameB (l : List UInt8) : Bool := decide (1 ≤ l.length) && decide (l.length ≤ 24) && restB 0 l

theorem restB_append (k : Nat) (a b : List UInt8) : restB k (a ++ b) = (restB k a && restB (k + a.length) b) := by
  induction a generalizing k with
  | nil => simp [restB]
  | cons c t ih => simp [restB, ih, Bool.and_assoc, Nat.add_assoc, Nat.add_comm 1]

theorem restB_take_succ (s : ByteArray) (k : Nat) (h : k < s.size) :
    restB 0 (s.data.toList.take (k + 1)) = (restB 0 (s.data.toList.take k) && okB k s[k]) := by
  rw [List.take_succ_eq_append_getElem (by simpa using h), restB_append]
  have hl : (s.data.toList.take k).length = k := by simp; have : s.data.size = s.size := rfl; omega
  rw [hl]
  simp [restB]
  rfl

theorem restB_false_at (s : ByteArray) (k : Nat) (h : k < s.size) (hk : okB k s[k] = false) : restB 0 s.data.toList = false := by
  have e : s.data.toList = s.data.toList.take (k + 1) ++ s.data.toList.drop (k + 1) := (List.take_append_drop _ _).symm
  rw [e, restB_append, restB_take_succ s k h, hk]
  simp

theorem nameB_false_at (s : ByteArray) (k : Nat) (h : k < s.size) (hk : okB k s[k] = false) : nameB s.data.toList = false := by
  unfold nameB; rw [restB_false_at s k h hk]; simp

theorem nameB_of (s : ByteArray) (h1 : 1 ≤ s.size) (h2 : s.size ≤ 24) (h : restB 0 s.data.toList = true) : nameB s.data.toList = true := by
  have hl : s.data.toList.length = s.size := by simp
  unfold nameB; rw [hl, h]; simp [h1, h2]

theorem nameB_short (s : ByteArray) (h : ¬ (1 ≤ s.size ∧ s.size ≤ 24)) : nameB s.data.toList = false := by
  have hl : s.data.toList.length = s.size := by simp
  unfold nameB; rw [hl]
  by_cases a : 1 ≤ s.size
  · have b : ¬ s.size ≤ 24 := fun b => h ⟨a, b⟩
    simp [b]
  · simp [a]

/-! numbers as bytes -/
/-- a number of 64 bits as one without a sign -/
def foldI (n : Int) : Int := if n < 0 then -2 * n - 1 else 2 * n
/-- the way back -/
def unfoldI (u : Int) : Int := if u % 2 = 1 then -(u / 2) - 1 else u / 2
/-- whether c can be the last byte of a number, with i bytes ahead of it -/
def lastI (c i : Int) : Bool := decide (¬ (0 < i ∧ c = 0) ∧ (i < 9 ∨ c ≤ 1))

end BinM
end Go.Proofs.YthkkcecfenohjaaGreatDoor
