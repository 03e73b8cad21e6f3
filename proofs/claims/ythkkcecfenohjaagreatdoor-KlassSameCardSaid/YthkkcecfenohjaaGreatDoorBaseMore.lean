/-
  More words for arguments that came in: slices of numbers, and of texts.
-/
import Derived.Test.YthkkcecfenohjaaGreatDoorBase
namespace Go.Proofs.YthkkcecfenohjaaGreatDoor
namespace Base
open Go.RowKit

/-- a slice of numbers of 64 bits that came in -/
structure IsInts (w : World) (A : Option Addr) (m c : Nat) (l : List Int) : Prop where
  len : m = l.length
  le : m ≤ c
  max : c ≤ maxLen
  rds : Rds w A (l.map (Value.int .i64))
  fit : ∀ x ∈ l, -9223372036854775808 ≤ x ∧ x ≤ 9223372036854775807

/-- a slice of texts that came in -/
structure IsStrs (w : World) (A : Option Addr) (m c : Nat) (l : List ByteArray) : Prop where
  len : m = l.length
  le : m ≤ c
  max : c ≤ maxLen
  rds : Rds w A (l.map Value.string)

/-- how many texts, and letters in them -/
def textBulk (l : List ByteArray) : Nat := (l.map fun s => s.size + 1).sum

end Base
end Go.Proofs.YthkkcecfenohjaaGreatDoor
