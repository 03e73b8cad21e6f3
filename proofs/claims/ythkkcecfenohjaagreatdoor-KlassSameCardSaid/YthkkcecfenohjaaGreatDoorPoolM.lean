/-
  Plain facts on constants: which can be, their bytes, which classes they name.
-/
import Derived.Test.YthkkcecfenohjaaGreatDoorStru
import Derived.Test.YthkkcecfenohjaaGreatDoorDescQ
import Derived.Test.YthkkcecfenohjaaGreatDoorBinText
namespace Go.Proofs.YthkkcecfenohjaaGreatDoor
namespace PoolM
open Go.RowKit BinM BinE DescM DescP Stru BinText

/-- a constant with just what those of its kind have -/
def bareC (c : Cst) : Cst := if c.kind = 1 then ⟨c.kind, c.n, [], [], []⟩ else if c.kind = 2 ∨ c.kind = 3 then ⟨c.kind, 0, c.s, [], []⟩ else ⟨c.kind, 0, c.s, c.t, c.u⟩
/-- the part of the test behind it -/
def restC (c : Cst) : Bool :=
  if c.kind = 1 then true else if c.kind = 2 then decide (c.s.length ≤ 64) else if c.kind = 3 then rightB c.s
  else if c.kind = 4 then nameB c.s && nameB c.t && rightB c.u else if c.kind = 5 then nameB c.s && nameB c.t && ((splitT c.u).2.2 == 0) else false
def sameC (c d : Cst) : Bool := (c.kind == d.kind) && (c.n == d.n) && (c.s == d.s) && (c.t == d.t) && (c.u == d.u)
/-- whether a constant can be -/
def rightC (c : Cst) : Bool := sameC c (bareC c) && restC c

theorem same_iff (c d : Cst) : sameC c d = true ↔ c = d := by
  obtain ⟨a1, a2, a3, a4, a5⟩ := c
  obtain ⟨b1, b2, b3, b4, b5⟩ := d
  simp [sameC, and_assoc]
theorem same_refl (c : Cst) : sameC c c = true := (same_iff c c).2 rfl

end PoolM
end Go.Proofs.YthkkcecfenohjaaGreatDoor
