/-
  Pairs of names that came in, opened.
-/
import Derived.Test.YtilakpbgpdbchaaDoorOpenG
import Derived.Test.YtilakpbgpdbchaaDoorHierG
namespace Go.Proofs.YtilakpbgpdbchaaDoor
namespace OpenH
open Go.RowKit Go.ChangeShapes Go.WideShapes Go.Deep Base Stru Opened OpenS OpenG HierS HierT HierG

def prLt (x : P2) : Prop := x.1.length ≤ 140737488351232 ∧ x.2.length ≤ 140737488351232
section
variable {H : Type} {enc : TypeId × Value → H} {w : World}
abbrev Tr (enc : TypeId × Value → H) (w : World) (n : Nat) (t : TypeId) (cs : List Value) (d : DataW H) (p : List MemPlace) : Prop := DataW.trod enc Tryd.prog w 0 (fun _ => true) true n t cs = some (d, p)

set_option maxRecDepth 100000 in
theorem open_pr {n : Nat} {cs : List Value} {d : DataW H} {p : List MemPlace} (h : Tr enc w n 70 cs d p) (hl : Light Tryd.prog 70 d) : ∃ x : P2, cs = pv x ∧ prLt x := by
  have ce : Tryd.prog.cellsOf 70 = 2 := by kernel_rfl
  obtain ⟨hcl, hf⟩ := field_of Tryd.underlying70 h hl
  rw [ce] at hcl
  obtain ⟨n0, y0, q0, t0, l0⟩ := hf 0 { name := "Name", type := 9, offset := 0, embedded := false, tag := "", pkgPath := "", byteOffset := 0 } rfl
  dsimp only at t0 l0
  rw [show Tryd.prog.cellsOf 9 = 1 by kernel_rfl] at t0
  obtain ⟨n1, y1, q1, t1, l1⟩ := hf 1 { name := "Super", type := 9, offset := 1, embedded := false, tag := "", pkgPath := "", byteOffset := 16 } rfl
  dsimp only at t1 l1
  rw [show Tryd.prog.cellsOf 9 = 1 by kernel_rfl] at t1
  match cs, hcl with
  | [x0, x1], _ =>
    obtain ⟨s0, rfl, b0⟩ := leaf_text Tryd.underlying9 t0 l0
    obtain ⟨s1, rfl, b1⟩ := leaf_text Tryd.underlying9 t1 l1
    exact ⟨(s0, s1), rfl, b0, b1⟩
instance : Inhabited P2 := ⟨([], [])⟩
theorem open_prs {n : Nat} {cs : List Value} {d : DataW H} {p : List MemPlace} (h : Tr enc w n 22 cs d p) (hl : Light Tryd.prog 22 d) :
    ∃ (A : Option Addr) (m c : Nat) (l : List P2), cs = [.slice A m c] ∧ m = l.length ∧ m ≤ c ∧ c ≤ maxLen ∧ Rds w A (l.flatMap pv) ∧ ∀ x ∈ l, prLt x :=
  open_list (k := 2) Tryd.underlying22 (by kernel_rfl) (by omega) pv prLt (fun _ => rfl) (fun _ _ _ _ h hl => open_pr h hl) h hl
end
end OpenH
end Go.Proofs.YtilakpbgpdbchaaDoor
