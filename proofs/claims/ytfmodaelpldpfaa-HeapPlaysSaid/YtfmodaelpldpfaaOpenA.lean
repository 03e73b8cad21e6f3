/-
  Acts on a heap that came in, opened.
-/
import Derived.Test.YtfmodaelpldpfaaOpenG
namespace Go.Proofs.Ytfmodaelpldpfaa
namespace OpenA
open Go.RowKit Go.ChangeShapes Go.WideShapes Go.Deep Base Stru Opened OpenS OpenG

structure ActT where
  kind : Int
  id : Int
  n : Int
  s : List UInt8
  at_ : Int
  v : Int
  which : Bool
def actV (x : ActT) : List Value := [.int .i64 x.kind, .int .i64 x.id, .int .i64 x.n, .string ⟨x.s.toArray⟩, .int .i64 x.at_, .int .i64 x.v, .bool x.which]
def actOk (x : ActT) : Prop := fitI x.kind ∧ fitI x.id ∧ fitI x.n ∧ x.s.length ≤ 140737488351232 ∧ fitI x.at_ ∧ fitI x.v
section
variable {H : Type} {enc : TypeId × Value → H} {w : World}
abbrev Tr (enc : TypeId × Value → H) (w : World) (n : Nat) (t : TypeId) (cs : List Value) (d : DataW H) (p : List MemPlace) : Prop := DataW.trod enc Try.prog w 0 (fun _ => true) true n t cs = some (d, p)

set_option maxRecDepth 100000 in
theorem open_act {n : Nat} {cs : List Value} {d : DataW H} {p : List MemPlace} (h : Tr enc w n 32 cs d p) (hl : Light Try.prog 32 d) : ∃ x : ActT, cs = actV x ∧ actOk x := by
  have ce : Try.prog.cellsOf 32 = 7 := by kernel_rfl
  obtain ⟨hcl, hf⟩ := field_of Try.underlying32 h hl
  rw [ce] at hcl
  obtain ⟨n0, y0, q0, t0, l0⟩ := hf 0 { name := "Kind", type := 3, offset := 0, embedded := false, tag := "", pkgPath := "", byteOffset := 0 } rfl
  dsimp only at t0 l0
  rw [show Try.prog.cellsOf 3 = 1 by kernel_rfl] at t0
  obtain ⟨n1, y1, q1, t1, l1⟩ := hf 1 { name := "Id", type := 3, offset := 1, embedded := false, tag := "", pkgPath := "", byteOffset := 8 } rfl
  dsimp only at t1 l1
  rw [show Try.prog.cellsOf 3 = 1 by kernel_rfl] at t1
  obtain ⟨n2, y2, q2, t2, l2⟩ := hf 2 { name := "N", type := 3, offset := 2, embedded := false, tag := "", pkgPath := "", byteOffset := 16 } rfl
  dsimp only at t2 l2
  rw [show Try.prog.cellsOf 3 = 1 by kernel_rfl] at t2
  obtain ⟨n3, y3, q3, t3, l3⟩ := hf 3 { name := "S", type := 9, offset := 3, embedded := false, tag := "", pkgPath := "", byteOffset := 24 } rfl
  dsimp only at t3 l3
  rw [show Try.prog.cellsOf 9 = 1 by kernel_rfl] at t3
  obtain ⟨n4, y4, q4, t4, l4⟩ := hf 4 { name := "At", type := 2, offset := 4, embedded := false, tag := "", pkgPath := "", byteOffset := 40 } rfl
  dsimp only at t4 l4
  rw [show Try.prog.cellsOf 2 = 1 by kernel_rfl] at t4
  obtain ⟨n5, y5, q5, t5, l5⟩ := hf 5 { name := "V", type := 2, offset := 5, embedded := false, tag := "", pkgPath := "", byteOffset := 48 } rfl
  dsimp only at t5 l5
  rw [show Try.prog.cellsOf 2 = 1 by kernel_rfl] at t5
  obtain ⟨n6, y6, q6, t6, l6⟩ := hf 6 { name := "Which", type := 4, offset := 6, embedded := false, tag := "", pkgPath := "", byteOffset := 56 } rfl
  dsimp only at t6 l6
  rw [show Try.prog.cellsOf 4 = 1 by kernel_rfl] at t6
  match cs, hcl with
  | [x0, x1, x2, x3, x4, x5, x6], _ =>
    obtain ⟨z0, rfl, b0⟩ := leaf_int Try.underlying3 t0
    obtain ⟨z1, rfl, b1⟩ := leaf_int Try.underlying3 t1
    obtain ⟨z2, rfl, b2⟩ := leaf_int Try.underlying3 t2
    obtain ⟨s3, rfl, b3⟩ := leaf_text Try.underlying9 t3 l3
    obtain ⟨z4, rfl, b4⟩ := leaf_int Try.underlying2 t4
    obtain ⟨z5, rfl, b5⟩ := leaf_int Try.underlying2 t5
    obtain ⟨z6, rfl⟩ := leaf_bool Try.underlying4 t6
    exact ⟨⟨z0, z1, z2, s3, z4, z5, z6⟩, rfl, b0, b1, b2, b3, b4, b5⟩
instance : Inhabited ActT := ⟨⟨0, 0, 0, [], 0, 0, false⟩⟩
theorem open_acts {n : Nat} {cs : List Value} {d : DataW H} {p : List MemPlace} (h : Tr enc w n 22 cs d p) (hl : Light Try.prog 22 d) :
    ∃ (A : Option Addr) (m c : Nat) (l : List ActT), cs = [.slice A m c] ∧ m = l.length ∧ m ≤ c ∧ c ≤ maxLen ∧ Rds w A (l.flatMap actV) ∧ ∀ x ∈ l, actOk x :=
  open_list (k := 7) Try.underlying22 (by kernel_rfl) (by omega) actV actOk (fun _ => rfl) (fun _ _ _ _ h hl => open_act h hl) h hl
end

/-- an act of a list, in memory -/
theorem act_at {w : World} {A : Option Addr} {l : List ActT} (h : Rds w A (l.flatMap actV)) {j : Nat} (hj : j < l.length) : ∃ b o, A = some ⟨b, o, none⟩ ∧ b < w.heap.size ∧
    w.cell? ⟨b, o + j * 7, none⟩ = some (.int .i64 l[j].kind) ∧ w.cell? ⟨b, o + j * 7 + 1, none⟩ = some (.int .i64 l[j].id) ∧ w.cell? ⟨b, o + j * 7 + 2, none⟩ = some (.int .i64 l[j].n) ∧ w.cell? ⟨b, o + j * 7 + 3, none⟩ = some (.string ⟨l[j].s.toArray⟩) ∧
    w.cell? ⟨b, o + j * 7 + 4, none⟩ = some (.int .i64 l[j].at_) ∧ w.cell? ⟨b, o + j * 7 + 5, none⟩ = some (.int .i64 l[j].v) ∧ w.cell? ⟨b, o + j * 7 + 6, none⟩ = some (.bool l[j].which) := by
  have hn : ∀ x : ActT, (actV x).length = 7 := fun _ => rfl
  have hl := flat_len actV 7 hn l
  have hx : ∀ (i : Nat) (hi : i < 7), ∃ b o, A = some ⟨b, o, none⟩ ∧ b < w.heap.size ∧ w.cell? ⟨b, o + (j * 7 + i), none⟩ = (actV l[j])[i]? := fun i hi => by
    have hlt : j * 7 + i < (l.flatMap actV).length := by rw [hl]; omega
    obtain ⟨b, o, h1, h2, h3⟩ := h.at_ (k := j * 7 + i) hlt
    refine ⟨b, o, h1, h2, ?_⟩
    rw [h3, ← List.getElem?_eq_getElem hlt, flat_get actV 7 hn l j i hj hi]
  obtain ⟨b, o, rfl, hb, c0⟩ := hx 0 (by omega)
  refine ⟨b, o, rfl, hb, c0, ?_⟩
  have g : ∀ i, i < 7 → w.cell? ⟨b, o + j * 7 + i, none⟩ = (actV l[j])[i]? := fun i hi => by
    obtain ⟨b', o', e, _, c⟩ := hx i hi
    injection e with e
    injection e with e1 e2
    subst e1
    subst e2
    rw [Nat.add_assoc]
    exact c
  exact ⟨g 1 (by omega), g 2 (by omega), g 3 (by omega), g 4 (by omega), g 5 (by omega), g 6 (by omega)⟩
end OpenA
end Go.Proofs.Ytfmodaelpldpfaa
