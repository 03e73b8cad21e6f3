/-
  Calls on lists of holds that came in (law 16), opened.
-/
import Derived.Test.YtkjkofdjnjihjaaOpenG
namespace Go.Proofs.Ytkjkofdjnjihjaa
namespace OpenL
open Go.RowKit Go.ChangeShapes Go.WideShapes Go.Deep Base Stru Opened OpenS OpenG

abbrev Tr {H : Type} (enc : TypeId × Value → H) (w : World) (n : Nat) (t : TypeId) (cs : List Value) (d : DataW H) (p : List MemPlace) : Prop := DataW.trod enc Try.prog w 0 (fun _ => true) true n t cs = some (d, p)

structure ActT where
  kind : Int
  at_ : Int
  who : Int
  A : Option Addr
  c : Nat
  now : List Int
def actV (x : ActT) : List Value := [.int .i64 x.kind, .int .i64 x.at_, .int .i64 x.who, .slice x.A x.now.length x.c]
def actOk (w : World) (x : ActT) : Prop := fitI x.kind ∧ fitI x.at_ ∧ fitI x.who ∧ x.now.length ≤ x.c ∧ x.c ≤ maxLen ∧ Rds w x.A (x.now.map (Value.int .i64)) ∧ ∀ y ∈ x.now, fitI y
set_option maxRecDepth 100000 in
theorem open_act {H : Type} {enc : TypeId × Value → H} {w : World} {n : Nat} {cs : List Value} {d : DataW H} {p : List MemPlace} (h : Tr enc w n 31 cs d p) (hl : Light Try.prog 31 d) : ∃ x : ActT, cs = actV x ∧ actOk w x := by
  have ce : Try.prog.cellsOf 31 = 4 := by kernel_rfl
  obtain ⟨hcl, hf⟩ := field_of Try.underlying31 h hl
  rw [ce] at hcl
  obtain ⟨n0, y0, q0, t0, l0⟩ := hf 0 { name := "Kind", type := 3, offset := 0, embedded := false, tag := "", pkgPath := "", byteOffset := 0 } rfl
  dsimp only at t0 l0
  rw [show Try.prog.cellsOf 3 = 1 by kernel_rfl] at t0
  obtain ⟨n1, y1, q1, t1, l1⟩ := hf 1 { name := "At", type := 2, offset := 1, embedded := false, tag := "", pkgPath := "", byteOffset := 8 } rfl
  dsimp only at t1 l1
  rw [show Try.prog.cellsOf 2 = 1 by kernel_rfl] at t1
  obtain ⟨n2, y2, q2, t2, l2⟩ := hf 2 { name := "Who", type := 3, offset := 2, embedded := false, tag := "", pkgPath := "", byteOffset := 16 } rfl
  dsimp only at t2 l2
  rw [show Try.prog.cellsOf 3 = 1 by kernel_rfl] at t2
  obtain ⟨n3, y3, q3, t3, l3⟩ := hf 3 { name := "Now", type := 29, offset := 3, embedded := false, tag := "", pkgPath := "", byteOffset := 24 } rfl
  dsimp only at t3 l3
  rw [show Try.prog.cellsOf 29 = 1 by kernel_rfl] at t3
  match cs, hcl with
  | [x0, x1, x2, x3], _ =>
    obtain ⟨z0, rfl, b0⟩ := leaf_int Try.underlying3 t0
    obtain ⟨z1, rfl, b1⟩ := leaf_int Try.underlying2 t1
    obtain ⟨z2, rfl, b2⟩ := leaf_int Try.underlying3 t2
    obtain ⟨A, m, c, l, e, rfl, hmc, hcx, hr, hok⟩ := open_list (k := 1) Try.underlying29 (by kernel_rfl) (by omega) (fun x : Int => [Value.int .i64 x]) fitI (fun _ => rfl) (fun n cs d p h hl => by
      obtain ⟨z, e, _, f⟩ := DataW.trod_int Try.underlying2 h
      exact ⟨z, e, int_in f⟩) t3 l3
    have e3 : x3 = .slice A l.length c := (List.cons.inj e).1
    subst e3
    refine ⟨⟨z0, z1, z2, A, c, l⟩, rfl, b0, b1, b2, hmc, hcx, ?_, hok⟩
    have e4 : ∀ l : List Int, l.flatMap (fun x => [Value.int .i64 x]) = l.map (Value.int .i64) := fun l => by
      induction l with
      | nil => rfl
      | cons x t ih => rw [List.flatMap_cons, ih]; rfl
    rw [e4] at hr
    exact hr
instance : Inhabited ActT := ⟨⟨0, 0, 0, none, 0, []⟩⟩
theorem open_acts {H : Type} {enc : TypeId × Value → H} {w : World} {n : Nat} {cs : List Value} {d : DataW H} {p : List MemPlace} (h : Tr enc w n 22 cs d p) (hl : Light Try.prog 22 d) :
    ∃ (A : Option Addr) (m c : Nat) (l : List ActT), cs = [.slice A m c] ∧ m = l.length ∧ m ≤ c ∧ c ≤ maxLen ∧ Rds w A (l.flatMap actV) ∧ ∀ x ∈ l, actOk w x :=
  open_list (k := 4) Try.underlying22 (by kernel_rfl) (by omega) actV (actOk w) (fun _ => rfl) (fun _ _ _ _ h hl => open_act h hl) h hl
/-- one of a list, in memory -/
theorem act_at {w : World} {A : Option Addr} {l : List ActT} (h : Rds w A (l.flatMap actV)) {j : Nat} (hj : j < l.length) : ∃ b o, A = some ⟨b, o, none⟩ ∧ b < w.heap.size ∧ w.cell? ⟨b, o + j * 4, none⟩ = some (.int .i64 l[j].kind) ∧ w.cell? ⟨b, o + j * 4 + 1, none⟩ = some (.int .i64 l[j].at_) ∧ w.cell? ⟨b, o + j * 4 + 2, none⟩ = some (.int .i64 l[j].who) ∧ w.cell? ⟨b, o + j * 4 + 3, none⟩ = some (.slice l[j].A l[j].now.length l[j].c) := by
  obtain ⟨b, o, rfl, hb, hc⟩ := Stru.flat_at (f := actV) (n := 4) (fun _ => rfl) (by omega) h hj
  exact ⟨b, o, rfl, hb, hc 0 _ rfl, by rw [Nat.add_assoc]; exact hc 1 _ rfl, by rw [Nat.add_assoc]; exact hc 2 _ rfl, by rw [Nat.add_assoc]; exact hc 3 _ rfl⟩
end OpenL
end Go.Proofs.Ytkjkofdjnjihjaa
