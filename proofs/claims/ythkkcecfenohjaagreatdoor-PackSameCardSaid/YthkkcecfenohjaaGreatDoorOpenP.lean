/-
  Moves, turns and bundles that came in, opened: what a law's walk is told of them.
-/
import Derived.Test.YthkkcecfenohjaaGreatDoorOpenK
import Derived.Test.YthkkcecfenohjaaGreatDoorPckM
namespace Go.Proofs.YthkkcecfenohjaaGreatDoor
namespace OpenP
open Go.RowKit Go.ChangeShapes Go.WideShapes Go.Deep Base Stru Opened OpenS OpenG OpenK Kls Pck

structure MovT.lt (x : MovT) : Prop where
  field : x.field.length ≤ 140737488351232
  frm : x.frm.length ≤ 140737488351232
structure TrnT.lt (x : TrnT) : Prop where
  cls : x.cls.length ≤ 140737488351232
  consts : ∀ h ∈ x.consts, CstT.lt h
  moves : ∀ h ∈ x.moves, MovT.lt h
structure BunT.lt (x : BunT) : Prop where
  classes : ∀ h ∈ x.classes, OpenK.ClsT.lt h
  turns : ∀ h ∈ x.turns, TrnT.lt h
instance : Inhabited MovT := ⟨⟨[], 0, [], none, 0, 0, []⟩⟩
instance : Inhabited TrnT := ⟨⟨[], none, 0, 0, none, 0, 0, [], []⟩⟩

section
variable {H : Type} {enc : TypeId × Value → H} {w : World}

set_option maxRecDepth 100000 in
theorem open_mov {n : Nat} {cs : List Value} {d : DataW H} {p : List MemPlace} (h : Tr enc w n 105 cs d p) (hl : Light Tryz.prog 105 d) : ∃ x : MovT, cs = x.vals ∧ x.is w ∧ MovT.lt x := by
  have ce : Tryz.prog.cellsOf 105 = 4 := by kernel_rfl
  obtain ⟨hcl, hf⟩ := field_of Tryz.underlying105 h hl
  rw [ce] at hcl
  obtain ⟨n0, y0, q0, t0, l0⟩ := hf 0 { name := "Field", type := 9, offset := 0, embedded := false, tag := "", pkgPath := "", byteOffset := 0 } rfl
  dsimp only at t0 l0
  rw [show Tryz.prog.cellsOf 9 = 1 by kernel_rfl] at t0
  obtain ⟨n1, y1, q1, t1, l1⟩ := hf 1 { name := "Kind", type := 3, offset := 1, embedded := false, tag := "", pkgPath := "", byteOffset := 16 } rfl
  dsimp only at t1 l1
  rw [show Tryz.prog.cellsOf 3 = 1 by kernel_rfl] at t1
  obtain ⟨n2, y2, q2, t2, l2⟩ := hf 2 { name := "From", type := 9, offset := 2, embedded := false, tag := "", pkgPath := "", byteOffset := 24 } rfl
  dsimp only at t2 l2
  rw [show Tryz.prog.cellsOf 9 = 1 by kernel_rfl] at t2
  obtain ⟨n3, y3, q3, t3, l3⟩ := hf 3 { name := "Code", type := 59, offset := 3, embedded := false, tag := "", pkgPath := "", byteOffset := 40 } rfl
  dsimp only at t3 l3
  rw [show Tryz.prog.cellsOf 59 = 1 by kernel_rfl] at t3
  match cs, hcl with
  | [x0, x1, x2, x3], _ =>
    obtain ⟨s0, rfl, b0⟩ := leaf_text Tryz.underlying9 t0 l0
    obtain ⟨s1, rfl, b1⟩ := leaf_int Tryz.underlying3 t1
    obtain ⟨s2, rfl, b2⟩ := leaf_text Tryz.underlying9 t2 l2
    obtain ⟨A3, m3, c3, s3, e3, hm3, hc3, hx3, hr3, hok3⟩ := open_list (k := 2) Tryz.underlying59 (by kernel_rfl) (by omega) insV (fun x => fitI x.1 ∧ fitI x.2) (fun _ => rfl) (fun _ _ _ _ h hl => open_ins h hl) t3 l3
    obtain rfl := (List.cons.inj e3).1
    exact ⟨⟨s0, s1, s2, A3, m3, c3, s3⟩, rfl, ⟨b1, ⟨hm3, hc3, hx3, hr3, hok3⟩⟩, ⟨b0, b2⟩⟩
set_option maxRecDepth 100000 in
theorem open_trn {n : Nat} {cs : List Value} {d : DataW H} {p : List MemPlace} (h : Tr enc w n 103 cs d p) (hl : Light Tryz.prog 103 d) : ∃ x : TrnT, cs = x.vals ∧ x.is w ∧ TrnT.lt x := by
  have ce : Tryz.prog.cellsOf 103 = 3 := by kernel_rfl
  obtain ⟨hcl, hf⟩ := field_of Tryz.underlying103 h hl
  rw [ce] at hcl
  obtain ⟨n0, y0, q0, t0, l0⟩ := hf 0 { name := "Class", type := 9, offset := 0, embedded := false, tag := "", pkgPath := "", byteOffset := 0 } rfl
  dsimp only at t0 l0
  rw [show Tryz.prog.cellsOf 9 = 1 by kernel_rfl] at t0
  obtain ⟨n1, y1, q1, t1, l1⟩ := hf 1 { name := "Consts", type := 22, offset := 1, embedded := false, tag := "", pkgPath := "", byteOffset := 16 } rfl
  dsimp only at t1 l1
  rw [show Tryz.prog.cellsOf 22 = 1 by kernel_rfl] at t1
  obtain ⟨n2, y2, q2, t2, l2⟩ := hf 2 { name := "Moves", type := 101, offset := 2, embedded := false, tag := "", pkgPath := "", byteOffset := 40 } rfl
  dsimp only at t2 l2
  rw [show Tryz.prog.cellsOf 101 = 1 by kernel_rfl] at t2
  match cs, hcl with
  | [x0, x1, x2], _ =>
    obtain ⟨s0, rfl, b0⟩ := leaf_text Tryz.underlying9 t0 l0
    obtain ⟨A1, m1, c1, s1, e1, hm1, hc1, hx1, hr1, hok1⟩ := open_list (k := 5) Tryz.underlying22 (by kernel_rfl) (by omega) Cst.vals (fun x => (fitI x.kind ∧ fitI x.n) ∧ CstT.lt x) (fun _ => rfl) (fun _ _ _ _ h hl => open_con h hl) t1 l1
    obtain rfl := (List.cons.inj e1).1
    obtain ⟨A2, m2, c2, s2, e2, hm2, hc2, hx2, hr2, hok2⟩ := open_list (k := 4) Tryz.underlying101 (by kernel_rfl) (by omega) MovT.vals (fun x => x.is w ∧ MovT.lt x) (fun _ => rfl) (fun _ _ _ _ h hl => open_mov h hl) t2 l2
    obtain rfl := (List.cons.inj e2).1
    exact ⟨⟨s0, A1, m1, c1, A2, m2, c2, s1, s2⟩, rfl, ⟨⟨hm1, hc1, hx1, hr1, fun x hx => (hok1 x hx).1⟩, ⟨hm2, hc2, hx2, hr2, fun x hx => (hok2 x hx).1⟩⟩, ⟨b0, fun x hx => (hok1 x hx).2, fun x hx => (hok2 x hx).2⟩⟩
set_option maxRecDepth 100000 in
theorem open_bun {n : Nat} {cs : List Value} {d : DataW H} {p : List MemPlace} (h : Tr enc w n 48 cs d p) (hl : Light Tryz.prog 48 d) : ∃ x : BunT, cs = BunT.vals x ∧ x.is w ∧ BunT.lt x := by
  have ce : Tryz.prog.cellsOf 48 = 2 := by kernel_rfl
  obtain ⟨hcl, hf⟩ := field_of Tryz.underlying48 h hl
  rw [ce] at hcl
  obtain ⟨n0, y0, q0, t0, l0⟩ := hf 0 { name := "Classes", type := 45, offset := 0, embedded := false, tag := "", pkgPath := "", byteOffset := 0 } rfl
  dsimp only at t0 l0
  rw [show Tryz.prog.cellsOf 45 = 1 by kernel_rfl] at t0
  obtain ⟨n1, y1, q1, t1, l1⟩ := hf 1 { name := "Turns", type := 46, offset := 1, embedded := false, tag := "", pkgPath := "", byteOffset := 24 } rfl
  dsimp only at t1 l1
  rw [show Tryz.prog.cellsOf 46 = 1 by kernel_rfl] at t1
  match cs, hcl with
  | [x0, x1], _ =>
    obtain ⟨A0, m0, c0, s0, e0, hm0, hc0, hx0, hr0, hok0⟩ := open_list (k := 5) Tryz.underlying45 (by kernel_rfl) (by omega) Pck.ClsT.vals (fun x => x.is w ∧ OpenK.ClsT.lt x) (fun _ => rfl) (fun _ _ _ _ h hl => open_cls h hl) t0 l0
    obtain rfl := (List.cons.inj e0).1
    obtain ⟨A1, m1, c1, s1, e1, hm1, hc1, hx1, hr1, hok1⟩ := open_list (k := 3) Tryz.underlying46 (by kernel_rfl) (by omega) TrnT.vals (fun x => x.is w ∧ TrnT.lt x) (fun _ => rfl) (fun _ _ _ _ h hl => open_trn h hl) t1 l1
    obtain rfl := (List.cons.inj e1).1
    exact ⟨⟨A0, m0, c0, A1, m1, c1, s0, s1⟩, rfl, ⟨⟨hm0, hc0, hx0, hr0, fun x hx => (hok0 x hx).1⟩, ⟨hm1, hc1, hx1, hr1, fun x hx => (hok1 x hx).1⟩⟩, ⟨fun x hx => (hok0 x hx).2, fun x hx => (hok1 x hx).2⟩⟩

/-- a bundle handed in by its value -/
theorem open_bunV {n : Nat} {cs : Array Value} {d : DataW H} {p : List MemPlace} (h : Tr enc w n 48 (Value.agg cs).cells.toList d p) (hl : Light Tryz.prog 48 d) :
    ∃ x : BunT, cs = (BunT.vals x).toArray ∧ x.is w ∧ BunT.lt x := by
  obtain ⟨x, e, h1, h2⟩ := open_bun (cs := cs.toList) h hl
  exact ⟨x, by rw [← e], h1, h2⟩
end

end OpenP
end Go.Proofs.YthkkcecfenohjaaGreatDoor
