/-
  Fields, handlers, instructions, constants, methods and classes that came in, opened: what a law's walk is told of them.
-/
import Derived.Test.YtiagjnimafdbhaaGreatDoorOpenG
import Derived.Test.YtiagjnimafdbhaaGreatDoorKlsF
namespace Go.Proofs.YtiagjnimafdbhaaGreatDoor
namespace OpenK
open Go.RowKit Go.ChangeShapes Go.WideShapes Go.Deep Base Stru Opened OpenS OpenG Kls

def FldT.lt (x : FldT) : Prop := x.name.length ≤ 140737488351232 ∧ x.desc.length ≤ 140737488351232
def HndT.lt (x : HndT) : Prop := x.cls.length ≤ 140737488351232
def CstT.lt (x : Cst) : Prop := x.s.length ≤ 140737488351232 ∧ x.t.length ≤ 140737488351232 ∧ x.u.length ≤ 140737488351232
structure MthT.lt (x : MthT) : Prop where
  name : x.name.length ≤ 140737488351232
  sig : x.sig.length ≤ 140737488351232
  hand : ∀ h ∈ x.hand, HndT.lt h
structure ClsT.lt (x : ClsT) : Prop where
  name : x.name.length ≤ 140737488351232
  sup : x.sup.length ≤ 140737488351232
  consts : ∀ h ∈ x.consts, CstT.lt h
  fields : ∀ h ∈ x.fields, FldT.lt h
  meths : ∀ h ∈ x.meths, MthT.lt h
instance : Inhabited FldT := ⟨⟨[], []⟩⟩
instance : Inhabited HndT := ⟨⟨0, 0, 0, []⟩⟩
instance : Inhabited MthT := ⟨⟨[], [], 0, none, 0, 0, none, 0, 0, [], []⟩⟩
instance : Inhabited ClsT := ⟨⟨[], [], none, 0, 0, none, 0, 0, none, 0, 0, [], [], []⟩⟩
def ClsT.vals (x : ClsT) : List Value := [.string ⟨x.name.toArray⟩, .string ⟨x.sup.toArray⟩, .slice x.kA x.km x.kc, .slice x.fA x.fm x.fc, .slice x.mA x.mm x.mc]

section
variable {H : Type} {enc : TypeId × Value → H} {w : World}
abbrev Tr (enc : TypeId × Value → H) (w : World) (n : Nat) (t : TypeId) (cs : List Value) (d : DataW H) (p : List MemPlace) : Prop := DataW.trod enc Tryz.prog w 0 (fun _ => true) true n t cs = some (d, p)

set_option maxRecDepth 100000 in
theorem open_ins {n : Nat} {cs : List Value} {d : DataW H} {p : List MemPlace} (h : Tr enc w n 57 cs d p) (hl : Light Tryz.prog 57 d) : ∃ x : InsT, cs = insV x ∧ fitI x.1 ∧ fitI x.2 := by
  have ce : Tryz.prog.cellsOf 57 = 2 := by kernel_rfl
  obtain ⟨hcl, hf⟩ := field_of Tryz.underlying57 h hl
  rw [ce] at hcl
  obtain ⟨n0, y0, q0, t0, l0⟩ := hf 0 { name := "Op", type := 3, offset := 0, embedded := false, tag := "", pkgPath := "", byteOffset := 0 } rfl
  dsimp only at t0 l0
  rw [show Tryz.prog.cellsOf 3 = 1 by kernel_rfl] at t0
  obtain ⟨n1, y1, q1, t1, l1⟩ := hf 1 { name := "A", type := 3, offset := 1, embedded := false, tag := "", pkgPath := "", byteOffset := 8 } rfl
  dsimp only at t1 l1
  rw [show Tryz.prog.cellsOf 3 = 1 by kernel_rfl] at t1
  match cs, hcl with
  | [x0, x1], _ =>
    obtain ⟨s0, rfl, b0⟩ := leaf_int Tryz.underlying3 t0
    obtain ⟨s1, rfl, b1⟩ := leaf_int Tryz.underlying3 t1
    exact ⟨(s0, s1), rfl, b0, b1⟩
set_option maxRecDepth 100000 in
theorem open_hnd {n : Nat} {cs : List Value} {d : DataW H} {p : List MemPlace} (h : Tr enc w n 122 cs d p) (hl : Light Tryz.prog 122 d) : ∃ x : HndT, cs = x.vals ∧ (fitI x.frm ∧ fitI x.til ∧ fitI x.pos) ∧ HndT.lt x := by
  have ce : Tryz.prog.cellsOf 122 = 4 := by kernel_rfl
  obtain ⟨hcl, hf⟩ := field_of Tryz.underlying122 h hl
  rw [ce] at hcl
  obtain ⟨n0, y0, q0, t0, l0⟩ := hf 0 { name := "From", type := 3, offset := 0, embedded := false, tag := "", pkgPath := "", byteOffset := 0 } rfl
  dsimp only at t0 l0
  rw [show Tryz.prog.cellsOf 3 = 1 by kernel_rfl] at t0
  obtain ⟨n1, y1, q1, t1, l1⟩ := hf 1 { name := "To", type := 3, offset := 1, embedded := false, tag := "", pkgPath := "", byteOffset := 8 } rfl
  dsimp only at t1 l1
  rw [show Tryz.prog.cellsOf 3 = 1 by kernel_rfl] at t1
  obtain ⟨n2, y2, q2, t2, l2⟩ := hf 2 { name := "At", type := 3, offset := 2, embedded := false, tag := "", pkgPath := "", byteOffset := 16 } rfl
  dsimp only at t2 l2
  rw [show Tryz.prog.cellsOf 3 = 1 by kernel_rfl] at t2
  obtain ⟨n3, y3, q3, t3, l3⟩ := hf 3 { name := "Class", type := 9, offset := 3, embedded := false, tag := "", pkgPath := "", byteOffset := 24 } rfl
  dsimp only at t3 l3
  rw [show Tryz.prog.cellsOf 9 = 1 by kernel_rfl] at t3
  match cs, hcl with
  | [x0, x1, x2, x3], _ =>
    obtain ⟨s0, rfl, b0⟩ := leaf_int Tryz.underlying3 t0
    obtain ⟨s1, rfl, b1⟩ := leaf_int Tryz.underlying3 t1
    obtain ⟨s2, rfl, b2⟩ := leaf_int Tryz.underlying3 t2
    obtain ⟨s3, rfl, b3⟩ := leaf_text Tryz.underlying9 t3 l3
    exact ⟨⟨s0, s1, s2, s3⟩, rfl, ⟨b0, b1, b2⟩, b3⟩
set_option maxRecDepth 100000 in
theorem open_fld {n : Nat} {cs : List Value} {d : DataW H} {p : List MemPlace} (h : Tr enc w n 61 cs d p) (hl : Light Tryz.prog 61 d) : ∃ x : FldT, cs = x.vals ∧ FldT.lt x := by
  have ce : Tryz.prog.cellsOf 61 = 2 := by kernel_rfl
  obtain ⟨hcl, hf⟩ := field_of Tryz.underlying61 h hl
  rw [ce] at hcl
  obtain ⟨n0, y0, q0, t0, l0⟩ := hf 0 { name := "Name", type := 9, offset := 0, embedded := false, tag := "", pkgPath := "", byteOffset := 0 } rfl
  dsimp only at t0 l0
  rw [show Tryz.prog.cellsOf 9 = 1 by kernel_rfl] at t0
  obtain ⟨n1, y1, q1, t1, l1⟩ := hf 1 { name := "Desc", type := 9, offset := 1, embedded := false, tag := "", pkgPath := "", byteOffset := 16 } rfl
  dsimp only at t1 l1
  rw [show Tryz.prog.cellsOf 9 = 1 by kernel_rfl] at t1
  match cs, hcl with
  | [x0, x1], _ =>
    obtain ⟨s0, rfl, b0⟩ := leaf_text Tryz.underlying9 t0 l0
    obtain ⟨s1, rfl, b1⟩ := leaf_text Tryz.underlying9 t1 l1
    exact ⟨⟨s0, s1⟩, rfl, b0, b1⟩
set_option maxRecDepth 100000 in
theorem open_con {n : Nat} {cs : List Value} {d : DataW H} {p : List MemPlace} (h : Tr enc w n 59 cs d p) (hl : Light Tryz.prog 59 d) : ∃ x : Cst, cs = x.vals ∧ (fitI x.kind ∧ fitI x.n) ∧ CstT.lt x := by
  have ce : Tryz.prog.cellsOf 59 = 5 := by kernel_rfl
  obtain ⟨hcl, hf⟩ := field_of Tryz.underlying59 h hl
  rw [ce] at hcl
  obtain ⟨n0, y0, q0, t0, l0⟩ := hf 0 { name := "Kind", type := 3, offset := 0, embedded := false, tag := "", pkgPath := "", byteOffset := 0 } rfl
  dsimp only at t0 l0
  rw [show Tryz.prog.cellsOf 3 = 1 by kernel_rfl] at t0
  obtain ⟨n1, y1, q1, t1, l1⟩ := hf 1 { name := "N", type := 2, offset := 1, embedded := false, tag := "", pkgPath := "", byteOffset := 8 } rfl
  dsimp only at t1 l1
  rw [show Tryz.prog.cellsOf 2 = 1 by kernel_rfl] at t1
  obtain ⟨n2, y2, q2, t2, l2⟩ := hf 2 { name := "S", type := 9, offset := 2, embedded := false, tag := "", pkgPath := "", byteOffset := 16 } rfl
  dsimp only at t2 l2
  rw [show Tryz.prog.cellsOf 9 = 1 by kernel_rfl] at t2
  obtain ⟨n3, y3, q3, t3, l3⟩ := hf 3 { name := "T", type := 9, offset := 3, embedded := false, tag := "", pkgPath := "", byteOffset := 32 } rfl
  dsimp only at t3 l3
  rw [show Tryz.prog.cellsOf 9 = 1 by kernel_rfl] at t3
  obtain ⟨n4, y4, q4, t4, l4⟩ := hf 4 { name := "U", type := 9, offset := 4, embedded := false, tag := "", pkgPath := "", byteOffset := 48 } rfl
  dsimp only at t4 l4
  rw [show Tryz.prog.cellsOf 9 = 1 by kernel_rfl] at t4
  match cs, hcl with
  | [x0, x1, x2, x3, x4], _ =>
    obtain ⟨s0, rfl, b0⟩ := leaf_int Tryz.underlying3 t0
    obtain ⟨s1, rfl, b1⟩ := leaf_int Tryz.underlying2 t1
    obtain ⟨s2, rfl, b2⟩ := leaf_text Tryz.underlying9 t2 l2
    obtain ⟨s3, rfl, b3⟩ := leaf_text Tryz.underlying9 t3 l3
    obtain ⟨s4, rfl, b4⟩ := leaf_text Tryz.underlying9 t4 l4
    exact ⟨⟨s0, s1, s2, s3, s4⟩, rfl, ⟨b0, b1⟩, b2, b3, b4⟩
set_option maxRecDepth 100000 in
theorem open_mth {n : Nat} {cs : List Value} {d : DataW H} {p : List MemPlace} (h : Tr enc w n 55 cs d p) (hl : Light Tryz.prog 55 d) : ∃ x : MthT, cs = x.vals ∧ x.is w ∧ MthT.lt x := by
  have ce : Tryz.prog.cellsOf 55 = 5 := by kernel_rfl
  obtain ⟨hcl, hf⟩ := field_of Tryz.underlying55 h hl
  rw [ce] at hcl
  obtain ⟨n0, y0, q0, t0, l0⟩ := hf 0 { name := "Name", type := 9, offset := 0, embedded := false, tag := "", pkgPath := "", byteOffset := 0 } rfl
  dsimp only at t0 l0
  rw [show Tryz.prog.cellsOf 9 = 1 by kernel_rfl] at t0
  obtain ⟨n1, y1, q1, t1, l1⟩ := hf 1 { name := "Sig", type := 9, offset := 1, embedded := false, tag := "", pkgPath := "", byteOffset := 16 } rfl
  dsimp only at t1 l1
  rw [show Tryz.prog.cellsOf 9 = 1 by kernel_rfl] at t1
  obtain ⟨n2, y2, q2, t2, l2⟩ := hf 2 { name := "Locals", type := 3, offset := 2, embedded := false, tag := "", pkgPath := "", byteOffset := 32 } rfl
  dsimp only at t2 l2
  rw [show Tryz.prog.cellsOf 3 = 1 by kernel_rfl] at t2
  obtain ⟨n3, y3, q3, t3, l3⟩ := hf 3 { name := "Code", type := 52, offset := 3, embedded := false, tag := "", pkgPath := "", byteOffset := 40 } rfl
  dsimp only at t3 l3
  rw [show Tryz.prog.cellsOf 52 = 1 by kernel_rfl] at t3
  obtain ⟨n4, y4, q4, t4, l4⟩ := hf 4 { name := "Hand", type := 53, offset := 4, embedded := false, tag := "", pkgPath := "", byteOffset := 64 } rfl
  dsimp only at t4 l4
  rw [show Tryz.prog.cellsOf 53 = 1 by kernel_rfl] at t4
  match cs, hcl with
  | [x0, x1, x2, x3, x4], _ =>
    obtain ⟨s0, rfl, b0⟩ := leaf_text Tryz.underlying9 t0 l0
    obtain ⟨s1, rfl, b1⟩ := leaf_text Tryz.underlying9 t1 l1
    obtain ⟨s2, rfl, b2⟩ := leaf_int Tryz.underlying3 t2
    obtain ⟨A3, m3, c3, s3, e3, hm3, hc3, hx3, hr3, hok3⟩ := open_list (k := 2) Tryz.underlying52 (by kernel_rfl) (by omega) insV (fun x => fitI x.1 ∧ fitI x.2) (fun _ => rfl) (fun _ _ _ _ h hl => open_ins h hl) t3 l3
    obtain rfl := (List.cons.inj e3).1
    obtain ⟨A4, m4, c4, s4, e4, hm4, hc4, hx4, hr4, hok4⟩ := open_list (k := 4) Tryz.underlying53 (by kernel_rfl) (by omega) HndT.vals (fun x => (fitI x.frm ∧ fitI x.til ∧ fitI x.pos) ∧ HndT.lt x) (fun _ => rfl) (fun _ _ _ _ h hl => open_hnd h hl) t4 l4
    obtain rfl := (List.cons.inj e4).1
    exact ⟨⟨s0, s1, s2, A3, m3, c3, A4, m4, c4, s3, s4⟩, rfl, ⟨b2, ⟨hm3, hc3, hx3, hr3, hok3⟩, ⟨hm4, hc4, hx4, hr4, fun x hx => (hok4 x hx).1⟩⟩, ⟨b0, b1, fun x hx => (hok4 x hx).2⟩⟩
set_option maxRecDepth 100000 in
theorem open_cls {n : Nat} {cs : List Value} {d : DataW H} {p : List MemPlace} (h : Tr enc w n 43 cs d p) (hl : Light Tryz.prog 43 d) : ∃ x : ClsT, cs = ClsT.vals x ∧ x.is w ∧ ClsT.lt x := by
  have ce : Tryz.prog.cellsOf 43 = 5 := by kernel_rfl
  obtain ⟨hcl, hf⟩ := field_of Tryz.underlying43 h hl
  rw [ce] at hcl
  obtain ⟨n0, y0, q0, t0, l0⟩ := hf 0 { name := "Name", type := 9, offset := 0, embedded := false, tag := "", pkgPath := "", byteOffset := 0 } rfl
  dsimp only at t0 l0
  rw [show Tryz.prog.cellsOf 9 = 1 by kernel_rfl] at t0
  obtain ⟨n1, y1, q1, t1, l1⟩ := hf 1 { name := "Super", type := 9, offset := 1, embedded := false, tag := "", pkgPath := "", byteOffset := 16 } rfl
  dsimp only at t1 l1
  rw [show Tryz.prog.cellsOf 9 = 1 by kernel_rfl] at t1
  obtain ⟨n2, y2, q2, t2, l2⟩ := hf 2 { name := "Consts", type := 39, offset := 2, embedded := false, tag := "", pkgPath := "", byteOffset := 32 } rfl
  dsimp only at t2 l2
  rw [show Tryz.prog.cellsOf 39 = 1 by kernel_rfl] at t2
  obtain ⟨n3, y3, q3, t3, l3⟩ := hf 3 { name := "Fields", type := 40, offset := 3, embedded := false, tag := "", pkgPath := "", byteOffset := 56 } rfl
  dsimp only at t3 l3
  rw [show Tryz.prog.cellsOf 40 = 1 by kernel_rfl] at t3
  obtain ⟨n4, y4, q4, t4, l4⟩ := hf 4 { name := "Methods", type := 41, offset := 4, embedded := false, tag := "", pkgPath := "", byteOffset := 80 } rfl
  dsimp only at t4 l4
  rw [show Tryz.prog.cellsOf 41 = 1 by kernel_rfl] at t4
  match cs, hcl with
  | [x0, x1, x2, x3, x4], _ =>
    obtain ⟨s0, rfl, b0⟩ := leaf_text Tryz.underlying9 t0 l0
    obtain ⟨s1, rfl, b1⟩ := leaf_text Tryz.underlying9 t1 l1
    obtain ⟨A2, m2, c2, s2, e2, hm2, hc2, hx2, hr2, hok2⟩ := open_list (k := 5) Tryz.underlying39 (by kernel_rfl) (by omega) Cst.vals (fun x => (fitI x.kind ∧ fitI x.n) ∧ CstT.lt x) (fun _ => rfl) (fun _ _ _ _ h hl => open_con h hl) t2 l2
    obtain rfl := (List.cons.inj e2).1
    obtain ⟨A3, m3, c3, s3, e3, hm3, hc3, hx3, hr3, hok3⟩ := open_list (k := 2) Tryz.underlying40 (by kernel_rfl) (by omega) FldT.vals FldT.lt (fun _ => rfl) (fun _ _ _ _ h hl => open_fld h hl) t3 l3
    obtain rfl := (List.cons.inj e3).1
    obtain ⟨A4, m4, c4, s4, e4, hm4, hc4, hx4, hr4, hok4⟩ := open_list (k := 5) Tryz.underlying41 (by kernel_rfl) (by omega) MthT.vals (fun x => x.is w ∧ MthT.lt x) (fun _ => rfl) (fun _ _ _ _ h hl => open_mth h hl) t4 l4
    obtain rfl := (List.cons.inj e4).1
    exact ⟨⟨s0, s1, A2, m2, c2, A3, m3, c3, A4, m4, c4, s2, s3, s4⟩, rfl, ⟨⟨hm2, hc2, hx2, hr2, fun x hx => (hok2 x hx).1⟩, ⟨hm3, hc3, hx3, hr3⟩, ⟨hm4, hc4, hx4, hr4, fun x hx => (hok4 x hx).1⟩⟩, ⟨b0, b1, fun x hx => (hok2 x hx).2, hok3, fun x hx => (hok4 x hx).2⟩⟩

/-- a class handed in by its value -/
theorem open_clsV {n : Nat} {cs : Array Value} {d : DataW H} {p : List MemPlace} (h : Tr enc w n 43 (Value.agg cs).cells.toList d p) (hl : Light Tryz.prog 43 d) :
    ∃ x : ClsT, cs = (ClsT.vals x).toArray ∧ x.is w ∧ ClsT.lt x := by
  obtain ⟨x, e, h1, h2⟩ := open_cls (cs := cs.toList) h hl
  exact ⟨x, by rw [← e], h1, h2⟩
end

end OpenK
end Go.Proofs.YtiagjnimafdbhaaGreatDoor
