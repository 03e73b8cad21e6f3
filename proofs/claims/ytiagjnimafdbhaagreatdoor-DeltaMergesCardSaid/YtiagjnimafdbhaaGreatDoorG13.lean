/-
  Slices of instructions and of constants that came in, opened: what a law's walk is told of them.
  Data with depth that came in, opened part by part: structs in slices in structs; and what the form's reach gives of each part.
-/
import Derived.Test.YtiagjnimafdbhaaGreatDoorG1
import Derived.Test.YtiagjnimafdbhaaGreatDoorG4
import Derived.Deep.Slices
import Derived.Deep.Fields
import Derived.ChangeSame
import Derived.Test.YtiagjnimafdbhaaGreatDoorG10
namespace Go.Proofs.YtiagjnimafdbhaaGreatDoor
namespace OpenS
open Go.RowKit Go.ChangeShapes Go.WideShapes Go.Deep Base Stru Opened

theorem rds_flat {α : Type} {w : World} {a : Addr} {g : α → List Value} {n : Nat} (hn : ∀ x, (g x).length = n) (h0 : 0 < n) {len : Nat} {f : Nat → α}
    (h : ∀ k, k < len → ∀ j u, (g (f k))[j]? = some u → w.cell? (a.add (k * n + j)) = some u) : Rds w (some a) (((List.range len).map f).flatMap g) := by
  rcases Nat.eq_zero_or_pos len with e | hl
  · subst e; exact .inl rfl
  · obtain ⟨b, o, spot⟩ := a
    have hu : ∃ u, (g (f 0))[0]? = some u := ⟨_, List.getElem?_eq_getElem (by rw [hn]; exact h0)⟩
    obtain ⟨u, hu⟩ := hu
    have hc := h 0 hl 0 u hu
    have hs : spot = none := by simpa [Addr.add] using World.cell?_spot hc
    subst hs
    have hc' : w.cell? ⟨b, o, none⟩ = some u := by simpa [Addr.add] using hc
    refine .inr ⟨b, o, rfl, World.block_lt_of_cell? w ⟨b, o, none⟩ hc', fun i v hv => ?_⟩
    have hi : i < len * n := by
      have := (List.getElem?_eq_some_iff.1 hv).1
      rw [flat_len g n hn] at this
      simpa using this
    have hk : i / n < len := Nat.div_lt_of_lt_mul (by rw [Nat.mul_comm]; exact hi)
    have hj : i % n < n := Nat.mod_lt _ h0
    have e : i = i / n * n + i % n := by rw [Nat.mul_comm]; exact (Nat.div_add_mod i n).symm
    rw [e, flat_get g n hn _ (i / n) (i % n) (by simpa using hk) hj] at hv
    have := h (i / n) hk (i % n) v (by simpa using hv)
    rw [Addr.add_mid, ← e] at this
    exact this

instance : Inhabited Cst := ⟨⟨0, 0, [], [], []⟩⟩

section
variable {H : Type} {enc : TypeId × Value → H} {w : World}

theorem int_in {x : Int} (h : (Lit.int .i64 x).wf = true) : fitI x := by
  simp [Lit.wf, IntKind.min, IntKind.max, IntKind.bits, IntKind.signed] at h
  unfold fitI; omega

/-- a constant, as it reads -/
def cstD (c : Cst) : DataW H := .agg [.lit (.int .i64 c.kind), .lit (.int .i64 c.n), .lit (.string c.s), .lit (.string c.t), .lit (.string c.u)]
/-- a slice of constants, as it reads -/
def CstPlaces (d : DataW H) (l : List Cst) : Prop := (d = .nil ∧ l = []) ∨ ∃ sp, d = .slice (l.map cstD) sp

/-- the form's reach, of a slice of constants: each one's texts -/
theorem reach_csts {ts : List TypeId} {ds : List (DataW H)} (h : (DataW.weightsEach Tryz.prog ts ds).all (· ≤ reachBytes) = true) {j : Nat} {d : DataW H} {l : List Cst} (ht : ts[j]? = some 39)
    (hd : ds[j]? = some d) (hp : CstPlaces d l) : ∀ x ∈ l, x.s.length ≤ 140737488351232 ∧ x.t.length ≤ 140737488351232 ∧ x.u.length ≤ 140737488351232 := by
  intro x hx
  rcases hp with ⟨_, rfl⟩ | ⟨sp, rfl⟩
  · cases hx
  · have hm : ∀ l : List Cst, x ∈ l → ∀ q ∈ (cstD (H := H) x).weights Tryz.prog 59, q ∈ DataW.weightsAll Tryz.prog 59 (l.map (cstD (H := H))) := by
      intro l
      induction l with
      | nil => intro h; cases h
      | cons y r ih =>
        intro h q hq
        simp only [List.map_cons, DataW.weightsAll, List.mem_append]
        rcases List.mem_cons.1 h with rfl | h
        · exact .inl hq
        · exact .inr (ih h q hq)
    have hall : ∀ q ∈ (cstD (H := H) x).weights Tryz.prog 59, q ≤ 140737488351232 := fun q hq => by
      have := List.all_eq_true.1 h _ (DataW.weights_mem_each ht hd q (by
        simp only [DataW.weights, Tryz.underlying39, List.mem_cons, List.mem_append]
        exact .inr (.inl (hm l hx q hq))))
      exact of_decide_eq_true this
    unfold cstD at hall
    simp only [DataW.weights, Tryz.underlying59] at hall
    refine ⟨hall _ ?_, hall _ ?_, hall _ ?_⟩ <;> simp [DataW.weightsEach, DataW.weights]
end

end OpenS
end Go.Proofs.YtiagjnimafdbhaaGreatDoor

namespace Go.Proofs.YtiagjnimafdbhaaGreatDoor
namespace OpenG
open Go.RowKit Go.ChangeShapes Go.WideShapes Go.Deep Base Stru Opened OpenS

/-- what a datum weighs is within the form's reach -/
def Light {H : Type} (P : Program) (t : TypeId) (d : DataW H) : Prop := ∀ q ∈ d.weights P t, q ≤ 140737488351232

section
variable {H : Type} {enc : TypeId × Value → H} {w : World} {P : Program}

theorem Light.of_each {ts : List TypeId} {ds : List (DataW H)} (h : (DataW.weightsEach P ts ds).all (· ≤ reachBytes) = true) {j : Nat} {t : TypeId} {d : DataW H} (ht : ts[j]? = some t) (hd : ds[j]? = some d) : Light P t d :=
  fun q hq => of_decide_eq_true (List.all_eq_true.1 h _ (DataW.weights_mem_each ht hd q hq))
theorem Light.field {t : TypeId} {fs : Array Field} (hu : P.underlying t = some (.struct fs)) {ds : List (DataW H)} (h : Light P t (.agg ds)) {i : Nat} {f : Field} {d : DataW H} (hf : fs[i]? = some f) (hd : ds[i]? = some d) : Light P f.type d := by
  intro q hq
  apply h
  simp only [DataW.weights, hu]
  exact DataW.weights_mem_each (by rw [List.getElem?_map]; simp [hf]) hd q hq
theorem mem_all {e : TypeId} {d : DataW H} {q : Nat} (hq : q ∈ d.weights P e) : ∀ {l : List (DataW H)}, d ∈ l → q ∈ DataW.weightsAll P e l
  | x :: r, h => by
    simp only [DataW.weightsAll, List.mem_append]
    rcases List.mem_cons.1 h with rfl | h
    · exact .inl hq
    · exact .inr (mem_all hq h)
theorem Light.elem {t e : TypeId} (hu : P.underlying t = some (.slice e)) {l sp : List (DataW H)} (h : Light P t (.slice l sp)) {d : DataW H} (hd : d ∈ l) : Light P e d := by
  intro q hq
  apply h
  simp only [DataW.weights, hu, List.mem_cons, List.mem_append]
  exact .inr (.inl (mem_all hq hd))
theorem Light.text {t : TypeId} {s : List UInt8} (h : Light (H := H) P t (.lit (.string s))) : s.length ≤ 140737488351232 := h _ (by simp [DataW.weights])

/-- a field of a struct, as it reads -/
theorem field_of {fuel : Nat} {t : TypeId} {fs : Array Field} {cs : List Value} {d : DataW H} {p : List MemPlace} (hu : P.underlying t = some (.struct fs))
    (h : DataW.trod enc P w 0 (fun _ => true) true fuel t cs = some (d, p)) (hl : Light P t d) :
    cs.length = P.cellsOf t ∧ ∀ (i : Nat) (f : Field), fs[i]? = some f → ∃ n y q, DataW.trod enc P w 0 (fun _ => true) true n f.type ((cs.drop f.offset).take (P.cellsOf f.type)) = some (y, q) ∧ Light P f.type y := by
  obtain ⟨ys, n, _, hx, hcl, hyl, hf⟩ := DataW.trod_struct hu h
  refine ⟨hcl, fun i f hi => ?_⟩
  have hlt : i < ys.length := by rw [hyl]; exact (Array.getElem?_eq_some_iff.1 hi).1
  refine ⟨n, (ys[i]).1, (ys[i]).2, (hf i f hi).trans (List.getElem?_eq_getElem hlt), ?_⟩
  obtain ⟨rfl, _⟩ := Prod.mk.inj hx
  exact hl.field hu hi (by rw [List.getElem?_map, List.getElem?_eq_getElem hlt]; rfl)

theorem leaf_text {n : Nat} {t : TypeId} {x : Value} {d : DataW H} {p : List MemPlace} (hu : P.underlying t = some .string) (h : DataW.trod enc P w 0 (fun _ => true) true n t [x] = some (d, p)) (hl : Light P t d) :
    ∃ s : List UInt8, x = .string ⟨s.toArray⟩ ∧ s.length ≤ 140737488351232 := by
  obtain ⟨z, e, g, _⟩ := DataW.trod_string hu h
  obtain ⟨rfl, _⟩ := Prod.mk.inj g
  exact ⟨z.data.toList, (List.cons.inj e).1, hl.text⟩
theorem leaf_int {n : Nat} {t : TypeId} {x : Value} {d : DataW H} {p : List MemPlace} (hu : P.underlying t = some (.int .i64)) (h : DataW.trod enc P w 0 (fun _ => true) true n t [x] = some (d, p)) :
    ∃ z : Int, x = .int .i64 z ∧ fitI z := by
  obtain ⟨z, e, _, f⟩ := DataW.trod_int hu h
  exact ⟨z, (List.cons.inj e).1, int_in f⟩
/-- a slice of things that are some cells each -/
theorem open_list {α : Type} [Inhabited α] {T E : TypeId} {k : Nat} (hu : P.underlying T = some (.slice E)) (hc : P.cellsOf E = k) (h0 : 0 < k) (vals : α → List Value) (ok : α → Prop) (hlen : ∀ x, (vals x).length = k)
    (elem : ∀ (n : Nat) (cs : List Value) (d : DataW H) (p : List MemPlace), DataW.trod enc P w 0 (fun _ => true) true n E cs = some (d, p) → Light P E d → ∃ x, cs = vals x ∧ ok x)
    {fuel : Nat} {cs : List Value} {d : DataW H} {p : List MemPlace} (h : DataW.trod enc P w 0 (fun _ => true) true fuel T cs = some (d, p)) (hl : Light P T d) :
    ∃ (A : Option Addr) (m c : Nat) (l : List α), cs = [.slice A m c] ∧ m = l.length ∧ m ≤ c ∧ c ≤ maxLen ∧ Rds w A (l.flatMap vals) ∧ ∀ x ∈ l, ok x := by
  rcases open_slice hu h with ⟨hcs, hd⟩ | ⟨a, len, cap, mm, n, D, Pl, hcs, _, hle, hmx, hmm, hd, hi⟩
  · exact ⟨none, 0, 0, [], hcs, rfl, Nat.le_refl _, by simp [maxLen], .inl rfl, by simp⟩
  · obtain ⟨rfl, _⟩ := Prod.mk.inj hd
    simp only [if_true] at hmm
    have each : ∀ i, i < len → ∃ x : α, (∀ j u, (vals x)[j]? = some u → w.cell? (a.add (i * k + j)) = some u) ∧ ok x := by
      intro i him
      obtain ⟨cs', hc', ht⟩ := hi i (by omega)
      rw [hc] at hc'
      obtain ⟨_, hcl, hat⟩ := World.cells?_some hc'
      obtain ⟨x, rfl, hok⟩ := elem n cs' (D i) (Pl i) ht (hl.elem hu (List.mem_map.2 ⟨i, List.mem_range.2 him, rfl⟩))
      refine ⟨x, fun j u hu' => ?_, hok⟩
      have hj : j < k := by have := (List.getElem?_eq_some_iff.1 hu').1; rw [hlen] at this; exact this
      have := hat j hj
      rw [add_add] at this
      rw [this, hu']
    obtain ⟨f, hf⟩ := choose_lt each
    refine ⟨some a, len, cap, (List.range len).map f, hcs, by simp, hle, hmx, rds_flat (n := k) hlen h0 (fun i hi' j u hu' => (hf i hi').1 j u hu'), fun x hx => ?_⟩
    obtain ⟨i, hi', rfl⟩ := List.mem_map.1 hx
    exact (hf i (List.mem_range.1 hi')).2
end

end OpenG
end Go.Proofs.YtiagjnimafdbhaaGreatDoor
/-
  Fields, handlers, instructions, constants, methods and classes that came in, opened: what a law's walk is told of them.
-/
namespace Go.Proofs.YtiagjnimafdbhaaGreatDoor
namespace OpenK
open Go.RowKit Go.ChangeShapes Go.WideShapes Go.Deep Base Stru Opened OpenS OpenG Kls

def FldT.lt (x : FldT) : Prop := x.name.length ≤ 140737488351232 ∧ x.desc.length ≤ 140737488351232
def HndT.lt (x : HndT) : Prop := x.cls.length ≤ 140737488351232
def CstT.lt (x : Cst) : Prop := x.s.length ≤ 140737488351232 ∧ x.t.length ≤ 140737488351232 ∧ x.u.length ≤ 140737488351232
structure MthT.lt (x : MthT) : Prop where
  name : x.name.length ≤ 140737488351232
  sig : x.sig.length ≤ 140737488351232
  hand : ∀ h ∈ x.hand, HndT.lt h
structure ClsT.lt (x : ClsT) : Prop where
  name : x.name.length ≤ 140737488351232
  sup : x.sup.length ≤ 140737488351232
  consts : ∀ h ∈ x.consts, CstT.lt h
  fields : ∀ h ∈ x.fields, FldT.lt h
  meths : ∀ h ∈ x.meths, MthT.lt h
instance : Inhabited FldT := ⟨⟨[], []⟩⟩
instance : Inhabited HndT := ⟨⟨0, 0, 0, []⟩⟩
instance : Inhabited MthT := ⟨⟨[], [], 0, none, 0, 0, none, 0, 0, [], []⟩⟩
instance : Inhabited ClsT := ⟨⟨[], [], none, 0, 0, none, 0, 0, none, 0, 0, [], [], []⟩⟩
def ClsT.vals (x : ClsT) : List Value := [.string ⟨x.name.toArray⟩, .string ⟨x.sup.toArray⟩, .slice x.kA x.km x.kc, .slice x.fA x.fm x.fc, .slice x.mA x.mm x.mc]

section
variable {H : Type} {enc : TypeId × Value → H} {w : World}
abbrev Tr (enc : TypeId × Value → H) (w : World) (n : Nat) (t : TypeId) (cs : List Value) (d : DataW H) (p : List MemPlace) : Prop := DataW.trod enc Tryz.prog w 0 (fun _ => true) true n t cs = some (d, p)

set_option maxRecDepth 100000 in
theorem open_ins {n : Nat} {cs : List Value} {d : DataW H} {p : List MemPlace} (h : Tr enc w n 57 cs d p) (hl : Light Tryz.prog 57 d) : ∃ x : InsT, cs = insV x ∧ fitI x.1 ∧ fitI x.2 := by
  have ce : Tryz.prog.cellsOf 57 = 2 := by kernel_rfl
  obtain ⟨hcl, hf⟩ := field_of Tryz.underlying57 h hl
  rw [ce] at hcl
  obtain ⟨n0, y0, q0, t0, l0⟩ := hf 0 { name := "Op", type := 3, offset := 0, embedded := false, tag := "", pkgPath := "", byteOffset := 0 } rfl
  dsimp only at t0 l0
  rw [show Tryz.prog.cellsOf 3 = 1 by kernel_rfl] at t0
  obtain ⟨n1, y1, q1, t1, l1⟩ := hf 1 { name := "A", type := 3, offset := 1, embedded := false, tag := "", pkgPath := "", byteOffset := 8 } rfl
  dsimp only at t1 l1
  rw [show Tryz.prog.cellsOf 3 = 1 by kernel_rfl] at t1
  match cs, hcl with
  | [x0, x1], _ =>
    obtain ⟨s0, rfl, b0⟩ := leaf_int Tryz.underlying3 t0
    obtain ⟨s1, rfl, b1⟩ := leaf_int Tryz.underlying3 t1
    exact ⟨(s0, s1), rfl, b0, b1⟩
set_option maxRecDepth 100000 in
theorem open_hnd {n : Nat} {cs : List Value} {d : DataW H} {p : List MemPlace} (h : Tr enc w n 122 cs d p) (hl : Light Tryz.prog 122 d) : ∃ x : HndT, cs = x.vals ∧ (fitI x.frm ∧ fitI x.til ∧ fitI x.pos) ∧ HndT.lt x := by
  have ce : Tryz.prog.cellsOf 122 = 4 := by kernel_rfl
  obtain ⟨hcl, hf⟩ := field_of Tryz.underlying122 h hl
  rw [ce] at hcl
  obtain ⟨n0, y0, q0, t0, l0⟩ := hf 0 { name := "From", type := 3, offset := 0, embedded := false, tag := "", pkgPath := "", byteOffset := 0 } rfl
  dsimp only at t0 l0
  rw [show Tryz.prog.cellsOf 3 = 1 by kernel_rfl] at t0
  obtain ⟨n1, y1, q1, t1, l1⟩ := hf 1 { name := "To", type := 3, offset := 1, embedded := false, tag := "", pkgPath := "", byteOffset := 8 } rfl
  dsimp only at t1 l1
  rw [show Tryz.prog.cellsOf 3 = 1 by kernel_rfl] at t1
  obtain ⟨n2, y2, q2, t2, l2⟩ := hf 2 { name := "At", type := 3, offset := 2, embedded := false, tag := "", pkgPath := "", byteOffset := 16 } rfl
  dsimp only at t2 l2
  rw [show Tryz.prog.cellsOf 3 = 1 by kernel_rfl] at t2
  obtain ⟨n3, y3, q3, t3, l3⟩ := hf 3 { name := "Class", type := 9, offset := 3, embedded := false, tag := "", pkgPath := "", byteOffset := 24 } rfl
  dsimp only at t3 l3
  rw [show Tryz.prog.cellsOf 9 = 1 by kernel_rfl] at t3
  match cs, hcl with
  | [x0, x1, x2, x3], _ =>
    obtain ⟨s0, rfl, b0⟩ := leaf_int Tryz.underlying3 t0
    obtain ⟨s1, rfl, b1⟩ := leaf_int Tryz.underlying3 t1
    obtain ⟨s2, rfl, b2⟩ := leaf_int Tryz.underlying3 t2
    obtain ⟨s3, rfl, b3⟩ := leaf_text Tryz.underlying9 t3 l3
    exact ⟨⟨s0, s1, s2, s3⟩, rfl, ⟨b0, b1, b2⟩, b3⟩
set_option maxRecDepth 100000 in
theorem open_fld {n : Nat} {cs : List Value} {d : DataW H} {p : List MemPlace} (h : Tr enc w n 61 cs d p) (hl : Light Tryz.prog 61 d) : ∃ x : FldT, cs = x.vals ∧ FldT.lt x := by
  have ce : Tryz.prog.cellsOf 61 = 2 := by kernel_rfl
  obtain ⟨hcl, hf⟩ := field_of Tryz.underlying61 h hl
  rw [ce] at hcl
  obtain ⟨n0, y0, q0, t0, l0⟩ := hf 0 { name := "Name", type := 9, offset := 0, embedded := false, tag := "", pkgPath := "", byteOffset := 0 } rfl
  dsimp only at t0 l0
  rw [show Tryz.prog.cellsOf 9 = 1 by kernel_rfl] at t0
  obtain ⟨n1, y1, q1, t1, l1⟩ := hf 1 { name := "Desc", type := 9, offset := 1, embedded := false, tag := "", pkgPath := "", byteOffset := 16 } rfl
  dsimp only at t1 l1
  rw [show Tryz.prog.cellsOf 9 = 1 by kernel_rfl] at t1
  match cs, hcl with
  | [x0, x1], _ =>
    obtain ⟨s0, rfl, b0⟩ := leaf_text Tryz.underlying9 t0 l0
    obtain ⟨s1, rfl, b1⟩ := leaf_text Tryz.underlying9 t1 l1
    exact ⟨⟨s0, s1⟩, rfl, b0, b1⟩
set_option maxRecDepth 100000 in
theorem open_con {n : Nat} {cs : List Value} {d : DataW H} {p : List MemPlace} (h : Tr enc w n 59 cs d p) (hl : Light Tryz.prog 59 d) : ∃ x : Cst, cs = x.vals ∧ (fitI x.kind ∧ fitI x.n) ∧ CstT.lt x := by
  have ce : Tryz.prog.cellsOf 59 = 5 := by kernel_rfl
  obtain ⟨hcl, hf⟩ := field_of Tryz.underlying59 h hl
  rw [ce] at hcl
  obtain ⟨n0, y0, q0, t0, l0⟩ := hf 0 { name := "Kind", type := 3, offset := 0, embedded := false, tag := "", pkgPath := "", byteOffset := 0 } rfl
  dsimp only at t0 l0
  rw [show Tryz.prog.cellsOf 3 = 1 by kernel_rfl] at t0
  obtain ⟨n1, y1, q1, t1, l1⟩ := hf 1 { name := "N", type := 2, offset := 1, embedded := false, tag := "", pkgPath := "", byteOffset := 8 } rfl
  dsimp only at t1 l1
  rw [show Tryz.prog.cellsOf 2 = 1 by kernel_rfl] at t1
  obtain ⟨n2, y2, q2, t2, l2⟩ := hf 2 { name := "S", type := 9, offset := 2, embedded := false, tag := "", pkgPath := "", byteOffset := 16 } rfl
  dsimp only at t2 l2
  rw [show Tryz.prog.cellsOf 9 = 1 by kernel_rfl] at t2
  obtain ⟨n3, y3, q3, t3, l3⟩ := hf 3 { name := "T", type := 9, offset := 3, embedded := false, tag := "", pkgPath := "", byteOffset := 32 } rfl
  dsimp only at t3 l3
  rw [show Tryz.prog.cellsOf 9 = 1 by kernel_rfl] at t3
  obtain ⟨n4, y4, q4, t4, l4⟩ := hf 4 { name := "U", type := 9, offset := 4, embedded := false, tag := "", pkgPath := "", byteOffset := 48 } rfl
  dsimp only at t4 l4
  rw [show Tryz.prog.cellsOf 9 = 1 by kernel_rfl] at t4
  match cs, hcl with
  | [x0, x1, x2, x3, x4], _ =>
    obtain ⟨s0, rfl, b0⟩ := leaf_int Tryz.underlying3 t0
    obtain ⟨s1, rfl, b1⟩ := leaf_int Tryz.underlying2 t1
    obtain ⟨s2, rfl, b2⟩ := leaf_text Tryz.underlying9 t2 l2
    obtain ⟨s3, rfl, b3⟩ := leaf_text Tryz.underlying9 t3 l3
    obtain ⟨s4, rfl, b4⟩ := leaf_text Tryz.underlying9 t4 l4
    exact ⟨⟨s0, s1, s2, s3, s4⟩, rfl, ⟨b0, b1⟩, b2, b3, b4⟩
end

end OpenK
end Go.Proofs.YtiagjnimafdbhaaGreatDoor
