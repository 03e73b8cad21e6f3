/- pieces -/
import Derived.Test.YtmkdhdmkdcankaaGreatDoorK38
import Derived.StillTailTactics
namespace Go.Proofs.YtmkdhdmkdcankaaGreatDoor
set_option maxRecDepth 100000
namespace OpenMk
open Go.RowKit Go.ChangeShapes Go.WideShapes Go.Deep Base Stru Opened OpenS OpenG
abbrev Tr {H : Type} (enc : TypeId × Value → H) (w : World) (n : Nat) (t : TypeId) (cs : List Value) (d : DataW H) (p : List MemPlace) : Prop := DataW.trod enc Tryz.prog w 0 (fun _ => true) true n t cs = some (d, p)
structure MkT where
 ty : Int
 n : Int
 s : List UInt8
def mkV (x : MkT) : List Value := [.int .i64 x.ty, .int .i64 x.n, .string ⟨x.s.toArray⟩]
def mkOk (x : MkT) : Prop := zo x.ty ∧ zo x.n ∧ x.s.length ≤ 140737488351232
theorem open_mk {H : Type} {enc : TypeId × Value → H} {w : World} {n : Nat} {cs : List Value} {d : DataW H} {p : List MemPlace} (h : Tr enc w n 89 cs d p) (hl : Light Tryz.prog 89 d) : ∃ x : MkT, cs = mkV x ∧ mkOk x := by
 have ce : Tryz.prog.cellsOf 89 = 3 := by kernel_rfl
 obtain ⟨hcl, hf⟩ := gN Tryz.underlying89 h hl
 rw [ce] at hcl
 obtain ⟨n0, y0, q0, t0, l0⟩ := hf 0 { name := "Type", type := 3, offset := 0, embedded := false, tag := "", pkgPath := "", byteOffset := 0 } rfl
 dsimp only at t0 l0
 rw [show Tryz.prog.cellsOf 3 = 1 by kernel_rfl] at t0
 obtain ⟨n1, y1, q1, t1, l1⟩ := hf 1 { name := "N", type := 3, offset := 1, embedded := false, tag := "", pkgPath := "", byteOffset := 8 } rfl
 dsimp only at t1 l1
 rw [show Tryz.prog.cellsOf 3 = 1 by kernel_rfl] at t1
 obtain ⟨n2, y2, q2, t2, l2⟩ := hf 2 { name := "S", type := 9, offset := 2, embedded := false, tag := "", pkgPath := "", byteOffset := 16 } rfl
 dsimp only at t2 l2
 rw [show Tryz.prog.cellsOf 9 = 1 by kernel_rfl] at t2
 match cs, hcl with
 | [x0, x1, x2], _ =>
   obtain ⟨z0, rfl, b0⟩ := J8 Tryz.underlying3 t0
   obtain ⟨z1, rfl, b1⟩ := J8 Tryz.underlying3 t1
   obtain ⟨z2, rfl, b2⟩ := leaf_text Tryz.underlying9 t2 l2
   exact ⟨⟨z0, z1, z2⟩, rfl, b0, b1, b2⟩
instance : Inhabited MkT := ⟨⟨0, 0, []⟩⟩
theorem open_mks {H : Type} {enc : TypeId × Value → H} {w : World} {n : Nat} {cs : List Value} {d : DataW H} {p : List MemPlace} (h : Tr enc w n 22 cs d p) (hl : Light Tryz.prog 22 d) :
 ∃ (A : Option Addr) (m c : Nat) (l : List MkT), cs = [.slice A m c] ∧ m = l.length ∧ m ≤ c ∧ c ≤ maxLen ∧ Rds w A (l.flatMap mkV) ∧ ∀ x ∈ l, mkOk x :=
 open_list (k := 3) Tryz.underlying22 (by kernel_rfl) (by omega) mkV mkOk (fun _ => rfl) (fun _ _ _ _ h hl => open_mk h hl) h hl
theorem mk_at {w : World} {A : Option Addr} {l : List MkT} (h : Rds w A (l.flatMap mkV)) {j : Nat} (hj : j < l.length) : ∃ b o, A = some ⟨b, o, none⟩ ∧ b < w.heap.size ∧ w.cell? ⟨b, o + j * 3, none⟩ = some (.int .i64 l[j].ty) ∧ w.cell? ⟨b, o + j * 3 + 1, none⟩ = some (.int .i64 l[j].n) ∧ w.cell? ⟨b, o + j * 3 + 2, none⟩ = some (.string ⟨l[j].s.toArray⟩) := by
 have hn : ∀ x : MkT, (mkV x).length = 3 := fun _ => rfl
 have hl := zN mkV 3 hn l
 have hx : ∀ (i : Nat) (hi : i < 3), ∃ b o, A = some ⟨b, o, none⟩ ∧ b < w.heap.size ∧ w.cell? ⟨b, o + (j * 3 + i), none⟩ = (mkV l[j])[i]? := fun i hi => by
  have hlt : j * 3 + i < (l.flatMap mkV).length := by rw [hl]; omega
  obtain ⟨b, o, h1, h2, h3⟩ := h.at_ (k := j * 3 + i) hlt
  refine ⟨b, o, h1, h2, ?_⟩
  rw [h3, ← List.getElem?_eq_getElem hlt, flat_get mkV 3 hn l j i hj hi]
 obtain ⟨b, o, rfl, hb, c0⟩ := hx 0 (by omega)
 refine ⟨b, o, rfl, hb, c0, ?_⟩
 have g : ∀ i, i < 3 → w.cell? ⟨b, o + j * 3 + i, none⟩ = (mkV l[j])[i]? := fun i hi => by
  obtain ⟨b', o', e, _, c⟩ := hx i hi
  injection e with e
  injection e with e1 e2
  subst e1
  subst e2
  rw [Nat.add_assoc]
  exact c
 exact ⟨g 1 (by omega), g 2 (by omega)⟩
structure StT where
 from_ : Int
 i : Int
 dest : Int
 raw : Bool
 v : Int
def stV (x : StT) : List Value := [.int .i64 x.from_, .int .i64 x.i, .int .i64 x.dest, .bool x.raw, .int .i64 x.v]
def stOk (x : StT) : Prop := zo x.from_ ∧ zo x.i ∧ zo x.dest ∧ zo x.v
theorem open_st {H : Type} {enc : TypeId × Value → H} {w : World} {n : Nat} {cs : List Value} {d : DataW H} {p : List MemPlace} (h : Tr enc w n 92 cs d p) (hl : Light Tryz.prog 92 d) : ∃ x : StT, cs = stV x ∧ stOk x := by
 have ce : Tryz.prog.cellsOf 92 = 5 := by kernel_rfl
 obtain ⟨hcl, hf⟩ := gN Tryz.underlying92 h hl
 rw [ce] at hcl
 obtain ⟨n0, y0, q0, t0, l0⟩ := hf 0 { name := "From", type := 3, offset := 0, embedded := false, tag := "", pkgPath := "", byteOffset := 0 } rfl
 dsimp only at t0 l0
 rw [show Tryz.prog.cellsOf 3 = 1 by kernel_rfl] at t0
 obtain ⟨n1, y1, q1, t1, l1⟩ := hf 1 { name := "I", type := 3, offset := 1, embedded := false, tag := "", pkgPath := "", byteOffset := 8 } rfl
 dsimp only at t1 l1
 rw [show Tryz.prog.cellsOf 3 = 1 by kernel_rfl] at t1
 obtain ⟨n2, y2, q2, t2, l2⟩ := hf 2 { name := "To", type := 3, offset := 2, embedded := false, tag := "", pkgPath := "", byteOffset := 16 } rfl
 dsimp only at t2 l2
 rw [show Tryz.prog.cellsOf 3 = 1 by kernel_rfl] at t2
 obtain ⟨n3, y3, q3, t3, l3⟩ := hf 3 { name := "Raw", type := 4, offset := 3, embedded := false, tag := "", pkgPath := "", byteOffset := 24 } rfl
 dsimp only at t3 l3
 rw [show Tryz.prog.cellsOf 4 = 1 by kernel_rfl] at t3
 obtain ⟨n4, y4, q4, t4, l4⟩ := hf 4 { name := "V", type := 2, offset := 4, embedded := false, tag := "", pkgPath := "", byteOffset := 32 } rfl
 dsimp only at t4 l4
 rw [show Tryz.prog.cellsOf 2 = 1 by kernel_rfl] at t4
 match cs, hcl with
 | [x0, x1, x2, x3, x4], _ =>
   obtain ⟨z0, rfl, b0⟩ := J8 Tryz.underlying3 t0
   obtain ⟨z1, rfl, b1⟩ := J8 Tryz.underlying3 t1
   obtain ⟨z2, rfl, b2⟩ := J8 Tryz.underlying3 t2
   obtain ⟨z3, rfl⟩ := leaf_bool Tryz.underlying4 t3
   obtain ⟨z4, rfl, b4⟩ := J8 Tryz.underlying2 t4
   exact ⟨⟨z0, z1, z2, z3, z4⟩, rfl, b0, b1, b2, b4⟩
instance : Inhabited StT := ⟨⟨0, 0, 0, false, 0⟩⟩
theorem open_sts {H : Type} {enc : TypeId × Value → H} {w : World} {n : Nat} {cs : List Value} {d : DataW H} {p : List MemPlace} (h : Tr enc w n 23 cs d p) (hl : Light Tryz.prog 23 d) :
 ∃ (A : Option Addr) (m c : Nat) (l : List StT), cs = [.slice A m c] ∧ m = l.length ∧ m ≤ c ∧ c ≤ maxLen ∧ Rds w A (l.flatMap stV) ∧ ∀ x ∈ l, stOk x :=
 open_list (k := 5) Tryz.underlying23 (by kernel_rfl) (by omega) stV stOk (fun _ => rfl) (fun _ _ _ _ h hl => open_st h hl) h hl
theorem st_at {w : World} {A : Option Addr} {l : List StT} (h : Rds w A (l.flatMap stV)) {j : Nat} (hj : j < l.length) : ∃ b o, A = some ⟨b, o, none⟩ ∧ b < w.heap.size ∧ w.cell? ⟨b, o + j * 5, none⟩ = some (.int .i64 l[j].from_) ∧ w.cell? ⟨b, o + j * 5 + 1, none⟩ = some (.int .i64 l[j].i) ∧ w.cell? ⟨b, o + j * 5 + 2, none⟩ = some (.int .i64 l[j].dest) ∧ w.cell? ⟨b, o + j * 5 + 3, none⟩ = some (.bool l[j].raw) ∧ w.cell? ⟨b, o + j * 5 + 4, none⟩ = some (.int .i64 l[j].v) := by
 have hn : ∀ x : StT, (stV x).length = 5 := fun _ => rfl
 have hl := zN stV 5 hn l
 have hx : ∀ (i : Nat) (hi : i < 5), ∃ b o, A = some ⟨b, o, none⟩ ∧ b < w.heap.size ∧ w.cell? ⟨b, o + (j * 5 + i), none⟩ = (stV l[j])[i]? := fun i hi => by
  have hlt : j * 5 + i < (l.flatMap stV).length := by rw [hl]; omega
  obtain ⟨b, o, h1, h2, h3⟩ := h.at_ (k := j * 5 + i) hlt
  refine ⟨b, o, h1, h2, ?_⟩
  rw [h3, ← List.getElem?_eq_getElem hlt, flat_get stV 5 hn l j i hj hi]
 obtain ⟨b, o, rfl, hb, c0⟩ := hx 0 (by omega)
 refine ⟨b, o, rfl, hb, c0, ?_⟩
 have g : ∀ i, i < 5 → w.cell? ⟨b, o + j * 5 + i, none⟩ = (stV l[j])[i]? := fun i hi => by
  obtain ⟨b', o', e, _, c⟩ := hx i hi
  injection e with e
  injection e with e1 e2
  subst e1
  subst e2
  rw [Nat.add_assoc]
  exact c
 exact ⟨g 1 (by omega), g 2 (by omega), g 3 (by omega), g 4 (by omega)⟩
end OpenMk
namespace ClY
open Go.RowKit Base BinM HpM HpA HpS HpB HpG HpP HpT HpZ HpR HpQ HpF HpI HpJ HpW HpD ClX
def Yn (E : Int) (t : Th) (ts : List Th) : List Th := if E = 0 then ts ++ [t] else ts
def makeT (ts : List Th) (m : OpenMk.MkT) : List Th :=
 if m.ty = 0 then Yn (ZC 400 (raw ts).length 0 3) ⟨0, List.replicate 3 0, 0⟩ ts
 else if m.ty = 1 then Yn (ZC 400 (raw ts).length 1 0) ⟨1, List.replicate 0 0, 0⟩ ts
 else if m.ty = 2 ∨ m.ty = 3 then Yn (qP 400 (raw ts).length m.ty (m.n % 9)) ⟨m.ty.toNat, (m.n % 9) :: List.replicate (m.n % 9).toNat 0, 0⟩ ts
 else if m.ty = 4 then (if m.s.length < 100 then Yn (Zr 400 (raw ts).length 4 (1 + (((m.s.length + 7) / 8 : Nat) : Int))) ⟨4, (m.s.length : Int) :: pack m.s, 0⟩ ts else ts)
 else Yn (ZC 400 (raw ts).length (m.ty.tmod 7) 1) ⟨(m.ty.tmod 7).toNat, List.replicate 1 0, 0⟩ ts
theorem emod_of (k n : Int) (hn : 1 ≤ n) : k % n = if k.tmod n < 0 then k.tmod n + n else k.tmod n := by
 have h3 : (k.tmod n).natAbs < n.natAbs := by rw [Int.natAbs_tmod]; exact Nat.mod_lt _ (by omega)
 have h4 := Int.mul_tdiv_add_tmod k n
 have h5 : k % n = (k.tmod n) % n := by
  conv => lhs; rw [← h4]
  rw [Int.add_comm, Int.add_mul_emod_self_left]
 rw [h5]
 split
 · rw [← Int.add_emod_right, Int.emod_eq_of_lt (by omega) (by omega)]
 · rw [Int.emod_eq_of_lt (by omega) (by omega)]
theorem V8 (k n : Int) (w : World) (hn : 1 ≤ n) (hn2 : n ≤ 1000000) : Calls Tryz.prog 40 #[.int .i64 k, .int .i64 n] w fun e w' => e = .returned (.int .i64 (k % n)) ∧ w = w' := by
 have h1 : decide (n < 1) = false := by simpa using hn
 have hnz : (n == 0) = false := by rw [beq_eq_false_iff_ne]; omega
 have hle : k.tmod n < n ∧ -n < k.tmod n := by
  have h3 : (k.tmod n).natAbs < n.natAbs := by rw [Int.natAbs_tmod]; exact Nat.mod_lt _ (by omega)
  omega
 have hE := emod_of k n hn
 by_cases h : k.tmod n < 0
 · rw [if_pos h] at hE
   have HE := zH hE
   have h' : decide (k.tmod n < 0) = true := by simpa using h
   clear hE
   obtain ⟨h3, h4⟩ := hle
   go_enter Tryz.func40, Tryz.ntmps40
   go_wp2
   go_ret
   exact ⟨by rw [HE.out]; rfl, rfl⟩
 · rw [if_neg h] at hE
   have HE := zH hE
   have h' : decide (k.tmod n < 0) = false := by simpa using h
   clear hE
   obtain ⟨h3, h4⟩ := hle
   go_enter Tryz.func40, Tryz.ntmps40
   go_wp2
   go_ret
   exact ⟨by rw [HE.out]; rfl, rfl⟩
section
variable {w0 wr : World} {g r : Nat} {ts : List Th} {bxs : List Box}
theorem Y2 (S : qO w0 wr g r 400 ts bxs) (hl : ts.length ≤ 4000) (id size : Int) :
 Calls Tryz.prog 72 #[.pointer (some ⟨g, 0, none⟩), .int .i64 id, .int .i64 size] wr fun e w1 => (∃ a b : Int, e = .returned (.tuple #[.int .i64 a, .int .i64 b])) ∧ (∀ b ∈ bxs, Bx w1 b.1 b.2.1 b.2.2) ∧ ∀ w1', Below w1.heap.size w1 w1' → Calls Tryz.prog 73 #[.pointer (some ⟨r, 0, none⟩), .int .i64 id, .int .i64 size] w1' fun e w2 => (∃ a b : Int, e = .returned (.tuple #[.int .i64 a, .int .i64 b])) ∧ qO w0 w2 g r 400 (Yn (ZC 400 (raw ts).length id size) ⟨id.toNat, List.replicate size.toNat 0, 0⟩ ts) bxs :=
 xL S rfl (fun _ _ _ _ _ _ H F => yu H F id size) (fun w1 AL cL ms H ht F => by
  subst ht
  exact GL H F.len F.top (by unfold things at hl; simpa using hl) id size)
theorem zd3 (S : qO w0 wr g r 400 ts bxs) (hl : ts.length ≤ 4000) (id k : Int) :
 Calls Tryz.prog 74 #[.pointer (some ⟨g, 0, none⟩), .int .i64 id, .int .i64 k] wr fun e w1 => (∃ a b : Int, e = .returned (.tuple #[.int .i64 a, .int .i64 b])) ∧ (∀ b ∈ bxs, Bx w1 b.1 b.2.1 b.2.2) ∧ ∀ w1', Below w1.heap.size w1 w1' → Calls Tryz.prog 75 #[.pointer (some ⟨r, 0, none⟩), .int .i64 id, .int .i64 k] w1' fun e w2 => (∃ a b : Int, e = .returned (.tuple #[.int .i64 a, .int .i64 b])) ∧ qO w0 w2 g r 400 (Yn (qP 400 (raw ts).length id k) ⟨id.toNat, k :: List.replicate k.toNat 0, 0⟩ ts) bxs :=
 xL S rfl (fun _ _ _ _ _ _ H F => array_any H F id k) (fun w1 AL cL ms H ht F => by
  subst ht
  exact GV H F.len F.top (by unfold things at hl; simpa using hl) id k)
theorem zk8 (S : qO w0 wr g r 400 ts bxs) (hl : ts.length ≤ 4000) (id : Int) (s : List UInt8) (hs : s.length ≤ 100000) :
 Calls Tryz.prog 76 #[.pointer (some ⟨g, 0, none⟩), .int .i64 id, .string ⟨s.toArray⟩] wr fun e w1 => (∃ a b : Int, e = .returned (.tuple #[.int .i64 a, .int .i64 b])) ∧ (∀ b ∈ bxs, Bx w1 b.1 b.2.1 b.2.2) ∧ ∀ w1', Below w1.heap.size w1 w1' → Calls Tryz.prog 77 #[.pointer (some ⟨r, 0, none⟩), .int .i64 id, .string ⟨s.toArray⟩] w1' fun e w2 => (∃ a b : Int, e = .returned (.tuple #[.int .i64 a, .int .i64 b])) ∧ qO w0 w2 g r 400 (Yn (Zr 400 (raw ts).length id (1 + (((s.length + 7) / 8 : Nat) : Int))) ⟨id.toNat, (s.length : Int) :: pack s, 0⟩ ts) bxs :=
 xL S rfl (fun _ _ _ _ _ _ H F => jQ H F id s (by omega)) (fun w1 AL cL ms H ht F => by
  subst ht
  exact HpL.rtext_any H F.len F.top (by unfold things at hl; simpa using hl) id s (by omega))
end
theorem j5 {w0 wr : World} {g r most : Nat} {ts : List Th} {b : Box} {bxs : List Box} (S : qO w0 wr g r most ts (b :: bxs)) : qO w0 wr g r most ts bxs := by
 obtain ⟨a1, a2, a3, a4, a5, a6, a7, a8, a9, S, h1, h2, h3⟩ := S
 exact ⟨_, _, _, _, _, _, _, _, _, S, h1, h2, fun b' hm => h3 b' (List.mem_cons_of_mem _ hm)⟩
theorem Vw {w0 wr : World} {g r most : Nat} {ts : List Th} {bxs : List Box} (S : qO w0 wr g r most ts bxs) {b : Box} (hb : b ∈ bxs) : Bx wr b.1 b.2.1 b.2.2 := by
 obtain ⟨a1, a2, a3, a4, a5, a6, a7, a8, a9, S, h1, h2, h3⟩ := S
 exact (h3 b hb).1
set_option maxHeartbeats 16000000 in
theorem make_any {w0 wr : World} {g r x : Nat} {pv tv : Value} {ts : List Th} {bxs : List Box} (S : qO w0 wr g r 400 ts ((x, #[.pointer (some ⟨g, 0, none⟩), .pointer (some ⟨r, 0, none⟩), pv, tv], 37) :: bxs)) (hl : ts.length ≤ 4000) (m : OpenMk.MkT) (hm : OpenMk.mkOk m) :
 Calls Tryz.prog 39 #[.pointer (some ⟨x, 0, none⟩), .agg #[.int .i64 m.ty, .int .i64 m.n, .string ⟨m.s.toArray⟩]] wr fun e w' => e = .returned (.tuple #[]) ∧ qO w0 w' g r 400 (makeT ts m) ((x, #[.pointer (some ⟨g, 0, none⟩), .pointer (some ⟨r, 0, none⟩), pv, tv], 37) :: bxs) := by
 obtain ⟨ty, nn, s⟩ := m
 obtain ⟨h1, h2, h3⟩ := hm
 simp only at h1 h2 h3
 have S1 := S.alloc #[.int .i64 ty, .int .i64 nn, .string ⟨s.toArray⟩] 89
 have HS := zH S1
 clear S S1
 have hp := Vw HS.out (List.mem_cons_of_mem _ List.mem_cons_self)
 have p0 : (wr.alloc (.cells #[.int .i64 ty, .int .i64 nn, .string ⟨s.toArray⟩] 89)).cell? ⟨x, 0, none⟩ = some (.pointer (some ⟨g, 0, none⟩)) := hp.cell 0
 have hxl := hp.lt
 have hq := Vw HS.out List.mem_cons_self
 have p1 : (wr.alloc (.cells #[.int .i64 ty, .int .i64 nn, .string ⟨s.toArray⟩] 89)).cell? ⟨wr.heap.size, 0, none⟩ = some (.int .i64 ty) := hq.cell 0
 have p2 : (wr.alloc (.cells #[.int .i64 ty, .int .i64 nn, .string ⟨s.toArray⟩] 89)).cell? ⟨wr.heap.size, 1, none⟩ = some (.int .i64 nn) := hq.cell 1
 have p3 : (wr.alloc (.cells #[.int .i64 ty, .int .i64 nn, .string ⟨s.toArray⟩] 89)).cell? ⟨wr.heap.size, 2, none⟩ = some (.string ⟨s.toArray⟩) := hq.cell 2
 clear hq
 have HMem : Hid (∀ w1, (∀ b ∈ (wr.heap.size, #[.int .i64 ty, .int .i64 nn, .string ⟨s.toArray⟩], 89) :: (x, #[.pointer (some ⟨g, 0, none⟩), .pointer (some ⟨r, 0, none⟩), pv, tv], 37) :: bxs, Bx w1 b.1 b.2.1 b.2.2) → w1.cell? ⟨x, 1, none⟩ = some (.pointer (some ⟨r, 0, none⟩)) ∧ w1.cell? ⟨wr.heap.size, 0, none⟩ = some (.int .i64 ty) ∧ w1.cell? ⟨wr.heap.size, 2, none⟩ = some (.string ⟨s.toArray⟩)) := zH (fun w1 h => by
  have q1 : Bx w1 x _ _ := h _ (List.mem_cons_of_mem _ List.mem_cons_self)
  have q2 : Bx w1 wr.heap.size _ _ := h _ List.mem_cons_self
  exact ⟨q1.cell 1, q2.cell 0, q2.cell 2⟩)
 clear hp
 by_cases h0 : ty = 0
 · subst h0
   have HT := zH (Y2 HS.out hl 0 3)
   have HE := zH (show makeT ts ⟨0, nn, s⟩ = Yn (ZC 400 (raw ts).length 0 3) ⟨(0 : Int).toNat, List.replicate (3 : Int).toNat 0, 0⟩ ts from rfl)
   go_enter Tryz.func39, Tryz.ntmps39
   go_wp2_with fail
   refine HT.out.mono ?_
   rintro e w1 ⟨⟨a, b, rfl⟩, hbx, hC⟩
   obtain ⟨k1, k2, k3⟩ := HMem.out w1 hbx
   have HC := zH hC
   clear hC hbx
   go_wp2_with fail
   refine (HC.out _ (Below.refl _ _)).mono ?_
   rintro e w2 ⟨⟨a2, b2, rfl⟩, hS2⟩
   have HS2 := zH hS2
   clear hS2
   go_wp2_with fail
   go_end0
   exact ⟨rfl, by rw [HE.out]; exact j5 HS2.out⟩
 · have g0 : (ty == 0) = false := by simpa using h0
   by_cases h1 : ty = 1
   · subst h1
     have HT := zH (Y2 HS.out hl 1 0)
     have HE := zH (show makeT ts ⟨1, nn, s⟩ = Yn (ZC 400 (raw ts).length 1 0) ⟨(1 : Int).toNat, List.replicate (0 : Int).toNat 0, 0⟩ ts from rfl)
     go_enter Tryz.func39, Tryz.ntmps39
     go_wp2_with fail
     refine HT.out.mono ?_
     rintro e w1 ⟨⟨a, b, rfl⟩, hbx, hC⟩
     obtain ⟨k1, k2, k3⟩ := HMem.out w1 hbx
     have HC := zH hC
     clear hC hbx
     go_wp2_with fail
     refine (HC.out _ (Below.refl _ _)).mono ?_
     rintro e w2 ⟨⟨a2, b2, rfl⟩, hS2⟩
     have HS2 := zH hS2
     clear hS2
     go_wp2_with fail
     go_end0
     exact ⟨rfl, by rw [HE.out]; exact j5 HS2.out⟩
   · have g1 : (ty == 1) = false := by simpa using h1
     have HSd := zH (HS.out.beside (Below.refl _ _).drew)
     by_cases h23 : ty = 2 ∨ ty = 3
     · have HE0 : makeT ts ⟨ty, nn, s⟩ = Yn (qP 400 (raw ts).length ty (nn % 9)) ⟨ty.toNat, (nn % 9) :: List.replicate (nn % 9).toNat 0, 0⟩ ts := by unfold makeT; rw [if_neg h0, if_neg h1, if_pos h23]
       have HE := zH HE0
       have HT := zH (zd3 HSd.out hl ty (nn % 9))
       have HCn := zH (fun w => V8 nn 9 w (by omega) (by omega))
       clear HE0
       rcases h23 with rfl | rfl
       · skip
         go_enter Tryz.func39, Tryz.ntmps39
         go_wp2_with (go_at_call 40; refine (HCn.out _).mono ?_; rintro e w' ⟨rfl, rfl⟩)
         generalize wr.alloc (.cells #[.int .i64 2, .int .i64 nn, .string ⟨s.toArray⟩] 89) = wa at *
         go_still_tail 7, (by kernel_rfl)
         go_wp2_with fail
         refine HT.out.mono ?_
         rintro e w1 ⟨⟨a, b, rfl⟩, hbx, hC⟩
         obtain ⟨k1, k2, k3⟩ := HMem.out w1 hbx
         have HC := zH hC
         clear hC hbx
         go_wp2_with fail
         go_still_tail 7, (by kernel_rfl)
         go_wp2_with fail
         refine (HC.out _ (Below.refl _ _).drew).mono ?_
         rintro e w2 ⟨⟨a2, b2, rfl⟩, hS2⟩
         have HS2 := zH hS2
         clear hS2
         go_wp2_with fail
         go_end0
         exact ⟨rfl, by rw [HE.out]; exact j5 HS2.out⟩
       · skip
         go_enter Tryz.func39, Tryz.ntmps39
         go_wp2_with (go_at_call 40; refine (HCn.out _).mono ?_; rintro e w' ⟨rfl, rfl⟩)
         generalize wr.alloc (.cells #[.int .i64 3, .int .i64 nn, .string ⟨s.toArray⟩] 89) = wa at *
         go_still_tail 7, (by kernel_rfl)
         go_wp2_with fail
         refine HT.out.mono ?_
         rintro e w1 ⟨⟨a, b, rfl⟩, hbx, hC⟩
         obtain ⟨k1, k2, k3⟩ := HMem.out w1 hbx
         have HC := zH hC
         clear hC hbx
         go_wp2_with fail
         go_still_tail 7, (by kernel_rfl)
         go_wp2_with fail
         refine (HC.out _ (Below.refl _ _).drew).mono ?_
         rintro e w2 ⟨⟨a2, b2, rfl⟩, hS2⟩
         have HS2 := zH hS2
         clear hS2
         go_wp2_with fail
         go_end0
         exact ⟨rfl, by rw [HE.out]; exact j5 HS2.out⟩
     · have g2 : (ty == 2) = false := by simpa using fun h => h23 (.inl h)
       have g3 : (ty == 3) = false := by simpa using fun h => h23 (.inr h)
       by_cases h4 : ty = 4
       · subst h4
         by_cases h5 : s.length < 100
         · have HE := zH (show makeT ts ⟨4, nn, s⟩ = Yn (Zr 400 (raw ts).length 4 (1 + (((s.length + 7) / 8 : Nat) : Int))) ⟨(4 : Int).toNat, (s.length : Int) :: pack s, 0⟩ ts by unfold makeT; rw [if_neg (by simp), if_neg (by simp), if_neg (by simp), if_pos rfl, if_pos h5]; rfl)
           have HT := zH (zk8 HSd.out hl 4 s (by omega))
           go_enter Tryz.func39, Tryz.ntmps39
           go_wp2_with fail
           generalize wr.alloc (.cells #[.int .i64 4, .int .i64 nn, .string ⟨s.toArray⟩] 89) = wa at *
           go_still_tail 6, (by kernel_rfl)
           go_wp2_with fail
           refine HT.out.mono ?_
           rintro e w1 ⟨⟨a, b, rfl⟩, hbx, hC⟩
           obtain ⟨k1, k2, k3⟩ := HMem.out w1 hbx
           have HC := zH hC
           clear hC hbx
           go_wp2_with fail
           go_still_tail 6, (by kernel_rfl)
           go_wp2_with fail
           refine (HC.out _ (Below.refl _ _).drew).mono ?_
           rintro e w2 ⟨⟨a2, b2, rfl⟩, hS2⟩
           have HS2 := zH hS2
           clear hS2
           go_wp2_with fail
           go_end0
           exact ⟨rfl, by rw [HE.out]; exact j5 HS2.out⟩
         · have HE := zH (show makeT ts ⟨4, nn, s⟩ = ts by unfold makeT; rw [if_neg (by simp), if_neg (by simp), if_neg (by simp), if_pos rfl, if_neg h5])
           have h5' : decide (s.length < 100) = false := by simpa using h5
           go_enter Tryz.func39, Tryz.ntmps39
           go_wp2_with fail
           go_end0
           exact ⟨rfl, by rw [HE.out]; exact j5 HS.out⟩
       · have g4 : (ty == 4) = false := by simpa using h4
         have HE := zH (show makeT ts ⟨ty, nn, s⟩ = Yn (ZC 400 (raw ts).length (ty.tmod 7) 1) ⟨(ty.tmod 7).toNat, List.replicate (1 : Int).toNat 0, 0⟩ ts by unfold makeT; rw [if_neg h0, if_neg h1, if_neg h23, if_neg h4]; rfl)
         have HT := zH (Y2 HSd.out hl (ty.tmod 7) 1)
         go_enter Tryz.func39, Tryz.ntmps39
         go_wp2_with fail
         generalize wr.alloc (.cells #[.int .i64 ty, .int .i64 nn, .string ⟨s.toArray⟩] 89) = wa at *
         go_still_tail 7, (by kernel_rfl)
         go_wp2_with fail
         refine HT.out.mono ?_
         rintro e w1 ⟨⟨a, b, rfl⟩, hbx, hC⟩
         obtain ⟨k1, k2, k3⟩ := HMem.out w1 hbx
         have HC := zH hC
         clear hC hbx
         go_wp2_with fail
         go_still_tail 7, (by kernel_rfl)
         go_wp2_with fail
         refine (HC.out _ (Below.refl _ _).drew).mono ?_
         rintro e w2 ⟨⟨a2, b2, rfl⟩, hS2⟩
         have HS2 := zH hS2
         clear hS2
         go_wp2_with fail
         go_end0
         exact ⟨rfl, by rw [HE.out]; exact j5 HS2.out⟩
end ClY
namespace TabI
open Go.RowKit Base BinM Stru DescM DescW DescX HierS HierT HierM HierC HierD HierN Kls KlsP KlsQ TabC TabM TabK TabP TabE TabB TabG TabH TabT TabU
theorem noC_is (w : World) : noC.is w :=
 ⟨⟨rfl, Nat.le_refl _, by unfold maxLen; simp [noC], .inl rfl, by simp [noC]⟩, ⟨rfl, Nat.le_refl _, by unfold maxLen; simp [noC], .inl rfl⟩, ⟨rfl, Nat.le_refl _, by unfold maxLen; simp [noC], .inl rfl, by simp [noC]⟩⟩
def fiv (w : World) (b : Nat) (v0 v1 v2 v3 v4 : Value) : World := ((((w.setCell ⟨b, 0, none⟩ v0).setCell ⟨b, 1, none⟩ v1).setCell ⟨b, 2, none⟩ v2).setCell ⟨b, 3, none⟩ v3).setCell ⟨b, 4, none⟩ v4
theorem fiv_bx {w : World} {b : Nat} {T : TypeId} {u0 u1 u2 u3 u4 : Value} (h : Bx w b #[u0, u1, u2, u3, u4] T) (v0 v1 v2 v3 v4 : Value) : Bx (fiv w b v0 v1 v2 v3 v4) b #[v0, v1, v2, v3, v4] T := ((((h.set 0 v0).set 1 v1).set 2 v2).set 3 v3).set 4 v4
theorem vS {lo : Nat} {a w : World} (h : Below lo a w) {b : Nat} (hb : lo ≤ b) (v0 v1 v2 v3 v4 : Value) : Below lo a (fiv w b v0 v1 v2 v3 v4) :=
 ((((h.setCell (p := ⟨b, 0, none⟩) hb v0).setCell (p := ⟨b, 1, none⟩) hb v1).setCell (p := ⟨b, 2, none⟩) hb v2).setCell (p := ⟨b, 3, none⟩) hb v3).setCell (p := ⟨b, 4, none⟩) hb v4
end TabI
namespace HierG
open Go.RowKit BinM Base Stru DescM DescW DescX HierS HierT HierM HierN
def pv (p : P2) : List Value := [.string ⟨p.1.toArray⟩, .string ⟨p.2.toArray⟩]
theorem pv_at {w : World} {A : Option Addr} {l : List P2} {k : Nat} (h : Rds w A (l.flatMap pv)) (hk : k < l.length) :
 ∃ b o, A = some ⟨b, o, none⟩ ∧ b < w.heap.size ∧ w.cell? ⟨b, o + k * 2, none⟩ = some (.string ⟨l[k].1.toArray⟩) ∧ w.cell? ⟨b, o + k * 2 + 1, none⟩ = some (.string ⟨l[k].2.toArray⟩) := by
 obtain ⟨b, o, hA, hb, hc⟩ := Ql (n := 2) (fun _ => rfl) (by omega) h hk
 exact ⟨b, o, hA, hb, hc 0 _ rfl, hc 1 _ rfl⟩
end HierG
end Go.Proofs.YtmkdhdmkdcankaaGreatDoor
