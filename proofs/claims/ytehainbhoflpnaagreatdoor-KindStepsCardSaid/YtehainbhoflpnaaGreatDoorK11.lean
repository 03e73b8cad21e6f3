/- pieces -/
import Derived.Deep.Slices
import Derived.Deep.Fields
import Derived.ChangeSame
import Derived.Test.YtehainbhoflpnaaGreatDoorK8
namespace Go.Proofs.YtehainbhoflpnaaGreatDoor
namespace OpenS
open Go.RowKit Go.ChangeShapes Go.WideShapes Go.Deep Base Stru Opened
theorem YH {α : Type} {w : World} {a : Addr} {g : α → List Value} {n : Nat} (hn : ∀ x, (g x).length = n) (h0 : 0 < n) {len : Nat} {f : Nat → α}
 (h : ∀ k, k < len → ∀ j u, (g (f k))[j]? = some u → w.cell? (a.add (k * n + j)) = some u) : Rds w (some a) (((List.range len).map f).flatMap g) := by
 rcases Nat.eq_zero_or_pos len with e | hl
 · subst e; exact .inl rfl
 · obtain ⟨b, o, spot⟩ := a
   have hu : ∃ u, (g (f 0))[0]? = some u := ⟨_, List.getElem?_eq_getElem (by rw [hn]; exact h0)⟩
   obtain ⟨u, hu⟩ := hu
   have hc := h 0 hl 0 u hu
   have hs : spot = none := by simpa [Addr.add] using World.cell?_spot hc
   subst hs
   have hc' : w.cell? ⟨b, o, none⟩ = some u := by simpa [Addr.add] using hc
   refine .inr ⟨b, o, rfl, World.block_lt_of_cell? w ⟨b, o, none⟩ hc', fun i v hv => ?_⟩
   have hi : i < len * n := by
    have := (List.getElem?_eq_some_iff.1 hv).1
    rw [Z7 g n hn] at this
    simpa using this
   have hk : i / n < len := Nat.div_lt_of_lt_mul (by rw [Nat.mul_comm]; exact hi)
   have hj : i % n < n := Nat.mod_lt _ h0
   have e : i = i / n * n + i % n := by rw [Nat.mul_comm]; exact (Nat.div_add_mod i n).symm
   rw [e, flat_get g n hn _ (i / n) (i % n) (by simpa using hk) hj] at hv
   have := h (i / n) hk (i % n) v (by simpa using hv)
   rw [Addr.add_mid, ← e] at this
   exact this
instance : Inhabited Cst := ⟨⟨0, 0, [], [], []⟩⟩
section
variable {H : Type} {enc : TypeId × Value → H} {w : World}
theorem zq6 {cs : List Value} {j : Nat} (h : j < cs.length) : (cs.drop j).take 1 = [cs[j]] := by
 rw [List.drop_eq_getElem_cons h]; rfl
theorem Yi {x : Int} (h : (Lit.int .i64 x).wf = true) : ZI x := by
 simp [Lit.wf, IntKind.min, IntKind.max, IntKind.bits, IntKind.signed] at h
 unfold ZI; omega
theorem Zn5 {fuel : Nat} {A : Option Addr} {m c : Nat} {d : DataW H} {p : List MemPlace}
 (h : DataW.trod enc Tryz.prog w 0 (fun _ => true) true fuel 82 (Value.slice A m c).cells.toList = some (d, p)) :
 ∃ l, JR w A m c l ∧ Places d c := by
 have ce : Tryz.prog.cellsOf 24 = 2 := by kernel_rfl
 have c3 : Tryz.prog.cellsOf 3 = 1 := by kernel_rfl
 rcases open_slice Tryz.underlying82 h with ⟨hcs, hd⟩ | ⟨a, len, cap, mm, n, D, Pl, hcs, _, hl, hmx, hmm, hd, hi⟩
 · simp [Value.cells] at hcs
   obtain ⟨rfl, rfl, rfl⟩ := hcs
   injection hd with hd
   exact ⟨[], ⟨rfl, Nat.le_refl _, by simp [maxLen], .inl rfl, by simp⟩, .inl ⟨hd, rfl⟩⟩
 · simp [Value.cells] at hcs
   obtain ⟨rfl, rfl, rfl⟩ := hcs
   injection hd with hd
   simp only [if_true] at hmm
   have each : ∀ i, i < m → ∃ x : InsT, (w.cell? (a.add (i * 2)) = some (.int .i64 x.1) ∧ w.cell? (a.add (i * 2 + 1)) = some (.int .i64 x.2)) ∧ ZI x.1 ∧ ZI x.2 := by
    intro i him
    obtain ⟨cs', hc, ht⟩ := hi i (by omega)
    rw [ce] at hc
    obtain ⟨_, hcl, hat⟩ := World.cells?_some hc
    obtain ⟨y0, y1, n', _, _, t0, t1⟩ := trod_struct2 Tryz.underlying24 ht
    simp only [c3] at t0 t1
    rw [zq6 (by omega)] at t0 t1
    obtain ⟨z0, e0, _, f0⟩ := DataW.trod_int Tryz.underlying3 t0
    obtain ⟨z1, e1, _, f1⟩ := DataW.trod_int Tryz.underlying3 t1
    have h0 := hat 0 (by omega)
    have h1 := hat 1 (by omega)
    rw [add_add, List.getElem?_eq_getElem (by omega)] at h0 h1
    refine ⟨(z0, z1), ⟨?_, ?_⟩, Yi f0, Yi f1⟩
    · rw [Nat.add_zero] at h0
      exact h0.trans (congrArg some (List.cons.inj e0).1)
    · exact h1.trans (congrArg some (List.cons.inj e1).1)
   obtain ⟨f, hf⟩ := choose_lt each
   refine ⟨(List.range m).map f, ⟨by simp, hl, hmx, YH (n := 2) (fun _ => rfl) (by omega) (fun k hk j u hu => ?_), fun x hx => ?_⟩, .inr ⟨_, _, hd, by simp; omega⟩⟩
   · obtain ⟨⟨h0, h1⟩, _⟩ := hf k hk
     match j, hu with
     | 0, hu => simp [JG] at hu; subst hu; exact h0
     | 1, hu => simp [JG] at hu; subst hu; exact h1
     | (j + 2), hu => simp [JG] at hu
   · obtain ⟨i, hi', rfl⟩ := List.mem_map.1 hx
     exact (hf i (List.mem_range.1 hi')).2
theorem Zn4 {fuel : Nat} {A : Option Addr} {m c : Nat} {d : DataW H} {p : List MemPlace}
 (h : DataW.trod enc Tryz.prog w 0 (fun _ => true) true fuel 22 (Value.slice A m c).cells.toList = some (d, p)) :
 ∃ l, Zq w A m c l ∧ Places d c := by
 have ce : Tryz.prog.cellsOf 75 = 5 := by kernel_rfl
 have c2 : Tryz.prog.cellsOf 2 = 1 := by kernel_rfl
 have c3 : Tryz.prog.cellsOf 3 = 1 := by kernel_rfl
 have c9 : Tryz.prog.cellsOf 9 = 1 := by kernel_rfl
 rcases open_slice Tryz.underlying22 h with ⟨hcs, hd⟩ | ⟨a, len, cap, mm, n, D, Pl, hcs, _, hl, hmx, hmm, hd, hi⟩
 · simp [Value.cells] at hcs
   obtain ⟨rfl, rfl, rfl⟩ := hcs
   injection hd with hd
   exact ⟨[], ⟨rfl, Nat.le_refl _, by simp [maxLen], .inl rfl, by simp⟩, .inl ⟨hd, rfl⟩⟩
 · simp [Value.cells] at hcs
   obtain ⟨rfl, rfl, rfl⟩ := hcs
   injection hd with hd
   simp only [if_true] at hmm
   have each : ∀ i, i < m → ∃ x : Cst, (∀ j u, x.vals[j]? = some u → w.cell? (a.add (i * 5 + j)) = some u) ∧ ZI x.kind ∧ ZI x.n := by
    intro i him
    obtain ⟨cs', hc, ht⟩ := hi i (by omega)
    rw [ce] at hc
    obtain ⟨_, hcl, hat⟩ := World.cells?_some hc
    obtain ⟨ys, n', _, _, _, _, hf⟩ := DataW.trod_struct Tryz.underlying75 ht
    have t0 := hf 0 { name := "Kind", type := 3, offset := 0, embedded := false, tag := "", pkgPath := "", byteOffset := 0 } rfl
    have t1 := hf 1 { name := "N", type := 2, offset := 1, embedded := false, tag := "", pkgPath := "", byteOffset := 8 } rfl
    have t2 := hf 2 { name := "S", type := 9, offset := 2, embedded := false, tag := "", pkgPath := "", byteOffset := 16 } rfl
    have t3 := hf 3 { name := "T", type := 9, offset := 3, embedded := false, tag := "", pkgPath := "", byteOffset := 32 } rfl
    have t4 := hf 4 { name := "U", type := 9, offset := 4, embedded := false, tag := "", pkgPath := "", byteOffset := 48 } rfl
    dsimp only at t0 t1 t2 t3 t4
    rw [c3] at t0
    rw [c2] at t1
    rw [c9] at t2 t3 t4
    rw [zq6 (by omega)] at t0 t1 t2 t3 t4
    have some_of : ∀ {j : Nat} {o : Option (DataW H × List MemPlace)}, j < 5 → o = ys[j]? → ys.length = 5 → ∃ y, o = some y := fun {j o} hj ho hl => ⟨_, ho.trans (List.getElem?_eq_getElem (by omega))⟩
    have hyl : ys.length = 5 := by assumption
    obtain ⟨y0, g0⟩ := some_of (by omega) t0 hyl
    obtain ⟨y1, g1⟩ := some_of (by omega) t1 hyl
    obtain ⟨y2, g2⟩ := some_of (by omega) t2 hyl
    obtain ⟨y3, g3⟩ := some_of (by omega) t3 hyl
    obtain ⟨y4, g4⟩ := some_of (by omega) t4 hyl
    obtain ⟨z0, e0, _, f0⟩ := DataW.trod_int Tryz.underlying3 g0
    obtain ⟨z1, e1, _, f1⟩ := DataW.trod_int Tryz.underlying2 g1
    obtain ⟨z2, e2, _, _⟩ := DataW.trod_string Tryz.underlying9 g2
    obtain ⟨z3, e3, _, _⟩ := DataW.trod_string Tryz.underlying9 g3
    obtain ⟨z4, e4, _, _⟩ := DataW.trod_string Tryz.underlying9 g4
    have hcell : ∀ j (hj : j < 5), w.cell? (a.add (i * 5 + j)) = some (cs'[j]'(by omega)) := fun j hj => by
     have := hat j hj
     rw [add_add, List.getElem?_eq_getElem (by omega)] at this
     exact this
    refine ⟨⟨z0, z1, z2.data.toList, z3.data.toList, z4.data.toList⟩, fun j u hu => ?_, Yi f0, Yi f1⟩
    have hj : j < 5 := (List.getElem?_eq_some_iff.1 hu).1
    rw [hcell j hj]
    match j, hj, hu with
    | 0, _, hu => simp [Cst.vals] at hu; subst hu; exact congrArg some (List.cons.inj e0).1
    | 1, _, hu => simp [Cst.vals] at hu; subst hu; exact congrArg some (List.cons.inj e1).1
    | 2, _, hu => simp [Cst.vals] at hu; subst hu; exact congrArg some (List.cons.inj e2).1
    | 3, _, hu => simp [Cst.vals] at hu; subst hu; exact congrArg some (List.cons.inj e3).1
    | 4, _, hu => simp [Cst.vals] at hu; subst hu; exact congrArg some (List.cons.inj e4).1
   obtain ⟨f, hf⟩ := choose_lt each
   refine ⟨(List.range m).map f, ⟨by simp, hl, hmx, YH (n := 5) (fun _ => rfl) (by omega) (fun k hk j u hu => (hf k hk).1 j u hu), fun x hx => ?_⟩, .inr ⟨_, _, hd, by simp; omega⟩⟩
   obtain ⟨i, hi', rfl⟩ := List.mem_map.1 hx
   exact (hf i (List.mem_range.1 hi')).2
set_option maxRecDepth 100000 in
theorem zq5 {fuel : Nat} {cs : Array Value} {d : DataW H} {p : List MemPlace}
 (h : DataW.trod enc Tryz.prog w 0 (fun _ => true) true fuel 75 (Value.agg cs).cells.toList = some (d, p)) :
 ∃ (k n : Int) (s t u : List UInt8), cs = #[.int .i64 k, .int .i64 n, .string ⟨s.toArray⟩, .string ⟨t.toArray⟩, .string ⟨u.toArray⟩] ∧ ZI k ∧ ZI n ∧
   d = .agg [.lit (.int .i64 k), .lit (.int .i64 n), .lit (.string s), .lit (.string t), .lit (.string u)] := by
 have ce : Tryz.prog.cellsOf 75 = 5 := by kernel_rfl
 have c2 : Tryz.prog.cellsOf 2 = 1 := by kernel_rfl
 have c3 : Tryz.prog.cellsOf 3 = 1 := by kernel_rfl
 have c9 : Tryz.prog.cellsOf 9 = 1 := by kernel_rfl
 have hc : (Value.agg cs).cells.toList = cs.toList := rfl
 rw [hc] at h
 obtain ⟨ys, n', _, hx, hcl, hyl, hf⟩ := DataW.trod_struct Tryz.underlying75 h
 rw [ce] at hcl
 have t0 := hf 0 { name := "Kind", type := 3, offset := 0, embedded := false, tag := "", pkgPath := "", byteOffset := 0 } rfl
 have t1 := hf 1 { name := "N", type := 2, offset := 1, embedded := false, tag := "", pkgPath := "", byteOffset := 8 } rfl
 have t2 := hf 2 { name := "S", type := 9, offset := 2, embedded := false, tag := "", pkgPath := "", byteOffset := 16 } rfl
 have t3 := hf 3 { name := "T", type := 9, offset := 3, embedded := false, tag := "", pkgPath := "", byteOffset := 32 } rfl
 have t4 := hf 4 { name := "U", type := 9, offset := 4, embedded := false, tag := "", pkgPath := "", byteOffset := 48 } rfl
 dsimp only at t0 t1 t2 t3 t4
 rw [c3] at t0
 rw [c2] at t1
 rw [c9] at t2 t3 t4
 obtain ⟨l⟩ := cs
 match l, hcl with
 | [x0, x1, x2, x3, x4], _ =>
   match ys, hyl with
   | [y0, y1, y2, y3, y4], _ =>
     obtain ⟨z0, e0, g0, f0⟩ := DataW.trod_int Tryz.underlying3 t0
     obtain ⟨z1, e1, g1, f1⟩ := DataW.trod_int Tryz.underlying2 t1
     obtain ⟨z2, e2, g2, _⟩ := DataW.trod_string Tryz.underlying9 t2
     obtain ⟨z3, e3, g3, _⟩ := DataW.trod_string Tryz.underlying9 t3
     obtain ⟨z4, e4, g4, _⟩ := DataW.trod_string Tryz.underlying9 t4
     have q0 := (List.cons.inj e0).1
     have q1 := (List.cons.inj e1).1
     have q2 := (List.cons.inj e2).1
     have q3 := (List.cons.inj e3).1
     have q4 := (List.cons.inj e4).1
     subst q0 q1 q2 q3 q4 g0 g1 g2 g3 g4
     exact ⟨z0, z1, z2.data.toList, z3.data.toList, z4.data.toList, rfl, Yi f0, Yi f1, (Prod.mk.inj hx).1⟩
def GR (c : Cst) : DataW H := .agg [.lit (.int .i64 c.kind), .lit (.int .i64 c.n), .lit (.string c.s), .lit (.string c.t), .lit (.string c.u)]
def V7 (d : DataW H) (l : List Cst) : Prop := (d = .nil ∧ l = []) ∨ ∃ sp, d = .slice (l.map GR) sp
theorem Gh {fuel : Nat} {A : Option Addr} {m c : Nat} {d : DataW H} {p : List MemPlace}
 (h : DataW.trod enc Tryz.prog w 0 (fun _ => true) true fuel 22 (Value.slice A m c).cells.toList = some (d, p)) :
 ∃ l, Zq w A m c l ∧ V7 d l := by
 have ce : Tryz.prog.cellsOf 75 = 5 := by kernel_rfl
 rcases open_slice Tryz.underlying22 h with ⟨hcs, hd⟩ | ⟨a, len, cap, mm, n, D, Pl, hcs, _, hl, hmx, hmm, hd, hi⟩
 · simp [Value.cells] at hcs
   obtain ⟨rfl, rfl, rfl⟩ := hcs
   injection hd with hd
   exact ⟨[], ⟨rfl, Nat.le_refl _, by simp [maxLen], .inl rfl, by simp⟩, .inl ⟨hd, rfl⟩⟩
 · simp [Value.cells] at hcs
   obtain ⟨rfl, rfl, rfl⟩ := hcs
   injection hd with hd
   simp only [if_true] at hmm
   have each : ∀ i, i < m → ∃ x : Cst, (∀ j u, x.vals[j]? = some u → w.cell? (a.add (i * 5 + j)) = some u) ∧ ZI x.kind ∧ ZI x.n ∧ D i = GR x := by
    intro i him
    obtain ⟨cs', hc, ht⟩ := hi i (by omega)
    rw [ce] at hc
    obtain ⟨_, hcl, hat⟩ := World.cells?_some hc
    obtain ⟨k, n', s, t, u, hcs', f0, f1, hdd⟩ := zq5 (cs := cs'.toArray) (by simpa [Value.cells] using ht)
    have hcs'' : cs' = (⟨k, n', s, t, u⟩ : Cst).vals := by
     have := congrArg Array.toList hcs'
     simpa [Cst.vals] using this
    refine ⟨⟨k, n', s, t, u⟩, fun j v hv => ?_, f0, f1, hdd⟩
    have hj : j < 5 := (List.getElem?_eq_some_iff.1 hv).1
    have := hat j hj
    rw [add_add, hcs'', hv] at this
    exact this
   obtain ⟨f, hf⟩ := choose_lt each
   refine ⟨(List.range m).map f, ⟨by simp, hl, hmx, YH (n := 5) (fun _ => rfl) (by omega) (fun k hk j u hu => (hf k hk).1 j u hu), fun x hx => ?_⟩, .inr ⟨(List.range (mm - m)).map fun j => D (m + j), ?_⟩⟩
   · obtain ⟨i, hi', rfl⟩ := List.mem_map.1 hx
     exact ⟨(hf i (List.mem_range.1 hi')).2.1, (hf i (List.mem_range.1 hi')).2.2.1⟩
   · have hmap : (List.range m).map D = (List.range m).map (GR ∘ f) := List.map_congr_left fun i hi' => (hf i (List.mem_range.1 hi')).2.2.2
     rw [hd, List.map_map, hmap]
theorem Gb {ts : List TypeId} {ds : List (DataW H)} (h : (DataW.weightsEach Tryz.prog ts ds).all (· ≤ reachBytes) = true) {j : Nat} {d : DataW H} {l : List Cst} (ht : ts[j]? = some 22)
 (hd : ds[j]? = some d) (hp : V7 d l) : ∀ x ∈ l, x.s.length ≤ 140737488351232 ∧ x.t.length ≤ 140737488351232 ∧ x.u.length ≤ 140737488351232 := by
 intro x hx
 rcases hp with ⟨_, rfl⟩ | ⟨sp, rfl⟩
 · cases hx
 · have hm : ∀ l : List Cst, x ∈ l → ∀ q ∈ (GR (H := H) x).weights Tryz.prog 75, q ∈ DataW.weightsAll Tryz.prog 75 (l.map (GR (H := H))) := by
    intro l
    induction l with
    | nil => intro h; cases h
    | cons y r ih =>
      intro h q hq
      simp only [List.map_cons, DataW.weightsAll, List.mem_append]
      rcases List.mem_cons.1 h with rfl | h
      · exact .inl hq
      · exact .inr (ih h q hq)
   have hall : ∀ q ∈ (GR (H := H) x).weights Tryz.prog 75, q ≤ 140737488351232 := fun q hq => by
    have := List.all_eq_true.1 h _ (DataW.weights_mem_each ht hd q (by
     simp only [DataW.weights, Tryz.underlying22, List.mem_cons, List.mem_append]
     exact .inr (.inl (hm l hx q hq))))
    exact of_decide_eq_true this
   unfold GR at hall
   simp only [DataW.weights, Tryz.underlying75] at hall
   refine ⟨hall _ ?_, hall _ ?_, hall _ ?_⟩ <;> simp [DataW.weightsEach, DataW.weights]
end
end OpenS
namespace OpenG
open Go.RowKit Go.ChangeShapes Go.WideShapes Go.Deep Base Stru Opened OpenS
def Light {H : Type} (P : Program) (t : TypeId) (d : DataW H) : Prop := ∀ q ∈ d.weights P t, q ≤ 140737488351232
section
variable {H : Type} {enc : TypeId × Value → H} {w : World} {P : Program}
theorem Light.zc7 {ts : List TypeId} {ds : List (DataW H)} (h : (DataW.weightsEach P ts ds).all (· ≤ reachBytes) = true) {j : Nat} {t : TypeId} {d : DataW H} (ht : ts[j]? = some t) (hd : ds[j]? = some d) : Light P t d :=
 fun q hq => of_decide_eq_true (List.all_eq_true.1 h _ (DataW.weights_mem_each ht hd q hq))
theorem Light.field {t : TypeId} {fs : Array Field} (hu : P.underlying t = some (.struct fs)) {ds : List (DataW H)} (h : Light P t (.agg ds)) {i : Nat} {f : Field} {d : DataW H} (hf : fs[i]? = some f) (hd : ds[i]? = some d) : Light P f.type d := by
 intro q hq
 apply h
 simp only [DataW.weights, hu]
 exact DataW.weights_mem_each (by rw [List.getElem?_map]; simp [hf]) hd q hq
theorem zd3 {e : TypeId} {d : DataW H} {q : Nat} (hq : q ∈ d.weights P e) : ∀ {l : List (DataW H)}, d ∈ l → q ∈ DataW.weightsAll P e l
 | x :: r, h => by
   simp only [DataW.weightsAll, List.mem_append]
   rcases List.mem_cons.1 h with rfl | h
   · exact .inl hq
   · exact .inr (zd3 hq h)
theorem Light.elem {t e : TypeId} (hu : P.underlying t = some (.slice e)) {l sp : List (DataW H)} (h : Light P t (.slice l sp)) {d : DataW H} (hd : d ∈ l) : Light P e d := by
 intro q hq
 apply h
 simp only [DataW.weights, hu, List.mem_cons, List.mem_append]
 exact .inr (.inl (zd3 hq hd))
theorem Light.text {t : TypeId} {s : List UInt8} (h : Light (H := H) P t (.lit (.string s))) : s.length ≤ 140737488351232 := h _ (by simp [DataW.weights])
theorem KS {fuel : Nat} {t : TypeId} {fs : Array Field} {cs : List Value} {d : DataW H} {p : List MemPlace} (hu : P.underlying t = some (.struct fs))
 (h : DataW.trod enc P w 0 (fun _ => true) true fuel t cs = some (d, p)) (hl : Light P t d) :
 cs.length = P.cellsOf t ∧ ∀ (i : Nat) (f : Field), fs[i]? = some f → ∃ n y q, DataW.trod enc P w 0 (fun _ => true) true n f.type ((cs.drop f.offset).take (P.cellsOf f.type)) = some (y, q) ∧ Light P f.type y := by
 obtain ⟨ys, n, _, hx, hcl, hyl, hf⟩ := DataW.trod_struct hu h
 refine ⟨hcl, fun i f hi => ?_⟩
 have hlt : i < ys.length := by rw [hyl]; exact (Array.getElem?_eq_some_iff.1 hi).1
 refine ⟨n, (ys[i]).1, (ys[i]).2, (hf i f hi).trans (List.getElem?_eq_getElem hlt), ?_⟩
 obtain ⟨rfl, _⟩ := Prod.mk.inj hx
 exact hl.field hu hi (by rw [List.getElem?_map, List.getElem?_eq_getElem hlt]; rfl)
theorem Kk {n : Nat} {t : TypeId} {x : Value} {d : DataW H} {p : List MemPlace} (hu : P.underlying t = some (.int .i64)) (h : DataW.trod enc P w 0 (fun _ => true) true n t [x] = some (d, p)) :
 ∃ z : Int, x = .int .i64 z ∧ ZI z := by
 obtain ⟨z, e, _, f⟩ := DataW.trod_int hu h
 exact ⟨z, (List.cons.inj e).1, Yi f⟩
theorem open_list {α : Type} [Inhabited α] {T E : TypeId} {k : Nat} (hu : P.underlying T = some (.slice E)) (hc : P.cellsOf E = k) (h0 : 0 < k) (vals : α → List Value) (ok : α → Prop) (hlen : ∀ x, (vals x).length = k)
 (elem : ∀ (n : Nat) (cs : List Value) (d : DataW H) (p : List MemPlace), DataW.trod enc P w 0 (fun _ => true) true n E cs = some (d, p) → Light P E d → ∃ x, cs = vals x ∧ ok x)
 {fuel : Nat} {cs : List Value} {d : DataW H} {p : List MemPlace} (h : DataW.trod enc P w 0 (fun _ => true) true fuel T cs = some (d, p)) (hl : Light P T d) :
 ∃ (A : Option Addr) (m c : Nat) (l : List α), cs = [.slice A m c] ∧ m = l.length ∧ m ≤ c ∧ c ≤ maxLen ∧ Rds w A (l.flatMap vals) ∧ ∀ x ∈ l, ok x := by
 rcases open_slice hu h with ⟨hcs, hd⟩ | ⟨a, len, cap, mm, n, D, Pl, hcs, _, hle, hmx, hmm, hd, hi⟩
 · exact ⟨none, 0, 0, [], hcs, rfl, Nat.le_refl _, by simp [maxLen], .inl rfl, by simp⟩
 · obtain ⟨rfl, _⟩ := Prod.mk.inj hd
   simp only [if_true] at hmm
   have each : ∀ i, i < len → ∃ x : α, (∀ j u, (vals x)[j]? = some u → w.cell? (a.add (i * k + j)) = some u) ∧ ok x := by
    intro i him
    obtain ⟨cs', hc', ht⟩ := hi i (by omega)
    rw [hc] at hc'
    obtain ⟨_, hcl, hat⟩ := World.cells?_some hc'
    obtain ⟨x, rfl, hok⟩ := elem n cs' (D i) (Pl i) ht (hl.elem hu (List.mem_map.2 ⟨i, List.mem_range.2 him, rfl⟩))
    refine ⟨x, fun j u hu' => ?_, hok⟩
    have hj : j < k := by have := (List.getElem?_eq_some_iff.1 hu').1; rw [hlen] at this; exact this
    have := hat j hj
    rw [add_add] at this
    rw [this, hu']
   obtain ⟨f, hf⟩ := choose_lt each
   refine ⟨some a, len, cap, (List.range len).map f, hcs, by simp, hle, hmx, YH (n := k) hlen h0 (fun i hi' j u hu' => (hf i hi').1 j u hu'), fun x hx => ?_⟩
   obtain ⟨i, hi', rfl⟩ := List.mem_map.1 hx
   exact (hf i (List.mem_range.1 hi')).2
end
end OpenG
namespace OpenK
open Go.RowKit Go.ChangeShapes Go.WideShapes Go.Deep Base Stru Opened OpenS OpenG Kls
def ZA.lt (x : ZA) : Prop := x.name.length ≤ 140737488351232 ∧ x.desc.length ≤ 140737488351232
def qJ.lt (x : qJ) : Prop := x.cls.length ≤ 140737488351232
def CstT.lt (x : Cst) : Prop := x.s.length ≤ 140737488351232 ∧ x.t.length ≤ 140737488351232 ∧ x.u.length ≤ 140737488351232
structure zO.lt (x : zO) : Prop where
 name : x.name.length ≤ 140737488351232
 sig : x.sig.length ≤ 140737488351232
 hand : ∀ h ∈ x.hand, qJ.lt h
structure zf.lt (x : zf) : Prop where
 name : x.name.length ≤ 140737488351232
 sup : x.sup.length ≤ 140737488351232
 consts : ∀ h ∈ x.consts, CstT.lt h
 fields : ∀ h ∈ x.fields, ZA.lt h
 meths : ∀ h ∈ x.meths, zO.lt h
instance : Inhabited ZA := ⟨⟨[], []⟩⟩
instance : Inhabited qJ := ⟨⟨0, 0, 0, []⟩⟩
instance : Inhabited zO := ⟨⟨[], [], 0, none, 0, 0, none, 0, 0, [], []⟩⟩
instance : Inhabited zf := ⟨⟨[], [], none, 0, 0, none, 0, 0, none, 0, 0, [], [], []⟩⟩
def zf.vals (x : zf) : List Value := [.string ⟨x.name.toArray⟩, .string ⟨x.sup.toArray⟩, .slice x.kA x.km x.kc, .slice x.fA x.fm x.fc, .slice x.mA x.mm x.mc]
section
variable {H : Type} {enc : TypeId × Value → H} {w : World}
abbrev Tr (enc : TypeId × Value → H) (w : World) (n : Nat) (t : TypeId) (cs : List Value) (d : DataW H) (p : List MemPlace) : Prop := DataW.trod enc Tryz.prog w 0 (fun _ => true) true n t cs = some (d, p)
set_option maxRecDepth 100000 in
theorem zq3 {n : Nat} {cs : List Value} {d : DataW H} {p : List MemPlace} (h : Tr enc w n 24 cs d p) (hl : Light Tryz.prog 24 d) : ∃ x : InsT, cs = JG x ∧ ZI x.1 ∧ ZI x.2 := by
 have ce : Tryz.prog.cellsOf 24 = 2 := by kernel_rfl
 obtain ⟨hcl, hf⟩ := KS Tryz.underlying24 h hl
 rw [ce] at hcl
 obtain ⟨n0, y0, q0, t0, l0⟩ := hf 0 { name := "Op", type := 3, offset := 0, embedded := false, tag := "", pkgPath := "", byteOffset := 0 } rfl
 dsimp only at t0 l0
 rw [show Tryz.prog.cellsOf 3 = 1 by kernel_rfl] at t0
 obtain ⟨n1, y1, q1, t1, l1⟩ := hf 1 { name := "A", type := 3, offset := 1, embedded := false, tag := "", pkgPath := "", byteOffset := 8 } rfl
 dsimp only at t1 l1
 rw [show Tryz.prog.cellsOf 3 = 1 by kernel_rfl] at t1
 match cs, hcl with
 | [x0, x1], _ =>
   obtain ⟨s0, rfl, b0⟩ := Kk Tryz.underlying3 t0
   obtain ⟨s1, rfl, b1⟩ := Kk Tryz.underlying3 t1
   exact ⟨(s0, s1), rfl, b0, b1⟩
end
end OpenK
end Go.Proofs.YtehainbhoflpnaaGreatDoor
