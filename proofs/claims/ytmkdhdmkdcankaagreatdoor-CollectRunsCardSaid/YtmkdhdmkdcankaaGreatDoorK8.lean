/- pieces -/
import Derived.Test.YtmkdhdmkdcankaaGreatDoorProg
import Derived.Test.YtmkdhdmkdcankaaGreatDoorK1
import Derived.LoopTactic
import Derived.WalkSpells
import Derived.Lib.AppendZeros
import Derived.Lib.AppendZerosOnto
import Derived.Deep.AppendLies
import Derived.Maps.OwnSet
import Derived.Outline
namespace Go.Proofs.YtmkdhdmkdcankaaGreatDoor
namespace HpM
open Go.RowKit Base BinM
def Bx (w : World) (g : Nat) (C : Array Value) (ty : TypeId) : Prop := w.heap[g]? = some (.cells C ty (0, 0))
theorem Bx.cell {w : World} {g : Nat} {C : Array Value} {ty : TypeId} (h : Bx w g C ty) (j : Nat) : w.cell? ⟨g, j, none⟩ = C[j]? := cell_of_row _ _ _ _ _ (0, 0) h
theorem Bx.free {w : World} {g : Nat} {C : Array Value} {ty : TypeId} (h : Bx w g C ty) (j : Nat) : w.frozen? ⟨g, j, none⟩ = false := frozen_of_row w _ j _ _ h
theorem Bx.set {w : World} {g : Nat} {C : Array Value} {ty : TypeId} (h : Bx w g C ty) (j : Nat) (v : Value) : Bx (w.setCell ⟨g, j, none⟩ v) g (C.setIfInBounds j v) ty := heap_setCell_same w g j C ty v h
theorem Bx.beside {w : World} {g b : Nat} {C : Array Value} {ty : TypeId} (h : Bx w g C ty) (j : Nat) (v : Value) (hn : g ≠ b) : Bx (w.setCell ⟨b, j, none⟩ v) g C ty := (heap_setCell_other w ⟨b, j, none⟩ g v hn).trans h
theorem Bx.lt {w : World} {g : Nat} {C : Array Value} {ty : TypeId} (h : Bx w g C ty) : g < w.heap.size := by
 rcases Nat.lt_or_ge g w.heap.size with hl | hl
 · exact hl
 · unfold Bx at h; rw [Array.getElem?_eq_none hl] at h; cases h
theorem Bx.new (w : World) (C : Array Value) (ty : TypeId) : Bx (w.alloc (.cells C ty)) w.heap.size C ty := heap_alloc_new w _
theorem Bx.after {w w' : World} {g : Nat} {C : Array Value} {ty : TypeId} (h : Bx w g C ty) (hb : Below w.heap.size w w') : Bx w' g C ty := (hb.block g h.lt).trans h
theorem ze {w w' : World} {base : Nat} {e : TypeId} {size n : Nat} {v : Value} {xs : List Value} (h : w.ownsRow base e size v n xs) (hb : ∀ k, v.ownBlock = some k → w'.heap[k]? = w.heap[k]?) : w'.ownsRow base e size v n xs := by
 obtain ⟨h1, h2⟩ := h
 refine ⟨h1, ?_⟩
 rcases h2 with h2 | ⟨g, cap, cur, rfl, b, c, d⟩
 · exact .inl h2
 · exact .inr ⟨g, cap, cur, rfl, b, (hb g rfl).trans c, d⟩
def zo (x : Int) : Prop := -9223372036854775808 ≤ x ∧ x ≤ 9223372036854775807
theorem UU {x : Int} (h : zo x) : (Lit.int .i64 x).wf = true := by
 unfold zo at h
 simp [Lit.wf, IntKind.min, IntKind.max, IntKind.bits, IntKind.signed]; omega
def zT (w : World) (base : Nat) (v : Value) (l : List Int) : Prop := w.ownsRow base 2 1 v l.length (l.map (Value.int .i64))
theorem Qv : (Tryz.prog.info? 2).map (fun i => (i.zero, i.size, i.bytes)) = some (some (.int .i64 0), 1, 8) := by kernel_rfl
theorem oneI (l : List Int) : ∀ u ∈ l.map (Value.int .i64), u.oneCell' = true := by
 intro u hu
 obtain ⟨x, _, rfl⟩ := List.mem_map.1 hu
 rfl
theorem JG {P : Program} {w : World} (base : Nat) (t tn ty e : TypeId) (i : TypeInfo) (z : Value) (kq kn : IntKind) (bytes : Nat) (ht : P.underlying t = some (.slice e)) (htn : P.underlying tn = some (.int kn)) (hi : P.info? e = some i) (hz : i.zero = some z)
 (hsize : i.size = 1) (hby : i.bytes = bytes) (hzs : z.cells = #[z]) (hz1 : z.oneCell' = true)
 (v : Value) (n : Nat) (xs : List Value) (hown : w.ownsRow base e 1 v n xs) (k : Nat)
 (h63 : n + k ≤ maxLen) (hbytes : ((n + k) + (n + k) / 4 + 192) * bytes ≤ 281474976710656) (hbase : base ≤ w.heap.size) :
 ∃ v' w', (Builtin.append_ #[t, tn] ty #[v, .int kq k]).run P w = .ok v' w' ∧ w'.ownsRow base e 1 v' (n + k) (xs ++ List.replicate k z) ∧ w.grownBy w' v.ownBlock ∧ (v'.ownBlock = v.ownBlock ∨ v'.ownBlock = some w.heap.size) := by
 have hsmall : n + k ≤ 9223372036854775807 := by simp only [maxLen] at h63; omega
 have hrep : (Builtin.zeroCells z.cells k).toList = List.replicate k z := by
  rw [hzs]
  unfold Builtin.zeroCells
  apply List.ext_getElem?
  intro j
  by_cases hj : j < k
  · simp [hj, Nat.mod_one]
  · simp [hj]
 have hlen : (xs ++ List.replicate k z).length = (n + k) * 1 := by rw [List.length_append, hown.1, List.length_replicate]; omega
 have hz1s : z.cells.size = 1 := by rw [hzs]; rfl
 have h48 : k * i.bytes ≤ 281474976710656 := by
  rw [hby]
  refine Nat.le_trans (Nat.mul_le_mul_right _ ?_) hbytes
  omega
 have hw : IntKind.i64.wrap (k : Int) = k := by rw [IntKind.wrap_i64]; omega
 have h48i : ¬ (281474976710656 < (k : Int) * (i.bytes : Int)) := by
  rw [← Int.natCast_mul]
  omega
 have hneg : ¬ ((k : Int) < 0) := by omega
 have grown : ∀ (old : Nat), old < n + k → ∀ (row : Option Nat),
  (w.drew.alloc (.cells (xs.toArray ++ Builtin.zeroCells z.cells k ++ Builtin.zeroCells z.cells (grownCap w (n + k) old e - (n + k))) e)).ownsRow base e 1
   (.slice (some ⟨w.heap.size, 0, none⟩) (n + k) (grownCap w (n + k) old e)) (n + k) (xs ++ List.replicate k z) ∧
  w.grownBy (w.drew.alloc (.cells (xs.toArray ++ Builtin.zeroCells z.cells k ++ Builtin.zeroCells z.cells (grownCap w (n + k) old e - (n + k))) e)) row := by
  intro old ho row
  have hge := grownCap_ge w (n + k) old e
  have hcm : grownCap w (n + k) old e ≤ maxLen := grownCap_le_maxLen w (n + k) old e h63
  refine ⟨⟨hlen, .inr ⟨w.heap.size, _, _, rfl, hbase, heap_alloc_new w.drew _, hge, hcm, ?_, ?_⟩⟩, ⟨rfl, rfl, rfl, by simp, fun j hj hn => (World.grownBy_alloc w.drew _ row).block j hj hn⟩⟩
  · simp only [Array.size_append, List.size_toArray, size_zeroCells, hz1s, hown.1]
    omega
  · simp only [Array.toList_append, List.append_assoc, hrep]
    rw [← List.append_assoc, ← hlen]
    exact List.take_left
 rcases hown.2 with ⟨rfl, rfl⟩ | ⟨g, cap, cur, rfl, hbg, hg, hnc, hcm, hcs, htake⟩
 · have hx : xs = [] := List.eq_nil_of_length_eq_zero (by simpa using hown.1)
   subst hx
   by_cases hk : k = 0
   · subst hk
     refine ⟨.slice none 0 0, w, ?_, World.ownsRow_nil w base e 1, ⟨rfl, rfl, rfl, Nat.le_refl _, fun _ _ _ => rfl⟩, .inl rfl⟩
     simp [Builtin.append_, run_underlying ht, run_underlying htn, sizeOf, typeInfo, zeroValue, hi, hz, asInt, asIntOf, Question.forced, IntKind.wrap_i64]
   · have hr := Lib.run_append_nil_zeros (P := P) w t tn ty e i z kq kn ht htn hi hz k (by omega) (by omega) (by omega) h48
     have hgr := grown 0 (by omega) (Value.ownBlock (.slice none 0 0))
     simp only [Nat.zero_add, List.nil_append, Array.empty_append] at hgr ⊢
     exact ⟨_, _, hr, hgr.1, hgr.2, .inr rfl⟩
 · by_cases hroom : n + k ≤ cap
   · have hfit : n + (List.replicate k z).length ≤ cur.size := by rw [List.length_replicate, hcs]; omega
     refine ⟨.slice (some ⟨g, 0, none⟩) (n + k) cap, w.setRow g (cur.toList.take (n + 0) ++ List.replicate k z ++ cur.toList.drop (n + 0 + (List.replicate k z).length)).toArray, ?_, ⟨hlen, .inr ⟨g, cap, _, rfl, hbg, setRow_heap w g cur _ e _ hg, hroom, hcm, ?_, ?_⟩⟩, ⟨rfl, rfl, rfl, by simp, fun k _ hk => setRow_other w g k _ (fun e => hk (by simp [Value.ownBlock, e]))⟩, .inl rfl⟩
     · have hst := run_storeCells_at P g n e (List.replicate k z) 0 cur w hg (by simpa using hfit) (fun u hu => by rw [List.eq_of_mem_replicate hu]; exact hz1)
       by_cases hk : k = 0
       · subst hk
         simp [storeCells] at hst
         simp [Builtin.append_, run_underlying ht, run_underlying htn, sizeOf, typeInfo, zeroValue, hi, hz, asInt, asIntOf, hnc, Question.forced, Addr.add_lit, storeCells, IntKind.wrap_i64, setRow_self w g cur e (0, 0) hg]
       · simp [Builtin.append_, run_underlying ht, run_underlying htn, sizeOf, typeInfo, zeroValue, hi, hz, hsize, asInt, asIntOf, hw, hneg, h48i, hroom, hk, Question.forced, Addr.add_lit, hrep, hst]
     · simp only [List.size_toArray, List.length_append, List.length_take, List.length_drop, Array.length_toList]
       omega
     · have h1 : cur.toList.take (n + 0) = xs := by rw [← htake]; simp
       rw [h1, ← hlen]
       exact List.take_left
   · have holds : ∀ j u, xs[j]? = some u → w.cell? ((⟨g, 0, none⟩ : Addr).add j) = some u := hown.cells (g := g) rfl
     have hgs : Builtin.nextslicecap (n + k) cap * i.bytes ≤ 281474976710656 := by rw [hby]; exact growslice_fits_wide (by omega) hbytes
     have hold := run_firstCells_some (P := P) w.drew i.size n ⟨g, 0, none⟩ n cap xs (by rw [hsize]; exact hown.1) holds
     have hr := Lib.run_append_grow_zeros (P := P) w t tn ty e i z kq kn ht htn hi hz (some ⟨g, 0, none⟩) n cap xs hold k (by omega) (by omega) (by omega) (by omega) h48 hgs
     have hgr := grown cap (by omega) (Value.ownBlock (.slice (some ⟨g, 0, none⟩) n cap))
     exact ⟨_, _, hr, hgr.1, hgr.2, .inr rfl⟩
structure Turned (F : Nat → Prop) (w w' : World) : Prop where
 os : w'.os = w.os
 tape : w'.tape = w.tape
 output : w'.output = w.output
 size : w.heap.size ≤ w'.heap.size
 block : ∀ k, k < w.heap.size → ¬ F k → w'.heap[k]? = w.heap[k]?
theorem Turned.refl (F : Nat → Prop) (w : World) : Turned F w w := ⟨rfl, rfl, rfl, Nat.le_refl _, fun _ _ _ => rfl⟩
theorem Turned.of_below {F : Nat → Prop} {w w' : World} (h : Below w.heap.size w w') : Turned F w w' := ⟨h.os, h.tape, h.output, h.size, fun k hk _ => h.block k hk⟩
theorem Turned.J6 {F : Nat → Prop} {w w' : World} {row : Option Nat} (h : w.grownBy w' row) (hF : ∀ k, row = some k → F k) : Turned F w w' := ⟨h.os, h.tape, h.output, h.size, fun k hk hn => h.block k hk (fun e => hn (hF k e.symm))⟩
theorem Turned.Yd {F : Nat → Prop} (w : World) {a : Addr} (hF : F a.block) (v : Value) : Turned F w (w.setCell a v) :=
 ⟨rfl, rfl, rfl, by simp, fun k _ hn => heap_setCell_other w a k v (fun e => hn (by rw [e]; exact hF))⟩
theorem Turned.trans {F G : Nat → Prop} {a b c : World} (h : Turned F a b) (k : Turned G b c) (hG : ∀ j, G j → F j ∨ a.heap.size ≤ j) : Turned F a c :=
 ⟨k.os.trans h.os, k.tape.trans h.tape, k.output.trans h.output, Nat.le_trans h.size k.size, fun j hj hn => (k.block j (Nat.lt_of_lt_of_le hj h.size) (fun g => by
  rcases hG j g with h1 | h1
  · exact hn h1
  · omega)).trans (h.block j hj hn)⟩
theorem Turned.mono {F G : Nat → Prop} {a b : World} (h : Turned F a b) (hG : ∀ j, F j → G j) : Turned G a b := ⟨h.os, h.tape, h.output, h.size, fun j hj hn => h.block j hj (fun f => hn (hG j f))⟩
theorem Turned.below {F : Nat → Prop} {w w' : World} {B : Nat} (h : Turned F w w') (hB : ∀ k, F k → B ≤ k) (hs : B ≤ w.heap.size) : Below B w w' :=
 ⟨h.os, h.tape, h.output, h.size, fun k hk => h.block k (by omega) (fun f => by have := hB k f; omega)⟩
abbrev DW := DataW Unit
theorem UM : Maps.Keyed Tryz.prog 2 := Maps.int_keyed Tryz.underlying2
theorem Yu (w : World) : (zeroValue 2).run Tryz.prog w = .ok (.int .i64 0) w := by kernel_rfl
theorem ZL {H : Type} {P : Program} {k : TypeId} {R : Value → Option (DataW H × List MemPlace)} {w w' : World} {b n : Nat} {D : DataW H} (h : w.ownsMap P k R b n D) (hb : w'.heap[b]? = w.heap[b]?) : w'.ownsMap P k R b n D := by
 obtain ⟨es, clock, h1, h2⟩ := h
 exact ⟨es, clock, hb.trans h1, h2⟩
def UO (w : World) (b n : Nat) (f : Int → Option Int) : Prop :=
 ∃ D : DW, w.ownsMap Tryz.prog 2 (plainElem Tryz.prog 2) b n D ∧ Maps.IsMap D ∧
   ∀ c, (f c = none → Maps.has D (.int .i64 c) = false ∧ D.atKey (.int .i64 c) (.lit (.int .i64 0)) = .lit (.int .i64 0)) ∧ (∀ i, f c = some i → Maps.has D (.int .i64 c) = true ∧ D.atKey (.int .i64 c) (.lit (.int .i64 0)) = .lit (.int .i64 i))
theorem UO.block {w w' : World} {b n : Nat} {f : Int → Option Int} (h : UO w b n f) (hb : w'.heap[b]? = w.heap[b]?) : UO w' b n f := by
 obtain ⟨D, h1, h2⟩ := h
 exact ⟨D, ZL h1 hb, h2⟩
theorem UO.lt {w : World} {b n : Nat} {f : Int → Option Int} (h : UO w b n f) : b < w.heap.size := by
 obtain ⟨D, h1, _⟩ := h
 exact h1.lt
theorem YR (w : World) : UO (w.alloc (.map #[] 0)) w.heap.size 0 (fun _ => none) := by
 refine ⟨.map [], World.ownsMap_made w _ _ _, Maps.isMap_empty, fun c => ⟨fun _ => ⟨rfl, rfl⟩, fun i h => ?_⟩⟩
 cases h
theorem XR {w : World} {b n : Nat} {f : Int → Option Int} (h : UO w b n f) (hn : n ≤ 90000) (c v : Int) (hc : zo c) (hv : zo v) :
 ∃ w', (Instr.mapUpdate 111 (.map (some b)) (.int .i64 c) (.int .i64 v)).run Tryz.prog w = .ok () w' ∧ w.grownBy w' (some b) ∧ UO w' b (n + 1) (fun c' => if c' = c then some v else f c') := by
 obtain ⟨D, hown, hD, hall⟩ := h
 have hkey : keyOf Tryz.prog 2 (.int .i64 c) = some (.int .i64 c) := Go.Maps.keyOf_int_mk Tryz.underlying2 (UU hc)
 obtain ⟨w', hrun, h1, h2⟩ := hown.update UM Tryz.underlying111 (by unfold maxLen; omega) hkey (plainElem_int Tryz.underlying2 (UU hv))
 refine ⟨w', hrun, h2, _, h1, hD.put _ _, fun c' => ?_⟩
 simp only
 by_cases e : c' = c
 · subst e
   rw [if_pos rfl]
   refine ⟨fun h => ?_, fun j hj => ?_⟩
   · cases h
   · cases hj
     exact ⟨Maps.has_put_same hD (by trivial) _, Maps.atKey_put_same hD (by trivial) _ _⟩
 · rw [if_neg e]
   have hne : (Lit.int .i64 c') ≠ Lit.int .i64 c := by intro h; injection h with _ h; exact e h
   obtain ⟨k1, k2⟩ := hall c'
   refine ⟨fun h => ?_, fun j hj => ?_⟩
   · rw [Maps.has_put_other hne, Maps.atKey_put_other hne]; exact k1 h
   · rw [Maps.has_put_other hne, Maps.atKey_put_other hne]
     exact k2 j hj
def zQ (g mb : Nat) (Aw Aa : Option Addr) : Nat → Prop := fun k => k = g ∨ k = mb ∨ (∃ a, Aw = some a ∧ a.block = k) ∨ (∃ a, Aa = some a ∧ a.block = k)
structure HpX (w : World) (g mb : Nat) (Aw : Option Addr) (cw : Nat) (Aa : Option Addr) (ca : Nat) (most : Nat) (ws al : List Int) (n : Nat) (f : Int → Option Int) : Prop where
 box : Bx w g #[.int .i64 most, .slice Aw ws.length cw, .slice Aa al.length ca, .map (some mb)] 113
 row : zT w 0 (.slice Aw ws.length cw) ws
 adr : zT w 0 (.slice Aa al.length ca) al
 map : UO w mb n f
 wg : ∀ a, Aw = some a → a.block ≠ g ∧ a.block ≠ mb
 ag : ∀ a, Aa = some a → a.block ≠ g ∧ a.block ≠ mb
 wa : ∀ a b, Aw = some a → Aa = some b → a.block ≠ b.block
 gm : g ≠ mb
theorem QI {w : World} {A : Option Addr} {c : Nat} {l : List Int} {base : Nat} (h : zT w base (.slice A l.length c) l) {a : Addr} (ha : A = some a) : a.block < w.heap.size ∧ base ≤ a.block := by
 subst ha
 exact ⟨(h.lt _ rfl).2, (h.lt _ rfl).1⟩
theorem HpX.lt {w : World} {g mb : Nat} {Aw : Option Addr} {cw : Nat} {Aa : Option Addr} {ca most : Nat} {ws al : List Int} {n : Nat} {f : Int → Option Int} (H : HpX w g mb Aw cw Aa ca most ws al n f) {k : Nat} (hk : zQ g mb Aw Aa k) : k < w.heap.size := by
 rcases hk with rfl | rfl | ⟨a, h1, rfl⟩ | ⟨a, h1, rfl⟩
 · exact H.box.lt
 · exact H.map.lt
 · exact (QI H.row h1).1
 · exact (QI H.adr h1).1
theorem HpX.aside {w w' : World} {g mb : Nat} {Aw : Option Addr} {cw : Nat} {Aa : Option Addr} {ca most : Nat} {ws al : List Int} {n : Nat} {f : Int → Option Int} (H : HpX w g mb Aw cw Aa ca most ws al n f) (hb : ∀ k, zQ g mb Aw Aa k → w'.heap[k]? = w.heap[k]?) : HpX w' g mb Aw cw Aa ca most ws al n f := by
 obtain ⟨h1, h2, h3, h4, h5, h6, h7, h8⟩ := H
 refine ⟨(hb g (.inl rfl)).trans h1, ze h2 (fun k hk => hb k ?_), ze h3 (fun k hk => hb k ?_), h4.block (hb mb (.inr (.inl rfl))), h5, h6, h7, h8⟩
 · cases Aw with
   | none => cases hk
   | some a => injection hk with hk; exact .inr (.inr (.inl ⟨a, rfl, hk⟩))
 · cases Aa with
   | none => cases hk
   | some a => injection hk with hk; exact .inr (.inr (.inr ⟨a, rfl, hk⟩))
def Y0 (w w' : World) (F : Nat → Prop) (g mb most : Nat) (ws al : List Int) (n : Nat) (f : Int → Option Int) : Prop :=
 ∃ Aw cw Aa ca, HpX w' g mb Aw cw Aa ca most ws al n f ∧ Turned F w w' ∧ ∀ k, zQ g mb Aw Aa k → F k ∨ w.heap.size ≤ k
theorem zK {A : Option Addr} {n c : Nat} {k : Nat} (h : (Value.slice A n c).ownBlock = some k) : ∃ a, A = some a ∧ a.block = k := by
 cases A with
 | none => cases h
 | some a => exact ⟨a, rfl, by injection h⟩
section
variable {w w1 : World} {g mb : Nat} {Aw : Option Addr} {cw : Nat} {Aa : Option Addr} {ca most : Nat} {ws al : List Int} {n : Nat} {f : Int → Option Int}
theorem HpX.grewW (H : HpX w g mb Aw cw Aa ca most ws al n f) (hg : w.grownBy w1 (Value.slice Aw ws.length cw).ownBlock) : Bx w1 g #[.int .i64 most, .slice Aw ws.length cw, .slice Aa al.length ca, .map (some mb)] 113 :=
 (hg.block g H.box.lt (fun e => by obtain ⟨a, h1, h2⟩ := zK e.symm; exact (H.wg a h1).1 h2)).trans H.box
theorem HpX.grewA (H : HpX w g mb Aw cw Aa ca most ws al n f) (hg : w.grownBy w1 (Value.slice Aa al.length ca).ownBlock) : Bx w1 g #[.int .i64 most, .slice Aw ws.length cw, .slice Aa al.length ca, .map (some mb)] 113 :=
 (hg.block g H.box.lt (fun e => by obtain ⟨a, h1, h2⟩ := zK e.symm; exact (H.ag a h1).1 h2)).trans H.box
theorem HpX.putW (H : HpX w g mb Aw cw Aa ca most ws al n f) (hg : w.grownBy w1 (Value.slice Aw ws.length cw).ownBlock) {b c : Nat} {ws' : List Int}
 (hown : zT w1 0 (.slice (some ⟨b, 0, none⟩) ws'.length c) ws') (hat : (Value.slice Aw ws.length cw).ownBlock = some b ∨ w.heap.size ≤ b) :
 HpX (w1.setCell ⟨g, 1, none⟩ (.slice (some ⟨b, 0, none⟩) ws'.length c)) g mb (some ⟨b, 0, none⟩) c Aa ca most ws' al n f ∧ Turned (zQ g mb Aw Aa) w (w1.setCell ⟨g, 1, none⟩ (.slice (some ⟨b, 0, none⟩) ws'.length c)) ∧
  ∀ k, zQ g mb (some ⟨b, 0, none⟩) Aa k → zQ g mb Aw Aa k ∨ w.heap.size ≤ k := by
 have hb := H.grewW hg
 have hbg : b ≠ g ∧ b ≠ mb ∧ ∀ a, Aa = some a → b ≠ a.block := by
  rcases hat with h | h
  · obtain ⟨a, h1, rfl⟩ := zK h
    exact ⟨(H.wg a h1).1, (H.wg a h1).2, fun c hc => H.wa a c h1 hc⟩
  · refine ⟨?_, ?_, fun a ha => ?_⟩
    · have := H.lt (k := g) (.inl rfl); omega
    · have := H.lt (k := mb) (.inr (.inl rfl)); omega
    · have := H.lt (k := a.block) (.inr (.inr (.inr ⟨a, ha, rfl⟩))); omega
 have hrow : ∀ k, (Value.slice Aw ws.length cw).ownBlock = some k → zQ g mb Aw Aa k := fun k hk => by
  obtain ⟨a, h1, h2⟩ := zK hk
  exact .inr (.inr (.inl ⟨a, h1, h2⟩))
 have hnm : some mb ≠ (Value.slice Aw ws.length cw).ownBlock := fun e => by obtain ⟨a, h1, h2⟩ := zK e.symm; exact (H.wg a h1).2 h2
 have hna : ∀ a, Aa = some a → some a.block ≠ (Value.slice Aw ws.length cw).ownBlock := fun a ha e => by obtain ⟨a', h1, h2⟩ := zK e.symm; exact H.wa a' a h1 ha h2
 refine ⟨⟨hb.set 1 _, ze hown (fun k hk => heap_setCell_other w1 _ k _ ?_), ?_, ?_, ?_, H.ag, ?_, H.gm⟩, ?_, ?_⟩
 · injection hk with hk
   subst hk
   exact hbg.1
 · refine ze H.adr (fun k hk => ?_)
   obtain ⟨a, h1, rfl⟩ := zK hk
   exact (heap_setCell_other w1 ⟨g, 1, none⟩ a.block _ (H.ag a h1).1).trans (hg.block _ (QI H.adr h1).1 (hna a h1))
 · exact H.map.block ((heap_setCell_other w1 ⟨g, 1, none⟩ mb _ (Ne.symm H.gm)).trans (hg.block mb H.map.lt hnm))
 · intro a ha; injection ha with ha; subst ha; exact ⟨hbg.1, hbg.2.1⟩
 · intro a c ha hc; injection ha with ha; subst ha; exact hbg.2.2 c hc
 · exact (Turned.J6 hg hrow).trans (Turned.Yd (F := zQ g mb Aw Aa) w1 (.inl rfl) _) (fun j h => .inl h)
 · rintro k (h | h | ⟨a, h1, h2⟩ | h)
   · exact .inl (.inl h)
   · exact .inl (.inr (.inl h))
   · injection h1 with h1
     subst h1
     have h2' : b = k := h2
     rcases hat with h | h
     · obtain ⟨a', h3, h4⟩ := zK h
       exact .inl (.inr (.inr (.inl ⟨a', h3, by omega⟩)))
     · exact .inr (by omega)
   · exact .inl (.inr (.inr (.inr h)))
theorem HpX.putA (H : HpX w g mb Aw cw Aa ca most ws al n f) (hg : w.grownBy w1 (Value.slice Aa al.length ca).ownBlock) {b c : Nat} {al' : List Int}
 (hown : zT w1 0 (.slice (some ⟨b, 0, none⟩) al'.length c) al') (hat : (Value.slice Aa al.length ca).ownBlock = some b ∨ w.heap.size ≤ b) :
 HpX (w1.setCell ⟨g, 2, none⟩ (.slice (some ⟨b, 0, none⟩) al'.length c)) g mb Aw cw (some ⟨b, 0, none⟩) c most ws al' n f ∧ Turned (zQ g mb Aw Aa) w (w1.setCell ⟨g, 2, none⟩ (.slice (some ⟨b, 0, none⟩) al'.length c)) ∧
  ∀ k, zQ g mb Aw (some ⟨b, 0, none⟩) k → zQ g mb Aw Aa k ∨ w.heap.size ≤ k := by
 have hb := H.grewA hg
 have hbg : b ≠ g ∧ b ≠ mb ∧ ∀ a, Aw = some a → a.block ≠ b := by
  rcases hat with h | h
  · obtain ⟨a, h1, rfl⟩ := zK h
    exact ⟨(H.ag a h1).1, (H.ag a h1).2, fun c hc => H.wa c a hc h1⟩
  · refine ⟨?_, ?_, fun a ha => ?_⟩
    · have := H.lt (k := g) (.inl rfl); omega
    · have := H.lt (k := mb) (.inr (.inl rfl)); omega
    · have := H.lt (k := a.block) (.inr (.inr (.inl ⟨a, ha, rfl⟩))); omega
 have hrow : ∀ k, (Value.slice Aa al.length ca).ownBlock = some k → zQ g mb Aw Aa k := fun k hk => by
  obtain ⟨a, h1, h2⟩ := zK hk
  exact .inr (.inr (.inr ⟨a, h1, h2⟩))
 have hnm : some mb ≠ (Value.slice Aa al.length ca).ownBlock := fun e => by obtain ⟨a, h1, h2⟩ := zK e.symm; exact (H.ag a h1).2 h2
 have hna : ∀ a, Aw = some a → some a.block ≠ (Value.slice Aa al.length ca).ownBlock := fun a ha e => by obtain ⟨a', h1, h2⟩ := zK e.symm; exact H.wa a a' ha h1 h2.symm
 refine ⟨⟨hb.set 2 _, ?_, ze hown (fun k hk => heap_setCell_other w1 _ k _ ?_), ?_, H.wg, ?_, ?_, H.gm⟩, ?_, ?_⟩
 · refine ze H.row (fun k hk => ?_)
   obtain ⟨a, h1, rfl⟩ := zK hk
   exact (heap_setCell_other w1 ⟨g, 2, none⟩ a.block _ (H.wg a h1).1).trans (hg.block _ (QI H.row h1).1 (hna a h1))
 · injection hk with hk
   subst hk
   exact hbg.1
 · exact H.map.block ((heap_setCell_other w1 ⟨g, 2, none⟩ mb _ (Ne.symm H.gm)).trans (hg.block mb H.map.lt hnm))
 · intro a ha; injection ha with ha; subst ha; exact ⟨hbg.1, hbg.2.1⟩
 · intro a c ha hc; injection hc with hc; subst hc; exact hbg.2.2 a ha
 · exact (Turned.J6 hg hrow).trans (Turned.Yd (F := zQ g mb Aw Aa) w1 (.inl rfl) _) (fun j h => .inl h)
 · rintro k (h | h | h | ⟨a, h1, h2⟩)
   · exact .inl (.inl h)
   · exact .inl (.inr (.inl h))
   · exact .inl (.inr (.inr (.inl h)))
   · injection h1 with h1
     subst h1
     have h2' : b = k := h2
     rcases hat with h | h
     · obtain ⟨a', h3, h4⟩ := zK h
       exact .inl (.inr (.inr (.inr ⟨a', h3, by omega⟩)))
     · exact .inr (by omega)
theorem HpX.beside (H : HpX w g mb Aw cw Aa ca most ws al n f) (hb : Below w.heap.size w w1) : HpX w1 g mb Aw cw Aa ca most ws al n f :=
 H.aside (fun k hk => hb.block k (H.lt hk))
end
end HpM
end Go.Proofs.YtmkdhdmkdcankaaGreatDoor
