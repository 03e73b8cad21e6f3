/- pieces -/
import Derived.Test.YtehainbhoflpnaaGreatDoorK8
namespace Go.Proofs.YtehainbhoflpnaaGreatDoor
namespace TabC
open Go.RowKit Base BinM Stru Kls
theorem Zd1 : (Tryz.prog.info? 75).map (fun i => (i.zero, i.size, i.bytes)) = some (some (.agg #[.int .i64 0, .int .i64 0, .string ⟨#[]⟩, .string ⟨#[]⟩, .string ⟨#[]⟩]), 5, 64) := by kernel_rfl
theorem Zl0 (l : List Cst) : ∀ u ∈ l.flatMap Cst.vals, u.oneCell' = true := by
 intro u hu
 obtain ⟨x, _, hx⟩ := List.mem_flatMap.1 hu
 unfold Cst.vals at hx
 simp at hx
 rcases hx with rfl | rfl | rfl | rfl | rfl <;> rfl
set_option maxRecDepth 100000 in
set_option maxHeartbeats 1000000 in
theorem VO (A : Option Addr) (l : List Cst) (m c : Nat) (w : World) (hm : m = l.length) (hmx : m ≤ 100000) (hr : Rds w A (l.flatMap Cst.vals)) :
 Calls Tryz.prog 80 #[.slice A m c] w fun e w' => ∃ v, e = .returned v ∧ w'.ownsRow w.heap.size 75 5 v m (l.flatMap Cst.vals) ∧ Below w.heap.size w w' := by
 have h0 := zH (Below.refl w.heap.size w)
 have hnil := fun (W : World) (a : Option Addr) (n c : Nat) => Lib.run_eql_slice_nil (P := Tryz.prog) W 22 75 a n c 0 0 Tryz.underlying22
 cases A with
 | none =>
   have hl : l.flatMap Cst.vals = [] := by
    rcases hr with h | ⟨_, _, h, _⟩
    · exact h
    · cases h
   have hl0 : l.length * 5 = 0 := by rw [← Z7 Cst.vals 5 (fun _ => rfl) l, hl]; rfl
   obtain rfl : m = 0 := by omega
   rw [hl]
   clear hm hr hl hl0
   go_enter Tryz.func80, Tryz.ntmps80
   go_wp2
   go_ret
   exact ⟨_, rfl, World.ownsRow_nil _ _ _ _, h0.out⟩
 | some a =>
   obtain ⟨i0, hi, hz, hs1, hb1⟩ := info_parts Zd1
   have Hi := zH hi
   have Hz := zH hz
   have Hs := zH hs1
   have Hb := zH hb1
   have Hrd := zH (hr.below ((Below.refl w.heap.size w).alloc (Nat.le_refl _) (.cells #[] 75)))
   have Hl := zH (show (l.flatMap Cst.vals).length = m * 5 by rw [Z7 Cst.vals 5 (fun _ => rfl) l, hm])
   have H1 := zH (Zl0 l)
   generalize l.flatMap Cst.vals = xs at *
   clear hm hr hi hz hs1 hb1
   go_enter Tryz.func80, Tryz.ntmps80
   go_wp2_with (at_builtin
                refine zZ rfl (.tmp 5) (.tmp 6) 22 rfl w.heap.size 75 i0 _ 5 64 Tryz.underlying22 Hi.out Hz.out Hs.out Hb.out rfl (by omega) (.slice (some ⟨w.heap.size, 0, none⟩) 0 0) 0 [] rfl (World.ownsRow_lit w #[] 0 (Nat.le_refl _) (by unfold maxLen; omega) rfl) (some a) m c xs rfl Hl.out Hrd.out H1.out (by unfold maxLen; omega) (by omega) (by simp) ?_
                intro v2 w2 hown2 hg2
                have Hb2 := zH ((h0.out.alloc (Nat.le_refl _) (.cells #[] 75)).grown hg2 (by simp) (fun k hk => by simp [Value.ownBlock] at hk; omega))
                have Hown2 := zH hown2
                clear hown2 hg2)
   go_ret
   exact ⟨_, rfl, by simpa using Hown2.out, Hb2.out⟩
theorem Zd0 : (Tryz.prog.info? 125).map (fun i => (i.zero, i.size, i.bytes)) = some (some (.agg #[.string ⟨#[]⟩, .string ⟨#[]⟩]), 2, 32) := by kernel_rfl
theorem Zk7 (l : List ZA) : ∀ u ∈ l.flatMap ZA.vals, u.oneCell' = true := by
 intro u hu
 obtain ⟨x, _, hx⟩ := List.mem_flatMap.1 hu
 unfold ZA.vals at hx
 simp at hx
 rcases hx with rfl | rfl <;> rfl
set_option maxRecDepth 100000 in
set_option maxHeartbeats 1000000 in
theorem VK (A : Option Addr) (l : List ZA) (m c : Nat) (w : World) (hm : m = l.length) (hmx : m ≤ 100000) (hr : Rds w A (l.flatMap ZA.vals)) :
 Calls Tryz.prog 81 #[.slice A m c] w fun e w' => ∃ v, e = .returned v ∧ w'.ownsRow w.heap.size 125 2 v m (l.flatMap ZA.vals) ∧ Below w.heap.size w w' := by
 have h0 := zH (Below.refl w.heap.size w)
 have hnil := fun (W : World) (a : Option Addr) (n c : Nat) => Lib.run_eql_slice_nil (P := Tryz.prog) W 78 125 a n c 0 0 Tryz.underlying78
 cases A with
 | none =>
   have hl : l.flatMap ZA.vals = [] := by
    rcases hr with h | ⟨_, _, h, _⟩
    · exact h
    · cases h
   have hl0 : l.length * 2 = 0 := by rw [← Z7 ZA.vals 2 (fun _ => rfl) l, hl]; rfl
   obtain rfl : m = 0 := by omega
   rw [hl]
   clear hm hr hl hl0
   go_enter Tryz.func81, Tryz.ntmps81
   go_wp2
   go_ret
   exact ⟨_, rfl, World.ownsRow_nil _ _ _ _, h0.out⟩
 | some a =>
   obtain ⟨i0, hi, hz, hs1, hb1⟩ := info_parts Zd0
   have Hi := zH hi
   have Hz := zH hz
   have Hs := zH hs1
   have Hb := zH hb1
   have Hrd := zH (hr.below ((Below.refl w.heap.size w).alloc (Nat.le_refl _) (.cells #[] 125)))
   have Hl := zH (show (l.flatMap ZA.vals).length = m * 2 by rw [Z7 ZA.vals 2 (fun _ => rfl) l, hm])
   have H1 := zH (Zk7 l)
   generalize l.flatMap ZA.vals = xs at *
   clear hm hr hi hz hs1 hb1
   go_enter Tryz.func81, Tryz.ntmps81
   go_wp2_with (at_builtin
                refine zZ rfl (.tmp 5) (.tmp 6) 78 rfl w.heap.size 125 i0 _ 2 32 Tryz.underlying78 Hi.out Hz.out Hs.out Hb.out rfl (by omega) (.slice (some ⟨w.heap.size, 0, none⟩) 0 0) 0 [] rfl (World.ownsRow_lit w #[] 0 (Nat.le_refl _) (by unfold maxLen; omega) rfl) (some a) m c xs rfl Hl.out Hrd.out H1.out (by unfold maxLen; omega) (by omega) (by simp) ?_
                intro v2 w2 hown2 hg2
                have Hb2 := zH ((h0.out.alloc (Nat.le_refl _) (.cells #[] 125)).grown hg2 (by simp) (fun k hk => by simp [Value.ownBlock] at hk; omega))
                have Hown2 := zH hown2
                clear hown2 hg2)
   go_ret
   exact ⟨_, rfl, by simpa using Hown2.out, Hb2.out⟩
theorem Zc7 : (Tryz.prog.info? 85).map (fun i => (i.zero, i.size, i.bytes)) = some (some (.agg #[.string ⟨#[]⟩, .string ⟨#[]⟩, .int .i64 0, .slice none 0 0, .slice none 0 0]), 5, 88) := by kernel_rfl
theorem Zk4 (l : List zO) : ∀ u ∈ l.flatMap zO.vals, u.oneCell' = true := by
 intro u hu
 obtain ⟨x, _, hx⟩ := List.mem_flatMap.1 hu
 unfold zO.vals at hx
 simp at hx
 rcases hx with rfl | rfl | rfl | rfl | rfl <;> rfl
set_option maxRecDepth 100000 in
set_option maxHeartbeats 1000000 in
theorem VH (A : Option Addr) (l : List zO) (m c : Nat) (w : World) (hm : m = l.length) (hmx : m ≤ 100000) (hr : Rds w A (l.flatMap zO.vals)) :
 Calls Tryz.prog 82 #[.slice A m c] w fun e w' => ∃ v, e = .returned v ∧ w'.ownsRow w.heap.size 85 5 v m (l.flatMap zO.vals) ∧ Below w.heap.size w w' := by
 have h0 := zH (Below.refl w.heap.size w)
 have hnil := fun (W : World) (a : Option Addr) (n c : Nat) => Lib.run_eql_slice_nil (P := Tryz.prog) W 79 85 a n c 0 0 Tryz.underlying79
 cases A with
 | none =>
   have hl : l.flatMap zO.vals = [] := by
    rcases hr with h | ⟨_, _, h, _⟩
    · exact h
    · cases h
   have hl0 : l.length * 5 = 0 := by rw [← Z7 zO.vals 5 (fun _ => rfl) l, hl]; rfl
   obtain rfl : m = 0 := by omega
   rw [hl]
   clear hm hr hl hl0
   go_enter Tryz.func82, Tryz.ntmps82
   go_wp2
   go_ret
   exact ⟨_, rfl, World.ownsRow_nil _ _ _ _, h0.out⟩
 | some a =>
   obtain ⟨i0, hi, hz, hs1, hb1⟩ := info_parts Zc7
   have Hi := zH hi
   have Hz := zH hz
   have Hs := zH hs1
   have Hb := zH hb1
   have Hrd := zH (hr.below ((Below.refl w.heap.size w).alloc (Nat.le_refl _) (.cells #[] 85)))
   have Hl := zH (show (l.flatMap zO.vals).length = m * 5 by rw [Z7 zO.vals 5 (fun _ => rfl) l, hm])
   have H1 := zH (Zk4 l)
   generalize l.flatMap zO.vals = xs at *
   clear hm hr hi hz hs1 hb1
   go_enter Tryz.func82, Tryz.ntmps82
   go_wp2_with (at_builtin
                refine zZ rfl (.tmp 5) (.tmp 6) 79 rfl w.heap.size 85 i0 _ 5 88 Tryz.underlying79 Hi.out Hz.out Hs.out Hb.out rfl (by omega) (.slice (some ⟨w.heap.size, 0, none⟩) 0 0) 0 [] rfl (World.ownsRow_lit w #[] 0 (Nat.le_refl _) (by unfold maxLen; omega) rfl) (some a) m c xs rfl Hl.out Hrd.out H1.out (by unfold maxLen; omega) (by omega) (by simp) ?_
                intro v2 w2 hown2 hg2
                have Hb2 := zH ((h0.out.alloc (Nat.le_refl _) (.cells #[] 85)).grown hg2 (by simp) (fun k hk => by simp [Value.ownBlock] at hk; omega))
                have Hown2 := zH hown2
                clear hown2 hg2)
   go_ret
   exact ⟨_, rfl, by simpa using Hown2.out, Hb2.out⟩
theorem Zc8 : (Tryz.prog.info? 24).map (fun i => (i.zero, i.size, i.bytes)) = some (some (.agg #[.int .i64 0, .int .i64 0]), 2, 16) := by kernel_rfl
theorem Zk5 (l : List InsT) : ∀ u ∈ l.flatMap JG, u.oneCell' = true := by
 intro u hu
 obtain ⟨x, _, hx⟩ := List.mem_flatMap.1 hu
 unfold JG at hx
 simp at hx
 rcases hx with rfl | rfl <;> rfl
set_option maxRecDepth 100000 in
set_option maxHeartbeats 1000000 in
theorem VI (A : Option Addr) (l : List InsT) (m c : Nat) (w : World) (hm : m = l.length) (hmx : m ≤ 100000) (hr : Rds w A (l.flatMap JG)) :
 Calls Tryz.prog 137 #[.slice A m c] w fun e w' => ∃ v, e = .returned v ∧ w'.ownsRow w.heap.size 24 2 v m (l.flatMap JG) ∧ Below w.heap.size w w' := by
 have h0 := zH (Below.refl w.heap.size w)
 have hnil := fun (W : World) (a : Option Addr) (n c : Nat) => Lib.run_eql_slice_nil (P := Tryz.prog) W 82 24 a n c 0 0 Tryz.underlying82
 cases A with
 | none =>
   have hl : l.flatMap JG = [] := by
    rcases hr with h | ⟨_, _, h, _⟩
    · exact h
    · cases h
   have hl0 : l.length * 2 = 0 := by rw [← Z7 JG 2 (fun _ => rfl) l, hl]; rfl
   obtain rfl : m = 0 := by omega
   rw [hl]
   clear hm hr hl hl0
   go_enter Tryz.func137, Tryz.ntmps137
   go_wp2
   go_ret
   exact ⟨_, rfl, World.ownsRow_nil _ _ _ _, h0.out⟩
 | some a =>
   obtain ⟨i0, hi, hz, hs1, hb1⟩ := info_parts Zc8
   have Hi := zH hi
   have Hz := zH hz
   have Hs := zH hs1
   have Hb := zH hb1
   have Hrd := zH (hr.below ((Below.refl w.heap.size w).alloc (Nat.le_refl _) (.cells #[] 24)))
   have Hl := zH (show (l.flatMap JG).length = m * 2 by rw [Z7 JG 2 (fun _ => rfl) l, hm])
   have H1 := zH (Zk5 l)
   generalize l.flatMap JG = xs at *
   clear hm hr hi hz hs1 hb1
   go_enter Tryz.func137, Tryz.ntmps137
   go_wp2_with (at_builtin
                refine zZ rfl (.tmp 5) (.tmp 6) 82 rfl w.heap.size 24 i0 _ 2 16 Tryz.underlying82 Hi.out Hz.out Hs.out Hb.out rfl (by omega) (.slice (some ⟨w.heap.size, 0, none⟩) 0 0) 0 [] rfl (World.ownsRow_lit w #[] 0 (Nat.le_refl _) (by unfold maxLen; omega) rfl) (some a) m c xs rfl Hl.out Hrd.out H1.out (by unfold maxLen; omega) (by omega) (by simp) ?_
                intro v2 w2 hown2 hg2
                have Hb2 := zH ((h0.out.alloc (Nat.le_refl _) (.cells #[] 24)).grown hg2 (by simp) (fun k hk => by simp [Value.ownBlock] at hk; omega))
                have Hown2 := zH hown2
                clear hown2 hg2)
   go_ret
   exact ⟨_, rfl, by simpa using Hown2.out, Hb2.out⟩
theorem Zc9 : (Tryz.prog.info? 207).map (fun i => (i.zero, i.size, i.bytes)) = some (some (.agg #[.int .i64 0, .int .i64 0, .int .i64 0, .string ⟨#[]⟩]), 4, 40) := by kernel_rfl
theorem Zk6 (l : List qJ) : ∀ u ∈ l.flatMap qJ.vals, u.oneCell' = true := by
 intro u hu
 obtain ⟨x, _, hx⟩ := List.mem_flatMap.1 hu
 unfold qJ.vals at hx
 simp at hx
 rcases hx with rfl | rfl | rfl | rfl <;> rfl
set_option maxRecDepth 100000 in
set_option maxHeartbeats 1000000 in
theorem VJ (A : Option Addr) (l : List qJ) (m c : Nat) (w : World) (hm : m = l.length) (hmx : m ≤ 100000) (hr : Rds w A (l.flatMap qJ.vals)) :
 Calls Tryz.prog 138 #[.slice A m c] w fun e w' => ∃ v, e = .returned v ∧ w'.ownsRow w.heap.size 207 4 v m (l.flatMap qJ.vals) ∧ Below w.heap.size w w' := by
 have h0 := zH (Below.refl w.heap.size w)
 have hnil := fun (W : World) (a : Option Addr) (n c : Nat) => Lib.run_eql_slice_nil (P := Tryz.prog) W 83 207 a n c 0 0 Tryz.underlying83
 cases A with
 | none =>
   have hl : l.flatMap qJ.vals = [] := by
    rcases hr with h | ⟨_, _, h, _⟩
    · exact h
    · cases h
   have hl0 : l.length * 4 = 0 := by rw [← Z7 qJ.vals 4 (fun _ => rfl) l, hl]; rfl
   obtain rfl : m = 0 := by omega
   rw [hl]
   clear hm hr hl hl0
   go_enter Tryz.func138, Tryz.ntmps138
   go_wp2
   go_ret
   exact ⟨_, rfl, World.ownsRow_nil _ _ _ _, h0.out⟩
 | some a =>
   obtain ⟨i0, hi, hz, hs1, hb1⟩ := info_parts Zc9
   have Hi := zH hi
   have Hz := zH hz
   have Hs := zH hs1
   have Hb := zH hb1
   have Hrd := zH (hr.below ((Below.refl w.heap.size w).alloc (Nat.le_refl _) (.cells #[] 207)))
   have Hl := zH (show (l.flatMap qJ.vals).length = m * 4 by rw [Z7 qJ.vals 4 (fun _ => rfl) l, hm])
   have H1 := zH (Zk6 l)
   generalize l.flatMap qJ.vals = xs at *
   clear hm hr hi hz hs1 hb1
   go_enter Tryz.func138, Tryz.ntmps138
   go_wp2_with (at_builtin
                refine zZ rfl (.tmp 5) (.tmp 6) 83 rfl w.heap.size 207 i0 _ 4 40 Tryz.underlying83 Hi.out Hz.out Hs.out Hb.out rfl (by omega) (.slice (some ⟨w.heap.size, 0, none⟩) 0 0) 0 [] rfl (World.ownsRow_lit w #[] 0 (Nat.le_refl _) (by unfold maxLen; omega) rfl) (some a) m c xs rfl Hl.out Hrd.out H1.out (by unfold maxLen; omega) (by omega) (by simp) ?_
                intro v2 w2 hown2 hg2
                have Hb2 := zH ((h0.out.alloc (Nat.le_refl _) (.cells #[] 207)).grown hg2 (by simp) (fun k hk => by simp [Value.ownBlock] at hk; omega))
                have Hown2 := zH hown2
                clear hown2 hg2)
   go_ret
   exact ⟨_, rfl, by simpa using Hown2.out, Hb2.out⟩
end TabC
namespace TabM
open Go.RowKit Base BinM Stru Kls TabC
def Bx (w : World) (g : Nat) (C : Array Value) (ty : TypeId) : Prop := w.heap[g]? = some (.cells C ty (0, 0))
theorem Bx.cell {w : World} {g : Nat} {C : Array Value} {ty : TypeId} (h : Bx w g C ty) (j : Nat) : w.cell? ⟨g, j, none⟩ = C[j]? := cell_of_row _ _ _ _ _ (0, 0) h
theorem Bx.free {w : World} {g : Nat} {C : Array Value} {ty : TypeId} (h : Bx w g C ty) (j : Nat) : w.frozen? ⟨g, j, none⟩ = false := frozen_of_row w _ j _ _ h
theorem Bx.set {w : World} {g : Nat} {C : Array Value} {ty : TypeId} (h : Bx w g C ty) (j : Nat) (v : Value) : Bx (w.setCell ⟨g, j, none⟩ v) g (C.setIfInBounds j v) ty := heap_setCell_same w g j C ty v h
theorem Bx.beside {w : World} {g b : Nat} {C : Array Value} {ty : TypeId} (h : Bx w g C ty) (j : Nat) (v : Value) (hn : g ≠ b) : Bx (w.setCell ⟨b, j, none⟩ v) g C ty := (heap_setCell_other w ⟨b, j, none⟩ g v hn).trans h
theorem Bx.lt {w : World} {g : Nat} {C : Array Value} {ty : TypeId} (h : Bx w g C ty) : g < w.heap.size := by
 rcases Nat.lt_or_ge g w.heap.size with hl | hl
 · exact hl
 · unfold Bx at h; rw [Array.getElem?_eq_none hl] at h; cases h
theorem Bx.new (w : World) (C : Array Value) (ty : TypeId) : Bx (w.alloc (.cells C ty)) w.heap.size C ty := heap_alloc_new w _
theorem Bx.after {w w' : World} {g : Nat} {C : Array Value} {ty : TypeId} (h : Bx w g C ty) (hb : Below w.heap.size w w') : Bx w' g C ty := (hb.block g h.lt).trans h
structure Duo (T : TypeId) (w wr : World) (b r : Nat) (C R : Array Value) : Prop where
 box : Bx wr b C T
 res : Bx wr r R T
 ne : b ≠ r
 lb : w.heap.size ≤ b
 lr : w.heap.size ≤ r
 bel : Below w.heap.size w wr
theorem Duo.start (T : TypeId) (w : World) (C R : Array Value) : Duo T w ((w.alloc (.cells C T)).alloc (.cells R T)) w.heap.size (w.heap.size + 1) C R := by
 have hb : Below (w.alloc (.cells C T)).heap.size (w.alloc (.cells C T)) ((w.alloc (.cells C T)).alloc (.cells R T)) := (Below.refl _ _).alloc (Nat.le_refl _) _
 refine ⟨(Bx.new w C T).after hb, ?_, by omega, Nat.le_refl _, by omega, ((Below.refl _ _).alloc (Nat.le_refl _) _).alloc (by simp) _⟩
 have := Bx.new (w.alloc (.cells C T)) R T
 have e : (w.alloc (.cells C T)).heap.size = w.heap.size + 1 := by simp
 rw [e] at this
 exact this
theorem Duo.ext {T : TypeId} {w wr w' : World} {b r : Nat} {C R : Array Value} (h : Duo T w wr b r C R) (hb : Below wr.heap.size wr w') : Duo T w w' b r C R :=
 ⟨h.box.after hb, h.res.after hb, h.ne, h.lb, h.lr, h.bel.trans (hb.mono h.bel.size)⟩
theorem Duo.set {T : TypeId} {w wr : World} {b r : Nat} {C R : Array Value} (h : Duo T w wr b r C R) (j : Nat) (v : Value) : Duo T w (wr.setCell ⟨b, j, none⟩ v) b r (C.setIfInBounds j v) R :=
 ⟨h.box.set j v, h.res.beside j v (Ne.symm h.ne), h.ne, h.lb, h.lr, h.bel.setCell h.lb v⟩
theorem Duo.put {T : TypeId} {w wr : World} {b r : Nat} {C R : Array Value} (h : Duo T w wr b r C R) (j : Nat) (v : Value) : Duo T w (wr.setCell ⟨r, j, none⟩ v) b r C (R.setIfInBounds j v) :=
 ⟨h.box.beside j v h.ne, h.res.set j v, h.ne, h.lb, h.lr, h.bel.setCell h.lr v⟩
theorem zh {w w' : World} {base : Nat} {e : TypeId} {size n : Nat} {v : Value} {xs : List Value} (h : w.ownsRow base e size v n xs) (hb : ∀ k, v.ownBlock = some k → w'.heap[k]? = w.heap[k]?) : w'.ownsRow base e size v n xs := by
 obtain ⟨h1, h2⟩ := h
 refine ⟨h1, ?_⟩
 rcases h2 with h2 | ⟨g, cap, cur, rfl, b, c, d⟩
 · exact .inl h2
 · exact .inr ⟨g, cap, cur, rfl, b, (hb g rfl).trans c, d⟩
theorem zz5 {w : World} {base : Nat} {e : TypeId} {size n : Nat} {v : Value} {xs : List Value} (h : w.ownsRow base e size v n xs) {b : Nat} (hb : b < base) (j : Nat) (u : Value) : (w.setCell ⟨b, j, none⟩ u).ownsRow base e size v n xs :=
 zh h (fun k hk => heap_setCell_other w _ k u (by have := (h.lt k hk).1; show k ≠ b; omega))
theorem jl {P : Program} {fn : Func} {p : Tmp} {ty : TypeId} (h : fn.results = #[.cell p ty]) (tmps : Array Value) (w : World) (a : Addr) (x : Value)
 (hp : tmps.getD p undef = .pointer (some a)) (hl : (loadVar ty a).run P w = .ok x w) : (results fn tmps).run P w = .ok x w := by
 have hp' : tmps[p]?.getD undef = .pointer (some a) := by simpa using hp
 simp [results, h, hp', asAddr, hl]
structure Jw (lo : Nat) (w : World) (y : zO) : Prop where
 is : y.is w
 code : ∀ a, y.cA = some a → lo ≤ a.block ∧ a.block < w.heap.size
 hand : ∀ a, y.hA = some a → lo ≤ a.block ∧ a.block < w.heap.size
theorem gZ : (Tryz.prog.info? 85).map (·.size) = some 5 := by kernel_rfl
set_option maxRecDepth 100000 in
set_option maxHeartbeats 4000000 in
theorem Xr (x : zO) (w : World) (hx : x.is w) (hc : x.code.length ≤ 10000) (hh : x.hand.length ≤ 10000) :
 Calls Tryz.prog 83 #[x.V] w fun e w' => ∃ y : zO, e = .returned y.V ∧ Jw w.heap.size w' y ∧ y.pure = x.pure ∧ Below w.heap.size w w' := by
 obtain ⟨hfit, hcode, hhand⟩ := hx
 have HC := zH (fun (wr : World) (hb : Below w.heap.size w wr) => VI x.cA x.code x.cm x.cc wr hcode.len (by have := hcode.len; omega) (hcode.rds.below hb))
 have HH := zH (fun (wr : World) (hb : Below w.heap.size w wr) => VJ x.hA x.hand x.hm x.hc wr hhand.len (by have := hhand.len; omega) (hhand.rds.below hb))
 have Hf := zH (show (ZI x.locals ∧ x.cm = x.code.length ∧ x.hm = x.hand.length ∧ (∀ i ∈ x.code, ZI i.1 ∧ ZI i.2) ∧ ∀ h ∈ x.hand, ZI h.frm ∧ ZI h.til ∧ ZI h.pos) from ⟨hfit, hcode.len, hhand.len, hcode.fit, hhand.fit⟩)
 clear hfit hcode hhand hc hh
 obtain ⟨x0, x1, x2, cA, cm, cc, hA, hm, hcc, code, hand⟩ := x
 simp only [zO.V] at *
 have D0 := zH (Duo.start 85 w #[.string ⟨x0.toArray⟩, .string ⟨x1.toArray⟩, .int .i64 x2, .slice cA cm cc, .slice hA hm hcc] #[.string ⟨#[]⟩, .string ⟨#[]⟩, .int .i64 0, .slice none 0 0, .slice none 0 0])
 go_enter Tryz.func83, Tryz.ntmps83
 go_wp2_with fail
 refine (HC.out _ D0.out.bel).mono ?_
 rintro e w1 ⟨v1, rfl, hown1, hb1⟩
 obtain ⟨A1, c1, rfl, hq1, hq1', hl1, _⟩ := zS hown1
 have D1 := zH (D0.out.ext hb1)
 have O1 := zH hown1
 have L1 := zH hl1
 have hc := D1.out.box.cell 3
 have hf := D1.out.box.free 3
 clear hown1 hb1 hl1
 have S1 := zH (D1.out.set 3 (.slice A1 cm c1))
 have hd : (w1.setCell ⟨w.heap.size, 3, none⟩ (.slice A1 cm c1)).cell? ⟨w.heap.size, 4, none⟩ = some (.slice hA hm hcc) := S1.out.box.cell 4
 go_wp2_with fail
 clear hc hf hd
 have P1 := zH (zh O1.out (w' := w1.setCell ⟨w.heap.size, 3, none⟩ (.slice A1 cm c1)) (fun k hk => heap_setCell_other w1 _ k _ (by have := (O1.out.lt k hk).1; simp at this; show k ≠ w.heap.size; omega)))
 refine (HH.out _ S1.out.bel).mono ?_
 rintro e w2 ⟨v2, rfl, hown2, hb2⟩
 obtain ⟨A2, c2, rfl, hq2, hq2', hl2, _⟩ := zS hown2
 have D2 := zH (S1.out.ext hb2)
 have O2 := zH hown2
 have P2 := zH (zh P1.out (fun k hk => hb2.block k (P1.out.lt k hk).2))
 have hc := D2.out.box.cell 4
 have hf := D2.out.box.free 4
 clear hown2 hb2 hl2
 have S2 := zH (D2.out.set 4 (.slice A2 hm c2))
 have hsz1 := S1.out.box.lt
 have Q2 := zH (zh O2.out (w' := w2.setCell ⟨w.heap.size, 4, none⟩ (.slice A2 hm c2)) (fun k hk => heap_setCell_other w2 _ k _ (by have := (O2.out.lt k hk).1; show k ≠ w.heap.size; omega)))
 have Q1 := zH (zh P2.out (w' := w2.setCell ⟨w.heap.size, 4, none⟩ (.slice A2 hm c2)) (fun k hk => heap_setCell_other w2 _ k _ (by have := (P2.out.lt k hk).1; simp at this; show k ≠ w.heap.size; omega)))
 have Hb : Bx (w2.setCell ⟨w.heap.size, 4, none⟩ (.slice A2 hm c2)) w.heap.size #[.string ⟨x0.toArray⟩, .string ⟨x1.toArray⟩, .int .i64 x2, .slice A1 cm c1, .slice A2 hm c2] 85 := S2.out.box
 have g0 := Hb.cell 0
 have g1 := Hb.cell 1
 have g2 := Hb.cell 2
 have g3 := Hb.cell 3
 have g4 := Hb.cell 4
 have f0 := S2.out.res.free 0
 have r0 := S2.out.res.cell 0
 have f1 := S2.out.res.free 1
 have r1 := S2.out.res.cell 1
 have f2 := S2.out.res.free 2
 have r2 := S2.out.res.cell 2
 have f3 := S2.out.res.free 3
 have r3 := S2.out.res.cell 3
 have f4 := S2.out.res.free 4
 have r4 := S2.out.res.cell 4
 clear Hb
 go_wp2_with fail
 have HF := zH (((((S2.out.put 0 (.string ⟨x0.toArray⟩)).put 1 (.string ⟨x1.toArray⟩)).put 2 (.int .i64 x2)).put 3 (.slice A1 cm c1)).put 4 (.slice A2 hm c2))
 have HW : Bx _ (w.heap.size + 1) #[.string ⟨x0.toArray⟩, .string ⟨x1.toArray⟩, .int .i64 x2, .slice A1 cm c1, .slice A2 hm c2] 85 := HF.out.res
 have five := fun (W : World) (u0 u1 u2 u3 u4 : Value) (k : Nat) (hk : k ≠ w.heap.size + 1) => (heap_setCell_other ((((W.setCell ⟨w.heap.size + 1, 0, none⟩ u0).setCell ⟨w.heap.size + 1, 1, none⟩ u1).setCell ⟨w.heap.size + 1, 2, none⟩ u2).setCell ⟨w.heap.size + 1, 3, none⟩ u3) ⟨w.heap.size + 1, 4, none⟩ k u4 hk).trans ((heap_setCell_other _ ⟨w.heap.size + 1, 3, none⟩ k u3 hk).trans ((heap_setCell_other _ ⟨w.heap.size + 1, 2, none⟩ k u2 hk).trans ((heap_setCell_other _ ⟨w.heap.size + 1, 1, none⟩ k u1 hk).trans (heap_setCell_other _ ⟨w.heap.size + 1, 0, none⟩ k u0 hk))))
 have R1 := zh Q1.out (w' := ((((((w2.setCell ⟨w.heap.size, 4, none⟩ (.slice A2 hm c2)).setCell ⟨w.heap.size + 1, 0, none⟩ (.string ⟨x0.toArray⟩)).setCell ⟨w.heap.size + 1, 1, none⟩ (.string ⟨x1.toArray⟩)).setCell ⟨w.heap.size + 1, 2, none⟩ (.int .i64 x2)).setCell ⟨w.heap.size + 1, 3, none⟩ (.slice A1 cm c1)).setCell ⟨w.heap.size + 1, 4, none⟩ (.slice A2 hm c2))) (fun k hk => five _ _ _ _ _ _ k (by have := (Q1.out.lt k hk).1; simp at this; omega))
 have hsr := S1.out.res.lt
 have R2 := zh Q2.out (w' := ((((((w2.setCell ⟨w.heap.size, 4, none⟩ (.slice A2 hm c2)).setCell ⟨w.heap.size + 1, 0, none⟩ (.string ⟨x0.toArray⟩)).setCell ⟨w.heap.size + 1, 1, none⟩ (.string ⟨x1.toArray⟩)).setCell ⟨w.heap.size + 1, 2, none⟩ (.int .i64 x2)).setCell ⟨w.heap.size + 1, 3, none⟩ (.slice A1 cm c1)).setCell ⟨w.heap.size + 1, 4, none⟩ (.slice A2 hm c2))) (fun k hk => five _ _ _ _ _ _ k (by have := (Q2.out.lt k hk).1; omega))
 obtain ⟨z1, z2, z3, z4, z5⟩ := Hf.out
 exact bodyPost_ret (v := .agg #[.string ⟨x0.toArray⟩, .string ⟨x1.toArray⟩, .int .i64 x2, .slice A1 cm c1, .slice A2 hm c2]) (jl Tryz.results83 _ _ _ _ rfl (run_loadVar_row _ _ _ _ #[.string ⟨x0.toArray⟩, .string ⟨x1.toArray⟩, .int .i64 x2, .slice A1 cm c1, .slice A2 hm c2] (0, 0) _ HW Tryz.underlying85 rfl gZ)) rfl
  ⟨⟨x0, x1, x2, A1, cm, c1, A2, hm, c2, code, hand⟩, rfl, ⟨⟨z1, ⟨z2, hq1, hq1', Rds.qU R1, z4⟩, ⟨z3, hq2, hq2', Rds.qU R2, z5⟩⟩, fun a ha => by
   have ha' : A1 = some a := ha
   subst ha'
   have := R1.lt a.block rfl
   simp at this ⊢
   exact ⟨by omega, this.2⟩, fun a ha => by
   have ha' : A2 = some a := ha
   subst ha'
   have := R2.lt a.block rfl
   have h3 := D1.out.bel.size
   simp at this ⊢
   exact ⟨by omega, this.2⟩⟩, rfl, HF.out.bel⟩
end TabM
namespace TabK
open Go.RowKit Base BinM Stru Kls TabC TabM
theorem Zq5 : ∀ (ys t : List zO) (x y : zO) (k : Nat), ys.length = k → ((((((ys ++ x :: t).flatMap zO.vals).set (k * 5) (.string ⟨y.name.toArray⟩)).set (k * 5 + 1) (.string ⟨y.sig.toArray⟩)).set (k * 5 + 2) (.int .i64 y.locals)).set (k * 5 + 3) (.slice y.cA y.cm y.cc)).set (k * 5 + 4) (.slice y.hA y.hm y.hc) = (ys ++ y :: t).flatMap zO.vals
 | ys, t, x, y, k, hk => by
   have hl : (ys.flatMap zO.vals).length = k * 5 := by rw [Z7 zO.vals 5 (fun _ => rfl), hk]
   rw [List.flatMap_append, List.flatMap_append, List.flatMap_cons, List.flatMap_cons]
   generalize ys.flatMap zO.vals = p at *
   generalize t.flatMap zO.vals = q at *
   unfold zO.vals
   rw [← hl]
   simp
def zw8 (x y : zf) : Prop := x.name = y.name ∧ x.sup = y.sup ∧ x.consts = y.consts ∧ x.fields = y.fields ∧ x.meths.map zO.pure = y.meths.map zO.pure
structure kE (lo : Nat) (w : World) (y : zf) : Prop where
 is : y.is w
 k : ∀ a, y.kA = some a → lo ≤ a.block ∧ a.block < w.heap.size
 f : ∀ a, y.fA = some a → lo ≤ a.block ∧ a.block < w.heap.size
 m : ∀ a, y.mA = some a → lo ≤ a.block ∧ a.block < w.heap.size
 each : ∀ z ∈ y.meths, Jw lo w z
theorem Jc : (Tryz.prog.info? 81).map (·.size) = some 5 := by kernel_rfl
structure Part (lo : Nat) (wr : World) (A : Option Addr) (n c k : Nat) (xs ys : List zO) : Prop where
 own : wr.ownsRow lo 85 5 (.slice A n c) n ((ys ++ xs.drop k).flatMap zO.vals)
 len : ys.length = k
 pure : ys.map zO.pure = (xs.take k).map zO.pure
 each : ∀ y ∈ ys, Jw lo wr y
 far : ∀ y ∈ ys, (∀ a, y.cA = some a → (Value.slice A n c).ownBlock ≠ some a.block) ∧ (∀ a, y.hA = some a → (Value.slice A n c).ownBlock ≠ some a.block)
theorem yU {lo : Nat} {w w' : World} {y : zO} (h : Jw lo w y) (hs : w.heap.size ≤ w'.heap.size) (h1 : ∀ a, y.cA = some a → w'.heap[a.block]? = w.heap[a.block]?) (h2 : ∀ a, y.hA = some a → w'.heap[a.block]? = w.heap[a.block]?) : Jw lo w' y := by
 obtain ⟨⟨f, c, d⟩, hc, hh⟩ := h
 have rds : ∀ {A : Option Addr} {xs : List Value}, Rds w A xs → (∀ a, A = some a → w'.heap[a.block]? = w.heap[a.block]?) → Rds w' A xs := by
  intro A xs hr he
  rcases hr with h0 | ⟨b, o, hA, hb, hc⟩
  · exact .inl h0
  · refine .inr ⟨b, o, hA, Nat.lt_of_lt_of_le hb hs, fun j u hu => ?_⟩
    rw [← hc j u hu]
    have := he _ hA
    unfold World.cell?
    rw [this]
 exact ⟨⟨f, ⟨c.len, c.le, c.max, rds c.rds h1, c.fit⟩, ⟨d.len, d.le, d.max, rds d.rds h2, d.fit⟩⟩, fun a ha => ⟨(hc a ha).1, Nat.lt_of_lt_of_le (hc a ha).2 hs⟩, fun a ha => ⟨(hh a ha).1, Nat.lt_of_lt_of_le (hh a ha).2 hs⟩⟩
theorem U3 {lo lo' : Nat} {w : World} {y : zO} (h : Jw lo' w y) (hl : lo ≤ lo') : Jw lo w y :=
 ⟨h.is, fun a ha => ⟨Nat.le_trans hl (h.code a ha).1, (h.code a ha).2⟩, fun a ha => ⟨Nat.le_trans hl (h.hand a ha).1, (h.hand a ha).2⟩⟩
theorem KH {lo : Nat} {w w' : World} {y : zO} (h : Jw lo w y) (hb : Below w.heap.size w w') : Jw lo w' y :=
 yU h hb.size (fun a ha => hb.block _ (h.code a ha).2) (fun a ha => hb.block _ (h.hand a ha).2)
theorem Part.ext {lo : Nat} {wr w' : World} {A : Option Addr} {n c k : Nat} {xs ys : List zO} (h : Part lo wr A n c k xs ys) (hb : Below wr.heap.size wr w') : Part lo w' A n c k xs ys :=
 ⟨zh h.own (fun q hq => hb.block q (h.own.lt q hq).2), h.len, h.pure, fun y hy => KH (h.each y hy) hb, h.far⟩
def Y3 (w : World) (b k : Nat) (y : zO) : World := ((((w.setCell ⟨b, k * 5, none⟩ (.string ⟨y.name.toArray⟩)).setCell ⟨b, k * 5 + 1, none⟩ (.string ⟨y.sig.toArray⟩)).setCell ⟨b, k * 5 + 2, none⟩ (.int .i64 y.locals)).setCell ⟨b, k * 5 + 3, none⟩ (.slice y.cA y.cm y.cc)).setCell ⟨b, k * 5 + 4, none⟩ (.slice y.hA y.hm y.hc)
theorem jH (w : World) (b k : Nat) (y : zO) (q : Nat) (hq : q ≠ b) : (Y3 w b k y).heap[q]? = w.heap[q]? := by
 unfold Y3
 rw [heap_setCell_other _ _ _ _ hq, heap_setCell_other _ _ _ _ hq, heap_setCell_other _ _ _ _ hq, heap_setCell_other _ _ _ _ hq, heap_setCell_other _ _ _ _ hq]
theorem Gd {lo : Nat} {a w : World} (h : Below lo a w) (b k : Nat) (y : zO) (hb : lo ≤ b) : Below lo a (Y3 w b k y) := by
 unfold Y3
 exact ((((h.setCell (p := ⟨b, k * 5, none⟩) hb _).setCell (p := ⟨b, k * 5 + 1, none⟩) hb _).setCell (p := ⟨b, k * 5 + 2, none⟩) hb _).setCell (p := ⟨b, k * 5 + 3, none⟩) hb _).setCell (p := ⟨b, k * 5 + 4, none⟩) hb _
theorem vw (w : World) (b k : Nat) (y : zO) : (Y3 w b k y).heap.size = w.heap.size := by simp [Y3]
theorem Part.put {lo : Nat} {wr w1 : World} {b n c k : Nat} {xs ys : List zO} {y : zO} (h : Part lo wr (some ⟨b, 0, none⟩) n c k xs ys) (hk : k < xs.length) (hb : Below wr.heap.size wr w1) (hy : Jw wr.heap.size w1 y) (hp : y.pure = xs[k].pure) :
 Part lo (Y3 w1 b k y) (some ⟨b, 0, none⟩) n c (k + 1) xs (ys ++ [y]) := by
 have h1 := h.ext hb
 obtain ⟨lb, hb2⟩ := h.own.lt b rfl
 have hs1 := hb.size
 have hyb : (∀ a, y.cA = some a → a.block ≠ b) ∧ (∀ a, y.hA = some a → a.block ≠ b) := ⟨fun a ha => by have := (hy.code a ha).1; omega, fun a ha => by have := (hy.hand a ha).1; omega⟩
 refine ⟨?_, by simp [h.len], ?_, ?_, ?_⟩
 · have h5 := (((((((((h1.own.stored (k * 5) (.string ⟨y.name.toArray⟩)).1).stored (k * 5 + 1) (.string ⟨y.sig.toArray⟩)).1).stored (k * 5 + 2) (.int .i64 y.locals)).1).stored (k * 5 + 3) (.slice y.cA y.cm y.cc)).1).stored (k * 5 + 4) (.slice y.hA y.hm y.hc)).1
   have e : ys ++ xs.drop k = ys ++ xs[k] :: xs.drop (k + 1) := by rw [List.drop_eq_getElem_cons hk]
   rw [e, Zq5 ys (xs.drop (k + 1)) xs[k] y k h.len] at h5
   rw [List.append_assoc]
   exact h5
 · rw [List.map_append, List.take_succ_eq_append_getElem hk, List.map_append, h.pure]
   simp [hp]
 · intro z hz
   rcases List.mem_append.1 hz with hz | hz
   · have hf := h.far z hz
     refine yU (h1.each z hz) (by rw [vw]; exact Nat.le_refl _) (fun a ha => jH _ _ _ _ _ ?_) (fun a ha => jH _ _ _ _ _ ?_)
     · intro e; exact hf.1 a ha (by rw [e]; rfl)
     · intro e; exact hf.2 a ha (by rw [e]; rfl)
   · simp at hz
     subst hz
     have hy2 : Jw lo w1 z := ⟨hy.is, fun a ha => ⟨by have := (hy.code a ha).1; omega, (hy.code a ha).2⟩, fun a ha => ⟨by have := (hy.hand a ha).1; omega, (hy.hand a ha).2⟩⟩
     exact yU hy2 (by rw [vw]; exact Nat.le_refl _) (fun a ha => jH _ _ _ _ _ (hyb.1 a ha)) (fun a ha => jH _ _ _ _ _ (hyb.2 a ha))
 · intro z hz
   rcases List.mem_append.1 hz with hz | hz
   · exact h.far z hz
   · simp at hz
     subst hz
     exact ⟨fun a ha => by simp [Value.ownBlock]; exact fun e => hyb.1 a ha e.symm, fun a ha => by simp [Value.ownBlock]; exact fun e => hyb.2 a ha e.symm⟩
structure Loop (w wr : World) (x : zf) (A1 A2 A3 : Option Addr) (c1 c2 c3 k : Nat) (ys : List zO) : Prop where
 duo : Duo 81 w wr w.heap.size (w.heap.size + 1) #[.string ⟨x.name.toArray⟩, .string ⟨x.sup.toArray⟩, .slice A1 x.km c1, .slice A2 x.fm c2, .slice A3 x.mm c3] #[.string ⟨#[]⟩, .string ⟨#[]⟩, .slice none 0 0, .slice none 0 0, .slice none 0 0]
 kk : wr.ownsRow (w.heap.size + 2) 75 5 (.slice A1 x.km c1) x.km (x.consts.flatMap Cst.vals)
 ff : wr.ownsRow (w.heap.size + 2) 125 2 (.slice A2 x.fm c2) x.fm (x.fields.flatMap ZA.vals)
 part : Part (w.heap.size + 2) wr A3 x.mm c3 k x.meths ys
 apart : ∀ q, (Value.slice A3 x.mm c3).ownBlock = some q → (Value.slice A1 x.km c1).ownBlock ≠ some q ∧ (Value.slice A2 x.fm c2).ownBlock ≠ some q
theorem Loop.ext {w wr w' : World} {x : zf} {A1 A2 A3 : Option Addr} {c1 c2 c3 k : Nat} {ys : List zO} (h : Loop w wr x A1 A2 A3 c1 c2 c3 k ys) (hb : Below wr.heap.size wr w') : Loop w w' x A1 A2 A3 c1 c2 c3 k ys :=
 ⟨h.duo.ext hb, zh h.kk (fun q hq => hb.block q (h.kk.lt q hq).2), zh h.ff (fun q hq => hb.block q (h.ff.lt q hq).2), h.part.ext hb, h.apart⟩
theorem Loop.put {w wr w1 : World} {x : zf} {A1 A2 : Option Addr} {b c1 c2 c3 k : Nat} {ys : List zO} {y : zO} (h : Loop w wr x A1 A2 (some ⟨b, 0, none⟩) c1 c2 c3 k ys) (hk : k < x.meths.length) (hb : Below wr.heap.size wr w1) (hy : Jw wr.heap.size w1 y) (hp : y.pure = x.meths[k].pure) :
 Loop w (Y3 w1 b k y) x A1 A2 (some ⟨b, 0, none⟩) c1 c2 c3 (k + 1) (ys ++ [y]) := by
 have h1 := h.ext hb
 obtain ⟨lb, hb2⟩ := h1.part.own.lt b rfl
 have hap := h.apart b rfl
 have hp5 := h.part.put hk hb hy hp
 have hblk : ∀ q, q ≠ b → (Y3 w1 b k y).heap[q]? = w1.heap[q]? := fun q hq => jH w1 b k y q hq
 have hd := h1.duo
 have hbel : Below w.heap.size w (Y3 w1 b k y) := Gd hd.bel b k y (by omega)
 have e1 : Bx (Y3 w1 b k y) w.heap.size _ _ := (hblk _ (by omega)).trans hd.box
 have e2 : Bx (Y3 w1 b k y) (w.heap.size + 1) _ _ := (hblk _ (by omega)).trans hd.res
 have e3 := zh (w' := Y3 w1 b k y) h1.kk (fun q hq => hblk q (fun e => hap.1 (by rw [hq, e])))
 have e4 := zh (w' := Y3 w1 b k y) h1.ff (fun q hq => hblk q (fun e => hap.2 (by rw [hq, e])))
 have hd2 := Duo.mk (T := 81) e1 e2 hd.ne hd.lb hd.lr hbel
 exact Loop.mk hd2 e3 e4 hp5 h.apart
set_option maxRecDepth 100000 in
set_option maxHeartbeats 8000000 in
theorem Ug (x : zf) (w : World) (hx : x.is w) (h1 : x.consts.length ≤ 10000) (h2 : x.fields.length ≤ 10000) (h3 : x.meths.length ≤ 10000) (h4 : ∀ z ∈ x.meths, z.code.length ≤ 10000 ∧ z.hand.length ≤ 10000) :
 Calls Tryz.prog 36 #[x.V] w fun e w' => ∃ y : zf, e = .returned y.V ∧ kE w.heap.size w' y ∧ zw8 y x ∧ Below w.heap.size w w' := by
 have HX := zH hx
 have HK := zH (fun (wr : World) (hb : Below w.heap.size w wr) => VO x.kA x.consts x.km x.kc wr hx.consts.len (by have := hx.consts.len; omega) (hx.consts.rds.below hb))
 have HFl := zH (fun (wr : World) (hb : Below w.heap.size w wr) => VK x.fA x.fields x.fm x.fc wr hx.fields.len (by have := hx.fields.len; omega) (hx.fields.rds.below hb))
 have HM := zH (fun (wr : World) (hb : Below w.heap.size w wr) => VH x.mA x.meths x.mm x.mc wr hx.meths.len (by have := hx.meths.len; omega) (hx.meths.rds.below hb))
 have HCl := zH (fun (wr : World) (hb : Below w.heap.size w wr) (z : zO) (hz : z ∈ x.meths) => Xr z wr ((hx.meths.each z hz).below hb) (h4 z hz).1 (h4 z hz).2)
 have hmm := hx.meths.len
 have hml : x.mm ≤ x.meths.length := Nat.le_of_eq hmm
 have hml2 : x.meths.length ≤ x.mm := Nat.le_of_eq hmm.symm
 have hm1 : x.mm ≤ 10000 := by omega
 clear hx h1 h2 h3 h4 hmm
 obtain ⟨xn, xs, kA, km, kc, fA, fm, fc, mA, mm, mc, consts, fields, meths⟩ := x
 simp only [zf.V] at *
 have D0 := zH (Duo.start 81 w #[.string ⟨xn.toArray⟩, .string ⟨xs.toArray⟩, .slice kA km kc, .slice fA fm fc, .slice mA mm mc] #[.string ⟨#[]⟩, .string ⟨#[]⟩, .slice none 0 0, .slice none 0 0, .slice none 0 0])
 go_enter Tryz.func36, Tryz.ntmps36
 go_wp2_with fail
 refine (HK.out _ D0.out.bel).mono ?_
 rintro e w1 ⟨v1, rfl, hown1, hb1⟩
 obtain ⟨A1, c1, rfl, hq1, hq1', hl1, _⟩ := zS hown1
 have D1 := zH (D0.out.ext hb1)
 have O1 := zH hown1
 have Q1 := zH (And.intro hq1 hq1')
 have hc := D1.out.box.cell 2
 have hf := D1.out.box.free 2
 clear hown1 hb1 hl1 hq1 hq1'
 have S1 := zH (D1.out.set 2 (.slice A1 km c1))
 have hd : (w1.setCell ⟨w.heap.size, 2, none⟩ (.slice A1 km c1)).cell? ⟨w.heap.size, 3, none⟩ = some (.slice fA fm fc) := S1.out.box.cell 3
 go_wp2_with fail
 clear hc hf hd
 have hs1 := S1.out.bel.size
 have P1 := zH (zh O1.out (w' := w1.setCell ⟨w.heap.size, 2, none⟩ (.slice A1 km c1)) (fun k hk => heap_setCell_other w1 _ k _ (by have := (O1.out.lt k hk).1; simp at this; show k ≠ w.heap.size; omega)))
 refine (HFl.out _ S1.out.bel).mono ?_
 rintro e w2 ⟨v2, rfl, hown2, hb2⟩
 obtain ⟨A2, c2, rfl, hq2, hq2', hl2, _⟩ := zS hown2
 have D2 := zH (S1.out.ext hb2)
 have O2 := zH hown2
 have Q2 := zH (And.intro hq2 hq2')
 have P2 := zH (zh P1.out (fun k hk => hb2.block k (P1.out.lt k hk).2))
 have hc := D2.out.box.cell 3
 have hf := D2.out.box.free 3
 clear hown2 hb2 hl2 hq2 hq2'
 have S2 := zH (D2.out.set 3 (.slice A2 fm c2))
 have hd : (w2.setCell ⟨w.heap.size, 3, none⟩ (.slice A2 fm c2)).cell? ⟨w.heap.size, 4, none⟩ = some (.slice mA mm mc) := S2.out.box.cell 4
 go_wp2_with fail
 clear hc hf hd
 have hlt1 := S1.out.box.lt
 have R1 := zH (zh P2.out (w' := w2.setCell ⟨w.heap.size, 3, none⟩ (.slice A2 fm c2)) (fun k hk => heap_setCell_other w2 _ k _ (by have := (P2.out.lt k hk).1; simp at this; show k ≠ w.heap.size; omega)))
 have R2 := zH (zh O2.out (w' := w2.setCell ⟨w.heap.size, 3, none⟩ (.slice A2 fm c2)) (fun k hk => heap_setCell_other w2 _ k _ (by have := (O2.out.lt k hk).1; show k ≠ w.heap.size; omega)))
 refine (HM.out _ S2.out.bel).mono ?_
 rintro e w3 ⟨v3, rfl, hown3, hb3⟩
 obtain ⟨A3, c3, rfl, hq3, hq3', hl3, _⟩ := zS hown3
 have D3 := zH (S2.out.ext hb3)
 have O3 := zH hown3
 have Q3 := zH (And.intro hq3 hq3')
 have T1 := zH (zh R1.out (fun k hk => hb3.block k (R1.out.lt k hk).2))
 have T2 := zH (zh R2.out (fun k hk => hb3.block k (R2.out.lt k hk).2))
 have hc := D3.out.box.cell 4
 have hf := D3.out.box.free 4
 clear hown3 hb3 hl3 hq3 hq3'
 have S3 := zH (D3.out.set 4 (.slice A3 mm c3))
 have hd : (w3.setCell ⟨w.heap.size, 4, none⟩ (.slice A3 mm c3)).cell? ⟨w.heap.size, 4, none⟩ = some (.slice A3 mm c3) := S3.out.box.cell 4
 go_wp2_with fail
 clear hc hf hd
 have hlt2 := S2.out.box.lt
 have hlt3 := S2.out.res.lt
 have hlt4 := D0.out.res.lt
 have V1 := zH (zh T1.out (w' := w3.setCell ⟨w.heap.size, 4, none⟩ (.slice A3 mm c3)) (fun k hk => heap_setCell_other w3 _ k _ (by have := (T1.out.lt k hk).1; simp at this; show k ≠ w.heap.size; omega)))
 have V2 := zH (zh T2.out (w' := w3.setCell ⟨w.heap.size, 4, none⟩ (.slice A3 mm c3)) (fun k hk => heap_setCell_other w3 _ k _ (by have := (T2.out.lt k hk).1; show k ≠ w.heap.size; omega)))
 have V3 := zH (zh O3.out (w' := w3.setCell ⟨w.heap.size, 4, none⟩ (.slice A3 mm c3)) (fun k hk => heap_setCell_other w3 _ k _ (by have := (O3.out.lt k hk).1; show k ≠ w.heap.size; omega)))
 have hL : Loop w (w3.setCell ⟨w.heap.size, 4, none⟩ (.slice A3 mm c3)) ⟨xn, xs, kA, km, kc, fA, fm, fc, mA, mm, mc, consts, fields, meths⟩ A1 A2 A3 c1 c2 c3 0 [] := by
  have hs2 := S2.out.res.lt
  have hs0 := S1.out.res.lt
  refine ⟨S3.out, Z6 V1.out (by simp), Z6 V2.out (by omega), ⟨Z6 V3.out (by omega), rfl, rfl, by simp, by simp⟩, ?_⟩
  intro q hq
  have a1 := (V3.out.lt q hq).1
  constructor
  · intro e
    have := (P2.out.lt q e).2
    simp at a1
    omega
  · intro e
    have := (O2.out.lt q e).2
    simp at a1
    omega
 have HL := zH hL
 clear hL
 go_loopw [20] (fun i wr => ∃ (k : Nat) (ys : List zO), k ≤ mm ∧ i = .int .i64 k ∧ Loop w wr ⟨xn, xs, kA, km, kc, fA, fm, fc, mA, mm, mc, consts, fields, meths⟩ A1 A2 A3 c1 c2 c3 k ys) (fun i _ => mm - (intOf i).toNat)
 case atStart => exact ⟨0, [], Nat.zero_le _, rfl, HL.out⟩
 case round =>
  obtain ⟨k, ys, hk, rfl, hl⟩ := hrel
  have Hl := zH hl
  have hcm := hl.duo.box.cell 4
  by_cases hlt : k < mm
  · have hkl : k < meths.length := by omega
    have hlen := hl.part.len
    have hrd := Rds.qU hl.part.own
    have hkl2 : k < (ys ++ meths.drop k).length := by simp [hlen]; omega
    obtain ⟨b, o, hbo, hb, hc0, hc1, hc2, hc3, hc4⟩ := jY hrd hkl2
    have hge : (ys ++ meths.drop k)[k] = meths[k] := by
     rw [List.getElem_append_right (by omega)]
     simp [hlen]
    rw [hge] at hc0 hc1 hc2 hc3 hc4
    have ho : o = 0 := by
     obtain ⟨h1, h2⟩ := hl.part.own
     rcases h2 with ⟨e, _⟩ | ⟨g, cap, cur, e, _⟩
     · rw [hbo] at e; cases e
     · rw [hbo] at e; cases e; rfl
    subst ho
    subst hbo
    rw [Nat.zero_add] at hc0 hc1 hc2 hc3 hc4
    have hk1 : (k : Int) < (mm : Int) := by omega
    have hk0 : (0 : Int) ≤ (k : Int) := by omega
    have HZ := zH (fun wr hb => HCl.out wr hb meths[k] (List.getElem_mem hkl))
    have Hput := zH (fun (w1 : World) (hb : Below wr.heap.size wr w1) (y : zO) hy hp => hl.put (w1 := w1) (y := y) hkl hb hy hp)
    have HC5 := zH (fun (W : World) (hb : Below wr.heap.size wr W) => show W.cell? ⟨w.heap.size, 4, none⟩ = some (.slice (some ⟨b, 0, none⟩) mm c3) ∧ W.cell? ⟨b, k * 5, none⟩ = some (.string ⟨meths[k].name.toArray⟩) ∧ W.cell? ⟨b, k * 5 + 1, none⟩ = some (.string ⟨meths[k].sig.toArray⟩) ∧ W.cell? ⟨b, k * 5 + 2, none⟩ = some (.int .i64 meths[k].locals) ∧ W.cell? ⟨b, k * 5 + 3, none⟩ = some (.slice meths[k].cA meths[k].cm meths[k].cc) ∧ W.cell? ⟨b, k * 5 + 4, none⟩ = some (.slice meths[k].hA meths[k].hm meths[k].hc) ∧ ∀ j, W.frozen? ⟨b, j, none⟩ = false from by
     have h2 := hl.ext hb
     obtain ⟨b2, o2, hbo2, _, d0, d1, d2, d3, d4⟩ := jY (Rds.qU h2.part.own) hkl2
     cases hbo2
     rw [hge] at d0 d1 d2 d3 d4
     rw [Nat.zero_add] at d0 d1 d2 d3 d4
     exact ⟨h2.duo.box.cell 4, d0, d1, d2, d3, d4, fun j => h2.part.own.frozenAt j⟩)
    generalize meths[k] = z at *
    obtain ⟨z0, z1, z2, zA, zm, zc, zhA, zhm, zhc, zcode, zhand⟩ := z
    simp only at hc0 hc1 hc2 hc3 hc4
    simp only [zO.V] at HZ
    have hbw := hl.duo.bel
    have hszw := hbw.size
    have hgl := hl.duo.box.lt
    have hgl2 : w.heap.size < wr.heap.size + 1 := by omega
    have Hbel := zH hbw
    simp only at HC5
    clear hrd hge hkl2 hbw
    go_wp2_with fail
    go_region_with ((go_at_call 83; refine (HZ.out _ ((Hbel.out.alloc hszw _).drew)).mono ?_; rintro e w5 ⟨y, rfl, hfr, hpu, hb5⟩; obtain ⟨y0, y1, y2, yA, ym, yc, yhA, yhm, yhc, ycode, yhand⟩ := y; simp only; obtain ⟨e4, d0, d1, d2, d3, d4, dfz⟩ := HC5.out w5 (((Below.refl wr.heap.size wr).alloc (Nat.le_refl _) _).drew.trans (hb5.mono (by simp))); have n0 := dfz (k * 5); have n1 := dfz (k * 5 + 1); have n2 := dfz (k * 5 + 2); have n3 := dfz (k * 5 + 3); have n4 := dfz (k * 5 + 4); have B5 := zH hb5; have F5 := zH hfr; have U5 := zH hpu; clear dfz hb5 hfr hpu))
    all_goals
     have HP : Hid (Loop w (Y3 w5 b k ⟨y0, y1, y2, yA, ym, yc, yhA, yhm, yhc, ycode, yhand⟩) ⟨xn, xs, kA, km, kc, fA, fm, fc, mA, mm, mc, consts, fields, meths⟩ A1 A2 (some ⟨b, 0, none⟩) c1 c2 c3 (k + 1) (ys ++ [⟨y0, y1, y2, yA, ym, yc, yhA, yhm, yhc, ycode, yhand⟩])) := zH (Hput.out w5 (((Below.refl wr.heap.size wr).alloc (Nat.le_refl _) _).drew.trans (B5.out.mono (by simp))) ⟨y0, y1, y2, yA, ym, yc, yhA, yhm, yhc, ycode, yhand⟩ (U3 F5.out (by simp)) U5.out)
     unfold Y3 at HP
     simp only at HP
     clear e4 d0 d1 d2 d3 d4 n0 n1 n2 n3 n4
     go_wp2_with fail
     go_roundw
     case rel => exact ⟨k + 1, ys ++ [⟨y0, y1, y2, yA, ym, yc, yhA, yhm, yhc, ycode, yhand⟩], by omega, by go_num, HP.out⟩
     case measure => simp [intOf]; omega
  · have hkm : k = mm := by omega
    subst hkm
    have S4 := zH hl.duo
    have HPt := zH hl.part
    have HKK := zH hl.kk
    have HFF := zH hl.ff
    have Hb : Bx wr w.heap.size #[.string ⟨xn.toArray⟩, .string ⟨xs.toArray⟩, .slice A1 km c1, .slice A2 fm c2, .slice A3 k c3] 81 := hl.duo.box
    have g0 := Hb.cell 0
    have g1 := Hb.cell 1
    have g2 := Hb.cell 2
    have g3 := Hb.cell 3
    have g4 := Hb.cell 4
    have f0 := S4.out.res.free 0
    have r0 := S4.out.res.cell 0
    have f1 := S4.out.res.free 1
    have r1 := S4.out.res.cell 1
    have f2 := S4.out.res.free 2
    have r2 := S4.out.res.cell 2
    have f3 := S4.out.res.free 3
    have r3 := S4.out.res.cell 3
    have f4 := S4.out.res.free 4
    have r4 := S4.out.res.cell 4
    clear Hb hl hcm
    go_wp2_with fail
    have HF := zH (((((S4.out.put 0 (.string ⟨xn.toArray⟩)).put 1 (.string ⟨xs.toArray⟩)).put 2 (.slice A1 km c1)).put 3 (.slice A2 fm c2)).put 4 (.slice A3 k c3))
    have HW : Bx _ (w.heap.size + 1) #[.string ⟨xn.toArray⟩, .string ⟨xs.toArray⟩, .slice A1 km c1, .slice A2 fm c2, .slice A3 k c3] 81 := HF.out.res
    have five := fun (k' : Nat) (hk : k' ≠ w.heap.size + 1) => (heap_setCell_other ((((wr.setCell ⟨w.heap.size + 1, 0, none⟩ (.string ⟨xn.toArray⟩)).setCell ⟨w.heap.size + 1, 1, none⟩ (.string ⟨xs.toArray⟩)).setCell ⟨w.heap.size + 1, 2, none⟩ (.slice A1 km c1)).setCell ⟨w.heap.size + 1, 3, none⟩ (.slice A2 fm c2)) ⟨w.heap.size + 1, 4, none⟩ k' (.slice A3 k c3) hk).trans ((heap_setCell_other _ ⟨w.heap.size + 1, 3, none⟩ k' _ hk).trans ((heap_setCell_other _ ⟨w.heap.size + 1, 2, none⟩ k' _ hk).trans ((heap_setCell_other _ ⟨w.heap.size + 1, 1, none⟩ k' _ hk).trans (heap_setCell_other _ ⟨w.heap.size + 1, 0, none⟩ k' _ hk))))
    have hszF := HF.out.bel.size
    generalize hWf : ((((wr.setCell ⟨w.heap.size + 1, 0, none⟩ (.string ⟨xn.toArray⟩)).setCell ⟨w.heap.size + 1, 1, none⟩ (.string ⟨xs.toArray⟩)).setCell ⟨w.heap.size + 1, 2, none⟩ (.slice A1 km c1)).setCell ⟨w.heap.size + 1, 3, none⟩ (.slice A2 fm c2)).setCell ⟨w.heap.size + 1, 4, none⟩ (.slice A3 k c3) = Wf at *
    have hsW : wr.heap.size ≤ Wf.heap.size := by rw [← hWf]; simp
    have E1 := zh (w' := Wf) HKK.out (fun q hq => five q (by have := (HKK.out.lt q hq).1; omega))
    have E2 := zh (w' := Wf) HFF.out (fun q hq => five q (by have := (HFF.out.lt q hq).1; omega))
    have E3 := zh (w' := Wf) HPt.out.own (fun q hq => five q (by have := (HPt.out.own.lt q hq).1; omega))
    obtain ⟨u1, u2⟩ := Q1.out
    obtain ⟨u3, u4⟩ := Q2.out
    obtain ⟨u5, u6⟩ := Q3.out
    have hys : ys.length = k := HPt.out.len
    have hdr : ys ++ meths.drop k = ys := by rw [List.drop_of_length_le (by omega)]; simp
    rw [hdr] at E3
    have hz1 := HX.out.consts
    have hz2 := HX.out.fields
    have hfs : ∀ z ∈ ys, Jw w.heap.size Wf z := fun z hz => U3 (yU (HPt.out.each z hz) hsW (fun a ha => five _ (by have := ((HPt.out.each z hz).code a ha).1; omega)) (fun a ha => five _ (by have := ((HPt.out.each z hz).hand a ha).1; omega))) (by omega)
    exact bodyPost_ret (v := .agg #[.string ⟨xn.toArray⟩, .string ⟨xs.toArray⟩, .slice A1 km c1, .slice A2 fm c2, .slice A3 k c3]) (jl Tryz.results36 _ _ _ _ rfl (run_loadVar_row _ _ _ _ #[.string ⟨xn.toArray⟩, .string ⟨xs.toArray⟩, .slice A1 km c1, .slice A2 fm c2, .slice A3 k c3] (0, 0) _ HW Tryz.underlying81 rfl Jc)) rfl
     ⟨⟨xn, xs, A1, km, c1, A2, fm, c2, A3, k, c3, consts, fields, ys⟩, rfl, ⟨⟨⟨hz1.len, u1, u2, Rds.qU E1, hz1.fit⟩, ⟨hz2.len, u3, u4, Rds.qU E2⟩, ⟨hys.symm, u5, u6, Rds.qU E3, fun z hz => (hfs z hz).is⟩⟩, fun a ha => (by
      have ha' : A1 = some a := ha
      subst ha'
      have := E1.lt a.block rfl
      exact ⟨by omega, this.2⟩), fun a ha => (by
      have ha' : A2 = some a := ha
      subst ha'
      have := E2.lt a.block rfl
      exact ⟨by omega, this.2⟩), fun a ha => (by
      have ha' : A3 = some a := ha
      subst ha'
      have := E3.lt a.block rfl
      exact ⟨by omega, this.2⟩), hfs⟩, ⟨rfl, rfl, rfl, rfl, by have := HPt.out.pure; rw [List.take_of_length_le (by omega)] at this; exact this⟩, HF.out.bel⟩
end TabK
end Go.Proofs.YtehainbhoflpnaaGreatDoor
