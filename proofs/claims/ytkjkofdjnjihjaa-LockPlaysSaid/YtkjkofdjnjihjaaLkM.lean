/-
  Things that threads hold, in memory: a box with a row of holds of its own; what a call that changes some blocks leaves as it was; two such lists side by side.
-/
import Derived.Test.YtkjkofdjnjihjaaProg
import Derived.Test.YtkjkofdjnjihjaaBinM
import Derived.Test.YtkjkofdjnjihjaaStru
import Derived.WalkKit
import Derived.LoopTactic
import Derived.WalkSpells
import Derived.Lib.Hide
import Derived.Deep.AppendLies
import Derived.Outline
namespace Go.Proofs.Ytkjkofdjnjihjaa
namespace LkM
open Go.RowKit Base BinM

/-- a block, with just these cells in it -/
def Bx (w : World) (g : Nat) (C : Array Value) (ty : TypeId) : Prop := w.heap[g]? = some (.cells C ty (0, 0))
theorem Bx.cell {w : World} {g : Nat} {C : Array Value} {ty : TypeId} (h : Bx w g C ty) (j : Nat) : w.cell? ⟨g, j, none⟩ = C[j]? := cell_of_row _ _ _ _ _ (0, 0) h
theorem Bx.free {w : World} {g : Nat} {C : Array Value} {ty : TypeId} (h : Bx w g C ty) (j : Nat) : w.frozen? ⟨g, j, none⟩ = false := frozen_of_row w _ j _ _ h
theorem Bx.set {w : World} {g : Nat} {C : Array Value} {ty : TypeId} (h : Bx w g C ty) (j : Nat) (v : Value) : Bx (w.setCell ⟨g, j, none⟩ v) g (C.setIfInBounds j v) ty := heap_setCell_same w g j C ty v h
theorem Bx.beside {w : World} {g b : Nat} {C : Array Value} {ty : TypeId} (h : Bx w g C ty) (j : Nat) (v : Value) (hn : g ≠ b) : Bx (w.setCell ⟨b, j, none⟩ v) g C ty := (heap_setCell_other w ⟨b, j, none⟩ g v hn).trans h
theorem Bx.lt {w : World} {g : Nat} {C : Array Value} {ty : TypeId} (h : Bx w g C ty) : g < w.heap.size := by
  rcases Nat.lt_or_ge g w.heap.size with hl | hl
  · exact hl
  · unfold Bx at h; rw [Array.getElem?_eq_none hl] at h; cases h
theorem Bx.new (w : World) (C : Array Value) (ty : TypeId) : Bx (w.alloc (.cells C ty)) w.heap.size C ty := heap_alloc_new w _
theorem Bx.after {w w' : World} {g : Nat} {C : Array Value} {ty : TypeId} (h : Bx w g C ty) (hb : Below w.heap.size w w') : Bx w' g C ty := (hb.block g h.lt).trans h
theorem Bx.alloc {w : World} {g : Nat} {C : Array Value} {ty : TypeId} (h : Bx w g C ty) (o : Obj) : Bx (w.alloc o) g C ty := h.after ((Below.refl _ w).alloc (Nat.le_refl _) o)
theorem own_same {w w' : World} {base : Nat} {e : TypeId} {size n : Nat} {v : Value} {xs : List Value} (h : w.ownsRow base e size v n xs) (hb : ∀ k, v.ownBlock = some k → w'.heap[k]? = w.heap[k]?) : w'.ownsRow base e size v n xs := by
  obtain ⟨h1, h2⟩ := h
  refine ⟨h1, ?_⟩
  rcases h2 with h2 | ⟨g, cap, cur, rfl, b, c, d⟩
  · exact .inl h2
  · exact .inr ⟨g, cap, cur, rfl, b, (hb g rfl).trans c, d⟩
theorem own_ne {w : World} {base b size n : Nat} {e : TypeId} {v : Value} {xs : List Value} {C : Array Value} {ty : TypeId} (h : w.ownsRow base e size v n xs) (hb : Bx w b C ty) (hne : ty ≠ e) : v.ownBlock ≠ some b := by
  intro e'
  rcases h.2 with ⟨hv, _⟩ | ⟨g, cap, cur, hv, _, hh, _⟩
  · rw [hv] at e'; cases e'
  · rw [hv] at e'
    have e2 : g = b := by injection e'
    subst e2
    have hb2 : w.heap[g]? = some (.cells C ty (0, 0)) := hb
    rw [hh] at hb2
    injection hb2 with hb2
    injection hb2 with _ hb2 _
    exact hne hb2.symm
/-- a cell of one's own row, written -/
theorem own_setN {w : World} {base : Nat} {e : TypeId} {size n c b : Nat} {xs : List Value} (h : w.ownsRow base e size (.slice (some ⟨b, 0, none⟩) n c) n xs) (k : Nat) (u : Value) :
    (w.setCell ⟨b, k, none⟩ u).ownsRow base e size (.slice (some ⟨b, 0, none⟩) n c) n (xs.set k u) := by
  obtain ⟨r1, r2⟩ := h
  rcases r2 with ⟨r2, _⟩ | ⟨b', cap, cur, r2, r3, r4, r5, r6, r7, r8⟩
  · cases r2
  · injection r2 with r2 r2' r2''
    injection r2 with r2
    injection r2 with r2
    subst r2
    subst r2''
    refine ⟨by rw [List.length_set]; exact r1, .inr ⟨b, c, cur.setIfInBounds k u, rfl, r3, heap_setCell_same w b k cur e u r4, r5, r6, by rw [Array.size_setIfInBounds]; exact r7, ?_⟩⟩
    rw [Array.toList_setIfInBounds, ← r8, List.take_set]
theorem block_of {A : Option Addr} {n c : Nat} {k : Nat} (h : (Value.slice A n c).ownBlock = some k) : ∃ a, A = some a ∧ a.block = k := by
  cases A with
  | none => cases h
  | some a => exact ⟨a, rfl, by injection h⟩

/-- a number of 64 bits -/
def fitI (x : Int) : Prop := -9223372036854775808 ≤ x ∧ x ≤ 9223372036854775807
theorem wf_of {x : Int} (h : fitI x) : (Lit.int .i64 x).wf = true := by
  unfold fitI at h
  simp [Lit.wf, IntKind.min, IntKind.max, IntKind.bits, IntKind.signed]; omega
/-- a row of its own of numbers of 64 bits -/
def OwnI (w : World) (base : Nat) (v : Value) (l : List Int) : Prop := w.ownsRow base 2 1 v l.length (l.map (Value.int .i64))
theorem info64 : (Try.prog.info? 2).map (fun i => (i.zero, i.size, i.bytes)) = some (some (.int .i64 0), 1, 8) := by kernel_rfl
theorem oneI (l : List Int) : ∀ u ∈ l.map (Value.int .i64), u.oneCell' = true := by
  intro u hu
  obtain ⟨x, _, rfl⟩ := List.mem_map.1 hu
  rfl

theorem bel_drewN {B : Nat} {a w : World} (h : Below B a w) (n : Nat) : Below B a (w.drewN n) := ⟨h.os, h.tape, h.output, h.size, h.block⟩

/-- what is outside F, and was there, is as it was -/
structure Turned (F : Nat → Prop) (w w' : World) : Prop where
  os : w'.os = w.os
  tape : w'.tape = w.tape
  output : w'.output = w.output
  size : w.heap.size ≤ w'.heap.size
  block : ∀ k, k < w.heap.size → ¬ F k → w'.heap[k]? = w.heap[k]?
theorem Turned.refl (F : Nat → Prop) (w : World) : Turned F w w := ⟨rfl, rfl, rfl, Nat.le_refl _, fun _ _ _ => rfl⟩
theorem Turned.of_below {F : Nat → Prop} {w w' : World} (h : Below w.heap.size w w') : Turned F w w' := ⟨h.os, h.tape, h.output, h.size, fun k hk _ => h.block k hk⟩
theorem Turned.of_grown {F : Nat → Prop} {w w' : World} {row : Option Nat} (h : w.grownBy w' row) (hF : ∀ k, row = some k → F k) : Turned F w w' := ⟨h.os, h.tape, h.output, h.size, fun k hk hn => h.block k hk (fun e => hn (hF k e.symm))⟩
theorem Turned.of_set {F : Nat → Prop} (w : World) {a : Addr} (hF : F a.block) (v : Value) : Turned F w (w.setCell a v) :=
  ⟨rfl, rfl, rfl, by simp, fun k _ hn => heap_setCell_other w a k v (fun e => hn (by rw [e]; exact hF))⟩
theorem Turned.trans {F G : Nat → Prop} {a b c : World} (h : Turned F a b) (k : Turned G b c) (hG : ∀ j, G j → F j ∨ a.heap.size ≤ j) : Turned F a c :=
  ⟨k.os.trans h.os, k.tape.trans h.tape, k.output.trans h.output, Nat.le_trans h.size k.size, fun j hj hn => (k.block j (Nat.lt_of_lt_of_le hj h.size) (fun g => by
    rcases hG j g with h1 | h1
    · exact hn h1
    · omega)).trans (h.block j hj hn)⟩
theorem Turned.below {F : Nat → Prop} {w w' : World} {B : Nat} (h : Turned F w w') (hB : ∀ k, F k → B ≤ k) (hs : B ≤ w.heap.size) : Below B w w' :=
  ⟨h.os, h.tape, h.output, h.size, fun k hk => h.block k (by omega) (fun f => by have := hB k f; omega)⟩

/-- a thing that is held: its address, by whom, how often -/
structure Ho where
  a : Int
  w : Int
  n : Int
def hoV (h : Ho) : List Value := [.int .i64 h.a, .int .i64 h.w, .int .i64 h.n]
theorem hoV_len (h : Ho) : (hoV h).length = 3 := rfl
theorem hoOne (hs : List Ho) : ∀ u ∈ hs.flatMap hoV, u.oneCell' = true := by
  intro u hu
  obtain ⟨x, _, hx⟩ := List.mem_flatMap.1 hu
  simp only [hoV, List.mem_cons, List.not_mem_nil, or_false] at hx
  rcases hx with rfl | rfl | rfl <;> rfl

/-- all that is held, in memory: a box of type tb, a row of type te -/
structure Lk (tb te : TypeId) (w : World) (b : Nat) (A : Option Addr) (c : Nat) (hs : List Ho) : Prop where
  box : Bx w b #[.slice A hs.length c] tb
  row : w.ownsRow 0 te 3 (.slice A hs.length c) hs.length (hs.flatMap hoV)
  ne : tb ≠ te
/-- its blocks -/
def feet (b : Nat) (A : Option Addr) (k : Nat) : Prop := k = b ∨ ∃ a, A = some a ∧ a.block = k
section
variable {tb te : TypeId} {w w' : World} {b : Nat} {A : Option Addr} {c : Nat} {hs : List Ho}
theorem Lk.apart (H : Lk tb te w b A c hs) {a : Addr} (ha : A = some a) : a.block ≠ b := by
  intro e
  exact own_ne H.row H.box H.ne (by rw [ha, ← e]; rfl)
theorem Lk.lt (H : Lk tb te w b A c hs) {k : Nat} (hk : feet b A k) : k < w.heap.size := by
  rcases hk with rfl | ⟨a, h1, rfl⟩
  · exact H.box.lt
  · subst h1; exact (H.row.lt _ rfl).2
theorem Lk.aside (H : Lk tb te w b A c hs) (hb : ∀ k, feet b A k → w'.heap[k]? = w.heap[k]?) : Lk tb te w' b A c hs := by
  refine ⟨(hb b (.inl rfl)).trans H.box, own_same H.row (fun k hk => hb k ?_), H.ne⟩
  obtain ⟨a, q1, q2⟩ := block_of hk
  exact .inr ⟨a, q1, q2⟩
theorem Lk.beside (H : Lk tb te w b A c hs) (hb : Below w.heap.size w w') : Lk tb te w' b A c hs := H.aside (fun k hk => hb.block k (H.lt hk))
theorem Lk.drew (H : Lk tb te w b A c hs) (q : Nat) : Lk tb te (w.drewN q) b A c hs := H.aside (fun _ _ => rfl)
/-- where the holds lie -/
theorem Lk.at_ (H : Lk tb te w b A c hs) (h0 : 0 < hs.length) : ∃ g, A = some ⟨g, 0, none⟩ ∧ g ≠ b ∧ g < w.heap.size := by
  obtain ⟨g, cap, e, _, hl⟩ := H.row.form h0
  injection e with e _ _
  exact ⟨g, e, H.apart e, hl⟩
theorem Lk.cells {g : Nat} (H : Lk tb te w b (some ⟨g, 0, none⟩) c hs) {k : Nat} (hk : k < hs.length) :
    w.cell? ⟨g, k * 3, none⟩ = some (.int .i64 hs[k].a) ∧ w.cell? ⟨g, k * 3 + 1, none⟩ = some (.int .i64 hs[k].w) ∧ w.cell? ⟨g, k * 3 + 2, none⟩ = some (.int .i64 hs[k].n) := by
  have h : ∀ j, j < 3 → w.cell? ⟨g, k * 3 + j, none⟩ = (hoV hs[k])[j]? := fun j hj => by
    rw [H.row.cellAt (k * 3 + j) (by omega)]
    exact Stru.flat_get hoV 3 hoV_len hs k j hk hj
  exact ⟨h 0 (by omega), h 1 (by omega), h 2 (by omega)⟩
theorem Lk.free {g : Nat} (H : Lk tb te w b (some ⟨g, 0, none⟩) c hs) (k : Nat) : w.frozen? ⟨g, k, none⟩ = false := H.row.frozenAt k
/-- how often a thing is held, written -/
theorem flat_set (hs : List Ho) : ∀ (k : Nat) (hk : k < hs.length) (n : Int), (hs.flatMap hoV).set (k * 3 + 2) (.int .i64 n) = (hs.set k ⟨hs[k].a, hs[k].w, n⟩).flatMap hoV := by
  induction hs with
  | nil => intro k hk; exact absurd hk (Nat.not_lt_zero _)
  | cons h t ih =>
    intro k hk n
    cases k with
    | zero => rfl
    | succ k =>
      have e : (k + 1) * 3 + 2 = k * 3 + 2 + 1 + 1 + 1 := by omega
      rw [e]
      simp only [List.flatMap_cons, hoV, List.cons_append, List.nil_append, List.set_cons_succ, List.getElem_cons_succ, List.cons.injEq, true_and]
      exact ih k (by simpa using hk) n
theorem flat_setA (hs : List Ho) : ∀ (k : Nat) (hk : k < hs.length) (n : Int), (hs.flatMap hoV).set (k * 3) (.int .i64 n) = (hs.set k ⟨n, hs[k].w, hs[k].n⟩).flatMap hoV := by
  induction hs with
  | nil => intro k hk; exact absurd hk (Nat.not_lt_zero _)
  | cons h t ih =>
    intro k hk n
    cases k with
    | zero => rfl
    | succ k =>
      have e : (k + 1) * 3 = k * 3 + 1 + 1 + 1 := by omega
      rw [e]
      simp only [List.flatMap_cons, hoV, List.cons_append, List.nil_append, List.set_cons_succ, List.getElem_cons_succ, List.cons.injEq, true_and]
      exact ih k (by simpa using hk) n
theorem Lk.setN {g : Nat} (H : Lk tb te w b (some ⟨g, 0, none⟩) c hs) {k : Nat} (hk : k < hs.length) (n : Int) :
    Lk tb te (w.setCell ⟨g, k * 3 + 2, none⟩ (.int .i64 n)) b (some ⟨g, 0, none⟩) c (hs.set k ⟨hs[k].a, hs[k].w, n⟩) := by
  have hg : g ≠ b := H.apart rfl
  have hr := own_setN H.row (k * 3 + 2) (.int .i64 n)
  rw [flat_set hs k hk n] at hr
  exact ⟨by rw [List.length_set]; exact H.box.beside _ _ (Ne.symm hg), by rw [List.length_set]; exact hr, H.ne⟩
theorem Lk.setA {g : Nat} (H : Lk tb te w b (some ⟨g, 0, none⟩) c hs) {k : Nat} (hk : k < hs.length) (n : Int) :
    Lk tb te (w.setCell ⟨g, k * 3, none⟩ (.int .i64 n)) b (some ⟨g, 0, none⟩) c (hs.set k ⟨n, hs[k].w, hs[k].n⟩) := by
  have hg : g ≠ b := H.apart rfl
  have hr := own_setN H.row (k * 3) (.int .i64 n)
  rw [flat_setA hs k hk n] at hr
  exact ⟨by rw [List.length_set]; exact H.box.beside _ _ (Ne.symm hg), by rw [List.length_set]; exact hr, H.ne⟩
end
/-- behind a call that changed it -/
def NextL (tb te : TypeId) (w w' : World) (b : Nat) (A : Option Addr) (hs : List Ho) : Prop :=
  ∃ A' c', Lk tb te w' b A' c' hs ∧ Turned (feet b A) w w' ∧ ∀ k, feet b A' k → feet b A k ∨ w.heap.size ≤ k

/-! what the calls answer -/
/-- where a thing stands; behind all: nowhere -/
def fnd : List Ho → Int → Nat
  | [], _ => 0
  | h :: t, x => if h.a = x then 0 else fnd t x + 1
theorem fnd_le (hs : List Ho) (x : Int) : fnd hs x ≤ hs.length := by
  induction hs with
  | nil => exact Nat.le_refl _
  | cons h t ih => unfold fnd; split <;> simp <;> omega
theorem fnd_ne : ∀ (hs : List Ho) (x : Int) (k : Nat) (_ : k < fnd hs x) (hk : k < hs.length), hs[k].a ≠ x
  | [], _, _, h, _ => absurd h (Nat.not_lt_zero _)
  | g :: t, x, k, h, hk => by
    unfold fnd at h
    split at h
    · omega
    · rename_i hn
      cases k with
      | zero => exact hn
      | succ k => exact fnd_ne t x k (by omega) (by simpa using hk)
theorem fnd_at : ∀ (hs : List Ho) (x : Int) (h : fnd hs x < hs.length), (hs[fnd hs x]'h).a = x
  | [], _, h => absurd h (Nat.not_lt_zero _)
  | g :: t, x, h => by
    by_cases e : g.a = x
    · have h0 : fnd (g :: t) x = 0 := by unfold fnd; rw [if_pos e]
      simp only [h0]
      exact e
    · have h0 : fnd (g :: t) x = fnd t x + 1 := by rw [fnd, if_neg e]
      simp only [h0]
      exact fnd_at t x (by rw [h0] at h; simpa using h)
/-- it is there just from its place on -/
theorem fnd_hit {hs : List Ho} {x : Int} {k : Nat} (hk : k < hs.length) (hno : ∀ j (_ : j < k) (hj : j < hs.length), hs[j].a ≠ x) (hy : hs[k].a = x) : fnd hs x = k := by
  rcases Nat.lt_trichotomy (fnd hs x) k with h | h | h
  · exact absurd (fnd_at hs x (by omega)) (hno _ h (by omega))
  · exact h
  · exact absurd hy (fnd_ne hs x k h hk)
theorem fnd_miss {hs : List Ho} {x : Int} (hno : ∀ j (hj : j < hs.length), hs[j].a ≠ x) : fnd hs x = hs.length := by
  have h := fnd_le hs x
  rcases Nat.lt_or_ge (fnd hs x) hs.length with h1 | h1
  · exact absurd (fnd_at hs x h1) (hno _ h1)
  · omega
end LkM
end Go.Proofs.Ytkjkofdjnjihjaa
