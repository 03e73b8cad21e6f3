/-
  A heap with a list of addresses beside it: what each call on the heap leaves of the things at these addresses.
-/
import Derived.Test.YtfmodaelpldpfaaHpZ
import Derived.Test.YtfmodaelpldpfaaHpK
namespace Go.Proofs.Ytfmodaelpldpfaa
namespace HpV
open Go.RowKit Base BinM HpM HpA HpS HpB HpG HpP HpT HpZ HpK

/-- the thing at an address has two words, the second one being v, and a small type -/
def Kept (ts : List Th) (v a : Int) : Prop := ∃ (i : Nat) (t : Th), ts[i]? = some t ∧ a = (((raw (ts.take i)).length + 1 : Nat) : Int) ∧ t.W.length = 2 ∧ t.W[1]? = some v ∧ t.id < 100
theorem Kept.snoc {ts : List Th} {v a : Int} (h : Kept ts v a) (u : Th) : Kept (ts ++ [u]) v a := by
  obtain ⟨i, t, h1, h2, h3⟩ := h
  have hi := (List.getElem?_eq_some_iff.1 h1).1
  exact ⟨i, t, by rw [List.getElem?_append_left hi]; exact h1, by rw [List.take_append_of_le_length (by omega)]; exact h2, h3⟩
theorem Kept.last {ts : List Th} {v : Int} {id : Nat} {x : Int} {s : Int} (h : id < 100) : Kept (ts ++ [⟨id, [x, v], s⟩]) v (((raw ts).length + 1 : Nat) : Int) :=
  ⟨ts.length, _, by rw [List.getElem?_append_right (Nat.le_refl _), Nat.sub_self]; rfl, by rw [List.take_left], rfl, rfl, h⟩
theorem raw_len (ts : List Th) : (raw ts).length = (ts.map fun t => 1 + t.W.length).sum := by
  induction ts with
  | nil => rfl
  | cons t r ih =>
    have : raw (t :: r) = t.row ++ raw r := by simp [raw]
    rw [this, List.length_append, row_length, ih]
    simp
theorem Kept.set0 {p : List Th} {t : Th} {r : List Th} {v a : Int} (h : Kept (p ++ t :: r) v a) (x : Int) : Kept (p ++ setT t 0 x :: r) v a := by
  obtain ⟨i, u, h1, h2, h3, h4, h5⟩ := h
  have hm : (p ++ setT t 0 x :: r).map (fun t => 1 + t.W.length) = (p ++ t :: r).map (fun t => 1 + t.W.length) := by simp [setT]
  have ht : (raw ((p ++ setT t 0 x :: r).take i)).length = (raw ((p ++ t :: r).take i)).length := by
    rw [raw_len, raw_len, List.map_take, List.map_take, hm]
  by_cases hi : i = p.length
  · subst hi
    rw [List.getElem?_append_right (Nat.le_refl _), Nat.sub_self] at h1
    have h1' : t = u := by simpa using h1
    subst h1'
    refine ⟨p.length, setT t 0 x, by rw [List.getElem?_append_right (Nat.le_refl _), Nat.sub_self]; rfl, by rw [ht]; exact h2, by simpa [setT] using h3, ?_, h5⟩
    simp only [setT]
    rw [List.getElem?_set_ne (by omega)]
    exact h4
  · refine ⟨i, u, ?_, by rw [ht]; exact h2, h3, h4, h5⟩
    rcases Nat.lt_or_ge i p.length with hlt | hge
    · rw [List.getElem?_append_left hlt] at h1 ⊢
      exact h1
    · rw [List.getElem?_append_right hge] at h1 ⊢
      rw [show i - p.length = (i - p.length - 1) + 1 by omega, List.getElem?_cons_succ] at h1 ⊢
      exact h1
theorem Kept.split {ts : List Th} {v a : Int} (h : Kept ts v a) : ∃ p t r, ts = p ++ t :: r ∧ a = (((raw p).length + 1 : Nat) : Int) ∧ t.W.length = 2 ∧ t.W[1]? = some v ∧ t.id < 100 := by
  obtain ⟨i, t, h1, h2, h3⟩ := h
  obtain ⟨hi, he⟩ := List.getElem?_eq_some_iff.1 h1
  refine ⟨ts.take i, t, ts.drop (i + 1), ?_, h2, h3⟩
  rw [← he, ← List.drop_eq_getElem_cons hi, List.take_append_drop]

/-- a box beside, that the heap's blocks are not -/
def Beside (w : World) (F : Nat → Prop) : Option (Nat × Array Value × TypeId) → Prop
  | none => True
  | some (b, C, ty) => Bx w b C ty ∧ ¬ F b
/-- a heap, and a row of addresses -/
structure StX (w0 wr : World) (g mb : Nat) (Aw : Option Addr) (cw : Nat) (Aa : Option Addr) (ca : Nat) (ts : List Th) (n : Nat) (f : Int → Option Int) (A : Option Addr) (c : Nat) (R K : List Int) (v : Int) (X : Option (Nat × Array Value × TypeId)) : Prop where
  hp : HpX wr g mb Aw cw Aa ca 4096 (raw ts) (adr 0 ts) n f
  fits : Fits 4096 ts
  row : OwnI wr w0.heap.size (.slice A R.length c) R
  far : ∀ a, A = some a → ¬ feet g mb Aw Aa a.block
  own : ∀ k, feet g mb Aw Aa k → w0.heap.size ≤ k
  bel : Below w0.heap.size w0 wr
  kept : ∀ a ∈ K, Kept ts v a
  box : Beside wr (feet g mb Aw Aa) X

section
variable {w0 wr w' : World} {g mb : Nat} {Aw : Option Addr} {cw : Nat} {Aa : Option Addr} {ca : Nat} {ts : List Th} {n : Nat} {f : Int → Option Int} {A : Option Addr} {c : Nat} {R K : List Int} {v : Int} {X : Option (Nat × Array Value × TypeId)}

theorem Beside.after {F : Nat → Prop} (h : Beside wr F X) (hb : Below wr.heap.size wr w') : Beside w' F X := by
  cases X with
  | none => trivial
  | some x => exact ⟨h.1.after hb, h.2⟩
theorem Beside.next {F G : Nat → Prop} (h : Beside wr F X) (hT : Turned F wr w') (hG : ∀ k, G k → F k ∨ wr.heap.size ≤ k) : Beside w' G X := by
  cases X with
  | none => trivial
  | some x =>
    obtain ⟨b, C, ty⟩ := x
    obtain ⟨h1, h2⟩ := h
    refine ⟨(hT.block b h1.lt h2).trans h1, fun hg => ?_⟩
    rcases hG b hg with h | h
    · exact h2 h
    · have := h1.lt; omega
theorem StX.beside (S : StX w0 wr g mb Aw cw Aa ca ts n f A c R K v X) (hb : Below wr.heap.size wr w') : StX w0 w' g mb Aw cw Aa ca ts n f A c R K v X :=
  ⟨S.hp.beside hb, S.fits, own_same S.row (fun k hk => hb.block k (S.row.lt k hk).2), S.far, S.own, S.bel.trans (hb.mono S.bel.size), S.kept, S.box.after hb⟩
theorem StX.next (S : StX w0 wr g mb Aw cw Aa ca ts n f A c R K v X) {ts' : List Th} {n' : Nat} {f' : Int → Option Int} (N : NextH wr w' (feet g mb Aw Aa) g mb 4096 (raw ts') (adr 0 ts') n' f') (F : Fits 4096 ts') {K' : List Int} (hk : ∀ a ∈ K', Kept ts' v a) :
    ∃ Aw' cw' Aa' ca', StX w0 w' g mb Aw' cw' Aa' ca' ts' n' f' A c R K' v X := by
  obtain ⟨Aw', cw', Aa', ca', h1, h2, h3⟩ := N
  refine ⟨Aw', cw', Aa', ca', h1, F, own_same S.row (fun k hk => h2.block k (S.row.lt k hk).2 (fun hf => ?_)), fun a ha hf => ?_, fun k hk => ?_, S.bel.trans (h2.below S.own S.bel.size), hk, S.box.next h2 h3⟩
  · obtain ⟨a, q1, q2⟩ := block_of hk
    exact S.far a q1 (by rw [q2]; exact hf)
  · rcases h3 _ hf with h | h
    · exact S.far a ha h
    · have := (own_in S.row ha).1; omega
  · rcases h3 _ hk with h | h
    · exact S.own k h
    · have := S.bel.size; omega
/-- one address more -/
theorem StX.app (S : StX w0 wr g mb Aw cw Aa ca ts n f A c R K v none) {b c' : Nat} {R' : List Int} (hg : wr.grownBy w' (Value.slice A R.length c).ownBlock) (hown : OwnI w' w0.heap.size (.slice (some ⟨b, 0, none⟩) R'.length c') R')
    (hat : (Value.slice A R.length c).ownBlock = some b ∨ wr.heap.size ≤ b) : StX w0 w' g mb Aw cw Aa ca ts n f (some ⟨b, 0, none⟩) c' R' K v none := by
  refine ⟨S.hp.aside (fun k hk => hg.block k (S.hp.lt hk) (fun e => ?_)), S.fits, hown, fun a ha hf => ?_, S.own, below_own S.bel S.row (Nat.le_refl _) S.bel.size hg, S.kept, trivial⟩
  · obtain ⟨a, q1, q2⟩ := block_of e.symm
    exact S.far a q1 (by rw [q2]; exact hk)
  · injection ha with ha
    subst ha
    rcases hat with h | h
    · obtain ⟨a, q1, q2⟩ := block_of h
      exact S.far a q1 (by rw [q2]; exact hf)
    · have := S.hp.lt hf
      have h' : wr.heap.size ≤ b := h
      have : b < wr.heap.size := this
      omega
theorem StX.drew (S : StX w0 wr g mb Aw cw Aa ca ts n f A c R K v X) (q : Nat) : StX w0 (wr.drewN q) g mb Aw cw Aa ca ts n f A c R K v X := S.beside (below_drewN wr q)

/-- a heap whose listed things are kept -/
def St (w0 wr : World) (g mb : Nat) (A : Option Addr) (c : Nat) (R : List Int) (v : Int) (X : Option (Nat × Array Value × TypeId)) : Prop := ∃ Aw cw Aa ca ts n f, StX w0 wr g mb Aw cw Aa ca ts n f A c R R v X
theorem st_thing (S : St w0 wr g mb A c R v X) (id size : Int) : Calls Try.prog 21 #[.pointer (some ⟨g, 0, none⟩), .int .i64 id, .int .i64 size] wr fun e w' => ∃ a b : Int, e = .returned (.tuple #[.int .i64 a, .int .i64 b]) ∧ St w0 w' g mb A c R v X := by
  obtain ⟨Aw, cw, Aa, ca, ts, n, f, S⟩ := S
  refine (thing_any S.hp S.fits id size).mono ?_
  rintro e w' (⟨_, rfl, hb⟩ | ⟨_, rfl, N, F⟩)
  · exact ⟨_, _, rfl, _, _, _, _, _, _, _, S.beside hb⟩
  · obtain ⟨a1, a2, a3, a4, S'⟩ := S.next N F (K' := R) (fun a ha => (S.kept a ha).snoc _)
    exact ⟨_, _, rfl, _, _, _, _, _, _, _, S'⟩
theorem st_array (S : St w0 wr g mb A c R v X) (id k : Int) : Calls Try.prog 23 #[.pointer (some ⟨g, 0, none⟩), .int .i64 id, .int .i64 k] wr fun e w' => ∃ a b : Int, e = .returned (.tuple #[.int .i64 a, .int .i64 b]) ∧ St w0 w' g mb A c R v X := by
  obtain ⟨Aw, cw, Aa, ca, ts, n, f, S⟩ := S
  refine (array_any S.hp S.fits id k).mono ?_
  rintro e w' (⟨_, rfl, hb⟩ | ⟨_, rfl, N, F⟩)
  · exact ⟨_, _, rfl, _, _, _, _, _, _, _, S.beside hb⟩
  · obtain ⟨a1, a2, a3, a4, S'⟩ := S.next N F (K' := R) (fun a ha => (S.kept a ha).snoc _)
    exact ⟨_, _, rfl, _, _, _, _, _, _, _, S'⟩
theorem st_set (S : St w0 wr g mb A c R v X) (x y : Int) (hy : fitI y) : Calls Try.prog 22 #[.pointer (some ⟨g, 0, none⟩), .int .i64 x, .int .i64 0, .int .i64 y] wr fun e w' => ∃ a : Int, e = .returned (.int .i64 a) ∧ St w0 w' g mb A c R v X := by
  obtain ⟨Aw, cw, Aa, ca, ts, n, f, S⟩ := S
  by_cases hx : x ∈ adr 0 ts
  · obtain ⟨p, t, r, rfl, rfl⟩ := adr_split hx
    rw [Nat.zero_add]
    refine (set_yes S.hp S.fits 0 y).mono ?_
    rintro e w' (⟨_, rfl, hb⟩ | ⟨_, _, rfl, N⟩)
    · exact ⟨_, rfl, _, _, _, _, _, _, _, S.beside hb⟩
    · obtain ⟨a1, a2, a3, a4, S'⟩ := S.next N (fits_set S.fits _ hy) (K' := R) (fun a ha => (S.kept a ha).set0 _)
      exact ⟨_, rfl, _, _, _, _, _, _, _, S'⟩
  · refine (set_no S.hp S.fits x 0 y hx).mono ?_
    rintro e w' ⟨rfl, q, rfl⟩
    exact ⟨_, rfl, _, _, _, _, _, _, _, S.drew q⟩

/-- a heap whose last thing is a new one of two words, at a -/
def StL (w0 wr : World) (g mb : Nat) (A : Option Addr) (c : Nat) (R K : List Int) (v a : Int) (X : Option (Nat × Array Value × TypeId)) : Prop := ∃ Aw cw Aa ca ts n f id, id < 100 ∧ a = (((raw ts).length + 1 : Nat) : Int) ∧ StX w0 wr g mb Aw cw Aa ca (ts ++ [⟨id, [0, 0], 0⟩]) n f A c R K v X
theorem st_two (S : St w0 wr g mb A c R v X) (id : Int) (h100 : id < 100) : Calls Try.prog 21 #[.pointer (some ⟨g, 0, none⟩), .int .i64 id, .int .i64 2] wr fun e w' =>
    (∃ b : Int, b ≠ 0 ∧ e = .returned (.tuple #[.int .i64 0, .int .i64 b]) ∧ St w0 w' g mb A c R v X) ∨ ∃ a, fitI a ∧ e = .returned (.tuple #[.int .i64 a, .int .i64 0]) ∧ StL w0 w' g mb A c R R v a X := by
  obtain ⟨Aw, cw, Aa, ca, ts, n, f, S⟩ := S
  refine (thing_any S.hp S.fits id 2).mono ?_
  rintro e w' (⟨h0, rfl, hb⟩ | ⟨h0, rfl, N, F⟩)
  · exact .inl ⟨_, h0, rfl, _, _, _, _, _, _, _, S.beside hb⟩
  · obtain ⟨a1, a2, a3, a4, S'⟩ := S.next N F (K' := R) (fun a ha => (S.kept a ha).snoc _)
    have h0' : addE 4096 (raw ts).length id 2 = 0 := by
      unfold thingE at h0
      rw [if_neg (by omega)] at h0
      exact h0
    obtain ⟨z1, z2, z3⟩ := addE_zero h0'
    have := S.fits.len
    exact .inr ⟨_, by unfold fitI; omega, rfl, _, _, _, _, _, _, _, id.toNat, by omega, rfl, S'⟩
theorem st_put {a : Int} (S : StL w0 wr g mb A c R K v a X) (hv : fitI v) : Calls Try.prog 22 #[.pointer (some ⟨g, 0, none⟩), .int .i64 a, .int .i64 1, .int .i64 v] wr fun e w' =>
    e = .returned (.int .i64 0) ∧ ∃ Aw cw Aa ca ts n f, StX w0 w' g mb Aw cw Aa ca ts n f A c R (K ++ [a]) v X := by
  obtain ⟨Aw, cw, Aa, ca, ts, n, f, id, hid, rfl, S⟩ := S
  refine (set_yes (p := ts) (t := ⟨id, [0, 0], 0⟩) (r := []) S.hp S.fits 1 v).mono ?_
  rintro e w' (⟨h, _⟩ | ⟨_, _, rfl, N⟩)
  · exact absurd ⟨by omega, by simp⟩ h
  · refine ⟨rfl, ?_⟩
    obtain ⟨a1, a2, a3, a4, S'⟩ := S.next N (fits_set S.fits _ hv) (K' := K ++ [(((raw ts).length + 1 : Nat) : Int)]) (fun a ha => by
      rw [List.mem_append] at ha
      rcases ha with ha | ha
      · obtain ⟨i, t, q1, q2, q3, q4, q5⟩ := S.kept a ha
        by_cases hi : i = ts.length
        · subst hi
          have hv0 : v = 0 := by
            rw [List.getElem?_append_right (Nat.le_refl _), Nat.sub_self] at q1
            have q1' : (⟨id, [0, 0], 0⟩ : Th) = t := by simpa using q1
            subst q1'
            simpa using q4.symm
          rw [List.take_left] at q2
          rw [q2]
          exact Kept.last hid
        · have hlt : i < ts.length := by
            have := (List.getElem?_eq_some_iff.1 q1).1
            simp at this
            omega
          rw [List.getElem?_append_left hlt] at q1
          rw [List.take_append_of_le_length (by omega)] at q2
          exact Kept.snoc ⟨i, t, q1, q2, q3, q4, q5⟩ _
      · simp at ha
        subst ha
        exact Kept.last hid)
    exact ⟨_, _, _, _, _, _, _, S'⟩
theorem st_drew (S : St w0 wr g mb A c R v X) : St w0 wr.drew g mb A c R v X := by
  obtain ⟨Aw, cw, Aa, ca, ts, n, f, S⟩ := S
  exact ⟨_, _, _, _, _, _, _, S.beside (Below.refl _ _).drew⟩
/-- a box made beside -/
theorem st_box (S : St w0 wr g mb A c R v none) (C : Array Value) (ty : TypeId) : St w0 (wr.alloc (.cells C ty)) g mb A c R v (some (wr.heap.size, C, ty)) := by
  obtain ⟨Aw, cw, Aa, ca, ts, n, f, S⟩ := S
  have hb := (Below.refl wr.heap.size wr).alloc (Nat.le_refl _) (.cells C ty)
  exact ⟨_, _, _, _, _, _, _, S.hp.beside hb, S.fits, own_same S.row (fun k hk => hb.block k (S.row.lt k hk).2), S.far, S.own, S.bel.trans (hb.mono S.bel.size), S.kept, Bx.new wr C ty, fun h => by have := S.hp.lt h; omega⟩
theorem St.old (S : St w0 wr g mb A c R v X) {b i : Nat} {x : Value} (hb : b < w0.heap.size) (h : w0.cell? ⟨b, i, none⟩ = some x) : wr.cell? ⟨b, i, none⟩ = some x := by
  obtain ⟨Aw, cw, Aa, ca, ts, n, f, S⟩ := S
  exact (World.cell?_of_block (S.bel.block b hb)).trans h
theorem St.row (S : St w0 wr g mb A c R v X) {k : Nat} (hk : k < R.length) : ∃ b o, A = some ⟨b, o, none⟩ ∧ wr.cell? ⟨b, o + k, none⟩ = some (.int .i64 (R.getD k 0)) := by
  obtain ⟨Aw, cw, Aa, ca, ts, n, f, S⟩ := S
  obtain ⟨b, o, h1, _, h2⟩ := rds_getD (own_rds S.row) hk
  exact ⟨b, o, h1, h2⟩
theorem St.low (S : St w0 wr g mb A c R v X) : Below w0.heap.size w0 wr := by
  obtain ⟨Aw, cw, Aa, ca, ts, n, f, S⟩ := S
  exact S.bel
theorem St.drewN (S : St w0 wr g mb A c R v X) (q : Nat) : St w0 (wr.drewN q) g mb A c R v X := by
  obtain ⟨Aw, cw, Aa, ca, ts, n, f, S⟩ := S
  exact ⟨_, _, _, _, _, _, _, S.drew q⟩
theorem st_get (S : St w0 wr g mb A c R v X) {a : Int} (ha : a ∈ R) : Calls Try.prog 24 #[.pointer (some ⟨g, 0, none⟩), .int .i64 a, .int .i64 1] wr fun e w' => e = .returned (.tuple #[.int .i64 v, .int .i64 0]) ∧ ∃ q, w' = wr.drewN q := by
  obtain ⟨Aw, cw, Aa, ca, ts, n, f, S⟩ := S
  obtain ⟨p, t, r, rfl, rfl, h2, hv, hid⟩ := (S.kept a ha).split
  have h := get_yes S.hp S.fits 1
  have hE : getE t.W 1 = (v, 0) := by
    unfold getE
    rw [if_pos (by omega), List.getD_eq_getElem?_getD, show (1 : Int).toNat = 1 from rfl, hv]
    rfl
  rw [hE] at h
  exact h
theorem st_type (S : St w0 wr g mb A c R v X) {a : Int} (ha : a ∈ R) : Calls Try.prog 25 #[.pointer (some ⟨g, 0, none⟩), .int .i64 a] wr fun e w' => (∃ id : Nat, id < 100 ∧ e = .returned (.tuple #[.int .i64 (id : Int), .int .i64 0])) ∧ ∃ q, w' = wr.drewN q := by
  obtain ⟨Aw, cw, Aa, ca, ts, n, f, S⟩ := S
  obtain ⟨p, t, r, rfl, rfl, h2, hv, hid⟩ := (S.kept a ha).split
  refine (type_yes S.hp S.fits).mono ?_
  rintro e w' ⟨rfl, hq⟩
  exact ⟨⟨t.id, hid, rfl⟩, hq⟩
theorem St.beside_box {b : Nat} {C : Array Value} {ty : TypeId} (S : St w0 wr g mb A c R v (some (b, C, ty))) : Bx wr b C ty := by
  obtain ⟨Aw, cw, Aa, ca, ts, n, f, S⟩ := S
  exact S.box.1
end

end HpV
end Go.Proofs.Ytfmodaelpldpfaa
