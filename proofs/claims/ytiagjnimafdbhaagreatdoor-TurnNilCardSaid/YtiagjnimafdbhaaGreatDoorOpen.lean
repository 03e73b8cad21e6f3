/-
  Arguments that came in, opened: what a law's walk is told of them. And what the two bounds (the form's own reach; the bulk of the second form) give of their sizes.
-/
import Derived.Test.YtiagjnimafdbhaaGreatDoorRows
import Derived.Test.YtiagjnimafdbhaaGreatDoorBinM
import Derived.ProofKit
import Derived.SizedLaws
import Derived.SliceStrings
namespace Go.Proofs.YtiagjnimafdbhaaGreatDoor
namespace Opened
open Go.RowKit Go.ChangeShapes Base

/-- how many places a slice's reading has -/
def Places {H : Type} (d : DataW H) (c : Nat) : Prop := (d = .nil ∧ c = 0) ∨ ∃ el sp, d = .slice el sp ∧ el.length + sp.length = c

section
variable {H : Type} {enc : TypeId × Value → H} {P : Program} {w : World}

/-- the cells that numbers of a kind are, behind an address -/
theorem rds_of_cells {x : Addr} {f : Nat → Value} {n : Nat} {xs : List Value} (hx : xs.length ≤ n) (h : ∀ i, i < n → w.cell? (x.add i) = some (f i)) (hf : ∀ i (hi : i < xs.length), xs[i] = f i) : Rds w (some x) xs := by
  rcases Nat.eq_zero_or_pos xs.length with h0 | h0
  · exact .inl (List.eq_nil_of_length_eq_zero h0)
  · obtain ⟨b, o, spot⟩ := x
    have hc := h 0 (by omega)
    have hs : spot = none := by simpa [Addr.add] using World.cell?_spot hc
    subst hs
    have hc' : w.cell? ⟨b, o, none⟩ = some (f 0) := by simpa [Addr.add] using hc
    refine .inr ⟨b, o, rfl, World.block_lt_of_cell? w ⟨b, o, none⟩ hc', fun j u hu => ?_⟩
    obtain ⟨hj, rfl⟩ := List.getElem?_eq_some_iff.1 hu
    have := h j (by omega)
    rw [Addr.add_mid] at this
    rw [this, hf j hj]

theorem open_bytes {t e : TypeId} {fuel : Nat} {A : Option Addr} {m c : Nat} {d : DataW H} {p : List MemPlace} (ht : P.underlying t = some (.slice e)) (he : P.underlying e = some (.int .u8)) (hc : P.cellsOf e = 1)
    (h : DataW.trod enc P w 0 (fun _ => true) true fuel t (Value.slice A m c).cells.toList = some (d, p)) :
    ∃ l, IsBytes w A m c l ∧ Places d c := by
  rcases open_ints ht he hc h with ⟨hcs, hd⟩ | ⟨x, len, cap, zs, hcs, _, hl, hm, hz, hd, hcell, hwf⟩
  · simp [Value.cells] at hcs
    obtain ⟨rfl, rfl, rfl⟩ := hcs
    injection hd with hd
    exact ⟨[], ⟨rfl, Nat.le_refl _, by simp [maxLen], .inl rfl⟩, .inl ⟨hd, rfl⟩⟩
  · simp [Value.cells] at hcs
    obtain ⟨rfl, rfl, rfl⟩ := hcs
    injection hd with hd
    simp only [if_true] at hz
    have hb : ∀ z ∈ zs, 0 ≤ z ∧ z ≤ 255 := by
      intro z hz'
      have := hwf z hz'
      simp [Lit.wf, IntKind.min, IntKind.max, IntKind.bits, IntKind.signed] at this
      omega
    refine ⟨(zs.take m).map fun z => UInt8.ofNat z.toNat, ⟨by simp; omega, hl, hm, ?_⟩, .inr ⟨_, _, hd, by simp [lits]; omega⟩⟩
    refine rds_of_cells (n := zs.length) (f := fun i => .int .u8 (zs.getD i 0)) (by simp [cells8]; omega) hcell (fun i hi => ?_)
    have hi' : i < zs.length := by simp [cells8] at hi; omega
    have hzi := hb zs[i] (List.getElem_mem hi')
    simp only [cells8, cell8, List.getElem_map, List.getElem_take]
    rw [List.getD_eq_getElem?_getD, List.getElem?_eq_getElem hi']
    have e : (UInt8.ofNat zs[i].toNat).toNat = zs[i].toNat := by simp; omega
    rw [e, Option.getD_some]
    congr 1
    omega

theorem open_nums {t e : TypeId} {fuel : Nat} {A : Option Addr} {m c : Nat} {d : DataW H} {p : List MemPlace} (ht : P.underlying t = some (.slice e)) (he : P.underlying e = some (.int .i64)) (hc : P.cellsOf e = 1)
    (h : DataW.trod enc P w 0 (fun _ => true) true fuel t (Value.slice A m c).cells.toList = some (d, p)) :
    ∃ l, IsInts w A m c l ∧ Places d c := by
  rcases open_ints ht he hc h with ⟨hcs, hd⟩ | ⟨x, len, cap, zs, hcs, _, hl, hm, hz, hd, hcell, hwf⟩
  · simp [Value.cells] at hcs
    obtain ⟨rfl, rfl, rfl⟩ := hcs
    injection hd with hd
    exact ⟨[], ⟨rfl, Nat.le_refl _, by simp [maxLen], .inl rfl, by simp⟩, .inl ⟨hd, rfl⟩⟩
  · simp [Value.cells] at hcs
    obtain ⟨rfl, rfl, rfl⟩ := hcs
    injection hd with hd
    simp only [if_true] at hz
    refine ⟨zs.take m, ⟨by simp; omega, hl, hm, ?_, fun x hx => ?_⟩, .inr ⟨_, _, hd, by simp [lits]; omega⟩⟩
    · refine rds_of_cells (n := zs.length) (f := fun i => .int .i64 (zs.getD i 0)) (by simp; omega) hcell (fun i hi => ?_)
      have hi' : i < zs.length := by simp at hi; omega
      simp only [List.getElem_map, List.getElem_take]
      rw [List.getD_eq_getElem?_getD, List.getElem?_eq_getElem hi', Option.getD_some]
    · have := hwf x (List.mem_of_mem_take hx)
      simp [Lit.wf, IntKind.min, IntKind.max, IntKind.bits, IntKind.signed] at this
      omega

/-- a slice of texts, as it reads -/
structure TextPlaces {H : Type} (d : DataW H) (c : Nat) (l : List ByteArray) : Prop where
  places : Places d c
  texts : (d = .nil ∧ l = []) ∨ ∃ sp, d = .slice (strs l) sp

theorem open_strs {t e : TypeId} {fuel : Nat} {A : Option Addr} {m c : Nat} {d : DataW H} {p : List MemPlace} (ht : P.underlying t = some (.slice e)) (he : P.underlying e = some .string) (hc : P.cellsOf e = 1)
    (h : DataW.trod enc P w 0 (fun _ => true) true fuel t (Value.slice A m c).cells.toList = some (d, p)) :
    ∃ l, IsStrs w A m c l ∧ TextPlaces d c l := by
  rcases open_strings ht he hc h with ⟨hcs, hd⟩ | ⟨x, len, cap, ss, hcs, _, hl, hm, hz, hd, hcell, _⟩
  · simp [Value.cells] at hcs
    obtain ⟨rfl, rfl, rfl⟩ := hcs
    injection hd with hd
    exact ⟨[], ⟨rfl, Nat.le_refl _, by simp [maxLen], .inl rfl⟩, ⟨.inl ⟨hd, rfl⟩, .inl ⟨hd, rfl⟩⟩⟩
  · simp [Value.cells] at hcs
    obtain ⟨rfl, rfl, rfl⟩ := hcs
    injection hd with hd
    simp only [if_true] at hz
    refine ⟨ss.take m, ⟨by simp; omega, hl, hm, ?_⟩, ⟨.inr ⟨_, _, hd, by simp [strs]; omega⟩, .inr ⟨_, hd⟩⟩⟩
    refine rds_of_cells (n := ss.length) (f := fun i => .string (ss.getD i ByteArray.empty)) (by simp; omega) hcell (fun i hi => ?_)
    have hi' : i < ss.length := by simp at hi; omega
    simp only [List.getElem_map, List.getElem_take]
    rw [List.getD_eq_getElem?_getD, List.getElem?_eq_getElem hi', Option.getD_some]

/-- the form's reach, of a slice of bytes -/
theorem reach_slice {ts : List TypeId} {ds : List (DataW H)} (h : (DataW.weightsEach P ts ds).all (· ≤ reachBytes) = true) {j : Nat} {t e : TypeId} {d : DataW H} {c : Nat} (ht : ts[j]? = some t) (hd : ds[j]? = some d)
    (hp : Places d c) (hu : P.underlying t = some (.slice e)) {k : Nat} (hk : P.bytesOf e = k) : c * k ≤ 140737488351232 := by
  rcases hp with ⟨_, rfl⟩ | ⟨el, sp, rfl, rfl⟩
  · simp
  · have := sized_slice h ht hd hu
    rw [hk] at this
    simpa [reachBytes] using this

theorem reach_string {ts : List TypeId} {ds : List (DataW H)} (h : (DataW.weightsEach P ts ds).all (· ≤ reachBytes) = true) {j : Nat} {t : TypeId} {s : ByteArray} (ht : ts[j]? = some t) (hd : ds[j]? = some (.lit (.string s.data.toList))) : s.size ≤ 140737488351232 := by
  have := sized_string h ht hd
  simpa [reachBytes] using this

/-- the form's reach, of a slice of texts: each text -/
theorem reach_texts {ts : List TypeId} {ds : List (DataW H)} (h : (DataW.weightsEach P ts ds).all (· ≤ reachBytes) = true) {j : Nat} {t e : TypeId} {d : DataW H} {c : Nat} {l : List ByteArray} (ht : ts[j]? = some t) (hd : ds[j]? = some d)
    (hp : TextPlaces d c l) (hu : P.underlying t = some (.slice e)) : ∀ s ∈ l, s.size ≤ 140737488351232 := by
  intro s hs
  rcases hp.texts with ⟨_, rfl⟩ | ⟨sp, rfl⟩
  · cases hs
  · have hm : ∀ l : List ByteArray, s ∈ l → s.size ∈ DataW.weightsAll P e (strs (H := H) l) := by
      intro l
      induction l with
      | nil => intro h; cases h
      | cons x r ih =>
        intro h
        simp only [strs, List.map_cons, DataW.weightsAll, List.mem_append]
        rcases List.mem_cons.1 h with rfl | h
        · refine .inl ?_
          simp [DataW.weights]
        · exact .inr (ih h)
    have := List.all_eq_true.1 h _ (DataW.weights_mem_each ht hd s.size (by
      simp only [DataW.weights, hu, List.mem_cons, List.mem_append]
      exact .inr (.inl (hm l hs))))
    exact of_decide_eq_true this

/-- the second form's bound -/
theorem one_le (d : DataW H) : 1 ≤ Rows.uptoBulk d := by
  cases d <;> (try simp [Rows.uptoBulk])
  rename_i l
  cases l <;> simp [Rows.uptoBulk]
theorem bulk_part {d : DataW H} {l : List (DataW H)} (h : d ∈ l) : Rows.uptoBulk d ≤ Rows.uptoBulkAll l := by
  induction l with
  | nil => cases h
  | cons x r ih =>
    simp only [Rows.uptoBulkAll]
    rcases List.mem_cons.1 h with rfl | e
    · omega
    · have := ih e; omega
theorem bulk_length (l : List (DataW H)) : l.length ≤ Rows.uptoBulkAll l := by
  induction l with
  | nil => simp [Rows.uptoBulkAll]
  | cons x r ih => have := one_le x; simp only [Rows.uptoBulkAll, List.length_cons]; omega
theorem upto_slice {ds : List (DataW H)} (hk : Rows.uptoSmall H ds = true) {d : DataW H} {c : Nat} (hd : d ∈ ds) (hp : Places d c) : c ≤ 1048576 := by
  have h : Rows.uptoBulkAll ds ≤ 1048576 := of_decide_eq_true hk
  have h1 := bulk_part hd
  rcases hp with ⟨_, rfl⟩ | ⟨el, sp, rfl, rfl⟩
  · omega
  · have h2 := bulk_length el
    have h3 := bulk_length sp
    simp only [Rows.uptoBulk] at h1
    omega
theorem upto_string {ds : List (DataW H)} (hk : Rows.uptoSmall H ds = true) {s : ByteArray} (hd : DataW.lit (.string s.data.toList) ∈ ds) : s.size ≤ 1048576 := by
  have h : Rows.uptoBulkAll ds ≤ 1048576 := of_decide_eq_true hk
  have h1 := bulk_part hd
  simp only [Rows.uptoBulk] at h1
  have e : s.data.toList.length = s.size := by rw [Array.length_toList]; rfl
  omega
theorem bulk_texts (l : List ByteArray) : Rows.uptoBulkAll (strs (H := H) l) = textBulk l := by
  induction l with
  | nil => rfl
  | cons a t ih =>
    have e : a.data.toList.length = a.size := by rw [Array.length_toList]; rfl
    simp only [strs, List.map_cons, Rows.uptoBulkAll, Rows.uptoBulk, e, textBulk, List.sum_cons] at ih ⊢
    rw [ih]
theorem upto_strs {ds : List (DataW H)} (hk : Rows.uptoSmall H ds = true) {d : DataW H} {c : Nat} {l : List ByteArray} (hd : d ∈ ds) (hp : TextPlaces d c l) : textBulk l ≤ 1048576 := by
  have h : Rows.uptoBulkAll ds ≤ 1048576 := of_decide_eq_true hk
  have h1 := bulk_part hd
  rcases hp.texts with ⟨_, rfl⟩ | ⟨sp, rfl⟩
  · simp [textBulk]
  · simp only [Rows.uptoBulk, bulk_texts] at h1
    omega
end

end Opened
end Go.Proofs.YtiagjnimafdbhaaGreatDoor
