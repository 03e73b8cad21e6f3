/-
  Words for memory that all texts of this seat share: a slice value that leads to a list of cells; what a conversion of cells8 to a text gives. Small facts on them.
-/
import Derived.Below
import Derived.Laws.OwnMore
import Derived.Laws.Cells
import Derived.Laws.BytesString
import Derived.Deep.Draws
import Derived.Deep.MidRow
import Derived.Lib.Hide
import Derived.Lib.AppendStr
namespace Go.Proofs.YthkkcecfenohjaaGreatDoor
namespace Base
open Go.RowKit

/-- The address of a slice leads to these cells, in order, in a block that the world has; where there are none it may be any. -/
def Rds (w : World) (A : Option Addr) (xs : List Value) : Prop :=
  xs = [] ∨ ∃ b o, A = some ⟨b, o, none⟩ ∧ b < w.heap.size ∧ ∀ j u, xs[j]? = some u → w.cell? ⟨b, o + j, none⟩ = some u

/-- a byte as a cell; cells8 as cells -/
def cell8 (c : UInt8) : Value := .int .u8 (c.toNat : Int)
def cells8 (l : List UInt8) : List Value := l.map cell8

theorem cells8_length (l : List UInt8) : (cells8 l).length = l.length := by simp [cells8]
theorem cells8_get (l : List UInt8) (k : Nat) (h : k < l.length) : (cells8 l)[k]? = some (.int .u8 (l[k].toNat : Int)) := by simp [cells8, cell8, h]
theorem cells8_append (a b : List UInt8) : cells8 (a ++ b) = cells8 a ++ cells8 b := by simp [cells8]
theorem cells8_drop (l : List UInt8) (k : Nat) : (cells8 l).drop k = cells8 (l.drop k) := by simp [cells8, List.map_drop]
theorem cells8_take (l : List UInt8) (k : Nat) : (cells8 l).take k = cells8 (l.take k) := by simp [cells8, List.map_take]
theorem cells8_one (l : List UInt8) : ∀ u ∈ cells8 l, u.oneCell' = true := by
  intro u hu
  simp only [cells8, List.mem_map] at hu
  obtain ⟨c, _, rfl⟩ := hu
  rfl

section
variable {w w' : World} {A : Option Addr} {xs : List Value}

theorem Rds.none_ (w : World) (A : Option Addr) : Rds w A [] := .inl rfl

theorem Rds.at_ {k : Nat} (h : Rds w A xs) (hk : k < xs.length) : ∃ b o, A = some ⟨b, o, none⟩ ∧ b < w.heap.size ∧ w.cell? ⟨b, o + k, none⟩ = some xs[k] := by
  rcases h with rfl | ⟨b, o, hA, hb, hc⟩
  · simp at hk
  · exact ⟨b, o, hA, hb, hc k _ (List.getElem?_eq_getElem hk)⟩

theorem Rds.below (h : Rds w A xs) (hb : Below w.heap.size w w') : Rds w' A xs := by
  rcases h with rfl | ⟨b, o, hA, hlt, hc⟩
  · exact .inl rfl
  · exact .inr ⟨b, o, hA, Nat.lt_of_lt_of_le hlt hb.size, fun j u hu => (hb.cell (p := ⟨b, o + j, none⟩) hlt).trans (hc j u hu)⟩

/-- below a number under which the slice's block lies -/
theorem Rds.below_of (h : Rds w A xs) {B : Nat} (hb : Below B w w') (hA : ∀ a, A = some a → a.block < B) : Rds w' A xs := by
  rcases h with rfl | ⟨b, o, rfl, hlt, hc⟩
  · exact .inl rfl
  · have hB : b < B := hA _ rfl
    exact .inr ⟨b, o, rfl, Nat.lt_of_lt_of_le hlt hb.size, fun j u hu => (hb.cell (p := ⟨b, o + j, none⟩) hB).trans (hc j u hu)⟩

theorem Rds.grown (h : Rds w A xs) {row : Option Nat} (hg : w.grownBy w' row) (hne : ∀ a, A = some a → some a.block ≠ row) : Rds w' A xs := by
  rcases h with rfl | ⟨b, o, rfl, hlt, hc⟩
  · exact .inl rfl
  · exact .inr ⟨b, o, rfl, Nat.lt_of_lt_of_le hlt hg.size, fun j u hu => hg.cell (hc j u hu) (hne ⟨b, o, none⟩ rfl)⟩

theorem Rds.drewN (h : Rds w A xs) (n : Nat) : Rds (w.drewN n) A xs := h
theorem Rds.drew (h : Rds w A xs) : Rds w.drew A xs := h

theorem Rds.take (h : Rds w A xs) (k : Nat) : Rds w A (xs.take k) := by
  rcases h with rfl | ⟨b, o, hA, hlt, hc⟩
  · simp [Rds]
  · refine .inr ⟨b, o, hA, hlt, fun j u hu => hc j u ?_⟩
    rw [List.getElem?_take] at hu
    by_cases hj : j < k
    · rwa [if_pos hj] at hu
    · rw [if_neg hj] at hu; cases hu

theorem Rds.drop (h : Rds w A xs) {k c : Nat} (hc : xs.length ≤ c) : Rds w (if c = k then A else A.map (·.add k)) (xs.drop k) := by
  by_cases hk : k < xs.length
  · rcases h with rfl | ⟨b, o, rfl, hlt, hcell⟩
    · simp at hk
    · rw [if_neg (by omega)]
      refine .inr ⟨b, o + k, by simp only [Option.map_some, Addr.add_mid], hlt, fun j u hu => ?_⟩
      rw [List.getElem?_drop] at hu
      have := hcell (k + j) u hu
      rwa [← Nat.add_assoc] at this
  · rw [List.drop_of_length_le (by omega)]
    exact .inl rfl

theorem Rds.own {base : Nat} {e : TypeId} {size n c : Nat} (h : w.ownsRow base e size (.slice A n c) n xs) : Rds w A xs := by
  rcases h.2 with ⟨hv, hn⟩ | ⟨g, cap, cur, hv, hb, hh, hn, hm, hs, hx⟩
  · have h1 := h.1
    rw [hn] at h1
    exact .inl (List.eq_nil_of_length_eq_zero (by omega))
  · have hA : A = some ⟨g, 0, none⟩ := by injection hv
    subst hA
    have hlt : g < w.heap.size := (h.lt g rfl).2
    refine .inr ⟨g, 0, rfl, hlt, fun j u hu => ?_⟩
    have := h.cells (g := g) rfl j u hu
    rwa [Addr.add_mid] at this

/-- the cells8 of a slice, made a text -/
theorem run_text {P : Program} {l : List UInt8} (src dst e : TypeId) (n c : Nat) (hs : P.underlying src = some (.slice e)) (he : P.underlying e = some (.int .u8)) (hd : P.underlying dst = some .string)
    (hn : n = l.length) (h : Rds w A (cells8 l)) : (convert src dst (.slice A n c)).run P w = .ok (.string ⟨l.toArray⟩) w := by
  subst hn
  rw [run_convert_bytes_string w src dst e A l.length c hs he hd]
  have key : ∀ (l : List UInt8) (s : ByteArray), (l.map fun c => (c.toNat : Int)).foldl (fun r n => r.push (UInt8.ofNat n.toNat)) s = ⟨s.data ++ l.toArray⟩ := by
    intro l
    induction l with
    | nil => intro s; simp
    | cons a t ih =>
      intro s
      simp only [List.map_cons, List.foldl_cons, ih]
      simp [ByteArray.push]
  rcases h with h0 | ⟨b, o, rfl, hlt, hc⟩
  · have : l = [] := by cases l with
      | nil => rfl
      | cons a t => simp [cells8] at h0
    subst this
    cases A with
    | none => simp [Conv.bytesToString, Sem.run_pure]; rfl
    | some a =>
      have hl : (loadCells a 0).run P w = .ok ((([] : List Int).map (Value.int .u8)).toArray) w := run_loadCells_list (P := P) (w := w) a [] (by intro j v h; cases h)
      exact run_bytesToString w a 0 c [] hl
  · have hl : (loadCells ⟨b, o, none⟩ l.length).run P w = .ok (((l.map fun c => (c.toNat : Int)).map (Value.int .u8)).toArray) w := by
      have := run_loadCells_list (P := P) (w := w) ⟨b, o, none⟩ (cells8 l) (fun j v hj => by rw [Addr.add_mid]; exact hc j v hj)
      rw [cells8_length] at this
      rw [this]
      simp [cells8, cell8, List.map_map, Function.comp_def]
    rw [run_bytesToString w ⟨b, o, none⟩ l.length c _ hl, key]
    simp
end

/-- a slice of bytes that came in: its first m places hold l -/
structure IsBytes (w : World) (A : Option Addr) (m c : Nat) (l : List UInt8) : Prop where
  len : m = l.length
  le : m ≤ c
  max : c ≤ maxLen
  rds : Rds w A (cells8 l)

end Base
end Go.Proofs.YthkkcecfenohjaaGreatDoor
