/-
  The bytes of a class of nothing, got: the reader, klass.Get.
-/
import Derived.Test.YthkkcecfenohjaaGreatDoorKlsG
namespace Go.Proofs.YthkkcecfenohjaaGreatDoor
namespace KlsH
open Go.RowKit Base BinM Stru BinE BinGet BinText BinPut Bin8 Part Kls KlsK KlsG

def lit : List UInt8 := [72, 66, 75, 49, 2, 65, 12, 79, 98, 106, 101, 99, 116, 0, 0, 0]
theorem lit0 : getT lit 4 256 = ([65], 6, 0) := by decide +kernel
theorem lit1 : getT lit 6 256 = ([79, 98, 106, 101, 99, 116], 13, 0) := by decide +kernel
theorem lit2 : getS lit 13 = (0, 14, 0) := by decide +kernel
theorem lit3 : getS lit 14 = (0, 15, 0) := by decide +kernel
theorem lit4 : getS lit 15 = (0, 16, 0) := by decide +kernel

/-- the reader's row, and two boxes of classes beside it -/
structure At (w wr : World) (g : Nat) (A : Option Addr) (n cap : Nat) (ty : TypeId) (q : Int) (C : Array Value) : Prop where
  row : Row wr g #[.slice A n cap, .int .i64 q, .int .i64 0] ty
  res : Row wr w.heap.size #[.string ⟨#[]⟩, .string ⟨#[]⟩, .slice none 0 0, .slice none 0 0, .slice none 0 0] 26
  box : Row wr (w.heap.size + 1) C 26
  asd : Part.Aside g w wr
  lt : g < w.heap.size
theorem At.start {w : World} {g : Nat} {A : Option Addr} {n cap : Nat} {ty : TypeId} {q : Int} (h : Row w g #[.slice A n cap, .int .i64 q, .int .i64 0] ty) :
    At w ((w.alloc (.cells #[.string ⟨#[]⟩, .string ⟨#[]⟩, .slice none 0 0, .slice none 0 0, .slice none 0 0] 26)).alloc (.cells #[.string ⟨#[]⟩, .string ⟨#[]⟩, .slice none 0 0, .slice none 0 0, .slice none 0 0] 26)) g A n cap ty q #[.string ⟨#[]⟩, .string ⟨#[]⟩, .slice none 0 0, .slice none 0 0, .slice none 0 0] := by
  have hb : Below w.heap.size w ((w.alloc (.cells #[.string ⟨#[]⟩, .string ⟨#[]⟩, .slice none 0 0, .slice none 0 0, .slice none 0 0] 26)).alloc (.cells #[.string ⟨#[]⟩, .string ⟨#[]⟩, .slice none 0 0, .slice none 0 0, .slice none 0 0] 26)) := ((Below.refl _ _).alloc (Nat.le_refl _) _).alloc (by simp) _
  refine ⟨h.after hb, heap_alloc2_old _ _ _, ?_, Part.Aside.of hb (Nat.le_of_lt h.lt), h.lt⟩
  have := Row.new (w.alloc (.cells #[.string ⟨#[]⟩, .string ⟨#[]⟩, .slice none 0 0, .slice none 0 0, .slice none 0 0] 26)) #[.string ⟨#[]⟩, .string ⟨#[]⟩, .slice none 0 0, .slice none 0 0, .slice none 0 0] 26
  rw [show (w.alloc (.cells #[.string ⟨#[]⟩, .string ⟨#[]⟩, .slice none 0 0, .slice none 0 0, .slice none 0 0] 26)).heap.size = w.heap.size + 1 by simp] at this
  exact this
theorem At.next {w wr w3 : World} {g : Nat} {A : Option Addr} {n cap : Nat} {ty : TypeId} {q q' : Int} {C : Array Value} (h : At w wr g A n cap ty q C) (hr : Row w3 g #[.slice A n cap, .int .i64 q', .int .i64 0] ty) (ha : Part.Aside g wr w3) : At w w3 g A n cap ty q' C :=
  ⟨hr, ha.row h.res (by have := h.lt; omega), ha.row h.box (by have := h.lt; omega), h.asd.trans ha, h.lt⟩
theorem At.set {w wr : World} {g : Nat} {A : Option Addr} {n cap : Nat} {ty : TypeId} {q : Int} {C : Array Value} (h : At w wr g A n cap ty q C) (j : Nat) (v : Value) : At w (wr.setCell ⟨w.heap.size + 1, j, none⟩ v) g A n cap ty q (C.setIfInBounds j v) := by
  have := h.lt
  refine ⟨(heap_setCell_other wr ⟨w.heap.size + 1, j, none⟩ g v (by show g ≠ w.heap.size + 1; omega)).trans h.row, (heap_setCell_other wr ⟨w.heap.size + 1, j, none⟩ w.heap.size v (by show w.heap.size ≠ w.heap.size + 1; omega)).trans h.res, h.box.set j v,
    ⟨h.asd.bel.setCell (by show g ≤ w.heap.size + 1; omega) v, fun k hk hn => (heap_setCell_other wr ⟨w.heap.size + 1, j, none⟩ k v (by show k ≠ w.heap.size + 1; omega)).trans (h.asd.rest k hk hn)⟩, h.lt⟩

/-- the result's box written, cell by cell -/
theorem At.one {w wr : World} {g : Nat} {A : Option Addr} {n cap : Nat} {ty : TypeId} {q : Int} {R : Array Value} (h1 : Row wr g #[.slice A n cap, .int .i64 q, .int .i64 0] ty) (h2 : Row wr w.heap.size R 26) (h3 : Part.Aside g w wr) (hg : g < w.heap.size) (j : Nat) (v : Value) :
    Row (wr.setCell ⟨w.heap.size, j, none⟩ v) g #[.slice A n cap, .int .i64 q, .int .i64 0] ty ∧ Row (wr.setCell ⟨w.heap.size, j, none⟩ v) w.heap.size (R.setIfInBounds j v) 26 ∧ Part.Aside g w (wr.setCell ⟨w.heap.size, j, none⟩ v) :=
  ⟨(heap_setCell_other wr ⟨w.heap.size, j, none⟩ g v (by show g ≠ w.heap.size; omega)).trans h1, h2.set j v,
    ⟨h3.bel.setCell (by show g ≤ w.heap.size; omega) v, fun k hk hn => (heap_setCell_other wr ⟨w.heap.size, j, none⟩ k v (by show k ≠ w.heap.size; omega)).trans (h3.rest k hk hn)⟩⟩
theorem At.fill {w wr : World} {g : Nat} {A : Option Addr} {n cap : Nat} {ty : TypeId} {q : Int} {C : Array Value} (h : At w wr g A n cap ty q C) (v0 v1 v2 v3 v4 : Value) :
    Row (((((wr.setCell ⟨w.heap.size, 0, none⟩ v0).setCell ⟨w.heap.size, 1, none⟩ v1).setCell ⟨w.heap.size, 2, none⟩ v2).setCell ⟨w.heap.size, 3, none⟩ v3).setCell ⟨w.heap.size, 4, none⟩ v4) g #[.slice A n cap, .int .i64 q, .int .i64 0] ty ∧
    Row (((((wr.setCell ⟨w.heap.size, 0, none⟩ v0).setCell ⟨w.heap.size, 1, none⟩ v1).setCell ⟨w.heap.size, 2, none⟩ v2).setCell ⟨w.heap.size, 3, none⟩ v3).setCell ⟨w.heap.size, 4, none⟩ v4) w.heap.size #[v0, v1, v2, v3, v4] 26 ∧
    Part.Aside g w (((((wr.setCell ⟨w.heap.size, 0, none⟩ v0).setCell ⟨w.heap.size, 1, none⟩ v1).setCell ⟨w.heap.size, 2, none⟩ v2).setCell ⟨w.heap.size, 3, none⟩ v3).setCell ⟨w.heap.size, 4, none⟩ v4) := by
  obtain ⟨a0, b0, c0⟩ := At.one h.row h.res h.asd h.lt 0 v0
  obtain ⟨a1, b1, c1⟩ := At.one a0 b0 c0 h.lt 1 v1
  obtain ⟨a2, b2, c2⟩ := At.one a1 b1 c1 h.lt 2 v2
  obtain ⟨a3, b3, c3⟩ := At.one a2 b2 c2 h.lt 3 v3
  exact At.one a3 b3 c3 h.lt 4 v4

set_option maxRecDepth 100000 in
set_option maxHeartbeats 4000000 in
theorem class_lit (g : Nat) (A : Option Addr) (cap : Nat) (ty : TypeId) (w : World) (hrow : Row w g #[.slice A 16 cap, .int .i64 4, .int .i64 0] ty)
    (hnc : 16 ≤ cap) (hm : cap ≤ maxLen) (hr : Rds w A (cells8 lit)) (hne : ∀ a, A = some a → a.block ≠ g) :
    Calls Tryz.prog 59 #[.pointer (some ⟨g, 0, none⟩)] w fun e w' => e = .returned (nilV [65] [79, 98, 106, 101, 99, 116]) ∧ Row w' g #[.slice A 16 cap, .int .i64 16, .int .i64 0] ty ∧ Part.Aside g w w' := by
  have S0 := Lib.hid (At.start hrow)
  have HR : Hid (∀ wr, Part.Aside g w wr → Rds wr A (cells8 lit)) := Lib.hid (fun wr h => by
    rcases hr with h0 | ⟨b, o, hA, hb, hc⟩
    · exact .inl h0
    · refine .inr ⟨b, o, hA, Nat.lt_of_lt_of_le hb h.bel.size, fun j u hu => ?_⟩
      rw [← hc j u hu]
      have := h.rest b hb (hne _ hA)
      unfold World.cell?
      rw [this])
  clear hrow hr hne
  unfold nilV
  go_enter Tryz.func59, Tryz.ntmps59
  go_wp2_with fail
  refine Calls.mono (text_klass g A lit 16 cap 4 ty _ S0.out.row rfl hnc hm (by omega) (by omega) (HR.out _ S0.out.asd)) ?_
  rw [lit0]
  rintro e w1 ⟨rfl, hrow1, ha1⟩
  have T1 := Lib.hid (S0.out.next hrow1 ha1)
  have S1 := Lib.hid (T1.out.set 0 (.string ⟨#[65]⟩))
  have hc := T1.out.box.cell 0
  have hf := T1.out.box.free 0
  clear hrow1 ha1
  go_wp2_with fail
  clear hc hf
  refine Calls.mono (text_klass g A lit 16 cap 6 ty _ S1.out.row rfl hnc hm (by omega) (by omega) (HR.out _ S1.out.asd)) ?_
  rw [lit1]
  rintro e w2 ⟨rfl, hrow2, ha2⟩
  have T2 := Lib.hid (S1.out.next hrow2 ha2)
  have S2 := Lib.hid (T2.out.set 1 (.string ⟨#[79, 98, 106, 101, 99, 116]⟩))
  have hc := T2.out.box.cell 1
  have hf := T2.out.box.free 1
  clear hrow2 ha2
  go_wp2_with fail
  clear hc hf
  refine Calls.mono (nextCst_zero g A lit 16 cap 13 ty 14 _ S2.out.row rfl hnc hm (by omega) (by omega) (HR.out _ S2.out.asd) lit2) ?_
  rintro e w3 ⟨rfl, hrow3, ha3⟩
  have T3 := Lib.hid (S2.out.next hrow3 ha3)
  have S3 := Lib.hid (T3.out.set 2 (.slice none 0 0))
  have hc := T3.out.box.cell 2
  have hf := T3.out.box.free 2
  clear hrow3 ha3
  go_wp2_with fail
  clear hc hf
  refine Calls.mono (listF_zero g A lit 16 cap 14 16 15 _ ty _ S3.out.row rfl hnc hm (by omega) (by omega) (HR.out _ S3.out.asd) lit3 (by omega)) ?_
  rintro e w4 ⟨rfl, hrow4, ha4⟩
  have T4 := Lib.hid (S3.out.next hrow4 ha4)
  have S4 := Lib.hid (T4.out.set 3 (.slice none 0 0))
  have hc := T4.out.box.cell 3
  have hf := T4.out.box.free 3
  clear hrow4 ha4
  go_wp2_with fail
  clear hc hf
  refine Calls.mono (listM_zero g A lit 16 cap 15 32 16 _ ty _ S4.out.row rfl hnc hm (by omega) (by omega) (HR.out _ S4.out.asd) lit4 (by omega)) ?_
  rintro e w5 ⟨rfl, hrow5, ha5⟩
  have T5 := Lib.hid (S4.out.next hrow5 ha5)
  have S5 := Lib.hid (T5.out.set 4 (.slice none 0 0))
  have hc := T5.out.box.cell 4
  have hf := T5.out.box.free 4
  clear hrow5 ha5
  have Hb : Row (w5.setCell ⟨w.heap.size + 1, 4, none⟩ (.slice none 0 0)) (w.heap.size + 1) #[.string ⟨#[65]⟩, .string ⟨#[79, 98, 106, 101, 99, 116]⟩, .slice none 0 0, .slice none 0 0, .slice none 0 0] 26 := S5.out.box
  have g0 := Hb.cell 0
  have g1 := Hb.cell 1
  have g2 := Hb.cell 2
  have g3 := Hb.cell 3
  have g4 := Hb.cell 4
  have f0 := S5.out.res.free 0
  have r0 := S5.out.res.cell 0
  have f1 := S5.out.res.free 1
  have r1 := S5.out.res.cell 1
  have f2 := S5.out.res.free 2
  have r2 := S5.out.res.cell 2
  have f3 := S5.out.res.free 3
  have r3 := S5.out.res.cell 3
  have f4 := S5.out.res.free 4
  have r4 := S5.out.res.cell 4
  have HB := Lib.hid Hb
  clear Hb
  go_wp2_with fail
  have HF := Lib.hid (S5.out.fill (.string ⟨#[65]⟩) (.string ⟨#[79, 98, 106, 101, 99, 116]⟩) (.slice none 0 0) (.slice none 0 0) (.slice none 0 0))
  exact bodyPost_ret (v := nilV [65] [79, 98, 106, 101, 99, 116]) (results1 Tryz.results59 _ _ _ _ rfl (run_loadVar_row _ _ _ _ #[.string ⟨#[65]⟩, .string ⟨#[79, 98, 106, 101, 99, 116]⟩, .slice none 0 0, .slice none 0 0, .slice none 0 0] (0, 0) _ HF.out.2.1 Tryz.underlying26 rfl sizeK)) rfl ⟨rfl, HF.out.1, HF.out.2.2⟩

set_option maxRecDepth 100000 in
set_option maxHeartbeats 4000000 in
/-- the bytes of the class A above Object, got -/
theorem get_lit (b o : Nat) (cap : Nat) (w : World) (hnc : 16 ≤ cap) (hm : cap ≤ maxLen) (hr : Rds w (some ⟨b, o, none⟩) (cells8 lit)) :
    Calls Tryz.prog 21 #[.slice (some ⟨b, o, none⟩) 16 cap] w fun e w' => e = .returned (.tuple #[nilV [65] [79, 98, 106, 101, 99, 116], .int .i64 0]) ∧ Below w.heap.size w w' := by
  have Hr := Lib.hid hr
  clear hr
  unfold nilV
  go_enter Tryz.func21, Tryz.ntmps21
  go_wp2_with fail
  have R0 := Lib.hid (Row.new w #[.string ⟨#[]⟩, .string ⟨#[]⟩, .slice none 0 0, .slice none 0 0, .slice none 0 0] 26)
  have B0 := Lib.hid ((Below.refl w.heap.size w).alloc (Nat.le_refl _) (.cells #[.string ⟨#[]⟩, .string ⟨#[]⟩, .slice none 0 0, .slice none 0 0, .slice none 0 0] 26))
  refine Calls.mono (open_yes b o lit [2, 65, 12, 79, 98, 106, 101, 99, 116, 0, 0, 0] 16 cap 72 66 75 49 _ rfl rfl (by omega) (Hr.out.below B0.out) hnc) ?_
  rintro e w1 ⟨rfl, hb1⟩
  have R1 := Lib.hid (R0.out.after hb1)
  have B1 := Lib.hid (B0.out.trans (hb1.mono B0.out.size))
  clear hb1
  go_wp2_with fail
  have hlt1 : w.heap.size < w1.heap.size := Nat.lt_of_lt_of_le (by simp) (R1.out.lt)
  have hbb : b < w.heap.size := by
    rcases Hr.out with h | ⟨b', o', hA, hb, _⟩
    · cases h
    · injection hA with hA; injection hA with h1 h2; subst h1; exact hb
  have hA1 := (Below.refl w1.heap.size w1).alloc (Nat.le_refl _) (.cells #[.slice (some ⟨b, o, none⟩) 16 cap, .int .i64 4, .int .i64 0] 84)
  have HA1 := Lib.hid hA1
  clear hA1
  refine Calls.mono (class_lit w1.heap.size (some ⟨b, o, none⟩) cap 84 _ (Row.new w1 _ _) hnc hm ((Hr.out.below B1.out).below HA1.out) (by intro a ha; injection ha with ha; subst ha; show b ≠ w1.heap.size; omega)) ?_
  rintro e w2 ⟨rfl, hrow2, ha2⟩
  have R2 := Lib.hid (ha2.row (R1.out.after HA1.out) (by omega))
  have Q2 := Lib.hid hrow2
  have B2 := Lib.hid (B1.out.trans ((HA1.out.trans (ha2.bel)).mono (Nat.le_of_lt hlt1)))
  unfold nilV
  clear hrow2 ha2
  go_wp2_with fail
  have C2 := Lib.hid (Row.new w2 #[.string ⟨#[65]⟩, .string ⟨#[79, 98, 106, 101, 99, 116]⟩, .slice none 0 0, .slice none 0 0, .slice none 0 0] 26)
  have HA2 := Lib.hid ((Below.refl w2.heap.size w2).alloc (Nat.le_refl _) (.cells #[.string ⟨#[65]⟩, .string ⟨#[79, 98, 106, 101, 99, 116]⟩, .slice none 0 0, .slice none 0 0, .slice none 0 0] 26))
  refine Calls.mono (end_yes w1.heap.size (some ⟨b, o, none⟩) 16 cap 84 _ (Q2.out.after HA2.out)) ?_
  rintro e w3 ⟨rfl, k3, hk3⟩
  have C3 : Row w3 w2.heap.size #[.string ⟨#[65]⟩, .string ⟨#[79, 98, 106, 101, 99, 116]⟩, .slice none 0 0, .slice none 0 0, .slice none 0 0] 26 := by rw [hk3]; exact C2.out
  have R3 : Row w3 w.heap.size #[.string ⟨#[]⟩, .string ⟨#[]⟩, .slice none 0 0, .slice none 0 0, .slice none 0 0] 26 := by rw [hk3]; exact R2.out.after (drawn HA2.out k3)
  have B3 : Below w.heap.size w w3 := by rw [hk3]; exact drawn (B2.out.trans (HA2.out.mono B2.out.size)) k3
  have S3 := Lib.hid hk3
  clear hk3
  have g0 := C3.cell 0
  have g1 := C3.cell 1
  have g2 := C3.cell 2
  have g3 := C3.cell 3
  have g4 := C3.cell 4
  have D3 := Lib.hid C3
  have E3 := Lib.hid R3
  have F3 := Lib.hid B3
  clear C3 R3 B3
  go_wp2_with fail
  have hrn := right_nil [65] [79, 98, 106, 101, 99, 116] w3 (by decide) (by decide) (by decide) (by decide)
  unfold nilV at hrn
  refine Calls.mono hrn ?_
  rintro e w4 ⟨rfl, hb4⟩
  clear hrn g0 g1 g2 g3 g4
  have D4 := D3.out.after hb4
  have E4 := E3.out.after hb4
  have F4 := Lib.hid (F3.out.trans (hb4.mono F3.out.size))
  have g0 := D4.cell 0
  have g1 := D4.cell 1
  have g2 := D4.cell 2
  have g3 := D4.cell 3
  have g4 := D4.cell 4
  have r0 := E4.cell 0
  have r1 := E4.cell 1
  have r2 := E4.cell 2
  have r3 := E4.cell 3
  have r4 := E4.cell 4
  have f0 := E4.free 0
  have f1 := E4.free 1
  have f2 := E4.free 2
  have f3 := E4.free 3
  have f4 := E4.free 4
  have G4 := Lib.hid E4
  clear D4 E4 hb4
  go_wp2_with fail
  have h0 := (((((G4.out.set 0 (.string ⟨#[65]⟩)).set 1 (.string ⟨#[79, 98, 106, 101, 99, 116]⟩)).set 2 (.slice none 0 0)).set 3 (.slice none 0 0)).set 4 (.slice none 0 0))
  exact bodyPost_ret (v := .tuple #[.agg #[.string ⟨#[65]⟩, .string ⟨#[79, 98, 106, 101, 99, 116]⟩, .slice none 0 0, .slice none 0 0, .slice none 0 0], .int .i64 0]) (results2 Tryz.results21 _ _ _ _ rfl (run_loadVar_row _ _ _ _ #[.string ⟨#[65]⟩, .string ⟨#[79, 98, 106, 101, 99, 116]⟩, .slice none 0 0, .slice none 0 0, .slice none 0 0] (0, 0) _ h0 Tryz.underlying26 rfl sizeK)) rfl
    ⟨rfl, ((((F4.out.setCell (Nat.le_refl _) _).setCell (Nat.le_refl _) _).setCell (Nat.le_refl _) _).setCell (Nat.le_refl _) _).setCell (Nat.le_refl _) _⟩

end KlsH
end Go.Proofs.YthkkcecfenohjaaGreatDoor
