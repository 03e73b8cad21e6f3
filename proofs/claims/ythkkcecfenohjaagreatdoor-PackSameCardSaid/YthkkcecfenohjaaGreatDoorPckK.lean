/-
  A bundle of nothing put and got; what must come of fixed calls (bundles).
-/
import Derived.Test.YthkkcecfenohjaaGreatDoorPckX
import Derived.Test.YthkkcecfenohjaaGreatDoorKlsN
namespace Go.Proofs.YthkkcecfenohjaaGreatDoor
namespace PckK
open Go.RowKit Base BinM BinE BinGet BinText BinPut Bin8 Part Stru InsA Kls KlsP KlsK KlsG Pck OpenP PckX

/-- bytes of a constant text, turned, in a world as it is -/
theorem conv_lit0 (W : World) (C : Array Value) (n c : Nat) :
    (convert 33 33 (.slice (some ⟨W.heap.size, 0, none⟩) n c)).run Tryz.prog (W.alloc (.cells C 5)) = .ok (.slice (some ⟨W.heap.size, 0, none⟩) n c) (W.alloc (.cells C 5 (C.size, C.size + 1))) :=
  Lib.run_convert_bytes_const (P := Tryz.prog) W 33 5 C n c Tryz.underlying33 Tryz.underlying5
def lit : List UInt8 := [72, 66, 80, 49, 0, 0]
theorem lit0 : getS lit 4 = (0, 5, 0) := by decide +kernel
theorem lit1 : getS lit 5 = (0, 6, 0) := by decide +kernel
theorem nilIs (w : World) : BunT.is w ⟨none, 0, 0, none, 0, 0, [], []⟩ := ⟨⟨rfl, Nat.le_refl _, by decide, .inl rfl, by intro x h; cases h⟩, ⟨rfl, Nat.le_refl _, by decide, .inl rfl, by intro x h; cases h⟩⟩
theorem right_nil (w : World) (hL : Laid w) : Calls Tryz.prog 29 #[.agg #[.slice none 0 0, .slice none 0 0]] w fun e w' => e = .returned (.int .i64 0) ∧ Below w.heap.size w w' :=
  right_any ⟨none, 0, 0, none, 0, 0, [], []⟩ w hL (nilIs w) ⟨(by intro x h; cases h), (by intro x h; cases h)⟩
theorem right_lone (b c : Nat) (w : World) (hL : Laid w) (hc : 1 ≤ c) (hm : c ≤ maxLen) (hr : Rds w (some ⟨b, 0, none⟩) [.string ⟨#[65]⟩, .slice none 0 0, .slice none 0 0]) :
    Calls Tryz.prog 29 #[.agg #[.slice none 0 0, .slice (some ⟨b, 0, none⟩) 1 c]] w fun e w' => e = .returned (.int .i64 9) ∧ Below w.heap.size w w' := by
  refine right_any ⟨none, 0, 0, some ⟨b, 0, none⟩, 1, c, [], [⟨[65], none, 0, 0, none, 0, 0, [], []⟩]⟩ w hL ⟨⟨rfl, Nat.le_refl _, Nat.zero_le _, .inl rfl, (by intro x h; cases h)⟩, ⟨rfl, hc, hm, hr, ?_⟩⟩ ⟨(by intro x h; cases h), ?_⟩
  · intro x h
    cases h with
    | head => exact ⟨⟨rfl, Nat.le_refl _, by decide, .inl rfl, (by intro x h; cases h)⟩, ⟨rfl, Nat.le_refl _, by decide, .inl rfl, by intro x h; cases h⟩⟩
    | tail _ h => cases h
  · intro x h
    cases h with
    | head => exact ⟨by decide, (by intro x h; cases h), (by intro x h; cases h)⟩
    | tail _ h => cases h

set_option maxRecDepth 100000 in
set_option maxHeartbeats 1000000 in
theorem texts_nil (v : Value) (w : World) : Calls Tryz.prog 82 #[v, .slice none 0 0] w fun e w' => e = .returned v ∧ w = w' := by
  go_enter Tryz.func82, Tryz.ntmps82
  go_wp2_with fail
  go_loopw [0, 9] (fun u i wr => u = v ∧ i = .int .i64 0 ∧ w = wr) (fun _ _ _ => 0)
  case atStart => exact ⟨rfl, rfl, rfl⟩
  case round =>
    obtain ⟨rfl, rfl, rfl⟩ := hrel
    go_wp2_with fail
    go_ret
    exact ⟨rfl, rfl⟩

set_option maxRecDepth 100000 in
set_option maxHeartbeats 1000000 in
theorem listK_zero (g : Nat) (A : Option Addr) (l : List UInt8) (n cap : Nat) (p most q : Int) (F : Value) (ty : TypeId) (w : World) (hrow : Row w g #[.slice A n cap, .int .i64 p, .int .i64 0] ty)
    (hn : n = l.length) (hnc : n ≤ cap) (hm : cap ≤ maxLen) (ha0 : -9223372036854775808 ≤ p) (ha1 : p ≤ 9223372036854775807) (hr : Rds w A (cells8 l)) (hg : getS l p = (0, q, 0)) (h1 : 0 ≤ most) :
    Calls Tryz.prog 119 #[.pointer (some ⟨g, 0, none⟩), .int .i64 most, F] w (GivesR g A n cap ty w (.slice none 0 0) q 0) := by
  have hnx := readNum_any g A l n cap p most 6 0 q ty w hrow hn hnc hm ha0 ha1 hr hg (by omega) h1
  have Hnx := Lib.hid hnx
  clear hnx hn hnc hm hr hrow hg h1
  go_enter Tryz.func119, Tryz.ntmps119
  go_wp2_with fail
  refine Calls.mono Hnx.out ?_
  rintro ee w3 ⟨rfl, hrow3, ha3⟩
  have H3 := Lib.hid hrow3
  have A3 := Lib.hid ha3
  clear hrow3 ha3
  go_wp2_with fail
  go_loopw [7, 11] (fun l i wr => l = .slice none 0 0 ∧ i = .int .i64 0 ∧ w3 = wr) (fun _ _ _ => 0)
  case atStart => exact ⟨rfl, rfl, rfl⟩
  case round =>
    obtain ⟨rfl, rfl, rfl⟩ := hrel
    go_wp2_with fail
    go_ret
    exact ⟨rfl, H3.out, A3.out⟩

set_option maxRecDepth 100000 in
set_option maxHeartbeats 1000000 in
theorem listT_zero (g : Nat) (A : Option Addr) (l : List UInt8) (n cap : Nat) (p most q : Int) (F : Value) (ty : TypeId) (w : World) (hrow : Row w g #[.slice A n cap, .int .i64 p, .int .i64 0] ty)
    (hn : n = l.length) (hnc : n ≤ cap) (hm : cap ≤ maxLen) (ha0 : -9223372036854775808 ≤ p) (ha1 : p ≤ 9223372036854775807) (hr : Rds w A (cells8 l)) (hg : getS l p = (0, q, 0)) (h1 : 0 ≤ most) :
    Calls Tryz.prog 121 #[.pointer (some ⟨g, 0, none⟩), .int .i64 most, F] w (GivesR g A n cap ty w (.slice none 0 0) q 0) := by
  have hnx := readNum_any g A l n cap p most 6 0 q ty w hrow hn hnc hm ha0 ha1 hr hg (by omega) h1
  have Hnx := Lib.hid hnx
  clear hnx hn hnc hm hr hrow hg h1
  go_enter Tryz.func121, Tryz.ntmps121
  go_wp2_with fail
  refine Calls.mono Hnx.out ?_
  rintro ee w3 ⟨rfl, hrow3, ha3⟩
  have H3 := Lib.hid hrow3
  have A3 := Lib.hid ha3
  clear hrow3 ha3
  go_wp2_with fail
  go_loopw [7, 11] (fun l i wr => l = .slice none 0 0 ∧ i = .int .i64 0 ∧ w3 = wr) (fun _ _ _ => 0)
  case atStart => exact ⟨rfl, rfl, rfl⟩
  case round =>
    obtain ⟨rfl, rfl, rfl⟩ := hrel
    go_wp2_with fail
    go_ret
    exact ⟨rfl, H3.out, A3.out⟩

set_option maxRecDepth 100000 in
set_option maxHeartbeats 4000000 in
theorem put_nil (w : World) (hL : Laid w) :
    Calls Tryz.prog 35 #[.agg #[.slice none 0 0, .slice none 0 0]] w fun e w' => ∃ A c, e = .returned (.tuple #[.slice A 6 c, .int .i64 0]) ∧ 6 ≤ c ∧ c ≤ maxLen ∧ Rds w' A (cells8 lit) ∧ Below w.heap.size w w' := by
  have HL := Lib.hid hL
  clear hL
  have HB := Lib.hid ((Below.refl w.heap.size w).alloc (Nat.le_refl _) (.cells #[.slice none 0 0, .slice none 0 0] 48))
  have R0 := Lib.hid (Row.new w #[.slice none 0 0, .slice none 0 0] 48)
  go_enter Tryz.func35, Tryz.ntmps35
  go_wp2_with fail
  refine Calls.mono (right_nil _ (HL.out.below HB.out HL.out.1)) ?_
  rintro e w1 ⟨rfl, hb1⟩
  have R1 := Lib.hid (R0.out.after hb1)
  have B1 := Lib.hid (HB.out.trans (hb1.mono HB.out.size))
  clear hb1
  have g0 := R1.out.cell 0
  have g1 := R1.out.cell 1
  go_wp2_with fail
  go_loopw [5, 21] (fun v i wr => v = .slice none 0 0 ∧ i = .int .i64 0 ∧ w1 = wr) (fun _ _ _ => 0)
  case atStart => exact ⟨rfl, rfl, rfl⟩
  case round =>
    obtain ⟨rfl, rfl, rfl⟩ := hrel
    have hcv := conv_lit0 w1 #[.int .u8 72, .int .u8 66, .int .u8 80, .int .u8 49] 4 4
    have Hlit := Lib.hid (rds_lit w1 [72, 66, 80, 49] (4, 5))
    have HA := Lib.hid (((Below.refl w1.heap.size w1).alloc (Nat.le_refl _) (.cells #[.int .u8 72, .int .u8 66, .int .u8 80, .int .u8 49] 5 (4, 5))))
    go_wp2_with fail
    refine Calls.mono (put_any _ [72, 66, 80, 49] 4 4 0 _ rfl (by omega) (by omega) (by omega) Hlit.out) ?_
    rw [show [72, 66, 80, 49] ++ num 0 = [72, 66, 80, 49, 0] from by decide]
    rintro e w3 ⟨v3, rfl, hown3, hb3⟩
    obtain ⟨A3, c3, rfl, hq3, hq3', hr3, _⟩ := Own8.slice hown3
    rw [show ([72, 66, 80, 49, 0] : List UInt8).length = 5 from rfl] at *
    have HA3 := Lib.hid (HA.out.trans (hb3.mono (Nat.le_trans HA.out.size (Nat.le_refl _))))
    have B3 := Lib.hid (B1.out.trans (HA3.out.mono B1.out.size))
    have R3 := Lib.hid (R1.out.after HA3.out)
    have Hr3 := Lib.hid hr3
    clear hown3 hb3 hr3 hcv g0 g1
    have g0 := R3.out.cell 0
    have g1 := R3.out.cell 1
    go_wp2_with fail
    refine Calls.mono (texts_nil _ _) ?_
    rintro e w4 ⟨rfl, rfl⟩
    go_wp2_with fail
    refine Calls.mono (put_any A3 [72, 66, 80, 49, 0] 5 c3 0 _ rfl (by omega) (by omega) (by omega) Hr3.out) ?_
    rw [show [72, 66, 80, 49, 0] ++ num 0 = lit from by decide]
    rintro e w5 ⟨v5, rfl, hown5, hb5⟩
    obtain ⟨A5, c5, rfl, hq5, hq5', hr5, _⟩ := Own8.slice hown5
    rw [show lit.length = 6 from rfl] at *
    have B5 := Lib.hid (B3.out.trans (hb5.mono B3.out.size))
    have R5 := Lib.hid (R3.out.after hb5)
    have Hr5 := Lib.hid hr5
    clear hown5 hb5 hr5 g0 g1
    have g0 := R5.out.cell 0
    have g1 := R5.out.cell 1
    go_wp2_with fail
    go_loopw [10, 55] (fun v i wr => v = .slice A5 6 c5 ∧ i = .int .i64 0 ∧ w5 = wr) (fun _ _ _ => 0)
    case atStart => exact ⟨rfl, rfl, rfl⟩
    case round =>
      obtain ⟨rfl, rfl, rfl⟩ := hrel
      go_wp2_with fail
      go_ret2
      exact ⟨A5, c5, rfl, hq5, hq5', Hr5.out, B5.out⟩

/-- the reader's row, and two boxes of bundles beside it -/
structure At (w wr : World) (g : Nat) (A : Option Addr) (n cap : Nat) (ty : TypeId) (q : Int) (C : Array Value) : Prop where
  row : Row wr g #[.slice A n cap, .int .i64 q, .int .i64 0] ty
  res : Row wr w.heap.size #[.slice none 0 0, .slice none 0 0] 48
  box : Row wr (w.heap.size + 1) C 48
  asd : Part.Aside g w wr
  lt : g < w.heap.size
theorem At.start {w : World} {g : Nat} {A : Option Addr} {n cap : Nat} {ty : TypeId} {q : Int} (h : Row w g #[.slice A n cap, .int .i64 q, .int .i64 0] ty) :
    At w ((w.alloc (.cells #[.slice none 0 0, .slice none 0 0] 48)).alloc (.cells #[.slice none 0 0, .slice none 0 0] 48)) g A n cap ty q #[.slice none 0 0, .slice none 0 0] :=
  ⟨h.after (pair w #[.slice none 0 0, .slice none 0 0] #[.slice none 0 0, .slice none 0 0] 48 48).2.2, (pair w #[.slice none 0 0, .slice none 0 0] #[.slice none 0 0, .slice none 0 0] 48 48).1, (pair w #[.slice none 0 0, .slice none 0 0] #[.slice none 0 0, .slice none 0 0] 48 48).2.1, Part.Aside.of (pair w #[.slice none 0 0, .slice none 0 0] #[.slice none 0 0, .slice none 0 0] 48 48).2.2 (Nat.le_of_lt h.lt), h.lt⟩
theorem At.next {w wr w3 : World} {g : Nat} {A : Option Addr} {n cap : Nat} {ty : TypeId} {q q' : Int} {C : Array Value} (h : At w wr g A n cap ty q C) (hr : Row w3 g #[.slice A n cap, .int .i64 q', .int .i64 0] ty) (ha : Part.Aside g wr w3) : At w w3 g A n cap ty q' C :=
  ⟨hr, ha.row h.res (by have := h.lt; omega), ha.row h.box (by have := h.lt; omega), h.asd.trans ha, h.lt⟩
theorem At.set {w wr : World} {g : Nat} {A : Option Addr} {n cap : Nat} {ty : TypeId} {q : Int} {C : Array Value} (h : At w wr g A n cap ty q C) (j : Nat) (v : Value) : At w (wr.setCell ⟨w.heap.size + 1, j, none⟩ v) g A n cap ty q (C.setIfInBounds j v) := by
  have := h.lt
  refine ⟨(heap_setCell_other wr ⟨w.heap.size + 1, j, none⟩ g v (by show g ≠ w.heap.size + 1; omega)).trans h.row, (heap_setCell_other wr ⟨w.heap.size + 1, j, none⟩ w.heap.size v (by show w.heap.size ≠ w.heap.size + 1; omega)).trans h.res, h.box.set j v,
    ⟨h.asd.bel.setCell (by show g ≤ w.heap.size + 1; omega) v, fun k hk hn => (heap_setCell_other wr ⟨w.heap.size + 1, j, none⟩ k v (by show k ≠ w.heap.size + 1; omega)).trans (h.asd.rest k hk hn)⟩, h.lt⟩
theorem At.one {w wr : World} {g : Nat} {A : Option Addr} {n cap : Nat} {ty : TypeId} {q : Int} {R : Array Value} (h1 : Row wr g #[.slice A n cap, .int .i64 q, .int .i64 0] ty) (h2 : Row wr w.heap.size R 48) (h3 : Part.Aside g w wr) (hg : g < w.heap.size) (j : Nat) (v : Value) :
    Row (wr.setCell ⟨w.heap.size, j, none⟩ v) g #[.slice A n cap, .int .i64 q, .int .i64 0] ty ∧ Row (wr.setCell ⟨w.heap.size, j, none⟩ v) w.heap.size (R.setIfInBounds j v) 48 ∧ Part.Aside g w (wr.setCell ⟨w.heap.size, j, none⟩ v) :=
  ⟨(heap_setCell_other wr ⟨w.heap.size, j, none⟩ g v (by show g ≠ w.heap.size; omega)).trans h1, h2.set j v,
    ⟨h3.bel.setCell (by show g ≤ w.heap.size; omega) v, fun k hk hn => (heap_setCell_other wr ⟨w.heap.size, j, none⟩ k v (by show k ≠ w.heap.size; omega)).trans (h3.rest k hk hn)⟩⟩
theorem At.fill {w wr : World} {g : Nat} {A : Option Addr} {n cap : Nat} {ty : TypeId} {q : Int} {C : Array Value} (h : At w wr g A n cap ty q C) (v0 v1 : Value) :
    Row ((wr.setCell ⟨w.heap.size, 0, none⟩ v0).setCell ⟨w.heap.size, 1, none⟩ v1) g #[.slice A n cap, .int .i64 q, .int .i64 0] ty ∧
    Row ((wr.setCell ⟨w.heap.size, 0, none⟩ v0).setCell ⟨w.heap.size, 1, none⟩ v1) w.heap.size #[v0, v1] 48 ∧
    Part.Aside g w ((wr.setCell ⟨w.heap.size, 0, none⟩ v0).setCell ⟨w.heap.size, 1, none⟩ v1) := by
  obtain ⟨a0, b0, c0⟩ := At.one h.row h.res h.asd h.lt 0 v0
  exact At.one a0 b0 c0 h.lt 1 v1
theorem sizeB : (Tryz.prog.info? 48).map (·.size) = some 2 := by kernel_rfl

set_option maxRecDepth 100000 in
set_option maxHeartbeats 4000000 in
theorem bundle_lit (g : Nat) (A : Option Addr) (cap : Nat) (ty : TypeId) (w : World) (hrow : Row w g #[.slice A 6 cap, .int .i64 4, .int .i64 0] ty)
    (hnc : 6 ≤ cap) (hm : cap ≤ maxLen) (hr : Rds w A (cells8 lit)) (hne : ∀ a, A = some a → a.block ≠ g) :
    Calls Tryz.prog 84 #[.pointer (some ⟨g, 0, none⟩)] w fun e w' => e = .returned (.agg #[.slice none 0 0, .slice none 0 0]) ∧ Row w' g #[.slice A 6 cap, .int .i64 6, .int .i64 0] ty ∧ Part.Aside g w w' := by
  have S0 := Lib.hid (At.start hrow)
  have HR : Hid (∀ wr, Part.Aside g w wr → Rds wr A (cells8 lit)) := Lib.hid (fun wr h => by
    rcases hr with h0 | ⟨b, o, hA, hb, hc⟩
    · exact .inl h0
    · refine .inr ⟨b, o, hA, Nat.lt_of_lt_of_le hb h.bel.size, fun j u hu => ?_⟩
      rw [← hc j u hu]
      have := h.rest b hb (hne _ hA)
      unfold World.cell?
      rw [this])
  clear hrow hr hne
  go_enter Tryz.func84, Tryz.ntmps84
  go_wp2_with fail
  refine Calls.mono (listK_zero g A lit 6 cap 4 32 5 _ ty _ S0.out.row rfl hnc hm (by omega) (by omega) (HR.out _ S0.out.asd) lit0 (by omega)) ?_
  rintro e w4 ⟨rfl, hrow4, ha4⟩
  have T4 := Lib.hid (S0.out.next hrow4 ha4)
  have S4 := Lib.hid (T4.out.set 0 (.slice none 0 0))
  have hc := T4.out.box.cell 0
  have hf := T4.out.box.free 0
  clear hrow4 ha4
  go_wp2_with fail
  clear hc hf
  refine Calls.mono (listT_zero g A lit 6 cap 5 32 6 _ ty _ S4.out.row rfl hnc hm (by omega) (by omega) (HR.out _ S4.out.asd) lit1 (by omega)) ?_
  rintro e w5 ⟨rfl, hrow5, ha5⟩
  have T5 := Lib.hid (S4.out.next hrow5 ha5)
  have S5 := Lib.hid (T5.out.set 1 (.slice none 0 0))
  have hc := T5.out.box.cell 1
  have hf := T5.out.box.free 1
  clear hrow5 ha5
  have Hb : Row (w5.setCell ⟨w.heap.size + 1, 1, none⟩ (.slice none 0 0)) (w.heap.size + 1) #[.slice none 0 0, .slice none 0 0] 48 := S5.out.box
  have g0 := Hb.cell 0
  have g1 := Hb.cell 1
  have f0 := S5.out.res.free 0
  have r0 := S5.out.res.cell 0
  have f1 := S5.out.res.free 1
  have r1 := S5.out.res.cell 1
  have HB := Lib.hid Hb
  clear Hb
  go_wp2_with fail
  have HF := Lib.hid (S5.out.fill (.slice none 0 0) (.slice none 0 0))
  exact bodyPost_ret (v := .agg #[.slice none 0 0, .slice none 0 0]) (results1 Tryz.results84 _ _ _ _ rfl (run_loadVar_row _ _ _ _ #[.slice none 0 0, .slice none 0 0] (0, 0) _ HF.out.2.1 Tryz.underlying48 rfl sizeB)) rfl ⟨rfl, HF.out.1, HF.out.2.2⟩

set_option maxRecDepth 100000 in
set_option maxHeartbeats 4000000 in
/-- the bytes of the bundle of nothing, got -/
theorem get_lit (b o : Nat) (cap : Nat) (w : World) (hL : Laid w) (hnc : 6 ≤ cap) (hm : cap ≤ maxLen) (hr : Rds w (some ⟨b, o, none⟩) (cells8 lit)) :
    Calls Tryz.prog 37 #[.slice (some ⟨b, o, none⟩) 6 cap] w fun e w' => e = .returned (.tuple #[.agg #[.slice none 0 0, .slice none 0 0], .int .i64 0]) ∧ Below w.heap.size w w' := by
  have Hr := Lib.hid hr
  have HL := Lib.hid hL
  clear hr hL
  go_enter Tryz.func37, Tryz.ntmps37
  go_wp2_with fail
  have R0 := Lib.hid (Row.new w #[.slice none 0 0, .slice none 0 0] 48)
  have B0 := Lib.hid ((Below.refl w.heap.size w).alloc (Nat.le_refl _) (.cells #[.slice none 0 0, .slice none 0 0] 48))
  refine Calls.mono (open_yes b o lit [0, 0] 6 cap 72 66 80 49 _ rfl rfl (by omega) (Hr.out.below B0.out) hnc) ?_
  rintro e w1 ⟨rfl, hb1⟩
  have R1 := Lib.hid (R0.out.after hb1)
  have B1 := Lib.hid (B0.out.trans (hb1.mono B0.out.size))
  clear hb1
  go_wp2_with fail
  have hlt1 : w.heap.size < w1.heap.size := Nat.lt_of_lt_of_le (by simp) (R1.out.lt)
  have hbb : b < w.heap.size := by
    rcases Hr.out with h | ⟨b', o', hA, hb, _⟩
    · cases h
    · injection hA with hA; injection hA with h1 h2; subst h1; exact hb
  have hA1 := (Below.refl w1.heap.size w1).alloc (Nat.le_refl _) (.cells #[.slice (some ⟨b, o, none⟩) 6 cap, .int .i64 4, .int .i64 0] 113)
  have HA1 := Lib.hid hA1
  clear hA1
  refine Calls.mono (bundle_lit w1.heap.size (some ⟨b, o, none⟩) cap 113 _ (Row.new w1 _ _) hnc hm ((Hr.out.below B1.out).below HA1.out) (by intro a ha; injection ha with ha; subst ha; show b ≠ w1.heap.size; omega)) ?_
  rintro e w2 ⟨rfl, hrow2, ha2⟩
  have R2 := Lib.hid (ha2.row (R1.out.after HA1.out) (by omega))
  have Q2 := Lib.hid hrow2
  have B2 := Lib.hid (B1.out.trans ((HA1.out.trans (ha2.bel)).mono (Nat.le_of_lt hlt1)))
  clear hrow2 ha2
  go_wp2_with fail
  have C2 := Lib.hid (Row.new w2 #[.slice none 0 0, .slice none 0 0] 48)
  have HA2 := Lib.hid ((Below.refl w2.heap.size w2).alloc (Nat.le_refl _) (.cells #[.slice none 0 0, .slice none 0 0] 48))
  refine Calls.mono (end_yes w1.heap.size (some ⟨b, o, none⟩) 6 cap 113 _ (Q2.out.after HA2.out)) ?_
  rintro e w3 ⟨rfl, k3, hk3⟩
  have C3 : Row w3 w2.heap.size #[.slice none 0 0, .slice none 0 0] 48 := by rw [hk3]; exact C2.out
  have R3 : Row w3 w.heap.size #[.slice none 0 0, .slice none 0 0] 48 := by rw [hk3]; exact R2.out.after (drawn HA2.out k3)
  have B3 : Below w.heap.size w w3 := by rw [hk3]; exact drawn (B2.out.trans (HA2.out.mono B2.out.size)) k3
  have S3 := Lib.hid hk3
  clear hk3
  have g0 := C3.cell 0
  have g1 := C3.cell 1
  have D3 := Lib.hid C3
  have E3 := Lib.hid R3
  have F3 := Lib.hid B3
  clear C3 R3 B3
  go_wp2_with fail
  refine Calls.mono (right_nil w3 (HL.out.below F3.out HL.out.1)) ?_
  rintro e w4 ⟨rfl, hb4⟩
  clear g0 g1
  have D4 := D3.out.after hb4
  have E4 := E3.out.after hb4
  have F4 := Lib.hid (F3.out.trans (hb4.mono F3.out.size))
  have g0 := D4.cell 0
  have g1 := D4.cell 1
  have r0 := E4.cell 0
  have r1 := E4.cell 1
  have f0 := E4.free 0
  have f1 := E4.free 1
  have G4 := Lib.hid E4
  clear D4 E4 hb4
  go_wp2_with fail
  have h0 := ((G4.out.set 0 (.slice none 0 0)).set 1 (.slice none 0 0))
  exact bodyPost_ret (v := .tuple #[.agg #[.slice none 0 0, .slice none 0 0], .int .i64 0]) (results2 Tryz.results37 _ _ _ _ rfl (run_loadVar_row _ _ _ _ #[.slice none 0 0, .slice none 0 0] (0, 0) _ h0 Tryz.underlying48 rfl sizeB)) rfl
    ⟨rfl, (F4.out.setCell (Nat.le_refl _) _).setCell (Nat.le_refl _) _⟩

set_option maxRecDepth 100000 in
set_option maxHeartbeats 4000000 in
theorem known_any (w : World) (hL : Laid w) : Calls Tryz.prog 28 #[] w fun e w' => e = .returned (.bool true) ∧ Below w.heap.size w w' := by
  have HL := Lib.hid hL
  clear hL
  go_enter Tryz.func28, Tryz.ntmps28
  go_wp2_with fail
  refine Calls.mono (put_nil w HL.out) ?_
  rintro e w1 ⟨A1, c1, rfl, hq1, hq1', hr1, hb1⟩
  have R1 := Lib.hid hr1
  have B1 := Lib.hid hb1
  obtain ⟨b, o, rfl⟩ : ∃ b o, A1 = some ⟨b, o, none⟩ := by
    rcases hr1 with h | ⟨b, o, hA, _⟩
    · cases h
    · exact ⟨b, o, hA⟩
  clear hr1 hb1
  have hcv := conv_lit0 w1 #[.int .u8 72, .int .u8 66, .int .u8 80, .int .u8 49, .int .u8 0, .int .u8 0] 6 6
  have Hlit := Lib.hid (rds_lit w1 lit (6, 7))
  have HA := Lib.hid ((Below.refl w1.heap.size w1).alloc (Nat.le_refl _) (.cells #[.int .u8 72, .int .u8 66, .int .u8 80, .int .u8 49, .int .u8 0, .int .u8 0] 5 (6, 7)))
  have BA := Lib.hid (B1.out.trans (HA.out.mono B1.out.size))
  go_wp2_with fail
  refine Calls.mono (get_lit w1.heap.size 0 6 _ (HL.out.below BA.out HL.out.1) (by omega) (by decide) Hlit.out) ?_
  rintro e w2 ⟨rfl, hb2⟩
  have B2 := Lib.hid (BA.out.trans (hb2.mono BA.out.size))
  have R2 := Lib.hid ((R1.out.below HA.out).below hb2)
  clear hb2 hcv
  have HA3 := Lib.hid ((Below.refl w2.heap.size w2).alloc (Nat.le_refl _) (.cells #[.slice none 0 0, .slice none 0 0] 48))
  have B3 := Lib.hid (B2.out.trans (HA3.out.mono B2.out.size))
  have C3 := Row.new w2 #[.slice none 0 0, .slice none 0 0] 48
  have hcv := run_text (P := Tryz.prog) (w := w2.alloc (.cells #[.slice none 0 0, .slice none 0 0] 48)) 33 9 5 6 c1 Tryz.underlying33 Tryz.underlying5 Tryz.underlying9 (l := lit) rfl (R2.out.below HA3.out)
  rw [show (lit.toArray) = #[72, 66, 80, 49, 0, 0] from rfl] at hcv
  go_wp2_with fail
  have B5 := Lib.hid (B3.out.trans (((Below.refl _ _).alloc (Nat.le_refl _) (.cells #[.string ⟨#[65]⟩, .slice none 0 0, .slice none 0 0] 103)).mono B3.out.size))
  refine Calls.mono (right_lone _ 1 _ (HL.out.below B5.out HL.out.1) (by omega) (by decide) (Or.inr ⟨_, 0, rfl, by simp, ?_⟩)) ?_
  · intro j u hu
    rw [Nat.zero_add, (pair w2 #[.slice none 0 0, .slice none 0 0] #[.string ⟨#[65]⟩, .slice none 0 0, .slice none 0 0] 48 103).2.1.cell j]
    simpa using hu
  rintro e w6 ⟨rfl, hb6⟩
  have B6 := Lib.hid (B5.out.trans (hb6.mono B5.out.size))
  clear hb6 hcv
  go_wp2_with fail
  go_ret
  exact ⟨rfl, B6.out⟩

end PckK
end Go.Proofs.YthkkcecfenohjaaGreatDoor
