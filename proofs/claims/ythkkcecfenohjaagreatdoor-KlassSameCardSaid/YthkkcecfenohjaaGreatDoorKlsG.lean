/-
  A class of nothing put and got: klass.Put, part.Open, the reader, klass.Get.
-/
import Derived.Test.YthkkcecfenohjaaGreatDoorKlsK
import Derived.Test.YthkkcecfenohjaaGreatDoorShelf
import Derived.Laws.IdiomStrings
import Derived.Laws.Rows
namespace Go.Proofs.YthkkcecfenohjaaGreatDoor
namespace KlsG
open Go.RowKit Base BinM BinE BinGet BinText BinPut Bin8 Part Kls KlsK

/-- a struct that is the one result, and lies in a cell -/
theorem results1 {P : Program} {fn : Func} {p : Tmp} {ty : TypeId} (h : fn.results = #[.cell p ty]) (tmps : Array Value) (w : World) (a : Addr) (x : Value)
    (hp : tmps.getD p undef = .pointer (some a)) (hl : (loadVar ty a).run P w = .ok x w) : (results fn tmps).run P w = .ok x w := by
  have hp' : tmps[p]?.getD undef = .pointer (some a) := by simpa using hp
  simp [results, h, hp', asAddr, hl]
/-- a struct that is the first of two results, and lies in a cell -/
theorem results2 {P : Program} {fn : Func} {p t1 : Tmp} {ty : TypeId} (h : fn.results = #[.cell p ty, .tmp t1]) (tmps : Array Value) (w : World) (a : Addr) (x : Value)
    (hp : tmps.getD p undef = .pointer (some a)) (hl : (loadVar ty a).run P w = .ok x w) : (results fn tmps).run P w = .ok (.tuple #[x, tmps.getD t1 undef]) w := by
  have hp' : tmps[p]?.getD undef = .pointer (some a) := by simpa using hp
  simp [results, h, hp', asAddr, hl]

set_option maxRecDepth 100000 in
set_option maxHeartbeats 1000000 in
theorem put_nil (n s : List UInt8) (w : World) (hn : nameB n = true) (hs : nameB s = true) (hnl : n.length ≤ 100) (hsl : s.length ≤ 100) (htn : (txt n).length ≤ 110) (hts : (txt s).length ≤ 110) :
    Calls Tryz.prog 19 #[nilV n s] w fun e w' => ∃ A c, e = .returned (.tuple #[.slice A ((((([72, 66, 75, 49] ++ txt n) ++ txt s) ++ [0] ++ [0] ++ [0]) : List UInt8).length) c, .int .i64 0]) ∧ ((((([72, 66, 75, 49] ++ txt n) ++ txt s) ++ [0] ++ [0] ++ [0]) : List UInt8).length) ≤ c ∧ c ≤ maxLen ∧ Rds w' A (cells8 ((([72, 66, 75, 49] ++ txt n) ++ txt s) ++ [0] ++ [0] ++ [0])) ∧ Below w.heap.size w w' := by
  have H1 := Lib.hid (Box5.new w (.string ⟨n.toArray⟩) (.string ⟨s.toArray⟩) (.slice none 0 0) (.slice none 0 0) (.slice none 0 0) 26)
  have HB := Lib.hid ((Below.refl w.heap.size w).alloc (Nat.le_refl _) (.cells #[.string ⟨n.toArray⟩, .string ⟨s.toArray⟩, .slice none 0 0, .slice none 0 0, .slice none 0 0] 26))
  have hb := fun W => bytesOf_nil n s W hnl hsl htn hts
  have hr := fun W => right_nil n s W hn hs hnl hsl
  obtain ⟨X, hX⟩ : ∃ X, X = (([72, 66, 75, 49] ++ txt n) ++ txt s) ++ [0] ++ [0] ++ [0] := ⟨_, rfl⟩
  have hXl : X.length ≤ 300 := by rw [hX]; simp; omega
  rw [← hX] at hb ⊢
  have Hb := Lib.hid hb
  have Hr := Lib.hid hr
  clear hb hr hX hn hs
  obtain ⟨hc0, hc1, hc2, hc3, hc4⟩ := H1.out
  unfold nilV at Hb Hr ⊢
  go_enter Tryz.func19, Tryz.ntmps19
  go_wp2_with fail
  refine Calls.mono (Hr.out _) ?_
  rintro e w1 ⟨rfl, hb1⟩
  clear hc0 hc1 hc2 hc3 hc4
  obtain ⟨hc0, hc1, hc2, hc3, hc4⟩ := H1.out.after hb1
  have B1 := Lib.hid (HB.out.trans (hb1.mono HB.out.size))
  clear hb1
  go_wp2_with fail
  refine Calls.mono (Hb.out _) ?_
  rintro e w2 ⟨v2, rfl, hown2, hb2⟩
  obtain ⟨A2, c2, rfl, hq2, hq2', hr2, _⟩ := Own8.slice hown2
  have B2 := Lib.hid (B1.out.trans (hb2.mono B1.out.size))
  have R2 := Lib.hid hr2
  have d1 : decide ((65536 : Int) < (X.length : Int)) = false := by simp; omega
  have d2 : ¬ (65536 : Int) < (X.length : Int) := by omega
  clear hb2 hown2 hr2
  go_wp2_with fail
  go_ret2
  exact ⟨A2, c2, rfl, hq2, hq2', R2.out, B2.out⟩

theorem sizeR : (Tryz.prog.info? 81).map (·.size) = some 3 := by kernel_rfl
theorem sizeK : (Tryz.prog.info? 26).map (·.size) = some 5 := by kernel_rfl
/-- bytes as numbers -/
def nums (l : List UInt8) : List Int := l.map fun c => (c.toNat : Int)
theorem nums_get {l : List UInt8} {i : Nat} (h : i < l.length) : (nums l).getD i 0 = (l[i].toNat : Int) := by simp [nums, List.getD_eq_getElem?_getD, h]
theorem nums_back (l : List UInt8) : Lib.bytesOf (nums l) = l := by
  unfold Lib.bytesOf nums
  rw [List.map_map]
  conv => rhs; rw [← List.map_id l]
  refine List.map_congr_left fun c _ => ?_
  simp
theorem cells_nums {w : World} {b o n : Nat} {l : List UInt8} (h : Rds w (some ⟨b, o, none⟩) (cells8 l)) (hn : n ≤ l.length) : ∀ i, i < n → w.cell? ⟨b, o + i, none⟩ = some (.int .u8 ((nums l).getD i 0)) := by
  intro i hi
  obtain ⟨b', o', hA, hb, hc⟩ := h.at_ (k := i) (by rw [cells8_length]; omega)
  injection hA with hA
  injection hA with h1 h2
  subst h1 h2
  rw [hc, nums_get (by omega)]
  simp [cells8, cell8]
theorem prefix_any (b o n c b2 o2 m d : Nat) (l hd : List UInt8) (w : World) (hn : n = l.length) (hm : m = hd.length) (hnc : n ≤ c) (h1 : Rds w (some ⟨b, o, none⟩) (cells8 l)) (h2 : Rds w (some ⟨b2, o2, none⟩) (cells8 hd)) :
    Calls Tryz.prog 103 #[.slice (some ⟨b, o, none⟩) n c, .slice (some ⟨b2, o2, none⟩) m d] w fun e w' => e = .returned (.bool (hd.isPrefixOf l)) ∧ w = w' := by
  refine (Tryz.bytes_HasPrefix b o n c b2 o2 m d (nums l) (nums hd) w (by simp [nums, hn]) (by simp [nums, hm]) hnc (cells_nums h1 (by omega)) (cells_nums h2 (by omega))).mono ?_
  rintro e w' ⟨rfl, rfl⟩
  exact ⟨by rw [nums_back, nums_back]; rfl, rfl⟩
theorem rds_bytes (W : World) (ty : TypeId) (s : List UInt8) (k : Nat) (fr : Nat × Nat) (g : Nat) (hg : W.heap.size = g) : Rds (W.alloc (.cells (bytesRow ⟨s.toArray⟩ k) ty fr)).drew (some ⟨g, 0, none⟩) (cells8 s) := by
  subst hg
  refine Rds.drew ?_
  refine .inr ⟨W.heap.size, 0, rfl, by simp, fun j u hu => ?_⟩
  rw [Nat.zero_add, cell_of_row _ _ _ _ _ fr (heap_alloc_new W _)]
  obtain ⟨hj, rfl⟩ := List.getElem?_eq_some_iff.1 hu
  rw [cells8_length] at hj
  unfold bytesRow
  rw [Array.getElem?_append_left (by simpa using hj)]
  simp [cells8, cell8, hj]

set_option maxRecDepth 100000 in
set_option maxHeartbeats 1000000 in
theorem open_yes (b o : Nat) (l rest : List UInt8) (n cap : Nat) (h0 h1 h2 h3 : UInt8) (w : World) (hl : l = [h0, h1, h2, h3] ++ rest) (hn : n = l.length) (h6 : n ≤ 65536) (hr : Rds w (some ⟨b, o, none⟩) (cells8 l)) (hnc : n ≤ cap) :
    Calls Tryz.prog 58 #[.slice (some ⟨b, o, none⟩) n cap, .string ⟨#[h0, h1, h2, h3]⟩] w fun e w' => e = .returned (.agg #[.slice (some ⟨b, o, none⟩) n cap, .int .i64 4, .int .i64 0]) ∧ Below w.heap.size w w' := by
  have d1 : decide ((65536 : Int) < (n : Int)) = false := by simp; omega
  have d2 : ¬ (65536 : Int) < (n : Int) := by omega
  have Hl := Lib.hid hl
  have Hn := Lib.hid hn
  have Hr := Lib.hid hr
  have hcv := fun W => run_bytes_of_string (P := Tryz.prog) W 9 33 5 ⟨#[h0, h1, h2, h3]⟩ Tryz.underlying9 Tryz.underlying33 Tryz.underlying5
  clear hl hn hr
  go_enter Tryz.func58, Tryz.ntmps58
  go_wp2_with fail
  refine Calls.mono (prefix_any b o n cap _ _ 4 _ l [h0, h1, h2, h3] _ Hn.out rfl hnc ((Hr.out.below (((Below.refl _ _).alloc (Nat.le_refl _) _).drew)).below ((Below.refl _ _).alloc (Nat.le_refl _) _)) (rds_bytes _ _ [h0, h1, h2, h3] _ _ _ (by simp))) ?_
  rw [show [h0, h1, h2, h3].isPrefixOf l = true by rw [Hl.out]; simp]
  rintro e w1 ⟨rfl, rfl⟩
  go_wp2_with fail
  exact bodyPost_ret (v := .agg #[.slice (some ⟨b, o, none⟩) n cap, .int .i64 4, .int .i64 0]) (results1 Tryz.results58 _ _ _ _ rfl (run_loadVar_row _ _ _ _ #[.slice (some ⟨b, o, none⟩) n cap, .int .i64 4, .int .i64 0] (0, 0) _ (heap_alloc2_old _ _ _) Tryz.underlying81 rfl sizeR)) rfl ⟨rfl, (((Below.refl _ _).alloc (Nat.le_refl _) _).alloc (by simp) _).drew⟩

set_option maxRecDepth 100000 in
set_option maxHeartbeats 1000000 in
/-- all was read, without an error -/
theorem end_yes (g : Nat) (A : Option Addr) (n cap : Nat) (ty : TypeId) (w : World) (hrow : Row w g #[.slice A n cap, .int .i64 n, .int .i64 0] ty) :
    Calls Tryz.prog 60 #[.pointer (some ⟨g, 0, none⟩)] w fun e w' => e = .returned (.int .i64 0) ∧ ∃ k, w' = w.drewN k := by
  have hc0 : w.cell? ⟨g, 0, none⟩ = some (.slice A n cap) := hrow.cell 0
  have hc1 : w.cell? ⟨g, 1, none⟩ = some (.int .i64 n) := hrow.cell 1
  have hc2 : w.cell? ⟨g, 2, none⟩ = some (.int .i64 0) := hrow.cell 2
  have hd : decide ((n : Int) < (n : Int)) = false := by simp
  clear hrow
  go_enter Tryz.func60, Tryz.ntmps60
  go_wp2_with fail
  go_quiet (fail)
  go_wp2_with fail
  go_ret
  exact ⟨rfl, _, rfl⟩

end KlsG
end Go.Proofs.YthkkcecfenohjaaGreatDoor
