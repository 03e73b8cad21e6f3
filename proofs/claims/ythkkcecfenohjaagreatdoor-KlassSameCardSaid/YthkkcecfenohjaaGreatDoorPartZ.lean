/-
  Parts of which there is nothing: no constants, no fields, no methods: what the calls return.
-/
import Derived.Test.YthkkcecfenohjaaGreatDoorPartM
import Derived.Test.YthkkcecfenohjaaGreatDoorBinPut
import Derived.Test.YthkkcecfenohjaaGreatDoorBin8
namespace Go.Proofs.YthkkcecfenohjaaGreatDoor
namespace Part
open Go.RowKit Base BinM BinE BinGet BinText BinPut Bin8

/-- no constants: no two alike -/
theorem twoAlike_nil (w : World) (c : Nat) : Calls Tryz.prog 92 #[.slice none 0 c] w fun e w' => e = .returned (.bool false) ∧ w = w' := by
  go_enter Tryz.func92, Tryz.ntmps92
  go_wp2_with fail
  go_loopw [3, 4, 7] (fun _ _ i wr => i = .int .i64 0 ∧ w = wr) (fun _ _ _ _ => 0)
  case atStart => exact ⟨rfl, rfl⟩
  case round =>
    obtain ⟨rfl, rfl⟩ := hrel
    go_wp2_with fail
    go_ret
    exact ⟨rfl, rfl⟩

set_option maxRecDepth 100000 in
set_option maxHeartbeats 1000000 in
theorem getAll_zero (A : Option Addr) (l : List UInt8) (n cap : Nat) (p q : Int) (w : World) (hn : n = l.length) (hnc : n ≤ cap) (hm : cap ≤ maxLen) (ha0 : -9223372036854775808 ≤ p) (ha1 : p ≤ 9223372036854775807) (hr : Rds w A (cells8 l)) (hg : getS l p = (0, q, 0)) :
    Calls Tryz.prog 106 #[.slice A n cap, .int .i64 p] w fun e w' => e = .returned (.tuple #[.slice none 0 0, .int .i64 q, .int .i64 0]) ∧ w = w' := by
  have hget := get_any A l n cap p w hn (Nat.le_trans hnc hm) ha0 ha1 hr
  rw [hg] at hget
  unfold three at hget
  have Hget := Lib.hid hget
  clear hget hn hnc hm hr hg
  go_enter Tryz.func106, Tryz.ntmps106
  go_wp2_with fail
  refine Calls.mono Hget.out ?_
  rintro ee w3 ⟨rfl, rfl⟩
  go_wp2_with fail
  go_loopw [1, 9, 10, 11, 12, 30] (fun a l _ _ _ i wr => a = .int .i64 q ∧ l = .slice none 0 0 ∧ i = .int .i64 0 ∧ w = wr) (fun _ _ _ _ _ _ _ => 0)
  case atStart => exact ⟨rfl, rfl, rfl, rfl⟩
  case round =>
    obtain ⟨rfl, rfl, rfl, rfl⟩ := hrel
    go_wp2_with fail
    refine Calls.mono (twoAlike_nil _ 0) ?_
    rintro ee w3 ⟨rfl, rfl⟩
    go_wp2_with fail
    go_ret3
    exact ⟨rfl, rfl⟩

set_option maxRecDepth 100000 in
set_option maxHeartbeats 4000000 in
theorem nextCst_zero (g : Nat) (A : Option Addr) (l : List UInt8) (n cap : Nat) (p : Int) (ty : TypeId) (q : Int) (w : World) (hrow : Row w g #[.slice A n cap, .int .i64 p, .int .i64 0] ty)
    (hn : n = l.length) (hnc : n ≤ cap) (hm : cap ≤ maxLen) (ha0 : -9223372036854775808 ≤ p) (ha1 : p ≤ 9223372036854775807) (hr : Rds w A (cells8 l)) (hg : getS l p = (0, q, 0)) :
    Calls Tryz.prog 105 #[.pointer (some ⟨g, 0, none⟩), .func (.func 106) #[] #[]] w fun e w' => e = .returned (.slice none 0 0) ∧ Row w' g #[.slice A n cap, .int .i64 q, .int .i64 0] ty ∧ Aside g w w' := by
  have eg : ∀ args w, (callFunc 106 args).run Tryz.prog w = .ok (.enter 106 args) w := enters_of Tryz.func106 (by kernel_rfl) rfl
  have hget := fun (W : World) (hr : Rds W A (cells8 l)) => getAll_zero A l n cap p q W hn hnc hm ha0 ha1 hr hg
  clear hg
  have hc0 : w.cell? ⟨g, 0, none⟩ = some (.slice A n cap) := hrow.cell 0
  have hc1 : w.cell? ⟨g, 1, none⟩ = some (.int .i64 p) := hrow.cell 1
  have hc2 : w.cell? ⟨g, 2, none⟩ = some (.int .i64 0) := hrow.cell 2
  have hf1 : w.frozen? ⟨g, 1, none⟩ = false := hrow.free 1
  have hf2 : w.frozen? ⟨g, 2, none⟩ = false := hrow.free 2
  have Hrow := Lib.hid hrow
  have Hget := Lib.hid hget
  have Hr := Lib.hid hr
  clear hget hr hn hnc hm hrow
  go_enter Tryz.func105, Tryz.ntmps105
  go_wp2_with fail
  have hd1 : w.drew.cell? ⟨g, 1, none⟩ = some (.int .i64 p) := hc1
  have hd2 : w.drew.cell? ⟨g, 2, none⟩ = some (.int .i64 0) := hc2
  refine wp_region_held_drew (S := fun w' => w'.cell? ⟨g, 0, none⟩ = some (.slice A n cap)) (by kernel_rfl) ?hSc (fun hHeld => ?restc)
  case hSc => exact hc0
  refine wpAnyH_take (i := 0) (oi := _) (v := ?vc1) rfl (by kernel_rfl) (by kernel_rfl) (by kernel_rfl) (fun _ _ _ h => h) (Or.inl ⟨by rfl, ?hyc1⟩) (by assumption) ?restc1
  case hyc1 => (intro w hSw; (try dsimp only at hSw); go_simp <;> with_reducible rfl)
  simp only [Act.put, List.getElem_toArray, List.getElem_cons_zero, List.setIfInBounds_toArray, List.set_cons_zero, List.set_cons_succ]
  refine wpAnyH_take (i := 1) (oi := _) (v := ?vc2) rfl (by kernel_rfl) (by kernel_rfl) (by kernel_rfl) (fun _ _ _ h => h) (Or.inl ⟨by rfl, ?hyc2⟩) (by assumption) ?restc2
  case hyc2 => (intro w hSw; (try dsimp only at hSw); go_simp <;> with_reducible rfl)
  simp only [Act.put, List.getElem_toArray, List.getElem_cons_zero, List.getElem_cons_succ, List.setIfInBounds_toArray, List.set_cons_zero, List.set_cons_succ]
  refine wpAnyH_take (i := 2) (oi := _) (v := ?vc3) rfl (by kernel_rfl) (by kernel_rfl) (by kernel_rfl) (fun _ _ _ h => h) (Or.inl ⟨by rfl, ?hyc3⟩) (by assumption) ?restc3
  case hyc3 => (intro w hSw; (try dsimp only at hSw); go_simp <;> with_reducible rfl)
  simp only [Act.put, List.getElem_toArray, List.getElem_cons_zero, List.getElem_cons_succ, List.setIfInBounds_toArray, List.set_cons_zero, List.set_cons_succ]
  refine wpAnyH_take (i := 3) (oi := _) (v := ?vc4) rfl (by kernel_rfl) (by kernel_rfl) (by kernel_rfl) (fun _ _ _ h => h) (Or.inl ⟨by rfl, ?hyc4⟩) (by assumption) ?restc4
  case hyc4 => (intro w hSw; (try dsimp only at hSw); go_simp <;> with_reducible rfl)
  simp only [Act.put, List.getElem_toArray, List.getElem_cons_zero, List.getElem_cons_succ, List.setIfInBounds_toArray, List.set_cons_zero, List.set_cons_succ]
  refine wpAnyH_take (i := 4) (oi := _) (v := ?vc5) rfl (by kernel_rfl) (by kernel_rfl) (by kernel_rfl) (fun _ _ _ h => h) (Or.inl ⟨by rfl, ?hyc5⟩) (by assumption) ?restc5
  case hyc5 => (intro w hSw; (try dsimp only at hSw); go_simp <;> with_reducible rfl)
  simp only [Act.put, List.getElem_toArray, List.getElem_cons_zero, List.getElem_cons_succ, List.setIfInBounds_toArray, List.set_cons_zero, List.set_cons_succ]
  refine wpAnyH_take (i := 5) (oi := _) (v := ?vc6) rfl (by kernel_rfl) (by kernel_rfl) (by kernel_rfl) (fun _ _ _ h => h) (Or.inl ⟨by rfl, ?hyc6⟩) (by assumption) ?restc6
  case hyc6 => (intro w hSw; (try dsimp only at hSw); go_simp <;> with_reducible rfl)
  simp only [Act.put, List.getElem_toArray, List.getElem_cons_zero, List.getElem_cons_succ, List.setIfInBounds_toArray, List.set_cons_zero, List.set_cons_succ]
  refine wpAnyH_take (i := 6) (oi := _) (v := ?vc7) rfl (by kernel_rfl) (by kernel_rfl) (by kernel_rfl) (fun _ _ _ h => h) (Or.inl ⟨by rfl, ?hyc7⟩) (by assumption) ?restc7
  case hyc7 => (intro w hSw; (try dsimp only at hSw); go_simp <;> with_reducible rfl)
  simp only [Act.put, List.getElem_toArray, List.getElem_cons_zero, List.getElem_cons_succ, List.setIfInBounds_toArray, List.set_cons_zero, List.set_cons_succ]
  refine wpAnyH_take (i := 7) (oi := _) (v := ?vc8) rfl (by kernel_rfl) (by kernel_rfl) (by kernel_rfl) (fun _ _ _ h => h) (Or.inl ⟨by rfl, ?hyc8⟩) (by assumption) ?restc8
  case hyc8 => (intro w hSw; (try dsimp only at hSw); go_simp <;> with_reducible rfl)
  simp only [Act.put, List.getElem_toArray, List.getElem_cons_zero, List.getElem_cons_succ, List.setIfInBounds_toArray, List.set_cons_zero, List.set_cons_succ]
  refine wpAnyH_take (i := 8) (oi := _) (v := ?vc9) rfl (by kernel_rfl) (by kernel_rfl) (by kernel_rfl) (fun _ _ _ h => h) (Or.inl ⟨by rfl, ?hyc9⟩) (by assumption) ?restc9
  case hyc9 => (intro w hSw; (try dsimp only at hSw); go_simp <;> with_reducible rfl)
  simp only [Act.put, List.getElem_toArray, List.getElem_cons_zero, List.getElem_cons_succ, List.setIfInBounds_toArray, List.set_cons_zero, List.set_cons_succ]
  refine wpAnyH_take (i := 9) (oi := _) (v := ?vc10) rfl (by kernel_rfl) (by kernel_rfl) (by kernel_rfl) (fun _ _ _ h => h) (Or.inl ⟨by rfl, ?hyc10⟩) (by assumption) ?restc10
  case hyc10 => (intro w hSw; (try dsimp only at hSw); go_simp <;> with_reducible rfl)
  simp only [Act.put, List.getElem_toArray, List.getElem_cons_zero, List.getElem_cons_succ, List.setIfInBounds_toArray, List.set_cons_zero, List.set_cons_succ]
  refine wpAnyH_ready (rs := [10]) (by kernel_rfl) (by simp) ?_
  refine AllReadyH.cons (o := _) rfl (fun K hK => ?_) AllReadyH.nil
  go_simp
  refine hK.out _ _ ?hSc11 (fun hHeldc11 => ?restc11)
  case hSc11 => exact hc0
  clear hK K
  try simp only [Act.put, List.getElem_toArray, List.getElem_cons_zero, List.getElem_cons_succ, List.setIfInBounds_toArray, List.set_cons_zero, List.set_cons_succ]
  refine wpAnyH_ready (rs := [11]) (by kernel_rfl) (by simp) ?_
  refine AllReadyH.cons (o := _) rfl (fun K hK => ?_) AllReadyH.nil
  go_simp
  go_at_call 106
  refine Calls.mono (Hget.out w.drew Hr.out.drew) ?_
  rintro ee w3 ⟨rfl, rfl⟩
  refine hK.out _ _ ?hSc12 (fun hHeldc12 => ?restc12)
  case hSc12 => exact hc0
  clear hK K
  try simp only [Act.put, List.getElem_toArray, List.getElem_cons_zero, List.getElem_cons_succ, List.setIfInBounds_toArray, List.set_cons_zero, List.set_cons_succ]
  refine wpAnyH_take (i := 12) (oi := _) (v := ?vc13) rfl (by kernel_rfl) (by kernel_rfl) (by kernel_rfl) (fun _ _ _ h => h) (Or.inl ⟨by rfl, ?hyc13⟩) (by assumption) ?restc13
  case hyc13 => (intro w hSw; (try dsimp only at hSw); go_simp <;> with_reducible rfl)
  simp only [Act.put, List.getElem_toArray, List.getElem_cons_zero, List.getElem_cons_succ, List.setIfInBounds_toArray, List.set_cons_zero, List.set_cons_succ]
  refine wpAnyH_take (i := 13) (oi := _) (v := ?vc14) rfl (by kernel_rfl) (by kernel_rfl) (by kernel_rfl) (fun _ _ _ h => h) (Or.inl ⟨by rfl, ?hyc14⟩) (by assumption) ?restc14
  case hyc14 => (intro w hSw; (try dsimp only at hSw); go_simp <;> with_reducible rfl)
  simp only [Act.put, List.getElem_toArray, List.getElem_cons_zero, List.getElem_cons_succ, List.setIfInBounds_toArray, List.set_cons_zero, List.set_cons_succ]
  refine wpAnyH_take (i := 14) (oi := _) (v := ?vc15) rfl (by kernel_rfl) (by kernel_rfl) (by kernel_rfl) (fun _ _ _ h => h) (Or.inl ⟨by rfl, ?hyc15⟩) (by assumption) ?restc15
  case hyc15 => (intro w hSw; (try dsimp only at hSw); go_simp <;> with_reducible rfl)
  simp only [Act.put, List.getElem_toArray, List.getElem_cons_zero, List.getElem_cons_succ, List.setIfInBounds_toArray, List.set_cons_zero, List.set_cons_succ]
  refine wpAnyH_take (i := 15) (oi := _) (v := ?vc16) rfl (by kernel_rfl) (by kernel_rfl) (by kernel_rfl) (fun _ _ _ h => h) (Or.inl ⟨by rfl, ?hyc16⟩) (by assumption) ?restc16
  case hyc16 => (intro w hSw; (try dsimp only at hSw); go_simp <;> with_reducible rfl)
  simp only [Act.put, List.getElem_toArray, List.getElem_cons_zero, List.getElem_cons_succ, List.setIfInBounds_toArray, List.set_cons_zero, List.set_cons_succ]
  refine wpAnyH_take (i := 16) (oi := _) (v := ?vc17) rfl (by kernel_rfl) (by kernel_rfl) (by kernel_rfl) (fun _ _ _ h => h) (Or.inl ⟨by rfl, ?hyc17⟩) (by assumption) ?restc17
  case hyc17 => (intro w hSw; (try dsimp only at hSw); go_simp <;> with_reducible rfl)
  simp only [Act.put, List.getElem_toArray, List.getElem_cons_zero, List.getElem_cons_succ, List.setIfInBounds_toArray, List.set_cons_zero, List.set_cons_succ]
  refine wpAnyH_take (i := 17) (oi := _) (v := ?vc18) rfl (by kernel_rfl) (by kernel_rfl) (by kernel_rfl) (fun _ _ _ h => h) (Or.inl ⟨by rfl, ?hyc18⟩) (by assumption) ?restc18
  case hyc18 => (intro w hSw; (try dsimp only at hSw); go_simp <;> with_reducible rfl)
  simp only [Act.put, List.getElem_toArray, List.getElem_cons_zero, List.getElem_cons_succ, List.setIfInBounds_toArray, List.set_cons_zero, List.set_cons_succ]
  refine wpAnyH_take (i := 18) (oi := _) (v := ?vc19) rfl (by kernel_rfl) (by kernel_rfl) (by kernel_rfl) (fun _ _ _ h => h) (Or.inl ⟨by rfl, ?hyc19⟩) (by assumption) ?restc19
  case hyc19 => (intro w hSw; (try dsimp only at hSw); go_simp <;> with_reducible rfl)
  simp only [Act.put, List.getElem_toArray, List.getElem_cons_zero, List.getElem_cons_succ, List.setIfInBounds_toArray, List.set_cons_zero, List.set_cons_succ]
  refine wpAnyH_ready (rs := [19]) (by kernel_rfl) (by simp) ?_
  refine AllReadyH.cons (o := _) rfl (fun K hK => ?_) AllReadyH.nil
  go_simp
  refine hK.out _ _ ?hSc20 (fun hHeldc20 => ?restc20)
  case hSc20 => exact kept0 1 (by omega) hc0
  clear hK K
  try simp only [Act.put, List.getElem_toArray, List.getElem_cons_zero, List.getElem_cons_succ, List.setIfInBounds_toArray, List.set_cons_zero, List.set_cons_succ]
  refine wpAnyH_take (i := 20) (oi := _) (v := ?vc21) rfl (by kernel_rfl) (by kernel_rfl) (by kernel_rfl) (fun _ _ _ h => h) (Or.inl ⟨by rfl, ?hyc21⟩) (by assumption) ?restc21
  case hyc21 => (intro w hSw; (try dsimp only at hSw); go_simp <;> with_reducible rfl)
  simp only [Act.put, List.getElem_toArray, List.getElem_cons_zero, List.getElem_cons_succ, List.setIfInBounds_toArray, List.set_cons_zero, List.set_cons_succ]
  refine wpAnyH_take (i := 21) (oi := _) (v := ?vc22) rfl (by kernel_rfl) (by kernel_rfl) (by kernel_rfl) (fun _ _ _ h => h) (Or.inl ⟨by rfl, ?hyc22⟩) (by assumption) ?restc22
  case hyc22 => (intro w hSw; (try dsimp only at hSw); go_simp <;> with_reducible rfl)
  simp only [Act.put, List.getElem_toArray, List.getElem_cons_zero, List.getElem_cons_succ, List.setIfInBounds_toArray, List.set_cons_zero, List.set_cons_succ]
  refine wpAnyH_ready (rs := [22]) (by kernel_rfl) (by simp) ?_
  refine AllReadyH.cons (o := _) rfl (fun K hK => ?_) AllReadyH.nil
  go_simp
  refine hK.out _ _ ?hSc23 (fun hHeldc23 => ?restc23)
  case hSc23 => exact kept0 2 (by omega) (kept0 1 (by omega) hc0)
  clear hK K
  try simp only [Act.put, List.getElem_toArray, List.getElem_cons_zero, List.getElem_cons_succ, List.setIfInBounds_toArray, List.set_cons_zero, List.set_cons_succ]
  refine wpAnyH_done (by kernel_rfl) ?_ _
  go_wp2_with fail
  go_ret
  exact ⟨rfl, ((Row.set (w := w.drew) Hrow.out 1 _).set 2 _), ((Aside.refl g w).drew.set 1 _).set 2 _⟩


set_option maxRecDepth 100000 in
set_option maxHeartbeats 1000000 in
theorem listF_zero (g : Nat) (A : Option Addr) (l : List UInt8) (n cap : Nat) (p most q : Int) (F : Value) (ty : TypeId) (w : World) (hrow : Row w g #[.slice A n cap, .int .i64 p, .int .i64 0] ty)
    (hn : n = l.length) (hnc : n ≤ cap) (hm : cap ≤ maxLen) (ha0 : -9223372036854775808 ≤ p) (ha1 : p ≤ 9223372036854775807) (hr : Rds w A (cells8 l)) (hg : getS l p = (0, q, 0)) (h1 : 0 ≤ most) :
    Calls Tryz.prog 107 #[.pointer (some ⟨g, 0, none⟩), .int .i64 most, F] w (GivesR g A n cap ty w (.slice none 0 0) q 0) := by
  have hnx := readNum_any g A l n cap p most 6 0 q ty w hrow hn hnc hm ha0 ha1 hr hg (by omega) h1
  have Hnx := Lib.hid hnx
  clear hnx hn hnc hm hr hrow hg h1
  go_enter Tryz.func107, Tryz.ntmps107
  go_wp2_with fail
  refine Calls.mono Hnx.out ?_
  rintro ee w3 ⟨rfl, hrow3, ha3⟩
  have H3 := Lib.hid hrow3
  have A3 := Lib.hid ha3
  clear hrow3 ha3
  go_wp2_with fail
  go_loopw [7, 11] (fun l i wr => l = .slice none 0 0 ∧ i = .int .i64 0 ∧ w3 = wr) (fun _ _ _ => 0)
  case atStart => exact ⟨rfl, rfl, rfl⟩
  case round =>
    obtain ⟨rfl, rfl, rfl⟩ := hrel
    go_wp2_with fail
    go_ret
    exact ⟨rfl, H3.out, A3.out⟩

set_option maxRecDepth 100000 in
set_option maxHeartbeats 1000000 in
theorem listM_zero (g : Nat) (A : Option Addr) (l : List UInt8) (n cap : Nat) (p most q : Int) (F : Value) (ty : TypeId) (w : World) (hrow : Row w g #[.slice A n cap, .int .i64 p, .int .i64 0] ty)
    (hn : n = l.length) (hnc : n ≤ cap) (hm : cap ≤ maxLen) (ha0 : -9223372036854775808 ≤ p) (ha1 : p ≤ 9223372036854775807) (hr : Rds w A (cells8 l)) (hg : getS l p = (0, q, 0)) (h1 : 0 ≤ most) :
    Calls Tryz.prog 109 #[.pointer (some ⟨g, 0, none⟩), .int .i64 most, F] w (GivesR g A n cap ty w (.slice none 0 0) q 0) := by
  have hnx := readNum_any g A l n cap p most 6 0 q ty w hrow hn hnc hm ha0 ha1 hr hg (by omega) h1
  have Hnx := Lib.hid hnx
  clear hnx hn hnc hm hr hrow hg h1
  go_enter Tryz.func109, Tryz.ntmps109
  go_wp2_with fail
  refine Calls.mono Hnx.out ?_
  rintro ee w3 ⟨rfl, hrow3, ha3⟩
  have H3 := Lib.hid hrow3
  have A3 := Lib.hid ha3
  clear hrow3 ha3
  go_wp2_with fail
  go_loopw [7, 11] (fun l i wr => l = .slice none 0 0 ∧ i = .int .i64 0 ∧ w3 = wr) (fun _ _ _ => 0)
  case atStart => exact ⟨rfl, rfl, rfl⟩
  case round =>
    obtain ⟨rfl, rfl, rfl⟩ := hrel
    go_wp2_with fail
    go_ret
    exact ⟨rfl, H3.out, A3.out⟩

/-- no constants, as bytes behind others -/
theorem putAll_nil (A : Option Addr) (l : List UInt8) (m cap c : Nat) (w : World) (hm : m = l.length) (hlen : m ≤ 1000) (hr : Rds w A (cells8 l)) :
    Calls Tryz.prog 42 #[.slice A m cap, .slice none 0 c] w fun e w' => ∃ v, e = .returned (.tuple #[v, .int .i64 0]) ∧ Own8 w' w.heap.size v (l ++ [0]) ∧ Below w.heap.size w w' := by
  have hput := fun (W : World) (hr : Rds W A (cells8 l)) => put_any A l m cap 0 W hm (by omega) (by omega) (by omega) hr
  rw [show num 0 = [0] from by decide] at hput
  have Hput := Lib.hid hput
  have Hr := Lib.hid hr
  clear hput hr hm hlen
  go_enter Tryz.func42, Tryz.ntmps42
  go_wp2_with fail
  go_loopw [7, 16] (fun _ i wr => i = .int .i64 0 ∧ w = wr) (fun _ _ _ => 0)
  case atStart => exact ⟨rfl, rfl⟩
  case round =>
    obtain ⟨rfl, rfl⟩ := hrel
    go_wp2_with fail
    refine Calls.mono (twoAlike_nil _ c) ?_
    rintro ee w3 ⟨rfl, rfl⟩
    go_wp2_with fail
    refine Calls.mono (Hput.out _ Hr.out) ?_
    rintro ee w3 ⟨v3, rfl, hown3, hb3⟩
    have H3 := Lib.hid hown3
    have B3 := Lib.hid hb3
    clear hown3 hb3
    go_wp2_with fail
    go_loopw [8, 10, 32] (fun v _ i wr => v = v3 ∧ i = .int .i64 0 ∧ w3 = wr) (fun _ _ _ _ => 0)
    case atStart => exact ⟨rfl, rfl, rfl⟩
    case round =>
      obtain ⟨rfl, rfl, rfl⟩ := hrel
      go_wp2_with fail
      go_ret2
      exact ⟨_, rfl, H3.out, B3.out⟩

end Part
end Go.Proofs.YthkkcecfenohjaaGreatDoor
