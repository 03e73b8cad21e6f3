/-
  Readers of parts: Reader.Text, Reader.Number, lists of nothing, and pool.GetAll of nothing.
-/
import Derived.Test.YthkkcecfenohjaaGreatDoorPartN
import Derived.Test.YthkkcecfenohjaaGreatDoorPoolA
namespace Go.Proofs.YthkkcecfenohjaaGreatDoor
namespace Part
open Go.RowKit Base BinM BinE BinGet BinText

/-- what a call that reads on gives: a value, the reader's place and error -/
def GivesR (g : Nat) (A : Option Addr) (n cap : Nat) (ty : TypeId) (w : World) (v : Value) (q e : Int) (x : Ending) (w' : World) : Prop :=
  x = .returned v ∧ Row w' g #[.slice A n cap, .int .i64 q, .int .i64 e] ty ∧ Aside g w w'

set_option maxRecDepth 100000 in
set_option maxHeartbeats 1000000 in
theorem readText_any (g : Nat) (A : Option Addr) (l : List UInt8) (n cap : Nat) (p most : Int) (ty : TypeId) (w : World) (hrow : Row w g #[.slice A n cap, .int .i64 p, .int .i64 0] ty)
    (hn : n = l.length) (hnc : n ≤ cap) (hm : cap ≤ maxLen) (ha0 : -9223372036854775808 ≤ p) (ha1 : p ≤ 9223372036854775807) (hr : Rds w A (cells8 l)) :
    Calls Tryz.prog 138 #[.pointer (some ⟨g, 0, none⟩), .int .i64 most] w (GivesR g A n cap ty w (.string ⟨(getT l p most).1.toArray⟩) (getT l p most).2.1 (getT l p most).2.2) := by
  have hB := (Below.refl w.heap.size w).alloc (Nat.le_refl _) (.cells #[.int .i64 most] 3)
  have hbox : (w.alloc (.cells #[.int .i64 most] 3)).cell? ⟨w.heap.size, 0, none⟩ = some (.int .i64 most) := (Row.new w #[.int .i64 most] 3).cell 0
  have hnx := nextTxt_any g A l n cap p ty w.heap.size most _ (hrow.after hB) hn hnc hm ha0 ha1 (hr.below hB) hbox
  have ha := Lib.hid (Aside.of (g := g) hB (Nat.le_of_lt hrow.lt))
  have hne := Lib.hid hrow.lt
  generalize getT l p most = G at *
  obtain ⟨r, q, e⟩ := G
  simp only at hnx ⊢
  have Hnx := Lib.hid hnx
  clear hnx hbox hB hn hnc hm hr hrow
  go_enter Tryz.func138, Tryz.ntmps138
  go_wp2_with fail
  refine Calls.mono Hnx.out ?_
  rintro ee w3 ⟨rfl, hrow3, ha3⟩
  have H3 := Lib.hid hrow3
  have A3 := Lib.hid (ha.out.trans ha3)
  clear hrow3 ha3
  go_wp2_with fail
  go_ret
  exact ⟨rfl, H3.out, A3.out⟩

set_option maxRecDepth 100000 in
set_option maxHeartbeats 1000000 in
theorem text_klass (g : Nat) (A : Option Addr) (l : List UInt8) (n cap : Nat) (p : Int) (ty : TypeId) (w : World) (hrow : Row w g #[.slice A n cap, .int .i64 p, .int .i64 0] ty)
    (hn : n = l.length) (hnc : n ≤ cap) (hm : cap ≤ maxLen) (ha0 : -9223372036854775808 ≤ p) (ha1 : p ≤ 9223372036854775807) (hr : Rds w A (cells8 l)) :
    Calls Tryz.prog 104 #[.pointer (some ⟨g, 0, none⟩)] w (GivesR g A n cap ty w (.string ⟨(getT l p 256).1.toArray⟩) (getT l p 256).2.1 (getT l p 256).2.2) := by
  have hnx := readText_any g A l n cap p 256 ty w hrow hn hnc hm ha0 ha1 hr
  generalize getT l p 256 = G at *
  obtain ⟨r, q, e⟩ := G
  simp only at hnx ⊢
  have Hnx := Lib.hid hnx
  clear hnx hn hnc hm hr hrow
  go_enter Tryz.func104, Tryz.ntmps104
  go_wp2_with fail
  refine Calls.mono Hnx.out ?_
  rintro ee w3 ⟨rfl, hrow3, ha3⟩
  have H3 := Lib.hid hrow3
  have A3 := Lib.hid ha3
  clear hrow3 ha3
  go_wp2_with fail
  go_ret
  exact ⟨rfl, H3.out, A3.out⟩

set_option maxRecDepth 100000 in
set_option maxHeartbeats 1000000 in
/-- a number that stands there and is in bounds -/
theorem readNum_any (g : Nat) (A : Option Addr) (l : List UInt8) (n cap : Nat) (p most bad r q : Int) (ty : TypeId) (w : World) (hrow : Row w g #[.slice A n cap, .int .i64 p, .int .i64 0] ty)
    (hn : n = l.length) (hnc : n ≤ cap) (hm : cap ≤ maxLen) (ha0 : -9223372036854775808 ≤ p) (ha1 : p ≤ 9223372036854775807) (hr : Rds w A (cells8 l)) (hg : getS l p = (r, q, 0)) (h0 : 0 ≤ r) (h1 : r ≤ most) :
    Calls Tryz.prog 141 #[.pointer (some ⟨g, 0, none⟩), .int .i64 most, .int .i64 bad] w (GivesR g A n cap ty w (.int .i64 r) q 0) := by
  have hnx := nextNum_any g A l n cap p ty w hrow hn hnc hm ha0 ha1 hr
  rw [hg] at hnx
  simp only at hnx
  have Hnx := Lib.hid hnx
  have d0 : decide (r < 0) = false := by simp; omega
  have d1 : decide (most < r) = false := by simp; omega
  have d2 : ¬ r < 0 := by omega
  have d3 : ¬ most < r := by omega
  clear hnx hn hnc hm hr hrow hg
  go_enter Tryz.func141, Tryz.ntmps141
  go_wp2_with fail
  refine Calls.mono Hnx.out ?_
  rintro ee w3 ⟨rfl, hrow3, ha3⟩
  have H3 := Lib.hid hrow3
  have A3 := Lib.hid ha3
  clear hrow3 ha3
  go_wp2_with fail
  go_ret
  exact ⟨rfl, H3.out, A3.out⟩

end Part
end Go.Proofs.YthkkcecfenohjaaGreatDoor
