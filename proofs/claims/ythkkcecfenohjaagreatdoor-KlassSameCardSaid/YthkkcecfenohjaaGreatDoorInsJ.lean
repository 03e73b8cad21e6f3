/-
  Two codes held against each other: what the document's Same returns.
-/
import Derived.Test.YthkkcecfenohjaaGreatDoorStru
import Derived.Test.YthkkcecfenohjaaGreatDoorInsA
import Derived.Outline
import Derived.Deep.QuietTactic
import Derived.BigQuiet
import Derived.Laws.StructEq
namespace Go.Proofs.YthkkcecfenohjaaGreatDoor
namespace InsJ
open Go.RowKit Base Stru InsA


/-- two instructions, held against each other -/
theorem eq_ins (a b c d : Int) (W : World) : (Op.equalIn 10000 95 (.agg #[.int .i64 a, .int .i64 b]) (.agg #[.int .i64 c, .int .i64 d])).run Tryz.prog W = .ok (a == c && b == d) W := by
  have u3 := Tryz.underlying3
  have a3 := Tryz.isAgg3
  have z3 := Tryz.sizeOf3
  have hS : Tryz.prog.underlying 95 = some (.struct (Tryz.prog.fieldsOf 95)) := by kernel_rfl
  have hp : Tryz.prog.stoodInHeld 95 = false := by kernel_rfl
  rw [show (10000 : Nat) = 9999 + 1 from rfl, run_equalIn_agg W 9999 95 _ _ hS hp]
  simp only [Program.fieldsOf, Tryz.underlying95]
  go_simp
  by_cases h1 : a = c <;> by_cases h2 : b = d <;> simp [h1, h2]

theorem neq_ins (a b c d : Int) (W : World) : (binOp .neq 95 (.agg #[.int .i64 a, .int .i64 b]) (.agg #[.int .i64 c, .int .i64 d])).run Tryz.prog W = .ok (.bool (!(a == c && b == d))) W := by
  rw [run_neq_struct, eq_ins]; rfl
theorem guard_ins : Tryz.prog.eqGuardType Tryz.prog.depth 95 = false := by kernel_rfl

set_option maxRecDepth 100000 in
set_option maxHeartbeats 1000000 in
theorem same_any (A B : Option Addr) (a b : List InsT) (m k c d : Nat) (w : World) (hm : m = a.length) (hk : k = b.length) (hmx : m ≤ maxLen) (hr : Rds w A (a.flatMap insV)) (hr2 : Rds w B (b.flatMap insV)) :
    Calls Tryz.prog 85 #[.slice A m c, .slice B k d] w fun e w' => e = .returned (.bool (decide (a = b))) ∧ Below w.heap.size w w' := by
  have hml : a.length ≤ m := Nat.le_of_eq hm.symm
  have hml2 : m ≤ a.length := Nat.le_of_eq hm
  have hkl : b.length ≤ k := Nat.le_of_eq hk.symm
  have hkl2 : k ≤ b.length := Nat.le_of_eq hk
  have Hr := Lib.hid hr
  have Hr2 := Lib.hid hr2
  unfold maxLen at hmx
  clear hm hk hr hr2
  by_cases hmk : m = k
  · have hb : ((m : Int) != (k : Int)) = false := by rw [hmk]; simp
    have hkm : k ≤ m := by omega
    have hmk' : m ≤ k := by omega
    clear hmk
    go_enter Tryz.func85, Tryz.ntmps85
    go_wp2_with fail
    go_loopw [5] (fun i wr => ∃ j : Nat, j ≤ m ∧ i = .int .i64 j ∧ a.take j = b.take j ∧ Below w.heap.size w wr) (fun i _ => m - (intOf i).toNat)
    case atStart => exact ⟨0, Nat.zero_le _, rfl, rfl, Below.refl _ _⟩
    case round =>
      obtain ⟨j, hj, rfl, hsame, hbel⟩ := hrel
      have Hsame := Lib.hid hsame
      have Hbel := Lib.hid hbel
      clear hsame
      by_cases hlt : j < m
      · have hja : j < a.length := by omega
        have hjb : j < b.length := by omega
        obtain ⟨b1, o1, rfl, hb1, hc1, hc1'⟩ := code_at (Hr.out.below hbel) hja
        obtain ⟨b2, o2, rfl, hb2, hc2, hc2'⟩ := code_at (Hr2.out.below hbel) hjb
        have e1 : a.take (j + 1) = a.take j ++ [a[j]] := List.take_succ_eq_append_getElem hja
        have e2 : b.take (j + 1) = b.take j ++ [b[j]] := List.take_succ_eq_append_getElem hjb
        have hj1 : (j : Int) < (m : Int) := by omega
        have hj2 : (j : Int) < (k : Int) := by omega
        have hj0 : (0 : Int) ≤ (j : Int) := by omega
        have hg := guard_ins
        have hne := neq_ins a[j].1 a[j].2 b[j].1 b[j].2
        clear hbel
        cases hx : (a[j].1 == b[j].1 && a[j].2 == b[j].2)
        · have Hfin := Lib.hid (show decide (a = b) = false by
            rw [decide_eq_false_iff_not]
            intro h
            have : a[j] = b[j] := by subst h; rfl
            rw [this] at hx
            simp at hx)
          rw [hx] at hne
          clear e1 e2 hx
          generalize a[j] = x at *
          generalize b[j] = y at *
          obtain ⟨x0, x1⟩ := x
          obtain ⟨y0, y1⟩ := y
          simp only at hc1 hc1' hc2 hc2' hne
          go_wp2_with fail
          go_quiet (fail)
          go_wp2_with fail
          go_ret
          exact ⟨by rw [Hfin.out]; rfl, drawn Hbel.out _⟩
        · have hxy : a[j] = b[j] := by
            simp only [Bool.and_eq_true, beq_iff_eq] at hx
            exact Prod.ext hx.1 hx.2
          have Hnext := Lib.hid (show a.take (j + 1) = b.take (j + 1) by rw [e1, e2, Hsame.out, hxy])
          rw [hx] at hne
          clear e1 e2 hx hxy
          generalize a[j] = x at *
          generalize b[j] = y at *
          obtain ⟨x0, x1⟩ := x
          obtain ⟨y0, y1⟩ := y
          simp only at hc1 hc1' hc2 hc2' hne
          go_wp2_with fail
          go_quiet (fail)
          go_wp2_with fail
          go_roundw
          case rel => exact ⟨j + 1, by omega, by go_num, Hnext.out, drawn Hbel.out _⟩
          case measure => simp [intOf]; omega
      · have Hfin := Lib.hid (show decide (a = b) = true by
          have h := Hsame.out
          rw [List.take_of_length_le (by omega), List.take_of_length_le (by omega)] at h
          simp [h])
        go_wp2_with fail
        go_ret
        exact ⟨by rw [Hfin.out]; rfl, hbel⟩
  · have hb : ((m : Int) != (k : Int)) = true := by simp; omega
    have Hfin := Lib.hid (show decide (a = b) = false by
      rw [decide_eq_false_iff_not]
      rintro rfl
      omega)
    clear hmk
    go_enter Tryz.func85, Tryz.ntmps85
    go_wp2_with fail
    go_ret
    exact ⟨by rw [Hfin.out]; rfl, Below.refl _ _⟩

end InsJ
end Go.Proofs.YthkkcecfenohjaaGreatDoor
