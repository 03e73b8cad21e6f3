/-
  The document's own Same, of constants: what it returns.
-/
import Derived.Test.YthkkcecfenohjaaGreatDoorPoolA
import Derived.Outline
import Derived.Deep.QuietTactic
import Derived.BigQuiet
import Derived.Laws.StructEq
namespace Go.Proofs.YthkkcecfenohjaaGreatDoor
namespace PoolJ
open Go.RowKit Base BinM Stru PoolM PoolA

instance : DecidableEq Cst := fun c d => decidable_of_iff (sameC c d = true) (same_iff c d)

set_option maxRecDepth 100000 in
set_option maxHeartbeats 1000000 in
theorem sameCs_any (A B : Option Addr) (a b : List Cst) (m k c d : Nat) (w : World) (hm : m = a.length) (hk : k = b.length) (hmx : m ≤ maxLen) (hr : Rds w A (a.flatMap Cst.vals)) (hr2 : Rds w B (b.flatMap Cst.vals)) :
    Calls Tryz.prog 61 #[.slice A m c, .slice B k d] w fun e w' => e = .returned (.bool (decide (a = b))) ∧ Below w.heap.size w w' := by
  have hml : a.length ≤ m := Nat.le_of_eq hm.symm
  have hml2 : m ≤ a.length := Nat.le_of_eq hm
  have hkl : b.length ≤ k := Nat.le_of_eq hk.symm
  have hkl2 : k ≤ b.length := Nat.le_of_eq hk
  have Hr := Lib.hid hr
  have Hr2 := Lib.hid hr2
  unfold maxLen at hmx
  clear hm hk hr hr2
  by_cases hmk : m = k
  · have hb : ((m : Int) != (k : Int)) = false := by rw [hmk]; simp
    have hkm : k ≤ m := by omega
    have hmk' : m ≤ k := by omega
    clear hmk
    go_enter Tryz.func61, Tryz.ntmps61
    go_wp2_with fail
    go_loopw [5] (fun i wr => ∃ j : Nat, j ≤ m ∧ i = .int .i64 j ∧ a.take j = b.take j ∧ Below w.heap.size w wr) (fun i _ => m - (intOf i).toNat)
    case atStart => exact ⟨0, Nat.zero_le _, rfl, rfl, Below.refl _ _⟩
    case round =>
      obtain ⟨j, hj, rfl, hsame, hbel⟩ := hrel
      have Hsame := Lib.hid hsame
      have Hbel := Lib.hid hbel
      clear hsame
      by_cases hlt : j < m
      · have hja : j < a.length := by omega
        have hjb : j < b.length := by omega
        obtain ⟨b1, o1, rfl, hb1, hc0, hc1, hc2, hc3, hc4⟩ := csts_at (Hr.out.below hbel) hja
        obtain ⟨b2, o2, rfl, hb2, hd0, hd1, hd2, hd3, hd4⟩ := csts_at (Hr2.out.below hbel) hjb
        have e1 : a.take (j + 1) = a.take j ++ [a[j]] := List.take_succ_eq_append_getElem hja
        have e2 : b.take (j + 1) = b.take j ++ [b[j]] := List.take_succ_eq_append_getElem hjb
        have hj1 : (j : Int) < (m : Int) := by omega
        have hj2 : (j : Int) < (k : Int) := by omega
        have hj0 : (0 : Int) ≤ (j : Int) := by omega
        have hg := guard_cst
        have hne := neq_cst a[j].kind a[j].n b[j].kind b[j].n a[j].s a[j].t a[j].u b[j].s b[j].t b[j].u
        clear hbel
        cases hx : sameC a[j] b[j]
        · have Hfin := Lib.hid (show decide (a = b) = false by
            rw [decide_eq_false_iff_not]
            intro h
            have : a[j] = b[j] := by subst h; rfl
            rw [this, same_refl] at hx
            cases hx)
          replace hne := fun W => (hne W).trans (by rw [hx]; rfl : _ = Result.ok (.bool true) W)
          clear e1 e2 hx
          generalize a[j] = x at *
          generalize b[j] = y at *
          obtain ⟨x0, x1, x2, x3, x4⟩ := x
          obtain ⟨y0, y1, y2, y3, y4⟩ := y
          simp only at hc0 hc1 hc2 hc3 hc4 hd0 hd1 hd2 hd3 hd4 hne
          go_wp2_with fail
          go_quiet (fail)
          go_wp2_with fail
          go_ret
          exact ⟨by rw [Hfin.out]; rfl, drawn Hbel.out _⟩
        · have hxy : a[j] = b[j] := by
            exact (same_iff _ _).1 hx
          have Hnext := Lib.hid (show a.take (j + 1) = b.take (j + 1) by rw [e1, e2, Hsame.out, hxy])
          replace hne := fun W => (hne W).trans (by rw [hx]; rfl : _ = Result.ok (.bool false) W)
          clear e1 e2 hx hxy
          generalize a[j] = x at *
          generalize b[j] = y at *
          obtain ⟨x0, x1, x2, x3, x4⟩ := x
          obtain ⟨y0, y1, y2, y3, y4⟩ := y
          simp only at hc0 hc1 hc2 hc3 hc4 hd0 hd1 hd2 hd3 hd4 hne
          go_wp2_with fail
          go_quiet (fail)
          go_wp2_with fail
          go_roundw
          case rel => exact ⟨j + 1, by omega, by go_num, Hnext.out, drawn Hbel.out _⟩
          case measure => simp [intOf]; omega
      · have Hfin := Lib.hid (show decide (a = b) = true by
          have h := Hsame.out
          rw [List.take_of_length_le (by omega), List.take_of_length_le (by omega)] at h
          simp [h])
        go_wp2_with fail
        go_ret
        exact ⟨by rw [Hfin.out]; rfl, hbel⟩
  · have hb : ((m : Int) != (k : Int)) = true := by simp; omega
    have Hfin := Lib.hid (show decide (a = b) = false by
      rw [decide_eq_false_iff_not]
      rintro rfl
      omega)
    clear hmk
    go_enter Tryz.func61, Tryz.ntmps61
    go_wp2_with fail
    go_ret
    exact ⟨by rw [Hfin.out]; rfl, Below.refl _ _⟩

end PoolJ
end Go.Proofs.YthkkcecfenohjaaGreatDoor
