/-
  Where a constant stands: the document's own Find: what it returns.
-/
import Derived.Test.YtnkkeifjggcncaaDoorPoolJ
import Derived.Test.YtnkkeifjggcncaaDoorPoolB
namespace Go.Proofs.YtnkkeifjggcncaaDoor
namespace PoolK
open Go.RowKit Base BinM Stru PoolM PoolA PoolB

/-- the first place at which a constant stands -/
def findC : List Cst → Cst → Int
  | [], _ => -1
  | x :: r, c => if sameC x c = true then 0 else if findC r c = -1 then -1 else findC r c + 1
theorem find_ge (l : List Cst) (c : Cst) : -1 ≤ findC l c := by
  induction l with
  | nil => simp [findC]
  | cons x r ih => unfold findC; split; · omega
                   · split <;> omega
theorem find_none : ∀ {l : List Cst} {c : Cst}, (∀ x ∈ l, x ≠ c) → findC l c = -1
  | [], _, _ => rfl
  | x :: r, c, h => by
    unfold findC
    rw [if_neg (fun e => h x (by simp) ((same_iff _ _).1 e)), if_pos (find_none (fun y hy => h y (by simp [hy])))]
theorem find_at : ∀ {l : List Cst} {c : Cst} {j : Nat} (hj : j < l.length), (∀ x ∈ l.take j, x ≠ c) → l[j] = c → findC l c = (j : Int)
  | [], _, _, hj, _, _ => by simp at hj
  | x :: r, c, 0, _, _, e => by
    have e : x = c := e
    unfold findC
    rw [if_pos ((same_iff _ _).2 e)]; rfl
  | x :: r, c, j + 1, hj, h, e => by
    have ih := find_at (l := r) (c := c) (j := j) (by simpa using hj) (fun y hy => h y (by simp [hy])) e
    unfold findC
    rw [if_neg (fun e2 => h x (by simp) ((same_iff _ _).1 e2)), if_neg (by rw [ih]; omega), ih]
    omega

set_option maxRecDepth 100000 in
set_option maxHeartbeats 1000000 in
theorem refFind_any (A : Option Addr) (l : List Cst) (m c : Nat) (k n : Int) (s t u : List UInt8) (w : World) (h : IsCsts w A m c l) :
    Calls Tryd.prog 18 #[.slice A m c, .agg #[.int .i64 k, .int .i64 n, .string ⟨s.toArray⟩, .string ⟨t.toArray⟩, .string ⟨u.toArray⟩]] w fun e w' => e = .returned (.int .i64 (findC l ⟨k, n, s, t, u⟩)) ∧ Below w.heap.size w w' := by
  have hml : l.length ≤ m := Nat.le_of_eq h.len.symm
  have hml2 : m ≤ l.length := Nat.le_of_eq h.len
  have hmx : m ≤ maxLen := Nat.le_trans h.le h.max
  unfold maxLen at hmx
  have HB := Lib.hid ((Below.refl w.heap.size w).alloc (Nat.le_refl _) (.cells #[.int .i64 k, .int .i64 n, .string ⟨s.toArray⟩, .string ⟨t.toArray⟩, .string ⟨u.toArray⟩] 24))
  have Hr := Lib.hid (h.rds.below HB.out)
  have Hbox := Lib.hid (boxC.new w k n s t u 24)
  clear h
  go_enter Tryd.func18, Tryd.ntmps18
  go_wp2_with fail
  go_loopw [5] (fun i wr => ∃ j : Nat, j ≤ m ∧ i = .int .i64 j ∧ (∀ x ∈ l.take j, x ≠ ⟨k, n, s, t, u⟩) ∧ Below (w.alloc (.cells #[.int .i64 k, .int .i64 n, .string ⟨s.toArray⟩, .string ⟨t.toArray⟩, .string ⟨u.toArray⟩] 24)).heap.size (w.alloc (.cells #[.int .i64 k, .int .i64 n, .string ⟨s.toArray⟩, .string ⟨t.toArray⟩, .string ⟨u.toArray⟩] 24)) wr) (fun i _ => m - (intOf i).toNat)
  case atStart => exact ⟨0, Nat.zero_le _, rfl, by simp, Below.refl _ _⟩
  case round =>
    obtain ⟨j, hj, rfl, hno, hbel⟩ := hrel
    have Hno := Lib.hid hno
    have Hbel := Lib.hid (HB.out.trans (hbel.mono (by simp)))
    have Hbel0 := Lib.hid hbel
    obtain ⟨hc0, hc1, hc2, hc3, hc4⟩ := boxC.below Hbox.out hbel (by simp)
    clear hno
    by_cases hlt : j < m
    · have hja : j < l.length := by omega
      obtain ⟨b1, o1, rfl, hb1, hd0, hd1, hd2, hd3, hd4⟩ := csts_at (Hr.out.below hbel) hja
      have hj1 : (j : Int) < (m : Int) := by omega
      have hj0 : (0 : Int) ≤ (j : Int) := by omega
      have hg := guard_cst
      have hne := eql_cst l[j].kind l[j].n k n l[j].s l[j].t l[j].u s t u
      clear hbel
      cases hx : sameC l[j] ⟨k, n, s, t, u⟩
      · have Hno2 := Lib.hid (show ∀ x ∈ l.take (j + 1), x ≠ ⟨k, n, s, t, u⟩ by
          intro x hm
          rw [List.take_succ_eq_append_getElem hja, List.mem_append] at hm
          rcases hm with hm | hm
          · exact Hno.out x hm
          · simp at hm
            subst hm
            intro e
            have e2 := (same_iff _ _).2 e
            first | (rw [hx] at e2; cases e2) | (rw [← e, same_refl] at hx; cases hx) | (rw [e, same_refl] at hx; cases hx))
        replace hne := fun W => (hne W).trans (by rw [hx] : _ = Result.ok (.bool false) W)
        clear hx
        generalize l[j] = x at *
        obtain ⟨x0, x1, x2, x3, x4⟩ := x
        simp only at hd0 hd1 hd2 hd3 hd4 hne
        go_wp2_with fail
        go_quiet (fail)
        go_wp2_with fail
        go_roundw
        case rel => exact ⟨j + 1, by omega, by go_num, Hno2.out, drawn Hbel0.out _⟩
        case measure => simp [intOf]; omega
      · have Hfin := Lib.hid (show findC l ⟨k, n, s, t, u⟩ = (j : Int) by
          have e := (same_iff _ _).1 hx
          exact find_at hja Hno.out (by first | exact e | exact e.symm))
        replace hne := fun W => (hne W).trans (by rw [hx] : _ = Result.ok (.bool true) W)
        clear hx
        generalize l[j] = x at *
        obtain ⟨x0, x1, x2, x3, x4⟩ := x
        simp only at hd0 hd1 hd2 hd3 hd4 hne
        go_wp2_with fail
        go_quiet (fail)
        go_wp2_with fail
        go_ret
        exact ⟨by rw [Hfin.out]; rfl, drawn Hbel.out _⟩
    · have Hfin := Lib.hid (show findC l ⟨k, n, s, t, u⟩ = -1 by
        have h := Hno.out
        rw [List.take_of_length_le (by omega)] at h
        exact find_none h)
      go_wp2_with fail
      go_ret
      exact ⟨by rw [Hfin.out]; rfl, Hbel.out⟩

set_option maxRecDepth 100000 in
set_option maxHeartbeats 1000000 in
theorem index_any (A : Option Addr) (l : List Cst) (m c : Nat) (k n : Int) (s t u : List UInt8) (w : World) (h : IsCsts w A m c l) :
    Calls Tryd.prog 41 #[.slice A m c, .agg #[.int .i64 k, .int .i64 n, .string ⟨s.toArray⟩, .string ⟨t.toArray⟩, .string ⟨u.toArray⟩]] w fun e w' => e = .returned (.int .i64 (findC l ⟨k, n, s, t, u⟩)) ∧ Below w.heap.size w w' := by
  have hml : l.length ≤ m := Nat.le_of_eq h.len.symm
  have hml2 : m ≤ l.length := Nat.le_of_eq h.len
  have hmx : m ≤ maxLen := Nat.le_trans h.le h.max
  unfold maxLen at hmx
  have HB := Lib.hid ((Below.refl w.heap.size w).alloc (Nat.le_refl _) (.cells #[.int .i64 k, .int .i64 n, .string ⟨s.toArray⟩, .string ⟨t.toArray⟩, .string ⟨u.toArray⟩] 24))
  have Hr := Lib.hid (h.rds.below HB.out)
  have Hbox := Lib.hid (boxC.new w k n s t u 24)
  clear h
  go_enter Tryd.func41, Tryd.ntmps41
  go_wp2_with fail
  go_loopw [5, 8] (fun _ i wr => ∃ j : Nat, j ≤ m ∧ i = .int .i64 j ∧ (∀ x ∈ l.take j, x ≠ ⟨k, n, s, t, u⟩) ∧ Below (w.alloc (.cells #[.int .i64 k, .int .i64 n, .string ⟨s.toArray⟩, .string ⟨t.toArray⟩, .string ⟨u.toArray⟩] 24)).heap.size (w.alloc (.cells #[.int .i64 k, .int .i64 n, .string ⟨s.toArray⟩, .string ⟨t.toArray⟩, .string ⟨u.toArray⟩] 24)) wr) (fun _ i _ => m - (intOf i).toNat)
  case atStart => exact ⟨0, Nat.zero_le _, rfl, by simp, Below.refl _ _⟩
  case round =>
    obtain ⟨j, hj, rfl, hno, hbel⟩ := hrel
    have Hno := Lib.hid hno
    have Hbel := Lib.hid (HB.out.trans (hbel.mono (by simp)))
    have Hbel0 := Lib.hid hbel
    obtain ⟨hc0, hc1, hc2, hc3, hc4⟩ := boxC.below Hbox.out hbel (by simp)
    clear hno
    by_cases hlt : j < m
    · have hja : j < l.length := by omega
      obtain ⟨b1, o1, rfl, hb1, hd0, hd1, hd2, hd3, hd4⟩ := csts_at (Hr.out.below hbel) hja
      have hj1 : (j : Int) < (m : Int) := by omega
      have hj0 : (0 : Int) ≤ (j : Int) := by omega
      have hg := guard_cst
      have hne := eql_cst k n l[j].kind l[j].n s t u l[j].s l[j].t l[j].u
      clear hbel
      cases hx : sameC ⟨k, n, s, t, u⟩ l[j]
      · have Hno2 := Lib.hid (show ∀ x ∈ l.take (j + 1), x ≠ ⟨k, n, s, t, u⟩ by
          intro x hm
          rw [List.take_succ_eq_append_getElem hja, List.mem_append] at hm
          rcases hm with hm | hm
          · exact Hno.out x hm
          · simp at hm
            subst hm
            intro e
            have e2 := (same_iff _ _).2 e
            first | (rw [hx] at e2; cases e2) | (rw [← e, same_refl] at hx; cases hx) | (rw [e, same_refl] at hx; cases hx))
        replace hne := fun W => (hne W).trans (by rw [hx] : _ = Result.ok (.bool false) W)
        clear hx
        generalize l[j] = x at *
        obtain ⟨x0, x1, x2, x3, x4⟩ := x
        simp only at hd0 hd1 hd2 hd3 hd4 hne
        go_wp2_with fail
        go_quiet (fail)
        go_wp2_with fail
        go_roundw
        case rel => exact ⟨j + 1, by omega, by go_num, Hno2.out, drawn Hbel0.out _⟩
        case measure => simp [intOf]; omega
      · have Hfin := Lib.hid (show findC l ⟨k, n, s, t, u⟩ = (j : Int) by
          have e := (same_iff _ _).1 hx
          exact find_at hja Hno.out (by first | exact e | exact e.symm))
        replace hne := fun W => (hne W).trans (by rw [hx] : _ = Result.ok (.bool true) W)
        clear hx
        generalize l[j] = x at *
        obtain ⟨x0, x1, x2, x3, x4⟩ := x
        simp only at hd0 hd1 hd2 hd3 hd4 hne
        go_wp2_with fail
        go_quiet (fail)
        go_wp2_with fail
        go_ret
        exact ⟨by rw [Hfin.out]; rfl, drawn Hbel.out _⟩
    · have Hfin := Lib.hid (show findC l ⟨k, n, s, t, u⟩ = -1 by
        have h := Hno.out
        rw [List.take_of_length_le (by omega)] at h
        exact find_none h)
      go_wp2_with fail
      go_ret
      exact ⟨by rw [Hfin.out]; rfl, Hbel.out⟩

set_option maxRecDepth 100000 in
theorem find_any (A : Option Addr) (l : List Cst) (m c : Nat) (k n : Int) (s t u : List UInt8) (w : World) (h : IsCsts w A m c l) :
    Calls Tryd.prog 17 #[.slice A m c, .agg #[.int .i64 k, .int .i64 n, .string ⟨s.toArray⟩, .string ⟨t.toArray⟩, .string ⟨u.toArray⟩]] w fun e w' => e = .returned (.int .i64 (findC l ⟨k, n, s, t, u⟩)) ∧ Below w.heap.size w w' := by
  have HB := Lib.hid ((Below.refl w.heap.size w).alloc (Nat.le_refl _) (.cells #[.int .i64 k, .int .i64 n, .string ⟨s.toArray⟩, .string ⟨t.toArray⟩, .string ⟨u.toArray⟩] 24))
  have Hc := Lib.hid (IsCsts.below h HB.out)
  clear h
  go_enter Tryd.func17, Tryd.ntmps17
  go_wp2_with fail
  refine (index_any A l m c k n s t u _ Hc.out).mono ?_
  rintro e w1 ⟨rfl, hb1⟩
  have Hb1 := Lib.hid (HB.out.trans (hb1.mono (by simp)))
  clear hb1
  go_wp2_with fail
  go_ret
  exact ⟨rfl, Hb1.out⟩

end PoolK
end Go.Proofs.YtnkkeifjggcncaaDoor
