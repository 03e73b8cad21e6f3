/-
  The document's own hierarchies: how they lie in memory, and what their calls return.
-/
import Derived.Test.YtdebambmcjcopaaGreatDoorHierW
import Derived.Test.YtdebambmcjcopaaGreatDoorHierG
namespace Go.Proofs.YtdebambmcjcopaaGreatDoor
namespace HierR
open Go.RowKit BinM Base Stru DescM DescW DescX HierS HierT HierM HierC HierK HierN HierV HierW HierG
open BinName (ret_bool)

set_option maxHeartbeats 1000000 in
/-- two lists of texts, held against each other -/
theorem texts_any (A B : Option Addr) (a b : List (List UInt8)) (m k c d : Nat) (w : World) (hm : m = a.length) (hk : k = b.length) (hmx : m ≤ maxLen) (hr : Rds w A (a.map sv)) (hr2 : Rds w B (b.map sv)) :
    Calls Tryz.prog 14 #[.slice A m c, .slice B k d] w fun e w' => e = .returned (.bool (decide (a = b))) ∧ Below w.heap.size w w' := by
  have hml : a.length ≤ m := Nat.le_of_eq hm.symm
  have hml2 : m ≤ a.length := Nat.le_of_eq hm
  have hkl : b.length ≤ k := Nat.le_of_eq hk.symm
  have hkl2 : k ≤ b.length := Nat.le_of_eq hk
  have Hr := Lib.hid hr
  have Hr2 := Lib.hid hr2
  unfold maxLen at hmx
  clear hm hk hr hr2
  by_cases hmk : m = k
  · have hb : ((m : Int) != (k : Int)) = false := by rw [hmk]; simp
    have hkm : k ≤ m := by omega
    have hmk' : m ≤ k := by omega
    clear hmk
    go_enter Tryz.func14, Tryz.ntmps14
    go_wp2_with fail
    go_loopw [5] (fun i wr => ∃ j : Nat, j ≤ m ∧ i = .int .i64 j ∧ a.take j = b.take j ∧ Below w.heap.size w wr) (fun i _ => m - (intOf i).toNat)
    case atStart => exact ⟨0, Nat.zero_le _, rfl, rfl, Below.refl _ _⟩
    case round =>
      obtain ⟨j, hj, rfl, hsame, hbel⟩ := hrel
      have Hsame := Lib.hid hsame
      have Hbel := Lib.hid hbel
      clear hsame
      by_cases hlt : j < m
      · obtain ⟨b1, o1, rfl, hb1, hcell1⟩ := (Hr.out.below hbel).at_ (k := j) (by simp; omega)
        obtain ⟨b2, o2, rfl, hb2, hcell2⟩ := (Hr2.out.below hbel).at_ (k := j) (by simp; omega)
        have hja : j < a.length := by omega
        have hjb : j < b.length := by omega
        have hc1 : wr.cell? ⟨b1, o1 + j, none⟩ = some (.string ⟨a[j].toArray⟩) := by rw [hcell1]; simp [sv]
        have hc2 : wr.cell? ⟨b2, o2 + j, none⟩ = some (.string ⟨b[j].toArray⟩) := by rw [hcell2]; simp [sv]
        have e1 : a.take (j + 1) = a.take j ++ [a[j]] := List.take_succ_eq_append_getElem hja
        have e2 : b.take (j + 1) = b.take j ++ [b[j]] := List.take_succ_eq_append_getElem hjb
        have hj1 : (j : Int) < (m : Int) := by omega
        have hj2 : (j : Int) < (k : Int) := by omega
        have hj0 : (0 : Int) ≤ (j : Int) := by omega
        clear hcell1 hcell2 hbel
        cases hx : a[j] == b[j]
        · have Hfin := Lib.hid (show decide (a = b) = false by
            rw [decide_eq_false_iff_not]
            intro h
            have : a[j] = b[j] := by subst h; rfl
            rw [this] at hx
            simp at hx)
          have hx' : (a[j] != b[j]) = true := by rw [bne, hx]; rfl
          clear e1 e2
          generalize a[j] = x at *
          generalize b[j] = y at *
          go_wp2_with fail
          go_quiet (fail)
          go_wp2_with fail
          go_ret
          exact ⟨by rw [Hfin.out]; rfl, drawn Hbel.out _⟩
        · have Hnext := Lib.hid (show a.take (j + 1) = b.take (j + 1) by rw [e1, e2, Hsame.out, eq_of_beq hx])
          have hx' : (a[j] != b[j]) = false := by rw [bne, hx]; rfl
          clear e1 e2
          generalize a[j] = x at *
          generalize b[j] = y at *
          go_wp2_with fail
          go_quiet (fail)
          go_wp2_with fail
          go_roundw
          case rel => exact ⟨j + 1, by omega, by go_num, Hnext.out, drawn Hbel.out _⟩
          case measure => simp [intOf]; omega
      · have Hfin := Lib.hid (show decide (a = b) = true by
          rw [decide_eq_true_iff]
          have h := Hsame.out
          rwa [List.take_of_length_le (by omega), List.take_of_length_le (by omega)] at h)
        go_wp2_with fail
        go_ret
        exact ⟨by rw [Hfin.out]; rfl, Hbel.out⟩
  · have hb : ((m : Int) != (k : Int)) = true := by rw [bne_iff_ne]; omega
    have Hfin := Lib.hid (show decide (a = b) = false by
      rw [decide_eq_false_iff_not]
      intro h
      apply hmk
      subst h; omega)
    clear hmk
    go_enter Tryz.func14, Tryz.ntmps14
    go_wp2_with fail
    go_ret
    exact ⟨by rw [Hfin.out]; rfl, Below.refl _ _⟩

/-- the document's pairs of a hierarchy in memory, in blocks below B -/
structure IsR (B : Nat) (w : World) (g : Nat) (L : List P2) : Prop where
  cells : ∃ (A : Option Addr) (n c : Nat), w.heap[g]? = some (.cells #[.slice A n c] 137 (0, 0)) ∧ n = L.length ∧ n ≤ c ∧ c ≤ maxLen ∧ Rds w A (L.flatMap pv) ∧ (∀ a, A = some a → a.block < B)
  low : g < B
  few : L.length ≤ 41
theorem IsR.below {B : Nat} {w w' : World} {g : Nat} {L : List P2} (H : IsR B w g L) (hb : Below B w w') : IsR B w' g L := by
  obtain ⟨⟨A, n, c, h1, h2, h3, h4, h5, h6⟩, k2, k3⟩ := H
  exact ⟨⟨A, n, c, (hb.block g k2).trans h1, h2, h3, h4, h5.below_of hb h6, h6⟩, k2, k3⟩
theorem IsR.mono {B B' : Nat} {w : World} {g : Nat} {L : List P2} (H : IsR B w g L) (hb : B ≤ B') : IsR B' w g L := by
  obtain ⟨⟨A, n, c, h1, h2, h3, h4, h5, h6⟩, k2, k3⟩ := H
  exact ⟨⟨A, n, c, h1, h2, h3, h4, h5, fun a ha => Nat.lt_of_lt_of_le (h6 a ha) hb⟩, Nat.lt_of_lt_of_le k2 hb, k3⟩
theorem any_take_succ {L : List P2} {c : T} {k : Nat} (hk : k < L.length) (h : (L.take k).any (fun p => p.1 == c) = false) (h2 : (L[k].1 == c) = false) : (L.take (k + 1)).any (fun p => p.1 == c) = false := by
  rw [List.take_succ_eq_append_getElem hk, List.any_append, h]
  simp [h2]

def hasR (L : List P2) (c : T) : Bool := L.any fun p => p.1 == c
set_option maxRecDepth 100000 in
set_option maxHeartbeats 1000000 in
theorem hasR_any (B g : Nat) (L : List P2) (c : T) (w : World) (H : IsR B w g L) :
    Calls Tryz.prog 86 #[.pointer (some ⟨g, 0, none⟩), .string ⟨c.toArray⟩] w fun e w' => e = .returned (.bool (hasR L c)) ∧ w = w' := by
  obtain ⟨A, n, cap, h1, h2, h3, h4, h5, _⟩ := H.cells
  have hf := H.few
  have c0 : w.cell? ⟨g, 0, none⟩ = some (.slice A n cap) := cell_of_row _ _ _ _ _ (0, 0) h1
  have hnl : n ≤ L.length := Nat.le_of_eq h2
  have hnl2 : L.length ≤ n := Nat.le_of_eq h2.symm
  have Hrd := Lib.hid h5
  clear h1 h2 h3 h4 h5 H
  go_enter Tryz.func86, Tryz.ntmps86
  go_wp2_with fail
  go_loop [5] (fun i => ∃ k : Nat, k ≤ n ∧ i = .int .i64 k ∧ (L.take k).any (fun p => p.1 == c) = false) (fun i => n - (intOf i).toNat)
  case atStart => exact ⟨0, Nat.zero_le _, rfl, rfl⟩
  case round =>
    obtain ⟨k, hk, rfl, hno⟩ := hrel
    have Hno := Lib.hid hno
    clear hno
    by_cases hlt : k < n
    · have hkl : k < L.length := by omega
      obtain ⟨b, o, rfl, _, hc0, hc1⟩ := pv_at Hrd.out hkl
      have hk1 : (k : Int) < (n : Int) := by omega
      have hk0 : (0 : Int) ≤ (k : Int) := by omega
      cases hx : L[k].1 == c
      · have Hn := Lib.hid (any_take_succ hkl Hno.out hx)
        generalize L[k] = x at *
        obtain ⟨x1, x2⟩ := x
        simp only at hc0 hc1 hx
        go_wp2_with fail
        go_round
        case rel => exact ⟨k + 1, by omega, by go_num, Hn.out⟩
        case measure => simp [intOf]; omega
      · have Hfin := Lib.hid (show hasR L c = true by
          unfold hasR
          rw [List.any_eq_true]
          exact ⟨L[k], List.getElem_mem hkl, hx⟩)
        generalize L[k] = x at *
        obtain ⟨x1, x2⟩ := x
        simp only at hc0 hc1 hx
        go_wp2_with fail
        go_ret
        exact ⟨ret_bool (by rw [Hfin.out]), rfl⟩
    · have Hfin := Lib.hid (show hasR L c = false by have := Hno.out; rw [List.take_of_length_le (by omega)] at this; exact this)
      go_wp2_with fail
      go_ret
      exact ⟨ret_bool (by rw [Hfin.out]), rfl⟩

def supR (L : List P2) (c : T) : T × Bool := match L.find? fun p => p.1 == c with | some p => (p.2, !(c == objN)) | none => ([], false)
theorem find_at {L : List P2} {c : T} {k : Nat} (hk : k < L.length) (h : (L.take k).any (fun p => p.1 == c) = false) (h2 : (L[k].1 == c) = true) : L.find? (fun p => p.1 == c) = some L[k] := by
  have e0 : L.find? (fun p => p.1 == c) = (L.take k ++ L.drop k).find? (fun p => p.1 == c) := by rw [List.take_append_drop]
  rw [e0, List.find?_append]
  have e : (L.take k).find? (fun p => p.1 == c) = none := by
    rw [List.find?_eq_none]
    intro x hx he
    have : (L.take k).any (fun p => p.1 == c) = true := List.any_eq_true.2 ⟨x, hx, he⟩
    rw [h] at this; cases this
  rw [e, Option.none_or, List.drop_eq_getElem_cons hk]
  exact List.find?_cons_of_pos (p := fun p : P2 => p.1 == c) h2
set_option maxRecDepth 100000 in
set_option maxHeartbeats 1000000 in
theorem supR_any (B g : Nat) (L : List P2) (c : T) (q : T × Bool) (hq : supR L c = q) (w : World) (H : IsR B w g L) :
    Calls Tryz.prog 87 #[.pointer (some ⟨g, 0, none⟩), .string ⟨c.toArray⟩] w fun e w' => e = .returned (.tuple #[.string ⟨q.1.toArray⟩, .bool q.2]) ∧ w = w' := by
  subst hq
  obtain ⟨A, n, cap, h1, h2, h3, h4, h5, _⟩ := H.cells
  have hf := H.few
  have c0 : w.cell? ⟨g, 0, none⟩ = some (.slice A n cap) := cell_of_row _ _ _ _ _ (0, 0) h1
  have hnl : n ≤ L.length := Nat.le_of_eq h2
  have hnl2 : L.length ≤ n := Nat.le_of_eq h2.symm
  have Hrd := Lib.hid h5
  clear h1 h2 h3 h4 h5 H
  go_enter Tryz.func87, Tryz.ntmps87
  go_wp2_with fail
  go_loop [6] (fun i => ∃ k : Nat, k ≤ n ∧ i = .int .i64 k ∧ (L.take k).any (fun p => p.1 == c) = false) (fun i => n - (intOf i).toNat)
  case atStart => exact ⟨0, Nat.zero_le _, rfl, rfl⟩
  case round =>
    obtain ⟨k, hk, rfl, hno⟩ := hrel
    have Hno := Lib.hid hno
    clear hno
    by_cases hlt : k < n
    · have hkl : k < L.length := by omega
      obtain ⟨b, o, rfl, _, hc0, hc1⟩ := pv_at Hrd.out hkl
      have hk1 : (k : Int) < (n : Int) := by omega
      have hk0 : (0 : Int) ≤ (k : Int) := by omega
      cases hx : L[k].1 == c
      · have Hn := Lib.hid (any_take_succ hkl Hno.out hx)
        generalize L[k] = x at *
        obtain ⟨x1, x2⟩ := x
        simp only at hc0 hc1 hx
        go_wp2_with fail
        go_round
        case rel => exact ⟨k + 1, by omega, by go_num, Hn.out⟩
        case measure => simp [intOf]; omega
      · have Hfin := Lib.hid (show supR L c = (L[k].2, !(c == objN)) by
          unfold supR
          rw [find_at hkl Hno.out hx])
        generalize L[k] = x at *
        obtain ⟨x1, x2⟩ := x
        simp only at hc0 hc1 hx Hfin
        cases hO : c == [79, 98, 106, 101, 99, 116]
        · have hO' : (c != [79, 98, 106, 101, 99, 116]) = true := by rw [bne, hO]; rfl
          have Hfin2 := Lib.hid (show supR L c = (x2, true) by rw [Hfin.out]; show (x2, !(c == [79, 98, 106, 101, 99, 116])) = _; rw [hO]; rfl)
          go_wp2_with fail
          go_ret2
          exact ⟨retJ Hfin2.out, rfl⟩
        · have hO' : (c != [79, 98, 106, 101, 99, 116]) = false := by rw [bne, hO]; rfl
          have Hfin2 := Lib.hid (show supR L c = (x2, false) by rw [Hfin.out]; show (x2, !(c == [79, 98, 106, 101, 99, 116])) = _; rw [hO]; rfl)
          go_wp2_with fail
          go_ret2
          exact ⟨retJ Hfin2.out, rfl⟩
    · have Hfin := Lib.hid (show supR L c = ([], false) by
        have := Hno.out
        rw [List.take_of_length_le (by omega)] at this
        unfold supR
        rw [List.find?_eq_none.2]
        intro x hx he
        have h2 : L.any (fun p => p.1 == c) = true := List.any_eq_true.2 ⟨x, hx, he⟩
        rw [this] at h2; cases h2)
      go_wp2_with fail
      go_ret2
      exact ⟨retJ (t := []) Hfin.out, rfl⟩


end HierR
end Go.Proofs.YtdebambmcjcopaaGreatDoor
