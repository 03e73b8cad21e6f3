/-
  differ: whether addresses can be put; the program's Put.
-/
import Derived.Test.YtkjkofdjnjihjaaLkG
import Derived.Test.YtkjkofdjnjihjaaLkV
import Derived.Test.YtkjkofdjnjihjaaShelf
import Derived.Sort.OwnSortedInts
import Derived.Lib.OwnBridge
import Derived.Shelf.SlicesE.Compact
namespace Go.Proofs.Ytkjkofdjnjihjaa
namespace LkW
open Go.RowKit Go.Shelf Base BinM LkM LkA LkB LkE LkR LkP LkS LkG LkV

theorem sort_any (g cap : Nat) (l : List Int) (w : World) (hH : Sort.Holds (Value.int .i64) w g 0 l.toArray) (hg : g < w.heap.size) (hl : l.length ≤ 100000) :
    Calls Try.prog 39 #[.slice (some ⟨g, 0, none⟩) l.length cap] w fun e w' => e = .returned (.tuple #[]) ∧ ∃ n os, w' = Sort.grow (Sort.putRow (Value.int .i64) (Sort.ahead w n) g 0 (l.mergeSort fun x y => decide (x ≤ y)).toArray) os :=
  AnyM.slices_Sort_int Try.sortM g 0 cap l w hH hg (by omega)
theorem sort_none (p : Option Addr) (cap : Nat) (w : World) :
    Calls Try.prog 39 #[.slice p 0 cap] w fun e w' => e = .returned (.tuple #[]) ∧ w' = w :=
  AnyM.slices_Sort_int_none Try.sortM p cap w
theorem compact_any (g cap : Nat) (l : List Int) (w : World) (hH : Sort.Holds (Value.int .i64) w g 0 l.toArray) (hl : l.length ≤ 100000) (hc : l.length ≤ cap) :
    Calls Try.prog 36 #[.slice (some ⟨g, 0, none⟩) l.length cap] w fun e w' => e = .returned (.slice (some ⟨g, 0, none⟩) (Lib.compact l).length cap) ∧ ∃ q, w' = Sort.putRow (Value.int .i64) (Sort.ahead w q) g 0 (Lib.compact l ++ List.replicate (l.length - (Lib.compact l).length) 0).toArray :=
  AnyE.slices_Compact Try.compE (Value.int .i64) (fun _ => rfl) (EqlAt.intD _ _ _) (NeqAt.intD _ _ _) 0 (Try.zeroValue2) g 0 cap l.toArray w hH (by simp; omega) (by simpa using hc)
theorem compact_none (p : Option Addr) (cap : Nat) (w : World) :
    Calls Try.prog 36 #[.slice p 0 cap] w fun e w' => e = .returned (.slice p 0 cap) ∧ w' = w := by
  go_enter Try.func36, Try.ntmps36
  go_wp2
  go_ret
  exact ⟨rfl, rfl⟩

/-! what it says -/
def sorted (now : List Int) : List Int := now.mergeSort fun x y => decide (x ≤ y)
theorem sorted_mem (now : List Int) (x : Int) : x ∈ sorted now ↔ x ∈ now := List.mem_mergeSort
theorem sorted_len (now : List Int) : (sorted now).length = now.length := List.length_mergeSort _
theorem sorted_pw (now : List Int) : (sorted now).Pairwise (fun x y => x ≤ y) := by
  have h := List.pairwise_mergeSort (le := fun (x y : Int) => decide (x ≤ y)) (fun a b c h1 h2 => by simp at *; omega) (fun a b => by simp; omega) now
  exact h.imp (fun h => by simpa using h)
theorem low_iff (now : List Int) (h : 0 < (sorted now).length) : 1 ≤ (sorted now)[0] ↔ ∀ x ∈ now, 1 ≤ x := by
  constructor
  · intro h1 x hx
    obtain ⟨i, hi, rfl⟩ := List.getElem_of_mem ((sorted_mem now x).2 hx)
    rcases Nat.eq_zero_or_pos i with rfl | hp
    · exact h1
    · have := List.pairwise_iff_getElem.1 (sorted_pw now) 0 i (by omega) hi hp
      omega
  · intro h1
    exact h1 _ ((sorted_mem now _).1 (List.getElem_mem h))
theorem compact_iff (now : List Int) : (Lib.compact (sorted now)).length = now.length ↔ now.Nodup := by
  have hlen := sorted_len now
  have hk : (Lib.compact (sorted now)).length = now.length ↔ ∀ j, j < (sorted now).length → Lib.keeps (sorted now).toArray j = true := by
    unfold Lib.compact Lib.compactUpTo
    rw [List.length_map, ← hlen]
    constructor
    · intro h j hj
      have h2 := List.length_filter_eq_length_iff.1 (h.trans (List.length_range (n := (sorted now).length)).symm)
      exact h2 j (List.mem_range.2 hj)
    · intro h
      exact (List.length_filter_eq_length_iff.2 (fun j hj => h j (List.mem_range.1 hj))).trans List.length_range
  rw [hk, ← (List.mergeSort_perm now (fun x y => decide (x ≤ y))).nodup_iff]
  change _ ↔ (sorted now).Nodup
  have hpw := List.pairwise_iff_getElem.1 (sorted_pw now)
  constructor
  · intro h
    refine List.nodup_iff_pairwise_ne.2 (List.pairwise_iff_getElem.2 fun i j hi hj hij e => ?_)
    have hkj := h (i + 1) (by omega)
    unfold Lib.keeps at hkj
    have h1 : (sorted now)[i] ≤ (sorted now)[i + 1]'(by omega) := hpw i (i + 1) hi (by omega) (by omega)
    have h2 : (sorted now)[i + 1]'(by omega) ≤ (sorted now)[j] := by
      rcases Nat.lt_or_ge (i + 1) j with h3 | h3
      · exact hpw (i + 1) j (by omega) hj h3
      · have : i + 1 = j := by omega
        subst this
        exact Int.le_refl _
    have h4 : (sorted now)[i + 1]'(by omega) = (sorted now)[i] := by omega
    have h5 : (sorted now).toArray[i + 1]! = (sorted now).toArray[i + 1 - 1]! := by
      rw [getElem!_pos (sorted now).toArray (i + 1) (by simp; omega), getElem!_pos (sorted now).toArray (i + 1 - 1) (by simp; omega)]
      simpa using h4
    simp [h5] at hkj
  · intro h j hj
    rcases Nat.eq_zero_or_pos j with rfl | hp
    · exact Lib.keeps_lt_one _ 0 (by omega)
    · refine Lib.keeps_pos ?_
      rw [getElem!_pos (sorted now).toArray j (by simpa using hj), getElem!_pos (sorted now).toArray (j - 1) (by simp; omega)]
      simp only [List.getElem_toArray]
      have := List.pairwise_iff_getElem.1 (List.nodup_iff_pairwise_ne.1 h) (j - 1) j (by omega) hj (by omega)
      exact fun e => this e.symm

theorem sorted_any (Bs : Nat) (A : Option Addr) (cap : Nat) (zs : List Int) (hl : zs.length ≤ 100000) (w : World) (hBs : Bx w Bs #[.slice A zs.length cap] 29) (hr : Rds w A (zs.map (Value.int .i64))) :
    Calls Try.prog 34 #[.func (.func 40) #[] #[.pointer (some ⟨Bs, 0, none⟩)]] w fun e w' => ∃ v, e = .returned v ∧ OwnI w' w.heap.size v (sorted zs) ∧ Below w.heap.size w w' := by
  have HC := Lib.hid (collect_any Bs A cap zs hl w hBs hr)
  clear hBs hr
  go_enter Try.func34, Try.ntmps34
  go_wp2_with fail
  refine HC.out.mono ?_
  rintro e w1 ⟨v, rfl, h, hb⟩
  have HB := Lib.hid hb
  clear hb
  by_cases h0 : zs.length = 0
  · have hn : zs = [] := List.eq_nil_of_length_eq_zero h0
    subst hn
    obtain ⟨B, c, rfl, h1, h2, h3⟩ := own_slice h
    have H := Lib.hid h
    have Hs := Lib.hid (sort_none B c w1)
    clear h
    go_wp2_with fail
    refine Hs.out.mono ?_
    rintro e w2 ⟨rfl, rfl⟩
    go_wp2_with fail
    go_ret
    refine ⟨_, rfl, ?_, HB.out⟩
    rw [show sorted [] = [] by simp [sorted]]
    exact H.out
  · have hv : v ≠ .slice none 0 0 := by
      rintro rfl
      rcases h.2 with ⟨_, e⟩ | ⟨g, cap, cur, e, _⟩
      · exact h0 e
      · cases e
    obtain ⟨g, cap', rfl, hbg, hg, hnc, hcm, _, hH⟩ := Lib.holds_of_ownsRow h hv
    have hblk : ∃ cur, w1.heap[g]? = some (.cells cur 2 (0, 0)) ∧ cur.size = cap' * 1 := by
      rcases h.2 with ⟨e, _⟩ | ⟨g', cap', cur, e, _, hh, _, _, hsz, _⟩
      · cases e
      · injection e with e1 _ e3
        injection e1 with e1
        injection e1 with e1
        subst e1; subst e3
        exact ⟨cur, hh, hsz⟩
    obtain ⟨cur, hcur, hcs⟩ := hblk
    have Hs := Lib.hid (sort_any g cap' zs w1 hH hg hl)
    have Hcur := Lib.hid hcur
    clear hH hv hcur h
    go_wp2_with fail
    refine Hs.out.mono ?_
    rintro e w2 ⟨rfl, n, os, hw2⟩
    have hown : w2.ownsRow w.heap.size 2 1 (.slice (some ⟨g, 0, none⟩) zs.length cap') zs.length ((sorted zs).map (Value.int .i64)) := by
      rw [hw2]
      exact ownsRow_sortedI (sorted_len zs) hbg Hcur.out hnc hcm hcs
    have hbel : Below w.heap.size w w2 := HB.out.grown (show w1.grownBy w2 (some g) by rw [hw2]; exact grownBy_sortedI _) HB.out.size (fun k hk => by injection hk with hk; omega)
    have HO := Lib.hid hown
    have HB2 := Lib.hid hbel
    clear hw2 hown hbel
    go_wp2_with fail
    go_ret
    refine ⟨_, rfl, ?_, HB2.out⟩
    unfold OwnI
    rw [sorted_len]
    exact HO.out

set_option maxRecDepth 100000 in
set_option maxHeartbeats 4000000 in
theorem differ_any (A : Option Addr) (now : List Int) (m cap : Nat) (w : World) (hm : m = now.length) (hl : m ≤ 100000) (hr : Rds w A (now.map (Value.int .i64))) :
    Calls Try.prog 31 #[.slice A m cap] w fun e w' => e = .returned (.bool (decide (GoodL now))) ∧ Below w.heap.size w w' := by
  subst hm
  have hal : Below w.heap.size w (w.alloc (.cells #[.slice A now.length cap] 29)) := (Below.refl _ w).alloc (Nat.le_refl _) _
  have HV := Lib.hid (values_any A now.length cap w)
  have HS := Lib.hid (sorted_any w.heap.size A cap now hl _ (Bx.new w #[.slice A now.length cap] 29) (hr.below hal))
  have HA := Lib.hid hal
  clear hr hal
  go_enter Try.func31, Try.ntmps31
  go_wp2_with fail
  refine HV.out.mono ?_
  rintro e w1 ⟨rfl, rfl⟩
  go_wp2_with fail
  refine HS.out.mono ?_
  rintro e w2 ⟨v, rfl, ho, hb⟩
  have hsl := sorted_len now
  have HB : Hid (Below w.heap.size w w2) := Lib.hid (HA.out.trans (hb.mono HA.out.size))
  have hsz := HB.out.size
  clear hb
  by_cases h0 : now.length = 0
  · have hn : now = [] := List.eq_nil_of_length_eq_zero h0
    subst hn
    obtain ⟨B, c, rfl, h1, h2, h3⟩ := own_slice ho
    have HC := Lib.hid (compact_none B c w2)
    have HG : Hid (decide (GoodL ([] : List Int)) = true) := Lib.hid (by simp [GoodL])
    clear ho
    go_wp2_with (go_at_call 36; refine HC.out.mono ?_; rintro e w3 ⟨rfl, rfl⟩)
    go_ret
    exact ⟨by rw [HG.out]; rfl, HB.out⟩
  · have hpos : 0 < (sorted now).length := by omega
    obtain ⟨B, c, rfl, h1, h2, h3⟩ := own_slice ho
    have hv : Value.slice B (sorted now).length c ≠ .slice none 0 0 := by
      intro e
      injection e with _ e _
      omega
    obtain ⟨g, cap', e', hbg, hg, hnc, hcm, _, hH⟩ := Lib.holds_of_ownsRow ho hv
    injection e' with e1 _ e3
    subst e1; subst e3
    have q0 : w2.cell? ⟨g, 0, none⟩ = some (.int .i64 (sorted now)[0]) := by
      have h := LkT.rds_getD (Rds.own ho) hpos
      obtain ⟨b, o, e, _, h⟩ := h
      injection e with e
      injection e with e4 e5
      subst e4; subst e5
      rw [h, List.getD_eq_getElem?_getD, List.getElem?_eq_getElem hpos]
      rfl
    have HLow := Lib.hid (low_iff now hpos)
    have HCi := Lib.hid (compact_iff now)
    have hbase : (w.alloc (.cells #[.slice A now.length cap] 29)).heap.size = w.heap.size + 1 := by simp
    have HC := Lib.hid (compact_any g c (sorted now) w2 hH (by omega) hnc)
    have HBelow : Hid (∀ q (ys : Array Int), Below w.heap.size w (Sort.putRow (Value.int .i64) (Sort.ahead w2 q) g 0 ys)) := Lib.hid (fun q ys => Lib.below_putRow HB.out (by omega))
    clear ho hH hv
    generalize (sorted now)[0] = x at *
    rw [hsl] at HC
    have hz : ((now.length : Int) == 0) = false := by rw [beq_eq_false_iff_ne]; omega
    have hps : (0 : Int) < (now.length : Int) := by omega
    rw [hsl]
    by_cases hx : 1 ≤ x
    · have hall := Lib.hid (HLow.out.1 hx)
      have hcl : ((Lib.compact (sorted now)).length : Int) ≤ 100000 := by
        have := Lib.compact_length_le (sorted now)
        omega
      by_cases hnd : now.Nodup
      · have hle : ((Lib.compact (sorted now)).length : Int) == (now.length : Int) := by
          have := HCi.out.2 hnd
          rw [this]; simp
        have HG : Hid (decide (GoodL now) = true) := Lib.hid (decide_eq_true ⟨hall.out, hnd⟩)
        generalize (Lib.compact (sorted now)).length = cl at *
        go_wp2_with (go_at_call 36; refine HC.out.mono ?_; rintro e w3 ⟨rfl, q, rfl⟩)
        go_ret
        exact ⟨by rw [HG.out]; rfl, HBelow.out _ _⟩
      · have hle : (((Lib.compact (sorted now)).length : Int) == (now.length : Int)) = false := by
          rw [beq_eq_false_iff_ne]
          intro h
          exact hnd (HCi.out.1 (by omega))
        have HG : Hid (decide (GoodL now) = false) := Lib.hid (decide_eq_false (fun h => hnd h.2))
        generalize (Lib.compact (sorted now)).length = cl at *
        go_wp2_with (go_at_call 36; refine HC.out.mono ?_; rintro e w3 ⟨rfl, q, rfl⟩)
        go_ret
        exact ⟨by rw [HG.out]; rfl, HBelow.out _ _⟩
    · have HG : Hid (decide (GoodL now) = false) := Lib.hid (decide_eq_false (fun h => hx (HLow.out.2 h.1)))
      go_wp2_with fail
      go_ret
      exact ⟨by rw [HG.out]; rfl, HB.out⟩
end LkW
end Go.Proofs.Ytkjkofdjnjihjaa
