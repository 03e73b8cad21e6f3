/-
  A constant's bytes without the last one are none; pool.Add on no list (what the fixed calls ask), and the fixed calls.
-/
import Derived.Test.YtnkkeifjggcncaaDoorPoolT
namespace Go.Proofs.YtnkkeifjggcncaaDoor
namespace PoolV
open BinM BinE BinGet BinText DescM DescX DescP Stru PoolM PoolL PoolD PoolS PoolT

theorem take_tail {A B : List UInt8} (h : B ≠ []) : (A ++ B).take ((A ++ B).length - 1) = A ++ B.take (B.length - 1) := by
  have hp := List.length_pos_iff.2 h
  rw [List.take_append, List.take_of_length_le (by simp; omega)]
  congr 2
  simp; omega
theorem num_ne {n : Int} (h0 : -9223372036854775808 ≤ n) (h1 : n ≤ 9223372036854775807) : num n ≠ [] := List.length_pos_iff.1 (num_pos h0 h1)
theorem num_short (p : List UInt8) {n : Int} (h0 : -9223372036854775808 ≤ n) (h1 : n ≤ 9223372036854775807) : getS (p ++ (num n).take ((num n).length - 1)) (p.length : Int) = (0, 0, 4) := by
  obtain ⟨c1, _, c3⟩ := num_can h0 h1
  have hp := num_pos h0 h1
  have hl := lead_of_can [] c1
  rw [List.append_nil] at hl
  have hlen : ((num n).take ((num n).length - 1)).length = (num n).length - 1 := by simp
  have hlead : lead ((num n).take ((num n).length - 1)) = (num n).length - 1 := by
    refine lead_eq (fun j hj hjm => ?_) (by omega) (.inl hlen.symm)
    rw [List.getElem_take]
    exact lead_ge _ j (by omega) (by omega)
  exact getS_short (l := p ++ (num n).take ((num n).length - 1)) (a := p.length) (by simp) (by rw [List.drop_left]; omega) (by rw [List.drop_left]; omega)
theorem txt_ne (s : List UInt8) (hs : s.length ≤ 1048576) : txt s ≠ [] := by
  unfold txt
  intro h
  exact num_ne (n := (s.length : Int)) (by omega) (by omega) (List.append_eq_nil_iff.1 h).1
theorem txt_full (p r s : List UInt8) (m : Int) (hs : s.length ≤ 1048576) (hm : (s.length : Int) ≤ m) : getT (p ++ (txt s ++ r)) (p.length : Int) m = (s, ((p ++ txt s).length : Int), 0) := by
  have h := BinText.getS_numr (n := (s.length : Int)) (by omega) (by omega) p (s ++ r)
  have e : p ++ (txt s ++ r) = p ++ (num (s.length : Int) ++ (s ++ r)) := by unfold txt; simp
  rw [e]
  unfold getT
  rw [h, if_neg (by simp), if_neg (by simp only; omega), if_neg (by simp only; simp; omega)]
  have e2 : p ++ (num (s.length : Int) ++ (s ++ r)) = (p ++ num (s.length : Int)) ++ (s ++ r) := by simp
  simp only [Int.toNat_natCast]
  rw [e2, List.drop_left, List.take_left]
  unfold txt
  simp; omega
theorem txt_short (p s : List UInt8) (m : Int) (hs : s.length ≤ 1048576) (hm : (s.length : Int) ≤ m) : getT (p ++ (txt s).take ((txt s).length - 1)) (p.length : Int) m = ([], 0, 4) := by
  by_cases h0 : s = []
  · subst h0
    have h := num_short p (n := 0) (by omega) (by omega)
    have e : txt [] = num 0 := by simp [txt]
    rw [e]
    unfold getT
    rw [h, if_pos (by simp)]
  · have hl := List.length_pos_iff.2 h0
    have e : (txt s).take ((txt s).length - 1) = num (s.length : Int) ++ s.take (s.length - 1) := by unfold txt; exact take_tail h0
    have h := BinText.getS_numr (n := (s.length : Int)) (by omega) (by omega) p (s.take (s.length - 1))
    rw [e]
    unfold getT
    rw [h, if_neg (by simp), if_neg (by simp only; omega), if_pos (by simp; omega)]
theorem split_len2 {l : List UInt8} (h : (splitT l).2.2 = 0) : l.length ≤ 256 := by
  unfold splitT at h
  split at h
  · split at h
    · rename_i ts g hp
      split at h
      · rename_i hg
        have h1 := parse_len 6 hp
        have h2 := given_len hg
        rw [List.length_drop] at h1
        omega
      · simp at h
    · simp at h
  · simp at h

/-- the five kinds -/
theorem right_kinds {c : Cst} (h : rightC c = true) : (c.kind = 1 ∧ c = ⟨1, c.n, [], [], []⟩) ∨ (c.kind = 2 ∧ c = ⟨2, 0, c.s, [], []⟩ ∧ c.s.length ≤ 64) ∨ (c.kind = 3 ∧ c = ⟨3, 0, c.s, [], []⟩ ∧ c.s.length ≤ 256) ∨
    ((c.kind = 4 ∨ c.kind = 5) ∧ c = ⟨c.kind, 0, c.s, c.t, c.u⟩ ∧ c.s.length ≤ 256 ∧ c.t.length ≤ 256 ∧ c.u.length ≤ 256) := by
  obtain ⟨k, n, s, t, u⟩ := c
  unfold rightC at h
  rw [Bool.and_eq_true, same_iff] at h
  obtain ⟨h1, h2⟩ := h
  unfold bareC at h1
  unfold restC at h2
  simp only at h1 h2 ⊢
  by_cases e1 : k = 1
  · rw [if_pos e1] at h1
    subst e1
    exact .inl ⟨rfl, h1⟩
  · rw [if_neg e1] at h1 h2
    by_cases e2 : k = 2
    · rw [if_pos (.inl e2)] at h1
      rw [if_pos e2] at h2
      subst e2
      exact .inr (.inl ⟨rfl, h1, by simpa using h2⟩)
    · rw [if_neg e2] at h2
      by_cases e3 : k = 3
      · rw [if_pos (.inr e3)] at h1
        rw [if_pos e3] at h2
        subst e3
        have := right_type h2
        exact .inr (.inr (.inl ⟨rfl, h1, by omega⟩))
      · rw [if_neg e3] at h2
        rw [if_neg (by omega)] at h1
        by_cases e4 : k = 4
        · rw [if_pos e4] at h2
          simp only [Bool.and_eq_true] at h2
          have a1 := name_len h2.1.1
          have a2 := name_len h2.1.2
          have a3 := right_type h2.2
          exact .inr (.inr (.inr ⟨.inl e4, h1, by omega, by omega, by omega⟩))
        · rw [if_neg e4] at h2
          by_cases e5 : k = 5
          · rw [if_pos e5] at h2
            simp only [Bool.and_eq_true, beq_iff_eq] at h2
            have a1 := name_len h2.1.1
            have a2 := name_len h2.1.2
            have a3 := split_len2 h2.2
            exact .inr (.inr (.inr ⟨.inr e5, h1, by omega, by omega, a3⟩))
          · rw [if_neg e5] at h2; cases h2

theorem get_after {p r : List UInt8} {k : Int} (h1 : 1 ≤ k) (h5 : k ≤ 5) : getC (p ++ (num k ++ r)) (p.length : Int) = finC (firstC k ((p ++ num k) ++ r) ((p ++ num k).length : Int)) := by
  have h := BinText.getS_numr (n := k) (by omega) (by omega) p r
  rw [getC_fin (by rw [h]) (by rw [h]; simp only; omega), h]
  simp only
  rw [List.append_assoc]

theorem get_short {c : Cst} (h : rightC c = true) (hn : fitI c.n) (p : List UInt8) : getC (p ++ (bytesC c).take ((bytesC c).length - 1)) (p.length : Int) = (noneC, 0, 4) := by
  rcases right_kinds h with ⟨_, e⟩ | ⟨_, e, hs⟩ | ⟨_, e, hs⟩ | ⟨hk, e, hs, ht, hu⟩
  · generalize c.n = n at *
    unfold fitI at hn
    rw [e]
    have eb : bytesC ⟨1, n, [], [], []⟩ = num 1 ++ num n := rfl
    rw [eb, take_tail (num_ne hn.1 hn.2), get_after (by omega) (by omega)]
    have e1 : firstC 1 ((p ++ num 1) ++ (num n).take ((num n).length - 1)) ((p ++ num 1).length : Int) = (⟨1, 0, [], [], []⟩, 0, 4) := by
      unfold firstC
      rw [if_pos rfl, num_short (p ++ num 1) hn.1 hn.2]
    rw [e1, fin_err (by decide)]
  · generalize c.s = s at *
    rw [e]
    have eb : bytesC ⟨2, 0, s, [], []⟩ = num 2 ++ txt s := rfl
    rw [eb, take_tail (txt_ne s (by omega)), get_after (by omega) (by omega)]
    have e1 : firstC 2 ((p ++ num 2) ++ (txt s).take ((txt s).length - 1)) ((p ++ num 2).length : Int) = (⟨2, 0, [], [], []⟩, 0, 4) := by
      unfold firstC
      rw [if_neg (by decide), if_pos rfl, txt_short (p ++ num 2) s 64 (by omega) (by omega)]
    rw [e1, fin_err (by decide)]
  · generalize c.s = s at *
    rw [e]
    have eb : bytesC ⟨3, 0, s, [], []⟩ = num 3 ++ txt s := rfl
    rw [eb, take_tail (txt_ne s (by omega)), get_after (by omega) (by omega)]
    have e1 : firstC 3 ((p ++ num 3) ++ (txt s).take ((txt s).length - 1)) ((p ++ num 3).length : Int) = (⟨3, 0, [], [], []⟩, 0, 4) := by
      unfold firstC
      rw [if_neg (by decide), if_neg (by decide), if_pos rfl, txt_short (p ++ num 3) s 256 (by omega) (by omega)]
    rw [e1, fin_err (by decide)]
  · generalize c.s = s at *
    generalize c.t = t at *
    generalize c.u = u at *
    generalize c.kind = k at *
    rw [e]
    have eb : bytesC ⟨k, 0, s, t, u⟩ = (num k ++ txt s ++ txt t) ++ txt u := by
      unfold bytesC
      rw [if_neg (by simp only; omega), if_neg (by simp only; omega)]
      simp
    rw [eb, take_tail (txt_ne u (by omega))]
    generalize hU : (txt u).take ((txt u).length - 1) = U
    have ea : p ++ ((num k ++ txt s ++ txt t) ++ U) = p ++ (num k ++ (txt s ++ (txt t ++ U))) := by simp
    rw [ea, get_after (by omega) (by omega)]
    generalize hP : p ++ num k = P
    have e1 := txt_full P (txt t ++ U) s 256 (by omega) (by omega)
    have e2 := txt_full (P ++ txt s) U t 256 (by omega) (by omega)
    have e3 := txt_short ((P ++ txt s) ++ txt t) u 256 (by omega) (by omega)
    rw [hU] at e3
    have q2 : (P ++ txt s) ++ (txt t ++ U) = P ++ (txt s ++ (txt t ++ U)) := by simp
    have q3 : ((P ++ txt s) ++ txt t) ++ U = P ++ (txt s ++ (txt t ++ U)) := by simp
    rw [q2] at e2
    rw [q3] at e3
    generalize P ++ (txt s ++ (txt t ++ U)) = B at *
    have a0 : atM B (P.length : Int) 0 = (P.length : Int) := rfl
    have a1 : atM B (P.length : Int) 1 = ((P ++ txt s).length : Int) := by show (getT B (P.length : Int) 256).2.1 = _; rw [e1]
    have a2 : atM B (P.length : Int) 2 = (((P ++ txt s) ++ txt t).length : Int) := by show (getT B (atM B (P.length : Int) 1) 256).2.1 = _; rw [a1, e2]
    have r0 : erM B (P.length : Int) 0 = 0 := by unfold erM; rw [a0, e1]
    have r1 : erM B (P.length : Int) 1 = 0 := by unfold erM; rw [a1, e2]
    have r2 : erM B (P.length : Int) 2 = 4 := by unfold erM; rw [a2, e3]
    have hm : getM k B (P.length : Int) = (noneC, 0, 4) := by
      rw [getM_err (j := 2) (by omega) (fun i hi => by
        match i, hi with
        | 0, _ => exact r0
        | 1, _ => exact r1) (by rw [r2]; decide), r2]
    have e4 : firstC k B (P.length : Int) = (noneC, 0, 4) := by
      unfold firstC
      rw [if_neg (by omega), if_neg (by omega), if_neg (by omega)]
      exact hm
    rw [e4, fin_err (by decide)]

end PoolV

namespace PoolU
open Go.RowKit Base BinM BinE BinText BinPut Bin8 DescM DescP Stru PoolM PoolA PoolB PoolE PoolN PoolR

theorem infoC : (Tryd.prog.info? 24).map (fun i => (i.zero, i.size, i.bytes)) = some (some (.agg #[.int .i64 0, .int .i64 0, .string ⟨#[]⟩, .string ⟨#[]⟩, .string ⟨#[]⟩]), 5, 64) := by kernel_rfl

theorem step_appC {ops : Array Oper} {o : Oper} {a : Act} {w : World} {K : Act → World → Prop} {Q : Exit → Act → World → Prop} {E : Prop} (hgd : o.guard = none) (s x : Operand)
    (ho : o.op = .call { callee := .builtin .append, args := #[s, x], argTypes := #[38, 38] })
    (hs : a.eval s = .slice none 0 0) (A : Option Addr) (c : Nat) (k n : Int) (p q r : List UInt8) (hx : a.eval x = .slice A 1 c) (hr : Rds w A [.int .i64 k, .int .i64 n, .string ⟨p.toArray⟩, .string ⟨q.toArray⟩, .string ⟨r.toArray⟩])
    (h : ∀ B d w', Below w.heap.size w w' → K (a.put o.dst (.slice B 1 d)) w') :
    if Region.wanted o (yielded ops a.tmps) = true then Oper.wp Tryd.prog o a w K Q else E := by
  have hw : Region.wanted o (yielded ops a.tmps) = true := by simp [Region.wanted, hgd]
  rw [if_pos hw]
  obtain ⟨i0, hi, hz, hs1, hb1⟩ := info_parts infoC
  refine wp_append_rdsN s x 38 ho w.heap.size 24 i0 _ 5 64 Tryd.underlying38 hi hz hs1 hb1 rfl (by omega) (.slice none 0 0) 0 [] hs (World.ownsRow_nil _ _ _ _) A 1 c _ hx rfl hr (by simp [Value.oneCell']) (by simp [maxLen]) (by omega) (Nat.le_refl _) ?_
  intro v' w' hown hg
  obtain ⟨B, d, rfl, _⟩ := own_slice hown
  exact h B d w' (below_own (Below.refl _ _) (World.ownsRow_nil w w.heap.size 24 5) (Nat.le_refl _) (Nat.le_refl _) hg)

set_option maxRecDepth 100000 in
set_option maxHeartbeats 1000000 in
theorem index_nil (k n : Int) (s t u : List UInt8) (w : World) :
    Calls Tryd.prog 41 #[.slice none 0 0, .agg #[.int .i64 k, .int .i64 n, .string ⟨s.toArray⟩, .string ⟨t.toArray⟩, .string ⟨u.toArray⟩]] w fun e w' => e = .returned (.int .i64 (-1)) ∧ Below w.heap.size w w' := by
  have HB := Lib.hid ((Below.refl w.heap.size w).alloc (Nat.le_refl _) (.cells #[.int .i64 k, .int .i64 n, .string ⟨s.toArray⟩, .string ⟨t.toArray⟩, .string ⟨u.toArray⟩] 24))
  go_enter Tryd.func41, Tryd.ntmps41
  go_wp2
  go_loop [5, 8] (fun _ i => i = .int .i64 0) (fun _ _ => 0)
  case atStart => rfl
  case round =>
    subst hrel
    go_wp2
    go_ret
    exact ⟨rfl, HB.out⟩

set_option maxRecDepth 100000 in
theorem find_nil (k n : Int) (s t u : List UInt8) (w : World) :
    Calls Tryd.prog 17 #[.slice none 0 0, .agg #[.int .i64 k, .int .i64 n, .string ⟨s.toArray⟩, .string ⟨t.toArray⟩, .string ⟨u.toArray⟩]] w fun e w' => e = .returned (.int .i64 (-1)) ∧ Below w.heap.size w w' := by
  have HB := Lib.hid ((Below.refl w.heap.size w).alloc (Nat.le_refl _) (.cells #[.int .i64 k, .int .i64 n, .string ⟨s.toArray⟩, .string ⟨t.toArray⟩, .string ⟨u.toArray⟩] 24))
  go_enter Tryd.func17, Tryd.ntmps17
  go_wp2_with fail
  refine (index_nil k n s t u _).mono ?_
  rintro e w1 ⟨rfl, hb1⟩
  have Hb1 := Lib.hid (HB.out.trans (hb1.mono (by simp)))
  clear hb1
  go_wp2_with fail
  go_ret
  exact ⟨rfl, Hb1.out⟩

set_option maxRecDepth 100000 in
theorem clone_nil (w : World) : Calls Tryd.prog 42 #[.slice none 0 0] w fun e w' => e = .returned (.slice none 0 0) ∧ w = w' := by
  have he : ∀ W : World, (binOp .eql 38 (.slice none 0 0) (.slice none 0 0)).run Tryd.prog W = .ok (.bool true) W := fun _ => rfl
  go_enter Tryd.func42, Tryd.ntmps42
  go_wp2
  go_ret
  exact ⟨rfl, rfl⟩

set_option maxRecDepth 100000 in
set_option maxHeartbeats 4000000 in
theorem add_nil (k n : Int) (s t u : List UInt8) (w : World) (hs : s.length ≤ 140737488355327) (ht : t.length ≤ 140737488355327) (hu : u.length ≤ 140737488355327) (hrt : rightC ⟨k, n, s, t, u⟩ = true) :
    Calls Tryd.prog 19 #[.slice none 0 0, .agg #[.int .i64 k, .int .i64 n, .string ⟨s.toArray⟩, .string ⟨t.toArray⟩, .string ⟨u.toArray⟩]] w fun e w' => ∃ A c, e = .returned (.tuple #[.slice A 1 c, .int .i64 0, .int .i64 0]) ∧ Below w.heap.size w w' := by
  have HB := Lib.hid ((Below.refl w.heap.size w).alloc (Nat.le_refl _) (.cells #[.int .i64 k, .int .i64 n, .string ⟨s.toArray⟩, .string ⟨t.toArray⟩, .string ⟨u.toArray⟩] 24))
  have Hbox := Lib.hid (boxC.new w k n s t u 24)
  have Hrt := Lib.hid hrt
  clear hrt
  go_enter Tryd.func19, Tryd.ntmps19
  go_wp2_with fail
  refine (poolRight_any k n s t u _ hs ht hu).mono ?_
  rw [Hrt.out]
  rintro e w1 ⟨rfl, hb1⟩
  obtain ⟨hc0, hc1, hc2, hc3, hc4⟩ := boxC.after Hbox.out hb1
  have Hb1 := Lib.hid (HB.out.trans (hb1.mono (by simp)))
  have hsz1 := Hb1.out.size
  clear hb1
  go_wp2_with fail
  refine (find_nil k n s t u _).mono ?_
  rintro e w2 ⟨rfl, hb2⟩
  obtain ⟨hd0, hd1, hd2, hd3, hd4⟩ := boxC.after (k := k) (n := n) (s := s) (t := t) (u := u) ⟨hc0, hc1, hc2, hc3, hc4⟩ hb2
  have Hb2 := Lib.hid (Hb1.out.trans (hb2.mono hsz1))
  have hsz2 := Hb2.out.size
  have hbx : w.heap.size < w2.heap.size := World.block_lt_of_cell? w2 ⟨w.heap.size, 0, none⟩ hd0
  clear hb2 hc0 hc1 hc2 hc3 hc4
  go_wp2_with fail
  go_region_held3 (fun w' => w'.cell? ⟨w.heap.size, 0, none⟩ = some (.int .i64 k) ∧ w'.cell? ⟨w.heap.size, 1, none⟩ = some (.int .i64 n) ∧ w'.cell? ⟨w.heap.size, 2, none⟩ = some (.string ⟨s.toArray⟩) ∧ w'.cell? ⟨w.heap.size, 3, none⟩ = some (.string ⟨t.toArray⟩) ∧ w'.cell? ⟨w.heap.size, 4, none⟩ = some (.string ⟨u.toArray⟩))
    (first | go_keep)
    (first
      | (go_at_call 42; refine (clone_nil _).mono ?_; rintro e w3 ⟨rfl, rfl⟩)
      | (refine step_appC rfl (.tmp 23) (.tmp 25) rfl rfl _ _ k n s t u rfl (by first | exact rds_new _ _ _ | exact (rds_new _ _ _).drew) ?_
         intro B d w4 hb4
         have hW := (((Below.refl w2.heap.size w2).alloc (Nat.le_refl _) (.cells #[.int .i64 k, .int .i64 n, .string ⟨s.toArray⟩, .string ⟨t.toArray⟩, .string ⟨u.toArray⟩] 24)).drew).trans (hb4.mono (by simp))
         have Hb4 := Lib.hid (Hb2.out.trans (hW.mono hsz2))
         obtain ⟨he0, he1, he2, he3, he4⟩ := boxC.after (k := k) (n := n) (s := s) (t := t) (u := u) ⟨hd0, hd1, hd2, hd3, hd4⟩ hW
         clear hb4 hW hd0 hd1 hd2 hd3 hd4))
  all_goals go_wp2_with fail
  all_goals go_ret3
  all_goals exact ⟨_, _, rfl, Hb4.out⟩

theorem k1 : putC [] ⟨1, 5, [], [], []⟩ = ([2, 10], 0) := by decide
theorem k2 : namesC ⟨5, 0, [65], [109], [40, 76, 66, 59, 41, 91, 91, 76, 67, 59]⟩ = [[65], [66], [67]] := by decide
theorem k3 : rightC ⟨2, 0, [120], [], []⟩ = true := by decide

set_option maxRecDepth 100000 in
set_option maxHeartbeats 2000000 in
/-- the fixed calls -/
theorem known_any (w : World) : Calls Tryd.prog 16 #[] w fun e w' => e = .returned (.bool true) ∧ Below w.heap.size w w' := by
  go_enter Tryd.func16, Tryd.ntmps16
  go_wp2_with fail
  refine (poolPut_any none 0 0 [] 1 5 [] [] [] w rfl (.inl rfl) (by omega) (by unfold fitI; omega) (by unfold fitI; omega) (by simp) (by simp) (by simp)).mono ?_
  rw [k1]
  rintro e w1 ⟨v1, rfl, hown1, hb1⟩
  simp only at hown1
  obtain ⟨A1, c1, rfl, _, _, hr1, _⟩ := Own8.slice hown1
  have Hr1 := Lib.hid hr1
  have Hb1 := Lib.hid hb1
  have hsz1 := hb1.size
  clear hown1 hr1 hb1
  go_wp2_with fail
  refine (names_any 5 0 [65] [109] [40, 76, 66, 59, 41, 91, 91, 76, 67, 59] w1 (by simp) (by simp) (by simp)).mono ?_
  rw [k2]
  rintro e w2 ⟨A2, c2, rfl, _, _, hr2, hb2⟩
  have Hr2 := Lib.hid hr2
  have Hr12 := Lib.hid (Hr1.out.below hb2)
  have Hb2 := Lib.hid (Hb1.out.trans (hb2.mono hsz1))
  have hsz2 := Hb2.out.size
  clear hr2 hb2
  go_wp2_with fail
  refine (add_nil 2 0 [120] [] [] w2 (by simp) (by simp) (by simp) k3).mono ?_
  rintro e w3 ⟨A3, c3, rfl, hb3⟩
  have hcx := RefGet.text_q w3 (q := [2, 10]) (m := 2) rfl (Hr12.out.below hb3) c1
  have hr3 := Hr2.out.below hb3
  have Hb3 := Lib.hid (Hb2.out.trans (hb3.mono hsz2))
  obtain ⟨b, o, rfl, hlt, hcells⟩ : ∃ b o, A2 = some ⟨b, o, none⟩ ∧ b < w3.heap.size ∧ ∀ j u, ([[65], [66], [67]].map DescG.str)[j]? = some u → w3.cell? ⟨b, o + j, none⟩ = some u := by
    rcases hr3 with h | ⟨b, o, h, hl, hc⟩
    · cases h
    · exact ⟨b, o, h, hl, hc⟩
  have g0 : w3.cell? ⟨b, o, none⟩ = some (.string ⟨#[65]⟩) := hcells 0 _ rfl
  have g2 : w3.cell? ⟨b, o + 2, none⟩ = some (.string ⟨#[67]⟩) := hcells 2 _ rfl
  clear hb3 hr3 hcells
  go_wp2_with fail
  go_ret
  exact ⟨rfl, Hb3.out⟩

end PoolU
end Go.Proofs.YtnkkeifjggcncaaDoor
