/-
  The document's own writing of a number behind bytes: what it returns, for all bytes and every number.
-/
import Derived.Test.YthkkcecfenohjaaGreatDoorBinPut
import Derived.Outline
namespace Go.Proofs.YthkkcecfenohjaaGreatDoor
namespace RefPut
open Go.RowKit BinM BinNum Base BinE BinPut

/-- the pieces p stand, and the rest is to come of v -/
def ComeL (n : Int) (k v : Nat) (p : List UInt8) : Prop := num n = p ++ encF (9 - k) v ∧ p.length = k ∧ v < 2 ^ (64 - 7 * k)

theorem ComeL.start (n : Int) (h0 : -9223372036854775808 ≤ n) (h1 : n ≤ 9223372036854775807) : ComeL n 0 (foldI n).toNat [] := by
  have := fold_lt h0 h1
  refine ⟨by simp [num, enc], rfl, ?_⟩
  have e : (2 : Nat) ^ (64 - 7 * 0) = 18446744073709551616 := by decide
  rw [e]; omega

theorem ComeL.more {n : Int} {k v : Nat} {p : List UInt8} (h : ComeL n k v p) (hk : k ≤ 9) (hv : 128 ≤ v) : k ≤ 8 := by
  have h2 := h.2.2
  rcases (by omega : k ≤ 8 ∨ k = 9) with h | h
  · exact h
  · subst h
    have e : (2 : Nat) ^ (64 - 7 * 9) = 2 := by decide
    rw [e] at h2; omega

theorem ComeL.step {n : Int} {k v : Nat} {p : List UInt8} (h : ComeL n k v p) (hk : k ≤ 8) (hv : 128 ≤ v) : ComeL n (k + 1) (v / 128) (p ++ [UInt8.ofNat (v % 128 + 128)]) := by
  obtain ⟨h1, h2, h3⟩ := h
  refine ⟨?_, by simp [h2], ?_⟩
  · obtain ⟨f, hf⟩ : ∃ f, 9 - k = f + 1 := ⟨8 - k, by omega⟩
    have hf' : 9 - (k + 1) = f := by omega
    rw [h1, hf, hf']
    conv => lhs; unfold encF
    rw [if_neg (by omega)]
    simp
  · have e : 64 - 7 * k = (64 - 7 * (k + 1)) + 7 := by omega
    rw [e, Nat.pow_add] at h3
    exact Nat.div_lt_of_lt_mul (by rw [Nat.mul_comm]; exact h3)

theorem ComeL.last {n : Int} {k v : Nat} {p : List UInt8} (h : ComeL n k v p) (hv : v < 128) : num n = p ++ [UInt8.ofNat v] := by
  have e : encF (9 - k) v = [UInt8.ofNat v] := by
    cases hf : 9 - k with
    | zero => rfl
    | succ f => unfold encF; rw [if_pos hv]
  rw [h.1, e]

theorem ComeL.big {n : Int} {k v : Nat} {p : List UInt8} (h : ComeL n k v p) : (v : Int) ≤ 18446744073709551615 := by
  have h2 := h.2.2
  have : (2 : Nat) ^ (64 - 7 * k) ≤ 2 ^ 64 := Nat.pow_le_pow_right (by omega) (by omega)
  omega

theorem one8 (x : Nat) (h : x < 256) : [Value.int .u8 (x : Int)] = cells8 [UInt8.ofNat x] := by
  simp only [cells8, List.map_cons, List.map_nil, cell8]; rw [toNat_ofNat _ h]

/-- a block of one cell, just made, as a slice -/
theorem rds_one (w : World) (x : Value) (t : TypeId) : Rds (w.alloc (.cells #[x] t)) (some ⟨w.heap.size, 0, none⟩) [x] := by
  refine .inr ⟨w.heap.size, 0, rfl, by simp, fun j u hu => ?_⟩
  match j, hu with
  | 0, hu =>
    simp at hu
    subst hu
    simp

/-- the loop's way, from any number that is to come -/
def Rel (w : World) (l : List UInt8) (n : Int) (o u : Value) (wr : World) : Prop :=
  ∃ (k v : Nat) (p : List UInt8), k ≤ 9 ∧ u = .int .u64 v ∧ ComeL n k v p ∧ wr.ownsRow w.heap.size 5 1 o (l.length + k) (cells8 (l ++ p)) ∧ Below w.heap.size w wr

set_option maxRecDepth 100000 in
set_option maxHeartbeats 1000000 in
theorem refPut_any (A : Option Addr) (l : List UInt8) (m cap : Nat) (n : Int) (w : World) (hm : m = l.length) (hlen : m ≤ 140737489403894) (h0 : -9223372036854775808 ≤ n) (h1 : n ≤ 9223372036854775807) (hr : Rds w A (cells8 l)) :
    Calls Tryz.prog 56 #[.slice A m cap, .int .i64 n] w (Gives8 w (l ++ num n)) := by
  have hf0 := fold_pos n
  have hf1 := fold_lt h0 h1
  have Hst := Lib.hid (ComeL.start n h0 h1)
  have Hm := Lib.hid hm
  clear hm
  obtain ⟨i0, hi, hz, hs1, hb1⟩ := info_parts info8
  have Hi := Lib.hid hi
  have Hz := Lib.hid hz
  have Hs1 := Lib.hid hs1
  have Hb1 := Lib.hid hb1
  clear hi hz hs1 hb1
  have Hf : Hid (foldI n = if n < 0 then -2 * n - 1 else 2 * n) := rfl
  by_cases hneg : n < 0
  all_goals
    go_enter Tryz.func56, Tryz.ntmps56
    go_wp2_with (at_builtin
                 refine wpList_append_rds rfl (.tmp 7) (.tmp 8) 33 rfl w.heap.size 5 i0 _ 1 Tryz.underlying33 Hi.out Hz.out Hs1.out Hb1.out rfl (.slice none 0 0) 0 [] rfl (World.ownsRow_nil _ _ _ _) A m cap (cells8 l) rfl (by rw [cells8_length, Hm.out]) hr (cells8_one l) (by unfold maxLen; omega) (by omega) (Nat.le_refl _) ?_
                 intro v1 w1 hown1 hg1
                 have hb1 : Below w.heap.size w w1 := below_own (Below.refl _ _) (World.ownsRow_nil w w.heap.size 5 1) (Nat.le_refl _) (Nat.le_refl _) hg1
                 have Hown1 := Lib.hid hown1
                 have Hb1' := Lib.hid hb1
                 clear hown1 hg1 hb1)
    go_loopw [5, 6] (fun o u wr => Rel w l n o u wr) (fun _ u _ => (intOf u).toNat)
    case atStart =>
      have hf := Hf.out
      first | rw [if_pos hneg] at hf | rw [if_neg (by omega)] at hf
      refine ⟨0, (foldI n).toNat, [], by omega, ?_, Hst.out, by simpa [Hm.out] using Hown1.out, Hb1'.out⟩
      congr 1
      omega
    case round =>
      obtain ⟨k, v, p, hk, rfl, hc, hown, hbel⟩ := hrel
      have hvb := hc.big
      have Hown := Lib.hid hown
      have hsz := hbel.size
      have Hbel := Lib.hid hbel
      have hml : l.length ≤ m := Nat.le_of_eq Hm.out.symm
      by_cases hv : 128 ≤ v
      · have hk8 := hc.more hk hv
        have Hstep := Lib.hid (hc.step hk8 hv)
        clear hc hown hbel
        go_wp2_with (at_builtin
                     refine wpList_append_rds rfl (.tmp 23) (.tmp 28) 33 rfl w.heap.size 5 i0 _ 1 Tryz.underlying33 Hi.out Hz.out Hs1.out Hb1.out rfl _ (l.length + k) (cells8 (l ++ p)) rfl (Hown.out.alloc _) (some ⟨wr.heap.size, 0, none⟩) 1 1 [.int .u8 ((v : Int) % 128 + 128)] rfl rfl (rds_one _ _ _) (by simp [Value.oneCell']) (by unfold maxLen; omega) (by omega) (by simp; omega) ?_
                     intro v2 w2 hown2 hg2
                     have hb2 : Below w.heap.size w w2 := below_own (Hbel.out.alloc hsz _) (Hown.out.alloc _) (Nat.le_refl _) (by simp; omega) hg2
                     have Hown2 := Lib.hid hown2
                     have Hb2 := Lib.hid hb2
                     clear hown2 hg2 hb2)
        go_roundw
        case rel =>
          refine ⟨k + 1, v / 128, p ++ [UInt8.ofNat (v % 128 + 128)], by omega, by go_num, Hstep.out, ?_, Hb2.out⟩
          have h := Hown2.out
          have e : (v : Int) % 128 + 128 = ((v % 128 + 128 : Nat) : Int) := by omega
          rw [e, one8 _ (by omega), ← cells8_append, List.append_assoc] at h
          exact h
        case measure => simp [intOf]; omega
      · have Hlast := Lib.hid (hc.last (by omega))
        have hlen2 := Lib.hid hc.2.1
        clear hc hown hbel
        have hlt : v < 128 := by omega
        go_wp2_with (at_builtin
                     refine wpList_append_rds rfl (.tmp 32) (.tmp 35) 33 rfl w.heap.size 5 i0 _ 1 Tryz.underlying33 Hi.out Hz.out Hs1.out Hb1.out rfl _ (l.length + k) (cells8 (l ++ p)) rfl (Hown.out.alloc _) (some ⟨wr.heap.size, 0, none⟩) 1 1 [.int .u8 (v : Int)] rfl rfl (rds_one _ _ _) (by simp [Value.oneCell']) (by unfold maxLen; omega) (by omega) (by simp; omega) ?_
                     intro v2 w2 hown2 hg2
                     have hb2 : Below w.heap.size w w2 := below_own (Hbel.out.alloc hsz _) (Hown.out.alloc _) (Nat.le_refl _) (by simp; omega) hg2
                     have Hown2 := Lib.hid hown2
                     have Hb2 := Lib.hid hb2
                     clear hown2 hg2 hb2)
        go_ret
        refine ⟨v2, rfl, ?_, Hb2.out⟩
        have h := Hown2.out
        rw [one8 _ (by omega), ← cells8_append, List.append_assoc] at h
        have e : (l ++ num n).length = l.length + k + 1 := by rw [Hlast.out]; simp [hlen2.out, Nat.add_assoc]
        rw [e, Hlast.out]
        exact h

end RefPut
end Go.Proofs.YthkkcecfenohjaaGreatDoor
