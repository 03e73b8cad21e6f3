/-
  bin.Get: what it returns, for all cells8 and every place.
-/
import Derived.Test.YthkkcecfenohjaaGreatDoorBinNum
import Derived.Test.YthkkcecfenohjaaGreatDoorBinE
import Derived.Test.YthkkcecfenohjaaGreatDoorBase
import Derived.Laws.BitsAllLaws
namespace Go.Proofs.YthkkcecfenohjaaGreatDoor
namespace BinGet
open Go.RowKit BinM BinNum Base BinE

/-- three numbers as a call hands them back -/
def three (r : Int × Int × Int) : Value := .tuple #[.int .i64 r.1, .int .i64 r.2.1, .int .i64 r.2.2]

theorem ret3 {r : Int × Int × Int} {a b c : Int} (h : r = (a, b, c)) : Ending.returned (.tuple #[.int .i64 a, .int .i64 b, .int .i64 c]) = .returned (three r) := by subst h; rfl

theorem low7 (c : Int) (h0 : 0 ≤ c) (h1 : c ≤ 255) : bits .andNot .u8 c 128 = c % 128 := by
  rw [u8_andNot c 128 h0 (by omega) (by omega) (by omega)]
  show ((c.toNat &&& 127 : Nat) : Int) = _
  rw [nat_mask7]; omega
theorem top_t (c : Int) (h0 : 128 ≤ c) (h1 : c ≤ 255) : (bits .and .u8 c 128 == 0) = false := by
  rw [u8_and c 128 (by omega) (by omega) (by omega) (by omega)]
  show (((c.toNat &&& 2 ^ 7 : Nat) : Int) == 0) = false
  rw [nat_bit]; simp; omega
theorem top_f (c : Int) (h0 : 0 ≤ c) (h1 : c < 128) : (bits .and .u8 c 128 == 0) = true := by
  rw [u8_and c 128 (by omega) (by omega) (by omega) (by omega)]
  show (((c.toNat &&& 2 ^ 7 : Nat) : Int) == 0) = true
  rw [nat_bit]; simp; omega

/-- one more piece put on: what the slot holds -/
def onto (v c : Int) (k : Nat) : Int := bits BinOp.or IntKind.u64 v (IntKind.u64.wrap (IntKind.u64.wrap (bits BinOp.andNot IntKind.u8 c 128) * 2 ^ (7 * k)))

theorem onto_in (v c : Int) (k : Nat) (h0 : 0 ≤ v) (h1 : v ≤ 18446744073709551615) : 0 ≤ onto v c k ∧ onto v c k ≤ 18446744073709551615 := by
  unfold onto
  generalize IntKind.u64.wrap (bits BinOp.andNot IntKind.u8 c 128) * 2 ^ (7 * k) = x
  have hw : 0 ≤ IntKind.u64.wrap x ∧ IntKind.u64.wrap x < 18446744073709551616 := by
    have : IntKind.u64.wrap x = x % 18446744073709551616 := by simp [IntKind.wrap, IntKind.bits, IntKind.signed]
    rw [this]; omega
  rw [u64_or v _ h0 (by omega) hw.1 hw.2]
  have h2 : v.toNat < 2 ^ 64 := by omega
  have h3 : (IntKind.u64.wrap x).toNat < 2 ^ 64 := by omega
  have := Nat.or_lt_two_pow h2 h3
  omega

theorem onto_val (l : List UInt8) (c : UInt8) (hk : l.length ≤ 8 ∨ (l.length = 9 ∧ c.toNat ≤ 1)) : onto (val l : Int) (c.toNat : Int) l.length = (val (l ++ [c]) : Int) := by
  have hc : c.toNat < 256 := c.toNat_lt
  have hv := val_lt l
  have e7 : (128 : Nat) ^ l.length = 2 ^ (7 * l.length) := by rw [show (128 : Nat) = 2 ^ 7 by decide, ← Nat.pow_mul]
  have hp : (128 : Nat) ^ l.length ≤ 128 ^ 9 := Nat.pow_le_pow_right (by omega) (by omega)
  have e63 : (128 : Nat) ^ 9 = 9223372036854775808 := by decide
  have hm : c.toNat % 128 * 128 ^ l.length + 128 ^ l.length ≤ 18446744073709551616 := by
    rcases hk with h8 | ⟨h9, h1⟩
    · have h8' : (128 : Nat) ^ l.length ≤ 128 ^ 8 := Nat.pow_le_pow_right (by omega) h8
      have e56 : (128 : Nat) ^ 8 = 72057594037927936 := by decide
      have : c.toNat % 128 * 128 ^ l.length ≤ 127 * 128 ^ l.length := Nat.mul_le_mul_right _ (by omega)
      omega
    · have : c.toNat % 128 * 128 ^ l.length ≤ 1 * 128 ^ l.length := Nat.mul_le_mul_right _ (by omega)
      omega
  unfold onto
  rw [low7 _ (by omega) (by omega)]
  have wr : ∀ x : Int, 0 ≤ x → x < 18446744073709551616 → IntKind.u64.wrap x = x := by
    intro x a b
    have : IntKind.u64.wrap x = x % 18446744073709551616 := by simp [IntKind.wrap, IntKind.bits, IntKind.signed]
    rw [this]; omega
  rw [wr ((c.toNat : Int) % 128) (by omega) (by omega)]
  have ec : ((c.toNat : Int) % 128) * 2 ^ (7 * l.length) = ((c.toNat % 128 * 128 ^ l.length : Nat) : Int) := by rw [e7]; simp
  rw [ec, wr _ (by omega) (by omega), u64_or_nat _ _ (by omega) (by omega)]
  rw [Nat.or_comm, nat_join (7 * l.length) (c.toNat % 128 * 128 ^ l.length) (val l) (by rw [e7]; exact Nat.mul_mod_left _ _) (by rw [← e7]; exact hv)]
  rw [val_snoc]
  omega

theorem getS_out {l : List UInt8} {a : Int} (h : a < 0 ∨ (l.length : Int) < a) : getS l a = (0, 0, 3) := by unfold getS; rw [if_pos h]
theorem getS_in {l : List UInt8} {a : Nat} (h : a ≤ l.length) : getS l a = if (getL (l.drop a)).2.2 = 0 then ((getL (l.drop a)).1, (a : Int) + ((getL (l.drop a)).2.1 : Int), 0) else (0, 0, (getL (l.drop a)).2.2) := by
  unfold getS; rw [if_neg (by omega)]; simp
theorem getS_short {l : List UInt8} {a : Nat} (h : a ≤ l.length) (h1 : lead (l.drop a) < 10) (h2 : (l.drop a).length ≤ lead (l.drop a)) : getS l a = (0, 0, 4) := by
  rw [getS_in h]
  have : getL (l.drop a) = (0, 0, 4) := by unfold getL; rw [if_neg (by omega), if_pos h2]
  rw [this]; simp
theorem getS_long {l : List UInt8} {a : Nat} (h : a ≤ l.length) (h1 : 10 ≤ lead (l.drop a)) : getS l a = (0, 0, 5) := by
  rw [getS_in h]
  have : getL (l.drop a) = (0, 0, 5) := by unfold getL; rw [if_pos h1]
  rw [this]; simp
theorem getS_bad {l : List UInt8} {a : Nat} (h : a ≤ l.length) (h1 : lead (l.drop a) < 10) (h2 : lead (l.drop a) < (l.drop a).length)
    (h3 : lastI (((l.drop a)[lead (l.drop a)]).toNat : Int) (lead (l.drop a) : Int) = false) : getS l a = (0, 0, 5) := by
  rw [getS_in h]
  have hg : (l.drop a).getD (lead (l.drop a)) 0 = (l.drop a)[lead (l.drop a)] := by rw [List.getD_eq_getElem?_getD, List.getElem?_eq_getElem h2]; rfl
  have : getL (l.drop a) = (0, 0, 5) := by unfold getL; rw [if_neg (by omega), if_neg (by omega), hg, if_neg (by rw [h3]; decide)]
  rw [this]; simp
theorem getS_good {l : List UInt8} {a : Nat} (h : a ≤ l.length) (h1 : lead (l.drop a) < 10) (h2 : lead (l.drop a) < (l.drop a).length)
    (h3 : lastI (((l.drop a)[lead (l.drop a)]).toNat : Int) (lead (l.drop a) : Int) = true) : getS l a = (unfoldI (val ((l.drop a).take (lead (l.drop a) + 1)) : Int), (a : Int) + (lead (l.drop a) : Int) + 1, 0) := by
  rw [getS_in h]
  have hg : (l.drop a).getD (lead (l.drop a)) 0 = (l.drop a)[lead (l.drop a)] := by rw [List.getD_eq_getElem?_getD, List.getElem?_eq_getElem h2]; rfl
  have : getL (l.drop a) = (unfoldI (val ((l.drop a).take (lead (l.drop a) + 1)) : Int), lead (l.drop a) + 1, 0) := by unfold getL; rw [if_neg (by omega), if_neg (by omega), hg, if_pos h3]
  rw [this]; simp; omega

set_option maxHeartbeats 1000000 in
theorem get_any (A : Option Addr) (l : List UInt8) (n cap : Nat) (a : Int) (w : World) (hn : n = l.length) (hm : n ≤ maxLen) (ha0 : -9223372036854775808 ≤ a) (ha1 : a ≤ 9223372036854775807) (hr : Rds w A (cells8 l)) :
    Calls Tryz.prog 139 #[.slice A n cap, .int .i64 a] w fun e w' => e = .returned (three (getS l a)) ∧ w = w' := by
  unfold maxLen at hm
  by_cases hout : a < 0 ∨ (n : Int) < a
  · have Hg := Lib.hid (getS_out (l := l) (a := a) (by rw [← hn]; exact hout))
    have Hn := Lib.hid hn
    clear hn
    rcases hout with h | h
    · go_enter Tryz.func139, Tryz.ntmps139
      go_wp2
      go_ret3
      exact ⟨ret3 Hg.out, rfl⟩
    · have h' : ¬ a < 0 := by omega
      go_enter Tryz.func139, Tryz.ntmps139
      go_wp2
      go_ret3
      exact ⟨ret3 Hg.out, rfl⟩
  · obtain ⟨p, rfl⟩ : ∃ p : Nat, a = (p : Int) := ⟨a.toNat, by omega⟩
    have hp : p ≤ n := by omega
    clear hout ha0 ha1
    have h0 : ¬ (p : Int) < 0 := by omega
    have h1 : ¬ (n : Int) < (p : Int) := by omega
    have hpl : p ≤ l.length := by omega
    have Hn := Lib.hid hn
    clear hn
    go_enter Tryz.func139, Tryz.ntmps139
    go_wp2
    go_loop [7, 8, 9, 18] (fun u _ _ i => ∃ k : Nat, k ≤ 10 ∧ k ≤ lead (l.drop p) ∧ i = .int .i64 k ∧ ∃ v : Int, 0 ≤ v ∧ v ≤ 18446744073709551615 ∧ (k ≤ 9 → v = (val ((l.drop p).take k) : Int)) ∧ u = .int .u64 v) (fun _ _ _ i => 10 - (intOf i).toNat)
    case atStart => exact ⟨0, by omega, by omega, rfl, 0, by omega, by omega, fun _ => rfl, rfl⟩
    case round =>
      obtain ⟨k, hk, hkl, rfl, v, hv0, hv1, hv, rfl⟩ := hrel
      have Hv := Lib.hid hv
      clear hv
      have hle := lead_le (l.drop p)
      have hlen : (l.drop p).length = l.length - p := by simp
      have hkn : p + k ≤ n := by have := Hn.out; omega
      by_cases hlt : k < 10
      · by_cases hin : p + k < n
        · have hin' : k < (l.drop p).length := by have := Hn.out; omega
          have hin2 : p + k < l.length := by have := Hn.out; omega
          obtain ⟨b, o, rfl, hb, hcell⟩ := hr.at_ (k := p + k) (by rw [cells8_length]; exact hin2)
          have hcv : (cells8 l)[p + k]'(by rw [cells8_length]; exact hin2) = .int .u8 (((l.drop p)[k].toNat : Nat) : Int) := by simp [cells8, cell8]
          rw [hcv] at hcell
          have hc0 : (0 : Int) ≤ ((l.drop p)[k].toNat : Int) := by omega
          have hc1 : ((l.drop p)[k].toNat : Int) ≤ 255 := by have := (l.drop p)[k].toNat_lt; omega
          have hne : ((p : Int) + (k : Int) == (n : Int)) = false := by simp; omega
          by_cases hbig : 128 ≤ ((l.drop p)[k].toNat : Int)
          · have hk2 : k + 1 ≤ lead (l.drop p) := by
              rcases Nat.lt_or_ge k (lead (l.drop p)) with h | h
              · exact h
              · have e : lead (l.drop p) = k := by omega
                have := lead_lt (l.drop p) (by omega)
                simp only [e] at this
                omega
            have hacc : k + 1 ≤ 9 → onto v ((l.drop p)[k].toNat : Int) k = (val ((l.drop p).take (k + 1)) : Int) := by
              intro h9
              have hkt : ((l.drop p).take k).length = k := by simp only [List.length_take]; omega
              rw [List.take_succ_eq_append_getElem hin', Hv.out (by omega)]
              have := onto_val ((l.drop p).take k) (l.drop p)[k] (by omega)
              rw [hkt] at this
              exact this
            have hb2 := onto_in v ((l.drop p)[k].toNat : Int) k hv0 hv1
            have htop := top_t _ hbig hc1
            have Hacc := Lib.hid hacc
            have Hb2 := Lib.hid hb2
            clear hacc hb2 hlen hle
            generalize hci : ((l.drop p)[k].toNat : Int) = c at *
            clear hci hcv hin' hkl
            go_wp2_with fail
            go_round
            case rel => exact ⟨k + 1, by omega, hk2, by go_num, onto v c k, Hb2.out.1, Hb2.out.2, Hacc.out, rfl⟩
            case measure => simp [intOf]; omega
          · have e : lead (l.drop p) = k := lead_eq (m := k) (fun j hj hjk => lead_ge _ j hj (by omega)) (by omega) (.inr ⟨hin', by omega⟩)
            have htop := top_f _ hc0 (by omega)
            cases hL : lastI ((l.drop p)[k].toNat : Int) (k : Int)
            · have hfin := getS_bad (l := l) (a := p) hpl (by omega) (by omega) (by simp only [e]; exact hL)
              have Hfin := Lib.hid hfin
              clear hfin e hlen hle hkl
              generalize hci : ((l.drop p)[k].toNat : Int) = c at *
              clear hci hcv hin'
              go_wp2_with (go_at_call 169; refine (lastCan_any _ _ _ (by omega) (by omega) (by omega) (by omega)).mono ?_; rintro e w' ⟨rfl, rfl⟩)
              go_ret3
              exact ⟨ret3 Hfin.out, rfl⟩
            · have hfin := getS_good (l := l) (a := p) hpl (by omega) (by omega) (by simp only [e]; exact hL)
              have hL2 : lastI (((l.drop p).getD (lead (l.drop p)) 0).toNat : Int) (lead (l.drop p) : Int) = true := by
                rw [List.getD_eq_getElem?_getD, List.getElem?_eq_getElem (by omega)]
                simp only [e]; exact hL
              have hV := (num_getL (l := l.drop p) (by omega) (by omega) hL2).1
              simp only [e] at hfin hV
              have hacc : onto v ((l.drop p)[k].toNat : Int) k = (val ((l.drop p).take (k + 1)) : Int) := by
                have hkt : ((l.drop p).take k).length = k := by simp only [List.length_take]; omega
                rw [List.take_succ_eq_append_getElem hin', Hv.out (by omega)]
                have hL3 := of_decide_eq_true hL
                have := onto_val ((l.drop p).take k) (l.drop p)[k] (by omega)
                rw [hkt] at this
                exact this
              unfold onto at hacc
              generalize val ((l.drop p).take (k + 1)) = V at *
              have Hfin := Lib.hid hfin
              clear hfin e hlen hle hkl hL2
              generalize hci : ((l.drop p)[k].toNat : Int) = c at *
              clear hci hcv hin'
              go_wp2_with (first | (go_at_call 169; refine (lastCan_any _ _ _ (by omega) (by omega) (by omega) (by omega)).mono ?_; rintro e w' ⟨rfl, rfl⟩) | (go_at_call 170; refine (unfold_any _ _ (by omega) (by omega)).mono ?_; rintro e w' ⟨rfl, rfl⟩))
              go_ret3
              exact ⟨ret3 Hfin.out, rfl⟩
        · have heq : ((p : Int) + (k : Int) == (n : Int)) = true := by simp; omega
          have hfin := getS_short (l := l) (a := p) hpl (by have := Hn.out; omega) (by have := Hn.out; omega)
          have Hfin := Lib.hid hfin
          clear hfin hlen hle hkl
          go_wp2_with fail
          go_ret3
          exact ⟨ret3 Hfin.out, rfl⟩
      · have hfin := getS_long (l := l) (a := p) hpl (by omega)
        have Hfin := Lib.hid hfin
        clear hfin hlen hle hkl
        go_wp2_with fail
        go_ret3
        exact ⟨ret3 Hfin.out, rfl⟩

end BinGet
end Go.Proofs.YthkkcecfenohjaaGreatDoor
