/-
  The document's list of holds: find, Owner, Of, Enter: what each of them hands back.
-/
import Derived.Test.YtkjkofdjnjihjaaLkE
import Derived.BigQuiet
namespace Go.Proofs.Ytkjkofdjnjihjaa
namespace LkR
open Go.RowKit Go.Shelf Base BinM LkM LkA LkB LkE

abbrev LR (w : World) (b : Nat) (A : Option Addr) (c : Nat) (hs : List Ho) : Prop := Lk 28 56 w b A c hs
/-- where a thing stands, as a number -/
def fndV (hs : List Ho) (x : Int) : Int := if fnd hs x < hs.length then (fnd hs x : Int) else -1

set_option maxRecDepth 100000 in
set_option maxHeartbeats 2000000 in
theorem find_any {w : World} {b : Nat} {A : Option Addr} {c : Nat} {hs : List Ho} (H : LR w b A c hs) (hl : hs.length ≤ 100000) (x : Int) :
    Calls Try.prog 26 #[.pointer (some ⟨b, 0, none⟩), .int .i64 x] w fun e w' => e = .returned (.int .i64 (fndV hs x)) ∧ w' = w := by
  have c0 := H.box.cell 0
  have HH := Lib.hid H
  clear H
  go_enter Try.func26, Try.ntmps26
  go_wp2_with fail
  go_loopw [5] (fun i wr => ∃ j : Nat, j ≤ hs.length ∧ i = .int .i64 j ∧ w = wr ∧ ∀ k (_ : k < j) (hk : k < hs.length), hs[k].a ≠ x) (fun i _ => hs.length - (intOf i).toNat)
  case atStart => exact ⟨0, Nat.zero_le _, rfl, rfl, fun k h => absurd h (Nat.not_lt_zero _)⟩
  case round =>
    obtain ⟨j, hj, rfl, rfl, hno⟩ := hrel
    have HNo := Lib.hid hno
    clear hno
    by_cases hlt : j < hs.length
    · obtain ⟨g, rfl, _, _⟩ := HH.out.at_ (by omega)
      have q0 := (HH.out.cells hlt).1
      have hj1 : (j : Int) < (hs.length : Int) := by omega
      have HHit : Hid (hs[j].a = x → fndV hs x = (j : Int)) := Lib.hid (fun e => by
        have h := fnd_hit hlt (fun k hk hk2 => HNo.out k hk hk2) e
        unfold fndV
        rw [h, if_pos hlt])
      have HNx : Hid (hs[j].a ≠ x → ∀ k (_ : k < j + 1) (hk : k < hs.length), hs[k].a ≠ x) := Lib.hid (fun e k hk hk2 => by
        rcases Nat.lt_or_ge k j with h | h
        · exact HNo.out k h hk2
        · obtain rfl : k = j := by omega
          exact e)
      generalize hs[j].a = y at *
      by_cases hy : y = x
      · have hy1 : (y == x) = true := by simpa using hy
        have HZ := Lib.hid (HHit.out hy)
        clear hy HHit HNx
        go_wp2_with fail
        go_ret
        exact ⟨by rw [HZ.out]; rfl, rfl⟩
      · have hy1 : (y == x) = false := by simpa using hy
        have HZ := Lib.hid (HNx.out hy)
        clear HHit HNx
        go_wp2_with fail
        go_roundw
        case rel => exact ⟨j + 1, by omega, by go_num, trivial, HZ.out⟩
        case measure => simp [intOf]; omega
    · have hj1 : ¬ (j : Int) < (hs.length : Int) := by omega
      have HZ : Hid (fndV hs x = -1) := Lib.hid (by
        have h := fnd_miss (hs := hs) (x := x) (fun k hk => HNo.out k (by omega) hk)
        unfold fndV
        rw [h, if_neg (by omega)])
      go_wp2_with fail
      go_ret
      exact ⟨by rw [HZ.out]; rfl, rfl⟩

set_option maxRecDepth 100000 in
set_option maxHeartbeats 2000000 in
theorem owner_any {w : World} {b : Nat} {A : Option Addr} {c : Nat} {hs : List Ho} (H : LR w b A c hs) (hl : hs.length ≤ 100000) (x : Int) :
    Calls Try.prog 11 #[.pointer (some ⟨b, 0, none⟩), .int .i64 x] w fun e w' => e = .returned (.tuple #[.int .i64 (ownerT hs x).1, .int .i64 (ownerT hs x).2.1, .bool (ownerT hs x).2.2]) ∧ ∃ q, w' = w.drewN q := by
  have c0 := H.box.cell 0
  have HFi := Lib.hid (find_any H hl x)
  by_cases hlt : fnd hs x < hs.length
  · have hv : fndV hs x = (fnd hs x : Int) := by unfold fndV; rw [if_pos hlt]
    rw [hv] at HFi
    obtain ⟨g, rfl, _, _⟩ := H.at_ (by omega)
    have q1 := (H.cells hlt).2.1
    have q2 := (H.cells hlt).2.2
    have HE := Lib.hid (show ownerT hs x = ((hs[fnd hs x]'hlt).w, (hs[fnd hs x]'hlt).n, true) by
      unfold ownerT
      rw [List.getElem?_eq_getElem hlt])
    clear H hv
    generalize fnd hs x = k at *
    generalize hs[k].w = y at *
    generalize hs[k].n = z at *
    have hk1 : (k : Int) < (hs.length : Int) := by omega
    go_enter Try.func11, Try.ntmps11
    go_wp2_with (go_at_call 26; refine HFi.out.mono ?_; rintro e w1 ⟨rfl, rfl⟩)
    go_quiet (fail)
    go_wp2_with fail
    go_ret3
    rw [HE.out]
    exact ⟨rfl, _, rfl⟩
  · have hv : fndV hs x = -1 := by unfold fndV; rw [if_neg hlt]
    rw [hv] at HFi
    have HE := Lib.hid (show ownerT hs x = (0, 0, false) by
      unfold ownerT
      rw [List.getElem?_eq_none (by omega)])
    clear H hv hlt
    go_enter Try.func11, Try.ntmps11
    go_wp2_with (go_at_call 26; refine HFi.out.mono ?_; rintro e w1 ⟨rfl, rfl⟩)
    go_ret3
    rw [HE.out]
    exact ⟨rfl, 0, rfl⟩

set_option maxRecDepth 100000 in
set_option maxHeartbeats 2000000 in
theorem of_any {w : World} {b : Nat} {A : Option Addr} {c : Nat} {hs : List Ho} (H : LR w b A c hs) (hl : hs.length ≤ 100000) (x : Int) :
    Calls Try.prog 16 #[.pointer (some ⟨b, 0, none⟩), .int .i64 x] w fun e w' => e = .returned (.int .i64 (ofT hs x : Int)) ∧ w' = w := by
  have c0 := H.box.cell 0
  have HH := Lib.hid H
  clear H
  go_enter Try.func16, Try.ntmps16
  go_wp2_with fail
  go_loopw [5, 6] (fun n i wr => ∃ j m : Nat, j ≤ hs.length ∧ m ≤ j ∧ i = .int .i64 j ∧ n = .int .i64 m ∧ w = wr ∧ m = ofT (hs.take j) x) (fun _ i _ => hs.length - (intOf i).toNat)
  case atStart => exact ⟨0, 0, Nat.zero_le _, Nat.zero_le _, rfl, rfl, rfl, by simp [ofT]⟩
  case round =>
    obtain ⟨j, m, hj, hmj, rfl, rfl, rfl, hm⟩ := hrel
    have HM := Lib.hid hm
    clear hm
    by_cases hlt : j < hs.length
    · obtain ⟨g, rfl, _, _⟩ := HH.out.at_ (by omega)
      have q0 := (HH.out.cells hlt).2.1
      have hj1 : (j : Int) < (hs.length : Int) := by omega
      have HS : Hid (ofT (hs.take (j + 1)) x = m + if hs[j].w = x then 1 else 0) := Lib.hid (by
        rw [List.take_succ_eq_append_getElem hlt, HM.out]
        unfold ofT
        rw [List.countP_append, List.countP_singleton]
        simp)
      generalize hs[j].w = y at *
      by_cases hy : y = x
      · have hy1 : (y == x) = true := by simpa using hy
        have HZ : Hid (m + 1 = ofT (hs.take (j + 1)) x) := Lib.hid (by rw [HS.out, if_pos hy])
        clear hy HS
        go_wp2_with fail
        go_roundw
        case rel => exact ⟨j + 1, m + 1, by omega, by omega, by go_num, by go_num, trivial, HZ.out⟩
        case measure => simp [intOf]; omega
      · have hy1 : (y == x) = false := by simpa using hy
        have HZ : Hid (m = ofT (hs.take (j + 1)) x) := Lib.hid (by rw [HS.out, if_neg hy]; rfl)
        clear HS
        go_wp2_with fail
        go_roundw
        case rel => exact ⟨j + 1, m, by omega, by omega, by go_num, rfl, trivial, HZ.out⟩
        case measure => simp [intOf]; omega
    · have hj1 : ¬ (j : Int) < (hs.length : Int) := by omega
      have HZ : Hid (ofT hs x = m) := Lib.hid (by rw [HM.out, List.take_of_length_le (by omega)])
      go_wp2_with fail
      go_ret
      exact ⟨by rw [HZ.out]; rfl, rfl⟩
end LkR
end Go.Proofs.Ytkjkofdjnjihjaa
