/-
  The functions that turn a number into one without a sign and back: what each of them returns, for every number.
  The functions that tell names, in the program and in the document's own answers: what each of them returns, for every text.
-/
import Derived.Test.YtiagjnimafdbhaaGreatDoorProg
import Derived.Test.YtiagjnimafdbhaaGreatDoorBinM
import Derived.WalkKit
import Derived.LoopTactic
import Derived.WalkSpells
import Derived.Lib.Hide
namespace Go.Proofs.YtiagjnimafdbhaaGreatDoor
namespace BinNum
open Go.RowKit BinM

theorem ret_int {k : IntKind} {a b : Int} (h : a = b) : Ending.returned (.int k a) = .returned (.int k b) := by rw [h]
theorem ret_bool {a b : Bool} (h : a = b) : Ending.returned (.bool a) = .returned (.bool b) := by rw [h]

theorem fold_any (n : Int) (w : World) (h0 : -9223372036854775808 ≤ n) (h1 : n ≤ 9223372036854775807) :
    Calls Tryz.prog 186 #[.int .i64 n] w fun e w' => e = .returned (.int .u64 (foldI n)) ∧ w = w' := by
  by_cases h : n < 0
  · go_enter Tryz.func186, Tryz.ntmps186
    go_wp2
    go_ret
    exact ⟨ret_int (by unfold foldI; rw [if_pos h]; omega), rfl⟩
  · go_enter Tryz.func186, Tryz.ntmps186
    go_wp2
    go_ret
    exact ⟨ret_int (by unfold foldI; rw [if_neg (by omega)]), rfl⟩



end BinNum
end Go.Proofs.YtiagjnimafdbhaaGreatDoor

namespace Go.Proofs.YtiagjnimafdbhaaGreatDoor
namespace BinName
open Go.RowKit BinM

theorem ret_bool {a b : Bool} (h : a = b) : Ending.returned (.bool a) = .returned (.bool b) := by rw [h]

theorem letter_any (x : Int) (w : World) (h0 : 0 ≤ x) (h1 : x ≤ 255) :
    Calls Tryz.prog 109 #[.int .u8 x] w fun e w' => e = .returned (.bool (isLet x)) ∧ w = w' := by
  rcases (by omega : x < 65 ∨ (65 ≤ x ∧ x ≤ 90) ∨ (91 ≤ x ∧ x ≤ 94) ∨ x = 95 ∨ x = 96 ∨ (97 ≤ x ∧ x ≤ 122) ∨ 123 ≤ x) with h | h | h | h | h | h | h
  all_goals
    first | (obtain ⟨ha, hb⟩ := h) | (subst h) | skip
    go_enter Tryz.func109, Tryz.ntmps109
    go_wp2
    go_ret
    exact ⟨ret_bool (by rw [Bool.eq_iff_iff]; simp [isLet] <;> omega), rfl⟩

theorem digit_any (x : Int) (w : World) (h0 : 0 ≤ x) (h1 : x ≤ 255) :
    Calls Tryz.prog 110 #[.int .u8 x] w fun e w' => e = .returned (.bool (isDig x)) ∧ w = w' := by
  rcases (by omega : x < 48 ∨ (48 ≤ x ∧ x ≤ 57) ∨ 58 ≤ x) with h | h | h
  all_goals
    first | (obtain ⟨ha, hb⟩ := h) | skip
    go_enter Tryz.func110, Tryz.ntmps110
    go_wp2
    go_ret
    exact ⟨ret_bool (by rw [Bool.eq_iff_iff]; simp [isDig] <;> omega), rfl⟩


/-- For every text: bin.Name tells whether it is a name. -/
theorem name_any (s : ByteArray) (w : World) (hs : s.size ≤ maxLen) :
    Calls Tryz.prog 57 #[.string s] w fun e w' => e = .returned (.bool (nameB s.data.toList)) ∧ w = w' := by
  unfold maxLen at hs
  by_cases hc : 1 ≤ s.size ∧ s.size ≤ 24
  · obtain ⟨hc1, hc2⟩ := hc
    go_enter Tryz.func57, Tryz.ntmps57
    go_wp2
    go_loop [14, 3] (fun i _ => ∃ k : Nat, k ≤ s.size ∧ i = .int .i64 k ∧ restB 0 (s.data.toList.take k) = true) (fun i _ => s.size - (intOf i).toNat)
    case atStart => exact ⟨0, Nat.zero_le _, rfl, rfl⟩
    case round =>
      obtain ⟨k, hk, rfl, hr⟩ := hrel
      have Hr := Lib.hid hr
      clear hr
      by_cases hlt : k < s.size
      · have c0 : (0 : Int) ≤ (s[k].toNat : Int) := by omega
        have c1 : (s[k].toNat : Int) ≤ 255 := by have := s[k].toNat_lt; omega
        have hz : k = 0 ∨ 0 < k := by omega
        cases hL : isLet (s[k].toNat : Int)
        · rcases hz with rfl | hz
          · have hno : okB 0 s[0] = false := by simp [okB, okI, hL]
            have Hno := Lib.hid hno
            clear hno
            go_wp2_with (go_at_call 109; refine (letter_any _ _ (by omega) (by omega)).mono ?_; rintro e w' ⟨rfl, rfl⟩)
            go_ret
            exact ⟨ret_bool (nameB_false_at s 0 hlt Hno.out).symm, rfl⟩
          · have hk0 : ((k : Int) == 0) = false := by simp; omega
            cases hD : isDig (s[k].toNat : Int)
            · have hno : okB k s[k] = false := by simp [okB, okI, hL, hD]
              have Hno := Lib.hid hno
              clear hno
              go_wp2_with (first | (go_at_call 109; refine (letter_any _ _ (by omega) (by omega)).mono ?_; rintro e w' ⟨rfl, rfl⟩) | (go_at_call 110; refine (digit_any _ _ (by omega) (by omega)).mono ?_; rintro e w' ⟨rfl, rfl⟩))
              go_ret
              exact ⟨ret_bool (nameB_false_at s k hlt Hno.out).symm, rfl⟩
            · have hyes : okB k s[k] = true := by simp [okB, okI, hD]; omega
              have hsn := restB_take_succ s k hlt
              rw [hyes, Hr.out] at hsn
              have Hsn := Lib.hid hsn
              clear hsn hyes
              go_wp2_with (first | (go_at_call 109; refine (letter_any _ _ (by omega) (by omega)).mono ?_; rintro e w' ⟨rfl, rfl⟩) | (go_at_call 110; refine (digit_any _ _ (by omega) (by omega)).mono ?_; rintro e w' ⟨rfl, rfl⟩))
              go_round
              case rel => exact ⟨k + 1, by omega, by go_num, Hsn.out⟩
              case measure => simp [intOf]; omega
        · have hyes : okB k s[k] = true := by simp [okB, okI, hL]
          have hsn := restB_take_succ s k hlt
          rw [hyes, Hr.out] at hsn
          have Hsn := Lib.hid hsn
          clear hsn hyes
          go_wp2_with (go_at_call 109; refine (letter_any _ _ (by omega) (by omega)).mono ?_; rintro e w' ⟨rfl, rfl⟩)
          go_round
          case rel => exact ⟨k + 1, by omega, by go_num, Hsn.out⟩
          case measure => simp [intOf]; omega
      · go_wp2
        go_ret
        have hl : s.data.toList.length = s.size := by simp
        have hr := Hr.out
        rw [List.take_of_length_le (by omega)] at hr
        exact ⟨ret_bool (nameB_of s hc1 hc2 hr).symm, rfl⟩
  · have hno := nameB_short s hc
    have Hno := Lib.hid hno
    clear hno
    rcases (by omega : s.size < 1 ∨ (1 ≤ s.size ∧ 24 < s.size)) with h | h
    · clear hc
      go_enter Tryz.func57, Tryz.ntmps57
      go_wp2
      go_ret
      exact ⟨ret_bool Hno.out.symm, rfl⟩
    · clear hc
      obtain ⟨h1, h2⟩ := h
      go_enter Tryz.func57, Tryz.ntmps57
      go_wp2
      go_ret
      exact ⟨ret_bool Hno.out.symm, rfl⟩

theorem ok_t {k : Nat} {x : Int} (h : ((65 ≤ x ∧ x ≤ 90) ∨ (97 ≤ x ∧ x ≤ 122) ∨ x = 95) ∨ (0 < k ∧ 48 ≤ x ∧ x ≤ 57)) : okI k x = true := by
  unfold okI isLet isDig
  rcases h with h | ⟨h1, h2⟩
  · simp [h]
  · have : k ≠ 0 := by omega
    simp [h2, this]
theorem ok_f {k : Nat} {x : Int} (h : ¬ (((65 ≤ x ∧ x ≤ 90) ∨ (97 ≤ x ∧ x ≤ 122) ∨ x = 95) ∨ (0 < k ∧ 48 ≤ x ∧ x ≤ 57))) : okI k x = false := by
  cases e : okI k x
  · rfl
  · exfalso
    apply h
    unfold okI isLet isDig at e
    simp at e
    omega

set_option maxHeartbeats 2000000 in
/-- For every text: the document's own answer tells whether it is a name. -/
theorem refName_any (s : ByteArray) (w : World) (hs : s.size ≤ maxLen) :
    Calls Tryz.prog 74 #[.string s] w fun e w' => e = .returned (.bool (nameB s.data.toList)) ∧ w = w' := by
  unfold maxLen at hs
  by_cases hc : 1 ≤ s.size ∧ s.size ≤ 24
  · obtain ⟨hc1, hc2⟩ := hc
    go_enter Tryz.func74, Tryz.ntmps74
    go_wp2
    go_loop [3, 4, 5, 6] (fun i _ _ _ => ∃ k : Nat, k ≤ s.size ∧ i = .int .i64 k ∧ restB 0 (s.data.toList.take k) = true) (fun i _ _ _ => s.size - (intOf i).toNat)
    case atStart => exact ⟨0, Nat.zero_le _, rfl, rfl⟩
    case round =>
      obtain ⟨k, hk, rfl, hr⟩ := hrel
      have Hr := Lib.hid hr
      clear hr
      by_cases hlt : k < s.size
      · have c0 : (0 : Int) ≤ (s[k].toNat : Int) := by omega
        have c1 : (s[k].toNat : Int) ≤ 255 := by have := s[k].toNat_lt; omega
        by_cases hok : ((65 ≤ (s[k].toNat : Int) ∧ (s[k].toNat : Int) ≤ 90) ∨ (97 ≤ (s[k].toNat : Int) ∧ (s[k].toNat : Int) ≤ 122) ∨ (s[k].toNat : Int) = 95) ∨ (0 < k ∧ 48 ≤ (s[k].toNat : Int) ∧ (s[k].toNat : Int) ≤ 57)
        · have hyes : okB k s[k] = true := ok_t hok
          have hsn := restB_take_succ s k hlt
          rw [hyes, Hr.out] at hsn
          have Hsn := Lib.hid hsn
          clear hsn hyes
          rcases hok with (⟨ha, hb⟩ | ⟨ha, hb⟩ | hx) | ⟨hz, ha, hb⟩
          all_goals
            first | (have Hx := Lib.hid hx; have ha : 95 ≤ (s[k].toNat : Int) := by omega; have hb : (s[k].toNat : Int) ≤ 95 := by omega; clear hx) | skip
            first | (have hk0 : ((k : Int) == 0) = false := by (simp; omega)) | skip
            first | (have h95 : ((s[k].toNat : Int) == 95) = false := by (simp; omega)) | skip
            go_wp2
            go_round
            case rel => exact ⟨k + 1, by omega, by go_num, Hsn.out⟩
            case measure => simp [intOf]; omega
        · have hno : okB k s[k] = false := ok_f hok
          have Hno := Lib.hid hno
          clear hno
          rcases (by omega : (s[k].toNat : Int) < 48 ∨ ((k : Nat) = 0 ∧ 48 ≤ (s[k].toNat : Int) ∧ (s[k].toNat : Int) ≤ 57) ∨ (58 ≤ (s[k].toNat : Int) ∧ (s[k].toNat : Int) ≤ 64) ∨ (91 ≤ (s[k].toNat : Int) ∧ (s[k].toNat : Int) ≤ 94) ∨ (96 ≤ (s[k].toNat : Int) ∧ (s[k].toNat : Int) ≤ 96) ∨ 123 ≤ (s[k].toNat : Int)) with h | ⟨h, h', h''⟩ | ⟨h, h'⟩ | ⟨h, h'⟩ | ⟨h, h'⟩ | h
          all_goals
            have h95 : ((s[k].toNat : Int) == 95) = false := by simp; omega
            first | (have d90 : decide ((s[k].toNat : Int) ≤ 90) = false := by (simp; omega)) | (have d90 : decide ((s[k].toNat : Int) ≤ 90) = true := by (simp; omega))
            first | (have d122 : decide ((s[k].toNat : Int) ≤ 122) = false := by (simp; omega)) | (have d122 : decide ((s[k].toNat : Int) ≤ 122) = true := by (simp; omega))
            first | (have d57 : decide ((s[k].toNat : Int) ≤ 57) = false := by (simp; omega)) | (have d57 : decide ((s[k].toNat : Int) ≤ 57) = true := by (simp; omega))
            clear hok
            first | (subst h) | skip
            go_wp2
            go_ret
            exact ⟨ret_bool (nameB_false_at s _ hlt Hno.out).symm, rfl⟩
      · go_wp2
        go_ret
        have hl : s.data.toList.length = s.size := by simp
        have hr := Hr.out
        rw [List.take_of_length_le (by omega)] at hr
        exact ⟨ret_bool (nameB_of s hc1 hc2 hr).symm, rfl⟩
  · have hno := nameB_short s hc
    have Hno := Lib.hid hno
    clear hno
    rcases (by omega : s.size < 1 ∨ (1 ≤ s.size ∧ 24 < s.size)) with h | h
    · clear hc
      go_enter Tryz.func74, Tryz.ntmps74
      go_wp2
      go_ret
      exact ⟨ret_bool Hno.out.symm, rfl⟩
    · clear hc
      obtain ⟨h1, h2⟩ := h
      go_enter Tryz.func74, Tryz.ntmps74
      go_wp2
      go_ret
      exact ⟨ret_bool Hno.out.symm, rfl⟩

end BinName
end Go.Proofs.YtiagjnimafdbhaaGreatDoor
