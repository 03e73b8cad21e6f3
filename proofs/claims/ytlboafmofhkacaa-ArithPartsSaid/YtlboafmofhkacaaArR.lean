/-
  Reading a number's text: the program's way and the document's; and what must come of the law's fixed calls.
-/
import Derived.Test.YtlboafmofhkacaaShelf
import Derived.Test.YtlboafmofhkacaaArC
import Derived.Test.YtlboafmofhkacaaArT
namespace Go.Proofs.Ytlboafmofhkacaa
namespace ArR
open Go.RowKit BinM Base ArM ArC ArT

theorem head_mk (l : List UInt8) (c : UInt8) : Lib.hasPrefix l [c] = (l.head? == some c) := by
  cases l with
  | nil => rfl
  | cons a t =>
    rw [Bool.eq_iff_iff]
    simp [Lib.hasPrefix, List.isPrefixOf]
    exact eq_comm
theorem cut_l (l : List UInt8) (w : World) :
    Calls Try.prog 21 #[.string ⟨l.toArray⟩, .string ⟨#[45]⟩] w fun e w' => e = .returned (.tuple #[.string ⟨(if l.head? == some 45 then l.drop 1 else l).toArray⟩, .bool (l.head? == some 45)]) ∧ w = w' :=
  (Try.strings_CutPrefix ⟨l.toArray⟩ ⟨#[45]⟩ w).mono fun _ _ ⟨h1, h2⟩ => ⟨by
    rw [h1]
    have e := head_mk l 45
    have e2 : Lib.trimPrefix (ByteArray.mk l.toArray).data.toList (ByteArray.mk #[45]).data.toList = if l.head? == some 45 then l.drop 1 else l := by
      unfold Lib.trimPrefix
      show (if Lib.hasPrefix l [45] = true then l.drop 1 else l) = _
      rw [e]
    rw [e2, show Lib.hasPrefix (ByteArray.mk l.toArray).data.toList (ByteArray.mk #[45]).data.toList = _ from e], h2.symm⟩

theorem fold_take (l : List UInt8) (k : Nat) (h : k < l.length) : fold (l.take (k + 1)) = more (fold (l.take k)) l[k] := by
  rw [List.take_succ_eq_append_getElem h, fold_snoc]

theorem at_mk {l : List UInt8} (j : Nat) (_h : j < l.length) (h' : j < (ByteArray.mk l.toArray).size) : (ByteArray.mk l.toArray)[j]'h' = l[j]'_h := rfl

/-- what Read hands back -/
def GivesR (w : World) (r : Int × Int) (e : Ending) (w' : World) : Prop := e = .returned (.tuple #[.int .i64 r.1, .int .i64 r.2]) ∧ Below w.heap.size w w'

set_option maxHeartbeats 1000000 in
theorem read_any (s : List UInt8) (w : World) (hs : s.length ≤ 9223372036854775807) : Calls Try.prog 10 #[.string ⟨s.toArray⟩] w (GivesR w (readE s)) := by
  by_cases h20 : 20 < s.length
  · have hE := Lib.hid (show readE s = (0, 5) by unfold readE; rw [if_pos h20])
    go_enter Try.func10, Try.ntmps10
    go_wp2
    go_ret2
    exact ⟨ret_pair hE.out, Below.refl _ _⟩
  · cases hh : s.head? == some 45
    · have hdl : s.length ≤ 20 := by omega
      have hV : val s = fold s := by unfold val; rw [hh]; rfl
      have hH := Lib.hid hh
      have hT := Lib.hid (fun w => text_any (fold s) w (fold_fit s).1 (fold_fit s).2)
      have hE : Hid (∀ b, (txt (fold s) == s) = b → readE s = if b then (fold s, 0) else (0, 5)) := Lib.hid (fun b hb => by subst hb; unfold readE; rw [if_neg h20, hV])
      clear hV
      clear hh
      go_enter Try.func10, Try.ntmps10
      go_wp2_with (go_at_call 21; refine (cut_l s _).mono ?_; rw [hH.out, if_neg (by decide)]; rintro e w' ⟨rfl, rfl⟩)
      go_loop [6, 7, 18] (fun n _ i => ∃ k : Nat, k ≤ s.length ∧ i = .int .i64 (k : Int) ∧ n = .int .i64 (fold (s.take k))) (fun _ _ i => s.length - (intOf i).toNat)
      case atStart => exact ⟨0, Nat.zero_le _, rfl, rfl⟩
      case round =>
        obtain ⟨k, hk, rfl, rfl⟩ := hrel
        have hf := fold_fit (s.take k)
        by_cases hlt : k < s.length
        · have hat := fun h' => at_mk k hlt h'
          have HM := Lib.hid (fold_take s k hlt)
          have hc8 : (s[k].toNat : Int) ≤ 255 := by have := s[k].toNat_lt; omega
          go_wp2
          go_round
          case rel => exact ⟨k + 1, by omega, by go_num, by rw [HM.out]; rfl⟩
          case measure => simp [intOf]; omega
        · rw [show k = s.length by omega, List.take_length]
          cases hb : txt (fold s) == s
          · have hR := Lib.hid (show readE s = (0, 5) by have := hE.out false hb; simpa using this)
            have hb' : (!(txt (fold s) == s)) = true := by rw [hb]; rfl
            go_wp2_with (go_at_call 12; refine (hT.out _).mono ?_; rintro e w' ⟨rfl, hbl⟩)
            go_ret2
            exact ⟨ret_pair hR.out, hbl⟩
          · have hR := Lib.hid (show readE s = (fold s, 0) by have := hE.out true hb; simpa using this)
            have hb' : (!(txt (fold s) == s)) = false := by rw [hb]; rfl
            go_wp2_with (go_at_call 12; refine (hT.out _).mono ?_; rintro e w' ⟨rfl, hbl⟩)
            go_ret2
            exact ⟨ret_pair hR.out, hbl⟩
    · obtain ⟨d, hd⟩ : ∃ d, d = s.drop 1 := ⟨_, rfl⟩
      have hdl : d.length ≤ 20 := by rw [hd]; simp; omega
      have hD := Lib.hid hd
      have hV : val s = W (-(fold d)) := by unfold val; rw [hh, hd]; rfl
      have hH := Lib.hid hh
      have hT := Lib.hid (fun w => text_any (W (-(fold d))) w (W_fit _).1 (W_fit _).2)
      have hE : Hid (∀ b, (txt (W (-(fold d))) == s) = b → readE s = if b then (W (-(fold d)), 0) else (0, 5)) := Lib.hid (fun b hb => by subst hb; unfold readE; rw [if_neg h20, hV])
      clear hV
      clear hh hd
      go_enter Try.func10, Try.ntmps10
      go_wp2_with (go_at_call 21; refine (cut_l s _).mono ?_; rw [hH.out, if_pos rfl, ← hD.out]; rintro e w' ⟨rfl, rfl⟩)
      go_loop [6, 7, 18] (fun n _ i => ∃ k : Nat, k ≤ d.length ∧ i = .int .i64 (k : Int) ∧ n = .int .i64 (fold (d.take k))) (fun _ _ i => d.length - (intOf i).toNat)
      case atStart => exact ⟨0, Nat.zero_le _, rfl, rfl⟩
      case round =>
        obtain ⟨k, hk, rfl, rfl⟩ := hrel
        have hf := fold_fit (d.take k)
        by_cases hlt : k < d.length
        · have hat := fun h' => at_mk k hlt h'
          have HM := Lib.hid (fold_take d k hlt)
          have hc8 : (d[k].toNat : Int) ≤ 255 := by have := d[k].toNat_lt; omega
          go_wp2
          go_round
          case rel => exact ⟨k + 1, by omega, by go_num, by rw [HM.out]; rfl⟩
          case measure => simp [intOf]; omega
        · rw [show k = d.length by omega, List.take_length]
          cases hb : txt (W (-(fold d))) == s
          · have hR := Lib.hid (show readE s = (0, 5) by have := hE.out false hb; simpa using this)
            have hb' : (!(txt (W (-(fold d))) == s)) = true := by rw [hb]; rfl
            go_wp2_with (go_at_call 12; refine (hT.out _).mono ?_; rintro e w' ⟨rfl, hbl⟩)
            go_ret2
            exact ⟨ret_pair hR.out, hbl⟩
          · have hR := Lib.hid (show readE s = (W (-(fold d)), 0) by have := hE.out true hb; simpa using this)
            have hb' : (!(txt (W (-(fold d))) == s)) = false := by rw [hb]; rfl
            go_wp2_with (go_at_call 12; refine (hT.out _).mono ?_; rintro e w' ⟨rfl, hbl⟩)
            go_ret2
            exact ⟨ret_pair hR.out, hbl⟩

theorem foldR_take (l : List UInt8) (k : Nat) (h : k < l.length) : foldR (l.take (k + 1)) = less (foldR (l.take k)) l[k] := by
  rw [List.take_succ_eq_append_getElem h, foldR_snoc]

set_option maxHeartbeats 2000000 in
theorem refRead_any (s : List UInt8) (w : World) (hs : s.length ≤ 9223372036854775807) : Calls Try.prog 11 #[.string ⟨s.toArray⟩] w fun e w' => e = .returned (.tuple #[.int .i64 (readR s).1, .int .i64 (readR s).2]) ∧ w = w' := by
  by_cases h20 : 20 < s.length
  · have hE := Lib.hid (show readR s = (0, 5) by unfold readR; rw [if_pos h20])
    go_enter Try.func11, Try.ntmps11
    go_wp2
    go_ret2
    exact ⟨ret_pair hE.out, rfl⟩
  · by_cases hs0 : s = []
    · subst hs0
      have hE := Lib.hid (show readR [] = (0, 5) by decide +kernel)
      have hT := Lib.hid (fun w => refText_any 0 w (by omega) (by omega))
      go_enter Try.func11, Try.ntmps11
      go_wp2
      go_loop [4, 5] (fun n i => n = .int .i64 0 ∧ i = .int .i64 0) (fun _ _ => 0)
      case atStart => exact ⟨rfl, rfl⟩
      case round =>
        obtain ⟨rfl, rfl⟩ := hrel
        go_wp2_with (go_at_call 13; refine (hT.out _).mono ?_; rintro e w' ⟨rfl, rfl⟩)
        go_ret2
        exact ⟨ret_pair hE.out, rfl⟩
    · have hpos : 0 < s.length := List.length_pos_iff.2 hs0
      have hhd : s.head? = some (s[0]'hpos) := by cases s with | nil => exact absurd rfl hs0 | cons a t => rfl
      by_cases hc : (s[0]'hpos).toNat = 45
      · have hh : (s.head? == some 45) = true := by
          rw [hhd, show s[0]'hpos = 45 from UInt8.toNat_inj.1 hc]; rfl
        clear hhd hs0
        have hV : valR s = foldR s := by unfold valR; rw [hh]; rfl
        have hT := Lib.hid (fun w => refText_any (foldR s) w (foldR_fit s).1 (foldR_fit s).2)
        have hE : Hid (∀ b, (txt (foldR s) == s) = b → readR s = if b then (foldR s, 0) else (0, 5)) := Lib.hid (fun b hb => by subst hb; unfold readR; rw [if_neg h20, hV])
        have hdl : s.length ≤ 20 := by omega
        clear hV
        go_enter Try.func11, Try.ntmps11
        go_wp2
        go_loop [4, 5] (fun n i => ∃ k : Nat, k ≤ s.length ∧ i = .int .i64 (k : Int) ∧ n = .int .i64 (foldR (s.take k))) (fun _ i => s.length - (intOf i).toNat)
        case atStart => exact ⟨0, Nat.zero_le _, rfl, rfl⟩
        case round =>
          obtain ⟨k, hk, rfl, rfl⟩ := hrel
          have hf := foldR_fit (s.take k)
          by_cases hlt : k < s.length
          · have hat := fun h' => at_mk k hlt h'
            have HM := foldR_take s k hlt
            have hc8 : (s[k].toNat : Int) ≤ 255 := by have := s[k].toNat_lt; omega
            by_cases h0 : (48 : Int) ≤ (s[k].toNat : Int)
            · by_cases h9 : (s[k].toNat : Int) ≤ 57
              · have HL := Lib.hid (HM.trans (if_pos (by omega)))
                clear HM
                go_wp2
                go_round
                case rel => exact ⟨k + 1, by omega, by go_num, by rw [HL.out]⟩
                case measure => simp [intOf]; omega
              · have HL := Lib.hid (HM.trans (if_neg (by omega)))
                have h9' : decide ((s[k].toNat : Int) ≤ 57) = false := by simpa using h9
                clear HM
                go_wp2
                go_round
                case rel => exact ⟨k + 1, by omega, by go_num, by rw [HL.out]⟩
                case measure => simp [intOf]; omega
            · have HL := Lib.hid (HM.trans (if_neg (by omega)))
              have h0' : decide ((48 : Int) ≤ (s[k].toNat : Int)) = false := by simpa using h0
              clear HM
              go_wp2
              go_round
              case rel => exact ⟨k + 1, by omega, by go_num, by rw [HL.out]⟩
              case measure => simp [intOf]; omega
          · rw [show k = s.length by omega, List.take_length]
            have hx0 := fun h' => at_mk 0 hpos h'
            have hc0 : (((s[0]'hpos).toNat : Int) == 45) = true := by rw [hc]; rfl
            have hc1 : (!(((s[0]'hpos).toNat : Int) == 45)) = false := by rw [hc]; rfl
            have hl : ((s.length : Int) == 0) = false := by rw [beq_eq_false_iff_ne]; omega
            cases hb : txt (foldR s) == s
            · have hR := Lib.hid (show readR s = (0, 5) by have := hE.out false hb; simpa using this)
              have hb' : (!(txt (foldR s) == s)) = true := by rw [hb]; rfl
              go_wp2_with (go_at_call 13; refine (hT.out _).mono ?_; rintro e w' ⟨rfl, rfl⟩)
              go_ret2
              exact ⟨ret_pair hR.out, rfl⟩
            · have hR := Lib.hid (show readR s = (foldR s, 0) by have := hE.out true hb; simpa using this)
              have hb' : (!(txt (foldR s) == s)) = false := by rw [hb]; rfl
              go_wp2_with (go_at_call 13; refine (hT.out _).mono ?_; rintro e w' ⟨rfl, rfl⟩)
              go_ret2
              exact ⟨ret_pair hR.out, rfl⟩
      · have hh : (s.head? == some 45) = false := by
          rw [hhd, beq_eq_false_iff_ne]
          intro h
          rw [Option.some.injEq] at h
          exact hc (by rw [h]; rfl)
        clear hhd hs0
        have hV : valR s = W (-(foldR s)) := by unfold valR; rw [hh]; rfl
        have hT := Lib.hid (fun w => refText_any (W (-(foldR s))) w (W_fit _).1 (W_fit _).2)
        have hE : Hid (∀ b, (txt (W (-(foldR s))) == s) = b → readR s = if b then (W (-(foldR s)), 0) else (0, 5)) := Lib.hid (fun b hb => by subst hb; unfold readR; rw [if_neg h20, hV])
        have hdl : s.length ≤ 20 := by omega
        clear hV
        go_enter Try.func11, Try.ntmps11
        go_wp2
        go_loop [4, 5] (fun n i => ∃ k : Nat, k ≤ s.length ∧ i = .int .i64 (k : Int) ∧ n = .int .i64 (foldR (s.take k))) (fun _ i => s.length - (intOf i).toNat)
        case atStart => exact ⟨0, Nat.zero_le _, rfl, rfl⟩
        case round =>
          obtain ⟨k, hk, rfl, rfl⟩ := hrel
          have hf := foldR_fit (s.take k)
          by_cases hlt : k < s.length
          · have hat := fun h' => at_mk k hlt h'
            have HM := foldR_take s k hlt
            have hc8 : (s[k].toNat : Int) ≤ 255 := by have := s[k].toNat_lt; omega
            by_cases h0 : (48 : Int) ≤ (s[k].toNat : Int)
            · by_cases h9 : (s[k].toNat : Int) ≤ 57
              · have HL := Lib.hid (HM.trans (if_pos (by omega)))
                clear HM
                go_wp2
                go_round
                case rel => exact ⟨k + 1, by omega, by go_num, by rw [HL.out]⟩
                case measure => simp [intOf]; omega
              · have HL := Lib.hid (HM.trans (if_neg (by omega)))
                have h9' : decide ((s[k].toNat : Int) ≤ 57) = false := by simpa using h9
                clear HM
                go_wp2
                go_round
                case rel => exact ⟨k + 1, by omega, by go_num, by rw [HL.out]⟩
                case measure => simp [intOf]; omega
            · have HL := Lib.hid (HM.trans (if_neg (by omega)))
              have h0' : decide ((48 : Int) ≤ (s[k].toNat : Int)) = false := by simpa using h0
              clear HM
              go_wp2
              go_round
              case rel => exact ⟨k + 1, by omega, by go_num, by rw [HL.out]⟩
              case measure => simp [intOf]; omega
          · rw [show k = s.length by omega, List.take_length]
            have hx0 := fun h' => at_mk 0 hpos h'
            have hc0 : (((s[0]'hpos).toNat : Int) == 45) = false := by rw [beq_eq_false_iff_ne]; omega
            have hc1 : (!(((s[0]'hpos).toNat : Int) == 45)) = true := by rw [hc0]; rfl
            have hl : ((s.length : Int) == 0) = false := by rw [beq_eq_false_iff_ne]; omega
            cases hb : txt (W (-(foldR s))) == s
            · have hR := Lib.hid (show readR s = (0, 5) by have := hE.out false hb; simpa using this)
              have hb' : (!(txt (W (-(foldR s))) == s)) = true := by rw [hb]; rfl
              go_wp2_with (go_at_call 13; refine (hT.out _).mono ?_; rintro e w' ⟨rfl, rfl⟩)
              go_ret2
              exact ⟨ret_pair hR.out, rfl⟩
            · have hR := Lib.hid (show readR s = (W (-(foldR s)), 0) by have := hE.out true hb; simpa using this)
              have hb' : (!(txt (W (-(foldR s))) == s)) = false := by rw [hb]; rfl
              go_wp2_with (go_at_call 13; refine (hT.out _).mono ?_; rintro e w' ⟨rfl, rfl⟩)
              go_ret2
              exact ⟨ret_pair hR.out, rfl⟩

end ArR
end Go.Proofs.Ytlboafmofhkacaa
