/-
  The functions on types, in the program: what each of them returns, for every text.
-/
import Derived.Test.YthkkcecfenohjaaGreatDoorShelf
import Derived.Test.YthkkcecfenohjaaGreatDoorBinName
import Derived.Test.YthkkcecfenohjaaGreatDoorDescM
import Derived.Outline
namespace Go.Proofs.YthkkcecfenohjaaGreatDoor
namespace DescW
open Go.RowKit BinM DescM
open BinName (name_any ret_bool)

theorem trim_brk : ∀ l : List UInt8, Lib.trimLeftB l 91 = l.drop (brk l)
  | [] => rfl
  | c :: t => by
    have ih := trim_brk t
    by_cases hc : c = 91
    · subst hc; simp [Lib.trimLeftB, brk] at ih ⊢; exact ih
    · simp [Lib.trimLeftB, brk, hc]

theorem ret_int {k : IntKind} {a b : Int} (h : a = b) : Ending.returned (.int k a) = .returned (.int k b) := by rw [h]

theorem size_mk (l : List UInt8) : (ByteArray.mk l.toArray).size = l.length := rfl

theorem name_l (l : List UInt8) (w : World) (hl : l.length ≤ 140737488355328) :
    Calls Tryz.prog 41 #[.string ⟨l.toArray⟩] w fun e w' => e = .returned (.bool (nameB l)) ∧ w = w' :=
  name_any ⟨l.toArray⟩ w (by rw [size_mk]; unfold maxLen; omega)

theorem index_l (l : List UInt8) (w : World) :
    Calls Tryz.prog 161 #[.string ⟨l.toArray⟩, .int .u8 59] w fun e w' => e = .returned (.int .i64 (Lib.indexByte l 59)) ∧ w = w' :=
  (Tryz.strings_IndexByte ⟨l.toArray⟩ 59 w).mono fun _ _ ⟨h1, h2⟩ => ⟨h1, h2.symm⟩

/-- a cut of a text -/
theorem ext (l : List UInt8) (a b : Nat) : (ByteArray.mk l.toArray).extract a b = ⟨((l.drop a).take (b - a)).toArray⟩ := by
  rw [Lib.extract_eq]

theorem idx : ∀ l : List UInt8, Lib.indexByte l 59 = if semi l < l.length then (semi l : Int) else -1
  | [] => rfl
  | c :: t => by
    have ih := idx t
    by_cases hc : c = 59
    · subst hc; simp [Lib.indexByte, semi]
    · have e : semi (c :: t) = semi t + 1 := by simp [semi, hc]
      have hle := semi_le t
      have hb : (c == 59) = false := by simp [hc]
      rw [e]
      unfold Lib.indexByte
      rw [hb, ih]
      by_cases hs : semi t < t.length
      · have h1 : ((semi t : Int) == -1) = false := by rw [beq_eq_false_iff_ne]; omega
        rw [if_pos hs, h1]
        simp [hs]
      · rw [if_neg hs]
        simp [hs]

theorem rank_any (l : List UInt8) (w : World) (hl : l.length ≤ 9223372036854775807) :
    Calls Tryz.prog 160 #[.string ⟨l.toArray⟩] w fun e w' => e = .returned (.int .i64 (brk l : Int)) ∧ w = w' := by
  have hb := brk_le l
  go_enter Tryz.func160, Tryz.ntmps160
  go_wp2_with fail
  refine (Tryz.strings_TrimLeft_one ⟨l.toArray⟩ 91 (by decide) w).mono ?_
  rintro e w' ⟨rfl, rfl⟩
  simp only [trim_brk]
  go_wp2_with fail
  go_ret
  exact ⟨ret_int (by omega), rfl⟩

/-- what lead hands back -/
def leadV (o : Option Nat) : Value := match o with
  | some n => .tuple #[.int .i64 (n : Int), .bool true]
  | none => .tuple #[.int .i64 0, .bool false]
theorem ret_none {o : Option Nat} (h : o = none) : Ending.returned (.tuple #[.int .i64 0, .bool false]) = .returned (leadV o) := by subst h; rfl
theorem ret_some {o : Option Nat} {n : Nat} {x : Int} (h : o = some n) (hx : x = (n : Int)) : Ending.returned (.tuple #[.int .i64 x, .bool true]) = .returned (leadV o) := by subst h; subst hx; rfl

/-- the head of a text behind its brackets -/
theorem core_at {l : List UInt8} {k : Nat} (hk : k < l.length) : core (l.drop k) = if l[k] = 73 ∨ l[k] = 66 ∨ l[k] = 83 then some 1 else if l[k] = 76 then (if semi (l.drop (k + 1)) < (l.drop (k + 1)).length ∧ nameB ((l.drop (k + 1)).take (semi (l.drop (k + 1)))) = true then some (semi (l.drop (k + 1)) + 2) else none) else none := by
  rw [List.drop_eq_getElem_cons hk, core_cons]

set_option maxHeartbeats 2000000 in
theorem lead_any (l : List UInt8) (w : World) (hl : l.length ≤ 140737488355328) :
    Calls Tryz.prog 128 #[.string ⟨l.toArray⟩] w fun e w' => e = .returned (leadV (leadT l)) ∧ w = w' := by
  have hb := brk_le l
  obtain ⟨k, hkk⟩ : ∃ k, k = brk l := ⟨_, rfl⟩
  rw [← hkk] at hb
  have hT : leadT l = if 4 < k then none else (core (l.drop k)).map (· + k) := by rw [hkk]; rfl
  have HT := Lib.hid hT
  have Hkk := Lib.hid hkk
  clear hT hkk
  by_cases h4 : 4 < k
  · have Hfin := Lib.hid (show leadT l = none by rw [HT.out, if_pos h4])
    have h4' : (4 : Int) < (k : Int) := by omega
    go_enter Tryz.func128, Tryz.ntmps128
    go_wp2_with (go_at_call 160; refine (rank_any l _ (by omega)).mono ?_; rw [← Hkk.out]; rintro e w' ⟨rfl, rfl⟩)
    go_ret2
    exact ⟨ret_none Hfin.out, rfl⟩
  · have h4' : ¬ (4 : Int) < (k : Int) := by omega
    by_cases hk : k = l.length
    · have Hfin := Lib.hid (show leadT l = none by rw [HT.out, if_neg h4, List.drop_of_length_le (by omega)]; rfl)
      have hke : ((k : Int) == (l.length : Int)) = true := by simp [hk]
      have Hk := Lib.hid hk
      clear hk h4
      go_enter Tryz.func128, Tryz.ntmps128
      go_wp2_with (go_at_call 160; refine (rank_any l _ (by omega)).mono ?_; rw [← Hkk.out]; rintro e w' ⟨rfl, rfl⟩)
      go_ret2
      exact ⟨ret_none Hfin.out, rfl⟩
    · have hlt : k < l.length := by omega
      have hke : ((k : Int) == (l.length : Int)) = false := by simp; omega
      have hcore := core_at hlt
      have hx1 : (ByteArray.mk l.toArray).extract k (k + 1) = ⟨[l[k]].toArray⟩ := by
        rw [ext, List.drop_eq_getElem_cons hlt, Nat.add_sub_cancel_left]; rfl
      have hx2 : (ByteArray.mk l.toArray).extract k l.length = ⟨(l.drop k).toArray⟩ := by
        rw [ext, List.take_of_length_le (by simp)]
      have hidx : Lib.indexByte (l.drop k) 59 = if l[k] = 59 then 0 else if semi (l.drop (k + 1)) < (l.drop (k + 1)).length then ((semi (l.drop (k + 1)) + 1 : Nat) : Int) else -1 := by
        rw [idx, List.drop_eq_getElem_cons hlt]
        by_cases h59 : l[k] = 59
        · simp [semi, h59]
        · simp [semi, h59]
          have e : l.length - k = l.length - (k + 1) + 1 := by omega
          rw [e]
          simp
      have hdl : (l.drop (k + 1)).length = l.length - (k + 1) := by simp
      have hx3 : ∀ n, (ByteArray.mk l.toArray).extract (k + 1) (k + (n + 1)) = ⟨((l.drop (k + 1)).take n).toArray⟩ := by
        intro n
        rw [ext]
        congr 3
        omega
      clear hk
      generalize l[k] = c at *
      by_cases hI : c = 73 ∨ c = 66 ∨ c = 83
      · have Hfin := Lib.hid (show leadT l = some (k + 1) by rw [HT.out, if_neg h4, hcore, if_pos hI]; simp; omega)
        clear hcore hidx hx3 h4 hdl
        rcases hI with rfl | rfl | rfl
        all_goals
          go_enter Tryz.func128, Tryz.ntmps128
          go_wp2_with (go_at_call 160; refine (rank_any l _ (by omega)).mono ?_; rw [← Hkk.out]; rintro e w' ⟨rfl, rfl⟩)
          go_ret2
          exact ⟨ret_some Hfin.out (by omega), rfl⟩
      · have n1 : ([c] == [73]) = false := by simp; exact fun h => hI (.inl h)
        have n2 : ([c] == [66]) = false := by simp; exact fun h => hI (.inr (.inl h))
        have n3 : ([c] == [83]) = false := by simp; exact fun h => hI (.inr (.inr h))
        have m1 : (c == 73) = false := by simp; exact fun h => hI (.inl h)
        have m2 : (c == 66) = false := by simp; exact fun h => hI (.inr (.inl h))
        have m3 : (c == 83) = false := by simp; exact fun h => hI (.inr (.inr h))
        rw [if_neg hI] at hcore
        by_cases hL : c = 76
        · subst hL
          rw [if_pos rfl] at hcore
          rw [if_neg (by decide)] at hidx
          generalize ht : l.drop (k + 1) = t at *
          generalize hu : semi t = u at *
          clear ht hI
          by_cases hul : u < t.length
          · rw [if_pos hul] at hidx
            have hx4 := hx3 u
            cases hN : nameB (t.take u)
            · have Hfin := Lib.hid (show leadT l = none by rw [HT.out, if_neg h4, hcore, if_neg (by rw [hN]; simp)]; rfl)
              have HN := Lib.hid hN
              have Hidx := Lib.hid hidx
              clear hcore hidx hx3 hN h4
              go_enter Tryz.func128, Tryz.ntmps128
              go_wp2_with (first
                | (go_at_call 160; refine (rank_any l _ (by omega)).mono ?_; rw [← Hkk.out]; rintro e w' ⟨rfl, rfl⟩)
                | (go_at_call 161; refine (index_l _ _).mono ?_; rw [Hidx.out]; rintro e w' ⟨rfl, rfl⟩)
                | (go_at_call 41; refine (name_l _ _ (by rw [List.length_take]; omega)).mono ?_; rw [HN.out]; rintro e w' ⟨rfl, rfl⟩))
              go_ret2
              exact ⟨ret_none Hfin.out, rfl⟩
            · have Hfin := Lib.hid (show leadT l = some (u + 2 + k) by rw [HT.out, if_neg h4, hcore, if_pos ⟨hul, hN⟩]; rfl)
              have HN := Lib.hid hN
              have Hidx := Lib.hid hidx
              clear hcore hidx hx3 hN h4
              go_enter Tryz.func128, Tryz.ntmps128
              go_wp2_with (first
                | (go_at_call 160; refine (rank_any l _ (by omega)).mono ?_; rw [← Hkk.out]; rintro e w' ⟨rfl, rfl⟩)
                | (go_at_call 161; refine (index_l _ _).mono ?_; rw [Hidx.out]; rintro e w' ⟨rfl, rfl⟩)
                | (go_at_call 41; refine (name_l _ _ (by rw [List.length_take]; omega)).mono ?_; rw [HN.out]; rintro e w' ⟨rfl, rfl⟩))
              go_ret2
              exact ⟨ret_some Hfin.out (by omega), rfl⟩
          · rw [if_neg hul] at hidx
            have Hfin := Lib.hid (show leadT l = none by rw [HT.out, if_neg h4, hcore, if_neg (fun h => hul h.1)]; rfl)
            have Hidx := Lib.hid hidx
            clear hcore hidx hx3 h4
            go_enter Tryz.func128, Tryz.ntmps128
            go_wp2_with (first
              | (go_at_call 160; refine (rank_any l _ (by omega)).mono ?_; rw [← Hkk.out]; rintro e w' ⟨rfl, rfl⟩)
              | (go_at_call 161; refine (index_l _ _).mono ?_; rw [Hidx.out]; rintro e w' ⟨rfl, rfl⟩))
            go_ret2
            exact ⟨ret_none Hfin.out, rfl⟩
        · have n4 : ([c] == [76]) = false := by simp; exact hL
          have m4 : (c == 76) = false := by simp; exact hL
          have Hfin := Lib.hid (show leadT l = none by rw [HT.out, if_neg h4, hcore, if_neg hL]; rfl)
          clear hcore hidx hx3 h4 hdl hI hL
          go_enter Tryz.func128, Tryz.ntmps128
          go_wp2_with (go_at_call 160; refine (rank_any l _ (by omega)).mono ?_; rw [← Hkk.out]; rintro e w' ⟨rfl, rfl⟩)
          go_ret2
          exact ⟨ret_none Hfin.out, rfl⟩

theorem right_any (l : List UInt8) (w : World) (hl : l.length ≤ 140737488355328) :
    Calls Tryz.prog 94 #[.string ⟨l.toArray⟩] w fun e w' => e = .returned (.bool (rightB l)) ∧ w = w' := by
  have hle := fun n => lead_le (l := l) (n := n)
  have Hle := Lib.hid hle
  have HR := Lib.hid (show rightB l = (leadT l == some l.length) from rfl)
  clear hle
  cases hT : leadT l with
  | none =>
    have Hfin := Lib.hid (show rightB l = false by rw [HR.out, hT]; rfl)
    have HT := Lib.hid hT
    clear hT
    go_enter Tryz.func94, Tryz.ntmps94
    go_wp2_with (go_at_call 128; refine (lead_any l _ (by omega)).mono ?_; rw [HT.out]; unfold leadV; rintro e w' ⟨rfl, rfl⟩)
    go_ret
    exact ⟨ret_bool Hfin.out.symm, rfl⟩
  | some n =>
    have hn := Hle.out n hT
    have Hfin := Lib.hid (show rightB l = ((n : Int) == (l.length : Int)) by rw [HR.out, hT, Bool.eq_iff_iff]; simp; omega)
    have HT := Lib.hid hT
    clear hT
    go_enter Tryz.func94, Tryz.ntmps94
    go_wp2_with (go_at_call 128; refine (lead_any l _ (by omega)).mono ?_; rw [HT.out]; unfold leadV; rintro e w' ⟨rfl, rfl⟩)
    go_ret
    exact ⟨ret_bool Hfin.out.symm, rfl⟩

end DescW
end Go.Proofs.YthkkcecfenohjaaGreatDoor
