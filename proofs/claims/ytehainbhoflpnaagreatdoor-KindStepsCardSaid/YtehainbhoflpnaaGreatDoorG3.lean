/-
  Plain facts on types as texts: no program is loaded here.
  The functions on types, in the program: what each of them returns, for every text.
  More functions on types, in the program: what each of them returns, for every text.
  The document's own answers on types: whether a text is one, and what stands on that: what each call returns, for every text.
-/
import Derived.Test.YtehainbhoflpnaaGreatDoorG1
import Derived.Test.YtehainbhoflpnaaGreatDoorShelf
import Derived.Outline
namespace Go.Proofs.YtehainbhoflpnaaGreatDoor
namespace DescM
open BinM

/-- how many brackets stand ahead -/
def brk : List UInt8 → Nat
  | [] => 0
  | c :: t => if c = 91 then brk t + 1 else 0

/-- how many bytes stand ahead of the first semicolon, or all -/
def semi : List UInt8 → Nat
  | [] => 0
  | c :: t => if c = 59 then 0 else semi t + 1

/-- how many bytes the type without brackets has that stands at the head, if one does -/
def core : List UInt8 → Option Nat
  | [] => none
  | c :: t => if c = 73 ∨ c = 66 ∨ c = 83 then some 1
      else if c = 76 then (if semi t < t.length ∧ nameB (t.take (semi t)) = true then some (semi t + 2) else none)
      else none

theorem core_cons (c : UInt8) (t : List UInt8) : core (c :: t) = if c = 73 ∨ c = 66 ∨ c = 83 then some 1 else if c = 76 then (if semi t < t.length ∧ nameB (t.take (semi t)) = true then some (semi t + 2) else none) else none := rfl

/-- how many bytes the type of a value has that stands at the head, if one does -/
def leadT (l : List UInt8) : Option Nat := if 4 < brk l then none else (core (l.drop (brk l))).map (· + brk l)

/-- is it the type of a value? -/
def rightB (l : List UInt8) : Bool := leadT l == some l.length

theorem brk_le : ∀ l : List UInt8, brk l ≤ l.length
  | [] => by simp [brk]
  | c :: t => by
    have := brk_le t
    unfold brk
    split <;> simp <;> omega

theorem brk_at : ∀ (l : List UInt8) (j : Nat) (h : j < l.length), j < brk l → l[j] = 91
  | [], j, h, _ => by simp at h
  | c :: t, j, h, hj => by
    unfold brk at hj
    split at hj
    · rename_i hc
      cases j with
      | zero => exact hc
      | succ j => simp; exact brk_at t j (by simpa using h) (by omega)
    · omega

theorem brk_stop : ∀ (l : List UInt8) (h : brk l < l.length), l[brk l] ≠ 91
  | [], h => by simp at h
  | c :: t, h => by
    by_cases hc : c = 91
    · have e : brk (c :: t) = brk t + 1 := by simp [brk, hc]
      simp only [e] at h ⊢
      simpa using brk_stop t (by simpa using h)
    · have e : brk (c :: t) = 0 := by simp [brk, hc]
      simp only [e]
      simpa using hc

theorem brk_eq {l : List UInt8} {m : Nat} (h : ∀ j (hj : j < l.length), j < m → l[j] = 91) (hm : m ≤ l.length) (hn : m = l.length ∨ ∃ hl : m < l.length, l[m] ≠ 91) : brk l = m := by
  rcases Nat.lt_trichotomy (brk l) m with hlt | he | hgt
  · exact absurd (h (brk l) (by omega) hlt) (brk_stop l (by omega))
  · exact he
  · have hle := brk_le l
    rcases hn with hn | ⟨hl, hc⟩
    · omega
    · exact absurd (brk_at l m hl hgt) hc

theorem brk_take {l : List UInt8} {k : Nat} (h : brk l < k) (hk : k ≤ l.length) : brk (l.take k) = brk l := by
  refine brk_eq (fun j hj hjm => ?_) (by simp; omega) (.inr ⟨by simp; omega, ?_⟩)
  · rw [List.getElem_take]; exact brk_at l j (by omega) hjm
  · rw [List.getElem_take]; exact brk_stop l (by omega)

theorem semi_le : ∀ l : List UInt8, semi l ≤ l.length
  | [] => by simp [semi]
  | c :: t => by
    have := semi_le t
    unfold semi
    split <;> simp <;> omega

theorem semi_stop : ∀ (l : List UInt8) (h : semi l < l.length), l[semi l] = 59
  | [], h => by simp at h
  | c :: t, h => by
    by_cases hc : c = 59
    · have e : semi (c :: t) = 0 := by simp [semi, hc]
      simp only [e]; simpa using hc
    · have e : semi (c :: t) = semi t + 1 := by simp [semi, hc]
      simp only [e] at h ⊢
      simpa using semi_stop t (by simpa using h)

theorem semi_ne : ∀ (l : List UInt8) (j : Nat) (h : j < l.length), j < semi l → l[j] ≠ 59
  | [], j, h, _ => by simp at h
  | c :: t, j, h, hj => by
    unfold semi at hj
    split at hj
    · omega
    · rename_i hc
      cases j with
      | zero => exact hc
      | succ j => simp; exact semi_ne t j (by simpa using h) (by omega)

theorem semi_eq {l : List UInt8} {m : Nat} (h : ∀ j (hj : j < l.length), j < m → l[j] ≠ 59) (hm : m < l.length) (hc : l[m] = 59) : semi l = m := by
  rcases Nat.lt_trichotomy (semi l) m with hlt | he | hgt
  · exact absurd (semi_stop l (by omega)) (h (semi l) (by omega) hlt)
  · exact he
  · exact absurd hc (semi_ne l m hm hgt)

/-- a name's bytes -/
theorem rest_ok : ∀ (l : List UInt8) (k : Nat), restB k l = true → ∀ c ∈ l, c ≠ 59 ∧ c ≠ 91
  | [], _, _, c, hc => by cases hc
  | a :: t, k, h, c, hc => by
    simp only [restB, Bool.and_eq_true] at h
    rcases List.mem_cons.1 hc with rfl | hc
    · have h1 := h.1
      unfold okB okI isLet isDig at h1
      constructor
      · rintro rfl; simp at h1
      · rintro rfl; simp at h1
    · exact rest_ok t (k + 1) h.2 c hc
theorem name_ok {l : List UInt8} (h : nameB l = true) : (∀ c ∈ l, c ≠ 59 ∧ c ≠ 91) ∧ 1 ≤ l.length ∧ l.length ≤ 24 := by
  unfold nameB at h
  simp only [Bool.and_eq_true, decide_eq_true_eq] at h
  exact ⟨rest_ok l 0 h.2, h.1.1, h.1.2⟩

theorem core_le {l : List UInt8} {n : Nat} (h : core l = some n) : 1 ≤ n ∧ n ≤ l.length ∧ n ≤ 26 := by
  cases l with
  | nil => simp [core] at h
  | cons c t =>
    rw [core_cons] at h
    split at h
    · injection h with h; simp; omega
    · split at h
      · split at h
        · rename_i h3
          injection h with h
          have := name_ok h3.2
          have hl : (t.take (semi t)).length = semi t := by simp; omega
          simp; omega
        · cases h
      · cases h

theorem lead_le {l : List UInt8} {n : Nat} (h : leadT l = some n) : 1 ≤ n ∧ n ≤ l.length ∧ n ≤ 30 ∧ brk l < n := by
  unfold leadT at h
  split at h
  · cases h
  · cases hc : core (l.drop (brk l)) with
    | none => rw [hc] at h; cases h
    | some m =>
      rw [hc] at h
      simp at h
      have := core_le hc
      simp at this
      have := brk_le l
      omega

/-- what stands behind a type at the head does not matter -/
theorem core_take {l : List UInt8} {n k : Nat} (h : core l = some n) (hk : n ≤ k) : core (l.take k) = some n := by
  cases l with
  | nil => simp [core] at h
  | cons c t =>
    have hn := core_le h
    cases k with
    | zero => omega
    | succ k =>
      rw [List.take_succ_cons]
      rw [core_cons] at h ⊢
      split
      · rename_i h1; rw [if_pos h1] at h; exact h
      · rename_i h1
        rw [if_neg h1] at h
        split
        · rename_i h2
          rw [if_pos h2] at h
          by_cases h3 : semi t < t.length ∧ nameB (t.take (semi t)) = true
          · rw [if_pos h3] at h
            injection h with h
            have e : semi (t.take k) = semi t := by
              refine semi_eq (fun j hj hjm => ?_) (by simp; omega) ?_
              · rw [List.getElem_take]; exact semi_ne t j (by simp at hj; omega) hjm
              · rw [List.getElem_take]; exact semi_stop t h3.1
            rw [if_pos ⟨by rw [e]; simp; omega, by rw [e, List.take_take, Nat.min_eq_left (by omega)]; exact h3.2⟩, e, h]
          · rw [if_neg h3] at h; cases h
        · rename_i h2
          rw [if_neg h2] at h; exact h

theorem core_of_take {l : List UInt8} {k : Nat} (hk : k ≤ l.length) (h : core (l.take k) = some k) : core l = some k := by
  cases l with
  | nil => simp [core] at h
  | cons c t =>
    cases k with
    | zero => have := core_le h; omega
    | succ k =>
      rw [List.take_succ_cons] at h
      have hkt : k ≤ t.length := by simpa using hk
      rw [core_cons] at h ⊢
      split
      · rename_i h1; rw [if_pos h1] at h; exact h
      · rename_i h1
        rw [if_neg h1] at h
        split
        · rename_i h2
          rw [if_pos h2] at h
          by_cases h3 : semi (t.take k) < (t.take k).length ∧ nameB ((t.take k).take (semi (t.take k))) = true
          · rw [if_pos h3] at h
            injection h with h
            have hs : semi (t.take k) + 1 = k := by omega
            have e : semi t = semi (t.take k) := by
              refine semi_eq (fun j hj hjm => ?_) (by omega) ?_
              · have := semi_ne (t.take k) j (by simp; omega) hjm
                rwa [List.getElem_take] at this
              · have := semi_stop (t.take k) h3.1
                rwa [List.getElem_take] at this
            have h4 := h3.2
            rw [List.take_take, Nat.min_eq_left (by omega)] at h4
            rw [if_pos ⟨by omega, by rw [e]; exact h4⟩, e, h]
          · rw [if_neg h3] at h; cases h
        · rename_i h2
          rw [if_neg h2] at h; exact h

theorem lead_take {l : List UInt8} {n : Nat} (h : leadT l = some n) : leadT (l.take n) = some n := by
  have hn := lead_le h
  unfold leadT at h ⊢
  have e : brk (l.take n) = brk l := brk_take hn.2.2.2 hn.2.1
  rw [e]
  split at h
  · cases h
  · rename_i h4
    rw [if_neg h4]
    cases hc : core (l.drop (brk l)) with
    | none => rw [hc] at h; cases h
    | some m =>
      rw [hc] at h
      simp at h
      have : (l.take n).drop (brk l) = (l.drop (brk l)).take (n - brk l) := by rw [List.drop_take]
      rw [this, core_take hc (by omega)]
      simp [h]

/-- the head of a text is a type of so many bytes, told by cutting it -/
theorem right_take {l : List UInt8} {k : Nat} (hk : k ≤ l.length) : rightB (l.take k) = true ↔ leadT l = some k := by
  constructor
  · intro h
    unfold rightB at h
    have h := eq_of_beq h
    have hlen : (l.take k).length = k := by simp; omega
    rw [hlen] at h
    have hle := lead_le h
    have e : brk l = brk (l.take k) := by
      refine brk_eq (fun j hj hjm => ?_) (by omega) (.inr ⟨by omega, ?_⟩)
      · have := brk_at (l.take k) j (by omega) hjm
        rwa [List.getElem_take] at this
      · have := brk_stop (l.take k) (by omega)
        rwa [List.getElem_take] at this
    unfold leadT at h ⊢
    rw [e]
    split at h
    · cases h
    · rename_i h4
      rw [if_neg h4]
      cases hc : core ((l.take k).drop (brk (l.take k))) with
      | none => rw [hc] at h; cases h
      | some m =>
        rw [hc] at h
        simp at h
        have hm : m = k - brk (l.take k) := by omega
        have hd : (l.take k).drop (brk (l.take k)) = (l.drop (brk (l.take k))).take (k - brk (l.take k)) := by rw [List.drop_take]
        rw [hd, hm] at hc
        rw [core_of_take (by simp; omega) hc]
        simp; omega
  · intro h
    have hlen : (l.take k).length = k := by simp; omega
    unfold rightB
    rw [lead_take h, hlen]
    simp

end DescM
end Go.Proofs.YtehainbhoflpnaaGreatDoor

namespace Go.Proofs.YtehainbhoflpnaaGreatDoor
namespace DescW
open Go.RowKit BinM DescM
open BinName (name_any ret_bool)

theorem trim_brk : ∀ l : List UInt8, Lib.trimLeftB l 91 = l.drop (brk l)
  | [] => rfl
  | c :: t => by
    have ih := trim_brk t
    by_cases hc : c = 91
    · subst hc; simp [Lib.trimLeftB, brk] at ih ⊢; exact ih
    · simp [Lib.trimLeftB, brk, hc]

theorem ret_int {k : IntKind} {a b : Int} (h : a = b) : Ending.returned (.int k a) = .returned (.int k b) := by rw [h]

theorem size_mk (l : List UInt8) : (ByteArray.mk l.toArray).size = l.length := rfl

theorem name_l (l : List UInt8) (w : World) (hl : l.length ≤ 140737488355328) :
    Calls Tryz.prog 76 #[.string ⟨l.toArray⟩] w fun e w' => e = .returned (.bool (nameB l)) ∧ w = w' :=
  name_any ⟨l.toArray⟩ w (by rw [size_mk]; unfold maxLen; omega)

theorem index_l (l : List UInt8) (w : World) :
    Calls Tryz.prog 192 #[.string ⟨l.toArray⟩, .int .u8 59] w fun e w' => e = .returned (.int .i64 (Lib.indexByte l 59)) ∧ w = w' :=
  (Tryz.strings_IndexByte ⟨l.toArray⟩ 59 w).mono fun _ _ ⟨h1, h2⟩ => ⟨h1, h2.symm⟩

/-- a cut of a text -/
theorem ext (l : List UInt8) (a b : Nat) : (ByteArray.mk l.toArray).extract a b = ⟨((l.drop a).take (b - a)).toArray⟩ := by
  rw [Lib.extract_eq]

theorem idx : ∀ l : List UInt8, Lib.indexByte l 59 = if semi l < l.length then (semi l : Int) else -1
  | [] => rfl
  | c :: t => by
    have ih := idx t
    by_cases hc : c = 59
    · subst hc; simp [Lib.indexByte, semi]
    · have e : semi (c :: t) = semi t + 1 := by simp [semi, hc]
      have hle := semi_le t
      have hb : (c == 59) = false := by simp [hc]
      rw [e]
      unfold Lib.indexByte
      rw [hb, ih]
      by_cases hs : semi t < t.length
      · have h1 : ((semi t : Int) == -1) = false := by rw [beq_eq_false_iff_ne]; omega
        rw [if_pos hs, h1]
        simp [hs]
      · rw [if_neg hs]
        simp [hs]

theorem rank_any (l : List UInt8) (w : World) (hl : l.length ≤ 9223372036854775807) :
    Calls Tryz.prog 191 #[.string ⟨l.toArray⟩] w fun e w' => e = .returned (.int .i64 (brk l : Int)) ∧ w = w' := by
  have hb := brk_le l
  go_enter Tryz.func191, Tryz.ntmps191
  go_wp2_with fail
  refine (Tryz.strings_TrimLeft_one ⟨l.toArray⟩ 91 (by decide) w).mono ?_
  rintro e w' ⟨rfl, rfl⟩
  simp only [trim_brk]
  go_wp2_with fail
  go_ret
  exact ⟨ret_int (by omega), rfl⟩

/-- what lead hands back -/
def leadV (o : Option Nat) : Value := match o with
  | some n => .tuple #[.int .i64 (n : Int), .bool true]
  | none => .tuple #[.int .i64 0, .bool false]
theorem ret_none {o : Option Nat} (h : o = none) : Ending.returned (.tuple #[.int .i64 0, .bool false]) = .returned (leadV o) := by subst h; rfl
theorem ret_some {o : Option Nat} {n : Nat} {x : Int} (h : o = some n) (hx : x = (n : Int)) : Ending.returned (.tuple #[.int .i64 x, .bool true]) = .returned (leadV o) := by subst h; subst hx; rfl

/-- the head of a text behind its brackets -/
theorem core_at {l : List UInt8} {k : Nat} (hk : k < l.length) : core (l.drop k) = if l[k] = 73 ∨ l[k] = 66 ∨ l[k] = 83 then some 1 else if l[k] = 76 then (if semi (l.drop (k + 1)) < (l.drop (k + 1)).length ∧ nameB ((l.drop (k + 1)).take (semi (l.drop (k + 1)))) = true then some (semi (l.drop (k + 1)) + 2) else none) else none := by
  rw [List.drop_eq_getElem_cons hk, core_cons]

set_option maxHeartbeats 2000000 in
theorem lead_any (l : List UInt8) (w : World) (hl : l.length ≤ 140737488355328) :
    Calls Tryz.prog 157 #[.string ⟨l.toArray⟩] w fun e w' => e = .returned (leadV (leadT l)) ∧ w = w' := by
  have hb := brk_le l
  obtain ⟨k, hkk⟩ : ∃ k, k = brk l := ⟨_, rfl⟩
  rw [← hkk] at hb
  have hT : leadT l = if 4 < k then none else (core (l.drop k)).map (· + k) := by rw [hkk]; rfl
  have HT := Lib.hid hT
  have Hkk := Lib.hid hkk
  clear hT hkk
  by_cases h4 : 4 < k
  · have Hfin := Lib.hid (show leadT l = none by rw [HT.out, if_pos h4])
    have h4' : (4 : Int) < (k : Int) := by omega
    go_enter Tryz.func157, Tryz.ntmps157
    go_wp2_with (go_at_call 191; refine (rank_any l _ (by omega)).mono ?_; rw [← Hkk.out]; rintro e w' ⟨rfl, rfl⟩)
    go_ret2
    exact ⟨ret_none Hfin.out, rfl⟩
  · have h4' : ¬ (4 : Int) < (k : Int) := by omega
    by_cases hk : k = l.length
    · have Hfin := Lib.hid (show leadT l = none by rw [HT.out, if_neg h4, List.drop_of_length_le (by omega)]; rfl)
      have hke : ((k : Int) == (l.length : Int)) = true := by simp [hk]
      have Hk := Lib.hid hk
      clear hk h4
      go_enter Tryz.func157, Tryz.ntmps157
      go_wp2_with (go_at_call 191; refine (rank_any l _ (by omega)).mono ?_; rw [← Hkk.out]; rintro e w' ⟨rfl, rfl⟩)
      go_ret2
      exact ⟨ret_none Hfin.out, rfl⟩
    · have hlt : k < l.length := by omega
      have hke : ((k : Int) == (l.length : Int)) = false := by simp; omega
      have hcore := core_at hlt
      have hx1 : (ByteArray.mk l.toArray).extract k (k + 1) = ⟨[l[k]].toArray⟩ := by
        rw [ext, List.drop_eq_getElem_cons hlt, Nat.add_sub_cancel_left]; rfl
      have hx2 : (ByteArray.mk l.toArray).extract k l.length = ⟨(l.drop k).toArray⟩ := by
        rw [ext, List.take_of_length_le (by simp)]
      have hidx : Lib.indexByte (l.drop k) 59 = if l[k] = 59 then 0 else if semi (l.drop (k + 1)) < (l.drop (k + 1)).length then ((semi (l.drop (k + 1)) + 1 : Nat) : Int) else -1 := by
        rw [idx, List.drop_eq_getElem_cons hlt]
        by_cases h59 : l[k] = 59
        · simp [semi, h59]
        · simp [semi, h59]
          have e : l.length - k = l.length - (k + 1) + 1 := by omega
          rw [e]
          simp
      have hdl : (l.drop (k + 1)).length = l.length - (k + 1) := by simp
      have hx3 : ∀ n, (ByteArray.mk l.toArray).extract (k + 1) (k + (n + 1)) = ⟨((l.drop (k + 1)).take n).toArray⟩ := by
        intro n
        rw [ext]
        congr 3
        omega
      clear hk
      generalize l[k] = c at *
      by_cases hI : c = 73 ∨ c = 66 ∨ c = 83
      · have Hfin := Lib.hid (show leadT l = some (k + 1) by rw [HT.out, if_neg h4, hcore, if_pos hI]; simp; omega)
        clear hcore hidx hx3 h4 hdl
        rcases hI with rfl | rfl | rfl
        all_goals
          go_enter Tryz.func157, Tryz.ntmps157
          go_wp2_with (go_at_call 191; refine (rank_any l _ (by omega)).mono ?_; rw [← Hkk.out]; rintro e w' ⟨rfl, rfl⟩)
          go_ret2
          exact ⟨ret_some Hfin.out (by omega), rfl⟩
      · have n1 : ([c] == [73]) = false := by simp; exact fun h => hI (.inl h)
        have n2 : ([c] == [66]) = false := by simp; exact fun h => hI (.inr (.inl h))
        have n3 : ([c] == [83]) = false := by simp; exact fun h => hI (.inr (.inr h))
        have m1 : (c == 73) = false := by simp; exact fun h => hI (.inl h)
        have m2 : (c == 66) = false := by simp; exact fun h => hI (.inr (.inl h))
        have m3 : (c == 83) = false := by simp; exact fun h => hI (.inr (.inr h))
        rw [if_neg hI] at hcore
        by_cases hL : c = 76
        · subst hL
          rw [if_pos rfl] at hcore
          rw [if_neg (by decide)] at hidx
          generalize ht : l.drop (k + 1) = t at *
          generalize hu : semi t = u at *
          clear ht hI
          by_cases hul : u < t.length
          · rw [if_pos hul] at hidx
            have hx4 := hx3 u
            cases hN : nameB (t.take u)
            · have Hfin := Lib.hid (show leadT l = none by rw [HT.out, if_neg h4, hcore, if_neg (by rw [hN]; simp)]; rfl)
              have HN := Lib.hid hN
              have Hidx := Lib.hid hidx
              clear hcore hidx hx3 hN h4
              go_enter Tryz.func157, Tryz.ntmps157
              go_wp2_with (first
                | (go_at_call 191; refine (rank_any l _ (by omega)).mono ?_; rw [← Hkk.out]; rintro e w' ⟨rfl, rfl⟩)
                | (go_at_call 192; refine (index_l _ _).mono ?_; rw [Hidx.out]; rintro e w' ⟨rfl, rfl⟩)
                | (go_at_call 76; refine (name_l _ _ (by rw [List.length_take]; omega)).mono ?_; rw [HN.out]; rintro e w' ⟨rfl, rfl⟩))
              go_ret2
              exact ⟨ret_none Hfin.out, rfl⟩
            · have Hfin := Lib.hid (show leadT l = some (u + 2 + k) by rw [HT.out, if_neg h4, hcore, if_pos ⟨hul, hN⟩]; rfl)
              have HN := Lib.hid hN
              have Hidx := Lib.hid hidx
              clear hcore hidx hx3 hN h4
              go_enter Tryz.func157, Tryz.ntmps157
              go_wp2_with (first
                | (go_at_call 191; refine (rank_any l _ (by omega)).mono ?_; rw [← Hkk.out]; rintro e w' ⟨rfl, rfl⟩)
                | (go_at_call 192; refine (index_l _ _).mono ?_; rw [Hidx.out]; rintro e w' ⟨rfl, rfl⟩)
                | (go_at_call 76; refine (name_l _ _ (by rw [List.length_take]; omega)).mono ?_; rw [HN.out]; rintro e w' ⟨rfl, rfl⟩))
              go_ret2
              exact ⟨ret_some Hfin.out (by omega), rfl⟩
          · rw [if_neg hul] at hidx
            have Hfin := Lib.hid (show leadT l = none by rw [HT.out, if_neg h4, hcore, if_neg (fun h => hul h.1)]; rfl)
            have Hidx := Lib.hid hidx
            clear hcore hidx hx3 h4
            go_enter Tryz.func157, Tryz.ntmps157
            go_wp2_with (first
              | (go_at_call 191; refine (rank_any l _ (by omega)).mono ?_; rw [← Hkk.out]; rintro e w' ⟨rfl, rfl⟩)
              | (go_at_call 192; refine (index_l _ _).mono ?_; rw [Hidx.out]; rintro e w' ⟨rfl, rfl⟩))
            go_ret2
            exact ⟨ret_none Hfin.out, rfl⟩
        · have n4 : ([c] == [76]) = false := by simp; exact hL
          have m4 : (c == 76) = false := by simp; exact hL
          have Hfin := Lib.hid (show leadT l = none by rw [HT.out, if_neg h4, hcore, if_neg hL]; rfl)
          clear hcore hidx hx3 h4 hdl hI hL
          go_enter Tryz.func157, Tryz.ntmps157
          go_wp2_with (go_at_call 191; refine (rank_any l _ (by omega)).mono ?_; rw [← Hkk.out]; rintro e w' ⟨rfl, rfl⟩)
          go_ret2
          exact ⟨ret_none Hfin.out, rfl⟩

theorem right_any (l : List UInt8) (w : World) (hl : l.length ≤ 140737488355328) :
    Calls Tryz.prog 133 #[.string ⟨l.toArray⟩] w fun e w' => e = .returned (.bool (rightB l)) ∧ w = w' := by
  have hle := fun n => lead_le (l := l) (n := n)
  have Hle := Lib.hid hle
  have HR := Lib.hid (show rightB l = (leadT l == some l.length) from rfl)
  clear hle
  cases hT : leadT l with
  | none =>
    have Hfin := Lib.hid (show rightB l = false by rw [HR.out, hT]; rfl)
    have HT := Lib.hid hT
    clear hT
    go_enter Tryz.func133, Tryz.ntmps133
    go_wp2_with (go_at_call 157; refine (lead_any l _ (by omega)).mono ?_; rw [HT.out]; unfold leadV; rintro e w' ⟨rfl, rfl⟩)
    go_ret
    exact ⟨ret_bool Hfin.out.symm, rfl⟩
  | some n =>
    have hn := Hle.out n hT
    have Hfin := Lib.hid (show rightB l = ((n : Int) == (l.length : Int)) by rw [HR.out, hT, Bool.eq_iff_iff]; simp; omega)
    have HT := Lib.hid hT
    clear hT
    go_enter Tryz.func133, Tryz.ntmps133
    go_wp2_with (go_at_call 157; refine (lead_any l _ (by omega)).mono ?_; rw [HT.out]; unfold leadV; rintro e w' ⟨rfl, rfl⟩)
    go_ret
    exact ⟨ret_bool Hfin.out.symm, rfl⟩

end DescW
end Go.Proofs.YtehainbhoflpnaaGreatDoor

namespace Go.Proofs.YtehainbhoflpnaaGreatDoor
namespace DescX
open Go.RowKit BinM DescM DescW
open BinName (ret_bool)

/-- what a method can give -/
def givenB (l : List UInt8) : Bool := l == [86] || rightB l
/-- a class's things -/
def classB (l : List UInt8) : Bool := rightB l && l.head? == some 76
def classT (l : List UInt8) : List UInt8 × Bool := if classB l then ((l.drop 1).take (l.length - 2), true) else ([], false)
def elemB (l : List UInt8) : Bool := rightB l && l.head? == some 91
def elemT (l : List UInt8) : List UInt8 × Int := if elemB l then (l.drop 1, 0) else ([], 10)
def refB (l : List UInt8) : Bool := l == [78] || (rightB l && !(l == [73]) && !(l == [66]))
def ofT (l : List UInt8) : List UInt8 := 76 :: l ++ [59]

def twoB (r : List UInt8 × Bool) : Value := .tuple #[.string ⟨r.1.toArray⟩, .bool r.2]
def twoI (r : List UInt8 × Int) : Value := .tuple #[.string ⟨r.1.toArray⟩, .int .i64 r.2]
theorem ret2B {r : List UInt8 × Bool} {x : ByteArray} {t : List UInt8} {b : Bool} (h : r = (t, b)) (hx : x = ⟨t.toArray⟩) : Ending.returned (.tuple #[.string x, .bool b]) = .returned (twoB r) := by subst h; subst hx; rfl
theorem ret2I {r : List UInt8 × Int} {x : ByteArray} {t : List UInt8} {b : Int} (h : r = (t, b)) (hx : x = ⟨t.toArray⟩) : Ending.returned (.tuple #[.string x, .int .i64 b]) = .returned (twoI r) := by subst h; subst hx; rfl
theorem retS {x : ByteArray} {t : List UInt8} (hx : x = ⟨t.toArray⟩) : Ending.returned (.string x) = .returned (.string ⟨t.toArray⟩) := by subst hx; rfl

theorem right_pos {l : List UInt8} (h : rightB l = true) : 1 ≤ l.length := by
  have := lead_le (eq_of_beq h); omega

theorem head_at {l : List UInt8} (h : 0 < l.length) (c : UInt8) : (l.head? == some c) = ((l[0].toNat : Int) == (c.toNat : Int)) := by
  cases l with
  | nil => simp at h
  | cons a t =>
    rw [Bool.eq_iff_iff]
    simp only [List.head?_cons, beq_iff_eq, Option.some.injEq, List.getElem_cons_zero]
    constructor
    · rintro rfl; rfl
    · intro h; exact UInt8.toNat_inj.1 (by omega)

theorem given_any (l : List UInt8) (w : World) (hl : l.length ≤ 140737488355328) :
    Calls Tryz.prog 158 #[.string ⟨l.toArray⟩] w fun e w' => e = .returned (.bool (givenB l)) ∧ w = w' := by
  cases hV : l == [86]
  · have Hfin := Lib.hid (show givenB l = rightB l by unfold givenB; rw [hV]; rfl)
    go_enter Tryz.func158, Tryz.ntmps158
    go_wp2_with (go_at_call 133; refine (right_any l _ (by omega)).mono ?_; rintro e w' ⟨rfl, rfl⟩)
    go_ret
    exact ⟨ret_bool (by rw [Hfin.out]), rfl⟩
  · have Hfin := Lib.hid (show givenB l = true by unfold givenB; rw [hV]; rfl)
    go_enter Tryz.func158, Tryz.ntmps158
    go_wp2
    go_ret
    exact ⟨ret_bool (by rw [Hfin.out]), rfl⟩

theorem app_mk (a b : List UInt8) : ByteArray.mk a.toArray ++ ByteArray.mk b.toArray = ⟨(a ++ b).toArray⟩ := by
  apply ByteArray.ext
  rw [ByteArray.data_append]
  simp

theorem of_any (l : List UInt8) (w : World) (hl : l.length ≤ 140737488355328) :
    Calls Tryz.prog 111 #[.string ⟨l.toArray⟩] w fun e w' => e = .returned (.string ⟨(ofT l).toArray⟩) ∧ w = w' := by
  go_enter Tryz.func111, Tryz.ntmps111
  go_wp2
  go_ret
  exact ⟨retS (by rw [show (ByteArray.mk #[76]) = ByteArray.mk [76].toArray from rfl, show (ByteArray.mk #[59]) = ByteArray.mk [59].toArray from rfl, app_mk, app_mk]; rfl), rfl⟩

theorem at0 {l : List UInt8} (_h : 0 < l.length) (h' : 0 < (ByteArray.mk l.toArray).size) : (ByteArray.mk l.toArray)[0]'h' = l[0]'_h := rfl

/-- a type with a bracket, or a class's, is longer than a byte -/
theorem class_len {l : List UInt8} (h : rightB l = true) (h0 : 0 < l.length) (hc : l[0] = 76) : 3 ≤ l.length := by
  have hT := eq_of_beq h
  cases l with
  | nil => simp at h0
  | cons c t =>
    simp at hc
    subst hc
    have hb : brk (76 :: t) = 0 := by simp [brk]
    unfold leadT at hT
    rw [hb, if_neg (by omega), List.drop_zero, core_cons, if_neg (by decide), if_pos rfl] at hT
    by_cases h3 : semi t < t.length ∧ nameB (t.take (semi t)) = true
    · rw [if_pos h3] at hT
      simp at hT
      have := (name_ok h3.2).2.1
      have hl : (t.take (semi t)).length = semi t := by simp; omega
      simp; omega
    · rw [if_neg h3] at hT
      cases hT

theorem elem_len {l : List UInt8} (h : rightB l = true) (h0 : 0 < l.length) (hc : l[0] = 91) : 2 ≤ l.length := by
  have hT := eq_of_beq h
  have := lead_le hT
  cases l with
  | nil => simp at h0
  | cons c t =>
    simp at hc
    subst hc
    have hb : brk (91 :: t) = brk t + 1 := by simp [brk]
    simp at *
    omega

theorem class_any (l : List UInt8) (w : World) (hl : l.length ≤ 140737488355328) :
    Calls Tryz.prog 108 #[.string ⟨l.toArray⟩] w fun e w' => e = .returned (twoB (classT l)) ∧ w = w' := by
  cases hR : rightB l
  · have Hfin := Lib.hid (show classT l = ([], false) by unfold classT classB; rw [hR]; rfl)
    have HR := Lib.hid hR
    clear hR
    go_enter Tryz.func108, Tryz.ntmps108
    go_wp2_with (go_at_call 133; refine (right_any l _ (by omega)).mono ?_; rw [HR.out]; rintro e w' ⟨rfl, rfl⟩)
    go_ret2
    exact ⟨ret2B Hfin.out rfl, rfl⟩
  · have hp := right_pos hR
    have hp0 : 0 < l.length := by omega
    have hh := head_at hp0 76
    have hx0 := fun h' => at0 hp0 h'
    have HR := Lib.hid hR
    cases hc : ((l[0].toNat : Int) == 76)
    · have hc2 : ((l[0].toNat : Int) != 76) = true := by rw [bne, hc]; rfl
      have Hfin := Lib.hid (show classT l = ([], false) by unfold classT classB; rw [hR, hh]; rw [show ((76 : UInt8).toNat : Int) = 76 from rfl, hc]; rfl)
      clear hR hh
      go_enter Tryz.func108, Tryz.ntmps108
      go_wp2_with (go_at_call 133; refine (right_any l _ (by omega)).mono ?_; rw [HR.out]; rintro e w' ⟨rfl, rfl⟩)
      go_ret2
      exact ⟨ret2B Hfin.out rfl, rfl⟩
    · have hc2 : ((l[0].toNat : Int) != 76) = false := by rw [bne, hc]; rfl
      have h3 := class_len hR hp0 (by have := eq_of_beq hc; exact UInt8.toNat_inj.1 (by show l[0].toNat = 76; omega))
      have Hfin := Lib.hid (show classT l = ((l.drop 1).take (l.length - 2), true) by unfold classT classB; rw [hR, hh]; rw [show ((76 : UInt8).toNat : Int) = 76 from rfl, hc]; rfl)
      clear hR hh
      go_enter Tryz.func108, Tryz.ntmps108
      go_wp2_with (go_at_call 133; refine (right_any l _ (by omega)).mono ?_; rw [HR.out]; rintro e w' ⟨rfl, rfl⟩)
      go_ret2
      exact ⟨ret2B Hfin.out (by rw [ext]; congr 3), rfl⟩

theorem elem_any (l : List UInt8) (w : World) (hl : l.length ≤ 140737488355328) :
    Calls Tryz.prog 109 #[.string ⟨l.toArray⟩] w fun e w' => e = .returned (twoI (elemT l)) ∧ w = w' := by
  cases hR : rightB l
  · have Hfin := Lib.hid (show elemT l = ([], 10) by unfold elemT elemB; rw [hR]; rfl)
    have HR := Lib.hid hR
    clear hR
    go_enter Tryz.func109, Tryz.ntmps109
    go_wp2_with (go_at_call 133; refine (right_any l _ (by omega)).mono ?_; rw [HR.out]; rintro e w' ⟨rfl, rfl⟩)
    go_ret2
    exact ⟨ret2I Hfin.out rfl, rfl⟩
  · have hp := right_pos hR
    have hp0 : 0 < l.length := by omega
    have hh := head_at hp0 91
    have hx0 := fun h' => at0 hp0 h'
    have HR := Lib.hid hR
    cases hc : ((l[0].toNat : Int) == 91)
    · have hc2 : ((l[0].toNat : Int) != 91) = true := by rw [bne, hc]; rfl
      have Hfin := Lib.hid (show elemT l = ([], 10) by unfold elemT elemB; rw [hR, hh]; rw [show ((91 : UInt8).toNat : Int) = 91 from rfl, hc]; rfl)
      clear hR hh
      go_enter Tryz.func109, Tryz.ntmps109
      go_wp2_with (go_at_call 133; refine (right_any l _ (by omega)).mono ?_; rw [HR.out]; rintro e w' ⟨rfl, rfl⟩)
      go_ret2
      exact ⟨ret2I Hfin.out rfl, rfl⟩
    · have hc2 : ((l[0].toNat : Int) != 91) = false := by rw [bne, hc]; rfl
      have Hfin := Lib.hid (show elemT l = (l.drop 1, 0) by unfold elemT elemB; rw [hR, hh]; rw [show ((91 : UInt8).toNat : Int) = 91 from rfl, hc]; rfl)
      clear hR hh
      go_enter Tryz.func109, Tryz.ntmps109
      go_wp2_with (go_at_call 133; refine (right_any l _ (by omega)).mono ?_; rw [HR.out]; rintro e w' ⟨rfl, rfl⟩)
      go_ret2
      exact ⟨ret2I Hfin.out (by rw [ext, List.take_of_length_le (by simp)]), rfl⟩


theorem ref_any (l : List UInt8) (w : World) (hl : l.length ≤ 140737488355328) :
    Calls Tryz.prog 105 #[.string ⟨l.toArray⟩] w fun e w' => e = .returned (.bool (refB l)) ∧ w = w' := by
  cases hN : l == [78]
  · cases hR : rightB l
    · have Hfin := Lib.hid (show refB l = false by unfold refB; rw [hN, hR]; rfl)
      have HR := Lib.hid hR
      clear hR
      go_enter Tryz.func105, Tryz.ntmps105
      go_wp2_with (go_at_call 133; refine (right_any l _ (by omega)).mono ?_; rw [HR.out]; rintro e w' ⟨rfl, rfl⟩)
      go_ret
      exact ⟨ret_bool (by rw [Hfin.out]), rfl⟩
    · have HR := Lib.hid hR
      cases hI : l == [73]
      · cases hB : l == [66]
        all_goals
          have Hfin := Lib.hid (show refB l = _ by unfold refB; rw [hN, hR, hI, hB])
          clear hR
          go_enter Tryz.func105, Tryz.ntmps105
          go_wp2_with (go_at_call 133; refine (right_any l _ (by omega)).mono ?_; rw [HR.out]; rintro e w' ⟨rfl, rfl⟩)
          go_ret
          exact ⟨ret_bool (by rw [Hfin.out]; rfl), rfl⟩
      · have Hfin := Lib.hid (show refB l = false by unfold refB; rw [hN, hR, hI]; rfl)
        clear hR
        go_enter Tryz.func105, Tryz.ntmps105
        go_wp2_with (go_at_call 133; refine (right_any l _ (by omega)).mono ?_; rw [HR.out]; rintro e w' ⟨rfl, rfl⟩)
        go_ret
        exact ⟨ret_bool (by rw [Hfin.out]), rfl⟩
  · have Hfin := Lib.hid (show refB l = true by unfold refB; rw [hN]; rfl)
    go_enter Tryz.func105, Tryz.ntmps105
    go_wp2
    go_ret
    exact ⟨ret_bool (by rw [Hfin.out]), rfl⟩

end DescX
end Go.Proofs.YtehainbhoflpnaaGreatDoor

namespace Go.Proofs.YtehainbhoflpnaaGreatDoor
namespace DescR
open Go.RowKit BinM DescM DescW DescX
open BinName (ret_bool)
open BinName (refName_any)

/-- what the document asks of a text behind its brackets -/
def tailB (d : List UInt8) : Bool := d == [73] || d == [66] || d == [83] || (decide (2 < d.length) && d.head? == some 76 && d.getLast? == some 59 && nameB ((d.drop 1).take (d.length - 2)))

theorem last_cons (c : UInt8) (t : List UInt8) (h : 0 < t.length) : (c :: t).getLast? = some (t[t.length - 1]'(by omega)) := by
  cases t with
  | nil => simp at h
  | cons a r =>
    rw [List.getLast?_cons_cons, List.getLast?_eq_getElem?, List.getElem?_eq_getElem (by simp)]

theorem tail_core (d : List UInt8) : tailB d = (core d == some d.length) := by
  rw [Bool.eq_iff_iff]
  constructor
  · intro h
    simp only [tailB, Bool.or_eq_true, Bool.and_eq_true, beq_iff_eq, decide_eq_true_eq] at h
    rcases h with ((rfl | rfl) | rfl) | ⟨⟨⟨h1, h2⟩, h3⟩, h4⟩
    · decide
    · decide
    · decide
    · cases d with
      | nil => simp at h1
      | cons c t =>
        simp at h2
        subst h2
        simp only [List.drop_one, List.tail_cons, List.length_cons] at h4 h1
        have hok := name_ok h4
        have hlen : (t.take (t.length + 1 - 2)).length = t.length - 1 := by rw [List.length_take]; omega
        have hlast : t[t.length - 1]'(by omega) = 59 := by
          have this := last_cons 76 t (by omega)
          rw [this] at h3
          injection h3
        have hs : semi t = t.length - 1 := by
          refine semi_eq (fun j hj hjm => ?_) (by omega) hlast
          have hm := hok.1 (t.take (t.length + 1 - 2))[j] (List.getElem_mem (by omega))
          rw [List.getElem_take] at hm
          exact hm.1
        rw [core_cons, if_neg (by decide), if_pos rfl, hs]
        have e : t.length + 1 - 2 = t.length - 1 := by omega
        rw [e] at h4
        rw [if_pos ⟨by omega, h4⟩]
        simp; omega
  · intro h
    have h := eq_of_beq h
    cases d with
    | nil => simp [core] at h
    | cons c t =>
      rw [core_cons] at h
      split at h
      · rename_i hc
        injection h with h
        simp only [List.length_cons] at h
        have ht : t = [] := List.eq_nil_of_length_eq_zero (by omega)
        subst ht
        rcases hc with rfl | rfl | rfl <;> decide
      · split at h
        · rename_i hc
          subst hc
          split at h
          · rename_i h3
            simp at h
            have hs : semi t = t.length - 1 := by omega
            have hok := name_ok h3.2
            have hl : (t.take (semi t)).length = semi t := by simp; omega
            have hst := semi_stop t h3.1
            simp only [hs] at hst
            simp only [tailB, Bool.or_eq_true, Bool.and_eq_true, beq_iff_eq, decide_eq_true_eq]
            right
            refine ⟨⟨⟨by simp; omega, by simp⟩, ?_⟩, ?_⟩
            · rw [last_cons 76 t (by omega), hst]
            · have e : (76 :: t).length - 2 = semi t := by simp; omega
              rw [e]; exact h3.2
          · cases h
        · cases h

theorem last_at {d : List UInt8} (h : 0 < d.length) (c : UInt8) : (d.getLast? == some c) = ((d[d.length - 1].toNat : Int) == (c.toNat : Int)) := by
  rw [List.getLast?_eq_getElem?, List.getElem?_eq_getElem (by omega), Bool.eq_iff_iff]
  simp only [beq_iff_eq, Option.some.injEq]
  constructor
  · intro h; rw [h]
  · intro h; exact UInt8.toNat_inj.1 (by omega)

theorem right_tail {l : List UInt8} : rightB l = (decide (brk l ≤ 4) && tailB (l.drop (brk l))) := by
  have hb := brk_le l
  rw [tail_core, Bool.eq_iff_iff]
  unfold rightB leadT
  by_cases h4 : 4 < brk l
  · rw [if_pos h4]; simp; omega
  · rw [if_neg h4]
    cases hc : core (l.drop (brk l)) with
    | none => simp
    | some m => simp; omega

theorem refName_l (l : List UInt8) (w : World) (hl : l.length ≤ 140737488355328) :
    Calls Tryz.prog 93 #[.string ⟨l.toArray⟩] w fun e w' => e = .returned (.bool (nameB l)) ∧ w = w' :=
  refName_any ⟨l.toArray⟩ w (by rw [size_mk]; unfold maxLen; omega)

theorem at_mk {l : List UInt8} (j : Nat) (_h : j < l.length) (h' : j < (ByteArray.mk l.toArray).size) : (ByteArray.mk l.toArray)[j]'h' = l[j]'_h := rfl

set_option maxRecDepth 100000 in
set_option maxHeartbeats 4000000 in
theorem refRight_any (l : List UInt8) (w : World) (hl : l.length ≤ 140737488355328) :
    Calls Tryz.prog 94 #[.string ⟨l.toArray⟩] w fun e w' => e = .returned (.bool (rightB l)) ∧ w = w' := by
  have hb := brk_le l
  have HR := Lib.hid (right_tail (l := l))
  obtain ⟨b, hbk⟩ : ∃ b, b = brk l := ⟨_, rfl⟩
  have Hbk := Lib.hid hbk
  rw [← hbk] at hb
  clear hbk
  go_enter Tryz.func94, Tryz.ntmps94
  go_wp2
  go_loop [3] (fun i => ∃ k : Nat, k ≤ b ∧ i = .int .i64 k) (fun i => l.length - (intOf i).toNat)
  case atStart => exact ⟨0, Nat.zero_le _, rfl⟩
  case round =>
    obtain ⟨k, hk, rfl⟩ := hrel
    by_cases hkb : k < b
    · have hkl : k < l.length := by omega
      have hat := brk_at l k hkl (by rw [← Hbk.out]; exact hkb)
      have hx := fun h' => at_mk k hkl h'
      have hx91 : ((l[k].toNat : Int) == 91) = true := by rw [hat]; rfl
      clear hat
      go_wp2_with fail
      go_round
      case rel => exact ⟨k + 1, by omega, by go_num⟩
      case measure => simp [intOf]; omega
    · obtain rfl : k = b := by omega
      have hx2 : (ByteArray.mk l.toArray).extract k l.length = ⟨(l.drop k).toArray⟩ := by
        rw [ext, List.take_of_length_le (by simp)]
      have hstop : k < l.length → ∀ h : k < l.length, ((l[k].toNat : Int) == 91) = false := by
        intro _ h
        rw [beq_eq_false_iff_ne]
        intro he
        have h91 := brk_stop l (by rw [← Hbk.out]; exact h)
        apply h91
        have : l[brk l]'(by rw [← Hbk.out]; exact h) = l[k] := by congr 1; exact Hbk.out.symm
        rw [this]
        exact UInt8.toNat_inj.1 (by show l[k].toNat = 91; omega)
      have Hstop := Lib.hid hstop
      clear hstop
      by_cases h4 : 4 < k
      · have Hfin := Lib.hid (show rightB l = false by rw [HR.out, ← Hbk.out]; simp; omega)
        by_cases hkl : k < l.length
        · have hx := fun h' => at_mk k hkl h'
          have hx91 := Hstop.out hkl hkl
          go_wp2_with fail
          go_ret
          exact ⟨ret_bool Hfin.out.symm, rfl⟩
        · go_wp2_with fail
          go_ret
          exact ⟨ret_bool Hfin.out.symm, rfl⟩
      · have HD := Lib.hid (show rightB l = tailB (l.drop k) by rw [HR.out, ← Hbk.out]; simp; omega)
        have hdl : (l.drop k).length = l.length - k := by simp
        by_cases hkl : k < l.length
        · have hx := fun h' => at_mk k hkl h'
          have hx91 := Hstop.out hkl hkl
          have hd0 : 0 < (l.drop k).length := by omega
          generalize hdd : l.drop k = d at *
          clear hdd
          have hy0 := fun h' => at_mk 0 hd0 h'
          have hdl1 : d.length - 1 < d.length := by omega
          have hyl := fun h' => at_mk (d.length - 1) hdl1 h'
          have hxt : (ByteArray.mk d.toArray).extract 1 (d.length - 1) = ⟨((d.drop 1).take (d.length - 2)).toArray⟩ := by rw [ext]; congr 3
          have hh0 := head_at hd0 76
          have hhl := last_at hd0 59
          rw [show ((76 : UInt8).toNat : Int) = 76 from rfl] at hh0
          rw [show ((59 : UInt8).toNat : Int) = 59 from rfl] at hhl
          have hdd : d.length ≤ l.length := by omega
          have HT := Lib.hid (show tailB d = _ from by unfold tailB; rw [hh0, hhl])
          clear hh0 hhl
          have Hdl := Lib.hid hdl
          clear hdl
          cases q1 : d == [73]
          · cases q2 : d == [66]
            · cases q3 : d == [83]
              · by_cases h2 : 2 < d.length
                · cases q4 : ((d[0].toNat : Int) == 76)
                  · have Hfin := Lib.hid (show rightB l = false by rw [HD.out, HT.out, q1, q2, q3, q4]; simp)
                    go_wp2_with fail
                    go_ret
                    exact ⟨ret_bool Hfin.out.symm, rfl⟩
                  · cases q5 : ((d[d.length - 1].toNat : Int) == 59)
                    · have Hfin := Lib.hid (show rightB l = false by rw [HD.out, HT.out, q1, q2, q3, q5]; simp)
                      go_wp2_with fail
                      go_ret
                      exact ⟨ret_bool Hfin.out.symm, rfl⟩
                    · have Hfin := Lib.hid (show rightB l = nameB ((d.drop 1).take (d.length - 2)) by rw [HD.out, HT.out, q1, q2, q3, q4, q5]; simp [h2])
                      go_wp2_with (go_at_call 93; refine (refName_l _ _ (by rw [List.length_take]; simp; omega)).mono ?_; rintro e w' ⟨rfl, rfl⟩)
                      go_ret
                      exact ⟨ret_bool (by rw [Hfin.out, List.drop_one]), rfl⟩
                · have Hfin := Lib.hid (show rightB l = false by rw [HD.out, HT.out, q1, q2, q3]; simp [h2])
                  go_wp2_with fail
                  go_ret
                  exact ⟨ret_bool Hfin.out.symm, rfl⟩
              · have Hfin := Lib.hid (show rightB l = true by rw [HD.out, HT.out, q3]; simp)
                go_wp2_with fail
                go_ret
                exact ⟨ret_bool Hfin.out.symm, rfl⟩
            · have Hfin := Lib.hid (show rightB l = true by rw [HD.out, HT.out, q2]; simp)
              go_wp2_with fail
              go_ret
              exact ⟨ret_bool Hfin.out.symm, rfl⟩
          · have Hfin := Lib.hid (show rightB l = true by rw [HD.out, HT.out, q1]; simp)
            go_wp2_with fail
            go_ret
            exact ⟨ret_bool Hfin.out.symm, rfl⟩
        · have hnil : l.drop k = [] := List.drop_of_length_le (by omega)
          have Hfin := Lib.hid (show rightB l = false by rw [HD.out, hnil]; rfl)
          rw [hnil] at hx2
          obtain rfl : k = l.length := by omega
          clear hnil hdl
          go_wp2_with fail
          go_ret
          exact ⟨ret_bool Hfin.out.symm, rfl⟩

theorem refClass_any (l : List UInt8) (w : World) (hl : l.length ≤ 140737488355328) :
    Calls Tryz.prog 56 #[.string ⟨l.toArray⟩] w fun e w' => e = .returned (twoB (classT l)) ∧ w = w' := by
  cases hR : rightB l
  · have Hfin := Lib.hid (show classT l = ([], false) by unfold classT classB; rw [hR]; rfl)
    have HR := Lib.hid hR
    clear hR
    go_enter Tryz.func56, Tryz.ntmps56
    go_wp2_with (go_at_call 94; refine (refRight_any l _ (by omega)).mono ?_; rw [HR.out]; rintro e w' ⟨rfl, rfl⟩)
    go_ret2
    exact ⟨ret2B Hfin.out rfl, rfl⟩
  · have hp := right_pos hR
    have hp0 : 0 < l.length := by omega
    have hh := head_at hp0 76
    have hx0 := fun h' => at0 hp0 h'
    have HR := Lib.hid hR
    cases hc : ((l[0].toNat : Int) == 76)
    · have hc2 : ((l[0].toNat : Int) != 76) = true := by rw [bne, hc]; rfl
      have Hfin := Lib.hid (show classT l = ([], false) by unfold classT classB; rw [hR, hh]; rw [show ((76 : UInt8).toNat : Int) = 76 from rfl, hc]; rfl)
      clear hR hh
      go_enter Tryz.func56, Tryz.ntmps56
      go_wp2_with (go_at_call 94; refine (refRight_any l _ (by omega)).mono ?_; rw [HR.out]; rintro e w' ⟨rfl, rfl⟩)
      go_ret2
      exact ⟨ret2B Hfin.out rfl, rfl⟩
    · have hc2 : ((l[0].toNat : Int) != 76) = false := by rw [bne, hc]; rfl
      have h3 := class_len hR hp0 (by have := eq_of_beq hc; exact UInt8.toNat_inj.1 (by show l[0].toNat = 76; omega))
      have Hfin := Lib.hid (show classT l = ((l.drop 1).take (l.length - 2), true) by unfold classT classB; rw [hR, hh]; rw [show ((76 : UInt8).toNat : Int) = 76 from rfl, hc]; rfl)
      clear hR hh
      go_enter Tryz.func56, Tryz.ntmps56
      go_wp2_with (go_at_call 94; refine (refRight_any l _ (by omega)).mono ?_; rw [HR.out]; rintro e w' ⟨rfl, rfl⟩)
      go_ret2
      exact ⟨ret2B Hfin.out (by rw [ext]; congr 3), rfl⟩

theorem refElem_any (l : List UInt8) (w : World) (hl : l.length ≤ 140737488355328) :
    Calls Tryz.prog 58 #[.string ⟨l.toArray⟩] w fun e w' => e = .returned (twoI (elemT l)) ∧ w = w' := by
  cases hR : rightB l
  · have Hfin := Lib.hid (show elemT l = ([], 10) by unfold elemT elemB; rw [hR]; rfl)
    have HR := Lib.hid hR
    clear hR
    go_enter Tryz.func58, Tryz.ntmps58
    go_wp2_with (go_at_call 94; refine (refRight_any l _ (by omega)).mono ?_; rw [HR.out]; rintro e w' ⟨rfl, rfl⟩)
    go_ret2
    exact ⟨ret2I Hfin.out rfl, rfl⟩
  · have hp := right_pos hR
    have hp0 : 0 < l.length := by omega
    have hh := head_at hp0 91
    have hx0 := fun h' => at0 hp0 h'
    have HR := Lib.hid hR
    cases hc : ((l[0].toNat : Int) == 91)
    · have hc2 : ((l[0].toNat : Int) != 91) = true := by rw [bne, hc]; rfl
      have Hfin := Lib.hid (show elemT l = ([], 10) by unfold elemT elemB; rw [hR, hh]; rw [show ((91 : UInt8).toNat : Int) = 91 from rfl, hc]; rfl)
      clear hR hh
      go_enter Tryz.func58, Tryz.ntmps58
      go_wp2_with (go_at_call 94; refine (refRight_any l _ (by omega)).mono ?_; rw [HR.out]; rintro e w' ⟨rfl, rfl⟩)
      go_ret2
      exact ⟨ret2I Hfin.out rfl, rfl⟩
    · have hc2 : ((l[0].toNat : Int) != 91) = false := by rw [bne, hc]; rfl
      have Hfin := Lib.hid (show elemT l = (l.drop 1, 0) by unfold elemT elemB; rw [hR, hh]; rw [show ((91 : UInt8).toNat : Int) = 91 from rfl, hc]; rfl)
      clear hR hh
      go_enter Tryz.func58, Tryz.ntmps58
      go_wp2_with (go_at_call 94; refine (refRight_any l _ (by omega)).mono ?_; rw [HR.out]; rintro e w' ⟨rfl, rfl⟩)
      go_ret2
      exact ⟨ret2I Hfin.out (by rw [ext, List.take_of_length_le (by simp)]), rfl⟩


/-- a type's first byte -/
theorem right_head {l : List UInt8} (h : rightB l = true) (h0 : 0 < l.length) : l = [73] ∨ l = [66] ∨ l = [83] ∨ l[0] = 76 ∨ l[0] = 91 := by
  cases l with
  | nil => simp at h0
  | cons c t =>
    by_cases hc : c = 91
    · subst hc; simp
    · have hb : brk (c :: t) = 0 := by simp [brk, hc]
      rw [right_tail, hb, List.drop_zero] at h
      simp only [Bool.and_eq_true, decide_eq_true_eq] at h
      have h2 := h.2
      simp only [tailB, Bool.or_eq_true, Bool.and_eq_true, beq_iff_eq, decide_eq_true_eq] at h2
      rcases h2 with ((h2 | h2) | h2) | ⟨⟨⟨_, h2⟩, _⟩, _⟩
      · exact .inl h2
      · exact .inr (.inl h2)
      · exact .inr (.inr (.inl h2))
      · simp at h2; simp [h2]

theorem refRef_any (l : List UInt8) (w : World) (hl : l.length ≤ 140737488355328) :
    Calls Tryz.prog 61 #[.string ⟨l.toArray⟩] w fun e w' => e = .returned (.bool (refB l)) ∧ w = w' := by
  cases hN : l == [78]
  · cases hS : l == [83]
    · cases hR : rightB l
      · have Hfin := Lib.hid (show refB l = false by unfold refB; rw [hN, hR]; rfl)
        have HR := Lib.hid hR
        clear hR
        go_enter Tryz.func61, Tryz.ntmps61
        go_wp2_with (go_at_call 94; refine (refRight_any l _ (by omega)).mono ?_; rw [HR.out]; rintro e w' ⟨rfl, rfl⟩)
        go_ret
        exact ⟨ret_bool (by rw [Hfin.out]), rfl⟩
      · have hp0 : 0 < l.length := right_pos hR
        have hx0 := fun h' => at_mk 0 hp0 h'
        have hh := right_head hR hp0
        have HR := Lib.hid hR
        have hS' : ¬ l = [83] := by intro h; rw [h] at hS; simp at hS
        cases q1 : ((l[0].toNat : Int) == 76)
        · cases q2 : ((l[0].toNat : Int) == 91)
          · have Hfin := Lib.hid (show refB l = false by
              unfold refB
              rw [hN, hR]
              rcases hh with h | h | h | h | h
              · rw [h]; rfl
              · rw [h]; rfl
              · exact absurd h hS'
              · rw [h] at q1; simp at q1
              · rw [h] at q2; simp at q2)
            clear hR hh hS'
            go_enter Tryz.func61, Tryz.ntmps61
            go_wp2_with (go_at_call 94; refine (refRight_any l _ (by omega)).mono ?_; rw [HR.out]; rintro e w' ⟨rfl, rfl⟩)
            go_ret
            exact ⟨ret_bool (by rw [Hfin.out]), rfl⟩
          · have Hfin := Lib.hid (show refB l = true by
              unfold refB
              rw [hN, hR]
              have h1 : ¬ l = [73] := by intro h; subst h; simp at q2
              have h2 : ¬ l = [66] := by intro h; subst h; simp at q2
              simp [h1, h2])
            clear hR hh hS'
            go_enter Tryz.func61, Tryz.ntmps61
            go_wp2_with (go_at_call 94; refine (refRight_any l _ (by omega)).mono ?_; rw [HR.out]; rintro e w' ⟨rfl, rfl⟩)
            go_ret
            exact ⟨ret_bool (by rw [Hfin.out]), rfl⟩
        · have Hfin := Lib.hid (show refB l = true by
            unfold refB
            rw [hN, hR]
            have h1 : ¬ l = [73] := by intro h; subst h; simp at q1
            have h2 : ¬ l = [66] := by intro h; subst h; simp at q1
            simp [h1, h2])
          clear hR hh hS'
          go_enter Tryz.func61, Tryz.ntmps61
          go_wp2_with (go_at_call 94; refine (refRight_any l _ (by omega)).mono ?_; rw [HR.out]; rintro e w' ⟨rfl, rfl⟩)
          go_ret
          exact ⟨ret_bool (by rw [Hfin.out]), rfl⟩
    · have Hfin := Lib.hid (show refB l = true by have := eq_of_beq hS; subst this; decide)
      go_enter Tryz.func61, Tryz.ntmps61
      go_wp2
      go_ret
      exact ⟨ret_bool (by rw [Hfin.out]), rfl⟩
  · have Hfin := Lib.hid (show refB l = true by unfold refB; rw [hN]; rfl)
    go_enter Tryz.func61, Tryz.ntmps61
    go_wp2
    go_ret
    exact ⟨ret_bool (by rw [Hfin.out]), rfl⟩

end DescR
end Go.Proofs.YtehainbhoflpnaaGreatDoor
