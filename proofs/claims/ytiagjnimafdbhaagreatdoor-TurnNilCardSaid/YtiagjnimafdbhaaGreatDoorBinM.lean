/-
  Plain facts on names, on numbers as bytes, and on lists of bytes: no program is loaded here.
  Plain facts on numbers as bytes: writing one, and reading one: no program is loaded here.
  Words for memory that all texts of this seat share: a slice value that leads to a list of cells; what a conversion of cells8 to a text gives. Small facts on them.
  More words for arguments that came in: slices of numbers, and of texts.
  append, as the walks of this seat meet it: onto a row of the call's own, from any slice that leads to known cells, nil or not.
-/
import Derived.Below
import Derived.Laws.OwnMore
import Derived.Laws.Cells
import Derived.Laws.BytesString
import Derived.Deep.Draws
import Derived.Deep.MidRow
import Derived.Lib.Hide
import Derived.Lib.AppendStr
import Derived.Laws.Rows
import Derived.OwnWalk
import Derived.WalkKit
import Derived.Deep.DeepAppendWide
import Derived.Deep.WholeRow
namespace Go.Proofs.YtiagjnimafdbhaaGreatDoor
namespace BinM

/-- a letter, as a number of a byte -/
def isLet (x : Int) : Bool := decide ((65 ≤ x ∧ x ≤ 90) ∨ (97 ≤ x ∧ x ≤ 122) ∨ x = 95)
def isDig (x : Int) : Bool := decide (48 ≤ x ∧ x ≤ 57)
/-- what a name's byte may be: a letter, or, not at the head, a digit -/
def okI (k : Nat) (x : Int) : Bool := isLet x || (decide (k ≠ 0) && isDig x)
def okB (k : Nat) (c : UInt8) : Bool := okI k (c.toNat : Int)
/-- all bytes of a text fit, the first of them standing at place k -/
def restB : Nat → List UInt8 → Bool
  | _, [] => true
  | k, c :: t => okB k c && restB (k + 1) t
def nameB (l : List UInt8) : Bool := decide (1 ≤ l.length) && decide (l.length ≤ 24) && restB 0 l

theorem restB_append (k : Nat) (a b : List UInt8) : restB k (a ++ b) = (restB k a && restB (k + a.length) b) := by
  induction a generalizing k with
  | nil => simp [restB]
  | cons c t ih => simp [restB, ih, Bool.and_assoc, Nat.add_assoc, Nat.add_comm 1]

theorem restB_take_succ (s : ByteArray) (k : Nat) (h : k < s.size) :
    restB 0 (s.data.toList.take (k + 1)) = (restB 0 (s.data.toList.take k) && okB k s[k]) := by
  rw [List.take_succ_eq_append_getElem (by simpa using h), restB_append]
  have hl : (s.data.toList.take k).length = k := by simp; have : s.data.size = s.size := rfl; omega
  rw [hl]
  simp [restB]
  rfl

theorem restB_false_at (s : ByteArray) (k : Nat) (h : k < s.size) (hk : okB k s[k] = false) : restB 0 s.data.toList = false := by
  have e : s.data.toList = s.data.toList.take (k + 1) ++ s.data.toList.drop (k + 1) := (List.take_append_drop _ _).symm
  rw [e, restB_append, restB_take_succ s k h, hk]
  simp

theorem nameB_false_at (s : ByteArray) (k : Nat) (h : k < s.size) (hk : okB k s[k] = false) : nameB s.data.toList = false := by
  unfold nameB; rw [restB_false_at s k h hk]; simp

theorem nameB_of (s : ByteArray) (h1 : 1 ≤ s.size) (h2 : s.size ≤ 24) (h : restB 0 s.data.toList = true) : nameB s.data.toList = true := by
  have hl : s.data.toList.length = s.size := by simp
  unfold nameB; rw [hl, h]; simp [h1, h2]

theorem nameB_short (s : ByteArray) (h : ¬ (1 ≤ s.size ∧ s.size ≤ 24)) : nameB s.data.toList = false := by
  have hl : s.data.toList.length = s.size := by simp
  unfold nameB; rw [hl]
  by_cases a : 1 ≤ s.size
  · have b : ¬ s.size ≤ 24 := fun b => h ⟨a, b⟩
    simp [b]
  · simp [a]

/-! numbers as bytes -/
/-- a number of 64 bits as one without a sign -/
def foldI (n : Int) : Int := if n < 0 then -2 * n - 1 else 2 * n
/-- the way back -/
def unfoldI (u : Int) : Int := if u % 2 = 1 then -(u / 2) - 1 else u / 2
/-- whether c can be the last byte of a number, with i bytes ahead of it -/
def lastI (c i : Int) : Bool := decide (¬ (0 < i ∧ c = 0) ∧ (i < 9 ∨ c ≤ 1))

end BinM
end Go.Proofs.YtiagjnimafdbhaaGreatDoor

namespace Go.Proofs.YtiagjnimafdbhaaGreatDoor
namespace BinE
open BinM

/-- the number that bytes are, seven bits of each, the lowest first -/
def val : List UInt8 → Nat
  | [] => 0
  | c :: t => c.toNat % 128 + 128 * val t

/-- a number's bytes, at most f + 1 of them -/
def encF : Nat → Nat → List UInt8
  | 0, u => [UInt8.ofNat u]
  | f + 1, u => if u < 128 then [UInt8.ofNat u] else UInt8.ofNat (u % 128 + 128) :: encF f (u / 128)
def enc (u : Nat) : List UInt8 := encF 9 u
/-- a number of 64 bits as bytes -/
def num (n : Int) : List UInt8 := enc (foldI n).toNat

/-- how many bytes from 128 on stand ahead -/
def lead : List UInt8 → Nat
  | [] => 0
  | c :: t => if 128 ≤ c.toNat then lead t + 1 else 0

/-- what is read off bytes: the number, how many bytes it took, the error's number -/
def getL (l : List UInt8) : Int × Nat × Int :=
  if 10 ≤ lead l then (0, 0, 5)
  else if l.length ≤ lead l then (0, 0, 4)
  else if lastI ((l.getD (lead l) 0).toNat : Int) (lead l : Int) then (unfoldI (val (l.take (lead l + 1)) : Int), lead l + 1, 0)
  else (0, 0, 5)

/-- what is read at a place: the number, the place behind it, the error's number -/
def getS (b : List UInt8) (a : Int) : Int × Int × Int :=
  if a < 0 ∨ (b.length : Int) < a then (0, 0, 3)
  else if (getL (b.drop a.toNat)).2.2 = 0 then ((getL (b.drop a.toNat)).1, a + ((getL (b.drop a.toNat)).2.1 : Int), 0)
  else (0, 0, (getL (b.drop a.toNat)).2.2)

theorem toNat_ofNat (n : Nat) (h : n < 256) : (UInt8.ofNat n).toNat = n := by simp; omega
theorem ofNat_eq (c : UInt8) (n : Nat) (h : n = c.toNat) : UInt8.ofNat n = c := by subst h; simp

theorem val_snoc (l : List UInt8) (c : UInt8) : val (l ++ [c]) = val l + (c.toNat % 128) * 128 ^ l.length := by
  induction l with
  | nil => simp [val]
  | cons a t ih =>
    simp only [List.cons_append, val, ih, List.length_cons, Nat.pow_succ, Nat.mul_add]
    have e : 128 * ((c.toNat % 128) * 128 ^ t.length) = c.toNat % 128 * (128 ^ t.length * 128) := by
      rw [Nat.mul_left_comm, Nat.mul_comm 128]
    omega

theorem val_lt (l : List UInt8) : val l < 128 ^ l.length := by
  induction l with
  | nil => simp [val]
  | cons a t ih => simp only [val, List.length_cons, Nat.pow_succ]; omega

/-- bytes as a number's bytes are -/
def Can : List UInt8 → Prop
  | [] => False
  | [c] => c.toNat < 128
  | c :: d :: t => 128 ≤ c.toNat ∧ (t = [] → d.toNat ≠ 0) ∧ Can (d :: t)

theorem Can.pos : ∀ {l : List UInt8}, Can l → (2 ≤ l.length ∨ ∀ c, l = [c] → c.toNat ≠ 0) → 0 < val l
  | [], h, _ => by cases h
  | [c], h, h2 => by
    simp [Can] at h
    have h3 : c.toNat ≠ 0 := by rcases h2 with h2 | h2
                                · simp at h2
                                · exact h2 c rfl
    simp [val]; omega
  | c :: d :: t, h, _ => by
    obtain ⟨h1, h2, h3⟩ := h
    have : 0 < val (d :: t) := Can.pos h3 (by
      cases t with
      | nil => right; intro c' e; simp at e; subst e; exact h2 rfl
      | cons => left; simp)
    simp only [val] at this ⊢
    omega

theorem Can.ne : ∀ {l : List UInt8}, Can l → l ≠ [] := by
  intro l h e; subst e; cases h

theorem can_encF : ∀ (f u : Nat), u < 128 ^ (f + 1) → Can (encF f u) ∧ val (encF f u) = u ∧ (encF f u).length ≤ f + 1 ∧ (u = 0 ∨ ∀ c, encF f u = [c] → c.toNat ≠ 0)
  | 0, u, h => by
    have h' : u < 128 := by simpa using h
    have e : (UInt8.ofNat u).toNat = u := toNat_ofNat u (by omega)
    refine ⟨by unfold encF Can; omega, by simp only [encF, val]; omega, by simp [encF], ?_⟩
    by_cases h0 : u = 0
    · exact .inl h0
    · right; intro c hc; simp only [encF, List.cons.injEq, and_true] at hc; subst hc; omega
  | f + 1, u, h => by
    unfold encF
    by_cases hu : u < 128
    · rw [if_pos hu]
      have e : (UInt8.ofNat u).toNat = u := toNat_ofNat u (by omega)
      refine ⟨by unfold Can; omega, by simp only [val]; omega, by simp, ?_⟩
      by_cases h0 : u = 0
      · exact .inl h0
      · right; intro c hc; simp only [List.cons.injEq, and_true] at hc; subst hc; omega
    · rw [if_neg hu]
      have hb : u / 128 < 128 ^ (f + 1) := by
        rw [Nat.pow_succ] at h
        exact Nat.div_lt_of_lt_mul (by rw [Nat.mul_comm]; exact h)
      obtain ⟨c1, c2, c3, c4⟩ := can_encF f (u / 128) hb
      have e : (UInt8.ofNat (u % 128 + 128)).toNat = u % 128 + 128 := toNat_ofNat _ (by omega)
      refine ⟨?_, by simp only [val, c2]; omega, by simp; omega, ?_⟩
      · cases hl : encF f (u / 128) with
        | nil => rw [hl] at c1; cases c1
        | cons d t =>
          rw [hl] at c1 c4
          refine ⟨by omega, fun ht => ?_, c1⟩
          subst ht
          rcases c4 with c4 | c4
          · omega
          · exact c4 d rfl
      · right
        intro c hc
        have := c1.ne
        simp at hc
        exact absurd hc.2 this

theorem encF_val : ∀ (l : List UInt8) (f : Nat), Can l → l.length ≤ f + 1 → encF f (val l) = l
  | [], _, h, _ => by cases h
  | [c], f, h, _ => by
    have hc : c.toNat < 128 := h
    have e : c.toNat % 128 + 128 * 0 = c.toNat := by omega
    cases f <;> simp only [encF, val, e, if_pos hc] <;> rw [ofNat_eq c _ rfl]
  | c :: d :: t, f, h, hl => by
    obtain ⟨h1, h2, h3⟩ := h
    have hp : 0 < val (d :: t) := Can.pos h3 (by
      cases t with
      | nil => right; intro c' e; simp at e; subst e; exact h2 rfl
      | cons => left; simp)
    cases f with
    | zero => simp at hl
    | succ f =>
      have hc : c.toNat < 256 := c.toNat_lt
      have hv : val (c :: d :: t) = c.toNat % 128 + 128 * val (d :: t) := rfl
      rw [hv]
      unfold encF
      rw [if_neg (by omega)]
      have e1 : (c.toNat % 128 + 128 * val (d :: t)) / 128 = val (d :: t) := by omega
      have e2 : (c.toNat % 128 + 128 * val (d :: t)) % 128 + 128 = c.toNat := by omega
      rw [e1, e2, encF_val (d :: t) f h3 (by simp at hl ⊢; omega), ofNat_eq c _ rfl]

theorem lead_le : ∀ l : List UInt8, lead l ≤ l.length
  | [] => by simp [lead]
  | c :: t => by
    have := lead_le t
    unfold lead
    split <;> simp <;> omega

theorem lead_ge : ∀ (l : List UInt8) (j : Nat) (h : j < l.length), j < lead l → 128 ≤ l[j].toNat
  | [], j, h, _ => by simp at h
  | c :: t, j, h, hj => by
    unfold lead at hj
    split at hj
    · rename_i hc
      cases j with
      | zero => exact hc
      | succ j => simp; exact lead_ge t j (by simpa using h) (by omega)
    · omega

theorem lead_lt : ∀ (l : List UInt8) (h : lead l < l.length), l[lead l].toNat < 128
  | [], h => by simp at h
  | c :: t, h => by
    by_cases hc : 128 ≤ c.toNat
    · have e : lead (c :: t) = lead t + 1 := by simp [lead, hc]
      simp only [e] at h ⊢
      simpa using lead_lt t (by simpa using h)
    · have e : lead (c :: t) = 0 := by simp [lead, hc]
      simp only [e]
      simp; omega

/-- how many bytes stand ahead of the first one below 128, told by a place -/
theorem lead_eq {l : List UInt8} {m : Nat} (h : ∀ j (hj : j < l.length), j < m → 128 ≤ l[j].toNat) (hm : m ≤ l.length) (hn : m = l.length ∨ ∃ hl : m < l.length, l[m].toNat < 128) : lead l = m := by
  rcases Nat.lt_trichotomy (lead l) m with hlt | he | hgt
  · have := lead_lt l (by omega)
    have := h (lead l) (by omega) hlt
    omega
  · exact he
  · have hle := lead_le l
    rcases hn with hn | ⟨hl, hc⟩
    · omega
    · have := lead_ge l m hl hgt
      omega

theorem lead_of_can : ∀ {l : List UInt8} (r : List UInt8), Can l → lead (l ++ r) = l.length - 1
  | [], _, h => by cases h
  | [c], r, h => by
    have hc : c.toNat < 128 := h
    simp [lead]; omega
  | c :: d :: t, r, h => by
    obtain ⟨h1, h2, h3⟩ := h
    have := lead_of_can r h3
    simp only [List.cons_append, List.length_cons] at this ⊢
    rw [lead, if_pos h1, this]
    omega

theorem can_take : ∀ (l : List UInt8) (hl : lead l < l.length), ¬ (0 < lead l ∧ l[lead l].toNat = 0) → Can (l.take (lead l + 1))
  | [], h, _ => by simp at h
  | [c], h, _ => by
    by_cases hc : 128 ≤ c.toNat
    · simp [lead, hc] at h
    · have e : lead [c] = 0 := by simp [lead, hc]
      rw [e]; simp [Can]; omega
  | c :: d :: t, h, hn => by
    by_cases hc : 128 ≤ c.toNat
    · have e : lead (c :: d :: t) = lead (d :: t) + 1 := by conv => lhs; unfold lead; rw [if_pos hc]
      simp only [e] at h hn ⊢
      have h' : lead (d :: t) < (d :: t).length := by simpa using h
      have hn' : (d :: t)[lead (d :: t)].toNat ≠ 0 := by
        intro h0
        exact hn ⟨by omega, by simpa using h0⟩
      have ih := can_take (d :: t) h' (fun hh => hn' hh.2)
      rw [List.take_succ_cons]
      rw [List.take_succ_cons] at ih ⊢
      refine ⟨hc, fun ht => ?_, ih⟩
      have hz : lead (d :: t) = 0 := by
        rcases Nat.eq_zero_or_pos (lead (d :: t)) with h0 | h0
        · exact h0
        · exfalso
          cases t with
          | nil => simp at h'; omega
          | cons a r =>
            cases hk : lead (d :: a :: r) with
            | zero => omega
            | succ k => rw [hk] at ht; simp at ht
      simp only [hz] at hn'
      simpa using hn'
    · have e : lead (c :: d :: t) = 0 := by simp [lead, hc]
      rw [e]
      simp [Can]; omega

theorem can_last : ∀ {l : List UInt8}, Can l → 2 ≤ l.length → ∀ h : l.length - 1 < l.length, l[l.length - 1].toNat ≠ 0
  | [], h, _, _ => by cases h
  | [c], _, h2, _ => by simp at h2
  | [c, d], h, _, _ => h.2.1 rfl
  | c :: d :: e :: t, h, _, hh => by
    have := can_last h.2.2 (by simp) (by simp)
    simpa using this

/-- bytes that a number's are, read as one: itself -/
theorem enc_val {l : List UInt8} (h : Can l) (hl : l.length ≤ 10) : enc (val l) = l := encF_val l 9 h hl

theorem enc_can {u : Nat} (h : u < 18446744073709551616) : Can (enc u) ∧ val (enc u) = u ∧ (enc u).length ≤ 10 := by
  have := can_encF 9 u (by have : (128 : Nat) ^ (9 + 1) = 1180591620717411303424 := by decide
                           omega)
  exact ⟨this.1, this.2.1, this.2.2.1⟩

theorem val_ge_last : ∀ (l : List UInt8) (h : l.length - 1 < l.length), l[l.length - 1].toNat % 128 * 128 ^ (l.length - 1) ≤ val l
  | [], h => by simp at h
  | [c], _ => by simp [val]
  | c :: d :: t, _ => by
    have := val_ge_last (d :: t) (by simp)
    simp only [List.length_cons, Nat.add_sub_cancel, val, Nat.pow_succ] at this ⊢
    simp only [List.getElem_cons_succ]
    rw [← Nat.mul_assoc]
    omega

theorem enc_ten {u : Nat} (h : u < 18446744073709551616) (h10 : (enc u).length = 10) : (enc u)[9].toNat ≤ 1 := by
  obtain ⟨c1, c2, c3⟩ := enc_can h
  have hc := val_ge_last (enc u) (by omega)
  have hl := lead_lt (enc u) (by have := lead_of_can [] c1; simp at this; omega)
  have e : lead (enc u) = 9 := by have := lead_of_can [] c1; simp at this; omega
  simp only [e] at hl
  simp only [h10, c2] at hc
  have e63 : (128 : Nat) ^ (10 - 1) = 9223372036854775808 := by decide
  rw [e63] at hc
  have e9 : (enc u)[10 - 1].toNat % 128 = (enc u)[9].toNat := Nat.mod_eq_of_lt hl
  rw [e9] at hc
  omega

theorem unfold_fold (n : Int) : unfoldI (foldI n) = n := by unfold unfoldI foldI; split <;> split <;> omega
theorem fold_unfold (u : Int) (h : 0 ≤ u) : foldI (unfoldI u) = u := by unfold unfoldI foldI; split <;> split <;> omega
theorem fold_pos (n : Int) : 0 ≤ foldI n := by unfold foldI; split <;> omega
theorem fold_lt {n : Int} (h0 : -9223372036854775808 ≤ n) (h1 : n ≤ 9223372036854775807) : foldI n ≤ 18446744073709551615 := by unfold foldI; split <;> omega
theorem unfold_in {u : Int} (h0 : 0 ≤ u) (h1 : u ≤ 18446744073709551615) : -9223372036854775808 ≤ unfoldI u ∧ unfoldI u ≤ 9223372036854775807 := by unfold unfoldI; split <;> omega

theorem num_can {n : Int} (h0 : -9223372036854775808 ≤ n) (h1 : n ≤ 9223372036854775807) : Can (num n) ∧ val (num n) = (foldI n).toNat ∧ (num n).length ≤ 10 := by
  have := fold_lt h0 h1
  exact enc_can (by omega)

theorem num_pos {n : Int} (h0 : -9223372036854775808 ≤ n) (h1 : n ≤ 9223372036854775807) : 1 ≤ (num n).length := by
  have := (num_can h0 h1).1.ne
  cases h : num n with
  | nil => exact absurd h this
  | cons => simp

/-- a number's bytes, whatever stands behind them, are read as the number -/
theorem getL_num {n : Int} (h0 : -9223372036854775808 ≤ n) (h1 : n ≤ 9223372036854775807) (r : List UInt8) : getL (num n ++ r) = (n, (num n).length, 0) := by
  obtain ⟨c1, c2, c3⟩ := num_can h0 h1
  have hp := num_pos h0 h1
  have hl := lead_of_can r c1
  have hlen : lead (num n ++ r) + 1 = (num n).length := by omega
  have ht : (num n ++ r).take (lead (num n ++ r) + 1) = num n := by rw [hlen]; simp
  have hg : (num n ++ r).getD (lead (num n ++ r)) 0 = (num n)[(num n).length - 1] := by
    rw [hl, List.getD_eq_getElem?_getD, List.getElem?_append_left (by omega), List.getElem?_eq_getElem (by omega)]; rfl
  unfold getL
  rw [if_neg (by omega), if_neg (by simp; omega), if_pos ?_, ht, c2, hlen]
  · have := fold_pos n
    rw [Int.toNat_of_nonneg this, unfold_fold]
  · rw [hg, hl]
    unfold lastI
    have hf := fold_lt h0 h1
    have hu : (foldI n).toNat < 18446744073709551616 := by omega
    have hlast := @can_last _ c1
    refine decide_eq_true ⟨?_, ?_⟩
    · rintro ⟨ha, hb⟩
      exact hlast (by omega) (by omega) (by omega)
    · by_cases h9 : (num n).length = 10
      · right
        have := enc_ten hu h9
        have e : (num n)[(num n).length - 1] = (num n)[9] := by congr 1; omega
        rw [e]
        exact (by show (((enc (foldI n).toNat)[9]'(by show 9 < (num n).length; omega)).toNat : Int) ≤ 1; omega)
      · left; omega

/-- the number that is read has just these bytes -/
theorem num_getL {l : List UInt8} (h10 : lead l < 10) (hlt : lead l < l.length) (hL : lastI ((l.getD (lead l) 0).toNat : Int) (lead l : Int) = true) :
    val (l.take (lead l + 1)) < 18446744073709551616 ∧ num (unfoldI (val (l.take (lead l + 1)) : Int)) = l.take (lead l + 1) := by
  have hg : l.getD (lead l) 0 = l[lead l] := by rw [List.getD_eq_getElem?_getD, List.getElem?_eq_getElem hlt]; rfl
  rw [hg] at hL
  unfold lastI at hL
  have hL' := of_decide_eq_true hL
  obtain ⟨ha, hb⟩ := hL'
  have hc : Can (l.take (lead l + 1)) := can_take l hlt (fun h => ha ⟨by omega, by omega⟩)
  have hlen : (l.take (lead l + 1)).length = lead l + 1 := by simp; omega
  have hv : val (l.take (lead l + 1)) < 18446744073709551616 := by
    rw [List.take_succ_eq_append_getElem hlt, val_snoc]
    have h1 := val_lt (l.take (lead l))
    have hl' : (l.take (lead l)).length = lead l := by simp; omega
    rw [hl'] at h1 ⊢
    have h3 := lead_lt l hlt
    have e63 : (128 : Nat) ^ 9 = 9223372036854775808 := by decide
    rcases (by omega : lead l < 9 ∨ lead l = 9) with h9 | h9
    · have h5 : (128 : Nat) ^ (lead l + 1) ≤ 128 ^ 9 := Nat.pow_le_pow_right (by omega) (by omega)
      rw [Nat.pow_succ] at h5
      have : l[lead l].toNat % 128 * 128 ^ lead l ≤ 127 * 128 ^ lead l := Nat.mul_le_mul_right _ (by omega)
      omega
    · have hc1 : l[lead l].toNat ≤ 1 := by omega
      have hm : l[lead l].toNat % 128 = l[lead l].toNat := Nat.mod_eq_of_lt (by omega)
      have e : (128 : Nat) ^ lead l = 9223372036854775808 := by rw [h9]
      rw [hm, e]
      rw [e] at h1
      omega
  refine ⟨hv, ?_⟩
  unfold num
  rw [fold_unfold _ (by omega), Int.toNat_natCast, enc_val hc (by omega)]

/-- bytes that can't be a number's are not those of any -/
theorem not_num {l : List UInt8} (h10 : lead l < 10) (hlt : lead l < l.length) (hL : lastI ((l.getD (lead l) 0).toNat : Int) (lead l : Int) = false) {u : Nat} (hu : u < 18446744073709551616) :
    enc u ≠ l.take (lead l + 1) := by
  intro he
  have hg : l.getD (lead l) 0 = l[lead l] := by rw [List.getD_eq_getElem?_getD, List.getElem?_eq_getElem hlt]; rfl
  rw [hg] at hL
  unfold lastI at hL
  have hL' := of_decide_eq_false hL
  obtain ⟨c1, c2, c3⟩ := enc_can hu
  have hlen : (enc u).length = lead l + 1 := by rw [he]; simp; omega
  have hx : ∀ h : lead l < (enc u).length, (enc u)[lead l] = l[lead l] := by
    intro h
    have h1 : (enc u)[lead l]? = (l.take (lead l + 1))[lead l]? := by rw [he]
    rw [List.getElem?_eq_getElem h, List.getElem?_take, if_pos (by omega), List.getElem?_eq_getElem hlt] at h1
    injection h1
  have hx' := hx (by omega)
  apply hL'
  refine ⟨?_, ?_⟩
  · rintro ⟨ha, hb⟩
    have := can_last c1 (by omega) (by omega)
    have e : (enc u)[(enc u).length - 1] = (enc u)[lead l] := by congr 1; omega
    rw [e, hx'] at this
    omega
  · by_cases h9 : lead l = 9
    · right
      have := enc_ten hu (by omega)
      have e : (enc u)[9] = (enc u)[lead l] := by congr 1; omega
      rw [e, hx'] at this
      omega
    · left; omega

end BinE
end Go.Proofs.YtiagjnimafdbhaaGreatDoor

namespace Go.Proofs.YtiagjnimafdbhaaGreatDoor
namespace Base
open Go.RowKit

/-- The address of a slice leads to these cells, in order, in a block that the world has; where there are none it may be any. -/
def Rds (w : World) (A : Option Addr) (xs : List Value) : Prop :=
  xs = [] ∨ ∃ b o, A = some ⟨b, o, none⟩ ∧ b < w.heap.size ∧ ∀ j u, xs[j]? = some u → w.cell? ⟨b, o + j, none⟩ = some u

/-- a byte as a cell; cells8 as cells -/
def cell8 (c : UInt8) : Value := .int .u8 (c.toNat : Int)
def cells8 (l : List UInt8) : List Value := l.map cell8

theorem cells8_length (l : List UInt8) : (cells8 l).length = l.length := by simp [cells8]
theorem cells8_get (l : List UInt8) (k : Nat) (h : k < l.length) : (cells8 l)[k]? = some (.int .u8 (l[k].toNat : Int)) := by simp [cells8, cell8, h]
theorem cells8_append (a b : List UInt8) : cells8 (a ++ b) = cells8 a ++ cells8 b := by simp [cells8]
theorem cells8_drop (l : List UInt8) (k : Nat) : (cells8 l).drop k = cells8 (l.drop k) := by simp [cells8, List.map_drop]
theorem cells8_take (l : List UInt8) (k : Nat) : (cells8 l).take k = cells8 (l.take k) := by simp [cells8, List.map_take]
theorem cells8_one (l : List UInt8) : ∀ u ∈ cells8 l, u.oneCell' = true := by
  intro u hu
  simp only [cells8, List.mem_map] at hu
  obtain ⟨c, _, rfl⟩ := hu
  rfl

section
variable {w w' : World} {A : Option Addr} {xs : List Value}

theorem Rds.none_ (w : World) (A : Option Addr) : Rds w A [] := .inl rfl

theorem Rds.at_ {k : Nat} (h : Rds w A xs) (hk : k < xs.length) : ∃ b o, A = some ⟨b, o, none⟩ ∧ b < w.heap.size ∧ w.cell? ⟨b, o + k, none⟩ = some xs[k] := by
  rcases h with rfl | ⟨b, o, hA, hb, hc⟩
  · simp at hk
  · exact ⟨b, o, hA, hb, hc k _ (List.getElem?_eq_getElem hk)⟩

theorem Rds.below (h : Rds w A xs) (hb : Below w.heap.size w w') : Rds w' A xs := by
  rcases h with rfl | ⟨b, o, hA, hlt, hc⟩
  · exact .inl rfl
  · exact .inr ⟨b, o, hA, Nat.lt_of_lt_of_le hlt hb.size, fun j u hu => (hb.cell (p := ⟨b, o + j, none⟩) hlt).trans (hc j u hu)⟩

/-- below a number under which the slice's block lies -/
theorem Rds.below_of (h : Rds w A xs) {B : Nat} (hb : Below B w w') (hA : ∀ a, A = some a → a.block < B) : Rds w' A xs := by
  rcases h with rfl | ⟨b, o, rfl, hlt, hc⟩
  · exact .inl rfl
  · have hB : b < B := hA _ rfl
    exact .inr ⟨b, o, rfl, Nat.lt_of_lt_of_le hlt hb.size, fun j u hu => (hb.cell (p := ⟨b, o + j, none⟩) hB).trans (hc j u hu)⟩

theorem Rds.grown (h : Rds w A xs) {row : Option Nat} (hg : w.grownBy w' row) (hne : ∀ a, A = some a → some a.block ≠ row) : Rds w' A xs := by
  rcases h with rfl | ⟨b, o, rfl, hlt, hc⟩
  · exact .inl rfl
  · exact .inr ⟨b, o, rfl, Nat.lt_of_lt_of_le hlt hg.size, fun j u hu => hg.cell (hc j u hu) (hne ⟨b, o, none⟩ rfl)⟩

theorem Rds.drewN (h : Rds w A xs) (n : Nat) : Rds (w.drewN n) A xs := h
theorem Rds.drew (h : Rds w A xs) : Rds w.drew A xs := h

theorem Rds.take (h : Rds w A xs) (k : Nat) : Rds w A (xs.take k) := by
  rcases h with rfl | ⟨b, o, hA, hlt, hc⟩
  · simp [Rds]
  · refine .inr ⟨b, o, hA, hlt, fun j u hu => hc j u ?_⟩
    rw [List.getElem?_take] at hu
    by_cases hj : j < k
    · rwa [if_pos hj] at hu
    · rw [if_neg hj] at hu; cases hu

theorem Rds.drop (h : Rds w A xs) {k c : Nat} (hc : xs.length ≤ c) : Rds w (if c = k then A else A.map (·.add k)) (xs.drop k) := by
  by_cases hk : k < xs.length
  · rcases h with rfl | ⟨b, o, rfl, hlt, hcell⟩
    · simp at hk
    · rw [if_neg (by omega)]
      refine .inr ⟨b, o + k, by simp only [Option.map_some, Addr.add_mid], hlt, fun j u hu => ?_⟩
      rw [List.getElem?_drop] at hu
      have := hcell (k + j) u hu
      rwa [← Nat.add_assoc] at this
  · rw [List.drop_of_length_le (by omega)]
    exact .inl rfl

theorem Rds.own {base : Nat} {e : TypeId} {size n c : Nat} (h : w.ownsRow base e size (.slice A n c) n xs) : Rds w A xs := by
  rcases h.2 with ⟨hv, hn⟩ | ⟨g, cap, cur, hv, hb, hh, hn, hm, hs, hx⟩
  · have h1 := h.1
    rw [hn] at h1
    exact .inl (List.eq_nil_of_length_eq_zero (by omega))
  · have hA : A = some ⟨g, 0, none⟩ := by injection hv
    subst hA
    have hlt : g < w.heap.size := (h.lt g rfl).2
    refine .inr ⟨g, 0, rfl, hlt, fun j u hu => ?_⟩
    have := h.cells (g := g) rfl j u hu
    rwa [Addr.add_mid] at this

/-- the cells8 of a slice, made a text -/
theorem run_text {P : Program} {l : List UInt8} (src dst e : TypeId) (n c : Nat) (hs : P.underlying src = some (.slice e)) (he : P.underlying e = some (.int .u8)) (hd : P.underlying dst = some .string)
    (hn : n = l.length) (h : Rds w A (cells8 l)) : (convert src dst (.slice A n c)).run P w = .ok (.string ⟨l.toArray⟩) w := by
  subst hn
  rw [run_convert_bytes_string w src dst e A l.length c hs he hd]
  have key : ∀ (l : List UInt8) (s : ByteArray), (l.map fun c => (c.toNat : Int)).foldl (fun r n => r.push (UInt8.ofNat n.toNat)) s = ⟨s.data ++ l.toArray⟩ := by
    intro l
    induction l with
    | nil => intro s; simp
    | cons a t ih =>
      intro s
      simp only [List.map_cons, List.foldl_cons, ih]
      simp [ByteArray.push]
  rcases h with h0 | ⟨b, o, rfl, hlt, hc⟩
  · have : l = [] := by cases l with
      | nil => rfl
      | cons a t => simp [cells8] at h0
    subst this
    cases A with
    | none => simp [Conv.bytesToString, Sem.run_pure]; rfl
    | some a =>
      have hl : (loadCells a 0).run P w = .ok ((([] : List Int).map (Value.int .u8)).toArray) w := run_loadCells_list (P := P) (w := w) a [] (by intro j v h; cases h)
      exact run_bytesToString w a 0 c [] hl
  · have hl : (loadCells ⟨b, o, none⟩ l.length).run P w = .ok (((l.map fun c => (c.toNat : Int)).map (Value.int .u8)).toArray) w := by
      have := run_loadCells_list (P := P) (w := w) ⟨b, o, none⟩ (cells8 l) (fun j v hj => by rw [Addr.add_mid]; exact hc j v hj)
      rw [cells8_length] at this
      rw [this]
      simp [cells8, cell8, List.map_map, Function.comp_def]
    rw [run_bytesToString w ⟨b, o, none⟩ l.length c _ hl, key]
    simp
end

/-- a slice of bytes that came in: its first m places hold l -/
structure IsBytes (w : World) (A : Option Addr) (m c : Nat) (l : List UInt8) : Prop where
  len : m = l.length
  le : m ≤ c
  max : c ≤ maxLen
  rds : Rds w A (cells8 l)

end Base
end Go.Proofs.YtiagjnimafdbhaaGreatDoor

namespace Go.Proofs.YtiagjnimafdbhaaGreatDoor
namespace Base
open Go.RowKit

/-- a slice of numbers of 64 bits that came in -/
structure IsInts (w : World) (A : Option Addr) (m c : Nat) (l : List Int) : Prop where
  len : m = l.length
  le : m ≤ c
  max : c ≤ maxLen
  rds : Rds w A (l.map (Value.int .i64))
  fit : ∀ x ∈ l, -9223372036854775808 ≤ x ∧ x ≤ 9223372036854775807

/-- a slice of texts that came in -/
structure IsStrs (w : World) (A : Option Addr) (m c : Nat) (l : List ByteArray) : Prop where
  len : m = l.length
  le : m ≤ c
  max : c ≤ maxLen
  rds : Rds w A (l.map Value.string)

/-- how many texts, and letters in them -/
def textBulk (l : List ByteArray) : Nat := (l.map fun s => s.size + 1).sum

end Base
end Go.Proofs.YtiagjnimafdbhaaGreatDoor

namespace Go.Proofs.YtiagjnimafdbhaaGreatDoor
namespace Base
open Go.RowKit

section
variable {P : Program} {w : World}

/-- onto a row of the call's own: nothing, from a slice that leads nowhere -/
theorem run_append_nothing (base : Nat) (t ty e : TypeId) (i : TypeInfo) (size : Nat) (ht : P.underlying t = some (.slice e)) (hi : P.info? e = some i)
    {v : Value} {n : Nat} {xs : List Value} (hown : w.ownsRow base e size v n xs) (c : Nat) :
    (Builtin.append_ #[t, t] ty #[v, .slice none 0 c]).run P w = .ok v w := by
  obtain ⟨_, hv⟩ := hown
  rcases hv with ⟨rfl, _⟩ | ⟨g, cap, cur, rfl, _, _, hle, _⟩
  · simp [Builtin.append_, Builtin.lenOf, Builtin.firstCells, sizeOf, typeInfo, run_underlying ht, hi]
  · simp [Builtin.append_, Builtin.lenOf, Builtin.firstCells, sizeOf, typeInfo, storeCells, run_underlying ht, hi, hle]

theorem run_append_rds (base : Nat) (t ty e : TypeId) (i : TypeInfo) (z : Value) (bytes : Nat) (ht : P.underlying t = some (.slice e)) (hi : P.info? e = some i) (hz : i.zero = some z)
    (hsize : i.size = 1) (hby : i.bytes = bytes) (hzs : z.cells.size = 1)
    {v : Value} {n : Nat} {xs : List Value} (hown : w.ownsRow base e 1 v n xs) {A : Option Addr} {m c : Nat} {news : List Value} (hm : news.length = m) (hr : Rds w A news) (h1 : ∀ u ∈ news, u.oneCell' = true)
    (h63 : n + m ≤ maxLen) (hbytes : ((n + m) + (n + m) / 4 + 192) * bytes ≤ 281474976710656) (hbase : base ≤ w.heap.size) :
    ∃ v' w', (Builtin.append_ #[t, t] ty #[v, .slice A m c]).run P w = .ok v' w' ∧ w'.ownsRow base e 1 v' (n + m) (xs ++ news) ∧ w.grownBy w' v.ownBlock := by
  cases A with
  | none =>
    have hnil : news = [] := by
      rcases hr with h | ⟨b, o, h, _⟩
      · exact h
      · cases h
    subst hnil
    subst hm
    exact ⟨v, w, run_append_nothing base t ty e i 1 ht hi hown c, by simpa using hown, World.grownBy.refl w _⟩
  | some ad =>
    have hcells : ∀ j u, news[j]? = some u → w.cell? (ad.add j) = some u := by
      intro j u hu
      rcases hr with h | ⟨b, o, h, _, hc⟩
      · rw [h] at hu; simp at hu
      · injection h with h
        rw [h, Addr.add_mid]
        exact hc j u hu
    obtain ⟨v', w', hrun, h2, h3, _⟩ := run_append_own_wide (P := P) w base t ty e i z 1 bytes ht hi hz hsize hby hzs (by omega) v n xs hown ad m c news (by omega) hcells h1 h63 hbytes hbase
    exact ⟨v', w', hrun, h2, h3⟩

/-- a block just made, as a slice -/
theorem rds_new (w : World) (cs : Array Value) (t : TypeId) : Rds (w.alloc (.cells cs t)) (some ⟨w.heap.size, 0, none⟩) cs.toList := by
  refine .inr ⟨w.heap.size, 0, rfl, by simp, fun j u hu => ?_⟩
  rw [cell_of_row _ _ (0 + j) cs t (0, 0) (heap_alloc_new w _), Nat.zero_add]
  simpa using hu

/-- the operation itself -/
theorem wp_append_rds {o : Oper} {a : Act} {K : Act → World → Prop} {Q : Exit → Act → World → Prop} (s x : Operand) (t : TypeId)
    (ho : o.op = .call { callee := .builtin .append, args := #[s, x], argTypes := #[t, t] })
    (base : Nat) (e : TypeId) (i : TypeInfo) (z : Value) (bytes : Nat) (ht : P.underlying t = some (.slice e)) (hi : P.info? e = some i) (hz : i.zero = some z)
    (hsize : i.size = 1) (hby : i.bytes = bytes) (hzs : z.cells.size = 1)
    (v : Value) (n : Nat) (xs : List Value) (hs : a.eval s = v) (hown : w.ownsRow base e 1 v n xs) (A : Option Addr) (m c : Nat) (news : List Value) (hx : a.eval x = .slice A m c)
    (hm : news.length = m) (hr : Rds w A news) (h1 : ∀ u ∈ news, u.oneCell' = true)
    (h63 : n + m ≤ maxLen) (hbytes : ((n + m) + (n + m) / 4 + 192) * bytes ≤ 281474976710656) (hbase : base ≤ w.heap.size)
    (h : ∀ v' w', w'.ownsRow base e 1 v' (n + m) (xs ++ news) → w.grownBy w' v.ownBlock → K (a.put o.dst v') w') : o.wp P a w K Q := by
  obtain ⟨v', w', hrun, h2, h3⟩ := run_append_rds (P := P) base t o.type e i z bytes ht hi hz hsize hby hzs hown (c := c) hm hr h1 h63 hbytes hbase
  unfold Oper.wp execOp
  simp only [ho, resolve, invoke, builtin, Sem.run_bind, Sem.run_pure, Result.andThen_ok, List.map_toArray, List.map_cons, List.map_nil, hs, hx, hrun]
  exact h v' w' h2 h3

theorem wpList_append_rds {ops : Array Oper} {rest : List Oper} {o : Oper} {a : Act} {Q : Exit → Act → World → Prop} (hgd : o.guard = none) (s x : Operand) (t : TypeId)
    (ho : o.op = .call { callee := .builtin .append, args := #[s, x], argTypes := #[t, t] })
    (base : Nat) (e : TypeId) (i : TypeInfo) (z : Value) (bytes : Nat) (ht : P.underlying t = some (.slice e)) (hi : P.info? e = some i) (hz : i.zero = some z)
    (hsize : i.size = 1) (hby : i.bytes = bytes) (hzs : z.cells.size = 1)
    (v : Value) (n : Nat) (xs : List Value) (hs : a.eval s = v) (hown : w.ownsRow base e 1 v n xs) (A : Option Addr) (m c : Nat) (news : List Value) (hx : a.eval x = .slice A m c)
    (hm : news.length = m) (hr : Rds w A news) (h1 : ∀ u ∈ news, u.oneCell' = true)
    (h63 : n + m ≤ maxLen) (hbytes : ((n + m) + (n + m) / 4 + 192) * bytes ≤ 281474976710656) (hbase : base ≤ w.heap.size)
    (h : ∀ v' w', w'.ownsRow base e 1 v' (n + m) (xs ++ news) → w.grownBy w' v.ownBlock → wpList P ops Q rest (a.put o.dst v') w') : wpList P ops Q (o :: rest) a w :=
  wpList_plain hgd fun _ hK => wp_append_rds s x t ho base e i z bytes ht hi hz hsize hby hzs v n xs hs hown A m c news hx hm hr h1 h63 hbytes hbase fun v' w' h2 h3 => hK _ _ (h v' w' h2 h3)

theorem own_mono {base base' : Nat} {e : TypeId} {size n : Nat} {v : Value} {xs : List Value} (h : w.ownsRow base e size v n xs) (hb : base' ≤ base) : w.ownsRow base' e size v n xs := by
  obtain ⟨h1, h2⟩ := h
  refine ⟨h1, ?_⟩
  rcases h2 with h2 | ⟨g, cap, cur, a, b, r⟩
  · exact .inl h2
  · exact .inr ⟨g, cap, cur, a, Nat.le_trans hb b, r⟩

/-- a row of the call's own, as a slice value -/
theorem own_slice {base : Nat} {e : TypeId} {size n : Nat} {v : Value} {xs : List Value} (h : w.ownsRow base e size v n xs) :
    ∃ A c, v = .slice A n c ∧ n ≤ c ∧ c ≤ maxLen ∧ (∀ a, A = some a → base ≤ a.block ∧ a.block < w.heap.size ∧ v.ownBlock = some a.block) ∧ (A = none → n = 0 ∧ v.ownBlock = none) := by
  rcases h.2 with ⟨rfl, rfl⟩ | ⟨g, cap, cur, rfl, hb, hh, hn, hm, _⟩
  · exact ⟨none, 0, rfl, Nat.le_refl _, by simp [maxLen], by simp, fun _ => ⟨rfl, rfl⟩⟩
  · refine ⟨some ⟨g, 0, none⟩, cap, rfl, hn, hm, fun a ha => ?_, by simp⟩
    injection ha with ha
    subst ha
    exact ⟨hb, (h.lt g rfl).2, rfl⟩

/-- what was below a number stays so behind an append onto a row of the call's own -/
theorem below_own {B base : Nat} {e : TypeId} {size n : Nat} {v : Value} {xs : List Value} {w0 w' : World} (hb : Below B w0 w) (h : w.ownsRow base e size v n xs) (hB : B ≤ base) (hs : B ≤ w.heap.size) (hg : w.grownBy w' v.ownBlock) : Below B w0 w' :=
  hb.grown hg hs (fun k hk => by have := (h.lt k hk).1; omega)
end

end Base
end Go.Proofs.YtiagjnimafdbhaaGreatDoor
