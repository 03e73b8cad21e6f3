/-
  Numbers in digits, there and back, and what instructions make of numbers: plain facts; no program is loaded here.
-/
import Derived.Test.YtlboafmofhkacaaBinM
namespace Go.Proofs.Ytlboafmofhkacaa
namespace ArM
open Go.RowKit BinM Base

/-- a number's digits, at most f + 1 of them -/
def decF : Nat → Nat → List UInt8
  | 0, u => [UInt8.ofNat (48 + u % 10)]
  | f + 1, u => if u < 10 then [UInt8.ofNat (48 + u)] else decF f (u / 10) ++ [UInt8.ofNat (48 + u % 10)]
def dec (u : Nat) : List UInt8 := decF 18 u
def txt (n : Int) : List UInt8 := if n < 0 then 45 :: dec (-n).toNat else dec n.toNat

theorem decF_small (f u : Nat) (h : u < 10) : decF f u = [UInt8.ofNat (48 + u)] := by
  cases f with
  | zero => simp only [decF]; rw [Nat.mod_eq_of_lt h]
  | succ f => simp only [decF]; rw [if_pos h]
theorem decF_big (f u : Nat) (h : ¬ u < 10) : decF (f + 1) u = decF f (u / 10) ++ [UInt8.ofNat (48 + u % 10)] := by
  rw [decF, if_neg h]
theorem decF_eq : ∀ (f g u : Nat), u < 10 ^ (f + 1) → f ≤ g → decF f u = decF g u
  | 0, g, u, h, _ => by rw [decF_small 0 u (by simpa using h), decF_small g u (by simpa using h)]
  | f + 1, 0, u, _, h2 => by omega
  | f + 1, g + 1, u, h, h2 => by
    by_cases h0 : u < 10
    · rw [decF_small _ _ h0, decF_small _ _ h0]
    · rw [decF_big _ _ h0, decF_big _ _ h0, decF_eq f g (u / 10) (by rw [Nat.pow_succ] at h; exact Nat.div_lt_of_lt_mul (by rw [Nat.mul_comm]; exact h)) (by omega)]
theorem dec_of (f u : Nat) (h : u < 10 ^ (f + 1)) (hf : f ≤ 18) : dec u = decF f u := (decF_eq f 18 u h hf).symm
theorem decF_length : ∀ (f u : Nat), (decF f u).length ≤ f + 1
  | 0, u => by simp [decF]
  | f + 1, u => by
    have := decF_length f (u / 10)
    by_cases h0 : u < 10
    · rw [decF_small _ _ h0]; simp
    · rw [decF_big _ _ h0]; simp; exact this
theorem decF_ne : ∀ (f u : Nat), decF f u ≠ []
  | 0, u => by simp [decF]
  | f + 1, u => by
    by_cases h0 : u < 10
    · rw [decF_small _ _ h0]; simp
    · rw [decF_big _ _ h0]; simp
theorem toNat_dig (x : Nat) (h : x < 10) : (UInt8.ofNat (48 + x)).toNat = 48 + x := by simp; omega
theorem decF_digits : ∀ (f u : Nat) (c : UInt8), c ∈ decF f u → 48 ≤ c.toNat ∧ c.toNat ≤ 57
  | 0, u, c, h => by
    simp only [decF, List.mem_singleton] at h
    have : u % 10 < 10 := Nat.mod_lt _ (by omega)
    subst h; rw [toNat_dig _ this]; omega
  | f + 1, u, c, h => by
    by_cases h0 : u < 10
    · rw [decF_small _ _ h0, List.mem_singleton] at h
      subst h; rw [toNat_dig _ h0]; omega
    · rw [decF_big _ _ h0] at h
      rcases List.mem_append.1 h with h | h
      · exact decF_digits f _ c h
      · rw [List.mem_singleton] at h
        have : u % 10 < 10 := Nat.mod_lt _ (by omega)
        subst h; rw [toNat_dig _ this]; omega

/-- a number of 64 bits with a sign, of any number -/
abbrev W (x : Int) : Int := wrap64 x
theorem W_eq (x : Int) : W x = (x + 9223372036854775808) % 18446744073709551616 - 9223372036854775808 := by unfold W wrap64; rfl
theorem W_in (x : Int) (h0 : -9223372036854775808 ≤ x) (h1 : x ≤ 9223372036854775807) : W x = x := by rw [W_eq]; omega
theorem W_fit (x : Int) : -9223372036854775808 ≤ W x ∧ W x ≤ 9223372036854775807 := by rw [W_eq]; omega

/-- one byte more, as the program reads it -/
def more (a : Int) (c : UInt8) : Int := W (W (W (10 * a) + (c.toNat : Int)) - 48)
def fold (l : List UInt8) : Int := l.foldl more 0
/-- the number that is read off a text -/
def val (s : List UInt8) : Int := if s.head? == some 45 then W (-(fold (s.drop 1))) else fold s
/-- what is read of a text -/
def readE (s : List UInt8) : Int × Int := if 20 < s.length then (0, 5) else if txt (val s) == s then (val s, 0) else (0, 5)

/-- one byte more, as the document reads it -/
def less (a : Int) (c : UInt8) : Int := if 48 ≤ c.toNat ∧ c.toNat ≤ 57 then W (W (a * 10) - ((c.toNat : Int) - 48)) else a
def foldR (l : List UInt8) : Int := l.foldl less 0
def valR (s : List UInt8) : Int := if s.head? == some 45 then foldR s else W (-(foldR s))
def readR (s : List UInt8) : Int × Int := if 20 < s.length then (0, 5) else if txt (valR s) == s then (valR s, 0) else (0, 5)

/-- the number that digits are -/
def num (l : List UInt8) : Int := l.foldl (fun a c => 10 * a + ((c.toNat : Int) - 48)) 0
theorem num_snoc (l : List UInt8) (c : UInt8) : num (l ++ [c]) = 10 * num l + ((c.toNat : Int) - 48) := by simp [num]
theorem num_decF : ∀ (f u : Nat), u < 10 ^ (f + 1) → num (decF f u) = (u : Int)
  | 0, u, h => by
    have h : u < 10 := by simpa using h
    rw [decF_small _ _ h, show [UInt8.ofNat (48 + u)] = [] ++ [UInt8.ofNat (48 + u)] from rfl, num_snoc, toNat_dig _ h]; simp [num]; omega
  | f + 1, u, h => by
    by_cases h0 : u < 10
    · rw [decF_small _ _ h0, show [UInt8.ofNat (48 + u)] = [] ++ [UInt8.ofNat (48 + u)] from rfl, num_snoc, toNat_dig _ h0]; simp [num]; omega
    · rw [decF_big _ _ h0, num_snoc, num_decF f (u / 10) (by rw [Nat.pow_succ] at h; exact Nat.div_lt_of_lt_mul (by rw [Nat.mul_comm]; exact h)), toNat_dig _ (Nat.mod_lt _ (by omega))]
      omega
theorem fold_snoc (l : List UInt8) (c : UInt8) : fold (l ++ [c]) = more (fold l) c := by simp [fold]
theorem foldR_snoc (l : List UInt8) (c : UInt8) : foldR (l ++ [c]) = less (foldR l) c := by simp [foldR]
theorem snoc_ind {P : List UInt8 → Prop} (h0 : P []) (h1 : ∀ l c, P l → P (l ++ [c])) (l : List UInt8) : P l := by
  rw [← List.reverse_reverse l]
  induction l.reverse with
  | nil => exact h0
  | cons c t ih => rw [List.reverse_cons]; exact h1 _ _ ih
theorem fold_num (l : List UInt8) : fold l = W (num l) := by
  refine snoc_ind (P := fun l => fold l = W (num l)) (by rw [W_eq]; rfl) (fun l c ih => ?_) l
  rw [fold_snoc, num_snoc, ih]
  unfold more
  simp only [W_eq]
  omega
theorem fold_fit (l : List UInt8) : -9223372036854775808 ≤ fold l ∧ fold l ≤ 9223372036854775807 := by rw [fold_num]; exact W_fit _
theorem foldR_fit (l : List UInt8) : -9223372036854775808 ≤ foldR l ∧ foldR l ≤ 9223372036854775807 := by
  refine snoc_ind (P := fun l => -9223372036854775808 ≤ foldR l ∧ foldR l ≤ 9223372036854775807) (by decide) (fun l c ih => ?_) l
  rw [foldR_snoc]
  unfold less
  split
  · exact W_fit _
  · exact ih
theorem foldR_num (l : List UInt8) (h : ∀ c ∈ l, 48 ≤ c.toNat ∧ c.toNat ≤ 57) : foldR l = W (-(num l)) := by
  refine snoc_ind (P := fun l => (∀ c ∈ l, 48 ≤ c.toNat ∧ c.toNat ≤ 57) → foldR l = W (-(num l))) (fun _ => by rw [W_eq]; rfl) (fun l c ih h => ?_) l h
  rw [foldR_snoc, num_snoc, ih (fun c hc => h c (by simp [hc]))]
  unfold less
  rw [if_pos (h c (by simp))]
  simp only [W_eq]
  omega
theorem val_fit (s : List UInt8) : -9223372036854775808 ≤ val s ∧ val s ≤ 9223372036854775807 := by
  unfold val; split
  · exact W_fit _
  · exact fold_fit _
theorem valR_fit (s : List UInt8) : -9223372036854775808 ≤ valR s ∧ valR s ≤ 9223372036854775807 := by
  unfold valR; split
  · exact foldR_fit _
  · exact W_fit _
theorem num_dec (u : Nat) (h : u < 10000000000000000000) : num (dec u) = (u : Int) := num_decF 18 u h
theorem head_dec (u : Nat) : ((dec u).head? == some 45) = false := by
  have := decF_digits 18 u
  have hn := decF_ne 18 u
  unfold dec
  cases hl : decF 18 u with
  | nil => exact absurd hl hn
  | cons c t =>
    have := this c (by rw [hl]; simp)
    rw [List.head?_cons, beq_eq_false_iff_ne]
    intro h
    rw [Option.some.injEq] at h
    subst h
    simp at this
theorem val_txt (n : Int) (h0 : -9223372036854775808 ≤ n) (h1 : n ≤ 9223372036854775807) : val (txt n) = n := by
  unfold txt val
  by_cases h : n < 0
  · rw [if_pos h, List.head?_cons, if_pos (by rfl), List.drop_succ_cons, List.drop_zero, fold_num, num_dec _ (by omega)]
    simp only [W_eq]; omega
  · rw [if_neg h, head_dec, if_neg (by decide), fold_num, num_dec _ (by omega)]
    simp only [W_eq]; omega
theorem foldR_cons45 (l : List UInt8) : foldR (45 :: l) = foldR l := rfl
theorem valR_txt (n : Int) (h0 : -9223372036854775808 ≤ n) (h1 : n ≤ 9223372036854775807) : valR (txt n) = n := by
  unfold txt valR
  by_cases h : n < 0
  · rw [if_pos h, List.head?_cons, if_pos (by rfl), foldR_cons45, foldR_num (dec _) (decF_digits 18 _), num_dec _ (by omega)]
    simp only [W_eq]; omega
  · rw [if_neg h, head_dec, if_neg (by decide), foldR_num (dec _) (decF_digits 18 _), num_dec _ (by omega)]
    simp only [W_eq]; omega
theorem txt_length (n : Int) : (txt n).length ≤ 20 := by
  unfold txt
  split
  · have := decF_length 18 (-n).toNat; simp only [List.length_cons]; unfold dec; omega
  · have := decF_length 18 n.toNat; unfold dec; omega
theorem read_eq (s : List UInt8) : readE s = readR s := by
  unfold readE readR
  by_cases h20 : 20 < s.length
  · rw [if_pos h20, if_pos h20]
  · rw [if_neg h20, if_neg h20]
    by_cases h : txt (val s) = s
    · have e : valR s = val s := by rw [← h]; rw [valR_txt _ (val_fit s).1 (val_fit s).2]; rw [h]
      rw [e]
    · have h' : ¬ txt (valR s) = s := fun h2 => h (by
        have e : val s = valR s := by rw [← h2]; rw [val_txt _ (valR_fit s).1 (valR_fit s).2]; rw [h2]
        rw [e]; exact h2)
      rw [if_neg (by simpa using h), if_neg (by simpa using h')]
theorem read_txt (n : Int) (h0 : -9223372036854775808 ≤ n) (h1 : n ≤ 9223372036854775807) : readE (txt n) = (n, 0) := by
  unfold readE
  have := txt_length n
  rw [if_neg (by omega), val_txt n h0 h1, if_pos (by simp)]

/-- a truth as a number -/
def tr (b : Bool) : Int := if b then 1 else 0
/-- how often b is in a, or what is left then -/
def shareE (op a b : Int) : Int × Int := if b = 0 then (0, 28) else if op = 13 then (W (a.tdiv b), 0) else (a.tmod b, 0)
def doE (op a b : Int) : Int × Int :=
  if op = 10 then (W (a + b), 0) else if op = 11 then (W (a - b), 0) else if op = 12 then (W (a * b), 0)
  else if op = 13 ∨ op = 14 then shareE op a b else if op = 15 then (W (-a), 0) else if op = 16 then (tr (a == 0), 0)
  else if op = 17 then (tr (decide (a < b)), 0) else if op = 18 then (tr (decide (a ≤ b)), 0)
  else if op = 19 ∨ op = 20 ∨ op = 21 then (tr (a == b), 0) else (0, 12)

theorem W_mul (a b : Int) : W (a % 18446744073709551616 * (b % 18446744073709551616) % 18446744073709551616) = W (a * b) := by
  rw [← Int.mul_emod]
  simp only [W_eq]
  omega

end ArM
end Go.Proofs.Ytlboafmofhkacaa
