/-
  Bytes in words of 64 bits, eight a word, the lowest first: plain facts; no call is run here.
-/
import Derived.Test.YtfmodaelpldpfaaHpA
import Derived.Laws.BitsAllLaws
namespace Go.Proofs.Ytfmodaelpldpfaa
namespace HpP
open Go.RowKit Base BinM HpM HpA

/-- bytes as a number, the lowest first -/
def leN : List UInt8 → Nat
  | [] => 0
  | c :: t => c.toNat + 256 * leN t
theorem leN_lt (l : List UInt8) : leN l < 256 ^ l.length := by
  induction l with
  | nil => simp [leN]
  | cons c t ih =>
    have hc := c.toNat_lt
    simp only [leN, List.length_cons, Nat.pow_succ]
    omega
theorem leN_snoc (l : List UInt8) (c : UInt8) : leN (l ++ [c]) = leN l + c.toNat * 256 ^ l.length := by
  induction l with
  | nil => simp [leN]
  | cons d t ih =>
    simp only [List.cons_append, leN, ih, List.length_cons, Nat.pow_succ]
    rw [Nat.mul_add, Nat.add_assoc]
    congr 2
    rw [Nat.mul_left_comm, Nat.mul_comm 256]
theorem leN_get (l : List UInt8) : ∀ (k : Nat) (h : k < l.length), leN l / 256 ^ k % 256 = l[k].toNat := by
  induction l with
  | nil => intro k h; simp at h
  | cons c t ih =>
    intro k h
    have hc := c.toNat_lt
    cases k with
    | zero => simp [leN]
    | succ k =>
      simp only [leN, Nat.pow_succ, List.getElem_cons_succ]
      rw [show 256 ^ k * 256 = 256 * 256 ^ k from Nat.mul_comm _ _, ← Nat.div_div_eq_div_mul, show (c.toNat + 256 * leN t) / 256 = leN t by omega]
      exact ih k (by simpa using h)
/-- a number of 64 bits of a sum -/
def sg (n : Nat) : Int := IntKind.i64.wrap (n : Int)
theorem ofInt_sg (n : Nat) (h : n < 18446744073709551616) : (BitVec.ofInt 64 (sg n)).toNat = n := by
  unfold sg
  rw [IntKind.wrap_i64, BitVec.toNat_ofInt]
  omega
theorem fit_sg (n : Nat) : fitI (sg n) := by
  unfold sg fitI
  rw [IntKind.wrap_i64]
  omega
theorem sg_or (N c k : Nat) (hk : k < 8) (hN : N < 256 ^ k) (hc : c < 256) : bits .or .i64 (sg N) (sg (c * 256 ^ k)) = sg (N + c * 256 ^ k) := by
  have e : (256 : Nat) ^ k = 2 ^ (8 * k) := by rw [show (256 : Nat) = 2 ^ 8 by decide, ← Nat.pow_mul]
  have h7 : (256 : Nat) ^ k ≤ 256 ^ 7 := Nat.pow_le_pow_right (by omega) (by omega)
  have e7 : (256 : Nat) ^ 7 = 72057594037927936 := by decide
  have hm : c * 256 ^ k ≤ 255 * 256 ^ k := Nat.mul_le_mul_right _ (by omega)
  show IntKind.i64.wrap ((BitVec.ofInt 64 (sg N) ||| BitVec.ofInt 64 (sg (c * 256 ^ k))).toNat : Int) = _
  rw [BitVec.toNat_or, ofInt_sg N (by omega), ofInt_sg _ (by omega), Nat.or_comm, nat_join (8 * k) (c * 256 ^ k) N (by rw [e]; exact Nat.mul_mod_left _ _) (by rw [← e]; exact hN), Nat.add_comm]
  rfl
theorem sg_get (N k : Nat) (hk : k < 8) (hN : N < 18446744073709551616) : sg N / (256 ^ k : Nat) % 256 = ((N / 256 ^ k % 256 : Nat) : Int) := by
  have hp : ∀ (d e : Nat), d * (256 * e) = 18446744073709551616 → sg N / (d : Int) % 256 = ((N / d % 256 : Nat) : Int) := by
    intro d e h
    have hd : 0 < d := by
      rcases Nat.eq_zero_or_pos d with h0 | h0
      · subst h0; omega
      · exact h0
    unfold sg
    rw [IntKind.wrap_i64]
    by_cases hs : N < 9223372036854775808
    · rw [show ((N : Int) + 9223372036854775808) % 18446744073709551616 - 9223372036854775808 = (N : Int) by omega]
      simp
    · have e1 : ((N : Int) + 9223372036854775808) % 18446744073709551616 - 9223372036854775808 = (N : Int) + (d : Int) * (-(256 * (e : Int))) := by
        have h' : (d : Int) * (256 * (e : Int)) = 18446744073709551616 := by
          have h2 : ((d * (256 * e) : Nat) : Int) = 18446744073709551616 := by rw [h]; rfl
          simpa using h2
        rw [Int.mul_neg, h']
        omega
      rw [e1, Int.add_mul_ediv_left _ _ (by omega)]
      have e2 : ((N : Int) / (d : Int)) = ((N / d : Nat) : Int) := by simp
      rw [e2]
      omega
  match k, hk with
  | 0, _ => exact hp _ (256 ^ 7) (by decide)
  | 1, _ => exact hp _ (256 ^ 6) (by decide)
  | 2, _ => exact hp _ (256 ^ 5) (by decide)
  | 3, _ => exact hp _ (256 ^ 4) (by decide)
  | 4, _ => exact hp _ (256 ^ 3) (by decide)
  | 5, _ => exact hp _ (256 ^ 2) (by decide)
  | 6, _ => exact hp _ 256 (by decide)
  | 7, _ => exact hp _ 1 (by decide)

/-- K words of bytes -/
def packK (K : Nat) (s : List UInt8) : List Int := (List.range K).map fun i => sg (leN ((s.drop (8 * i)).take 8))
theorem packK_length (K : Nat) (s : List UInt8) : (packK K s).length = K := by simp [packK]
theorem packK_get (K : Nat) (s : List UInt8) (i : Nat) (h : i < K) : (packK K s)[i]? = some (sg (leN ((s.drop (8 * i)).take 8))) := by simp [packK, h]
theorem packK_nil (K : Nat) : packK K [] = List.replicate K 0 := by
  unfold packK
  apply List.ext_getElem?
  intro j
  by_cases h : j < K
  · simp [h, leN, sg, IntKind.wrap_i64]
  · simp [h]
theorem packK_fit (K : Nat) (s : List UInt8) : ∀ x ∈ packK K s, fitI x := by
  intro x hx
  unfold packK at hx
  obtain ⟨i, _, rfl⟩ := List.mem_map.1 hx
  exact fit_sg _
/-- one byte more -/
theorem pack_step (K : Nat) (s : List UInt8) (j : Nat) (hj : j < s.length) (hK : j / 8 < K) :
    ∃ old, (packK K (s.take j))[j / 8]? = some old ∧ packK K (s.take (j + 1)) = (packK K (s.take j)).set (j / 8) (bits .or .i64 old (sg (s[j].toNat * 256 ^ (j % 8)))) := by
  refine ⟨_, packK_get K _ _ hK, ?_⟩
  have hc := s[j].toNat_lt
  have hch : ((s.take j).drop (8 * (j / 8))).take 8 = (s.take j).drop (8 * (j / 8)) := List.take_of_length_le (by simp; omega)
  have hlen : ((s.take j).drop (8 * (j / 8))).length = j % 8 := by simp; omega
  have hnew : ((s.take (j + 1)).drop (8 * (j / 8))).take 8 = (s.take j).drop (8 * (j / 8)) ++ [s[j]] := by
    rw [List.take_succ_eq_append_getElem hj, List.drop_append_of_le_length (by simp; omega), List.take_of_length_le (by simp; omega)]
  rw [hch]
  have hlt := leN_lt ((s.take j).drop (8 * (j / 8)))
  rw [hlen] at hlt
  rw [sg_or _ _ _ (by omega) hlt hc]
  apply List.ext_getElem?
  intro i
  by_cases hi : i < K
  · rw [List.getElem?_set, packK_length, packK_get K _ i hi]
    by_cases he : j / 8 = i
    · subst he
      rw [if_pos rfl, if_pos hi, hnew, leN_snoc, hlen]
    · rw [if_neg he, packK_get K _ i hi]
      congr 3
      by_cases hlo : i < j / 8
      · rw [List.take_succ_eq_append_getElem hj, List.drop_append_of_le_length (by simp; omega), List.take_append_of_le_length (by simp; omega)]
      · rw [List.drop_of_length_le (by simp; omega), List.drop_of_length_le (by simp; omega)]
  · rw [List.getElem?_eq_none (by rw [packK_length]; omega), List.getElem?_eq_none (by rw [List.length_set, packK_length]; omega)]
/-- a text's words -/
def pack (s : List UInt8) : List Int := packK ((s.length + 7) / 8) s
theorem pack_length (s : List UInt8) : (pack s).length = (s.length + 7) / 8 := packK_length _ _

/-- a byte out of words -/
def byteAt (V : List Int) (i : Nat) : UInt8 := UInt8.ofNat (V.getD (i / 8) 0 / (256 ^ (i % 8) : Nat) % 256).toNat
def bytesN (n : Nat) (V : List Int) : List UInt8 := (List.range n).map (byteAt V)
theorem bytesN_succ (n : Nat) (V : List Int) : bytesN (n + 1) V = bytesN n V ++ [byteAt V n] := by simp [bytesN, List.range_succ]
theorem bytesN_length (n : Nat) (V : List Int) : (bytesN n V).length = n := by simp [bytesN]
theorem byte_pack (s : List UInt8) (i : Nat) (h : i < s.length) : byteAt (pack s) i = s[i] := by
  unfold byteAt pack
  rw [List.getD_eq_getElem?_getD, packK_get _ _ _ (by omega), Option.getD_some]
  have hl : ((s.drop (8 * (i / 8))).take 8).length ≤ 8 := by simp; omega
  have hlt := leN_lt ((s.drop (8 * (i / 8))).take 8)
  have hle : (256 : Nat) ^ ((s.drop (8 * (i / 8))).take 8).length ≤ 256 ^ 8 := Nat.pow_le_pow_right (by omega) hl
  have e8 : (256 : Nat) ^ 8 = 18446744073709551616 := by decide
  rw [sg_get _ _ (by omega) (by omega), leN_get _ _ (by simp; omega)]
  have hx : ((s.drop (8 * (i / 8))).take 8)[i % 8]'(by simp; omega) = s[i] := by
    rw [List.getElem_take, List.getElem_drop]
    congr 1
    omega
  rw [hx]
  simp
theorem bytes_pack (s : List UInt8) : bytesN s.length (pack s) = s := by
  apply List.ext_getElem
  · exact bytesN_length _ _
  · intro i h1 h2
    simp only [bytesN, List.getElem_map, List.getElem_range]
    exact byte_pack s i h2
/-- a text's bytes, and what is said where there are none -/
def bytesE (W : List Int) : List UInt8 × Int :=
  match W with
  | [] => ([], 5)
  | x :: V => if x < 0 ∨ (x + 7) / 8 ≠ (V.length : Int) then ([], 5) else (bytesN x.toNat V, 0)
theorem bytesE_text (s : List UInt8) : bytesE ((s.length : Int) :: pack s) = (s, 0) := by
  unfold bytesE
  simp only
  rw [if_neg (by rw [pack_length]; omega), Int.toNat_natCast, bytes_pack]

end HpP
end Go.Proofs.Ytfmodaelpldpfaa
