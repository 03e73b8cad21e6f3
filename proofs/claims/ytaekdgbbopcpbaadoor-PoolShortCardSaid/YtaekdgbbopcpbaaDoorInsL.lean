/-
  Code put as bytes is got as it was, or has an A that is too great.
-/
import Derived.Test.YtaekdgbbopcpbaaDoorInsI
import Derived.Test.YtaekdgbbopcpbaaDoorInsR
namespace Go.Proofs.YtaekdgbbopcpbaaDoor
namespace InsL
open Go.RowKit InsM Base InsA InsB Stru InsC BinM BinE BinPut BinGet Bin8 BinAll InsP InsG InsH InsI
open InsR (nums_app)

theorem getS_num {n : Int} (h0 : -9223372036854775808 ≤ n) (h1 : n ≤ 9223372036854775807) (p r : List UInt8) : getS (p ++ (num n ++ r)) (p.length : Int) = (n, ((p ++ num n).length : Int), 0) := by
  rw [getS_in (by simp)]
  rw [List.drop_left, getL_num h0 h1]
  simp

theorem getU_num {n : Int} (h0 : -9223372036854775808 ≤ n) (h1 : n ≤ 9223372036854775807) (p r : List UInt8) {most : Int} (h2 : 0 ≤ n) (h3 : n ≤ most) : getU (p ++ (num n ++ r)) (p.length : Int) most = (n, ((p ++ num n).length : Int), 0) := by
  have h := getS_num h0 h1 p r
  rw [getU_good (by rw [h]) (by rw [h]; simp only; omega), h]
theorem getU_more {n : Int} (h0 : -9223372036854775808 ≤ n) (h1 : n ≤ 9223372036854775807) (p r : List UInt8) {most : Int} (h3 : most < n) : getU (p ++ (num n ++ r)) (p.length : Int) most = (0, 0, 12) := by
  have h := getS_num h0 h1 p r
  rw [getU_big (by rw [h]) (by rw [h]; exact .inr h3)]

theorem ok_op {x : InsT} (h : putOk x = true) : 0 ≤ x.1 ∧ x.1 ≤ 45 ∧ 0 ≤ x.2 ∧ (kindI x.1 = 0 → x.2 = 0) := by
  obtain ⟨op, a⟩ := x
  unfold putOk at h
  simp only [Bool.and_eq_true, Bool.not_eq_true', beq_eq_false_iff_ne, decide_eq_true_eq, Bool.and_eq_false_imp, beq_iff_eq, Bool.not_eq_false'] at h
  obtain ⟨⟨h1, h2⟩, h3⟩ := h
  have := (kind_neg (op := op)).2
  refine ⟨?_, ?_, h2, h3⟩
  · rcases Decidable.em (0 ≤ op ∧ op < 46) with h | h
    · exact h.1
    · exact absurd (this h) h1
  · rcases Decidable.em (0 ≤ op ∧ op < 46) with h | h
    · show op ≤ 45; omega
    · exact absurd (this h) h1

theorem one_back {x : InsT} (h : putOk x = true) (hf : fitI x.1 ∧ fitI x.2) (p r : List UInt8) :
    oneI (p ++ (nums (insN x) ++ r)) (p.length : Int) = (x, ((p ++ nums (insN x)).length : Int), 0) ∨ oneI (p ++ (nums (insN x) ++ r)) (p.length : Int) = ((0, 0), 0, 12) := by
  obtain ⟨op, a⟩ := x
  obtain ⟨h1, h2, h3, h4⟩ := ok_op h
  unfold fitI at hf
  simp only at h1 h2 h3 h4 hf
  by_cases hk : kindI op = 0
  · have e : nums (insN (op, a)) = num op := by unfold insN; rw [if_pos hk]; simp [nums]
    rw [e]
    refine .inl ?_
    have hu := getU_num (most := 45) hf.1.1 hf.1.2 p r h1 h2
    unfold oneI
    rw [hu, if_neg (by simp), if_pos hk, h4 hk]
  · have e : nums (insN (op, a)) = num op ++ num a := by unfold insN; rw [if_neg hk]; simp [nums]
    rw [e]
    have hu := getU_num (most := 45) hf.1.1 hf.1.2 p (num a ++ r) h1 h2
    have e2 : p ++ (num op ++ num a ++ r) = p ++ (num op ++ (num a ++ r)) := by simp
    have e3 : p ++ (num op ++ (num a ++ r)) = (p ++ num op) ++ (num a ++ r) := by simp
    unfold oneI
    rw [e2, hu]
    by_cases hb : a ≤ 65535
    · refine .inl ?_
      have hv := getU_num (most := 65535) hf.2.1 hf.2.2 (p ++ num op) r h3 hb
      rw [← e3] at hv
      rw [if_neg (by simp), if_neg hk, hv, if_neg (by simp)]
      simp
    · refine .inr ?_
      have hv := getU_more (most := 65535) hf.2.1 hf.2.2 (p ++ num op) r (by omega)
      rw [← e3] at hv
      rw [if_neg (by simp), if_neg hk, hv]
      simp

theorem many_back : ∀ (l : List InsT) (p : List UInt8), (∀ x ∈ l, putOk x = true) → (∀ x ∈ l, fitI x.1 ∧ fitI x.2) →
    manyI (p ++ nums (l.flatMap insN)) l.length (p.length : Int) = (l, ((p ++ nums (l.flatMap insN)).length : Int), 0) ∨ manyI (p ++ nums (l.flatMap insN)) l.length (p.length : Int) = ([], 0, 12)
  | [], p, _, _ => .inl (by simp [manyI, nums])
  | x :: t, p, hok, hf => by
    have e : nums ((x :: t).flatMap insN) = nums (insN x) ++ nums (t.flatMap insN) := by rw [List.flatMap_cons, nums_app]
    have e2 : p ++ (nums (insN x) ++ nums (t.flatMap insN)) = (p ++ nums (insN x)) ++ nums (t.flatMap insN) := by simp
    have h1 := one_back (hok x (by simp)) (hf x (by simp)) p (nums (t.flatMap insN))
    have ih := many_back t (p ++ nums (insN x)) (fun y hy => hok y (by simp [hy])) (fun y hy => hf y (by simp [hy]))
    rw [e, List.length_cons]
    rw [← e2] at ih
    unfold manyI
    rcases h1 with h1 | h1
    · rw [h1, if_neg (by simp)]
      rcases ih with ih | ih
      · rw [ih]; exact .inl (by simp)
      · rw [ih]; exact .inr (by simp)
    · rw [h1]; exact .inr (by simp)

/-- what was put is got as it was, or an A is too great -/
theorem get_back {b : List UInt8} {l : List InsT} (h5 : l.length ≤ 512) (hok : ∀ x ∈ l, putOk x = true) (hf : ∀ x ∈ l, fitI x.1 ∧ fitI x.2) :
    getI (b ++ nums (codeN l.length l)) (b.length : Int) = (l, ((b ++ nums (codeN l.length l)).length : Int), 0) ∨ getI (b ++ nums (codeN l.length l)) (b.length : Int) = ([], 0, 12) := by
  have e : nums (codeN l.length l) = num (l.length : Int) ++ nums (l.flatMap insN) := by
    unfold codeN; rw [show ((l.length : Int) :: l.flatMap insN) = [(l.length : Int)] ++ l.flatMap insN from rfl, nums_app]; simp [nums]
  rw [e]
  have hs := getS_num (n := (l.length : Int)) (by omega) (by omega) b (nums (l.flatMap insN))
  have hm := many_back l (b ++ num (l.length : Int)) hok hf
  have e2 : b ++ (num (l.length : Int) ++ nums (l.flatMap insN)) = (b ++ num (l.length : Int)) ++ nums (l.flatMap insN) := by simp
  unfold getI
  rw [hs, if_neg (by simp), if_neg (by simp only; omega)]
  simp only [Int.toNat_natCast]
  rw [e2]
  exact hm

theorem put_ways (b : List UInt8) (l : List InsT) : (∃ e, e ≠ 0 ∧ putI b l = ([], e)) ∨ (l.length ≤ 512 ∧ (∀ x ∈ l, putOk x = true) ∧ putI b l = (b ++ nums (codeN l.length l), 0)) := by
  unfold putI
  by_cases h : 512 < l.length
  · exact .inl ⟨6, by decide, by rw [if_pos h]⟩
  · by_cases h2 : l.all putOk = true
    · exact .inr ⟨by omega, fun x hx => List.all_eq_true.1 h2 x hx, by rw [if_neg h, if_pos h2]⟩
    · exact .inl ⟨12, by decide, by rw [if_neg h, if_neg h2]⟩

end InsL
end Go.Proofs.YtaekdgbbopcpbaaDoor
