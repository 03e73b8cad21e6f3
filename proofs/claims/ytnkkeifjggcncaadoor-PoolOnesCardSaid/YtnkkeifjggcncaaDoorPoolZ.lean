/-
  A constant's bytes are got as that constant.
-/
import Derived.Test.YtnkkeifjggcncaaDoorPoolU
namespace Go.Proofs.YtnkkeifjggcncaaDoor
namespace PoolZ
open BinM BinE BinGet BinText DescM DescX DescP Stru PoolM PoolL PoolD PoolS PoolT PoolV

theorem get_back {c : Cst} (h : rightC c = true) (hn : fitI c.n) (p : List UInt8) : getC (p ++ bytesC c) (p.length : Int) = (c, ((p ++ bytesC c).length : Int), 0) := by
  rcases right_kinds h with ⟨_, e⟩ | ⟨_, e, hs⟩ | ⟨_, e, hs⟩ | ⟨hk, e, hs, ht, hu⟩
  · generalize c.n = n at *
    subst e
    unfold fitI at hn
    have eb : bytesC ⟨1, n, [], [], []⟩ = num 1 ++ num n := rfl
    rw [eb, get_after (by omega) (by omega)]
    have hg := BinText.getS_numr (n := n) hn.1 hn.2 (p ++ num 1) []
    rw [List.append_nil] at hg
    have e1 : firstC 1 ((p ++ num 1) ++ num n) ((p ++ num 1).length : Int) = (⟨1, n, [], [], []⟩, (((p ++ num 1) ++ num n).length : Int), 0) := by
      unfold firstC
      rw [if_pos rfl, hg]
    rw [e1, fin_yes h, List.append_assoc]
  · generalize c.s = s at *
    subst e
    have eb : bytesC ⟨2, 0, s, [], []⟩ = num 2 ++ txt s := rfl
    rw [eb, get_after (by omega) (by omega)]
    have hg := txt_full (p ++ num 2) [] s 64 (by omega) (by omega)
    rw [List.append_nil] at hg
    have e1 : firstC 2 ((p ++ num 2) ++ txt s) ((p ++ num 2).length : Int) = (⟨2, 0, s, [], []⟩, (((p ++ num 2) ++ txt s).length : Int), 0) := by
      unfold firstC
      rw [if_neg (by decide), if_pos rfl, hg]
    rw [e1, fin_yes h, List.append_assoc]
  · generalize c.s = s at *
    subst e
    have eb : bytesC ⟨3, 0, s, [], []⟩ = num 3 ++ txt s := rfl
    rw [eb, get_after (by omega) (by omega)]
    have hg := txt_full (p ++ num 3) [] s 256 (by omega) (by omega)
    rw [List.append_nil] at hg
    have e1 : firstC 3 ((p ++ num 3) ++ txt s) ((p ++ num 3).length : Int) = (⟨3, 0, s, [], []⟩, (((p ++ num 3) ++ txt s).length : Int), 0) := by
      unfold firstC
      rw [if_neg (by decide), if_neg (by decide), if_pos rfl, hg]
    rw [e1, fin_yes h, List.append_assoc]
  · generalize c.s = s at *
    generalize c.t = t at *
    generalize c.u = u at *
    generalize c.kind = k at *
    subst e
    have eb : bytesC ⟨k, 0, s, t, u⟩ = num k ++ (txt s ++ (txt t ++ txt u)) := by
      unfold bytesC
      rw [if_neg (by simp only; omega), if_neg (by simp only; omega)]
      simp
    rw [eb, get_after (by omega) (by omega)]
    have el : ((p ++ (num k ++ (txt s ++ (txt t ++ txt u)))).length : Int) = ((((p ++ num k) ++ txt s) ++ txt t) ++ txt u).length := by simp
    rw [el]
    generalize hP : p ++ num k = P
    have e1 := txt_full P (txt t ++ txt u) s 256 (by omega) (by omega)
    have e2 := txt_full (P ++ txt s) (txt u) t 256 (by omega) (by omega)
    have e3 := txt_full ((P ++ txt s) ++ txt t) [] u 256 (by omega) (by omega)
    rw [List.append_nil] at e3
    have q2 : (P ++ txt s) ++ (txt t ++ txt u) = P ++ (txt s ++ (txt t ++ txt u)) := by simp
    have q3 : ((P ++ txt s) ++ txt t) ++ txt u = P ++ (txt s ++ (txt t ++ txt u)) := by simp
    rw [q2] at e2
    rw [q3] at e3 ⊢
    generalize P ++ (txt s ++ (txt t ++ txt u)) = B at *
    have a0 : atM B (P.length : Int) 0 = (P.length : Int) := rfl
    have a1 : atM B (P.length : Int) 1 = ((P ++ txt s).length : Int) := by show (getT B (P.length : Int) 256).2.1 = _; rw [e1]
    have a2 : atM B (P.length : Int) 2 = (((P ++ txt s) ++ txt t).length : Int) := by show (getT B (atM B (P.length : Int) 1) 256).2.1 = _; rw [a1, e2]
    have a3 : atM B (P.length : Int) 3 = (B.length : Int) := by show (getT B (atM B (P.length : Int) 2) 256).2.1 = _; rw [a2, e3]
    have r0 : erM B (P.length : Int) 0 = 0 := by unfold erM; rw [a0, e1]
    have r1 : erM B (P.length : Int) 1 = 0 := by unfold erM; rw [a1, e2]
    have r2 : erM B (P.length : Int) 2 = 0 := by unfold erM; rw [a2, e3]
    have x0 : txM B (P.length : Int) 0 = s := by unfold txM; rw [a0, e1]
    have x1 : txM B (P.length : Int) 1 = t := by unfold txM; rw [a1, e2]
    have x2 : txM B (P.length : Int) 2 = u := by unfold txM; rw [a2, e3]
    have hm : getM k B (P.length : Int) = (⟨k, 0, s, t, u⟩, (B.length : Int), 0) := by
      rw [getM_ok (fun i hi => by
        match i, hi with
        | 0, _ => exact r0
        | 1, _ => exact r1
        | 2, _ => exact r2), x0, x1, x2, a3]
    have e4 : firstC k B (P.length : Int) = (⟨k, 0, s, t, u⟩, (B.length : Int), 0) := by
      unfold firstC
      rw [if_neg (by omega), if_neg (by omega), if_neg (by omega)]
      exact hm
    rw [e4, fin_yes h]

theorem getL_bytes {l : List UInt8} (h : (getL l).2.2 = 0) : ∃ r, l = num (getL l).1 ++ r ∧ (getL l).2.1 = (num (getL l).1).length := by
  unfold getL at h ⊢
  by_cases h1 : 10 ≤ lead l
  · rw [if_pos h1] at h; simp at h
  · rw [if_neg h1] at h ⊢
    by_cases h2 : l.length ≤ lead l
    · rw [if_pos h2] at h; simp at h
    · rw [if_neg h2] at h ⊢
      cases h3 : lastI ((l.getD (lead l) 0).toNat : Int) (lead l : Int)
      · rw [h3] at h; simp at h
      · have hn := (num_getL (l := l) (by omega) (by omega) h3).2
        rw [if_pos rfl]
        simp only
        rw [hn]
        exact ⟨l.drop (lead l + 1), (List.take_append_drop _ _).symm, by simp; omega⟩
theorem getS_bytes {b : List UInt8} {a : Int} (h : (getS b a).2.2 = 0) : ∃ p r, b = p ++ (num (getS b a).1 ++ r) ∧ a = (p.length : Int) ∧ (getS b a).2.1 = ((p ++ num (getS b a).1).length : Int) := by
  by_cases ho : a < 0 ∨ (b.length : Int) < a
  · rw [getS_out ho] at h; simp at h
  · obtain ⟨q, rfl⟩ : ∃ q : Nat, a = (q : Int) := ⟨a.toNat, by omega⟩
    have hq : q ≤ b.length := by omega
    rw [getS_in hq] at h ⊢
    by_cases hl : (getL (b.drop q)).2.2 = 0
    · rw [if_pos hl]
      obtain ⟨r, h1, h2⟩ := getL_bytes hl
      simp only
      have hpl : (b.take q).length = q := by simp; omega
      refine ⟨b.take q, r, ?_, by rw [hpl], ?_⟩
      · rw [← h1, List.take_append_drop]
      · rw [List.length_append, hpl, h2]; simp
    · rw [if_neg hl] at h; exact absurd h hl
theorem getT_bytes {b : List UInt8} {a m : Int} (h : (getT b a m).2.2 = 0) : ∃ p r, b = p ++ (txt (getT b a m).1 ++ r) ∧ a = (p.length : Int) ∧ (getT b a m).2.1 = ((p ++ txt (getT b a m).1).length : Int) := by
  by_cases h1 : (getS b a).2.2 = 0
  · obtain ⟨p, r, hb, ha, hp⟩ := getS_bytes h1
    unfold getT at h ⊢
    rw [if_neg (by omega)] at h ⊢
    by_cases h2 : (getS b a).1 < 0 ∨ m < (getS b a).1
    · rw [if_pos h2] at h; simp at h
    · rw [if_neg h2] at h ⊢
      by_cases h3 : (b.length : Int) - (getS b a).2.1 < (getS b a).1
      · rw [if_pos h3] at h; simp at h
      · rw [if_neg h3]
        simp only
        rw [hp] at h3 ⊢
        generalize (getS b a).1 = v at *
        obtain ⟨V, rfl⟩ : ∃ V : Nat, v = (V : Int) := ⟨v.toNat, by omega⟩
        have hbl : b.length = (p ++ num (V : Int)).length + r.length := by rw [hb]; simp; omega
        have hV : V ≤ r.length := by omega
        have hs : (b.drop ((p ++ num (V : Int)).length : Int).toNat).take (V : Int).toNat = r.take V := by
          rw [Int.toNat_natCast, Int.toNat_natCast, hb, ← List.append_assoc, List.drop_left]
        rw [hs]
        have hl : (r.take V).length = V := by simp; omega
        have ht : txt (r.take V) = num (V : Int) ++ r.take V := by unfold txt; rw [hl]
        rw [ht]
        refine ⟨p, r.drop V, ?_, ha, ?_⟩
        · rw [List.append_assoc, List.take_append_drop]; exact hb
        · have e : (p ++ (num (V : Int) ++ r.take V)).length = (p ++ num (V : Int)).length + V := by rw [← List.append_assoc, List.length_append, hl]
          rw [e]; omega
  · unfold getT at h
    rw [if_pos h1] at h
    exact absurd h h1

theorem fin_ok {r : Cst × Int × Int} (h : (finC r).2.2 = 0) : r.2.2 = 0 ∧ rightC r.1 = true ∧ finC r = (r.1, r.2.1, 0) := by
  by_cases h1 : r.2.2 = 0
  · cases h2 : rightC r.1
    · unfold finC at h
      rw [if_neg (by omega), if_neg (by simp [h2])] at h
      simp at h
    · refine ⟨h1, rfl, ?_⟩
      unfold finC
      rw [if_neg (by omega), if_pos h2]
  · unfold finC at h
    rw [if_pos h1] at h
    exact absurd h h1
/-- what is got as three texts has just these bytes -/
theorem getM_bytes {k : Int} {b : List UInt8} {a : Int} (h : (getM k b a).2.2 = 0) : ∃ p r, b = p ++ ((txt (txM b a 0) ++ txt (txM b a 1) ++ txt (txM b a 2)) ++ r) ∧ a = (p.length : Int) ∧
    getM k b a = (⟨k, 0, txM b a 0, txM b a 1, txM b a 2⟩, ((p ++ (txt (txM b a 0) ++ txt (txM b a 1) ++ txt (txM b a 2))).length : Int), 0) := by
  have her : ∀ i, i < 3 → erM b a i = 0 := by
    unfold getM at h
    by_cases h0 : erM b a 0 = 0
    · rw [if_neg (by omega)] at h
      by_cases h1 : erM b a 1 = 0
      · rw [if_neg (by omega)] at h
        by_cases h2 : erM b a 2 = 0
        · intro i hi
          match i, hi with
          | 0, _ => exact h0
          | 1, _ => exact h1
          | 2, _ => exact h2
        · rw [if_pos h2] at h; exact absurd h h2
      · rw [if_pos h1] at h; exact absurd h h1
    · rw [if_pos h0] at h; exact absurd h h0
  obtain ⟨p0, r0, hb0, ha0, hp0⟩ := getT_bytes (her 0 (by omega))
  obtain ⟨p1, r1, hb1, ha1, hp1⟩ := getT_bytes (her 1 (by omega))
  obtain ⟨p2, r2, hb2, ha2, hp2⟩ := getT_bytes (her 2 (by omega))
  rw [getM_ok her]
  have e0 : (getT b (atM b a 0) 256).1 = txM b a 0 := rfl
  have e1 : (getT b (atM b a 1) 256).1 = txM b a 1 := rfl
  have e2 : (getT b (atM b a 2) 256).1 = txM b a 2 := rfl
  have a1 : atM b a 1 = (getT b (atM b a 0) 256).2.1 := rfl
  have a2 : atM b a 2 = (getT b (atM b a 1) 256).2.1 := rfl
  have a3 : atM b a 3 = (getT b (atM b a 2) 256).2.1 := rfl
  rw [e0] at hb0 hp0
  rw [e1] at hb1 hp1
  rw [e2] at hb2 hp2
  rw [← a1] at hp0
  rw [← a2] at hp1
  rw [← a3] at hp2
  generalize txM b a 0 = x0 at *
  generalize txM b a 1 = x1 at *
  generalize txM b a 2 = x2 at *
  have l1 : p1.length = (p0 ++ txt x0).length := by omega
  have l2 : p2.length = (p1 ++ txt x1).length := by omega
  have q1 : p1 = p0 ++ txt x0 ∧ txt x1 ++ r1 = r0 := List.append_inj (hb1.symm.trans (hb0.trans (List.append_assoc _ _ _).symm)) l1
  obtain ⟨rfl, rfl⟩ := q1
  have q2 : p2 = (p0 ++ txt x0) ++ txt x1 ∧ txt x2 ++ r2 = r1 := List.append_inj (hb2.symm.trans (hb1.trans (List.append_assoc _ _ _).symm)) l2
  obtain ⟨rfl, rfl⟩ := q2
  refine ⟨p0, r2, ?_, ha0, ?_⟩
  · rw [hb2]; simp
  · rw [hp2]; simp

theorem join {b p r p1 r1 Y N : List UInt8} {pl : Int} (hb : b = p ++ (N ++ r)) (hp : pl = ((p ++ N).length : Int)) (hb1 : b = p1 ++ (Y ++ r1)) (ha1 : pl = (p1.length : Int)) :
    b = p ++ ((N ++ Y) ++ r1) ∧ ((p1 ++ Y).length : Int) = ((p ++ (N ++ Y)).length : Int) := by
  have l1 : p1.length = (p ++ N).length := by omega
  have q1 : p1 = p ++ N ∧ Y ++ r1 = r := List.append_inj (hb1.symm.trans (hb.trans (List.append_assoc _ _ _).symm)) l1
  obtain ⟨rfl, rfl⟩ := q1
  exact ⟨by rw [hb]; simp, by simp⟩
/-- what is got as a constant has just its bytes -/
theorem get_bytes {b : List UInt8} {a : Int} (h : (getC b a).2.2 = 0) : rightC (getC b a).1 = true ∧ ∃ p r, b = p ++ (bytesC (getC b a).1 ++ r) ∧ a = (p.length : Int) ∧ (getC b a).2.1 = ((p ++ bytesC (getC b a).1).length : Int) := by
  by_cases h1 : (getS b a).2.2 = 0
  · by_cases h2 : (getS b a).1 < 1 ∨ 5 < (getS b a).1
    · rw [getC_kind h1 h2] at h; simp at h
    · rw [getC_fin h1 h2] at h ⊢
      obtain ⟨hr, hrt, e⟩ := fin_ok h
      rw [e]
      refine ⟨hrt, ?_⟩
      simp only
      obtain ⟨p, r, hb, ha, hp⟩ := getS_bytes h1
      clear h e hrt h1
      generalize (getS b a).2.1 = pl at *
      generalize (getS b a).1 = v at *
      have hv : v = 1 ∨ v = 2 ∨ v = 3 ∨ v = 4 ∨ v = 5 := by omega
      clear h2
      rcases hv with rfl | rfl | rfl | rfl | rfl
      · have e1 : firstC 1 b pl = (⟨1, (getS b pl).1, [], [], []⟩, (getS b pl).2.1, (getS b pl).2.2) := rfl
        rw [e1] at hr ⊢
        obtain ⟨p1, r1, hb1, ha1, hp1⟩ := getS_bytes hr
        have ej := join hb hp hb1 ha1
        simp only
        have eb : bytesC ⟨1, (getS b pl).1, [], [], []⟩ = num 1 ++ num (getS b pl).1 := rfl
        rw [eb]
        exact ⟨p, r1, ej.1, ha, hp1.trans ej.2⟩
      · have e1 : firstC 2 b pl = (⟨2, 0, (getT b pl 64).1, [], []⟩, (getT b pl 64).2.1, (getT b pl 64).2.2) := rfl
        rw [e1] at hr ⊢
        obtain ⟨p1, r1, hb1, ha1, hp1⟩ := getT_bytes hr
        have ej := join hb hp hb1 ha1
        simp only
        have eb : bytesC ⟨2, 0, (getT b pl 64).1, [], []⟩ = num 2 ++ txt (getT b pl 64).1 := rfl
        rw [eb]
        exact ⟨p, r1, ej.1, ha, hp1.trans ej.2⟩
      · have e1 : firstC 3 b pl = (⟨3, 0, (getT b pl 256).1, [], []⟩, (getT b pl 256).2.1, (getT b pl 256).2.2) := rfl
        rw [e1] at hr ⊢
        obtain ⟨p1, r1, hb1, ha1, hp1⟩ := getT_bytes hr
        have ej := join hb hp hb1 ha1
        simp only
        have eb : bytesC ⟨3, 0, (getT b pl 256).1, [], []⟩ = num 3 ++ txt (getT b pl 256).1 := rfl
        rw [eb]
        exact ⟨p, r1, ej.1, ha, hp1.trans ej.2⟩
      · have e1 : firstC 4 b pl = getM 4 b pl := rfl
        rw [e1] at hr ⊢
        obtain ⟨p1, r1, hb1, ha1, em⟩ := getM_bytes hr
        rw [em]
        have ej := join hb hp hb1 ha1
        simp only
        have eb : bytesC ⟨4, 0, txM b pl 0, txM b pl 1, txM b pl 2⟩ = num 4 ++ (txt (txM b pl 0) ++ txt (txM b pl 1) ++ txt (txM b pl 2)) := rfl
        rw [eb]
        exact ⟨p, r1, ej.1, ha, ej.2⟩
      · have e1 : firstC 5 b pl = getM 5 b pl := rfl
        rw [e1] at hr ⊢
        obtain ⟨p1, r1, hb1, ha1, em⟩ := getM_bytes hr
        rw [em]
        have ej := join hb hp hb1 ha1
        simp only
        have eb : bytesC ⟨5, 0, txM b pl 0, txM b pl 1, txM b pl 2⟩ = num 5 ++ (txt (txM b pl 0) ++ txt (txM b pl 1) ++ txt (txM b pl 2)) := rfl
        rw [eb]
        exact ⟨p, r1, ej.1, ha, ej.2⟩
  · rw [getC_err h1] at h
    exact absurd h h1

end PoolZ
end Go.Proofs.YtnkkeifjggcncaaDoor
