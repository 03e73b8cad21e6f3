/-
  Bytes read as code: ins.Get and the document's own: what each call returns.
-/
import Derived.Test.YthkkcecfenohjaaGreatDoorPutR
import Derived.Test.YthkkcecfenohjaaGreatDoorBinText
namespace Go.Proofs.YthkkcecfenohjaaGreatDoor
namespace InsG
open Go.RowKit InsM Base InsA InsB Stru InsC BinM BinE BinPut BinGet Bin8 InsP

/-- what is read as a number from 0 to most -/
def getU (l : List UInt8) (a most : Int) : Int × Int × Int :=
  if (getS l a).2.2 ≠ 0 then (0, 0, (getS l a).2.2) else if (getS l a).1 < 0 ∨ most < (getS l a).1 then (0, 0, 12) else ((getS l a).1, (getS l a).2.1, 0)
/-- what is read as an instruction -/
def oneI (l : List UInt8) (a : Int) : InsT × Int × Int :=
  if (getU l a 45).2.2 ≠ 0 then ((0, 0), 0, (getU l a 45).2.2)
  else if kindI (getU l a 45).1 = 0 then (((getU l a 45).1, 0), (getU l a 45).2.1, 0)
  else if (getU l (getU l a 45).2.1 65535).2.2 ≠ 0 then ((0, 0), 0, (getU l (getU l a 45).2.1 65535).2.2)
  else (((getU l a 45).1, (getU l (getU l a 45).2.1 65535).1), (getU l (getU l a 45).2.1 65535).2.1, 0)
/-- so many instructions -/
def manyI (l : List UInt8) : Nat → Int → List InsT × Int × Int
  | 0, a => ([], a, 0)
  | n + 1, a => if (oneI l a).2.2 ≠ 0 then ([], 0, (oneI l a).2.2) else
    if (manyI l n (oneI l a).2.1).2.2 ≠ 0 then ([], 0, (manyI l n (oneI l a).2.1).2.2) else ((oneI l a).1 :: (manyI l n (oneI l a).2.1).1, (manyI l n (oneI l a).2.1).2.1, 0)
/-- what is read as code -/
def getI (l : List UInt8) (a : Int) : List InsT × Int × Int :=
  if (getS l a).2.2 ≠ 0 then ([], 0, (getS l a).2.2) else if (getS l a).1 < 0 ∨ 512 < (getS l a).1 then ([], 0, 6) else manyI l (getS l a).1.toNat (getS l a).2.1

theorem getU_err {l : List UInt8} {a most : Int} (h : (getS l a).2.2 ≠ 0) : getU l a most = (0, 0, (getS l a).2.2) := by unfold getU; rw [if_pos h]
theorem getU_big {l : List UInt8} {a most : Int} (h : (getS l a).2.2 = 0) (h2 : (getS l a).1 < 0 ∨ most < (getS l a).1) : getU l a most = (0, 0, 12) := by unfold getU; rw [if_neg (by omega), if_pos h2]
theorem getU_good {l : List UInt8} {a most : Int} (h : (getS l a).2.2 = 0) (h2 : ¬ ((getS l a).1 < 0 ∨ most < (getS l a).1)) : getU l a most = ((getS l a).1, (getS l a).2.1, 0) := by unfold getU; rw [if_neg (by omega), if_neg h2]
theorem getU_ok {l : List UInt8} {a most : Int} (h : (getU l a most).2.2 = 0) : 0 ≤ (getU l a most).1 ∧ (getU l a most).1 ≤ most ∧ 0 ≤ (getU l a most).2.1 ∧ (getU l a most).2.1 ≤ l.length := by
  by_cases h1 : (getS l a).2.2 = 0
  · by_cases h2 : (getS l a).1 < 0 ∨ most < (getS l a).1
    · rw [getU_big h1 h2] at h; simp at h
    · have := BinText.getS_ok h1
      rw [getU_good h1 h2]
      simp only
      omega
  · rw [getU_err h1] at h
    exact absurd h h1

set_option maxRecDepth 100000 in
theorem getUpTo_any (A : Option Addr) (l : List UInt8) (n cap : Nat) (a most : Int) (w : World) (hn : n = l.length) (hm : n ≤ maxLen) (ha0 : -9223372036854775808 ≤ a) (ha1 : a ≤ 9223372036854775807) (hr : Rds w A (cells8 l)) :
    Calls Tryz.prog 179 #[.slice A n cap, .int .i64 a, .int .i64 most] w fun e w' => e = .returned (three (getU l a most)) ∧ w = w' := by
  have hg := get_any A l n cap a w hn hm ha0 ha1 hr
  have Hn := Lib.hid hn
  have Hr := Lib.hid hr
  clear hn hr
  by_cases h1 : (getS l a).2.2 = 0
  · by_cases h2 : (getS l a).1 < 0 ∨ most < (getS l a).1
    · have H := Lib.hid (getU_big h1 h2)
      generalize getS l a = g at *
      obtain ⟨v, pl, er⟩ := g
      simp only at h1 h2
      subst h1
      unfold three at hg
      have Hg := Lib.hid hg
      clear hg
      by_cases h3 : v < 0
      · clear h2
        go_enter Tryz.func179, Tryz.ntmps179
        go_wp2_with fail
        refine Calls.mono Hg.out ?_
        rintro e w' ⟨rfl, rfl⟩
        go_wp2_with fail
        go_ret3
        exact ⟨ret3 H.out, rfl⟩
      · have h4 : most < v := by omega
        clear h2
        go_enter Tryz.func179, Tryz.ntmps179
        go_wp2_with fail
        refine Calls.mono Hg.out ?_
        rintro e w' ⟨rfl, rfl⟩
        go_wp2_with fail
        go_ret3
        exact ⟨ret3 H.out, rfl⟩
    · have H := Lib.hid (getU_good h1 h2)
      generalize getS l a = g at *
      obtain ⟨v, pl, er⟩ := g
      simp only at h1 h2
      subst h1
      unfold three at hg
      have Hg := Lib.hid hg
      have h3 : ¬ v < 0 := by omega
      have h4 : ¬ most < v := by omega
      clear hg h2
      go_enter Tryz.func179, Tryz.ntmps179
      go_wp2_with fail
      refine Calls.mono Hg.out ?_
      rintro e w' ⟨rfl, rfl⟩
      go_wp2_with fail
      go_ret3
      exact ⟨ret3 H.out, rfl⟩
  · have H := Lib.hid (getU_err (most := most) h1)
    generalize getS l a = g at *
    obtain ⟨v, pl, er⟩ := g
    simp only at h1
    have h2 : (er != 0) = true := by simpa using h1
    unfold three at hg
    have Hg := Lib.hid hg
    clear hg h1
    go_enter Tryz.func179, Tryz.ntmps179
    go_wp2_with fail
    refine Calls.mono Hg.out ?_
    rintro e w' ⟨rfl, rfl⟩
    go_wp2_with fail
    go_ret3
    exact ⟨ret3 H.out, rfl⟩

/-- a call hands back an instruction, a place, an error's number -/
def oneV (r : InsT × Int × Int) : Value := .tuple #[.agg #[.int .i64 r.1.1, .int .i64 r.1.2], .int .i64 r.2.1, .int .i64 r.2.2]

theorem ret1 {r : InsT × Int × Int} {x y b c : Int} (h : r = ((x, y), b, c)) : Ending.returned (.tuple #[.agg #[.int .i64 x, .int .i64 y], .int .i64 b, .int .i64 c]) = .returned (oneV r) := by subst h; rfl

set_option maxRecDepth 100000 in
set_option maxHeartbeats 1000000 in
theorem getOne_any (A : Option Addr) (l : List UInt8) (n cap : Nat) (a : Int) (w : World) (hl : Laid w) (hn : n = l.length) (hm : n ≤ maxLen) (ha0 : -9223372036854775808 ≤ a) (ha1 : a ≤ 9223372036854775807) (hr : Rds w A (cells8 l)) :
    Calls Tryz.prog 173 #[.slice A n cap, .int .i64 a] w (GivesB w (oneV (oneI l a))) := by
  have Hl := Lib.hid (Laid.alloc hl (.cells #[.int .i64 0, .int .i64 0] 95))
  have hok := getU_ok (l := l) (a := a) (most := 45)
  have hb := (Below.refl w.heap.size w).alloc (Nat.le_refl _) (.cells #[.int .i64 0, .int .i64 0] 95)
  have Hr := Lib.hid (hr.below hb)
  have Hb := Lib.hid hb
  have Hn := Lib.hid hn
  have hnl : l.length ≤ n := Nat.le_of_eq hn.symm
  have hmx : n ≤ 9223372036854775807 := by unfold maxLen at hm; omega
  clear hl hr hb hn
  have H0 : Hid (oneI l a = oneI l a) := rfl
  have HO : oneI l a = if (getU l a 45).2.2 ≠ 0 then ((0, 0), 0, (getU l a 45).2.2)
    else if kindI (getU l a 45).1 = 0 then (((getU l a 45).1, 0), (getU l a 45).2.1, 0)
    else if (getU l (getU l a 45).2.1 65535).2.2 ≠ 0 then ((0, 0), 0, (getU l (getU l a 45).2.1 65535).2.2)
    else (((getU l a 45).1, (getU l (getU l a 45).2.1 65535).1), (getU l (getU l a 45).2.1 65535).2.1, 0) := rfl
  generalize hG : getU l a 45 = G at hok HO
  obtain ⟨v, pl, er⟩ := G
  simp only at hok HO
  have HG := Lib.hid hG
  clear hG H0
  by_cases h1 : er = 0
  · subst h1
    obtain ⟨hv0, hv1, hp0, hp1⟩ := hok rfl
    clear hok
    by_cases h2 : kindI v = 0
    · rw [if_neg (by simp), if_pos h2] at HO
      have H := Lib.hid HO
      have H2 := Lib.hid h2
      clear HO h2
      go_enter Tryz.func173, Tryz.ntmps173
      go_wp2_with fail
      refine (getUpTo_any A l n cap a 45 _ Hn.out hm ha0 ha1 Hr.out).mono ?_
      rw [HG.out]
      unfold three
      rintro e w1 ⟨rfl, rfl⟩
      go_wp2_with fail
      refine (kind_any _ _ Hl.out).mono ?_
      rw [H2.out]
      rintro e w1 ⟨rfl, rfl⟩
      go_wp2_with fail
      refine bodyPost_ret (v := .tuple #[.agg #[.int .i64 v, .int .i64 0], .int .i64 pl, .int .i64 0]) (by simp [results, Tryz.results173, go_sem]) rfl ⟨ret1 H.out, (Below.refl _ _).alloc (Nat.le_refl _) _⟩
    · rw [if_neg (by simp), if_neg h2] at HO
      have hK := kind_range v
      generalize hKK : kindI v = K at *
      have HK := Lib.hid hKK
      have h2' : (K == 0) = false := by simpa using h2
      clear hKK h2
      generalize hG2 : getU l pl 65535 = G2 at HO
      obtain ⟨v2, pl2, er2⟩ := G2
      simp only at HO
      have HG2 := Lib.hid hG2
      clear hG2
      by_cases h3 : er2 = 0
      · subst h3
        rw [if_neg (by simp)] at HO
        have H := Lib.hid HO
        clear HO
        go_enter Tryz.func173, Tryz.ntmps173
        go_wp2_with fail
        refine (getUpTo_any A l n cap a 45 _ Hn.out hm ha0 ha1 Hr.out).mono ?_
        rw [HG.out]
        unfold three
        rintro e w1 ⟨rfl, rfl⟩
        go_wp2_with fail
        refine (kind_any _ _ Hl.out).mono ?_
        rw [HK.out]
        rintro e w1 ⟨rfl, rfl⟩
        go_wp2_with fail
        refine (getUpTo_any A l n cap pl 65535 _ Hn.out hm (by omega) (by omega) Hr.out).mono ?_
        rw [HG2.out]
        unfold three
        rintro e w1 ⟨rfl, rfl⟩
        go_wp2_with fail
        refine bodyPost_ret (v := .tuple #[.agg #[.int .i64 v, .int .i64 v2], .int .i64 pl2, .int .i64 0]) (by simp [results, Tryz.results173, go_sem]) rfl ⟨ret1 H.out, (Below.refl _ _).alloc (Nat.le_refl _) _⟩
      · rw [if_pos h3] at HO
        have h3' : (er2 != 0) = true := by simpa using h3
        have H := Lib.hid HO
        clear HO h3
        go_enter Tryz.func173, Tryz.ntmps173
        go_wp2_with fail
        refine (getUpTo_any A l n cap a 45 _ Hn.out hm ha0 ha1 Hr.out).mono ?_
        rw [HG.out]
        unfold three
        rintro e w1 ⟨rfl, rfl⟩
        go_wp2_with fail
        refine (kind_any _ _ Hl.out).mono ?_
        rw [HK.out]
        rintro e w1 ⟨rfl, rfl⟩
        go_wp2_with fail
        refine (getUpTo_any A l n cap pl 65535 _ Hn.out hm (by omega) (by omega) Hr.out).mono ?_
        rw [HG2.out]
        unfold three
        rintro e w1 ⟨rfl, rfl⟩
        go_wp2_with fail
        refine bodyPost_ret (v := .tuple #[.agg #[.int .i64 0, .int .i64 0], .int .i64 0, .int .i64 er2]) (by simp [results, Tryz.results173, go_sem]) rfl ⟨ret1 H.out, (Below.refl _ _).alloc (Nat.le_refl _) _⟩
  · rw [if_pos h1] at HO
    have h1' : (er != 0) = true := by simpa using h1
    have H := Lib.hid HO
    clear HO h1 hok
    go_enter Tryz.func173, Tryz.ntmps173
    go_wp2_with fail
    refine (getUpTo_any A l n cap a 45 _ Hn.out hm ha0 ha1 Hr.out).mono ?_
    rw [HG.out]
    unfold three
    rintro e w1 ⟨rfl, rfl⟩
    go_wp2_with fail
    refine bodyPost_ret (v := .tuple #[.agg #[.int .i64 0, .int .i64 0], .int .i64 0, .int .i64 er]) (by simp [results, Tryz.results173, go_sem]) rfl ⟨ret1 H.out, (Below.refl _ _).alloc (Nat.le_refl _) _⟩

/-! many -/
theorem oneI_ok {l : List UInt8} {a : Int} (h : (oneI l a).2.2 = 0) : 0 ≤ (oneI l a).2.1 ∧ (oneI l a).2.1 ≤ l.length := by
  unfold oneI at h ⊢
  by_cases h1 : (getU l a 45).2.2 ≠ 0
  · rw [if_pos h1] at h; exact absurd h h1
  · rw [if_neg h1] at h ⊢
    have g1 := getU_ok (l := l) (a := a) (most := 45) (by omega)
    by_cases h2 : kindI (getU l a 45).1 = 0
    · rw [if_pos h2]; exact g1.2.2
    · rw [if_neg h2] at h ⊢
      by_cases h3 : (getU l (getU l a 45).2.1 65535).2.2 ≠ 0
      · rw [if_pos h3] at h; exact absurd h h3
      · rw [if_neg h3]
        exact (getU_ok (l := l) (a := (getU l a 45).2.1) (most := 65535) (by omega)).2.2

/-- some that were read, and what comes of the rest -/
def after (p : List InsT) (r : List InsT × Int × Int) : List InsT × Int × Int := if r.2.2 ≠ 0 then ([], 0, r.2.2) else (p ++ r.1, r.2.1, 0)
theorem after_err {l : List UInt8} {n : Nat} {a : Int} {p : List InsT} (h : (oneI l a).2.2 ≠ 0) : after p (manyI l (n + 1) a) = ([], 0, (oneI l a).2.2) := by
  unfold manyI
  rw [if_pos h]
  unfold after
  rw [if_pos h]
theorem after_ok {l : List UInt8} {n : Nat} {a : Int} {p : List InsT} (h : (oneI l a).2.2 = 0) : after p (manyI l (n + 1) a) = after (p ++ [(oneI l a).1]) (manyI l n (oneI l a).2.1) := by
  conv => lhs; unfold manyI
  rw [if_neg (by omega)]
  unfold after
  by_cases h2 : (manyI l n (oneI l a).2.1).2.2 ≠ 0
  · rw [if_pos h2, if_pos h2, if_pos h2]
  · rw [if_neg h2, if_neg h2, if_neg (by simp)]
    simp
theorem after_nil {r : List InsT × Int × Int} (h : r.2.2 ≠ 0 → r = ([], 0, r.2.2)) : after [] r = r := by
  unfold after
  by_cases h2 : r.2.2 ≠ 0
  · rw [if_pos h2]; exact (h h2).symm
  · rw [if_neg h2]
    obtain ⟨x, y, z⟩ := r
    simp at h2 ⊢
    exact h2.symm
theorem many_err {l : List UInt8} : ∀ {n : Nat} {a : Int}, (manyI l n a).2.2 ≠ 0 → manyI l n a = ([], 0, (manyI l n a).2.2)
  | 0, a, h => by simp [manyI] at h
  | n + 1, a, h => by
    unfold manyI at h ⊢
    by_cases h1 : (oneI l a).2.2 ≠ 0
    · simp only [if_pos h1]
    · simp only [if_neg h1] at h ⊢
      by_cases h2 : (manyI l n (oneI l a).2.1).2.2 ≠ 0
      · simp only [if_pos h2]
      · simp only [if_neg h2] at h
        simp at h

/-- instructions in a row of the call's own -/
def OwnK (w : World) (base : Nat) (v : Value) (l : List InsT) : Prop := w.ownsRow base 95 2 v l.length (l.flatMap insV)
theorem infoIns : (Tryz.prog.info? 95).map (fun i => (i.zero, i.size, i.bytes)) = some (some (.agg #[.int .i64 0, .int .i64 0]), 2, 16) := by kernel_rfl
theorem one_insV (l : List InsT) : ∀ u ∈ l.flatMap insV, u.oneCell' = true := by
  intro u hu
  obtain ⟨x, _, hx⟩ := List.mem_flatMap.1 hu
  simp [insV] at hx
  rcases hx with rfl | rfl <;> rfl
theorem OwnK.nil (w : World) (base : Nat) : OwnK w base (.slice none 0 0) [] := World.ownsRow_nil _ _ _ _

theorem appK {ops : Array Oper} {rest : List Oper} {o : Oper} {a : Act} {w : World} {Q : Exit → Act → World → Prop} (hgd : o.guard = none) (s x : Operand)
    (ho : o.op = .call { callee := .builtin .append, args := #[s, x], argTypes := #[59, 59] })
    (base : Nat) (v : Value) (p : List InsT) (hs : a.eval s = v) (hown : OwnK w base v p) (A : Option Addr) (m c : Nat) (l : List InsT) (hx : a.eval x = .slice A m c)
    (hm : m = l.length) (hr : Rds w A (l.flatMap insV)) (hlen : p.length + l.length ≤ 1048576) (hbase : base ≤ w.heap.size)
    (h : ∀ v' w', OwnK w' base v' (p ++ l) → w.grownBy w' v.ownBlock → wpList Tryz.prog ops Q rest (a.put o.dst v') w') : wpList Tryz.prog ops Q (o :: rest) a w := by
  obtain ⟨i0, hi, hz, hs1, hb1⟩ := info_parts infoIns
  refine wpList_append_rdsN hgd s x 59 ho base 95 i0 _ 2 16 Tryz.underlying59 hi hz hs1 hb1 rfl (by omega) v p.length (p.flatMap insV) hs hown A m c (l.flatMap insV) hx (by rw [flat_len insV 2 (fun _ => rfl), hm]) hr (one_insV l) (by unfold maxLen; omega) (by omega) hbase ?_
  intro v' w' h1 h2
  refine h v' w' ?_ h2
  unfold OwnK
  rw [List.flatMap_append, List.length_append, ← hm]
  exact h1

theorem ownK_below {B base : Nat} {v : Value} {p : List InsT} {w0 w w' : World} (h : OwnK w base v p) (hb : Below B w0 w) (hB : B ≤ base) (hs : B ≤ w.heap.size) (hg : w.grownBy w' v.ownBlock) : Below B w0 w' :=
  below_own hb h hB hs hg

theorem ownK_kept {w w' : World} {base : Nat} {v : Value} {p : List InsT} (h : OwnK w base v p) (hb : Below w.heap.size w w') : OwnK w' base v p := by
  obtain ⟨h1, h2⟩ := h
  refine ⟨h1, ?_⟩
  rcases h2 with h2 | ⟨g, cap, cur, a, b, c, d⟩
  · exact .inl h2
  · have hlt : g < w.heap.size := by
      rcases Nat.lt_or_ge g w.heap.size with hl | hl
      · exact hl
      · rw [Array.getElem?_eq_none hl] at c; cases c
    exact .inr ⟨g, cap, cur, a, b, by rw [hb.block g hlt]; exact c, d⟩

theorem OwnK.slice {w : World} {base : Nat} {v : Value} {p : List InsT} (h : OwnK w base v p) :
    ∃ A c, v = .slice A p.length c ∧ p.length ≤ c ∧ c ≤ maxLen ∧ Rds w A (p.flatMap insV) := by
  obtain ⟨A, c, rfl, h1, h2, h3, _⟩ := own_slice h
  exact ⟨A, c, rfl, h1, h2, Rds.ownN h⟩

/-- a call hands back instructions in new memory, a place, and an error's number -/
def GivesK (w : World) (r : List InsT × Int × Int) (e : Ending) (w' : World) : Prop :=
  ∃ v, e = .returned (.tuple #[v, .int .i64 r.2.1, .int .i64 r.2.2]) ∧ OwnK w' w.heap.size v r.1 ∧ Below w.heap.size w w'
theorem givesK {w w' : World} {r : List InsT × Int × Int} {v : Value} {t : List InsT} {b n : Int} (h : r = (t, b, n)) (ho : OwnK w' w.heap.size v t) (hb : Below w.heap.size w w') : GivesK w r (.returned (.tuple #[v, .int .i64 b, .int .i64 n])) w' := by
  subst h
  exact ⟨v, rfl, ho, hb⟩

/-- the loop's way: k of N were read -/
def Rel (w : World) (l : List UInt8) (r : List InsT × Int × Int) (N : Nat) (at_ o i : Value) (wr : World) : Prop :=
  ∃ (k : Nat) (a : Int) (p : List InsT), k ≤ N ∧ i = .int .i64 k ∧ at_ = .int .i64 a ∧ (-9223372036854775808 ≤ a ∧ a ≤ 9223372036854775807) ∧ p.length = k ∧ r = after p (manyI l (N - k) a) ∧ OwnK wr w.heap.size o p ∧ Below w.heap.size w wr

end InsG
end Go.Proofs.YthkkcecfenohjaaGreatDoor
