/-
  pool.GetAll of the bytes of constants, with bytes behind them.
-/
import Derived.Test.YthkkcecfenohjaaGreatDoorKlsY
import Derived.Test.YthkkcecfenohjaaGreatDoorKlsD
import Derived.Test.YthkkcecfenohjaaGreatDoorPoolT
namespace Go.Proofs.YthkkcecfenohjaaGreatDoor
namespace KlsS
section
open BinM BinE BinGet BinText DescM DescX DescR DescP DescQ Stru PoolM PoolL PoolD PoolS PoolT
open KlsY (txt_full)

theorem split_len2 {l : List UInt8} (h : (splitT l).2.2 = 0) : l.length ≤ 256 := by
  unfold splitT at h
  split at h
  · split at h
    · rename_i ts g hp
      split at h
      · rename_i hg
        have h1 := parse_len 6 hp
        have h2 := given_len hg
        rw [List.length_drop] at h1
        omega
      · simp at h
    · simp at h
  · simp at h

/-- the five kinds -/
theorem right_kinds {c : Cst} (h : rightC c = true) : (c.kind = 1 ∧ c = ⟨1, c.n, [], [], []⟩) ∨ (c.kind = 2 ∧ c = ⟨2, 0, c.s, [], []⟩ ∧ c.s.length ≤ 64) ∨ (c.kind = 3 ∧ c = ⟨3, 0, c.s, [], []⟩ ∧ c.s.length ≤ 256) ∨
    ((c.kind = 4 ∨ c.kind = 5) ∧ c = ⟨c.kind, 0, c.s, c.t, c.u⟩ ∧ c.s.length ≤ 256 ∧ c.t.length ≤ 256 ∧ c.u.length ≤ 256) := by
  obtain ⟨k, n, s, t, u⟩ := c
  unfold rightC at h
  rw [Bool.and_eq_true, same_iff] at h
  obtain ⟨h1, h2⟩ := h
  unfold bareC at h1
  unfold restC at h2
  simp only at h1 h2 ⊢
  by_cases e1 : k = 1
  · rw [if_pos e1] at h1
    subst e1
    exact .inl ⟨rfl, h1⟩
  · rw [if_neg e1] at h1 h2
    by_cases e2 : k = 2
    · rw [if_pos (.inl e2)] at h1
      rw [if_pos e2] at h2
      subst e2
      exact .inr (.inl ⟨rfl, h1, by simpa using h2⟩)
    · rw [if_neg e2] at h2
      by_cases e3 : k = 3
      · rw [if_pos (.inr e3)] at h1
        rw [if_pos e3] at h2
        subst e3
        have := right_type h2
        exact .inr (.inr (.inl ⟨rfl, h1, by omega⟩))
      · rw [if_neg e3] at h2
        rw [if_neg (by omega)] at h1
        by_cases e4 : k = 4
        · rw [if_pos e4] at h2
          simp only [Bool.and_eq_true] at h2
          have a1 := name_len h2.1.1
          have a2 := name_len h2.1.2
          have a3 := right_type h2.2
          exact .inr (.inr (.inr ⟨.inl e4, h1, by omega, by omega, by omega⟩))
        · rw [if_neg e4] at h2
          by_cases e5 : k = 5
          · rw [if_pos e5] at h2
            simp only [Bool.and_eq_true, beq_iff_eq] at h2
            have a1 := name_len h2.1.1
            have a2 := name_len h2.1.2
            have a3 := split_len2 h2.2
            exact .inr (.inr (.inr ⟨.inr e5, h1, by omega, by omega, a3⟩))
          · rw [if_neg e5] at h2; cases h2

theorem get_after {p r : List UInt8} {k : Int} (h1 : 1 ≤ k) (h5 : k ≤ 5) : getC (p ++ (num k ++ r)) (p.length : Int) = finC (firstC k ((p ++ num k) ++ r) ((p ++ num k).length : Int)) := by
  have h := BinText.getS_numr (n := k) (by omega) (by omega) p r
  rw [getC_fin (by rw [h]) (by rw [h]; simp only; omega), h]
  simp only
  rw [List.append_assoc]

theorem get_back_r {c : Cst} (h : rightC c = true) (hn : fitI c.n) (p r : List UInt8) : getC (p ++ (bytesC c ++ r)) (p.length : Int) = (c, ((p ++ bytesC c).length : Int), 0) := by
  rcases right_kinds h with ⟨_, e⟩ | ⟨_, e, hs⟩ | ⟨_, e, hs⟩ | ⟨hk, e, hs, ht, hu⟩
  · generalize c.n = n at *
    subst e
    unfold fitI at hn
    have eb : bytesC ⟨1, n, [], [], []⟩ = num 1 ++ num n := rfl
    rw [eb, show p ++ ((num 1 ++ num n) ++ r) = p ++ (num 1 ++ (num n ++ r)) by simp only [List.append_assoc], get_after (by omega) (by omega)]
    have hg := BinText.getS_numr (n := n) hn.1 hn.2 (p ++ num 1) r
    have e1 : firstC 1 ((p ++ num 1) ++ (num n ++ r)) ((p ++ num 1).length : Int) = (⟨1, n, [], [], []⟩, (((p ++ num 1) ++ num n).length : Int), 0) := by
      unfold firstC
      rw [if_pos rfl, hg]
    rw [e1, fin_yes h, List.append_assoc]
  · generalize c.s = s at *
    subst e
    have eb : bytesC ⟨2, 0, s, [], []⟩ = num 2 ++ txt s := rfl
    rw [eb, show p ++ ((num 2 ++ txt s) ++ r) = p ++ (num 2 ++ (txt s ++ r)) by simp only [List.append_assoc], get_after (by omega) (by omega)]
    have hg := txt_full (p ++ num 2) r s 64 (by omega) (by omega)
    have e1 : firstC 2 ((p ++ num 2) ++ (txt s ++ r)) ((p ++ num 2).length : Int) = (⟨2, 0, s, [], []⟩, (((p ++ num 2) ++ txt s).length : Int), 0) := by
      unfold firstC
      rw [if_neg (by decide), if_pos rfl, hg]
    rw [e1, fin_yes h, List.append_assoc]
  · generalize c.s = s at *
    subst e
    have eb : bytesC ⟨3, 0, s, [], []⟩ = num 3 ++ txt s := rfl
    rw [eb, show p ++ ((num 3 ++ txt s) ++ r) = p ++ (num 3 ++ (txt s ++ r)) by simp only [List.append_assoc], get_after (by omega) (by omega)]
    have hg := txt_full (p ++ num 3) r s 256 (by omega) (by omega)
    have e1 : firstC 3 ((p ++ num 3) ++ (txt s ++ r)) ((p ++ num 3).length : Int) = (⟨3, 0, s, [], []⟩, (((p ++ num 3) ++ txt s).length : Int), 0) := by
      unfold firstC
      rw [if_neg (by decide), if_neg (by decide), if_pos rfl, hg]
    rw [e1, fin_yes h, List.append_assoc]
  · generalize c.s = s at *
    generalize c.t = t at *
    generalize c.u = u at *
    generalize c.kind = k at *
    subst e
    have eb : bytesC ⟨k, 0, s, t, u⟩ = num k ++ (txt s ++ (txt t ++ txt u)) := by
      unfold bytesC
      rw [if_neg (by simp only; omega), if_neg (by simp only; omega)]
      simp
    rw [eb, show p ++ ((num k ++ (txt s ++ (txt t ++ txt u))) ++ r) = p ++ (num k ++ (txt s ++ (txt t ++ (txt u ++ r)))) by simp only [List.append_assoc], get_after (by omega) (by omega)]
    have el : ((p ++ (num k ++ (txt s ++ (txt t ++ txt u)))).length : Int) = ((((p ++ num k) ++ txt s) ++ txt t) ++ txt u).length := by simp
    rw [el]
    generalize hP : p ++ num k = P
    have e1 := txt_full P (txt t ++ (txt u ++ r)) s 256 (by omega) (by omega)
    have e2 := txt_full (P ++ txt s) (txt u ++ r) t 256 (by omega) (by omega)
    have e3 := txt_full ((P ++ txt s) ++ txt t) r u 256 (by omega) (by omega)
    have q2 : (P ++ txt s) ++ (txt t ++ (txt u ++ r)) = P ++ (txt s ++ (txt t ++ (txt u ++ r))) := by simp only [List.append_assoc]
    have q3 : ((P ++ txt s) ++ txt t) ++ (txt u ++ r) = P ++ (txt s ++ (txt t ++ (txt u ++ r))) := by simp only [List.append_assoc]
    rw [q2] at e2
    rw [q3] at e3
    generalize P ++ (txt s ++ (txt t ++ (txt u ++ r))) = B at *
    generalize hN : (((P ++ txt s) ++ txt t) ++ txt u).length = N at *
    have a0 : atM B (P.length : Int) 0 = (P.length : Int) := rfl
    have a1 : atM B (P.length : Int) 1 = ((P ++ txt s).length : Int) := by show (getT B (P.length : Int) 256).2.1 = _; rw [e1]
    have a2 : atM B (P.length : Int) 2 = (((P ++ txt s) ++ txt t).length : Int) := by show (getT B (atM B (P.length : Int) 1) 256).2.1 = _; rw [a1, e2]
    have a3 : atM B (P.length : Int) 3 = (N : Int) := by show (getT B (atM B (P.length : Int) 2) 256).2.1 = _; rw [a2, e3]
    have r0 : erM B (P.length : Int) 0 = 0 := by unfold erM; rw [a0, e1]
    have r1 : erM B (P.length : Int) 1 = 0 := by unfold erM; rw [a1, e2]
    have r2 : erM B (P.length : Int) 2 = 0 := by unfold erM; rw [a2, e3]
    have x0 : txM B (P.length : Int) 0 = s := by unfold txM; rw [a0, e1]
    have x1 : txM B (P.length : Int) 1 = t := by unfold txM; rw [a1, e2]
    have x2 : txM B (P.length : Int) 2 = u := by unfold txM; rw [a2, e3]
    have hm : getM k B (P.length : Int) = (⟨k, 0, s, t, u⟩, (N : Int), 0) := by
      rw [getM_ok (fun i hi => by
        match i, hi with
        | 0, _ => exact r0
        | 1, _ => exact r1
        | 2, _ => exact r2), x0, x1, x2, a3]
    have e4 : firstC k B (P.length : Int) = (⟨k, 0, s, t, u⟩, (N : Int), 0) := by
      unfold firstC
      rw [if_neg (by omega), if_neg (by omega), if_neg (by omega)]
      exact hm
    rw [e4, fin_yes h]

end
open Go.RowKit Base BinM Stru BinE BinGet BinText BinPut Bin8 Part PoolM PoolD PoolT PutN PutM KlsD KlsY
/-- Const structs in a row of the call's own -/
def OwnConst (w : World) (base : Nat) (v : Value) (l : List Cst) : Prop := w.ownsRow base 40 5 v l.length (l.flatMap Cst.vals)
theorem OwnConst.nil (w : World) (base : Nat) : OwnConst w base (.slice none 0 0) [] := World.ownsRow_nil _ _ _ _
theorem infoConst : (Tryz.prog.info? 40).map (fun i => (i.zero, i.size, i.bytes)) = some (some (.agg #[.int .i64 0, .int .i64 0, .string ⟨#[]⟩, .string ⟨#[]⟩, .string ⟨#[]⟩]), 5, 64) := by kernel_rfl
theorem oneConst {l : List Cst} : ∀ u ∈ l.flatMap Cst.vals, u.oneCell' = true := by
  intro u hu
  obtain ⟨c, _, hc⟩ := List.mem_flatMap.1 hu
  simp only [Cst.vals, List.mem_cons, List.mem_nil_iff, or_false] at hc
  rcases hc with rfl | rfl | rfl | rfl | rfl <;> rfl
theorem appConst {ops : Array Oper} {rest : List Oper} {o : Oper} {a : Act} {w : World} {Q : Exit → Act → World → Prop} (hgd : o.guard = none) (s x : Operand)
    (ho : o.op = .call { callee := .builtin .append, args := #[s, x], argTypes := #[22, 22] })
    (base : Nat) (v : Value) (p : List Cst) (hs : a.eval s = v) (hown : OwnConst w base v p) (A : Option Addr) (m c : Nat) (l : List Cst) (hx : a.eval x = .slice A m c)
    (hm : m = l.length) (hr : Rds w A (l.flatMap Cst.vals)) (hlen : p.length + l.length ≤ 100000) (hbase : base ≤ w.heap.size)
    (h : ∀ v' w', OwnConst w' base v' (p ++ l) → w.grownBy w' v.ownBlock → wpList Tryz.prog ops Q rest (a.put o.dst v') w') : wpList Tryz.prog ops Q (o :: rest) a w := by
  obtain ⟨i0, hi, hz, hs1, hb1⟩ := info_parts infoConst
  refine wpList_append_rdsN hgd s x 22 ho base 40 i0 _ 5 64 Tryz.underlying22 hi hz hs1 hb1 rfl (by omega) v p.length (p.flatMap Cst.vals) hs hown A m c (l.flatMap Cst.vals) hx (by rw [flat_len Cst.vals 5 (fun _ => rfl), hm]) hr oneConst (by unfold maxLen; omega) (by omega) hbase ?_
  intro v' w' h1 h2
  refine h v' w' ?_ h2
  unfold OwnConst
  rw [List.flatMap_append, List.length_append, ← hm]
  exact h1


theorem rds_new2' (w : World) (C C' : Array Value) (ty ty' : TypeId) : Rds ((w.alloc (.cells C ty)).alloc (.cells C' ty')) (some ⟨w.heap.size + 1, 0, none⟩) C'.toList := by
  have := rds_new (w.alloc (.cells C ty)) C' ty'
  simpa using this
theorem const_ok {ks : List Cst} (h : (allC [] ks).2 = 0) : constB ks = num (ks.length : Int) ++ ks.flatMap bytesC ∧ ks.length ≤ 256 ∧ (∀ c ∈ ks, rightC c = true) ∧ ks.Nodup := by
  unfold constB
  unfold allC at h ⊢
  split at h
  · cases h
  · rename_i h1
    split at h
    · rename_i h2
      split at h
      · rename_i h3
        rw [if_neg h1, if_pos h2, if_pos h3]
        exact ⟨by simp, by omega, fun c hc => List.all_eq_true.1 h2 c hc, h3⟩
      · cases h
    · cases h

set_option maxRecDepth 100000 in
set_option maxHeartbeats 8000000 in
theorem getAll_any (A : Option Addr) (l : List UInt8) (n cap : Nat) (pre rest : List UInt8) (ks : List Cst) (w : World) (hn : n = l.length) (hnc : n ≤ cap) (hm : cap ≤ maxLen) (hr : Rds w A (cells8 l)) (hlen : l.length ≤ 100000)
    (hl : l = pre ++ (constB ks ++ rest)) (hk : (allC [] ks).2 = 0) (hf : ∀ x ∈ ks, fitI x.kind ∧ fitI x.n) :
    Calls Tryz.prog 106 #[.slice A n cap, .int .i64 (pre.length : Int)] w fun e w' => ∃ v, e = .returned (.tuple #[v, .int .i64 ((pre ++ constB ks).length : Int), .int .i64 0]) ∧ OwnConst w' w.heap.size v ks ∧ Below w.heap.size w w' := by
  obtain ⟨hb, hkl, hri, hnd⟩ := const_ok hk
  rw [hb] at hl ⊢
  have hl1 : l = pre ++ (num (ks.length : Int) ++ (ks.flatMap bytesC ++ rest)) := by rw [hl]; simp only [List.append_assoc]
  have hl2 : l = (pre ++ num (ks.length : Int)) ++ (ks.flatMap bytesC ++ rest) := by rw [hl]; simp only [List.append_assoc]
  have hpl : pre.length ≤ l.length := by rw [hl]; simp only [List.length_append]; omega
  have hget := get_any A l n cap (pre.length : Int) w hn (Nat.le_trans hnc hm) (by omega) (by omega) hr
  rw [show getS l (pre.length : Int) = ((ks.length : Int), ((pre ++ num (ks.length : Int)).length : Int), 0) by rw [hl1]; exact getS_numr (by omega) (by omega) _ _] at hget
  unfold three at hget
  have Hget := Lib.hid hget
  rw [show pre ++ (num (ks.length : Int) ++ ks.flatMap bytesC) = (pre ++ num (ks.length : Int)) ++ ks.flatMap bytesC by simp only [List.append_assoc]]
  generalize pre ++ num (ks.length : Int) = P at *
  have Hstep := Lib.hid (fun (j : Nat) (hj : j < ks.length) (W : World) (hbW : Below w.heap.size w W) => show Calls Tryz.prog 140 #[.slice A n cap, .int .i64 ((P ++ (ks.take j).flatMap bytesC).length : Int)] W (PoolS.GivesC W (ks[j], ((P ++ (ks.take (j + 1)).flatMap bytesC).length : Int), 0)) by
    have h1 := poolGet_any A l n cap ((P ++ (ks.take j).flatMap bytesC).length : Int) W hn hnc hm (by omega) (by have := len_take hl2 j; omega) (hr.below hbW)
    have h2 := get_back_r (hri _ (List.getElem_mem hj)) (hf _ (List.getElem_mem hj)).2 (P ++ (ks.take j).flatMap bytesC) ((ks.drop (j + 1)).flatMap bytesC ++ rest)
    rw [show (P ++ (ks.take j).flatMap bytesC) ++ (bytesC ks[j] ++ ((ks.drop (j + 1)).flatMap bytesC ++ rest)) = l by
      rw [hl2, flat_split bytesC ks j hj]; simp only [List.append_assoc]] at h2
    rw [h2] at h1
    rw [flat_succ bytesC ks j hj, ← List.append_assoc]
    exact h1)
  have Htwo := Lib.hid (fun (W : World) (v : Value) (ho : OwnConst W w.heap.size v ks) => show ∃ A c, v = .slice A ks.length c ∧ IsCsts W A ks.length c ks by
    obtain ⟨A, c, rfl, h1, h2, _, _⟩ := own_slice ho
    exact ⟨A, c, rfl, ⟨rfl, h1, h2, Rds.ownN ho, hf⟩⟩)
  have Hnd := Lib.hid (show (!decide ks.Nodup) = false by simp [hnd])
  clear hget hn hnc hm hr hlen hl hk hf hri hnd hl1 hl2 hb hpl
  obtain ⟨QQ, hQQ⟩ : ∃ q : Nat, q = (P ++ ks.flatMap bytesC).length := ⟨_, rfl⟩
  rw [← hQQ]
  have HQQ := Lib.hid hQQ
  clear hQQ
  go_enter Tryz.func106, Tryz.ntmps106
  go_wp2_with fail
  refine Calls.mono Hget.out ?_
  rintro ee w3 ⟨rfl, rfl⟩
  have hd1 : decide ((ks.length : Int) < 0) = false := decide_eq_false (by omega)
  have hd2 : decide ((256 : Int) < (ks.length : Int)) = false := decide_eq_false (by omega)
  have hd3 : ¬ (ks.length : Int) < 0 := by omega
  have hd4 : ¬ (256 : Int) < (ks.length : Int) := by omega
  go_wp2_with fail
  clear hd1 hd2 hd3 hd4
  go_loopw [1, 9, 10, 11, 12, 30] (fun a v _ _ _ i wr => ∃ j : Nat, j ≤ ks.length ∧ i = .int .i64 j ∧ a = .int .i64 ((P ++ (ks.take j).flatMap bytesC).length : Int) ∧ OwnConst wr w.heap.size v (ks.take j) ∧ Below w.heap.size w wr) (fun _ _ _ _ _ i _ => ks.length - (intOf i).toNat)
  case atStart => exact ⟨0, Nat.zero_le _, rfl, by rw [List.take_zero, List.flatMap_nil, List.append_nil], OwnConst.nil _ _, Below.refl _ _⟩
  case round =>
    obtain ⟨j, hj, rfl, rfl, hown, hbel⟩ := hrel
    have Hown := Lib.hid hown
    have Hbel := Lib.hid hbel
    have hsz := hbel.size
    clear hown hbel
    by_cases hlt : j < ks.length
    · have hc := Hstep.out j hlt wr Hbel.out
      have Ht := Lib.hid (show ks.take (j + 1) = ks.take j ++ [ks[j]] from List.take_succ_eq_append_getElem hlt)
      have hj1 : (j : Int) < (ks.length : Int) := by omega
      generalize ks[j] = x at *
      generalize (P ++ (ks.take j).flatMap bytesC).length = p0 at *
      generalize hp1 : (P ++ (ks.take (j + 1)).flatMap bytesC).length = p1 at *
      have Hp1 := Lib.hid hp1
      clear hp1
      obtain ⟨x0, x1, x2, x3, x4⟩ := x
      have Hc := Lib.hid hc
      clear hc
      go_wp2_with fail
      refine Calls.mono Hc.out ?_
      unfold PoolS.GivesC PoolS.cst3 PoolA.cstV
      rintro e w5 ⟨rfl, hb5⟩
      have B5 := Lib.hid (Hbel.out.trans (hb5.mono hsz))
      have O5 := Lib.hid (own_below' Hown.out hb5)
      have hs5 := B5.out.size
      clear hb5
      go_wp2_with (at_builtin
                   have HB := (pair w5 #[.int .i64 x0, .int .i64 x1, .string ⟨x2.toArray⟩, .string ⟨x3.toArray⟩, .string ⟨x4.toArray⟩] #[.int .i64 x0, .int .i64 x1, .string ⟨x2.toArray⟩, .string ⟨x3.toArray⟩, .string ⟨x4.toArray⟩] 40 40).2.2
                   have hrd := rds_new2' w5 #[.int .i64 x0, .int .i64 x1, .string ⟨x2.toArray⟩, .string ⟨x3.toArray⟩, .string ⟨x4.toArray⟩] #[.int .i64 x0, .int .i64 x1, .string ⟨x2.toArray⟩, .string ⟨x3.toArray⟩, .string ⟨x4.toArray⟩] 40 40
                   refine appConst rfl (.tmp 42) (.tmp 44) rfl w.heap.size _ (ks.take j) rfl (own_below' O5.out HB) (some ⟨w5.heap.size + 1, 0, none⟩) 1 1 [⟨x0, x1, x2, x3, x4⟩] rfl rfl hrd (by simp; omega) (by simp; omega) ?_
                   intro v7 w7 hown7 hg7
                   have B7 := Lib.hid (B5.out.trans ((HB.mono hs5).trans (below_own (B := w.heap.size) (Below.refl _ _) (own_below' O5.out HB) (Nat.le_refl _) (by simp; omega) hg7)))
                   have O7 := Lib.hid hown7
                   clear hown7 hg7 HB hrd)
      go_roundw
      case rel => exact ⟨j + 1, by omega, by go_num, by rw [Hp1.out], by rw [Ht.out]; exact O7.out, B7.out⟩
      case measure => simp [intOf]; omega
    · have e : ks.take j = ks := List.take_of_length_le (by omega)
      rw [e] at Hown
      obtain ⟨Av, cv, rfl, hIs⟩ := Htwo.out _ _ Hown.out
      rw [e, ← HQQ.out]
      have HIs := Lib.hid hIs
      clear hIs
      go_wp2_with fail
      refine Calls.mono (PutM.twoAlike_any Av ks ks.length cv wr HIs.out) ?_
      rw [Hnd.out]
      rintro e9 w9 ⟨rfl, hb9⟩
      have O9 := Lib.hid (own_below' Hown.out hb9)
      have B9 := Lib.hid (Hbel.out.trans (hb9.mono hsz))
      clear hb9
      go_wp2_with fail
      go_ret3
      exact ⟨_, rfl, O9.out, B9.out⟩

end KlsS
end Go.Proofs.YthkkcecfenohjaaGreatDoor
