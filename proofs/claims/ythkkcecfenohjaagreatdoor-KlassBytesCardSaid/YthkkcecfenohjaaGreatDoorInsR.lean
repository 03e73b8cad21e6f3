/-
  The document's own Put of code, walked.
-/
import Derived.Test.YthkkcecfenohjaaGreatDoorPutR
namespace Go.Proofs.YthkkcecfenohjaaGreatDoor
namespace InsR
open Go.RowKit InsM Base InsA InsB Stru InsC BinM BinE BinPut Bin8 BinAll InsP
open RefPut (refPut_any)

/-- the loop's way -/
def Rel (w : World) (b : List UInt8) (l : List InsT) (o i : Value) (wr : World) : Prop :=
  ∃ k : Nat, k ≤ l.length ∧ i = .int .i64 k ∧ (∀ j (hj : j < l.length), j < k → putOk l[j] = true) ∧ Own8 wr w.heap.size o (b ++ nums (codeN l.length (l.take k))) ∧ Below w.heap.size w wr

theorem nums_app (a b : List Int) : nums (a ++ b) = nums a ++ nums b := by simp [nums]

theorem take_fit {l : List InsT} (hfit : ∀ x ∈ l, fitI x.1 ∧ fitI x.2) (k : Nat) : ∀ x ∈ l.take k, fitI x.1 ∧ fitI x.2 := fun x hx => hfit x (List.mem_of_mem_take hx)

set_option maxRecDepth 100000 in
set_option maxHeartbeats 4000000 in
theorem refInsPut_any (B : Option Addr) (mb cb : Nat) (b : List UInt8) (A : Option Addr) (m c : Nat) (l : List InsT) (w : World) (hbm : mb = b.length) (hbr : Rds w B (cells8 b)) (hbl : mb ≤ 140737489388000) (h : IsCode w A m c l) :
    Calls Tryz.prog 57 #[.slice B mb cb, .slice A m c] w (Gives8N w (putI b l)) := by
  obtain ⟨hm, hle, hmx, hr, hfit⟩ := h
  have hml : l.length ≤ m := Nat.le_of_eq hm.symm
  have hml2 : m ≤ l.length := Nat.le_of_eq hm
  have hbl2 : b.length ≤ mb := Nat.le_of_eq hbm.symm
  unfold maxLen at hmx
  have Hbm := Lib.hid hbm
  have Hbr := Lib.hid hbr
  have Hr := Lib.hid hr
  have Hm := Lib.hid hm
  have Hfit := Lib.hid hfit
  clear hm hr hbm hbr hfit
  by_cases hs : 512 < l.length
  · have H := Lib.hid (put_size (b := b) hs)
    have hs' : 512 < m := by omega
    go_enter Tryz.func57, Tryz.ntmps57
    go_wp2
    go_ret2
    exact gives8N H.out (Own8.nil _ _) (Below.refl _ _)
  · have hs' : ¬ 512 < m := by omega
    have hl5 : l.length ≤ 512 := by omega
    go_enter Tryz.func57, Tryz.ntmps57
    go_wp2_with fail
    refine (refPut_any B b mb cb (m : Int) w Hbm.out (by omega) (by omega) (by omega) Hbr.out).mono ?_
    rintro e w0 ⟨v0, rfl, hown0, hb0⟩
    have Hown0 : Hid (Own8 w0 w.heap.size v0 (b ++ num (m : Int))) := Lib.hid hown0
    have Hb0 := Lib.hid hb0
    have hsz0 := hb0.size
    clear hown0 hb0
    go_wp2_with fail
    go_loopw [6, 7, 8] (fun o i _ wr => Rel w b l o i wr) (fun _ i _ _ => m - (intOf i).toNat)
    case atStart => exact ⟨0, Nat.zero_le _, rfl, fun j _ hj => absurd hj (by omega), by have := Hown0.out; rw [Hm.out] at this; simpa [codeN, nums] using this, Hb0.out⟩
    case round =>
      obtain ⟨k, hk, rfl, hb, hown, hbel⟩ := hrel
      have Hb := Lib.hid hb
      have Hbel := Lib.hid hbel
      have hsz := hbel.size
      by_cases hlt : k < l.length
      · obtain ⟨bb, o, rfl, hbk, hc0', hc1'⟩ := code_at (Hr.out.below hbel) hlt
        have hcl : (b ++ nums (codeN l.length (l.take k))).length ≤ mb + 10250 := by
          have h1 := codeN_len l.length (l.take k)
          have h2 : (l.take k).length ≤ k := by simp; omega
          have h3 := nums_len _ (codeN_fit (n := l.length) hl5 (take_fit Hfit.out k))
          rw [List.length_append]
          omega
        have hnum := codeN_take (n := l.length) hlt
        have Hct := Lib.hid (show b ++ nums (codeN l.length (l.take (k + 1))) = (b ++ nums (codeN l.length (l.take k))) ++ nums (insN l[k]) by rw [hnum, nums_app, List.append_assoc])
        have Hbad := Lib.hid (fun hbad : putOk l[k] = false => put_bad (b := b) hs hlt hbad)
        have Hgood := Lib.hid (fun hgood : putOk l[k] = true => (show (∀ j (hj : j < l.length), j < k + 1 → putOk l[j] = true) from fun j hj hjk => by
          rcases Nat.lt_succ_iff_lt_or_eq.1 hjk with h | h
          · exact Hb.out j hj h
          · subst h; exact hgood))
        have hxf := Hfit.out l[k] (List.getElem_mem hlt)
        clear hb hbel hnum
        generalize hx : l[k] = x at *
        obtain ⟨op, a⟩ := x
        clear hx
        obtain ⟨⟨ho0, ho1⟩, hf0, hf1⟩ := hxf
        simp only at hc0' hc1' ho0 ho1 hf0 hf1
        have hcases := ok_cases op a
        generalize hpp : b ++ nums (codeN l.length (l.take k)) = p at *
        obtain ⟨A6, c6, rfl, h61, h62, hr6, _⟩ := Own8.slice hown
        have Hr6 := Lib.hid hr6
        have Hown := Lib.hid hown
        generalize hqp : p.length = qp at *
        have Hqp := Lib.hid hqp
        have Hpp := Lib.hid hpp
        clear hpp hqp hr6 hown
        obtain ⟨K, hK⟩ : ∃ K, K = kindI op := ⟨_, rfl⟩
        rw [← hK] at hcases
        have HK := Lib.hid hK
        clear hK
        go_wp2_with fail
        refine (refKind_any _ _).mono ?_
        rw [← HK.out]
        rintro e w1 ⟨rfl, hb1⟩
        have hc0 : w1.cell? ⟨bb, o + k * 2, none⟩ = some (.int .i64 op) := (hb1.cell (p := ⟨bb, o + k * 2, none⟩) hbk).trans hc0'
        have hc1 : w1.cell? ⟨bb, o + k * 2 + 1, none⟩ = some (.int .i64 a) := (hb1.cell (p := ⟨bb, o + k * 2 + 1, none⟩) hbk).trans hc1'
        have hbk1 : bb < w1.heap.size := Nat.lt_of_lt_of_le hbk hb1.size
        have Hb1 := Lib.hid (Hbel.out.trans (hb1.mono hsz))
        have hsz1 := Hb1.out.size
        have Hr61 := Lib.hid (Hr6.out.below hb1)
        clear hb1 hc0' hc1'
        rcases hcases with ⟨rfl, hok⟩ | ⟨hK0, hK7, ha, hok⟩ | ⟨rfl, ha, hok⟩ | ⟨rfl, rfl, hok, hin⟩ | ⟨hK0, hK7, ha, hok, hin⟩
        · have H := Lib.hid (Hbad.out hok)
          clear hok hs
          go_wp2_with fail
          go_ret2
          exact gives8N H.out (Own8.nil _ _) Hb1.out
        · have H := Lib.hid (Hbad.out hok)
          have g2 : decide (a < 0) = true := decide_eq_true ha
          clear hok hs
          go_wp2_with fail
          go_ret2
          exact gives8N H.out (Own8.nil _ _) Hb1.out
        · have H := Lib.hid (Hbad.out hok)
          have g2 : ¬ a < 0 := by omega
          have g3 : (a != 0) = true := by simp; omega
          clear hok hs
          go_wp2_with fail
          go_ret2
          exact gives8N H.out (Own8.nil _ _) Hb1.out
        · have H := Lib.hid (Hgood.out hok)
          have Hin := Lib.hid hin
          clear hok hin hs
          go_wp2_with fail
          refine (refPut_any A6 p qp c6 op w1 Hqp.out.symm (by omega) ho0 ho1 Hr61.out).mono ?_
          rintro e w2 ⟨v2, rfl, hown2, hb2⟩
          have Hown2 := Lib.hid (own_mono hown2 hsz1)
          have Hb2 := Lib.hid (Hb1.out.trans (hb2.mono hsz1))
          clear hown2 hb2
          go_wp2_with fail
          go_roundw
          case rel => exact ⟨k + 1, by omega, by go_num, H.out, by rw [Hct.out, Hin.out]; have := Hown2.out; simpa [nums, Own8] using this, Hb2.out⟩
          case measure => simp [intOf]; omega
        · have H := Lib.hid (Hgood.out hok)
          have Hin := Lib.hid hin
          have g1 : ¬ K < 0 := by omega
          have g2 : ¬ a < 0 := by omega
          have g3 : (K == 0) = false := by simp; omega
          clear hok hin hs
          go_wp2_with fail
          refine (refPut_any A6 p qp c6 op w1 Hqp.out.symm (by omega) ho0 ho1 Hr61.out).mono ?_
          rintro e w2 ⟨v2, rfl, hown2, hb2⟩
          have hk10 := (num_can ho0 ho1).2.2
          obtain ⟨A7, c7, rfl, h71, h72, hr7, _⟩ := Own8.slice (base := w1.heap.size) hown2
          have hc12 : w2.cell? ⟨bb, o + k * 2 + 1, none⟩ = some (.int .i64 a) := (hb2.cell (p := ⟨bb, o + k * 2 + 1, none⟩) hbk1).trans hc1
          have Hr7 := Lib.hid hr7
          have Hb2 := Lib.hid (Hb1.out.trans (hb2.mono hsz1))
          have hsz2 := Hb2.out.size
          generalize hq7 : (p ++ num op).length = q7 at *
          have Hq7 := Lib.hid hq7
          have hq7l : q7 ≤ qp + 10 := by rw [← hq7, List.length_append, Hqp.out]; omega
          clear hown2 hb2 hr7 hq7
          go_wp2_with fail
          refine (refPut_any A7 (p ++ num op) q7 c7 a w2 Hq7.out.symm (by omega) hf0 hf1 Hr7.out).mono ?_
          rintro e w3 ⟨v3, rfl, hown3, hb3⟩
          have Hown3 := Lib.hid (own_mono hown3 hsz2)
          have Hb3 := Lib.hid (Hb2.out.trans (hb3.mono hsz2))
          clear hown3 hb3
          go_wp2_with fail
          go_roundw
          case rel => exact ⟨k + 1, by omega, by go_num, H.out, by rw [Hct.out, Hin.out]; have := Hown3.out; simpa [nums, Own8] using this, Hb3.out⟩
          case measure => simp [intOf]; omega
      · have e : l.take k = l := List.take_of_length_le (by omega)
        have H := Lib.hid (put_good (b := b) hs (fun j hj => Hb.out j hj (by omega)))
        rw [e] at hown
        have Hown := Lib.hid hown
        clear hown hb hbel e hs
        go_wp2_with fail
        go_ret2
        exact gives8N H.out Hown.out Hbel.out

end InsR
end Go.Proofs.YthkkcecfenohjaaGreatDoor
