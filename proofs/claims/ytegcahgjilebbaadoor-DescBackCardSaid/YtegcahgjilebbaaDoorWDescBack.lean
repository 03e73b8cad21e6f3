/-
  The law DescBack, walked: for all texts it returns true, and nothing that was there is written.
-/
import Derived.Test.YtegcahgjilebbaaDoorDescB
namespace Go.Proofs.YtegcahgjilebbaaDoor
namespace WDescBack
open Go.RowKit BinM DescM DescW DescX DescR DescS DescG DescP DescQ DescL DescB Base
open DescK (known_any)

set_option maxHeartbeats 4000000 in
theorem walk (a0 : ByteArray) (a1 : Option Addr) (m1 c1 : Nat) (l1 : List ByteArray) (a2 : ByteArray) (w : World) (b0 : a0.size ≤ 140737488351232) (w1 : IsStrs w a1 m1 c1 l1) (b1 : ∀ s ∈ l1, s.size ≤ 140737488351232) (b2 : a2.size ≤ 140737488351232) :
    Calls Tryd.prog 6 #[.string a0, .slice a1 m1 c1, .string a2] w fun e w' => e = .returned (.bool true) ∧ Below w.heap.size w w' := by
  obtain ⟨g, rfl⟩ : ∃ l : List UInt8, a0 = ⟨l.toArray⟩ := ⟨a0.data.toList, (Lib.mk_data a0).symm⟩
  obtain ⟨sig, rfl⟩ : ∃ l : List UInt8, a2 = ⟨l.toArray⟩ := ⟨a2.data.toList, (Lib.mk_data a2).symm⟩
  rw [size_mk] at b0 b2
  obtain ⟨ts, hm, hmc, hmx, hr, hts⟩ := texts_in2 w1 b1
  have Hm := Lib.hid hm
  clear w1 b1 hm
  have htl : ∀ t ∈ ts, t.length ≤ 140737488355327 := fun t ht => by have := hts t ht; omega
  obtain ⟨pg, pl, pn, hP⟩ : ∃ a b c, splitT sig = (a, b, c) := ⟨_, _, _, rfl⟩
  have HP := Lib.hid hP
  have HB := Lib.hid (show pn = 0 → sigT pg pl = (sig, 0) ∧ pg.length ≤ 140737488355327 ∧ ∀ t ∈ pl, t.length ≤ 140737488355327 from fun h => by
    subst h
    obtain ⟨_, _, ha, hg⟩ := split_parts hP
    exact ⟨split_sig hP, by have := given_len hg; omega, fun t ht => by have := right_len (List.all_eq_true.1 ha t ht); omega⟩)
  clear hP
  obtain ⟨st, sn, hS⟩ : ∃ a b, sigT g ts = (a, b) := ⟨_, _, rfl⟩
  have HS := Lib.hid hS
  cases hn : sn == 0
  · clear hS
    go_enter Tryd.func6, Tryd.ntmps6
    go_wp2_with fail
    refine (sig_any g a1 ts m1 c1 w (by omega) Hm.out hmc hr htl).mono ?_
    rw [HS.out]
    unfold twoI
    rintro e w1 ⟨rfl, hb1⟩
    have Hb := Lib.hid hb1
    have hs := hb1.size
    clear hb1
    go_wp2_with fail
    refine (split_any sig w1 (by omega)).mono ?_
    rw [HP.out]
    unfold GivesS
    rintro e w2 ⟨v, rfl, hv, hb2⟩
    obtain ⟨A, cA, rfl, hA1, hA2, hA3, _⟩ := hv.slice
    have Hb2 := Lib.hid (Hb.out.trans (hb2.mono hs))
    have hs2 : w.heap.size ≤ w2.heap.size := Hb2.out.size
    clear hb2 hv
    unfold str
    obtain ⟨mA, hmA⟩ : ∃ m, m = pl.length := ⟨_, rfl⟩
    rw [← hmA] at hA1 ⊢
    have HmA := Lib.hid hmA
    clear hmA
    cases hpn : pn == 0
    · have hpn2 : (pn != 0) = true := by rw [bne, hpn]; rfl
      go_wp2_with fail
      refine (known_any _).mono ?_
      rintro e w5 ⟨rfl, hb5⟩
      have Hb5 := Lib.hid (Hb2.out.trans (hb5.mono hs2))
      clear hb5
      go_wp2_with fail
      go_ret
      exact ⟨rfl, Hb5.out⟩
    · obtain rfl := eq_of_beq hpn
      obtain ⟨hB1, hB2, hB3⟩ := HB.out rfl
      have HB1 := Lib.hid hB1
      clear hB1 hpn
      go_wp2_with fail
      refine (sig_any pg A pl mA cA w2 hB2 HmA.out hA1 hA3 hB3).mono ?_
      rw [HB1.out]
      unfold twoI
      rintro e w3 ⟨rfl, hb3⟩
      have Hb3 := Lib.hid (Hb2.out.trans (hb3.mono hs2))
      have hs3 : w.heap.size ≤ w3.heap.size := Hb3.out.size
      clear hb3
      go_wp2_with fail
      refine (known_any _).mono ?_
      rintro e w5 ⟨rfl, hb5⟩
      have Hb5 := Lib.hid (Hb3.out.trans (hb5.mono hs3))
      clear hb5
      go_wp2_with fail
      go_ret
      exact ⟨rfl, Hb5.out⟩
  · obtain rfl := eq_of_beq hn
    have HL := sig_len hS
    have HZ := Lib.hid (sig_split hS)
    clear hS hn
    go_enter Tryd.func6, Tryd.ntmps6
    go_wp2_with fail
    refine (sig_any g a1 ts m1 c1 w (by omega) Hm.out hmc hr htl).mono ?_
    rw [HS.out]
    unfold twoI
    rintro e w1 ⟨rfl, hb1⟩
    have Hb := Lib.hid hb1
    have hs := hb1.size
    clear hb1
    go_wp2_with fail
    refine (split_any st w1 (by omega)).mono ?_
    rw [HZ.out]
    unfold GivesS
    rintro e w4 ⟨v, rfl, hv, hb4⟩
    obtain ⟨B, cB, rfl, hC1, hC2, hC3, _⟩ := hv.slice
    have Hb4 := Lib.hid (Hb.out.trans (hb4.mono hs))
    have hs4 : w.heap.size ≤ w4.heap.size := Hb4.out.size
    have hr4 := hr.below Hb4.out
    clear hb4 hv Hb hs
    unfold str
    rw [← Hm.out] at hC1 ⊢
    go_wp2_with fail
    refine (texts_any B a1 ts ts m1 m1 cB c1 w4 Hm.out Hm.out hmx hC3 hr4).mono ?_
    rw [show decide (ts = ts) = true from decide_eq_true rfl]
    rintro e w6 ⟨rfl, hb6⟩
    have Hb := Lib.hid (Hb4.out.trans (hb6.mono hs4))
    have hs : w.heap.size ≤ w6.heap.size := Hb.out.size
    clear hb6
    go_wp2_with fail
    refine (split_any sig w6 (by omega)).mono ?_
    rw [HP.out]
    unfold GivesS
    rintro e w2 ⟨v, rfl, hv, hb2⟩
    obtain ⟨A, cA, rfl, hA1, hA2, hA3, _⟩ := hv.slice
    have Hb2 := Lib.hid (Hb.out.trans (hb2.mono hs))
    have hs2 : w.heap.size ≤ w2.heap.size := Hb2.out.size
    clear hb2 hv
    unfold str
    obtain ⟨mA, hmA⟩ : ∃ m, m = pl.length := ⟨_, rfl⟩
    rw [← hmA] at hA1 ⊢
    have HmA := Lib.hid hmA
    clear hmA
    cases hpn : pn == 0
    · have hpn2 : (pn != 0) = true := by rw [bne, hpn]; rfl
      go_wp2_with fail
      refine (known_any _).mono ?_
      rintro e w5 ⟨rfl, hb5⟩
      have Hb5 := Lib.hid (Hb2.out.trans (hb5.mono hs2))
      clear hb5
      go_wp2_with fail
      go_ret
      exact ⟨rfl, Hb5.out⟩
    · obtain rfl := eq_of_beq hpn
      obtain ⟨hB1, hB2, hB3⟩ := HB.out rfl
      have HB1 := Lib.hid hB1
      clear hB1 hpn
      go_wp2_with fail
      refine (sig_any pg A pl mA cA w2 hB2 HmA.out hA1 hA3 hB3).mono ?_
      rw [HB1.out]
      unfold twoI
      rintro e w3 ⟨rfl, hb3⟩
      have Hb3 := Lib.hid (Hb2.out.trans (hb3.mono hs2))
      have hs3 : w.heap.size ≤ w3.heap.size := Hb3.out.size
      clear hb3
      go_wp2_with fail
      refine (known_any _).mono ?_
      rintro e w5 ⟨rfl, hb5⟩
      have Hb5 := Lib.hid (Hb3.out.trans (hb5.mono hs3))
      clear hb5
      go_wp2_with fail
      go_ret
      exact ⟨rfl, Hb5.out⟩

end WDescBack
end Go.Proofs.YtegcahgjilebbaaDoor
