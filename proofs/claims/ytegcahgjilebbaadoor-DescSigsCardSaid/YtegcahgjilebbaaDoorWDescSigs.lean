/-
  The law DescSigs, walked: for all texts it returns true, and nothing that was there is written.
-/
import Derived.Test.YtegcahgjilebbaaDoorDescL
namespace Go.Proofs.YtegcahgjilebbaaDoor
namespace WDescSigs
open Go.RowKit BinM DescM DescW DescX DescR DescS DescG DescP DescQ DescL Base
open DescK (known_any)

set_option maxHeartbeats 4000000 in
theorem walk (a0 : ByteArray) (a1 : Option Addr) (m1 c1 : Nat) (l1 : List ByteArray) (a2 : ByteArray) (w : World) (b0 : a0.size ≤ 140737488351232) (w1 : IsStrs w a1 m1 c1 l1) (b1 : ∀ s ∈ l1, s.size ≤ 140737488351232) (b2 : a2.size ≤ 140737488351232) :
    Calls Tryd.prog 5 #[.string a0, .slice a1 m1 c1, .string a2] w fun e w' => e = .returned (.bool true) ∧ Below w.heap.size w w' := by
  obtain ⟨g, rfl⟩ : ∃ l : List UInt8, a0 = ⟨l.toArray⟩ := ⟨a0.data.toList, (Lib.mk_data a0).symm⟩
  obtain ⟨sig, rfl⟩ : ∃ l : List UInt8, a2 = ⟨l.toArray⟩ := ⟨a2.data.toList, (Lib.mk_data a2).symm⟩
  rw [size_mk] at b0 b2
  obtain ⟨ts, hm, hmc, hmx, hr, hts⟩ := texts_in2 w1 b1
  have Hm := Lib.hid hm
  clear w1 b1 hm
  have htl : ∀ t ∈ ts, t.length ≤ 140737488355327 := fun t ht => by have := hts t ht; omega
  obtain ⟨st, sn, hS⟩ : ∃ a b, sigT g ts = (a, b) := ⟨_, _, rfl⟩
  have HS := Lib.hid hS
  obtain ⟨pg, pl, pn, hP⟩ : ∃ a b c, splitT sig = (a, b, c) := ⟨_, _, _, rfl⟩
  have HP := Lib.hid hP
  clear hS hP
  go_enter Tryd.func5, Tryd.ntmps5
  go_wp2_with fail
  refine (sig_any g a1 ts m1 c1 w (by omega) Hm.out hmc hr htl).mono ?_
  rw [HS.out]
  unfold twoI
  rintro e w1 ⟨rfl, hb1⟩
  have Hb1 := Lib.hid hb1
  have hs1 := hb1.size
  clear hb1
  go_wp2_with fail
  refine (refSig_any g a1 ts m1 c1 w1 (by omega) Hm.out hmx (hr.below Hb1.out) htl).mono ?_
  rw [HS.out]
  unfold twoI
  rintro e w' ⟨rfl, rfl⟩
  go_wp2_with fail
  refine (split_any sig w1 (by omega)).mono ?_
  rw [HP.out]
  unfold GivesS
  rintro e w2 ⟨v, rfl, hv, hb2⟩
  obtain ⟨A, cA, rfl, hA1, hA2, hA3, _⟩ := hv.slice
  have Hb2 := Lib.hid (Hb1.out.trans (hb2.mono hs1))
  have hs2 : w.heap.size ≤ w2.heap.size := Hb2.out.size
  clear hb2 hv
  unfold str
  go_wp2_with fail
  refine (refSplit_any sig w2 (by omega)).mono ?_
  rw [HP.out]
  unfold GivesS
  rintro e w3 ⟨v, rfl, hv, hb3⟩
  obtain ⟨B, cB, rfl, hB1, hB2, hB3, _⟩ := hv.slice
  have hA4 := hA3.below hb3
  have Hb3 := Lib.hid (Hb2.out.trans (hb3.mono hs2))
  have hs3 : w.heap.size ≤ w3.heap.size := Hb3.out.size
  clear hb3 hv hA3
  unfold str
  obtain ⟨mA, hmA⟩ : ∃ m, m = pl.length := ⟨_, rfl⟩
  rw [← hmA] at hA1 hB1 ⊢
  have HmA := Lib.hid hmA
  clear hmA
  go_wp2_with fail
  refine (texts_any A B pl pl mA mA cA cB w3 HmA.out HmA.out (by omega) hA4 hB3).mono ?_
  rw [show decide (pl = pl) = true from decide_eq_true rfl]
  rintro e w4 ⟨rfl, hb4⟩
  have Hb4 := Lib.hid (Hb3.out.trans (hb4.mono hs3))
  have hs4 : w.heap.size ≤ w4.heap.size := Hb4.out.size
  clear hb4
  go_wp2_with fail
  refine (known_any _).mono ?_
  rintro e w5 ⟨rfl, hb5⟩
  have Hb5 := Lib.hid (Hb4.out.trans (hb5.mono hs4))
  clear hb5
  go_wp2_with fail
  go_ret
  exact ⟨rfl, Hb5.out⟩

end WDescSigs
end Go.Proofs.YtegcahgjilebbaaDoor
