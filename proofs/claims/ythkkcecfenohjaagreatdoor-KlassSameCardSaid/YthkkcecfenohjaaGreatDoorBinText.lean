/-
  Texts as bytes, written and read, by the program and by the document's own answers: what each call returns.
-/
import Derived.Test.YthkkcecfenohjaaGreatDoorRefGet
namespace Go.Proofs.YthkkcecfenohjaaGreatDoor
namespace BinText
open Go.RowKit BinM BinNum Base BinE BinPut BinGet Bin8
open RefPut (refPut_any)
open RefGet (text_q)

/-- a text's bytes -/
def txt (s : List UInt8) : List UInt8 := num (s.length : Int) ++ s

theorem size_in {s : ByteArray} (h : s.size ≤ 140737488355328) : -9223372036854775808 ≤ (s.size : Int) ∧ (s.size : Int) ≤ 9223372036854775807 := by omega

theorem text_any (A : Option Addr) (l : List UInt8) (m cap : Nat) (s : ByteArray) (w : World) (hm : m = l.length) (hlen : m + 10 + s.size ≤ 140737488355328) (hr : Rds w A (cells8 l)) :
    Calls Tryz.prog 100 #[.slice A m cap, .string s] w (Gives8 w (l ++ txt s.data.toList)) := by
  have hs := size_in (s := s) (by omega)
  have hk := (num_can hs.1 hs.2).2.2
  have e : l ++ txt s.data.toList = (l ++ num (s.size : Int)) ++ s.data.toList := by unfold txt; simp
  rw [e]
  have hml : l.length ≤ m := Nat.le_of_eq hm.symm
  have Hm := Lib.hid hm
  have Hr := Lib.hid hr
  clear hm hr e
  go_enter Tryz.func100, Tryz.ntmps100
  go_wp2_with fail
  refine (put_any A l m cap (s.size : Int) w Hm.out (by omega) hs.1 hs.2 Hr.out).mono ?_
  rintro e w1 ⟨v, rfl, hown, hb⟩
  have hpl : (l ++ num (s.size : Int)).length ≤ m + 10 := by rw [List.length_append]; omega
  have Hown : Hid (Own8 w1 w.heap.size v (l ++ num (s.size : Int))) := Lib.hid hown
  have hsz := hb.size
  have Hb := Lib.hid hb
  clear hown hb
  go_wp2_with (at_builtin
               refine app8s rfl (.tmp 8) (.tmp 9) rfl w.heap.size v (l ++ num (s.size : Int)) rfl Hown.out s rfl (by omega) hsz ?_
               intro v2 w2 hown2 hg2
               have Hb2 := Lib.hid (own_below Hown.out Hb.out (Nat.le_refl _) hsz hg2)
               have Hown2 := Lib.hid hown2
               clear hown2 hg2)
  go_ret
  exact ⟨v2, rfl, Hown2.out, Hb2.out⟩

theorem refText_any (A : Option Addr) (l : List UInt8) (m cap : Nat) (s : ByteArray) (w : World) (hm : m = l.length) (hlen : m + 10 + s.size ≤ 140737488355328) (hr : Rds w A (cells8 l)) :
    Calls Tryz.prog 54 #[.slice A m cap, .string s] w (Gives8 w (l ++ txt s.data.toList)) := by
  have hs := size_in (s := s) (by omega)
  have hk := (num_can hs.1 hs.2).2.2
  have e : l ++ txt s.data.toList = (l ++ num (s.size : Int)) ++ s.data.toList := by unfold txt; simp
  rw [e]
  have hml : l.length ≤ m := Nat.le_of_eq hm.symm
  have Hm := Lib.hid hm
  have Hr := Lib.hid hr
  clear hm hr e
  go_enter Tryz.func54, Tryz.ntmps54
  go_wp2_with fail
  refine (refPut_any A l m cap (s.size : Int) w Hm.out (by omega) hs.1 hs.2 Hr.out).mono ?_
  rintro e w1 ⟨v, rfl, hown, hb⟩
  have hpl : (l ++ num (s.size : Int)).length ≤ m + 10 := by rw [List.length_append]; omega
  have Hown : Hid (Own8 w1 w.heap.size v (l ++ num (s.size : Int))) := Lib.hid hown
  have hsz := hb.size
  have Hb := Lib.hid hb
  clear hown hb
  go_wp2_with (at_builtin
               refine app8s rfl (.tmp 10) (.tmp 11) rfl w.heap.size v (l ++ num (s.size : Int)) rfl Hown.out s rfl (by omega) hsz ?_
               intro v2 w2 hown2 hg2
               have Hb2 := Lib.hid (own_below Hown.out Hb.out (Nat.le_refl _) hsz hg2)
               have Hown2 := Lib.hid hown2
               clear hown2 hg2)
  go_ret
  exact ⟨v2, rfl, Hown2.out, Hb2.out⟩

/-- what is read as a text: the text, the place behind it, the error's number -/
def getT (l : List UInt8) (a most : Int) : List UInt8 × Int × Int :=
  if (getS l a).2.2 ≠ 0 then ([], 0, (getS l a).2.2)
  else if (getS l a).1 < 0 ∨ most < (getS l a).1 then ([], 0, 6)
  else if (l.length : Int) - (getS l a).2.1 < (getS l a).1 then ([], 0, 4)
  else ((l.drop (getS l a).2.1.toNat).take (getS l a).1.toNat, (getS l a).2.1 + (getS l a).1, 0)

def threeT (r : List UInt8 × Int × Int) : Value := .tuple #[.string ⟨r.1.toArray⟩, .int .i64 r.2.1, .int .i64 r.2.2]
theorem ret3T {r : List UInt8 × Int × Int} {t : List UInt8} {b c : Int} (h : r = (t, b, c)) : Ending.returned (.tuple #[.string ⟨t.toArray⟩, .int .i64 b, .int .i64 c]) = .returned (threeT r) := by subst h; rfl

/-- what is read as a number has its place within the bytes, and is a number of 64 bits -/
theorem getS_ok {l : List UInt8} {a : Int} (h : (getS l a).2.2 = 0) : 0 ≤ (getS l a).2.1 ∧ (getS l a).2.1 ≤ l.length ∧ -9223372036854775808 ≤ (getS l a).1 ∧ (getS l a).1 ≤ 9223372036854775807 := by
  by_cases ho : a < 0 ∨ (l.length : Int) < a
  · rw [getS_out ho] at h; simp at h
  · obtain ⟨p, rfl⟩ : ∃ p : Nat, a = (p : Int) := ⟨a.toNat, by omega⟩
    have hp : p ≤ l.length := by omega
    have hle := lead_le (l.drop p)
    have hlen : (l.drop p).length = l.length - p := by simp
    by_cases h10 : 10 ≤ lead (l.drop p)
    · rw [getS_long hp h10] at h; simp at h
    · by_cases hs : (l.drop p).length ≤ lead (l.drop p)
      · rw [getS_short hp (by omega) hs] at h; simp at h
      · cases hL : lastI (((l.drop p)[lead (l.drop p)]'(by omega)).toNat : Int) (lead (l.drop p) : Int)
        · rw [getS_bad hp (by omega) (by omega) hL] at h; simp at h
        · have hg : (l.drop p).getD (lead (l.drop p)) 0 = (l.drop p)[lead (l.drop p)]'(by omega) := by rw [List.getD_eq_getElem?_getD, List.getElem?_eq_getElem (by omega)]; rfl
          have hv := (num_getL (l := l.drop p) (by omega) (by omega) (by rw [hg]; exact hL)).1
          rw [getS_good hp (by omega) (by omega) hL]
          have := unfold_in (u := ((val ((l.drop p).take (lead (l.drop p) + 1)) : Nat) : Int)) (by omega) (by omega)
          exact ⟨by simp; omega, by simp; omega, this.1, this.2⟩

/-- a number that was read is 64 bits long in any case -/
theorem getS_num {l : List UInt8} {a : Int} : -9223372036854775808 ≤ (getS l a).1 ∧ (getS l a).1 ≤ 9223372036854775807 := by
  by_cases h : (getS l a).2.2 = 0
  · exact (getS_ok h).2.2
  · have : (getS l a).1 = 0 := by
      unfold getS at h ⊢
      split
      · rfl
      · rename_i h1
        rw [if_neg h1] at h
        split
        · rename_i h2
          rw [if_pos h2] at h; simp at h
        · rfl
    rw [this]; omega

theorem cut_text {w : World} {A : Option Addr} {l : List UInt8} {n cap P V : Nat} (hn : n = l.length) (hnc : n ≤ cap) (hr : Rds w A (cells8 l)) (h : P + V ≤ n) :
    ∃ A', (∀ W, (Instr.slice 33 (.slice A n cap) (some (.int .i64 (P : Int))) (some (.int .i64 ((P : Int) + (V : Int)))) none).run Tryz.prog W = .ok (.slice A' V (cap - P)) W) ∧
      ∀ W, Below w.heap.size w W → (convert 33 9 (.slice A' V (cap - P))).run Tryz.prog W = .ok (.string ⟨((l.drop P).take V).toArray⟩) W := by
  refine ⟨if cap = P then A else A.map (·.add P), fun W => ?_, fun W hb => ?_⟩
  · rw [cut8 W A n cap (P : Int) ((P : Int) + (V : Int)) (by omega) (by omega) (by omega)]
    have e1 : ((P : Int)).toNat = P := by omega
    have e2 : ((P : Int) + (V : Int)).toNat = P + V := by omega
    rw [e1, e2]
    congr 2
    omega
  · refine text_q W (by simp; omega) ?_ (cap - P)
    have h1 : Rds w (if cap = P then A else A.map (·.add P)) ((cells8 l).drop P) := hr.drop (by rw [cells8_length]; omega)
    rw [cells8_drop] at h1
    have h2 := h1.take V
    rw [cells8_take] at h2
    exact h2.below hb

set_option maxRecDepth 100000 in
set_option maxHeartbeats 1000000 in
theorem getText_any (A : Option Addr) (l : List UInt8) (n cap : Nat) (a most : Int) (w : World) (hn : n = l.length) (hnc : n ≤ cap) (hm : cap ≤ maxLen) (ha0 : -9223372036854775808 ≤ a) (ha1 : a ≤ 9223372036854775807) (hr : Rds w A (cells8 l)) :
    Calls Tryz.prog 168 #[.slice A n cap, .int .i64 a, .int .i64 most] w fun e w' => e = .returned (threeT (getT l a most)) ∧ w = w' := by
  have hok := getS_ok (l := l) (a := a)
  have hT : getT l a most = getT l a most := rfl
  conv at hT => rhs; unfold getT
  generalize hG : getS l a = G at hok hT
  obtain ⟨v, pl, er⟩ := G
  simp only at hok hT
  have HG := Lib.hid hG
  have HT := Lib.hid hT
  have Hn := Lib.hid hn
  have hln : l.length ≤ n := Nat.le_of_eq hn.symm
  have hln2 : n ≤ l.length := Nat.le_of_eq hn
  have Hr := Lib.hid hr
  have Hok := Lib.hid hok
  have hm' : n ≤ maxLen := Nat.le_trans hnc hm
  unfold maxLen at hm
  clear hG hT hn hr hok
  by_cases h0 : er = 0
  · subst h0
    obtain ⟨k0, k1, k2, k3⟩ := Hok.out rfl
    obtain ⟨P, rfl⟩ : ∃ P : Nat, pl = (P : Int) := ⟨pl.toNat, by omega⟩
    by_cases h1 : v < 0 ∨ most < v
    · have Hfin := Lib.hid (show getT l a most = ([], 0, 6) by rw [HT.out, if_neg (by simp), if_pos h1])
      rcases h1 with h1 | h1
      · go_enter Tryz.func168, Tryz.ntmps168
        go_wp2_with (go_at_call 139; refine (get_any A l n cap a _ Hn.out hm' ha0 ha1 Hr.out).mono ?_; rw [HG.out]; unfold three; rintro e w' ⟨rfl, rfl⟩)
        go_ret3
        exact ⟨ret3T Hfin.out, rfl⟩
      · by_cases h2 : v < 0
        · go_enter Tryz.func168, Tryz.ntmps168
          go_wp2_with (go_at_call 139; refine (get_any A l n cap a _ Hn.out hm' ha0 ha1 Hr.out).mono ?_; rw [HG.out]; unfold three; rintro e w' ⟨rfl, rfl⟩)
          go_ret3
          exact ⟨ret3T Hfin.out, rfl⟩
        · go_enter Tryz.func168, Tryz.ntmps168
          go_wp2_with (go_at_call 139; refine (get_any A l n cap a _ Hn.out hm' ha0 ha1 Hr.out).mono ?_; rw [HG.out]; unfold three; rintro e w' ⟨rfl, rfl⟩)
          go_ret3
          exact ⟨ret3T Hfin.out, rfl⟩
    · have hv0 : ¬ v < 0 := by omega
      have hv1 : ¬ most < v := by omega
      obtain ⟨V, rfl⟩ : ∃ V : Nat, v = (V : Int) := ⟨v.toNat, by omega⟩
      by_cases h2 : (n : Int) - (P : Int) < (V : Int)
      · have Hfin := Lib.hid (show getT l a most = ([], 0, 4) by rw [HT.out, if_neg (by simp), if_neg h1, if_pos (by rw [← Hn.out]; exact h2)])
        clear h1
        go_enter Tryz.func168, Tryz.ntmps168
        go_wp2_with (go_at_call 139; refine (get_any A l n cap a _ Hn.out hm' ha0 ha1 Hr.out).mono ?_; rw [HG.out]; unfold three; rintro e w' ⟨rfl, rfl⟩)
        go_ret3
        exact ⟨ret3T Hfin.out, rfl⟩
      · have Hfin := Lib.hid (show getT l a most = ((l.drop P).take V, (P : Int) + (V : Int), 0) by rw [HT.out, if_neg (by simp), if_neg h1, if_neg (by rw [← Hn.out]; exact h2)]; simp)
        clear h1
        obtain ⟨A', hsl, hct⟩ := cut_text (cap := cap) Hn.out hnc Hr.out (P := P) (V := V) (by omega)
        have hct' := hct w (Below.refl _ _)
        clear hct
        go_enter Tryz.func168, Tryz.ntmps168
        go_wp2_with (go_at_call 139; refine (get_any A l n cap a _ Hn.out hm' ha0 ha1 Hr.out).mono ?_; rw [HG.out]; unfold three; rintro e w' ⟨rfl, rfl⟩)
        go_ret3
        exact ⟨ret3T Hfin.out, rfl⟩
  · have hb : (er != 0) = true := by simp [h0]
    have Hfin := Lib.hid (show getT l a most = ([], 0, er) by rw [HT.out, if_pos h0])
    clear h0
    go_enter Tryz.func168, Tryz.ntmps168
    go_wp2_with (go_at_call 139; refine (get_any A l n cap a _ Hn.out hm' ha0 ha1 Hr.out).mono ?_; rw [HG.out]; unfold three; rintro e w' ⟨rfl, rfl⟩)
    go_ret3
    exact ⟨ret3T Hfin.out, rfl⟩


theorem getS_numr {n : Int} (h0 : -9223372036854775808 ≤ n) (h1 : n ≤ 9223372036854775807) (p r : List UInt8) : getS (p ++ (num n ++ r)) (p.length : Int) = (n, ((p ++ num n).length : Int), 0) := by
  rw [getS_in (by simp)]
  rw [List.drop_left, getL_num h0 h1]
  simp

end BinText
end Go.Proofs.YthkkcecfenohjaaGreatDoor
