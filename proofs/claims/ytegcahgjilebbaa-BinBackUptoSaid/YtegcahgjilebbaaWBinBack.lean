/-
  The law BinBack, walked: for all numbers and all texts it returns true, and nothing that was there is written. The sizes of what came in are bounded (the second form).
-/
import Derived.Test.YtegcahgjilebbaaBinText
import Derived.Test.YtegcahgjilebbaaBinAll
import Derived.Test.YtegcahgjilebbaaBinKnown
namespace Go.Proofs.Ytegcahgjilebbaa
namespace WBinBack
open Go.RowKit BinM Base BinE BinPut BinGet Bin8 BinText BinAll
open RefPut (refPut_any)
open BinKnown (known_any)
open RefGet (text_q)

/-- the bytes of texts, one behind the other -/
def txts (l : List ByteArray) : List UInt8 := l.flatMap fun s => txt s.data.toList
theorem txts_snoc (l : List ByteArray) (s : ByteArray) : txts (l ++ [s]) = txts l ++ txt s.data.toList := by simp [txts]
theorem txt_len (s : ByteArray) (h : s.size ≤ 1048576) : (txt s.data.toList).length ≤ 10 * (s.size + 1) := by
  have hs := size_in (s := s) (by omega)
  have := (num_can hs.1 hs.2).2.2
  unfold txt
  simp at *; omega
theorem bulk_mem {l : List ByteArray} {s : ByteArray} (h : s ∈ l) : s.size + 1 ≤ textBulk l := by
  induction l with
  | nil => cases h
  | cons a t ih =>
    simp only [textBulk, List.map_cons, List.sum_cons]
    rcases List.mem_cons.1 h with rfl | h
    · omega
    · have := ih h
      unfold textBulk at this
      omega
theorem bulk_take (l : List ByteArray) (k : Nat) : textBulk (l.take k) ≤ textBulk l := by
  have : textBulk l = textBulk (l.take k) + textBulk (l.drop k) := by
    unfold textBulk
    rw [← List.sum_append, ← List.map_append, List.take_append_drop]
  omega
theorem bulk_len (l : List ByteArray) : l.length ≤ textBulk l := by
  induction l with
  | nil => simp
  | cons a t ih =>
    simp only [textBulk, List.map_cons, List.sum_cons, List.length_cons] at ih ⊢
    omega
theorem txts_len (l : List ByteArray) (h : textBulk l ≤ 1048576) : (txts l).length ≤ 10 * textBulk l := by
  induction l with
  | nil => simp [txts]
  | cons a t ih =>
    have ha := bulk_mem (l := a :: t) (s := a) (by simp)
    have ht : textBulk (a :: t) = (a.size + 1) + textBulk t := by simp [textBulk]
    have h1 := txt_len a (by omega)
    have h2 := ih (by omega)
    have e : txts (a :: t) = txt a.data.toList ++ txts t := by simp [txts]
    rw [e, List.length_append]
    omega

/-- a number among numbers is got where it stands -/
theorem get_at {l : List Int} (hfit : ∀ x ∈ l, -9223372036854775808 ≤ x ∧ x ≤ 9223372036854775807) (R : List UInt8) {k : Nat} (hk : k < l.length) :
    getS (nums l ++ R) ((nums (l.take k)).length : Int) = (l[k], ((nums (l.take (k + 1))).length : Int), 0) := by
  have hx := hfit l[k] (List.getElem_mem hk)
  have e1 : nums (l.take (k + 1)) = nums (l.take k) ++ num l[k] := by rw [List.take_succ_eq_append_getElem hk, nums_snoc]
  have e2 : nums l = nums (l.take k) ++ (num l[k] ++ nums (l.drop (k + 1))) := by
    have : l = l.take k ++ (l[k] :: l.drop (k + 1)) := by rw [← List.drop_eq_getElem_cons hk, List.take_append_drop]
    conv => lhs; rw [this]
    simp only [nums, List.flatMap_append, List.flatMap_cons]
  have hd : (nums l ++ R).drop (nums (l.take k)).length = num l[k] ++ (nums (l.drop (k + 1)) ++ R) := by
    rw [e2]; simp [List.append_assoc]
  rw [getS_in (by rw [e2]; simp), hd, getL_num hx.1 hx.2, e1]
  simp

/-- a text among bytes is got where it stands -/
theorem getT_at (pre R : List UInt8) (t : ByteArray) (ht : t.size ≤ 1048576) :
    getT (pre ++ (txt t.data.toList ++ R)) (pre.length : Int) (t.size : Int) = (t.data.toList, ((pre.length + (txt t.data.toList).length : Nat) : Int), 0) := by
  have hs := size_in (s := t) (by omega)
  have el : t.data.toList.length = t.size := by simp
  have hG : getS (pre ++ (txt t.data.toList ++ R)) (pre.length : Int) = ((t.size : Int), ((pre.length + (num (t.size : Int)).length : Nat) : Int), 0) := by
    rw [getS_in (by simp)]
    have hd : (pre ++ (txt t.data.toList ++ R)).drop pre.length = num (t.size : Int) ++ (t.data.toList ++ R) := by
      unfold txt; rw [el]; simp
    rw [hd, getL_num hs.1 hs.2]
    simp
  unfold getT
  rw [hG]
  have hlen : (txt t.data.toList).length = (num (t.size : Int)).length + t.size := by unfold txt; rw [el]; simp
  rw [if_neg (by simp), if_neg (by simp), if_neg (by simp only [List.length_append, hlen]; omega)]
  have hd : (pre ++ (txt t.data.toList ++ R)).drop (pre.length + (num (t.size : Int)).length) = t.data.toList ++ R := by
    have : pre ++ (txt t.data.toList ++ R) = (pre ++ num (t.size : Int)) ++ (t.data.toList ++ R) := by unfold txt; rw [el]; simp
    rw [this]
    have e : (pre ++ num (t.size : Int)).length = pre.length + (num (t.size : Int)).length := by simp
    rw [← e, List.drop_left]
  simp only [Int.toNat_natCast, hd]
  refine Prod.ext ?_ (Prod.ext ?_ rfl)
  · show (t.data.toList ++ R).take t.size = t.data.toList
    rw [← el, List.take_left]
  · show ((pre.length + (num (t.size : Int)).length : Nat) : Int) + (t.size : Int) = _
    show ((pre.length + (num (t.size : Int)).length : Nat) : Int) + (t.size : Int) = ((pre.length + (txt t.data.toList).length : Nat) : Int)
    rw [hlen]; omega

/-- the first loop's way: what is wanted -/
def Rel1 (w : World) (l : List Int) (o i : Value) (wr : World) : Prop :=
  ∃ k : Nat, k ≤ l.length ∧ i = .int .i64 k ∧ Own8 wr w.heap.size o (nums (l.take k)) ∧ Below w.heap.size w wr

/-- the second loop's way: the texts put on -/
def Rel2 (w : World) (p : List UInt8) (s : List ByteArray) (o i : Value) (wr : World) : Prop :=
  ∃ k : Nat, k ≤ s.length ∧ i = .int .i64 k ∧ Own8 wr w.heap.size o (p ++ txts (s.take k)) ∧ Below w.heap.size w wr

set_option maxRecDepth 100000 in
set_option maxHeartbeats 4000000 in
theorem walk (a0 : Option Addr) (m0 c0 : Nat) (l0 : List Int) (a1 : Option Addr) (m1 c1 : Nat) (l1 : List ByteArray) (w : World) (w0 : IsInts w a0 m0 c0 l0) (b0 : c0 ≤ 1048576) (w1 : IsStrs w a1 m1 c1 l1) (b1 : textBulk l1 ≤ 1048576) :
    Calls Try.prog 4 #[.slice a0 m0 c0, .slice a1 m1 c1] w fun e w' => e = .returned (.bool true) ∧ Below w.heap.size w w' := by
  have W0 := Lib.hid w0
  have W1 := Lib.hid w1
  have hm0 : l0.length ≤ m0 := Nat.le_of_eq w0.len.symm
  have hm0' : m0 ≤ l0.length := Nat.le_of_eq w0.len
  have hm1 : l1.length ≤ m1 := Nat.le_of_eq w1.len.symm
  have hm1' : m1 ≤ l1.length := Nat.le_of_eq w1.len
  have hle0 := w0.le
  have hb1 := bulk_len l1
  have hnl := nums_len l0 w0.fit
  have htl := txts_len l1 b1
  clear w0 w1
  go_enter Try.func4, Try.ntmps4
  go_wp2_with fail
  refine (all_any a0 l0 m0 c0 w W0.out (by omega)).mono ?_
  rintro e wa ⟨va, rfl, howna, hba⟩
  have Howna : Hid (Own8 wa w.heap.size va (nums l0)) := Lib.hid howna
  have Hba := Lib.hid hba
  have hsza := hba.size
  clear howna hba
  go_wp2_with fail
  go_loopw [6, 7] (fun o i wr => Rel1 wa l0 o i wr) (fun _ i _ => m0 - (intOf i).toNat)
  case atStart => exact ⟨0, Nat.zero_le _, rfl, Own8.nil _ _, Below.refl _ _⟩
  case round =>
    obtain ⟨k, hk, rfl, hown, hbel⟩ := hrel
    by_cases hlt : k < l0.length
    · obtain ⟨hx0, hx1⟩ := W0.out.fit l0[k] (List.getElem_mem hlt)
      obtain ⟨b, o, rfl, hb, hcell⟩ := (W0.out.rds.below (Hba.out.trans (hbel.mono hsza))).at_ (k := k) (by simpa using hlt)
      have hcell' : wr.cell? ⟨b, o + k, none⟩ = some (.int .i64 l0[k]) := by rw [hcell]; simp
      have Hts := Lib.hid (show nums (l0.take (k + 1)) = nums (l0.take k) ++ num l0[k] by rw [List.take_succ_eq_append_getElem hlt, nums_snoc])
      have hnk : (nums (l0.take k)).length ≤ 10 * k := by
        have := nums_len (l0.take k) (fun x hx => W0.out.fit x (List.mem_of_mem_take hx))
        have h2 : (l0.take k).length ≤ k := by simp; omega
        omega
      obtain ⟨A, c, rfl, hc1, hc2, hr, _⟩ := hown.slice
      have Hr := Lib.hid hr
      have Hbel := Lib.hid hbel
      have hsz := hbel.size
      unfold maxLen at hc2
      clear hown hbel hcell hr
      generalize hxx : l0[k] = x at *
      clear hxx
      generalize hpp : nums (l0.take k) = p at *
      generalize hqq : p.length = q at *
      have Hqq := Lib.hid hqq
      clear hpp hqq
      go_wp2_with (go_at_call 15; refine (refPut_any A p q c x _ Hqq.out.symm (by omega) hx0 hx1 Hr.out).mono ?_; rintro e w2 ⟨v2, rfl, hown2, hb2⟩; have Hown2 := Lib.hid hown2; have Hb2 := Lib.hid hb2; clear hown2 hb2)
      go_roundw
      case rel => exact ⟨k + 1, by omega, by go_num, by rw [Hts.out]; exact own_mono Hown2.out hsz, Hbel.out.trans (Hb2.out.mono hsz)⟩
      case measure => simp [intOf]; omega
    · have e : l0.take k = l0 := List.take_of_length_le (by omega)
      rw [e] at hown
      have hk0 : ¬ (k : Int) < (m0 : Int) := by omega
      have howna := own_kept Howna.out hbel
      obtain ⟨A2, d2, rfl, _, _, hr2, _⟩ := hown.slice
      obtain ⟨A1, d1, rfl, hd1, hd1', hr1, _⟩ := howna.slice
      have hc1 := text_q wr (m := (nums l0).length) rfl hr1 d1
      have hc2 := text_q wr (m := (nums l0).length) rfl hr2 d2
      have Howna2 := Lib.hid howna
      have Hb2 := Lib.hid (Hba.out.trans (hbel.mono hsza))
      have hsz2 : w.heap.size ≤ wr.heap.size := Nat.le_trans hsza hbel.size
      clear howna hown hbel hr1 hr2 e
      generalize hN : nums l0 = N at *
      have HN := Lib.hid hN
      clear hN
      generalize hn : N.length = n at *
      have Hn := Lib.hid hn
      clear hn
      go_wp2_with fail
      clear hc1 hc2
      obtain ⟨wo, rfl⟩ : ∃ wo : World, wo = wr := ⟨_, rfl⟩
      go_loopw [5, 8] (fun o i wr => Rel2 w N l1 o i wr) (fun _ i _ => m1 - (intOf i).toNat)
      case atStart => exact ⟨0, Nat.zero_le _, rfl, by simpa [txts] using Howna2.out, Hb2.out⟩
      case round =>
        obtain ⟨j, hj, rfl, hown, hbel⟩ := hrel
        by_cases hjlt : j < l1.length
        · obtain ⟨b, o, rfl, hb, hcell⟩ := (W1.out.rds.below hbel).at_ (k := j) (by simpa using hjlt)
          have hcell' : wr.cell? ⟨b, o + j, none⟩ = some (.string l1[j]) := by rw [hcell]; simp
          have Hts := Lib.hid (show N ++ txts (l1.take (j + 1)) = (N ++ txts (l1.take j)) ++ txt l1[j].data.toList by rw [List.take_succ_eq_append_getElem hjlt, txts_snoc, List.append_assoc])
          have hsj := bulk_mem (List.getElem_mem hjlt)
          have hjl : (N ++ txts (l1.take j)).length ≤ n + 10 * textBulk l1 := by
            have h1 := bulk_take l1 j
            have h2 := txts_len (l1.take j) (by omega)
            have h3 := Hn.out
            rw [List.length_append]; omega
          obtain ⟨A, c, rfl, hc1, hc2, hr, _⟩ := hown.slice
          have Hr := Lib.hid hr
          have Hbel := Lib.hid hbel
          have hsz := hbel.size
          unfold maxLen at hc2
          clear hown hbel hcell hr
          generalize hxx : l1[j] = x at *
          clear hxx
          generalize hpp : N ++ txts (l1.take j) = p at *
          generalize hqq : p.length = q at *
          have Hqq := Lib.hid hqq
          clear hpp hqq
          go_wp2_with (go_at_call 8; refine (text_any A p q c x _ Hqq.out.symm (by omega) Hr.out).mono ?_; rintro e w2 ⟨v2, rfl, hown2, hb2⟩; have Hown2 := Lib.hid hown2; have Hb2' := Lib.hid hb2; clear hown2 hb2)
          go_roundw
          case rel => exact ⟨j + 1, by omega, by go_num, by rw [Hts.out]; exact own_mono Hown2.out hsz, Hbel.out.trans (Hb2'.out.mono hsz)⟩
          case measure => simp [intOf]; omega
        · have e : l1.take j = l1 := List.take_of_length_le (by omega)
          rw [e] at hown
          have hj0 : ¬ (j : Int) < (m1 : Int) := by omega
          have hml : (N ++ txts l1).length ≤ n + 10 * textBulk l1 := by have h3 := Hn.out; rw [List.length_append]; omega
          obtain ⟨A3, d3, rfl, hd3, hd3', hr3, _⟩ := hown.slice
          obtain ⟨M, hM⟩ : ∃ M, M = N ++ txts l1 := ⟨_, rfl⟩
          rw [← hM] at hr3 hd3 hml ⊢
          generalize hq3 : M.length = q3 at *
          have HM := Lib.hid hM
          have Hq3 := Lib.hid hq3
          have Hr3 := Lib.hid hr3
          have Hb3 := Lib.hid hbel
          have hsz3 := hbel.size
          have hq3m : q3 ≤ maxLen := Nat.le_trans hd3 hd3'
          unfold maxLen at hd3' hq3m
          clear hM hq3 hown hbel hr3 e
          obtain ⟨wq, rfl⟩ : ∃ wq : World, wq = wr := ⟨_, rfl⟩
          go_wp2_with fail
          go_loop [9, 10, 11, 12, 13] (fun t i _ _ _ => ∃ x : Nat, x ≤ l0.length ∧ i = .int .i64 x ∧ t = .int .i64 (((nums (l0.take x)).length : Nat) : Int)) (fun _ i _ _ _ => m0 - (intOf i).toNat)
          case atStart => exact ⟨0, Nat.zero_le _, rfl, rfl⟩
          case round =>
            obtain ⟨x, hx, rfl, rfl⟩ := hrel
            by_cases hxlt : x < l0.length
            · obtain ⟨b, o, rfl, hb, hcell⟩ := (W0.out.rds.below Hb3.out).at_ (k := x) (by simpa using hxlt)
              have hcell' : wq.cell? ⟨b, o + x, none⟩ = some (.int .i64 l0[x]) := by rw [hcell]; simp
              have Hg := Lib.hid (get_at W0.out.fit (txts l1) hxlt)
              have hxl : (nums (l0.take x)).length ≤ 10 * l0.length := by
                have := nums_len (l0.take x) (fun y hy => W0.out.fit y (List.mem_of_mem_take hy))
                have h2 : (l0.take x).length ≤ l0.length := by simp; omega
                omega
              clear hcell
              have Hsn := Lib.hid (show nums l0 ++ txts l1 = M by rw [HM.out, HN.out])
              generalize (nums (l0.take x)).length = u at *
              obtain ⟨u2, hu2⟩ : ∃ u2, u2 = (nums (l0.take (x + 1))).length := ⟨_, rfl⟩
              have Hu2 := Lib.hid hu2
              clear hu2
              generalize hxx : l0[x] = y at *
              clear hxx
              go_wp2_with (go_at_call 16; refine (get_any A3 M q3 d3 _ wq Hq3.out.symm (Nat.le_trans hd3 (by unfold maxLen; omega)) (by omega) (by omega) Hr3.out).mono ?_; rw [← Hsn.out, Hg.out, ← Hu2.out]; unfold three; rintro e w' ⟨rfl, rfl⟩)
              go_round
              case rel => exact ⟨x + 1, by omega, by go_num, by rw [Hu2.out]⟩
              case measure => simp [intOf]; omega
            · have e : l0.take x = l0 := List.take_of_length_le (by omega)
              rw [e, HN.out, Hn.out]
              have hx0 : ¬ (x : Int) < (m0 : Int) := by omega
              clear e
              go_wp2_with fail
              go_loop [9, 14, 15, 16, 17] (fun t i _ _ _ => ∃ z : Nat, z ≤ l1.length ∧ i = .int .i64 z ∧ t = .int .i64 (((N ++ txts (l1.take z)).length : Nat) : Int)) (fun _ i _ _ _ => m1 - (intOf i).toNat)
              case atStart => exact ⟨0, Nat.zero_le _, rfl, by simp [txts, Hn.out]⟩
              case round =>
                obtain ⟨z, hz, rfl, rfl⟩ := hrel
                by_cases hzlt : z < l1.length
                · obtain ⟨b, o, rfl, hb, hcell⟩ := (W1.out.rds.below Hb3.out).at_ (k := z) (by simpa using hzlt)
                  have hcell' : wq.cell? ⟨b, o + z, none⟩ = some (.string l1[z]) := by rw [hcell]; simp
                  have hsz' := bulk_mem (List.getElem_mem hzlt)
                  have hg := getT_at (N ++ txts (l1.take z)) (txts (l1.drop (z + 1))) l1[z] (by omega)
                  have e1 : N ++ txts (l1.take z) ++ (txt l1[z].data.toList ++ txts (l1.drop (z + 1))) = M := by
                    rw [HM.out, List.append_assoc]
                    congr 1
                    have : l1 = l1.take z ++ (l1[z] :: l1.drop (z + 1)) := by rw [← List.drop_eq_getElem_cons hzlt, List.take_append_drop]
                    conv => rhs; rw [this]
                    simp only [txts, List.flatMap_append, List.flatMap_cons]
                  have e2 : (N ++ txts (l1.take z)).length + (txt l1[z].data.toList).length = (N ++ txts (l1.take (z + 1))).length := by
                    rw [List.take_succ_eq_append_getElem hzlt, txts_snoc]; simp [Nat.add_assoc]
                  rw [e1, e2] at hg
                  have hul : (N ++ txts (l1.take z)).length ≤ n + 10 * textBulk l1 := by
                    have h1 := bulk_take l1 z
                    have h2 := txts_len (l1.take z) (by omega)
                    have h3 := Hn.out
                    rw [List.length_append]; omega
                  have Hg := Lib.hid hg
                  clear hcell e1 e2 hg
                  generalize (N ++ txts (l1.take z)).length = u at *
                  obtain ⟨u2, hu2⟩ : ∃ u2, u2 = (N ++ txts (l1.take (z + 1))).length := ⟨_, rfl⟩
                  have Hu2 := Lib.hid hu2
                  clear hu2
                  generalize hxx : l1[z] = y at *
                  clear hxx
                  go_wp2_with (go_at_call 9; refine (getText_any A3 M q3 d3 _ _ wq Hq3.out.symm hd3 (by unfold maxLen; omega) (by omega) (by omega) Hr3.out).mono ?_; rw [Hg.out, ← Hu2.out]; unfold threeT; rintro e w' ⟨rfl, rfl⟩)
                  go_round
                  case rel => exact ⟨z + 1, by omega, by go_num, by rw [Hu2.out]⟩
                  case measure => simp [intOf]; omega
                · have e : l1.take z = l1 := List.take_of_length_le (by omega)
                  rw [e, ← HM.out, Hq3.out]
                  have hz0 : ¬ (z : Int) < (m1 : Int) := by omega
                  clear e
                  go_wp2_with (go_at_call 13; refine (known_any _).mono ?_; rintro e w5 ⟨rfl, hb5⟩)
                  go_ret
                  exact ⟨rfl, Hb3.out.trans (hb5.mono hsz3)⟩

end WBinBack
end Go.Proofs.Ytegcahgjilebbaa
