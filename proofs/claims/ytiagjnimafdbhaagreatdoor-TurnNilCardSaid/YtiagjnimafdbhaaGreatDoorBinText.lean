/-
  The document's own reading of a number: what it returns, for all bytes and every place.
  Texts as bytes, written and read, by the program and by the document's own answers: what each call returns.
  bin.All: the bytes of numbers, one behind the other: what it returns, for all numbers.
-/
import Derived.Test.YtiagjnimafdbhaaGreatDoorBinPut
import Derived.RegionTactic
import Derived.Deep.RegionWith
import Derived.Outline
import Derived.IntWalk
import Derived.Test.YtiagjnimafdbhaaGreatDoorBinM
namespace Go.Proofs.YtiagjnimafdbhaaGreatDoor
namespace RefGet
open Go.RowKit BinM BinNum Base BinE BinPut BinGet Bin8 RefPut

/-- what the document's reading has put together behind j rounds, from the last byte on -/
def back (p : List UInt8) (j : Nat) : Nat := val (p.drop (p.length - j)) % 18446744073709551616

theorem back_step (p : List UInt8) (j : Nat) (h : j < p.length) : back p (j + 1) = (back p j * 128 + p[p.length - (j + 1)].toNat % 128) % 18446744073709551616 := by
  unfold back
  have e : p.length - j = p.length - (j + 1) + 1 := by omega
  have hd : p.drop (p.length - (j + 1)) = p[p.length - (j + 1)] :: p.drop (p.length - j) := by
    rw [e]; exact List.drop_eq_getElem_cons (by omega)
  rw [hd, val]
  omega

theorem back_all (p : List UInt8) (h : val p < 18446744073709551616) : back p p.length = val p := by
  unfold back
  rw [Nat.sub_self, List.drop_zero]
  exact Nat.mod_eq_of_lt h

theorem step_facts {w : World} {b o p k j : Nat} {q : List UInt8} (hql : q.length = k + 1) (hcells : ∀ j (hj : j < q.length), w.cell? ⟨b, o + (p + j), none⟩ = some (.int .u8 ((q[j].toNat : Nat) : Int))) (hj : j < k + 1) :
    ∃ d B' : Int, 0 ≤ d ∧ d ≤ 255 ∧ w.cell? ⟨b, o + (p + k - j), none⟩ = some (.int .u8 d) ∧ IntKind.u64.wrap (IntKind.u64.wrap (((back q j : Nat) : Int) * 128) + d % 128) = B' ∧ B' = ((back q (j + 1) : Nat) : Int) := by
  have hkj : k - j < q.length := by omega
  have hcell2 := hcells (k - j) hkj
  have hstep := back_step q j (by omega)
  have eidx : q[q.length - (j + 1)]'(by omega) = q[k - j] := by congr 1; omega
  rw [eidx] at hstep
  have ep : p + (k - j) = p + k - j := by omega
  rw [ep] at hcell2
  refine ⟨(q[k - j].toNat : Int), _, by omega, by have := q[k - j].toNat_lt; omega, hcell2, rfl, ?_⟩
  have hw : ∀ x : Int, IntKind.u64.wrap x = x % 18446744073709551616 := fun x => by simp [IntKind.wrap, IntKind.bits, IntKind.signed]
  rw [hw, hw, hstep]
  omega

theorem rds_q {w : World} {b o p : Nat} {q : List UInt8} (hb : b < w.heap.size) (hcells : ∀ j (hj : j < q.length), w.cell? ⟨b, o + (p + j), none⟩ = some (.int .u8 ((q[j].toNat : Nat) : Int))) : Rds w (some ⟨b, o + p, none⟩) (cells8 q) := by
  refine .inr ⟨b, o + p, rfl, hb, fun j u hu => ?_⟩
  obtain ⟨hj, rfl⟩ := List.getElem?_eq_some_iff.1 hu
  rw [cells8_length] at hj
  rw [Nat.add_assoc, hcells j hj]
  simp [cells8, cell8]

theorem sl_q {b o n cap p k : Nat} (hp : p < cap) (h : p + k + 1 ≤ cap) (W : World) :
    (Instr.slice 130 (.slice (some ⟨b, o, none⟩) n cap) (some (.int .i64 (p : Int))) (some (.int .i64 ((p : Int) + (k : Int) + 1))) none).run Tryz.prog W = .ok (.slice (some ⟨b, o + p, none⟩) (k + 1) (cap - p)) W := by
  rw [cut8 W _ n cap (p : Int) ((p : Int) + (k : Int) + 1) (by omega) (by omega) (by omega)]
  have e1 : ((p : Int)).toNat = p := by omega
  have e2 : ((p : Int) + (k : Int) + 1).toNat = p + k + 1 := by omega
  rw [e1, e2, if_neg (by omega)]
  simp only [Option.map_some, Addr.add_mid]
  congr 2
  omega

theorem text_q (W : World) {A : Option Addr} {q : List UInt8} {m : Nat} (hq : q.length = m) (hr : Rds W A (cells8 q)) (c : Nat) :
    (convert 130 9 (.slice A m c)).run Tryz.prog W = .ok (.string ⟨q.toArray⟩) W :=
  run_text (P := Tryz.prog) 130 9 5 m c Tryz.underlying130 Tryz.underlying5 Tryz.underlying9 hq.symm hr

/-- the two ways in which a number's bytes can end -/
theorem cases_q {l : List UInt8} {p : Nat} (hpl : p ≤ l.length) (h10 : lead (l.drop p) < 10) (hlt : lead (l.drop p) < (l.drop p).length) {q : List UInt8} (hq : q = (l.drop p).take (lead (l.drop p) + 1)) :
    (val q < 18446744073709551616 ∧ num (unfoldI ((val q : Nat) : Int)) = q ∧ getS l (p : Int) = (unfoldI ((val q : Nat) : Int), (p : Int) + (lead (l.drop p) : Int) + 1, 0)) ∨
    ((∀ u, u < 18446744073709551616 → enc u ≠ q) ∧ getS l (p : Int) = (0, 0, 5)) := by
  have hg : (l.drop p).getD (lead (l.drop p)) 0 = (l.drop p)[lead (l.drop p)] := by rw [List.getD_eq_getElem?_getD, List.getElem?_eq_getElem hlt]; rfl
  cases hL : lastI (((l.drop p)[lead (l.drop p)]).toNat : Int) (lead (l.drop p) : Int)
  · right
    exact ⟨fun u hu => by rw [hq]; exact not_num h10 hlt (by rw [hg]; exact hL) hu, getS_bad hpl h10 hlt hL⟩
  · left
    have := num_getL h10 hlt (by rw [hg]; exact hL)
    rw [← hq] at this
    refine ⟨this.1, this.2, ?_⟩
    rw [getS_good hpl h10 hlt hL, ← hq]


end RefGet
end Go.Proofs.YtiagjnimafdbhaaGreatDoor

namespace Go.Proofs.YtiagjnimafdbhaaGreatDoor
namespace BinText
open Go.RowKit BinM BinNum Base BinE BinPut BinGet Bin8
open RefPut (refPut_any)
open RefGet (text_q)

/-- a text's bytes -/
def txt (s : List UInt8) : List UInt8 := num (s.length : Int) ++ s

theorem size_in {s : ByteArray} (h : s.size ≤ 140737488355328) : -9223372036854775808 ≤ (s.size : Int) ∧ (s.size : Int) ≤ 9223372036854775807 := by omega

theorem text_any (A : Option Addr) (l : List UInt8) (m cap : Nat) (s : ByteArray) (w : World) (hm : m = l.length) (hlen : m + 10 + s.size ≤ 140737488355328) (hr : Rds w A (cells8 l)) :
    Calls Tryz.prog 155 #[.slice A m cap, .string s] w (Gives8 w (l ++ txt s.data.toList)) := by
  have hs := size_in (s := s) (by omega)
  have hk := (num_can hs.1 hs.2).2.2
  have e : l ++ txt s.data.toList = (l ++ num (s.size : Int)) ++ s.data.toList := by unfold txt; simp
  rw [e]
  have hml : l.length ≤ m := Nat.le_of_eq hm.symm
  have Hm := Lib.hid hm
  have Hr := Lib.hid hr
  clear hm hr e
  go_enter Tryz.func155, Tryz.ntmps155
  go_wp2_with fail
  refine (put_any A l m cap (s.size : Int) w Hm.out (by omega) hs.1 hs.2 Hr.out).mono ?_
  rintro e w1 ⟨v, rfl, hown, hb⟩
  have hpl : (l ++ num (s.size : Int)).length ≤ m + 10 := by rw [List.length_append]; omega
  have Hown : Hid (Own8 w1 w.heap.size v (l ++ num (s.size : Int))) := Lib.hid hown
  have hsz := hb.size
  have Hb := Lib.hid hb
  clear hown hb
  go_wp2_with (at_builtin
               refine app8s rfl (.tmp 8) (.tmp 9) rfl w.heap.size v (l ++ num (s.size : Int)) rfl Hown.out s rfl (by omega) hsz ?_
               intro v2 w2 hown2 hg2
               have Hb2 := Lib.hid (own_below Hown.out Hb.out (Nat.le_refl _) hsz hg2)
               have Hown2 := Lib.hid hown2
               clear hown2 hg2)
  go_ret
  exact ⟨v2, rfl, Hown2.out, Hb2.out⟩

theorem refText_any (A : Option Addr) (l : List UInt8) (m cap : Nat) (s : ByteArray) (w : World) (hm : m = l.length) (hlen : m + 10 + s.size ≤ 140737488355328) (hr : Rds w A (cells8 l)) :
    Calls Tryz.prog 197 #[.slice A m cap, .string s] w (Gives8 w (l ++ txt s.data.toList)) := by
  have hs := size_in (s := s) (by omega)
  have hk := (num_can hs.1 hs.2).2.2
  have e : l ++ txt s.data.toList = (l ++ num (s.size : Int)) ++ s.data.toList := by unfold txt; simp
  rw [e]
  have hml : l.length ≤ m := Nat.le_of_eq hm.symm
  have Hm := Lib.hid hm
  have Hr := Lib.hid hr
  clear hm hr e
  go_enter Tryz.func197, Tryz.ntmps197
  go_wp2_with fail
  refine (refPut_any A l m cap (s.size : Int) w Hm.out (by omega) hs.1 hs.2 Hr.out).mono ?_
  rintro e w1 ⟨v, rfl, hown, hb⟩
  have hpl : (l ++ num (s.size : Int)).length ≤ m + 10 := by rw [List.length_append]; omega
  have Hown : Hid (Own8 w1 w.heap.size v (l ++ num (s.size : Int))) := Lib.hid hown
  have hsz := hb.size
  have Hb := Lib.hid hb
  clear hown hb
  go_wp2_with (at_builtin
               refine app8s rfl (.tmp 10) (.tmp 11) rfl w.heap.size v (l ++ num (s.size : Int)) rfl Hown.out s rfl (by omega) hsz ?_
               intro v2 w2 hown2 hg2
               have Hb2 := Lib.hid (own_below Hown.out Hb.out (Nat.le_refl _) hsz hg2)
               have Hown2 := Lib.hid hown2
               clear hown2 hg2)
  go_ret
  exact ⟨v2, rfl, Hown2.out, Hb2.out⟩

/-- what is read as a text: the text, the place behind it, the error's number -/
def getT (l : List UInt8) (a most : Int) : List UInt8 × Int × Int :=
  if (getS l a).2.2 ≠ 0 then ([], 0, (getS l a).2.2)
  else if (getS l a).1 < 0 ∨ most < (getS l a).1 then ([], 0, 6)
  else if (l.length : Int) - (getS l a).2.1 < (getS l a).1 then ([], 0, 4)
  else ((l.drop (getS l a).2.1.toNat).take (getS l a).1.toNat, (getS l a).2.1 + (getS l a).1, 0)

def threeT (r : List UInt8 × Int × Int) : Value := .tuple #[.string ⟨r.1.toArray⟩, .int .i64 r.2.1, .int .i64 r.2.2]
theorem ret3T {r : List UInt8 × Int × Int} {t : List UInt8} {b c : Int} (h : r = (t, b, c)) : Ending.returned (.tuple #[.string ⟨t.toArray⟩, .int .i64 b, .int .i64 c]) = .returned (threeT r) := by subst h; rfl

/-- what is read as a number has its place within the bytes, and is a number of 64 bits -/
theorem getS_ok {l : List UInt8} {a : Int} (h : (getS l a).2.2 = 0) : 0 ≤ (getS l a).2.1 ∧ (getS l a).2.1 ≤ l.length ∧ -9223372036854775808 ≤ (getS l a).1 ∧ (getS l a).1 ≤ 9223372036854775807 := by
  by_cases ho : a < 0 ∨ (l.length : Int) < a
  · rw [getS_out ho] at h; simp at h
  · obtain ⟨p, rfl⟩ : ∃ p : Nat, a = (p : Int) := ⟨a.toNat, by omega⟩
    have hp : p ≤ l.length := by omega
    have hle := lead_le (l.drop p)
    have hlen : (l.drop p).length = l.length - p := by simp
    by_cases h10 : 10 ≤ lead (l.drop p)
    · rw [getS_long hp h10] at h; simp at h
    · by_cases hs : (l.drop p).length ≤ lead (l.drop p)
      · rw [getS_short hp (by omega) hs] at h; simp at h
      · cases hL : lastI (((l.drop p)[lead (l.drop p)]'(by omega)).toNat : Int) (lead (l.drop p) : Int)
        · rw [getS_bad hp (by omega) (by omega) hL] at h; simp at h
        · have hg : (l.drop p).getD (lead (l.drop p)) 0 = (l.drop p)[lead (l.drop p)]'(by omega) := by rw [List.getD_eq_getElem?_getD, List.getElem?_eq_getElem (by omega)]; rfl
          have hv := (num_getL (l := l.drop p) (by omega) (by omega) (by rw [hg]; exact hL)).1
          rw [getS_good hp (by omega) (by omega) hL]
          have := unfold_in (u := ((val ((l.drop p).take (lead (l.drop p) + 1)) : Nat) : Int)) (by omega) (by omega)
          exact ⟨by simp; omega, by simp; omega, this.1, this.2⟩

/-- a number that was read is 64 bits long in any case -/
theorem getS_num {l : List UInt8} {a : Int} : -9223372036854775808 ≤ (getS l a).1 ∧ (getS l a).1 ≤ 9223372036854775807 := by
  by_cases h : (getS l a).2.2 = 0
  · exact (getS_ok h).2.2
  · have : (getS l a).1 = 0 := by
      unfold getS at h ⊢
      split
      · rfl
      · rename_i h1
        rw [if_neg h1] at h
        split
        · rename_i h2
          rw [if_pos h2] at h; simp at h
        · rfl
    rw [this]; omega

theorem cut_text {w : World} {A : Option Addr} {l : List UInt8} {n cap P V : Nat} (hn : n = l.length) (hnc : n ≤ cap) (hr : Rds w A (cells8 l)) (h : P + V ≤ n) :
    ∃ A', (∀ W, (Instr.slice 130 (.slice A n cap) (some (.int .i64 (P : Int))) (some (.int .i64 ((P : Int) + (V : Int)))) none).run Tryz.prog W = .ok (.slice A' V (cap - P)) W) ∧
      ∀ W, Below w.heap.size w W → (convert 130 9 (.slice A' V (cap - P))).run Tryz.prog W = .ok (.string ⟨((l.drop P).take V).toArray⟩) W := by
  refine ⟨if cap = P then A else A.map (·.add P), fun W => ?_, fun W hb => ?_⟩
  · rw [cut8 W A n cap (P : Int) ((P : Int) + (V : Int)) (by omega) (by omega) (by omega)]
    have e1 : ((P : Int)).toNat = P := by omega
    have e2 : ((P : Int) + (V : Int)).toNat = P + V := by omega
    rw [e1, e2]
    congr 2
    omega
  · refine text_q W (by simp; omega) ?_ (cap - P)
    have h1 : Rds w (if cap = P then A else A.map (·.add P)) ((cells8 l).drop P) := hr.drop (by rw [cells8_length]; omega)
    rw [cells8_drop] at h1
    have h2 := h1.take V
    rw [cells8_take] at h2
    exact h2.below hb



theorem getS_numr {n : Int} (h0 : -9223372036854775808 ≤ n) (h1 : n ≤ 9223372036854775807) (p r : List UInt8) : getS (p ++ (num n ++ r)) (p.length : Int) = (n, ((p ++ num n).length : Int), 0) := by
  rw [getS_in (by simp)]
  rw [List.drop_left, getL_num h0 h1]
  simp

end BinText
end Go.Proofs.YtiagjnimafdbhaaGreatDoor

namespace Go.Proofs.YtiagjnimafdbhaaGreatDoor
namespace BinAll
open Go.RowKit BinM Base BinE BinPut BinGet Bin8
open BinCut (cut_any arr10)

/-- the bytes of numbers, one behind the other -/
def nums (l : List Int) : List UInt8 := l.flatMap num
theorem nums_snoc (l : List Int) (x : Int) : nums (l ++ [x]) = nums l ++ num x := by simp [nums]
theorem nums_len (l : List Int) (h : ∀ x ∈ l, -9223372036854775808 ≤ x ∧ x ≤ 9223372036854775807) : (nums l).length ≤ 10 * l.length := by
  induction l with
  | nil => simp [nums]
  | cons a t ih =>
    have h1 := (num_can (h a (by simp)).1 (h a (by simp)).2).2.2
    have h2 := ih (fun x hx => h x (by simp [hx]))
    have e : nums (a :: t) = num a ++ nums t := by simp [nums]
    rw [e, List.length_append, List.length_cons]
    omega

/-- the loop's way -/
def Rel (w : World) (l : List Int) (o i : Value) (wr : World) : Prop :=
  ∃ k : Nat, k ≤ l.length ∧ i = .int .i64 k ∧ Own8 wr w.heap.size o (nums (l.take k)) ∧ Below w.heap.size w wr

set_option maxRecDepth 100000 in
set_option maxHeartbeats 1000000 in
theorem all_any (A : Option Addr) (l : List Int) (m c : Nat) (w : World) (h : IsInts w A m c l) (hlen : 10 * m ≤ 140737488355328) :
    Calls Tryz.prog 154 #[.slice A m c] w (Gives8 w (nums l)) := by
  obtain ⟨hm, hle, hmx, hr, hfit⟩ := h
  have hml : l.length ≤ m := Nat.le_of_eq hm.symm
  have hml2 : m ≤ l.length := Nat.le_of_eq hm
  have Hm := Lib.hid hm
  have Hr := Lib.hid hr
  have Hfit := Lib.hid hfit
  unfold maxLen at hmx
  clear hm hr hfit
  go_enter Tryz.func154, Tryz.ntmps154
  go_wp2
  go_loopw [3, 5, 6, 7, 10] (fun o _ _ _ i wr => Rel w l o i wr) (fun _ _ _ _ i _ => m - (intOf i).toNat)
  case atStart => exact ⟨0, Nat.zero_le _, rfl, Own8.nil _ _, Below.refl _ _⟩
  case round =>
    obtain ⟨k, hk, rfl, hown, hbel⟩ := hrel
    by_cases hlt : k < l.length
    · have hx := Hfit.out l[k] (List.getElem_mem hlt)
      obtain ⟨b, o, rfl, hb, hcell⟩ := (Hr.out.below hbel).at_ (k := k) (by simpa using hlt)
      have hcell' : wr.cell? ⟨b, o + k, none⟩ = some (.int .i64 l[k]) := by rw [hcell]; simp
      have hts : nums (l.take (k + 1)) = nums (l.take k) ++ num l[k] := by rw [List.take_succ_eq_append_getElem hlt, nums_snoc]
      have hnl : (nums (l.take k)).length ≤ 10 * k := by
        have := nums_len (l.take k) (fun x hx => Hfit.out x (List.mem_of_mem_take hx))
        have h2 : (l.take k).length ≤ k := by simp; omega
        omega
      have Hts := Lib.hid hts
      have Hown := Lib.hid hown
      have Hbel := Lib.hid hbel
      have hsz := hbel.size
      clear hts hown hbel hcell
      obtain ⟨hx0, hx1⟩ := hx
      generalize hxx : l[k] = x at *
      clear hxx
      have hk10 := (num_can hx0 hx1).2.2
      generalize hpp : nums (l.take k) = p at *
      have Hpp := Lib.hid hpp
      clear hpp
      go_wp2_with (first
        | (go_at_call 153; refine (cut_any _ _ hx0 hx1).mono ?_; rintro e w1 ⟨cs, rfl, hcs10, hcs1, hcst, hb1⟩; generalize hkk : (num x).length = q at *; have Hkk := Lib.hid hkk; have Hcs10 := Lib.hid hcs10; have Hcs1 := Lib.hid hcs1; have Hcst := Lib.hid hcst; have Hb1' := Lib.hid hb1; have hsz1 := hb1.size; clear hkk hcs10 hcs1 hcst hb1; have hsl := fun W => slice_pieces W w1.heap.size q hk10)
        | (refine wpList_store_row rfl 231 (.tmp 6) (.tmp 17) rfl w1.heap.size cs rfl rfl 231 _ (heap_alloc_last w1 _) (by rw [arr10, Hcs10.out]) (by rw [Hcs10.out]; rfl) Hcs1.out ?_; rw [World.setRow_alloc_new])
        | (at_builtin
           have hbw : Below wr.heap.size wr (w1.alloc (.cells cs 231)) := Hb1'.out.alloc hsz1 _
           have hrds : Rds (w1.alloc (.cells cs 231)) (some ⟨w1.heap.size, 0, none⟩) (cells8 (num x)) := by
             have h := (rds_new w1 cs 231).take q
             rw [Hcst.out] at h
             exact h
           refine app8 rfl (.tmp 19) (.tmp 21) rfl w.heap.size _ p rfl (own_kept Hown.out hbw) (some ⟨w1.heap.size, 0, none⟩) q 10 (num x) rfl Hkk.out.symm hrds (by rw [Hkk.out]; omega) (by simp; omega) ?_
           intro v2 w2 hown2 hg2
           have Hb2 := Lib.hid (own_below (own_kept Hown.out hbw) (Hbel.out.trans (hbw.mono hsz)) (Nat.le_refl _) (by simp; omega) hg2)
           have Hown2 := Lib.hid hown2
           clear hown2 hg2 hbw hrds))
      go_roundw
      case rel => exact ⟨k + 1, by omega, by go_num, by rw [Hts.out]; exact Hown2.out, Hb2.out⟩
      case measure => simp [intOf]; omega
    · have Hown := Lib.hid hown
      have Hbel := Lib.hid hbel
      clear hown hbel
      go_wp2
      go_ret
      have e : l.take k = l := List.take_of_length_le (by omega)
      have h2 := Hown.out
      rw [e] at h2
      exact ⟨_, rfl, h2, Hbel.out⟩

end BinAll
end Go.Proofs.YtiagjnimafdbhaaGreatDoor
