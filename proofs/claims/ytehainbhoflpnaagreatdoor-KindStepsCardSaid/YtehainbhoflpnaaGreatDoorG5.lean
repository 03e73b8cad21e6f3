/-
  The document's own reading of a number: what it returns, for all bytes and every place.
  Texts as bytes, written and read, by the program and by the document's own answers: what each call returns.
  bin.All: the bytes of numbers, one behind the other: what it returns, for all numbers.
-/
import Derived.Test.YtehainbhoflpnaaGreatDoorG2
import Derived.RegionTactic
import Derived.Deep.RegionWith
import Derived.Outline
import Derived.IntWalk
import Derived.Test.YtehainbhoflpnaaGreatDoorG1
namespace Go.Proofs.YtehainbhoflpnaaGreatDoor
namespace RefGet
open Go.RowKit BinM BinNum Base BinE BinPut BinGet Bin8 RefPut

/-- what the document's reading has put together behind j rounds, from the last byte on -/
def back (p : List UInt8) (j : Nat) : Nat := val (p.drop (p.length - j)) % 18446744073709551616

theorem back_step (p : List UInt8) (j : Nat) (h : j < p.length) : back p (j + 1) = (back p j * 128 + p[p.length - (j + 1)].toNat % 128) % 18446744073709551616 := by
  unfold back
  have e : p.length - j = p.length - (j + 1) + 1 := by omega
  have hd : p.drop (p.length - (j + 1)) = p[p.length - (j + 1)] :: p.drop (p.length - j) := by
    rw [e]; exact List.drop_eq_getElem_cons (by omega)
  rw [hd, val]
  omega

theorem back_all (p : List UInt8) (h : val p < 18446744073709551616) : back p p.length = val p := by
  unfold back
  rw [Nat.sub_self, List.drop_zero]
  exact Nat.mod_eq_of_lt h

theorem text_q (W : World) {A : Option Addr} {q : List UInt8} {m : Nat} (hq : q.length = m) (hr : Rds W A (cells8 q)) (c : Nat) :
    (convert 151 9 (.slice A m c)).run Tryz.prog W = .ok (.string ⟨q.toArray⟩) W :=
  run_text (P := Tryz.prog) 151 9 5 m c Tryz.underlying151 Tryz.underlying5 Tryz.underlying9 hq.symm hr

end RefGet
end Go.Proofs.YtehainbhoflpnaaGreatDoor

namespace Go.Proofs.YtehainbhoflpnaaGreatDoor
namespace BinText
open Go.RowKit BinM BinNum Base BinE BinPut BinGet Bin8
open RefPut (refPut_any)
open RefGet (text_q)

/-- a text's bytes -/
def txt (s : List UInt8) : List UInt8 := num (s.length : Int) ++ s

theorem size_in {s : ByteArray} (h : s.size ≤ 140737488355328) : -9223372036854775808 ≤ (s.size : Int) ∧ (s.size : Int) ≤ 9223372036854775807 := by omega

theorem text_any (A : Option Addr) (l : List UInt8) (m cap : Nat) (s : ByteArray) (w : World) (hm : m = l.length) (hlen : m + 10 + s.size ≤ 140737488355328) (hr : Rds w A (cells8 l)) :
    Calls Tryz.prog 170 #[.slice A m cap, .string s] w (Gives8 w (l ++ txt s.data.toList)) := by
  have hs := size_in (s := s) (by omega)
  have hk := (num_can hs.1 hs.2).2.2
  have e : l ++ txt s.data.toList = (l ++ num (s.size : Int)) ++ s.data.toList := by unfold txt; simp
  rw [e]
  have hml : l.length ≤ m := Nat.le_of_eq hm.symm
  have Hm := Lib.hid hm
  have Hr := Lib.hid hr
  clear hm hr e
  go_enter Tryz.func170, Tryz.ntmps170
  go_wp2_with fail
  refine (put_any A l m cap (s.size : Int) w Hm.out (by omega) hs.1 hs.2 Hr.out).mono ?_
  rintro e w1 ⟨v, rfl, hown, hb⟩
  have hpl : (l ++ num (s.size : Int)).length ≤ m + 10 := by rw [List.length_append]; omega
  have Hown : Hid (Own8 w1 w.heap.size v (l ++ num (s.size : Int))) := Lib.hid hown
  have hsz := hb.size
  have Hb := Lib.hid hb
  clear hown hb
  go_wp2_with (at_builtin
               refine app8s rfl (.tmp 8) (.tmp 9) rfl w.heap.size v (l ++ num (s.size : Int)) rfl Hown.out s rfl (by omega) hsz ?_
               intro v2 w2 hown2 hg2
               have Hb2 := Lib.hid (own_below Hown.out Hb.out (Nat.le_refl _) hsz hg2)
               have Hown2 := Lib.hid hown2
               clear hown2 hg2)
  go_ret
  exact ⟨v2, rfl, Hown2.out, Hb2.out⟩

theorem refText_any (A : Option Addr) (l : List UInt8) (m cap : Nat) (s : ByteArray) (w : World) (hm : m = l.length) (hlen : m + 10 + s.size ≤ 140737488355328) (hr : Rds w A (cells8 l)) :
    Calls Tryz.prog 194 #[.slice A m cap, .string s] w (Gives8 w (l ++ txt s.data.toList)) := by
  have hs := size_in (s := s) (by omega)
  have hk := (num_can hs.1 hs.2).2.2
  have e : l ++ txt s.data.toList = (l ++ num (s.size : Int)) ++ s.data.toList := by unfold txt; simp
  rw [e]
  have hml : l.length ≤ m := Nat.le_of_eq hm.symm
  have Hm := Lib.hid hm
  have Hr := Lib.hid hr
  clear hm hr e
  go_enter Tryz.func194, Tryz.ntmps194
  go_wp2_with fail
  refine (refPut_any A l m cap (s.size : Int) w Hm.out (by omega) hs.1 hs.2 Hr.out).mono ?_
  rintro e w1 ⟨v, rfl, hown, hb⟩
  have hpl : (l ++ num (s.size : Int)).length ≤ m + 10 := by rw [List.length_append]; omega
  have Hown : Hid (Own8 w1 w.heap.size v (l ++ num (s.size : Int))) := Lib.hid hown
  have hsz := hb.size
  have Hb := Lib.hid hb
  clear hown hb
  go_wp2_with (at_builtin
               refine app8s rfl (.tmp 10) (.tmp 11) rfl w.heap.size v (l ++ num (s.size : Int)) rfl Hown.out s rfl (by omega) hsz ?_
               intro v2 w2 hown2 hg2
               have Hb2 := Lib.hid (own_below Hown.out Hb.out (Nat.le_refl _) hsz hg2)
               have Hown2 := Lib.hid hown2
               clear hown2 hg2)
  go_ret
  exact ⟨v2, rfl, Hown2.out, Hb2.out⟩

end BinText
end Go.Proofs.YtehainbhoflpnaaGreatDoor

namespace Go.Proofs.YtehainbhoflpnaaGreatDoor
namespace BinAll
open Go.RowKit BinM Base BinE BinPut BinGet Bin8
open BinCut (cut_any arr10)

/-- the bytes of numbers, one behind the other -/
def nums (l : List Int) : List UInt8 := l.flatMap num
theorem nums_snoc (l : List Int) (x : Int) : nums (l ++ [x]) = nums l ++ num x := by simp [nums]
theorem nums_len (l : List Int) (h : ∀ x ∈ l, -9223372036854775808 ≤ x ∧ x ≤ 9223372036854775807) : (nums l).length ≤ 10 * l.length := by
  induction l with
  | nil => simp [nums]
  | cons a t ih =>
    have h1 := (num_can (h a (by simp)).1 (h a (by simp)).2).2.2
    have h2 := ih (fun x hx => h x (by simp [hx]))
    have e : nums (a :: t) = num a ++ nums t := by simp [nums]
    rw [e, List.length_append, List.length_cons]
    omega

/-- the loop's way -/
def Rel (w : World) (l : List Int) (o i : Value) (wr : World) : Prop :=
  ∃ k : Nat, k ≤ l.length ∧ i = .int .i64 k ∧ Own8 wr w.heap.size o (nums (l.take k)) ∧ Below w.heap.size w wr

set_option maxRecDepth 100000 in
set_option maxHeartbeats 1000000 in
theorem all_any (A : Option Addr) (l : List Int) (m c : Nat) (w : World) (h : IsInts w A m c l) (hlen : 10 * m ≤ 140737488355328) :
    Calls Tryz.prog 169 #[.slice A m c] w (Gives8 w (nums l)) := by
  obtain ⟨hm, hle, hmx, hr, hfit⟩ := h
  have hml : l.length ≤ m := Nat.le_of_eq hm.symm
  have hml2 : m ≤ l.length := Nat.le_of_eq hm
  have Hm := Lib.hid hm
  have Hr := Lib.hid hr
  have Hfit := Lib.hid hfit
  unfold maxLen at hmx
  clear hm hr hfit
  go_enter Tryz.func169, Tryz.ntmps169
  go_wp2
  go_loopw [3, 5, 6, 7, 10] (fun o _ _ _ i wr => Rel w l o i wr) (fun _ _ _ _ i _ => m - (intOf i).toNat)
  case atStart => exact ⟨0, Nat.zero_le _, rfl, Own8.nil _ _, Below.refl _ _⟩
  case round =>
    obtain ⟨k, hk, rfl, hown, hbel⟩ := hrel
    by_cases hlt : k < l.length
    · have hx := Hfit.out l[k] (List.getElem_mem hlt)
      obtain ⟨b, o, rfl, hb, hcell⟩ := (Hr.out.below hbel).at_ (k := k) (by simpa using hlt)
      have hcell' : wr.cell? ⟨b, o + k, none⟩ = some (.int .i64 l[k]) := by rw [hcell]; simp
      have hts : nums (l.take (k + 1)) = nums (l.take k) ++ num l[k] := by rw [List.take_succ_eq_append_getElem hlt, nums_snoc]
      have hnl : (nums (l.take k)).length ≤ 10 * k := by
        have := nums_len (l.take k) (fun x hx => Hfit.out x (List.mem_of_mem_take hx))
        have h2 : (l.take k).length ≤ k := by simp; omega
        omega
      have Hts := Lib.hid hts
      have Hown := Lib.hid hown
      have Hbel := Lib.hid hbel
      have hsz := hbel.size
      clear hts hown hbel hcell
      obtain ⟨hx0, hx1⟩ := hx
      generalize hxx : l[k] = x at *
      clear hxx
      have hk10 := (num_can hx0 hx1).2.2
      generalize hpp : nums (l.take k) = p at *
      have Hpp := Lib.hid hpp
      clear hpp
      go_wp2_with (first
        | (go_at_call 168; refine (cut_any _ _ hx0 hx1).mono ?_; rintro e w1 ⟨cs, rfl, hcs10, hcs1, hcst, hb1⟩; generalize hkk : (num x).length = q at *; have Hkk := Lib.hid hkk; have Hcs10 := Lib.hid hcs10; have Hcs1 := Lib.hid hcs1; have Hcst := Lib.hid hcst; have Hb1' := Lib.hid hb1; have hsz1 := hb1.size; clear hkk hcs10 hcs1 hcst hb1; have hsl := fun W => slice_pieces W w1.heap.size q hk10)
        | (refine wpList_store_row rfl 229 (.tmp 6) (.tmp 17) rfl w1.heap.size cs rfl rfl 229 _ (heap_alloc_last w1 _) (by rw [arr10, Hcs10.out]) (by rw [Hcs10.out]; rfl) Hcs1.out ?_; rw [World.setRow_alloc_new])
        | (at_builtin
           have hbw : Below wr.heap.size wr (w1.alloc (.cells cs 229)) := Hb1'.out.alloc hsz1 _
           have hrds : Rds (w1.alloc (.cells cs 229)) (some ⟨w1.heap.size, 0, none⟩) (cells8 (num x)) := by
             have h := (rds_new w1 cs 229).take q
             rw [Hcst.out] at h
             exact h
           refine app8 rfl (.tmp 19) (.tmp 21) rfl w.heap.size _ p rfl (own_kept Hown.out hbw) (some ⟨w1.heap.size, 0, none⟩) q 10 (num x) rfl Hkk.out.symm hrds (by rw [Hkk.out]; omega) (by simp; omega) ?_
           intro v2 w2 hown2 hg2
           have Hb2 := Lib.hid (own_below (own_kept Hown.out hbw) (Hbel.out.trans (hbw.mono hsz)) (Nat.le_refl _) (by simp; omega) hg2)
           have Hown2 := Lib.hid hown2
           clear hown2 hg2 hbw hrds))
      go_roundw
      case rel => exact ⟨k + 1, by omega, by go_num, by rw [Hts.out]; exact Hown2.out, Hb2.out⟩
      case measure => simp [intOf]; omega
    · have Hown := Lib.hid hown
      have Hbel := Lib.hid hbel
      clear hown hbel
      go_wp2
      go_ret
      have e : l.take k = l := List.take_of_length_le (by omega)
      have h2 := Hown.out
      rw [e] at h2
      exact ⟨_, rfl, h2, Hbel.out⟩

end BinAll
end Go.Proofs.YtehainbhoflpnaaGreatDoor
