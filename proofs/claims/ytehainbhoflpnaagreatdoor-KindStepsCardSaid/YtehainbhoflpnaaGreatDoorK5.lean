/- pieces -/
import Derived.Test.YtehainbhoflpnaaGreatDoorK2
import Derived.RegionTactic
import Derived.Deep.RegionWith
import Derived.IntWalk
namespace Go.Proofs.YtehainbhoflpnaaGreatDoor
namespace RefGet
open Go.RowKit BinM BinNum Base BinE BinPut BinGet Bin8 RefPut
def back (p : List UInt8) (j : Nat) : Nat := val (p.drop (p.length - j)) % 18446744073709551616
theorem V4 (p : List UInt8) (j : Nat) (h : j < p.length) : back p (j + 1) = (back p j * 128 + p[p.length - (j + 1)].toNat % 128) % 18446744073709551616 := by
 unfold back
 have e : p.length - j = p.length - (j + 1) + 1 := by omega
 have hd : p.drop (p.length - (j + 1)) = p[p.length - (j + 1)] :: p.drop (p.length - j) := by
  rw [e]; exact List.drop_eq_getElem_cons (by omega)
 rw [hd, val]
 omega
theorem gP (p : List UInt8) (h : val p < 18446744073709551616) : back p p.length = val p := by
 unfold back
 rw [Nat.sub_self, List.drop_zero]
 exact Nat.mod_eq_of_lt h
theorem Zi9 (W : World) {A : Option Addr} {q : List UInt8} {m : Nat} (hq : q.length = m) (hr : Rds W A (zW q)) (c : Nat) :
 (convert 151 9 (.slice A m c)).run Tryz.prog W = .ok (.string ⟨q.toArray⟩) W :=
 run_text (P := Tryz.prog) 151 9 5 m c Tryz.underlying151 Tryz.underlying5 Tryz.underlying9 hq.symm hr
end RefGet
namespace BinText
open Go.RowKit BinM BinNum Base BinE BinPut BinGet Bin8
open RefPut (QJ)
open RefGet (Zi9)
def txt (s : List UInt8) : List UInt8 := num (s.length : Int) ++ s
theorem zb4 {s : ByteArray} (h : s.size ≤ 140737488355328) : -9223372036854775808 ≤ (s.size : Int) ∧ (s.size : Int) ≤ 9223372036854775807 := by omega
theorem Yv (A : Option Addr) (l : List UInt8) (m cap : Nat) (s : ByteArray) (w : World) (hm : m = l.length) (hlen : m + 10 + s.size ≤ 140737488355328) (hr : Rds w A (zW l)) :
 Calls Tryz.prog 170 #[.slice A m cap, .string s] w (Xe w (l ++ txt s.data.toList)) := by
 have hs := zb4 (s := s) (by omega)
 have hk := (qF hs.1 hs.2).2.2
 have e : l ++ txt s.data.toList = (l ++ num (s.size : Int)) ++ s.data.toList := by unfold txt; simp
 rw [e]
 have hml : l.length ≤ m := Nat.le_of_eq hm.symm
 have Hm := zH hm
 have Hr := zH hr
 clear hm hr e
 go_enter Tryz.func170, Tryz.ntmps170
 go_wp2_with fail
 refine (Vm A l m cap (s.size : Int) w Hm.out (by omega) hs.1 hs.2 Hr.out).mono ?_
 rintro e w1 ⟨v, rfl, hown, hb⟩
 have hpl : (l ++ num (s.size : Int)).length ≤ m + 10 := by rw [List.length_append]; omega
 have Hown : Hid (qD w1 w.heap.size v (l ++ num (s.size : Int))) := zH hown
 have hsz := hb.size
 have Hb := zH hb
 clear hown hb
 go_wp2_with (at_builtin
              refine Zi2 rfl (.tmp 8) (.tmp 9) rfl w.heap.size v (l ++ num (s.size : Int)) rfl Hown.out s rfl (by omega) hsz ?_
              intro v2 w2 hown2 hg2
              have Hb2 := zH (own_below Hown.out Hb.out (Nat.le_refl _) hsz hg2)
              have Hown2 := zH hown2
              clear hown2 hg2)
 go_ret
 exact ⟨v2, rfl, Hown2.out, Hb2.out⟩
theorem jS (A : Option Addr) (l : List UInt8) (m cap : Nat) (s : ByteArray) (w : World) (hm : m = l.length) (hlen : m + 10 + s.size ≤ 140737488355328) (hr : Rds w A (zW l)) :
 Calls Tryz.prog 194 #[.slice A m cap, .string s] w (Xe w (l ++ txt s.data.toList)) := by
 have hs := zb4 (s := s) (by omega)
 have hk := (qF hs.1 hs.2).2.2
 have e : l ++ txt s.data.toList = (l ++ num (s.size : Int)) ++ s.data.toList := by unfold txt; simp
 rw [e]
 have hml : l.length ≤ m := Nat.le_of_eq hm.symm
 have Hm := zH hm
 have Hr := zH hr
 clear hm hr e
 go_enter Tryz.func194, Tryz.ntmps194
 go_wp2_with fail
 refine (QJ A l m cap (s.size : Int) w Hm.out (by omega) hs.1 hs.2 Hr.out).mono ?_
 rintro e w1 ⟨v, rfl, hown, hb⟩
 have hpl : (l ++ num (s.size : Int)).length ≤ m + 10 := by rw [List.length_append]; omega
 have Hown : Hid (qD w1 w.heap.size v (l ++ num (s.size : Int))) := zH hown
 have hsz := hb.size
 have Hb := zH hb
 clear hown hb
 go_wp2_with (at_builtin
              refine Zi2 rfl (.tmp 10) (.tmp 11) rfl w.heap.size v (l ++ num (s.size : Int)) rfl Hown.out s rfl (by omega) hsz ?_
              intro v2 w2 hown2 hg2
              have Hb2 := zH (own_below Hown.out Hb.out (Nat.le_refl _) hsz hg2)
              have Hown2 := zH hown2
              clear hown2 hg2)
 go_ret
 exact ⟨v2, rfl, Hown2.out, Hb2.out⟩
end BinText
namespace BinAll
open Go.RowKit BinM Base BinE BinPut BinGet Bin8
open BinCut (VD V5)
def nums (l : List Int) : List UInt8 := l.flatMap num
theorem zi4 (l : List Int) (x : Int) : nums (l ++ [x]) = nums l ++ num x := by simp [nums]
theorem zq8 (l : List Int) (h : ∀ x ∈ l, -9223372036854775808 ≤ x ∧ x ≤ 9223372036854775807) : (nums l).length ≤ 10 * l.length := by
 induction l with
 | nil => simp [nums]
 | cons a t ih =>
   have h1 := (qF (h a (by simp)).1 (h a (by simp)).2).2.2
   have h2 := ih (fun x hx => h x (by simp [hx]))
   have e : nums (a :: t) = num a ++ nums t := by simp [nums]
   rw [e, List.length_append, List.length_cons]
   omega
def Rel (w : World) (l : List Int) (o i : Value) (wr : World) : Prop :=
 ∃ k : Nat, k ≤ l.length ∧ i = .int .i64 k ∧ qD wr w.heap.size o (nums (l.take k)) ∧ Below w.heap.size w wr
set_option maxRecDepth 100000 in
set_option maxHeartbeats 1000000 in
theorem Zg3 (A : Option Addr) (l : List Int) (m c : Nat) (w : World) (h : GZ w A m c l) (hlen : 10 * m ≤ 140737488355328) :
 Calls Tryz.prog 169 #[.slice A m c] w (Xe w (nums l)) := by
 obtain ⟨hm, hle, hmx, hr, hfit⟩ := h
 have hml : l.length ≤ m := Nat.le_of_eq hm.symm
 have hml2 : m ≤ l.length := Nat.le_of_eq hm
 have Hm := zH hm
 have Hr := zH hr
 have Hfit := zH hfit
 unfold maxLen at hmx
 clear hm hr hfit
 go_enter Tryz.func169, Tryz.ntmps169
 go_wp2
 go_loopw [3, 5, 6, 7, 10] (fun o _ _ _ i wr => Rel w l o i wr) (fun _ _ _ _ i _ => m - (intOf i).toNat)
 case atStart => exact ⟨0, Nat.zero_le _, rfl, qD.nil _ _, Below.refl _ _⟩
 case round =>
  obtain ⟨k, hk, rfl, hown, hbel⟩ := hrel
  by_cases hlt : k < l.length
  · have hx := Hfit.out l[k] (List.getElem_mem hlt)
    obtain ⟨b, o, rfl, hb, hcell⟩ := (Hr.out.below hbel).at_ (k := k) (by simpa using hlt)
    have hcell' : wr.cell? ⟨b, o + k, none⟩ = some (.int .i64 l[k]) := by rw [hcell]; simp
    have hts : nums (l.take (k + 1)) = nums (l.take k) ++ num l[k] := by rw [List.take_succ_eq_append_getElem hlt, zi4]
    have hnl : (nums (l.take k)).length ≤ 10 * k := by
     have := zq8 (l.take k) (fun x hx => Hfit.out x (List.mem_of_mem_take hx))
     have h2 : (l.take k).length ≤ k := by simp; omega
     omega
    have Hts := zH hts
    have Hown := zH hown
    have Hbel := zH hbel
    have hsz := hbel.size
    clear hts hown hbel hcell
    obtain ⟨hx0, hx1⟩ := hx
    generalize hxx : l[k] = x at *
    clear hxx
    have hk10 := (qF hx0 hx1).2.2
    generalize hpp : nums (l.take k) = p at *
    have Hpp := zH hpp
    clear hpp
    go_wp2_with (first
     | (go_at_call 168; refine (VD _ _ hx0 hx1).mono ?_; rintro e w1 ⟨cs, rfl, hcs10, hcs1, hcst, hb1⟩; generalize hkk : (num x).length = q at *; have Hkk := zH hkk; have Hcs10 := zH hcs10; have Hcs1 := zH hcs1; have Hcst := zH hcst; have Hb1' := zH hb1; have hsz1 := hb1.size; clear hkk hcs10 hcs1 hcst hb1; have hsl := fun W => YD W w1.heap.size q hk10)
     | (refine wpList_store_row rfl 229 (.tmp 6) (.tmp 17) rfl w1.heap.size cs rfl rfl 229 _ (heap_alloc_last w1 _) (by rw [V5, Hcs10.out]) (by rw [Hcs10.out]; rfl) Hcs1.out ?_; rw [World.setRow_alloc_new])
     | (at_builtin
        have hbw : Below wr.heap.size wr (w1.alloc (.cells cs 229)) := Hb1'.out.alloc hsz1 _
        have hrds : Rds (w1.alloc (.cells cs 229)) (some ⟨w1.heap.size, 0, none⟩) (zW (num x)) := by
         have h := (zB w1 cs 229).take q
         rw [Hcst.out] at h
         exact h
        refine Zq0 rfl (.tmp 19) (.tmp 21) rfl w.heap.size _ p rfl (Zw3 Hown.out hbw) (some ⟨w1.heap.size, 0, none⟩) q 10 (num x) rfl Hkk.out.symm hrds (by rw [Hkk.out]; omega) (by simp; omega) ?_
        intro v2 w2 hown2 hg2
        have Hb2 := zH (own_below (Zw3 Hown.out hbw) (Hbel.out.trans (hbw.mono hsz)) (Nat.le_refl _) (by simp; omega) hg2)
        have Hown2 := zH hown2
        clear hown2 hg2 hbw hrds))
    go_roundw
    case rel => exact ⟨k + 1, by omega, by go_num, by rw [Hts.out]; exact Hown2.out, Hb2.out⟩
    case measure => simp [intOf]; omega
  · have Hown := zH hown
    have Hbel := zH hbel
    clear hown hbel
    go_wp2
    go_ret
    have e : l.take k = l := List.take_of_length_le (by omega)
    have h2 := Hown.out
    rw [e] at h2
    exact ⟨_, rfl, h2, Hbel.out⟩
end BinAll
end Go.Proofs.YtehainbhoflpnaaGreatDoor
