/- pieces -/
import Derived.Lib.AppendZerosOnto
import Derived.Lib.SliceRun
import Derived.Test.YtehainbhoflpnaaGreatDoorK7
import Derived.Test.YtehainbhoflpnaaGreatDoorK6
namespace Go.Proofs.YtehainbhoflpnaaGreatDoor
namespace Cat
open Go.RowKit BinM Base BinE BinPut Bin8
end Cat
namespace InsP
open Go.RowKit InsM Base InsA InsB Stru InsC BinM BinE BinPut Bin8 BinAll Cat
def Zn2 (w : World) (base : Nat) (v : Value) (l : List Int) : Prop := w.ownsRow base 2 1 v l.length (l.map (Value.int .i64))
theorem zc6 (l : List Int) : ∀ u ∈ l.map (Value.int .i64), u.oneCell' = true := by
 intro u hu
 obtain ⟨t, _, rfl⟩ := List.mem_map.1 hu
 rfl
theorem Zn2.slice {w : World} {base : Nat} {v : Value} {p : List Int} (h : Zn2 w base v p) :
 ∃ A c, v = .slice A p.length c ∧ p.length ≤ c ∧ c ≤ maxLen ∧ Rds w A (p.map (Value.int .i64)) := by
 obtain ⟨A, c, rfl, h1, h2, h3, _⟩ := zS h
 exact ⟨A, c, rfl, h1, h2, Rds.own h⟩
def Zp0 (x : InsT) : List Int := if Zv x.1 = 0 then [x.1] else [x.1, x.2]
def zv1 (n : Nat) (l : List InsT) : List Int := (n : Int) :: l.flatMap Zp0
def Zo3 (x : InsT) : Bool := !(Zv x.1 == -1) && decide (0 ≤ x.2) && !((Zv x.1 == 0) && !(x.2 == 0))
theorem Zn6 {n : Nat} {l : List InsT} (hn : n ≤ 512) (h : ∀ x ∈ l, ZI x.1 ∧ ZI x.2) : ∀ x ∈ zv1 n l, -9223372036854775808 ≤ x ∧ x ≤ 9223372036854775807 := by
 intro y hy
 simp only [zv1, List.mem_cons, List.mem_flatMap] at hy
 rcases hy with rfl | ⟨x, hx, hy⟩
 · omega
 · have := h x hx
   unfold ZI at this
   unfold Zp0 at hy
   split at hy
   · simp at hy; subst hy; exact this.1
   · simp at hy
     rcases hy with rfl | rfl
     · exact this.1
     · exact this.2
def JU (w : World) (r : List UInt8 × Int) (e : Ending) (w' : World) : Prop :=
 ∃ v, e = .returned (.tuple #[v, .int .i64 r.2]) ∧ qD w' w.heap.size v r.1 ∧ Below w.heap.size w w'
theorem qQ {w w' : World} {r : List UInt8 × Int} {v : Value} {t : List UInt8} {n : Int} (h : r = (t, n)) (ho : qD w' w.heap.size v t) (hb : Below w.heap.size w w') : JU w r (.returned (.tuple #[v, .int .i64 n])) w' := by
 subst h
 exact ⟨v, rfl, ho, hb⟩
def Rel (w : World) (l : List InsT) (o i : Value) (wr : World) : Prop :=
 ∃ k : Nat, k ≤ l.length ∧ i = .int .i64 k ∧ (∀ j (hj : j < l.length), j < k → Zo3 l[j] = true) ∧ Zn2 wr w.heap.size o (zv1 l.length (l.take k)) ∧ Below w.heap.size w wr
end InsP
namespace PoolD
open Go.RowKit Base BinM BinE BinPut Bin8 BinAll BinText DescM DescW Stru PoolM PoolA PoolB
def Zt (c : Cst) : List UInt8 := num c.kind ++ (if c.kind = 1 then num c.n else if c.kind = 2 ∨ c.kind = 3 then txt c.s else txt c.s ++ txt c.t ++ txt c.u)
theorem zs3 (w : World) (k : Int) (h : ZI k) : GZ (w.alloc (.cells #[.int .i64 k] 2)) (some ⟨w.heap.size, 0, none⟩) 1 1 [k] :=
 ⟨rfl, Nat.le_refl _, by simp [maxLen], zB w #[.int .i64 k] _, by intro x hx; simp at hx; subst hx; exact h⟩
theorem zr9 (w : World) (o : Obj) (k : Int) (h : ZI k) : GZ ((w.alloc o).alloc (.cells #[.int .i64 k] 2)) (some ⟨w.heap.size + 1, 0, none⟩) 1 1 [k] := by
 have := zs3 (w.alloc o) k h
 simpa using this
theorem Qf (s : List UInt8) (h : s.length ≤ 1048576) : (txt s).length ≤ 10 + s.length := by
 have := (qF (n := (s.length : Int)) (by omega) (by omega)).2.2
 unfold txt
 rw [List.length_append]; omega
set_option maxRecDepth 100000 in
set_option maxHeartbeats 4000000 in
theorem gH (k n : Int) (s t u : List UInt8) (w : World) (hk : ZI k) (hn : ZI n) (hs : s.length ≤ 1048576) (ht : t.length ≤ 1048576) (hu : u.length ≤ 1048576) :
 Calls Tryz.prog 132 #[.agg #[.int .i64 k, .int .i64 n, .string ⟨s.toArray⟩, .string ⟨t.toArray⟩, .string ⟨u.toArray⟩]] w (Xe w (Zt ⟨k, n, s, t, u⟩)) := by
 have hB0 := (Below.refl w.heap.size w).alloc (Nat.le_refl _) (.cells #[.int .i64 k, .int .i64 n, .string ⟨s.toArray⟩, .string ⟨t.toArray⟩, .string ⟨u.toArray⟩] 75)
 have HB0 := zH hB0
 have Hbox := zH (Qe.new w k n s t u 75)
 have Hi := zH (zr9 w (.cells #[.int .i64 k, .int .i64 n, .string ⟨s.toArray⟩, .string ⟨t.toArray⟩, .string ⟨u.toArray⟩] 75) k hk)
 have hk' := hk
 have hn' := hn
 unfold ZI at hk' hn'
 have hkl := (qF hk'.1 hk'.2).2.2
 clear hB0
 go_enter Tryz.func132, Tryz.ntmps132
 go_wp2_with fail
 refine (Zg3 _ [k] 1 1 _ Hi.out (by omega)).mono ?_
 rintro e w1 ⟨v1, rfl, hown1, hb1⟩
 have hnk : nums [k] = num k := by simp [nums]
 rw [hnk] at hown1
 obtain ⟨A4, c4, rfl, h41, h42, hr4, _⟩ := qD.slice hown1
 have hb1' := (HB0.out.alloc (by simp) _).trans (hb1.mono (by simp; omega))
 obtain ⟨hc0, hc1, hc2, hc3, hc4⟩ := Qe.below (Qe.below Hbox.out ((Below.refl _ _).alloc (Nat.le_refl _) (.cells #[.int .i64 k] 2)) (by simp)) hb1 (by simp; omega)
 have Hb1 := zH hb1'
 have hsz1 := hb1'.size
 have Hr4 := zH hr4
 generalize hq4 : (num k).length = q4 at *
 have Hq4 := zH hq4
 clear hown1 hr4 hb1 hb1' hq4 hnk
 by_cases h1 : k = 1
 · subst h1
   have H := zH (show Zt ⟨1, n, s, t, u⟩ = num 1 ++ num n from rfl)
   go_wp2_with fail
   refine (Vm A4 (num 1) q4 c4 n w1 Hq4.out.symm (by omega) hn'.1 hn'.2 Hr4.out).mono ?_
   rintro e w2 ⟨v2, rfl, hown2, hb2⟩
   have Hown2 := zH (Z6 hown2 hsz1)
   have Hb2 := zH (Hb1.out.trans (hb2.mono hsz1))
   clear hown2 hb2
   go_wp2_with fail
   go_ret
   exact ⟨_, rfl, by rw [H.out]; exact Hown2.out, Hb2.out⟩
 · by_cases h2 : k = 2 ∨ k = 3
   · have H := zH (show Zt ⟨k, n, s, t, u⟩ = num k ++ txt s by unfold Zt; rw [if_neg h1, if_pos h2])
     rcases h2 with rfl | rfl
     all_goals
      go_wp2_with fail
      refine (Yv A4 (num _) q4 c4 ⟨s.toArray⟩ w1 Hq4.out.symm (by rw [size_mk]; omega) Hr4.out).mono ?_
      rintro e w2 ⟨v2, rfl, hown2, hb2⟩
      have Hown2 := zH (Z6 hown2 hsz1)
      have Hb2 := zH (Hb1.out.trans (hb2.mono hsz1))
      clear hown2 hb2
      go_wp2_with fail
      go_ret
      exact ⟨_, rfl, by rw [H.out]; exact Hown2.out, Hb2.out⟩
   · have H := zH (show Zt ⟨k, n, s, t, u⟩ = num k ++ txt s ++ txt t ++ txt u by unfold Zt; rw [if_neg h1, if_neg h2]; simp)
     have g1 : (k == 1) = false := by simpa using h1
     have g2 : (k == 2) = false := by simp; omega
     have g3 : (k == 3) = false := by simp; omega
     have hts := Qf s hs
     have htt := Qf t ht
     have htu := Qf u hu
     generalize hX : num k = X at *
     clear h1 h2
     go_wp2_with fail
     have hBw := Hb1.out.drew
     have hs1 : (ByteArray.mk s.toArray).size = s.length := size_mk s
     have ht1 : (ByteArray.mk t.toArray).size = t.length := size_mk t
     have hu1 : (ByteArray.mk u.toArray).size = u.length := size_mk u
     go_region_held3 (fun w' => w'.cell? ⟨w.heap.size, 2, none⟩ = some (.string ⟨s.toArray⟩) ∧ w'.cell? ⟨w.heap.size, 3, none⟩ = some (.string ⟨t.toArray⟩) ∧ w'.cell? ⟨w.heap.size, 4, none⟩ = some (.string ⟨u.toArray⟩))
      (first | go_keep)
      (first
       | (go_at_call 170; refine (Yv A6 _ q6 c6 ⟨u.toArray⟩ _ Hq6.out.symm (by omega) Hr6.out).mono ?_; rintro e w7 ⟨v7, rfl, hown7, hb7⟩
          have hd2 : w7.cell? ⟨w.heap.size, 2, none⟩ = some (.string ⟨s.toArray⟩) := (hb7.cell (p := ⟨w.heap.size, 2, none⟩) (World.block_lt_of_cell? _ ⟨w.heap.size, 2, none⟩ he2)).trans he2
          have hd3 : w7.cell? ⟨w.heap.size, 3, none⟩ = some (.string ⟨t.toArray⟩) := (hb7.cell (p := ⟨w.heap.size, 3, none⟩) (World.block_lt_of_cell? _ ⟨w.heap.size, 3, none⟩ he3)).trans he3
          have hd4 : w7.cell? ⟨w.heap.size, 4, none⟩ = some (.string ⟨u.toArray⟩) := (hb7.cell (p := ⟨w.heap.size, 4, none⟩) (World.block_lt_of_cell? _ ⟨w.heap.size, 4, none⟩ he4)).trans he4
          have Hb7 := zH (Hb6.out.trans (hb7.mono Hb6.out.size))
          have Hown7 := zH (Z6 hown7 Hb6.out.size)
          clear hown7 hb7 he2 he3 he4)
       | (go_at_call 170; refine (Yv A5 _ q5 c5 ⟨t.toArray⟩ _ Hq5.out.symm (by omega) Hr5.out).mono ?_; rintro e w6 ⟨v6, rfl, hown6, hb6⟩
          obtain ⟨A6, c6, rfl, h61, h62, hr6, _⟩ := qD.slice hown6
          have he2 : w6.cell? ⟨w.heap.size, 2, none⟩ = some (.string ⟨s.toArray⟩) := (hb6.cell (p := ⟨w.heap.size, 2, none⟩) (World.block_lt_of_cell? _ ⟨w.heap.size, 2, none⟩ hd2)).trans hd2
          have he3 : w6.cell? ⟨w.heap.size, 3, none⟩ = some (.string ⟨t.toArray⟩) := (hb6.cell (p := ⟨w.heap.size, 3, none⟩) (World.block_lt_of_cell? _ ⟨w.heap.size, 3, none⟩ hd3)).trans hd3
          have he4 : w6.cell? ⟨w.heap.size, 4, none⟩ = some (.string ⟨u.toArray⟩) := (hb6.cell (p := ⟨w.heap.size, 4, none⟩) (World.block_lt_of_cell? _ ⟨w.heap.size, 4, none⟩ hd4)).trans hd4
          have Hr6 := zH hr6
          have Hb6 := zH (Hb5.out.trans (hb6.mono Hb5.out.size))
          generalize hq6 : (X ++ txt (ByteArray.mk s.toArray).data.toList ++ txt (ByteArray.mk t.toArray).data.toList).length = q6 at *
          have Hq6 := zH hq6
          have hq6l : q6 ≤ q5 + 10 + t.length := by rw [← hq6, List.length_append, Hq5.out]; show q5 + (txt t).length ≤ _; omega
          clear hown6 hr6 hb6 hq6 hd2 hd3 hd4)
       | (go_at_call 170; refine (Yv A4 X q4 c4 ⟨s.toArray⟩ _ Hq4.out.symm (by omega) Hr4.out.drew).mono ?_; rintro e w5 ⟨v5, rfl, hown5, hb5⟩
          obtain ⟨A5, c5, rfl, h51, h52, hr5, _⟩ := qD.slice hown5
          have hd2 : w5.cell? ⟨w.heap.size, 2, none⟩ = some (.string ⟨s.toArray⟩) := (hb5.cell (p := ⟨w.heap.size, 2, none⟩) (World.block_lt_of_cell? _ ⟨w.heap.size, 2, none⟩ hc2)).trans hc2
          have hd3 : w5.cell? ⟨w.heap.size, 3, none⟩ = some (.string ⟨t.toArray⟩) := (hb5.cell (p := ⟨w.heap.size, 3, none⟩) (World.block_lt_of_cell? _ ⟨w.heap.size, 3, none⟩ hc3)).trans hc3
          have hd4 : w5.cell? ⟨w.heap.size, 4, none⟩ = some (.string ⟨u.toArray⟩) := (hb5.cell (p := ⟨w.heap.size, 4, none⟩) (World.block_lt_of_cell? _ ⟨w.heap.size, 4, none⟩ hc4)).trans hc4
          have Hr5 := zH hr5
          have Hb5 := zH (hBw.trans (hb5.mono hsz1))
          generalize hq5 : (X ++ txt (ByteArray.mk s.toArray).data.toList).length = q5 at *
          have Hq5 := zH hq5
          have hq5l : q5 ≤ q4 + 10 + s.length := by rw [← hq5, List.length_append, Hq4.out]; show q4 + (txt s).length ≤ _; omega
          clear hown5 hr5 hb5 hq5 hc2 hc3 hc4))
     go_wp2_with fail
     go_ret
     exact ⟨_, rfl, by rw [H.out]; exact Hown7.out, Hb7.out⟩
end PoolD
namespace PutM
open Go.RowKit Base BinM Stru PoolM PoolA PoolB PoolK
theorem Zq.take {w : World} {A : Option Addr} {m c : Nat} {l : List Cst} (h : Zq w A m c l) {j : Nat} (hj : j ≤ m) : Zq w A j c (l.take j) := by
 refine ⟨by have := h.len; simp; omega, Nat.le_trans hj h.le, h.max, ?_, fun x hx => h.fit x (List.mem_of_mem_take hx)⟩
 have e : (l.take j).flatMap Cst.vals = (l.flatMap Cst.vals).take (j * 5) := by
  have hn : ∀ x : Cst, x.vals.length = 5 := fun _ => rfl
  clear h hj
  induction l generalizing j with
  | nil => simp
  | cons x r ih =>
    cases j with
    | zero => simp
    | succ j =>
      simp only [List.take_succ_cons, List.flatMap_cons, ih]
      rw [List.take_append, hn, List.take_of_length_le (l := x.vals) (by rw [hn]; omega), show (j + 1) * 5 - 5 = j * 5 by omega]
 rw [e]
 exact h.rds.take _
theorem Zp3 : (sizeOf (Tryz.prog.elem 22)).run Tryz.prog = fun W => .ok 5 W := by kernel_rfl
theorem Zj1 (A : Option Addr) (m c k : Nat) (h : k ≤ c) (W : World) : (Instr.slice 22 (.slice A m c) none (some (.int .i64 (k : Int))) none).run Tryz.prog W = .ok (.slice A k c) W := by
 have hu : Tryz.prog.underlying 22 = some (.slice (Tryz.prog.elem 22)) := by kernel_rfl
 rw [run_slice_h W 22 A m c hu .i64 (k : Int) (by omega) (by omega), Zp3]
 cases A <;> simp [Result.andThen, sliced, Addr.add]
theorem KR {l : List Cst} {x : Cst} : x ∈ l ↔ 0 ≤ qd l x := by
 induction l with
 | nil => simp [qd]
 | cons y r ih =>
   unfold qd
   by_cases hy : Qa y x = true
   · rw [if_pos hy]
     have : y = x := (same_iff _ _).1 hy
     simp [this]
   · rw [if_neg hy]
     have hne : x ≠ y := fun h => hy ((same_iff _ _).2 h.symm)
     have := Zd7 r x
     simp only [List.mem_cons, hne, false_or, ih]
     split <;> omega
theorem Gj {l : List Cst} {j : Nat} (hj : j < l.length) (h : (l.take j).Nodup) (hn : ¬ 0 ≤ qd (l.take j) l[j]) : (l.take (j + 1)).Nodup := by
 rw [List.take_succ_eq_append_getElem hj, List.nodup_append]
 refine ⟨h, by simp, ?_⟩
 intro a ha b hb
 simp at hb
 subst hb
 rintro rfl
 exact hn (KR.1 ha)
theorem zi6 {l : List Cst} {j : Nat} (hj : j < l.length) (hn : 0 ≤ qd (l.take j) l[j]) : ¬ l.Nodup := by
 intro h
 have h2 : (l.take (j + 1)).Nodup := h.sublist (List.take_sublist _ _)
 rw [List.take_succ_eq_append_getElem hj, List.nodup_append] at h2
 exact h2.2.2 _ (KR.2 hn) _ (by simp) rfl
theorem _root_.Go.Proofs.YtehainbhoflpnaaGreatDoor.PoolB.Qe.drew {w : World} {g : Nat} {k n : Int} {s t u : List UInt8} (h : Qe w g k n s t u) : Qe w.drew g k n s t u := h
set_option maxRecDepth 100000 in
set_option maxHeartbeats 2000000 in
theorem V8 (A : Option Addr) (l : List Cst) (m c : Nat) (w : World) (h : Zq w A m c l) :
 Calls Tryz.prog 130 #[.slice A m c] w fun e w' => e = .returned (.bool (!decide l.Nodup)) ∧ Below w.heap.size w w' := by
 have hml : l.length ≤ m := Nat.le_of_eq h.len.symm
 have hml2 : m ≤ l.length := Nat.le_of_eq h.len
 have hmx := h.max
 have hle := h.le
 unfold maxLen at hmx
 have H := zH h
 clear h
 go_enter Tryz.func130, Tryz.ntmps130
 go_wp2_with fail
 go_loopw [3, 4, 7] (fun _ _ i wr => ∃ j : Nat, j ≤ m ∧ i = .int .i64 j ∧ (l.take j).Nodup ∧ Below w.heap.size w wr) (fun _ _ i _ => m - (intOf i).toNat)
 case atStart => exact ⟨0, Nat.zero_le _, rfl, by simp, Below.refl _ _⟩
 case round =>
  obtain ⟨j, hj, rfl, hnd, hbel⟩ := hrel
  have Hnd := zH hnd
  have Hbel := zH hbel
  clear hnd
  by_cases hlt : j < m
  · have hja : j < l.length := by omega
    obtain ⟨b1, o1, rfl, hb1, hc0, hc1, hc2, hc3, hc4⟩ := Qy (H.out.below hbel).rds hja
    have hj1 : (j : Int) < (m : Int) := by omega
    have hj0 : (0 : Int) ≤ (j : Int) := by omega
    have hsl := Zj1 (some ⟨b1, o1, none⟩) m c j (by omega)
    have HT := zH (Zq.take (H.out.below hbel) hj)
    have Hnext := zH (fun hn => Gj hja Hnd.out hn)
    have Hnot := zH (fun hn => zi6 hja hn)
    have HB := zH (Qe.new wr l[j].kind l[j].n l[j].s l[j].t l[j].u 75)
    clear hbel
    generalize l[j] = x at *
    obtain ⟨x0, x1, x2, x3, x4⟩ := x
    simp only at hc0 hc1 hc2 hc3 hc4 HB
    have HA := zH ((Below.refl wr.heap.size wr).alloc (Nat.le_refl _) (.cells #[.int .i64 x0, .int .i64 x1, .string ⟨x2.toArray⟩, .string ⟨x3.toArray⟩, .string ⟨x4.toArray⟩] 75))
    go_wp2_with fail
    obtain ⟨g0, g1, g2, g3, g4⟩ := HB.out
    go_region_held3 (fun w' => w'.cell? ⟨wr.heap.size, 0, none⟩ = some (.int .i64 x0) ∧ w'.cell? ⟨wr.heap.size, 1, none⟩ = some (.int .i64 x1) ∧ w'.cell? ⟨wr.heap.size, 2, none⟩ = some (.string ⟨x2.toArray⟩) ∧ w'.cell? ⟨wr.heap.size, 3, none⟩ = some (.string ⟨x3.toArray⟩) ∧ w'.cell? ⟨wr.heap.size, 4, none⟩ = some (.string ⟨x4.toArray⟩))
     (first | exact ⟨g0, g1, g2, g3, g4⟩ | go_keep)
     (first
      | (go_at_call 167; refine (zt6 _ (l.take j) j c x0 x1 x2 x3 x4 _ (HT.out.below HA.out.drew)).mono ?_; rintro e w3 ⟨rfl, hb3⟩
         have B3 := zH (Hbel.out.trans ((HA.out.drew.trans (hb3.mono HA.out.size)).mono Hbel.out.size))
         have P3 := zH (HB.out.drew.after hb3)
         clear hb3 g0 g1 g2 g3 g4
         obtain ⟨g0, g1, g2, g3, g4⟩ := P3.out))
    all_goals
     generalize qd _ _ = F at *
     by_cases hF : 0 ≤ F
     · have Hq := zH (Hnot.out (by omega))
       go_wp2_with fail
       go_ret
       exact ⟨by rw [decide_eq_false Hq.out]; rfl, B3.out⟩
     · have Hq := zH (Hnext.out (by omega))
       have hF2 : decide (F ≥ 0) = false := by simpa using hF
       have hF3 : decide (0 ≤ F) = false := by simpa using hF
       go_wp2_with fail
       go_roundw
       case rel => exact ⟨j + 1, by omega, by go_num, Hq.out, B3.out⟩
       case measure => simp [intOf]; omega
  · have Hfin := zH (show l.Nodup by
     have h := Hnd.out
     rwa [List.take_of_length_le (by omega)] at h)
    go_wp2_with fail
    go_ret
    exact ⟨by rw [decide_eq_true Hfin.out]; rfl, hbel⟩
end PutM
namespace PutN
open Go.RowKit Base BinM BinE BinPut Bin8 Stru PoolM PoolA PoolB PoolK PoolL PoolD PutM InsP
def J3 (b : List UInt8) (l : List Cst) : List UInt8 × Int :=
 if 256 < l.length then ([], 6) else if l.all Z8 = true then (if l.Nodup then (b ++ num l.length ++ l.flatMap Zt, 0) else ([], 8)) else ([], 11)
theorem gT {b : List UInt8} {l : List Cst} (h : 256 < l.length) : J3 b l = ([], 6) := by unfold J3; rw [if_pos h]
theorem zg2 {b : List UInt8} {l : List Cst} (h : ¬ 256 < l.length) {x : Cst} (hx : x ∈ l) (h2 : Z8 x = false) : J3 b l = ([], 11) := by
 unfold J3
 rw [if_neg h, if_neg]
 intro h3
 have := List.all_eq_true.1 h3 x hx
 rw [h2] at this
 cases this
theorem V6 {b : List UInt8} {l : List Cst} (h : ¬ 256 < l.length) (h2 : ∀ x ∈ l, Z8 x = true) (h3 : ¬ l.Nodup) : J3 b l = ([], 8) := by
 unfold J3
 rw [if_neg h, if_pos (List.all_eq_true.2 h2), if_neg h3]
theorem all_good {b : List UInt8} {l : List Cst} (h : ¬ 256 < l.length) (h2 : ∀ x ∈ l, Z8 x = true) (h3 : l.Nodup) : J3 b l = (b ++ num l.length ++ l.flatMap Zt, 0) := by
 unfold J3
 rw [if_neg h, if_pos (List.all_eq_true.2 h2), if_pos h3]
theorem Zw5 {l : List Cst} {j : Nat} (hj : j < l.length) (h : ∀ x ∈ l.take j, Z8 x = true) (h2 : Z8 l[j] = true) : ∀ x ∈ l.take (j + 1), Z8 x = true := by
 intro x hx
 rw [List.take_succ_eq_append_getElem hj, List.mem_append] at hx
 rcases hx with hx | hx
 · exact h x hx
 · simp at hx; subst hx; exact h2
theorem xY {c : Cst} (h : Z8 c = true) (hk : ZI c.kind) (hn : ZI c.n) : (Zt c).length ≤ 1000 := by
 obtain ⟨k, n, s, t, u⟩ := c
 obtain ⟨h1, h2, h3⟩ := xC h
 have l1 := Qf s (by omega)
 have l2 := Qf t (by omega)
 have l3 := Qf u (by omega)
 have k1 := (qF hk.1 hk.2).2.2
 have k2 := (qF hn.1 hn.2).2.2
 simp only at k1 k2
 unfold Zt
 rw [List.length_append]
 simp only
 split
 · omega
 · split
   · omega
   · simp only [List.length_append]; omega
theorem Z7 {l : List Cst} (h : ∀ x ∈ l, Z8 x = true) (hf : ∀ x ∈ l, ZI x.kind ∧ ZI x.n) : (l.flatMap Zt).length ≤ 1000 * l.length := by
 induction l with
 | nil => simp
 | cons x r ih =>
   have h1 := xY (h x (by simp)) (hf x (by simp)).1 (hf x (by simp)).2
   have h2 := ih (fun y hy => h y (by simp [hy])) (fun y hy => hf y (by simp [hy]))
   simp only [List.flatMap_cons, List.length_append, List.length_cons]
   omega
set_option maxRecDepth 100000 in
set_option maxHeartbeats 4000000 in
theorem Gc (B : Option Addr) (mb cb : Nat) (b : List UInt8) (A : Option Addr) (m c : Nat) (l : List Cst) (w : World) (hbm : mb = b.length) (hbr : Rds w B (zW b)) (hbl : mb ≤ 1048576) (h : Zq w A m c l)
 (hlt : ∀ x ∈ l, x.s.length ≤ 140737488351232 ∧ x.t.length ≤ 140737488351232 ∧ x.u.length ≤ 140737488351232) :
 Calls Tryz.prog 77 #[.slice B mb cb, .slice A m c] w (JU w (J3 b l)) := by
 have hml : l.length ≤ m := Nat.le_of_eq h.len.symm
 have hml2 : m ≤ l.length := Nat.le_of_eq h.len
 have hmx := h.max
 have hle := h.le
 unfold maxLen at hmx
 have H := zH h
 have Hlt := zH hlt
 have Hbm := zH hbm
 have Hbr := zH hbr
 clear h hlt hbm hbr
 by_cases hs : 256 < l.length
 · have HH := zH (gT (b := b) hs)
   have hs' : 256 < m := by omega
   go_enter Tryz.func77, Tryz.ntmps77
   go_wp2_with fail
   go_ret2
   exact qQ HH.out (qD.nil _ _) (Below.refl _ _)
 · have hs' : ¬ 256 < m := by omega
   have Hs := zH hs
   clear hs
   go_enter Tryz.func77, Tryz.ntmps77
   go_wp2_with fail
   go_loopw [7, 16] (fun _ i wr => ∃ j : Nat, j ≤ m ∧ i = .int .i64 j ∧ (∀ x ∈ l.take j, Z8 x = true) ∧ Below w.heap.size w wr) (fun _ i _ => m - (intOf i).toNat)
   case atStart => exact ⟨0, Nat.zero_le _, rfl, by simp, Below.refl _ _⟩
   case round =>
    obtain ⟨j, hj, rfl, hall, hbel⟩ := hrel
    have Hall := zH hall
    have Hbel := zH hbel
    clear hall
    by_cases hlt : j < m
    · have hja : j < l.length := by omega
      obtain ⟨b1, o1, rfl, hb1, hc0, hc1, hc2, hc3, hc4⟩ := Qy (H.out.below hbel).rds hja
      have hj1 : (j : Int) < (m : Int) := by omega
      have hj0 : (0 : Int) ≤ (j : Int) := by omega
      have Hnext := zH (fun hn => Zw5 hja Hall.out hn)
      have Hbad := zH (fun hn => zg2 (b := b) Hs.out (List.getElem_mem hja) hn)
      have Hl3 := zH (Hlt.out _ (List.getElem_mem hja))
      clear hbel
      generalize l[j] = x at *
      obtain ⟨x0, x1, x2, x3, x4⟩ := x
      simp only at hc0 hc1 hc2 hc3 hc4
      have hl3 := Hl3.out
      simp only at hl3
      have HA := zH ((Below.refl wr.heap.size wr).alloc (Nat.le_refl _) (.cells #[.int .i64 x0, .int .i64 x1, .string ⟨x2.toArray⟩, .string ⟨x3.toArray⟩, .string ⟨x4.toArray⟩] 75))
      go_wp2_with fail
      refine (UF x0 x1 x2 x3 x4 _ (by omega) (by omega) (by omega)).mono ?_
      rintro e w3 ⟨rfl, hb3⟩
      have B3 := zH (Hbel.out.trans ((HA.out.trans (hb3.mono HA.out.size)).mono Hbel.out.size))
      clear hb3 hl3
      cases hR : Z8 ⟨x0, x1, x2, x3, x4⟩
      · have Hq := zH (Hbad.out hR)
        clear hR
        go_wp2_with fail
        go_ret2
        exact qQ Hq.out (qD.nil _ _) B3.out
      · have Hq := zH (Hnext.out hR)
        clear hR
        go_wp2_with fail
        go_roundw
        case rel => exact ⟨j + 1, by omega, by go_num, Hq.out, B3.out⟩
        case measure => simp [intOf]; omega
    · have Hright := zH (show ∀ x ∈ l, Z8 x = true by
       have h := Hall.out
       rwa [List.take_of_length_le (by omega)] at h)
      clear hbel
      go_wp2_with fail
      refine (V8 A l m c _ (H.out.below Hbel.out)).mono ?_
      rintro e w3 ⟨rfl, hb3⟩
      have B3 := zH (Hbel.out.trans (hb3.mono Hbel.out.size))
      clear hb3
      by_cases hnd : l.Nodup
      · have HH := zH (all_good (b := b) Hs.out Hright.out hnd)
        rw [decide_eq_true hnd]
        clear hnd
        go_wp2_with fail
        refine (BinPut.Vm B b mb cb (m : Int) w3 Hbm.out (by omega) (by omega) (by omega) (Hbr.out.below B3.out)).mono ?_
        rintro e w4 ⟨v4, rfl, hown4, hb4⟩
        have B4 := zH (B3.out.trans (hb4.mono B3.out.size))
        have O4 := zH (Z6 hown4 B3.out.size)
        clear hown4 hb4
        go_wp2_with fail
        go_loopw [8, 10, 32] (fun v _ i wr => ∃ j : Nat, j ≤ m ∧ i = .int .i64 j ∧ qD wr w.heap.size v (b ++ num (m : Int) ++ (l.take j).flatMap Zt) ∧ Below w.heap.size w wr) (fun _ _ i _ => m - (intOf i).toNat)
        case atStart => exact ⟨0, Nat.zero_le _, rfl, by rw [List.take_zero, List.flatMap_nil, List.append_nil]; exact O4.out, B4.out⟩
        case round =>
         obtain ⟨j, hj, rfl, hown, hbel⟩ := hrel
         have Hown := zH hown
         have Hbel := zH hbel
         have hsz := hbel.size
         clear hown
         by_cases hlt : j < m
         · have hja : j < l.length := by omega
           obtain ⟨b1, o1, rfl, hb1, hc0, hc1, hc2, hc3, hc4⟩ := Qy (H.out.below hbel).rds hja
           have hj1 : (j : Int) < (m : Int) := by omega
           have hj0 : (0 : Int) ≤ (j : Int) := by omega
           have Hct := zH (show b ++ num (m : Int) ++ (l.take (j + 1)).flatMap Zt = (b ++ num (m : Int) ++ (l.take j).flatMap Zt) ++ Zt l[j] by
            rw [List.take_succ_eq_append_getElem hja, List.flatMap_append]; simp)
           have hpl : (b ++ num (m : Int) ++ (l.take j).flatMap Zt).length ≤ mb + 10 + 1000 * m := by
            have h1 := PutN.Z7 (l := l.take j) (fun x hx => Hright.out x (List.mem_of_mem_take hx)) (fun x hx => H.out.fit x (List.mem_of_mem_take hx))
            have h2 : (l.take j).length ≤ j := by simp; omega
            have h3 := (qF (n := (m : Int)) (by omega) (by omega)).2.2
            have h4 := Hbm.out
            simp only [List.length_append]
            omega
           have Hpl := zH hpl
           have Hrx := zH (show l[j].s.length ≤ 300 ∧ l[j].t.length ≤ 300 ∧ l[j].u.length ≤ 300 from xC (Hright.out _ (List.getElem_mem hja)))
           have Hbx := zH (xY (Hright.out _ (List.getElem_mem hja)) (H.out.fit _ (List.getElem_mem hja)).1 (H.out.fit _ (List.getElem_mem hja)).2)
           have Hfx := zH (H.out.fit _ (List.getElem_mem hja))
           clear hbel hpl
           generalize b ++ num (m : Int) ++ (l.take j).flatMap Zt = p at *
           generalize l[j] = x at *
           obtain ⟨x0, x1, x2, x3, x4⟩ := x
           simp only at hc0 hc1 hc2 hc3 hc4
           have hl3 : x2.length ≤ 300 ∧ x3.length ≤ 300 ∧ x4.length ≤ 300 := Hrx.out
           have HA := zH ((Below.refl wr.heap.size wr).alloc (Nat.le_refl _) (.cells #[.int .i64 x0, .int .i64 x1, .string ⟨x2.toArray⟩, .string ⟨x3.toArray⟩, .string ⟨x4.toArray⟩] 75))
           go_wp2_with fail
           refine (gH x0 x1 x2 x3 x4 _ Hfx.out.1 Hfx.out.2 (by omega) (by omega) (by omega)).mono ?_
           rintro e w5 ⟨v5, rfl, hown5, hb5⟩
           have K5 := zH (HA.out.trans (hb5.mono HA.out.size))
           obtain ⟨A5, c5, rfl, h51, h52, hr5, _⟩ := qD.slice hown5
           have R5 := zH hr5
           have hsz5 := K5.out.size
           clear hown5 hb5 hl3 hr5
           go_wp2_with (at_builtin
                        refine Zq0 rfl (.tmp 36) (.tmp 38) rfl w.heap.size _ p rfl (Zw3 Hown.out K5.out) A5 _ c5 (Zt ⟨x0, x1, x2, x3, x4⟩) rfl rfl R5.out (by have := Hpl.out; have := Hbx.out; omega) (by omega) ?_
                        intro v6 w6 hown6 hg6
                        have B6 := zH (own_below (Zw3 Hown.out K5.out) (Hbel.out.trans (K5.out.mono hsz)) (Nat.le_refl _) (by omega) hg6)
                        have Hown6 := zH hown6
                        clear hown6 hg6)
           go_roundw
           case rel => exact ⟨j + 1, by omega, by go_num, by rw [Hct.out]; exact Hown6.out, B6.out⟩
           case measure => simp [intOf]; omega
         · have Hfin := zH (show qD wr w.heap.size u8 (b ++ num (l.length : Int) ++ l.flatMap Zt) by
            have h := Hown.out
            rw [List.take_of_length_le (by omega)] at h
            rwa [show ((l.length : Nat) : Int) = (m : Int) by omega])
           clear hbel
           go_wp2_with fail
           go_ret2
           exact qQ HH.out Hfin.out Hbel.out
      · have HH := zH (V6 (b := b) Hs.out Hright.out hnd)
        rw [decide_eq_false hnd]
        clear hnd
        go_wp2_with fail
        go_ret2
        exact qQ HH.out (qD.nil _ _) B3.out
end PutN
namespace PoolE
open Go.RowKit Base BinM BinE BinPut Bin8 BinAll BinText DescM DescW Stru PoolM PoolA PoolB PoolC PoolD Cat
open RefPut (QJ)
def kX (b : List UInt8) (c : Cst) : List UInt8 × Int := if Z8 c then (b ++ Zt c, 0) else ([], 11)
theorem zo1 {b : List UInt8} {c : Cst} (h : Z8 c = false) : kX b c = ([], 11) := by unfold kX; rw [h]; rfl
theorem zb9 {b : List UInt8} {c : Cst} (h : Z8 c = true) : kX b c = (b ++ Zt c, 0) := by unfold kX; rw [h]; rfl
def JU (w : World) (r : List UInt8 × Int) (e : Ending) (w' : World) : Prop :=
 ∃ v, e = .returned (.tuple #[v, .int .i64 r.2]) ∧ qD w' w.heap.size v r.1 ∧ Below w.heap.size w w'
theorem qQ {w w' : World} {r : List UInt8 × Int} {v : Value} {t : List UInt8} {n : Int} (h : r = (t, n)) (ho : qD w' w.heap.size v t) (hb : Below w.heap.size w w') : JU w r (.returned (.tuple #[v, .int .i64 n])) w' := by
 subst h
 exact ⟨v, rfl, ho, hb⟩
theorem xY {c : Cst} (hk : ZI c.kind) (hn : ZI c.n) (hs : c.s.length ≤ 300) (ht : c.t.length ≤ 300) (hu : c.u.length ≤ 300) : (Zt c).length ≤ 1000 := by
 unfold ZI at hk hn
 have h1 := (qF hk.1 hk.2).2.2
 have h2 := (qF hn.1 hn.2).2.2
 have h3 := Qf c.s (by omega)
 have h4 := Qf c.t (by omega)
 have h5 := Qf c.u (by omega)
 unfold Zt
 rw [List.length_append]
 split
 · omega
 · split
   · omega
   · rw [List.length_append, List.length_append]; omega
set_option maxRecDepth 100000 in
set_option maxHeartbeats 4000000 in
theorem uj (B : Option Addr) (mb cb : Nat) (b : List UInt8) (k n : Int) (s t u : List UInt8) (w : World) (hbm : mb = b.length) (hbr : Rds w B (zW b)) (hbl : mb ≤ 140737488351232)
 (hk : ZI k) (hn : ZI n) (hs : s.length ≤ 140737488355327) (ht : t.length ≤ 140737488355327) (hu : u.length ≤ 140737488355327) :
 Calls Tryz.prog 161 #[.slice B mb cb, .agg #[.int .i64 k, .int .i64 n, .string ⟨s.toArray⟩, .string ⟨t.toArray⟩, .string ⟨u.toArray⟩]] w (JU w (kX b ⟨k, n, s, t, u⟩)) := by
 have hB0 := (Below.refl w.heap.size w).alloc (Nat.le_refl _) (.cells #[.int .i64 k, .int .i64 n, .string ⟨s.toArray⟩, .string ⟨t.toArray⟩, .string ⟨u.toArray⟩] 75)
 have HB0 := zH hB0
 have Hbox := zH (Qe.new w k n s t u 75)
 have Hbm := zH hbm
 have Hbr := zH hbr
 have hk' := hk
 have hn' := hn
 unfold ZI at hk' hn'
 have hkl := (qF hk'.1 hk'.2).2.2
 clear hB0 hbm hbr
 cases hrt : Z8 ⟨k, n, s, t, u⟩
 · have H := zH (zo1 (b := b) hrt)
   have Hrt := zH hrt
   clear hrt
   go_enter Tryz.func161, Tryz.ntmps161
   go_wp2_with fail
   refine (Jk k n s t u _ (by omega) (by omega) (by omega)).mono ?_
   rw [Hrt.out]
   rintro e w1 ⟨rfl, hb1⟩
   have Hb1 := zH (HB0.out.trans (hb1.mono (by simp)))
   clear hb1
   go_wp2_with fail
   go_ret2
   exact qQ H.out (qD.nil _ _) Hb1.out
 · obtain ⟨hs, ht, hu⟩ := PoolL.xC hrt
   have H := zb9 (b := b) hrt
   have Hrt := zH hrt
   clear hrt
   go_enter Tryz.func161, Tryz.ntmps161
   go_wp2_with fail
   refine (Jk k n s t u _ (by omega) (by omega) (by omega)).mono ?_
   rw [Hrt.out]
   rintro e w1 ⟨rfl, hb1⟩
   obtain ⟨hc0', hc1', hc2', hc3', hc4'⟩ := Qe.after Hbox.out hb1
   have hbx : w.heap.size < w1.heap.size := World.block_lt_of_cell? w1 ⟨w.heap.size, 0, none⟩ hc0'
   have Hbx1 : Hid (Qe w1 w.heap.size k n s t u) := zH ⟨hc0', hc1', hc2', hc3', hc4'⟩
   have Hb1 := zH (HB0.out.trans (hb1.mono (by simp)))
   have hsz1 := Hb1.out.size
   clear hb1 hc1' hc2' hc3' hc4'
   have Hpost := zH H
   clear H
   go_wp2_with fail
   refine (QJ B b mb cb k w1 Hbm.out (by omega) hk'.1 hk'.2 (Hbr.out.below Hb1.out)).mono ?_
   rintro e w2 ⟨v2, rfl, hown2, hb2⟩
   obtain ⟨A4, c4, rfl, h41, h42, hr4, _⟩ := qD.slice hown2
   obtain ⟨hc0, hc1, hc2, hc3, hc4⟩ := Qe.after Hbx1.out hb2
   have Hb2 := zH (Hb1.out.trans (hb2.mono hsz1))
   have hsz2 := Hb2.out.size
   have Hr4 := zH hr4
   clear hown2 hr4 hb2 hc0'
   generalize hX : b ++ num k = X at *
   have hXl : X.length ≤ mb + 10 := by rw [← hX, List.length_append, ← Hbm.out]; omega
   generalize hq4 : X.length = q4 at *
   have Hq4 := zH hq4
   have HX := zH hX
   clear hq4 hX
   by_cases h1 : k = 1
   · subst h1
     have H := zH (show kX b ⟨1, n, s, t, u⟩ = (X ++ num n, 0) by rw [Hpost.out, ← HX.out]; simp [Zt])
     go_wp2_with fail
     refine (QJ A4 X q4 c4 n w2 Hq4.out.symm (by omega) hn'.1 hn'.2 Hr4.out).mono ?_
     rintro e w3 ⟨v3, rfl, hown3, hb3⟩
     have Hown3 := zH (Z6 hown3 hsz2)
     have Hb3 := zH (Hb2.out.trans (hb3.mono hsz2))
     clear hown3 hb3
     go_wp2_with fail
     go_ret2
     exact qQ H.out Hown3.out Hb3.out
   · by_cases h2 : k = 2 ∨ k = 3
     · have H := zH (show kX b ⟨k, n, s, t, u⟩ = (X ++ txt s, 0) by rw [Hpost.out, ← HX.out]; unfold Zt; rw [if_neg h1, if_pos h2]; simp)
       rcases h2 with rfl | rfl
       all_goals
        go_wp2_with fail
        refine (jS A4 X q4 c4 ⟨s.toArray⟩ w2 Hq4.out.symm (by rw [size_mk]; omega) Hr4.out).mono ?_
        rintro e w3 ⟨v3, rfl, hown3, hb3⟩
        have Hown3 := zH (Z6 hown3 hsz2)
        have Hb3 := zH (Hb2.out.trans (hb3.mono hsz2))
        clear hown3 hb3
        go_wp2_with fail
        go_ret2
        exact qQ H.out Hown3.out Hb3.out
     · have H := zH (show kX b ⟨k, n, s, t, u⟩ = (X ++ txt s ++ txt t ++ txt u, 0) by rw [Hpost.out, ← HX.out]; unfold Zt; rw [if_neg h1, if_neg h2]; simp)
       have g1 : (k == 1) = false := by simpa using h1
       have g2 : (k == 2) = false := by simp; omega
       have g3 : (k == 3) = false := by simp; omega
       have hts := Qf s (by omega)
       have htt := Qf t (by omega)
       have htu := Qf u (by omega)
       clear h1 h2 Hpost
       go_wp2_with fail
       have hBw := Hb2.out.drew
       have hs1 : (ByteArray.mk s.toArray).size = s.length := size_mk s
       have ht1 : (ByteArray.mk t.toArray).size = t.length := size_mk t
       have hu1 : (ByteArray.mk u.toArray).size = u.length := size_mk u
       go_region_held3 (fun w' => w'.cell? ⟨w.heap.size, 2, none⟩ = some (.string ⟨s.toArray⟩) ∧ w'.cell? ⟨w.heap.size, 3, none⟩ = some (.string ⟨t.toArray⟩) ∧ w'.cell? ⟨w.heap.size, 4, none⟩ = some (.string ⟨u.toArray⟩))
        (first | go_keep)
        (first
         | (go_at_call 194; refine (jS A6 _ q6 c6 ⟨u.toArray⟩ _ Hq6.out.symm (by omega) Hr6.out).mono ?_; rintro e w7 ⟨v7, rfl, hown7, hb7⟩
            have hd2 : w7.cell? ⟨w.heap.size, 2, none⟩ = some (.string ⟨s.toArray⟩) := (hb7.cell (p := ⟨w.heap.size, 2, none⟩) (World.block_lt_of_cell? _ ⟨w.heap.size, 2, none⟩ he2)).trans he2
            have hd3 : w7.cell? ⟨w.heap.size, 3, none⟩ = some (.string ⟨t.toArray⟩) := (hb7.cell (p := ⟨w.heap.size, 3, none⟩) (World.block_lt_of_cell? _ ⟨w.heap.size, 3, none⟩ he3)).trans he3
            have hd4 : w7.cell? ⟨w.heap.size, 4, none⟩ = some (.string ⟨u.toArray⟩) := (hb7.cell (p := ⟨w.heap.size, 4, none⟩) (World.block_lt_of_cell? _ ⟨w.heap.size, 4, none⟩ he4)).trans he4
            have Hb7 := zH (Hb6.out.trans (hb7.mono Hb6.out.size))
            have Hown7 := zH (Z6 hown7 Hb6.out.size)
            clear hown7 hb7 he2 he3 he4)
         | (go_at_call 194; refine (jS A5 _ q5 c5 ⟨t.toArray⟩ _ Hq5.out.symm (by omega) Hr5.out).mono ?_; rintro e w6 ⟨v6, rfl, hown6, hb6⟩
            obtain ⟨A6, c6, rfl, h61, h62, hr6, _⟩ := qD.slice hown6
            have he2 : w6.cell? ⟨w.heap.size, 2, none⟩ = some (.string ⟨s.toArray⟩) := (hb6.cell (p := ⟨w.heap.size, 2, none⟩) (World.block_lt_of_cell? _ ⟨w.heap.size, 2, none⟩ hd2)).trans hd2
            have he3 : w6.cell? ⟨w.heap.size, 3, none⟩ = some (.string ⟨t.toArray⟩) := (hb6.cell (p := ⟨w.heap.size, 3, none⟩) (World.block_lt_of_cell? _ ⟨w.heap.size, 3, none⟩ hd3)).trans hd3
            have he4 : w6.cell? ⟨w.heap.size, 4, none⟩ = some (.string ⟨u.toArray⟩) := (hb6.cell (p := ⟨w.heap.size, 4, none⟩) (World.block_lt_of_cell? _ ⟨w.heap.size, 4, none⟩ hd4)).trans hd4
            have Hr6 := zH hr6
            have Hb6 := zH (Hb5.out.trans (hb6.mono Hb5.out.size))
            generalize hq6 : (X ++ txt (ByteArray.mk s.toArray).data.toList ++ txt (ByteArray.mk t.toArray).data.toList).length = q6 at *
            have Hq6 := zH hq6
            have hq6l : q6 ≤ q5 + 10 + t.length := by rw [← hq6, List.length_append, Hq5.out]; show q5 + (txt t).length ≤ _; omega
            clear hown6 hr6 hb6 hq6 hd2 hd3 hd4)
         | (go_at_call 194; refine (jS A4 X q4 c4 ⟨s.toArray⟩ _ Hq4.out.symm (by omega) Hr4.out.drew).mono ?_; rintro e w5 ⟨v5, rfl, hown5, hb5⟩
            obtain ⟨A5, c5, rfl, h51, h52, hr5, _⟩ := qD.slice hown5
            have hd2 : w5.cell? ⟨w.heap.size, 2, none⟩ = some (.string ⟨s.toArray⟩) := (hb5.cell (p := ⟨w.heap.size, 2, none⟩) (World.block_lt_of_cell? _ ⟨w.heap.size, 2, none⟩ hc2)).trans hc2
            have hd3 : w5.cell? ⟨w.heap.size, 3, none⟩ = some (.string ⟨t.toArray⟩) := (hb5.cell (p := ⟨w.heap.size, 3, none⟩) (World.block_lt_of_cell? _ ⟨w.heap.size, 3, none⟩ hc3)).trans hc3
            have hd4 : w5.cell? ⟨w.heap.size, 4, none⟩ = some (.string ⟨u.toArray⟩) := (hb5.cell (p := ⟨w.heap.size, 4, none⟩) (World.block_lt_of_cell? _ ⟨w.heap.size, 4, none⟩ hc4)).trans hc4
            have Hr5 := zH hr5
            have Hb5 := zH (hBw.trans (hb5.mono hsz2))
            generalize hq5 : (X ++ txt (ByteArray.mk s.toArray).data.toList).length = q5 at *
            have Hq5 := zH hq5
            have hq5l : q5 ≤ q4 + 10 + s.length := by rw [← hq5, List.length_append, Hq4.out]; show q4 + (txt s).length ≤ _; omega
            clear hown5 hr5 hb5 hq5 hc2 hc3 hc4))
       go_wp2_with fail
       go_ret2
       exact qQ H.out Hown7.out Hb7.out
end PoolE
namespace PutR
open Go.RowKit Base BinM BinE BinPut Bin8 Stru PoolM PoolA PoolB PoolK PoolL PoolD PutM PutN
open InsP (JU qQ)
theorem zf1 : ∀ {l : List Cst} {c : Cst} {j : Nat}, c ∈ l.take j → qd l c < (j : Int)
 | [], _, _, h => by simp at h
 | x :: r, c, 0, h => by simp at h
 | x :: r, c, j + 1, h => by
   unfold qd
   by_cases hx : Qa x c = true
   · rw [if_pos hx]; omega
   · rw [if_neg hx]
     have hne : c ≠ x := fun e => hx ((same_iff _ _).2 e.symm)
     rw [List.take_succ_cons, List.mem_cons] at h
     rcases h with h | h
     · exact absurd h hne
     · have := zf1 h
       split <;> omega
theorem zt5 {l : List Cst} {j : Nat} (hj : j < l.length) : qd l l[j] < (j : Int) ↔ l[j] ∈ l.take j := by
 refine ⟨fun h => ?_, zf1⟩
 apply Classical.byContradiction
 intro hn
 have := jU (c := l[j]) hj (fun x hx e => hn (by rw [← e]; exact hx)) rfl
 omega
theorem nodup_iff {l : List Cst} {j : Nat} (hj : j < l.length) : (l.take (j + 1)).Nodup ↔ (l.take j).Nodup ∧ ¬ qd l l[j] < (j : Int) := by
 rw [zt5 hj, List.take_succ_eq_append_getElem hj, List.nodup_append]
 constructor
 · rintro ⟨h1, _, h2⟩
   exact ⟨h1, fun h => h2 _ h _ (by simp) rfl⟩
 · rintro ⟨h1, h2⟩
   refine ⟨h1, by simp, fun a ha b hb e => ?_⟩
   simp at hb
   subst hb
   exact h2 (e ▸ ha)
set_option maxRecDepth 100000 in
set_option maxHeartbeats 4000000 in
theorem UA (B : Option Addr) (mb cb : Nat) (b : List UInt8) (A : Option Addr) (m c : Nat) (l : List Cst) (w : World) (hbm : mb = b.length) (hbr : Rds w B (zW b)) (hbl : mb ≤ 1048576) (h : Zq w A m c l)
 (hlt : ∀ x ∈ l, x.s.length ≤ 140737488351232 ∧ x.t.length ≤ 140737488351232 ∧ x.u.length ≤ 140737488351232) :
 Calls Tryz.prog 121 #[.slice B mb cb, .slice A m c] w (JU w (J3 b l)) := by
 have hml : l.length ≤ m := Nat.le_of_eq h.len.symm
 have hml2 : m ≤ l.length := Nat.le_of_eq h.len
 have hmx := h.max
 have hle := h.le
 unfold maxLen at hmx
 have H := zH h
 have Hlt := zH hlt
 have Hbm := zH hbm
 have Hbr := zH hbr
 clear h hlt hbm hbr
 by_cases hs : 256 < l.length
 · have HH := zH (gT (b := b) hs)
   have hs' : 256 < m := by omega
   go_enter Tryz.func121, Tryz.ntmps121
   go_wp2_with fail
   go_ret2
   exact qQ HH.out (qD.nil _ _) (Below.refl _ _)
 · have hs' : ¬ 256 < m := by omega
   have Hs := zH hs
   clear hs
   go_enter Tryz.func121, Tryz.ntmps121
   go_wp2_with fail
   refine (RefPut.QJ B b mb cb (m : Int) w Hbm.out (by omega) (by omega) (by omega) Hbr.out).mono ?_
   rintro e w4 ⟨v4, rfl, hown4, hb4⟩
   have B4 := zH hb4
   have O4 := zH hown4
   clear hown4 hb4
   go_wp2_with fail
   go_loopw [6, 7, 8] (fun v t i wr => ∃ (j : Nat) (T : Bool), j ≤ m ∧ i = .int .i64 j ∧ t = .bool T ∧ T = !decide (l.take j).Nodup ∧ (∀ x ∈ l.take j, Z8 x = true) ∧ qD wr w.heap.size v (b ++ num (m : Int) ++ (l.take j).flatMap Zt) ∧ Below w.heap.size w wr) (fun _ _ i _ => m - (intOf i).toNat)
   case atStart => exact ⟨0, false, Nat.zero_le _, rfl, rfl, by simp, by simp, by rw [List.take_zero, List.flatMap_nil, List.append_nil]; exact O4.out, B4.out⟩
   case round =>
    obtain ⟨j, T, hj, rfl, rfl, hT, hall, hown, hbel⟩ := hrel
    have HT := zH hT
    have Hall := zH hall
    have Hown := zH hown
    have Hbel := zH hbel
    have hsz := hbel.size
    clear hown hall hT
    by_cases hlt : j < m
    · have hja : j < l.length := by omega
      obtain ⟨b1, o1, rfl, hb1, hc0, hc1, hc2, hc3, hc4⟩ := Qy (H.out.below hbel).rds hja
      have hj1 : (j : Int) < (m : Int) := by omega
      have hj0 : (0 : Int) ≤ (j : Int) := by omega
      have Hct := zH (show b ++ num (m : Int) ++ (l.take (j + 1)).flatMap Zt = (b ++ num (m : Int) ++ (l.take j).flatMap Zt) ++ Zt l[j] by
       rw [List.take_succ_eq_append_getElem hja, List.flatMap_append]; simp)
      have hpl : (b ++ num (m : Int) ++ (l.take j).flatMap Zt).length ≤ mb + 10 + 1000 * m := by
       have h1 := PutN.Z7 (l := l.take j) (fun x hx => Hall.out x hx) (fun x hx => H.out.fit x (List.mem_of_mem_take hx))
       have h2 : (l.take j).length ≤ j := by simp; omega
       have h3 := (qF (n := (m : Int)) (by omega) (by omega)).2.2
       have h4 := Hbm.out
       simp only [List.length_append]
       omega
      have Hpl := zH hpl
      have Hfx := zH (H.out.fit _ (List.getElem_mem hja))
      have Hlx := zH (Hlt.out _ (List.getElem_mem hja))
      have Hnext := zH (fun hn => Zw5 hja Hall.out hn)
      have Hbad := zH (fun hn => zg2 (b := b) Hs.out (List.getElem_mem hja) hn)
      have Hnd := zH (nodup_iff hja)
      have HI := zH (H.out.below hbel)
      clear hbel hpl
      generalize b ++ num (m : Int) ++ (l.take j).flatMap Zt = p at *
      generalize l[j] = x at *
      obtain ⟨x0, x1, x2, x3, x4⟩ := x
      simp only at hc0 hc1 hc2 hc3 hc4
      have hl3 : x2.length ≤ 140737488351232 ∧ x3.length ≤ 140737488351232 ∧ x4.length ≤ 140737488351232 := Hlx.out
      obtain ⟨A5, c5, rfl, h51, h52, hr5, _⟩ := qD.slice Hown.out
      have R5 := zH hr5
      have hpl' := Hpl.out
      clear hr5
      go_wp2_with fail
      refine (PoolE.uj A5 _ c5 p x0 x1 x2 x3 x4 wr rfl R5.out (by omega) Hfx.out.1 Hfx.out.2 (by omega) (by omega) (by omega)).mono ?_
      rintro e w5 ⟨v5, rfl, hown5, hb5⟩
      have B5 := zH (Hbel.out.trans (hb5.mono hsz))
      have HI5 := zH (HI.out.below hb5)
      cases hR : Z8 ⟨x0, x1, x2, x3, x4⟩
      · have Hq := zH (Hbad.out hR)
        rw [PoolE.zo1 hR] at hown5 ⊢
        clear hR hb5 hown5
        go_wp2_with fail
        go_ret2
        exact qQ Hq.out (qD.nil _ _) B5.out
      · have Hq := zH (Hnext.out hR)
        rw [PoolE.zb9 hR] at hown5 ⊢
        have O5 := zH (Z6 hown5 hsz)
        have q0 := (hb5.cell (p := ⟨b1, o1 + j * 5, none⟩) hb1).trans hc0
        have q1 := (hb5.cell (p := ⟨b1, o1 + j * 5 + 1, none⟩) hb1).trans hc1
        have q2 := (hb5.cell (p := ⟨b1, o1 + j * 5 + 2, none⟩) hb1).trans hc2
        have q3 := (hb5.cell (p := ⟨b1, o1 + j * 5 + 3, none⟩) hb1).trans hc3
        have q4 := (hb5.cell (p := ⟨b1, o1 + j * 5 + 4, none⟩) hb1).trans hc4
        clear hR hb5 hown5 hc0 hc1 hc2 hc3 hc4 hl3
        cases T
        · go_wp2_with fail
          refine (kV _ l m c x0 x1 x2 x3 x4 _ HI5.out).mono ?_
          rintro e w6 ⟨rfl, hb6⟩
          have B6 := zH (B5.out.trans (hb6.mono B5.out.size))
          have O6 := zH (Zw3 O5.out hb6)
          clear hb6
          by_cases hF : qd l ⟨x0, x1, x2, x3, x4⟩ < (j : Int)
          · have hN := zH (show (true : Bool) = !decide (l.take (j + 1)).Nodup by
             have := Hnd.out
             rw [decide_eq_false (by rw [this]; intro h; omega)]; rfl)
            generalize qd l ⟨x0, x1, x2, x3, x4⟩ = F at *
            have hF1 : decide (F < (j : Int)) = true := decide_eq_true hF
            go_wp2_with fail
            go_roundw
            case rel => exact ⟨j + 1, true, by omega, by go_num, rfl, hN.out, Hq.out, by rw [Hct.out]; exact O6.out, B6.out⟩
            case measure => simp [intOf]; omega
          · have hN := zH (show (false : Bool) = !decide (l.take (j + 1)).Nodup by
             have h1 := Hnd.out
             have h2 := HT.out
             rw [decide_eq_true (h1.2 ⟨by simpa using h2, by omega⟩)]; rfl)
            generalize qd l ⟨x0, x1, x2, x3, x4⟩ = F at *
            have hF1 : decide (F < (j : Int)) = false := decide_eq_false hF
            go_wp2_with fail
            go_roundw
            case rel => exact ⟨j + 1, false, by omega, by go_num, rfl, hN.out, Hq.out, by rw [Hct.out]; exact O6.out, B6.out⟩
            case measure => simp [intOf]; omega
        · have hN := zH (show (true : Bool) = !decide (l.take (j + 1)).Nodup by
           have h1 := Hnd.out
           have h2 := HT.out
           rw [decide_eq_false (by rw [h1]; intro h; simp [h.1] at h2)]; rfl)
          go_wp2_with fail
          go_roundw
          case rel => exact ⟨j + 1, true, by omega, by go_num, rfl, hN.out, Hq.out, by rw [Hct.out]; exact O5.out, B5.out⟩
          case measure => simp [intOf]; omega
    · have Hfin := zH (show qD wr w.heap.size u6 (b ++ num (l.length : Int) ++ l.flatMap Zt) by
       have h := Hown.out
       rw [List.take_of_length_le (by omega)] at h
       rwa [show ((l.length : Nat) : Int) = (m : Int) by omega])
      have Hright := zH (show ∀ x ∈ l, Z8 x = true by
       have h := Hall.out
       rwa [List.take_of_length_le (by omega)] at h)
      have HT2 := zH (show T = !decide l.Nodup by
       have h := HT.out
       rwa [List.take_of_length_le (by omega)] at h)
      clear hbel
      cases T
      · have HH := zH (all_good (b := b) Hs.out Hright.out (by simpa using HT2.out))
        go_wp2_with fail
        go_ret2
        exact qQ HH.out Hfin.out Hbel.out
      · have HH := zH (V6 (b := b) Hs.out Hright.out (by simpa using HT2.out))
        go_wp2_with fail
        go_ret2
        exact qQ HH.out (qD.nil _ _) Hbel.out
end PutR
end Go.Proofs.YtehainbhoflpnaaGreatDoor
