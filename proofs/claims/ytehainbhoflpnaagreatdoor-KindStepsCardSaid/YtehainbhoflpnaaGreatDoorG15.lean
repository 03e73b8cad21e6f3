/-
  slices.Concat of two slices of bytes, and the slices.Grow in it: what each call returns.
  Code as bytes: ins.Put and the document's own: what each call returns.
  A constant's bytes: pool.bytesOf: what it returns.
  Many constants: whether two are alike (pool.twoAlike).
  Many constants as bytes: pool.PutAll.
  A constant put behind bytes: pool.Put and the document's own: what each call returns.
  Many constants as bytes: the document's own PutAll.
-/
import Derived.Test.YtehainbhoflpnaaGreatDoorG2
import Derived.Lib.AppendZerosOnto
import Derived.Lib.SliceRun
import Derived.Test.YtehainbhoflpnaaGreatDoorG7
import Derived.Test.YtehainbhoflpnaaGreatDoorG5
import Derived.Test.YtehainbhoflpnaaGreatDoorG6
namespace Go.Proofs.YtehainbhoflpnaaGreatDoor
namespace Cat
open Go.RowKit BinM Base BinE BinPut Bin8

end Cat
end Go.Proofs.YtehainbhoflpnaaGreatDoor

namespace Go.Proofs.YtehainbhoflpnaaGreatDoor
namespace InsP
open Go.RowKit InsM Base InsA InsB Stru InsC BinM BinE BinPut Bin8 BinAll Cat

/-- numbers in a row of the call's own -/
def OwnI (w : World) (base : Nat) (v : Value) (l : List Int) : Prop := w.ownsRow base 2 1 v l.length (l.map (Value.int .i64))
theorem one_int (l : List Int) : ∀ u ∈ l.map (Value.int .i64), u.oneCell' = true := by
  intro u hu
  obtain ⟨t, _, rfl⟩ := List.mem_map.1 hu
  rfl

theorem OwnI.slice {w : World} {base : Nat} {v : Value} {p : List Int} (h : OwnI w base v p) :
    ∃ A c, v = .slice A p.length c ∧ p.length ≤ c ∧ c ≤ maxLen ∧ Rds w A (p.map (Value.int .i64)) := by
  obtain ⟨A, c, rfl, h1, h2, h3, _⟩ := own_slice h
  exact ⟨A, c, rfl, h1, h2, Rds.own h⟩

/-- the numbers of an instruction, of code -/
def insN (x : InsT) : List Int := if kindI x.1 = 0 then [x.1] else [x.1, x.2]
def codeN (n : Nat) (l : List InsT) : List Int := (n : Int) :: l.flatMap insN
/-- whether an instruction can be put -/
def putOk (x : InsT) : Bool := !(kindI x.1 == -1) && decide (0 ≤ x.2) && !((kindI x.1 == 0) && !(x.2 == 0))
theorem codeN_fit {n : Nat} {l : List InsT} (hn : n ≤ 512) (h : ∀ x ∈ l, fitI x.1 ∧ fitI x.2) : ∀ x ∈ codeN n l, -9223372036854775808 ≤ x ∧ x ≤ 9223372036854775807 := by
  intro y hy
  simp only [codeN, List.mem_cons, List.mem_flatMap] at hy
  rcases hy with rfl | ⟨x, hx, hy⟩
  · omega
  · have := h x hx
    unfold fitI at this
    unfold insN at hy
    split at hy
    · simp at hy; subst hy; exact this.1
    · simp at hy
      rcases hy with rfl | rfl
      · exact this.1
      · exact this.2

/-- a call hands back bytes in new memory, and an error's number -/
def Gives8N (w : World) (r : List UInt8 × Int) (e : Ending) (w' : World) : Prop :=
  ∃ v, e = .returned (.tuple #[v, .int .i64 r.2]) ∧ Own8 w' w.heap.size v r.1 ∧ Below w.heap.size w w'

theorem gives8N {w w' : World} {r : List UInt8 × Int} {v : Value} {t : List UInt8} {n : Int} (h : r = (t, n)) (ho : Own8 w' w.heap.size v t) (hb : Below w.heap.size w w') : Gives8N w r (.returned (.tuple #[v, .int .i64 n])) w' := by
  subst h
  exact ⟨v, rfl, ho, hb⟩

/-- the loop's way -/
def Rel (w : World) (l : List InsT) (o i : Value) (wr : World) : Prop :=
  ∃ k : Nat, k ≤ l.length ∧ i = .int .i64 k ∧ (∀ j (hj : j < l.length), j < k → putOk l[j] = true) ∧ OwnI wr w.heap.size o (codeN l.length (l.take k)) ∧ Below w.heap.size w wr

end InsP
end Go.Proofs.YtehainbhoflpnaaGreatDoor

namespace Go.Proofs.YtehainbhoflpnaaGreatDoor
namespace PoolD
open Go.RowKit Base BinM BinE BinPut Bin8 BinAll BinText DescM DescW Stru PoolM PoolA PoolB

/-- a constant's bytes -/
def bytesC (c : Cst) : List UInt8 := num c.kind ++ (if c.kind = 1 then num c.n else if c.kind = 2 ∨ c.kind = 3 then txt c.s else txt c.s ++ txt c.t ++ txt c.u)

theorem ints_one (w : World) (k : Int) (h : fitI k) : IsInts (w.alloc (.cells #[.int .i64 k] 2)) (some ⟨w.heap.size, 0, none⟩) 1 1 [k] :=
  ⟨rfl, Nat.le_refl _, by simp [maxLen], rds_new w #[.int .i64 k] _, by intro x hx; simp at hx; subst hx; exact h⟩

theorem ints_two (w : World) (o : Obj) (k : Int) (h : fitI k) : IsInts ((w.alloc o).alloc (.cells #[.int .i64 k] 2)) (some ⟨w.heap.size + 1, 0, none⟩) 1 1 [k] := by
  have := ints_one (w.alloc o) k h
  simpa using this

theorem txt_len (s : List UInt8) (h : s.length ≤ 1048576) : (txt s).length ≤ 10 + s.length := by
  have := (num_can (n := (s.length : Int)) (by omega) (by omega)).2.2
  unfold txt
  rw [List.length_append]; omega

set_option maxRecDepth 100000 in
set_option maxHeartbeats 4000000 in
theorem bytesOf_any (k n : Int) (s t u : List UInt8) (w : World) (hk : fitI k) (hn : fitI n) (hs : s.length ≤ 1048576) (ht : t.length ≤ 1048576) (hu : u.length ≤ 1048576) :
    Calls Tryz.prog 132 #[.agg #[.int .i64 k, .int .i64 n, .string ⟨s.toArray⟩, .string ⟨t.toArray⟩, .string ⟨u.toArray⟩]] w (Gives8 w (bytesC ⟨k, n, s, t, u⟩)) := by
  have hB0 := (Below.refl w.heap.size w).alloc (Nat.le_refl _) (.cells #[.int .i64 k, .int .i64 n, .string ⟨s.toArray⟩, .string ⟨t.toArray⟩, .string ⟨u.toArray⟩] 75)
  have HB0 := Lib.hid hB0
  have Hbox := Lib.hid (boxC.new w k n s t u 75)
  have Hi := Lib.hid (ints_two w (.cells #[.int .i64 k, .int .i64 n, .string ⟨s.toArray⟩, .string ⟨t.toArray⟩, .string ⟨u.toArray⟩] 75) k hk)
  have hk' := hk
  have hn' := hn
  unfold fitI at hk' hn'
  have hkl := (num_can hk'.1 hk'.2).2.2
  clear hB0
  go_enter Tryz.func132, Tryz.ntmps132
  go_wp2_with fail
  refine (all_any _ [k] 1 1 _ Hi.out (by omega)).mono ?_
  rintro e w1 ⟨v1, rfl, hown1, hb1⟩
  have hnk : nums [k] = num k := by simp [nums]
  rw [hnk] at hown1
  obtain ⟨A4, c4, rfl, h41, h42, hr4, _⟩ := Own8.slice hown1
  have hb1' := (HB0.out.alloc (by simp) _).trans (hb1.mono (by simp; omega))
  obtain ⟨hc0, hc1, hc2, hc3, hc4⟩ := boxC.below (boxC.below Hbox.out ((Below.refl _ _).alloc (Nat.le_refl _) (.cells #[.int .i64 k] 2)) (by simp)) hb1 (by simp; omega)
  have Hb1 := Lib.hid hb1'
  have hsz1 := hb1'.size
  have Hr4 := Lib.hid hr4
  generalize hq4 : (num k).length = q4 at *
  have Hq4 := Lib.hid hq4
  clear hown1 hr4 hb1 hb1' hq4 hnk
  by_cases h1 : k = 1
  · subst h1
    have H := Lib.hid (show bytesC ⟨1, n, s, t, u⟩ = num 1 ++ num n from rfl)
    go_wp2_with fail
    refine (put_any A4 (num 1) q4 c4 n w1 Hq4.out.symm (by omega) hn'.1 hn'.2 Hr4.out).mono ?_
    rintro e w2 ⟨v2, rfl, hown2, hb2⟩
    have Hown2 := Lib.hid (own_mono hown2 hsz1)
    have Hb2 := Lib.hid (Hb1.out.trans (hb2.mono hsz1))
    clear hown2 hb2
    go_wp2_with fail
    go_ret
    exact ⟨_, rfl, by rw [H.out]; exact Hown2.out, Hb2.out⟩
  · by_cases h2 : k = 2 ∨ k = 3
    · have H := Lib.hid (show bytesC ⟨k, n, s, t, u⟩ = num k ++ txt s by unfold bytesC; rw [if_neg h1, if_pos h2])
      rcases h2 with rfl | rfl
      all_goals
        go_wp2_with fail
        refine (text_any A4 (num _) q4 c4 ⟨s.toArray⟩ w1 Hq4.out.symm (by rw [size_mk]; omega) Hr4.out).mono ?_
        rintro e w2 ⟨v2, rfl, hown2, hb2⟩
        have Hown2 := Lib.hid (own_mono hown2 hsz1)
        have Hb2 := Lib.hid (Hb1.out.trans (hb2.mono hsz1))
        clear hown2 hb2
        go_wp2_with fail
        go_ret
        exact ⟨_, rfl, by rw [H.out]; exact Hown2.out, Hb2.out⟩
    · have H := Lib.hid (show bytesC ⟨k, n, s, t, u⟩ = num k ++ txt s ++ txt t ++ txt u by unfold bytesC; rw [if_neg h1, if_neg h2]; simp)
      have g1 : (k == 1) = false := by simpa using h1
      have g2 : (k == 2) = false := by simp; omega
      have g3 : (k == 3) = false := by simp; omega
      have hts := txt_len s hs
      have htt := txt_len t ht
      have htu := txt_len u hu
      generalize hX : num k = X at *
      clear h1 h2
      go_wp2_with fail
      have hBw := Hb1.out.drew
      have hs1 : (ByteArray.mk s.toArray).size = s.length := size_mk s
      have ht1 : (ByteArray.mk t.toArray).size = t.length := size_mk t
      have hu1 : (ByteArray.mk u.toArray).size = u.length := size_mk u
      go_region_held3 (fun w' => w'.cell? ⟨w.heap.size, 2, none⟩ = some (.string ⟨s.toArray⟩) ∧ w'.cell? ⟨w.heap.size, 3, none⟩ = some (.string ⟨t.toArray⟩) ∧ w'.cell? ⟨w.heap.size, 4, none⟩ = some (.string ⟨u.toArray⟩))
        (first | go_keep)
        (first
          | (go_at_call 170; refine (text_any A6 _ q6 c6 ⟨u.toArray⟩ _ Hq6.out.symm (by omega) Hr6.out).mono ?_; rintro e w7 ⟨v7, rfl, hown7, hb7⟩
             have hd2 : w7.cell? ⟨w.heap.size, 2, none⟩ = some (.string ⟨s.toArray⟩) := (hb7.cell (p := ⟨w.heap.size, 2, none⟩) (World.block_lt_of_cell? _ ⟨w.heap.size, 2, none⟩ he2)).trans he2
             have hd3 : w7.cell? ⟨w.heap.size, 3, none⟩ = some (.string ⟨t.toArray⟩) := (hb7.cell (p := ⟨w.heap.size, 3, none⟩) (World.block_lt_of_cell? _ ⟨w.heap.size, 3, none⟩ he3)).trans he3
             have hd4 : w7.cell? ⟨w.heap.size, 4, none⟩ = some (.string ⟨u.toArray⟩) := (hb7.cell (p := ⟨w.heap.size, 4, none⟩) (World.block_lt_of_cell? _ ⟨w.heap.size, 4, none⟩ he4)).trans he4
             have Hb7 := Lib.hid (Hb6.out.trans (hb7.mono Hb6.out.size))
             have Hown7 := Lib.hid (own_mono hown7 Hb6.out.size)
             clear hown7 hb7 he2 he3 he4)
          | (go_at_call 170; refine (text_any A5 _ q5 c5 ⟨t.toArray⟩ _ Hq5.out.symm (by omega) Hr5.out).mono ?_; rintro e w6 ⟨v6, rfl, hown6, hb6⟩
             obtain ⟨A6, c6, rfl, h61, h62, hr6, _⟩ := Own8.slice hown6
             have he2 : w6.cell? ⟨w.heap.size, 2, none⟩ = some (.string ⟨s.toArray⟩) := (hb6.cell (p := ⟨w.heap.size, 2, none⟩) (World.block_lt_of_cell? _ ⟨w.heap.size, 2, none⟩ hd2)).trans hd2
             have he3 : w6.cell? ⟨w.heap.size, 3, none⟩ = some (.string ⟨t.toArray⟩) := (hb6.cell (p := ⟨w.heap.size, 3, none⟩) (World.block_lt_of_cell? _ ⟨w.heap.size, 3, none⟩ hd3)).trans hd3
             have he4 : w6.cell? ⟨w.heap.size, 4, none⟩ = some (.string ⟨u.toArray⟩) := (hb6.cell (p := ⟨w.heap.size, 4, none⟩) (World.block_lt_of_cell? _ ⟨w.heap.size, 4, none⟩ hd4)).trans hd4
             have Hr6 := Lib.hid hr6
             have Hb6 := Lib.hid (Hb5.out.trans (hb6.mono Hb5.out.size))
             generalize hq6 : (X ++ txt (ByteArray.mk s.toArray).data.toList ++ txt (ByteArray.mk t.toArray).data.toList).length = q6 at *
             have Hq6 := Lib.hid hq6
             have hq6l : q6 ≤ q5 + 10 + t.length := by rw [← hq6, List.length_append, Hq5.out]; show q5 + (txt t).length ≤ _; omega
             clear hown6 hr6 hb6 hq6 hd2 hd3 hd4)
          | (go_at_call 170; refine (text_any A4 X q4 c4 ⟨s.toArray⟩ _ Hq4.out.symm (by omega) Hr4.out.drew).mono ?_; rintro e w5 ⟨v5, rfl, hown5, hb5⟩
             obtain ⟨A5, c5, rfl, h51, h52, hr5, _⟩ := Own8.slice hown5
             have hd2 : w5.cell? ⟨w.heap.size, 2, none⟩ = some (.string ⟨s.toArray⟩) := (hb5.cell (p := ⟨w.heap.size, 2, none⟩) (World.block_lt_of_cell? _ ⟨w.heap.size, 2, none⟩ hc2)).trans hc2
             have hd3 : w5.cell? ⟨w.heap.size, 3, none⟩ = some (.string ⟨t.toArray⟩) := (hb5.cell (p := ⟨w.heap.size, 3, none⟩) (World.block_lt_of_cell? _ ⟨w.heap.size, 3, none⟩ hc3)).trans hc3
             have hd4 : w5.cell? ⟨w.heap.size, 4, none⟩ = some (.string ⟨u.toArray⟩) := (hb5.cell (p := ⟨w.heap.size, 4, none⟩) (World.block_lt_of_cell? _ ⟨w.heap.size, 4, none⟩ hc4)).trans hc4
             have Hr5 := Lib.hid hr5
             have Hb5 := Lib.hid (hBw.trans (hb5.mono hsz1))
             generalize hq5 : (X ++ txt (ByteArray.mk s.toArray).data.toList).length = q5 at *
             have Hq5 := Lib.hid hq5
             have hq5l : q5 ≤ q4 + 10 + s.length := by rw [← hq5, List.length_append, Hq4.out]; show q4 + (txt s).length ≤ _; omega
             clear hown5 hr5 hb5 hq5 hc2 hc3 hc4))
      go_wp2_with fail
      go_ret
      exact ⟨_, rfl, by rw [H.out]; exact Hown7.out, Hb7.out⟩

end PoolD
end Go.Proofs.YtehainbhoflpnaaGreatDoor

namespace Go.Proofs.YtehainbhoflpnaaGreatDoor
namespace PutM
open Go.RowKit Base BinM Stru PoolM PoolA PoolB PoolK

theorem IsCsts.take {w : World} {A : Option Addr} {m c : Nat} {l : List Cst} (h : IsCsts w A m c l) {j : Nat} (hj : j ≤ m) : IsCsts w A j c (l.take j) := by
  refine ⟨by have := h.len; simp; omega, Nat.le_trans hj h.le, h.max, ?_, fun x hx => h.fit x (List.mem_of_mem_take hx)⟩
  have e : (l.take j).flatMap Cst.vals = (l.flatMap Cst.vals).take (j * 5) := by
    have hn : ∀ x : Cst, x.vals.length = 5 := fun _ => rfl
    clear h hj
    induction l generalizing j with
    | nil => simp
    | cons x r ih =>
      cases j with
      | zero => simp
      | succ j =>
        simp only [List.take_succ_cons, List.flatMap_cons, ih]
        rw [List.take_append, hn, List.take_of_length_le (l := x.vals) (by rw [hn]; omega), show (j + 1) * 5 - 5 = j * 5 by omega]
  rw [e]
  exact h.rds.take _
theorem elemC : (sizeOf (Tryz.prog.elem 22)).run Tryz.prog = fun W => .ok 5 W := by kernel_rfl
theorem sliceC (A : Option Addr) (m c k : Nat) (h : k ≤ c) (W : World) : (Instr.slice 22 (.slice A m c) none (some (.int .i64 (k : Int))) none).run Tryz.prog W = .ok (.slice A k c) W := by
  have hu : Tryz.prog.underlying 22 = some (.slice (Tryz.prog.elem 22)) := by kernel_rfl
  rw [run_slice_h W 22 A m c hu .i64 (k : Int) (by omega) (by omega), elemC]
  cases A <;> simp [Result.andThen, sliced, Addr.add]
/-- it stands there, or not -/
theorem find_mem {l : List Cst} {x : Cst} : x ∈ l ↔ 0 ≤ findC l x := by
  induction l with
  | nil => simp [findC]
  | cons y r ih =>
    unfold findC
    by_cases hy : sameC y x = true
    · rw [if_pos hy]
      have : y = x := (same_iff _ _).1 hy
      simp [this]
    · rw [if_neg hy]
      have hne : x ≠ y := fun h => hy ((same_iff _ _).2 h.symm)
      have := find_ge r x
      simp only [List.mem_cons, hne, false_or, ih]
      split <;> omega
theorem nodup_next {l : List Cst} {j : Nat} (hj : j < l.length) (h : (l.take j).Nodup) (hn : ¬ 0 ≤ findC (l.take j) l[j]) : (l.take (j + 1)).Nodup := by
  rw [List.take_succ_eq_append_getElem hj, List.nodup_append]
  refine ⟨h, by simp, ?_⟩
  intro a ha b hb
  simp at hb
  subst hb
  rintro rfl
  exact hn (find_mem.1 ha)
theorem nodup_not {l : List Cst} {j : Nat} (hj : j < l.length) (hn : 0 ≤ findC (l.take j) l[j]) : ¬ l.Nodup := by
  intro h
  have h2 : (l.take (j + 1)).Nodup := h.sublist (List.take_sublist _ _)
  rw [List.take_succ_eq_append_getElem hj, List.nodup_append] at h2
  exact h2.2.2 _ (find_mem.2 hn) _ (by simp) rfl

theorem _root_.Go.Proofs.YtehainbhoflpnaaGreatDoor.PoolB.boxC.drew {w : World} {g : Nat} {k n : Int} {s t u : List UInt8} (h : boxC w g k n s t u) : boxC w.drew g k n s t u := h

set_option maxRecDepth 100000 in
set_option maxHeartbeats 2000000 in
theorem twoAlike_any (A : Option Addr) (l : List Cst) (m c : Nat) (w : World) (h : IsCsts w A m c l) :
    Calls Tryz.prog 130 #[.slice A m c] w fun e w' => e = .returned (.bool (!decide l.Nodup)) ∧ Below w.heap.size w w' := by
  have hml : l.length ≤ m := Nat.le_of_eq h.len.symm
  have hml2 : m ≤ l.length := Nat.le_of_eq h.len
  have hmx := h.max
  have hle := h.le
  unfold maxLen at hmx
  have H := Lib.hid h
  clear h
  go_enter Tryz.func130, Tryz.ntmps130
  go_wp2_with fail
  go_loopw [3, 4, 7] (fun _ _ i wr => ∃ j : Nat, j ≤ m ∧ i = .int .i64 j ∧ (l.take j).Nodup ∧ Below w.heap.size w wr) (fun _ _ i _ => m - (intOf i).toNat)
  case atStart => exact ⟨0, Nat.zero_le _, rfl, by simp, Below.refl _ _⟩
  case round =>
    obtain ⟨j, hj, rfl, hnd, hbel⟩ := hrel
    have Hnd := Lib.hid hnd
    have Hbel := Lib.hid hbel
    clear hnd
    by_cases hlt : j < m
    · have hja : j < l.length := by omega
      obtain ⟨b1, o1, rfl, hb1, hc0, hc1, hc2, hc3, hc4⟩ := csts_at (H.out.below hbel).rds hja
      have hj1 : (j : Int) < (m : Int) := by omega
      have hj0 : (0 : Int) ≤ (j : Int) := by omega
      have hsl := sliceC (some ⟨b1, o1, none⟩) m c j (by omega)
      have HT := Lib.hid (IsCsts.take (H.out.below hbel) hj)
      have Hnext := Lib.hid (fun hn => nodup_next hja Hnd.out hn)
      have Hnot := Lib.hid (fun hn => nodup_not hja hn)
      have HB := Lib.hid (boxC.new wr l[j].kind l[j].n l[j].s l[j].t l[j].u 75)
      clear hbel
      generalize l[j] = x at *
      obtain ⟨x0, x1, x2, x3, x4⟩ := x
      simp only at hc0 hc1 hc2 hc3 hc4 HB
      have HA := Lib.hid ((Below.refl wr.heap.size wr).alloc (Nat.le_refl _) (.cells #[.int .i64 x0, .int .i64 x1, .string ⟨x2.toArray⟩, .string ⟨x3.toArray⟩, .string ⟨x4.toArray⟩] 75))
      go_wp2_with fail
      obtain ⟨g0, g1, g2, g3, g4⟩ := HB.out
      go_region_held3 (fun w' => w'.cell? ⟨wr.heap.size, 0, none⟩ = some (.int .i64 x0) ∧ w'.cell? ⟨wr.heap.size, 1, none⟩ = some (.int .i64 x1) ∧ w'.cell? ⟨wr.heap.size, 2, none⟩ = some (.string ⟨x2.toArray⟩) ∧ w'.cell? ⟨wr.heap.size, 3, none⟩ = some (.string ⟨x3.toArray⟩) ∧ w'.cell? ⟨wr.heap.size, 4, none⟩ = some (.string ⟨x4.toArray⟩))
        (first | exact ⟨g0, g1, g2, g3, g4⟩ | go_keep)
        (first
          | (go_at_call 167; refine (find_any _ (l.take j) j c x0 x1 x2 x3 x4 _ (HT.out.below HA.out.drew)).mono ?_; rintro e w3 ⟨rfl, hb3⟩
             have B3 := Lib.hid (Hbel.out.trans ((HA.out.drew.trans (hb3.mono HA.out.size)).mono Hbel.out.size))
             have P3 := Lib.hid (HB.out.drew.after hb3)
             clear hb3 g0 g1 g2 g3 g4
             obtain ⟨g0, g1, g2, g3, g4⟩ := P3.out))
      all_goals
        generalize findC _ _ = F at *
        by_cases hF : 0 ≤ F
        · have Hq := Lib.hid (Hnot.out (by omega))
          go_wp2_with fail
          go_ret
          exact ⟨by rw [decide_eq_false Hq.out]; rfl, B3.out⟩
        · have Hq := Lib.hid (Hnext.out (by omega))
          have hF2 : decide (F ≥ 0) = false := by simpa using hF
          have hF3 : decide (0 ≤ F) = false := by simpa using hF
          go_wp2_with fail
          go_roundw
          case rel => exact ⟨j + 1, by omega, by go_num, Hq.out, B3.out⟩
          case measure => simp [intOf]; omega
    · have Hfin := Lib.hid (show l.Nodup by
        have h := Hnd.out
        rwa [List.take_of_length_le (by omega)] at h)
      go_wp2_with fail
      go_ret
      exact ⟨by rw [decide_eq_true Hfin.out]; rfl, hbel⟩

end PutM
end Go.Proofs.YtehainbhoflpnaaGreatDoor

namespace Go.Proofs.YtehainbhoflpnaaGreatDoor
namespace PutN
open Go.RowKit Base BinM BinE BinPut Bin8 Stru PoolM PoolA PoolB PoolK PoolL PoolD PutM InsP

/-- many constants as bytes, behind others; and why not -/
def allC (b : List UInt8) (l : List Cst) : List UInt8 × Int :=
  if 256 < l.length then ([], 6) else if l.all rightC = true then (if l.Nodup then (b ++ num l.length ++ l.flatMap bytesC, 0) else ([], 8)) else ([], 11)
theorem all_size {b : List UInt8} {l : List Cst} (h : 256 < l.length) : allC b l = ([], 6) := by unfold allC; rw [if_pos h]
theorem all_bad {b : List UInt8} {l : List Cst} (h : ¬ 256 < l.length) {x : Cst} (hx : x ∈ l) (h2 : rightC x = false) : allC b l = ([], 11) := by
  unfold allC
  rw [if_neg h, if_neg]
  intro h3
  have := List.all_eq_true.1 h3 x hx
  rw [h2] at this
  cases this
theorem all_twice {b : List UInt8} {l : List Cst} (h : ¬ 256 < l.length) (h2 : ∀ x ∈ l, rightC x = true) (h3 : ¬ l.Nodup) : allC b l = ([], 8) := by
  unfold allC
  rw [if_neg h, if_pos (List.all_eq_true.2 h2), if_neg h3]
theorem all_good {b : List UInt8} {l : List Cst} (h : ¬ 256 < l.length) (h2 : ∀ x ∈ l, rightC x = true) (h3 : l.Nodup) : allC b l = (b ++ num l.length ++ l.flatMap bytesC, 0) := by
  unfold allC
  rw [if_neg h, if_pos (List.all_eq_true.2 h2), if_pos h3]
theorem right_next {l : List Cst} {j : Nat} (hj : j < l.length) (h : ∀ x ∈ l.take j, rightC x = true) (h2 : rightC l[j] = true) : ∀ x ∈ l.take (j + 1), rightC x = true := by
  intro x hx
  rw [List.take_succ_eq_append_getElem hj, List.mem_append] at hx
  rcases hx with hx | hx
  · exact h x hx
  · simp at hx; subst hx; exact h2
theorem bytes_len {c : Cst} (h : rightC c = true) (hk : fitI c.kind) (hn : fitI c.n) : (bytesC c).length ≤ 1000 := by
  obtain ⟨k, n, s, t, u⟩ := c
  obtain ⟨h1, h2, h3⟩ := right_len h
  have l1 := txt_len s (by omega)
  have l2 := txt_len t (by omega)
  have l3 := txt_len u (by omega)
  have k1 := (num_can hk.1 hk.2).2.2
  have k2 := (num_can hn.1 hn.2).2.2
  simp only at k1 k2
  unfold bytesC
  rw [List.length_append]
  simp only
  split
  · omega
  · split
    · omega
    · simp only [List.length_append]; omega
theorem flat_len {l : List Cst} (h : ∀ x ∈ l, rightC x = true) (hf : ∀ x ∈ l, fitI x.kind ∧ fitI x.n) : (l.flatMap bytesC).length ≤ 1000 * l.length := by
  induction l with
  | nil => simp
  | cons x r ih =>
    have h1 := bytes_len (h x (by simp)) (hf x (by simp)).1 (hf x (by simp)).2
    have h2 := ih (fun y hy => h y (by simp [hy])) (fun y hy => hf y (by simp [hy]))
    simp only [List.flatMap_cons, List.length_append, List.length_cons]
    omega

set_option maxRecDepth 100000 in
set_option maxHeartbeats 4000000 in
theorem putAll_any (B : Option Addr) (mb cb : Nat) (b : List UInt8) (A : Option Addr) (m c : Nat) (l : List Cst) (w : World) (hbm : mb = b.length) (hbr : Rds w B (cells8 b)) (hbl : mb ≤ 1048576) (h : IsCsts w A m c l)
    (hlt : ∀ x ∈ l, x.s.length ≤ 140737488351232 ∧ x.t.length ≤ 140737488351232 ∧ x.u.length ≤ 140737488351232) :
    Calls Tryz.prog 77 #[.slice B mb cb, .slice A m c] w (Gives8N w (allC b l)) := by
  have hml : l.length ≤ m := Nat.le_of_eq h.len.symm
  have hml2 : m ≤ l.length := Nat.le_of_eq h.len
  have hmx := h.max
  have hle := h.le
  unfold maxLen at hmx
  have H := Lib.hid h
  have Hlt := Lib.hid hlt
  have Hbm := Lib.hid hbm
  have Hbr := Lib.hid hbr
  clear h hlt hbm hbr
  by_cases hs : 256 < l.length
  · have HH := Lib.hid (all_size (b := b) hs)
    have hs' : 256 < m := by omega
    go_enter Tryz.func77, Tryz.ntmps77
    go_wp2_with fail
    go_ret2
    exact gives8N HH.out (Own8.nil _ _) (Below.refl _ _)
  · have hs' : ¬ 256 < m := by omega
    have Hs := Lib.hid hs
    clear hs
    go_enter Tryz.func77, Tryz.ntmps77
    go_wp2_with fail
    go_loopw [7, 16] (fun _ i wr => ∃ j : Nat, j ≤ m ∧ i = .int .i64 j ∧ (∀ x ∈ l.take j, rightC x = true) ∧ Below w.heap.size w wr) (fun _ i _ => m - (intOf i).toNat)
    case atStart => exact ⟨0, Nat.zero_le _, rfl, by simp, Below.refl _ _⟩
    case round =>
      obtain ⟨j, hj, rfl, hall, hbel⟩ := hrel
      have Hall := Lib.hid hall
      have Hbel := Lib.hid hbel
      clear hall
      by_cases hlt : j < m
      · have hja : j < l.length := by omega
        obtain ⟨b1, o1, rfl, hb1, hc0, hc1, hc2, hc3, hc4⟩ := csts_at (H.out.below hbel).rds hja
        have hj1 : (j : Int) < (m : Int) := by omega
        have hj0 : (0 : Int) ≤ (j : Int) := by omega
        have Hnext := Lib.hid (fun hn => right_next hja Hall.out hn)
        have Hbad := Lib.hid (fun hn => all_bad (b := b) Hs.out (List.getElem_mem hja) hn)
        have Hl3 := Lib.hid (Hlt.out _ (List.getElem_mem hja))
        clear hbel
        generalize l[j] = x at *
        obtain ⟨x0, x1, x2, x3, x4⟩ := x
        simp only at hc0 hc1 hc2 hc3 hc4
        have hl3 := Hl3.out
        simp only at hl3
        have HA := Lib.hid ((Below.refl wr.heap.size wr).alloc (Nat.le_refl _) (.cells #[.int .i64 x0, .int .i64 x1, .string ⟨x2.toArray⟩, .string ⟨x3.toArray⟩, .string ⟨x4.toArray⟩] 75))
        go_wp2_with fail
        refine (poolRight_any x0 x1 x2 x3 x4 _ (by omega) (by omega) (by omega)).mono ?_
        rintro e w3 ⟨rfl, hb3⟩
        have B3 := Lib.hid (Hbel.out.trans ((HA.out.trans (hb3.mono HA.out.size)).mono Hbel.out.size))
        clear hb3 hl3
        cases hR : rightC ⟨x0, x1, x2, x3, x4⟩
        · have Hq := Lib.hid (Hbad.out hR)
          clear hR
          go_wp2_with fail
          go_ret2
          exact gives8N Hq.out (Own8.nil _ _) B3.out
        · have Hq := Lib.hid (Hnext.out hR)
          clear hR
          go_wp2_with fail
          go_roundw
          case rel => exact ⟨j + 1, by omega, by go_num, Hq.out, B3.out⟩
          case measure => simp [intOf]; omega
      · have Hright := Lib.hid (show ∀ x ∈ l, rightC x = true by
          have h := Hall.out
          rwa [List.take_of_length_le (by omega)] at h)
        clear hbel
        go_wp2_with fail
        refine (twoAlike_any A l m c _ (H.out.below Hbel.out)).mono ?_
        rintro e w3 ⟨rfl, hb3⟩
        have B3 := Lib.hid (Hbel.out.trans (hb3.mono Hbel.out.size))
        clear hb3
        by_cases hnd : l.Nodup
        · have HH := Lib.hid (all_good (b := b) Hs.out Hright.out hnd)
          rw [decide_eq_true hnd]
          clear hnd
          go_wp2_with fail
          refine (BinPut.put_any B b mb cb (m : Int) w3 Hbm.out (by omega) (by omega) (by omega) (Hbr.out.below B3.out)).mono ?_
          rintro e w4 ⟨v4, rfl, hown4, hb4⟩
          have B4 := Lib.hid (B3.out.trans (hb4.mono B3.out.size))
          have O4 := Lib.hid (own_mono hown4 B3.out.size)
          clear hown4 hb4
          go_wp2_with fail
          go_loopw [8, 10, 32] (fun v _ i wr => ∃ j : Nat, j ≤ m ∧ i = .int .i64 j ∧ Own8 wr w.heap.size v (b ++ num (m : Int) ++ (l.take j).flatMap bytesC) ∧ Below w.heap.size w wr) (fun _ _ i _ => m - (intOf i).toNat)
          case atStart => exact ⟨0, Nat.zero_le _, rfl, by rw [List.take_zero, List.flatMap_nil, List.append_nil]; exact O4.out, B4.out⟩
          case round =>
            obtain ⟨j, hj, rfl, hown, hbel⟩ := hrel
            have Hown := Lib.hid hown
            have Hbel := Lib.hid hbel
            have hsz := hbel.size
            clear hown
            by_cases hlt : j < m
            · have hja : j < l.length := by omega
              obtain ⟨b1, o1, rfl, hb1, hc0, hc1, hc2, hc3, hc4⟩ := csts_at (H.out.below hbel).rds hja
              have hj1 : (j : Int) < (m : Int) := by omega
              have hj0 : (0 : Int) ≤ (j : Int) := by omega
              have Hct := Lib.hid (show b ++ num (m : Int) ++ (l.take (j + 1)).flatMap bytesC = (b ++ num (m : Int) ++ (l.take j).flatMap bytesC) ++ bytesC l[j] by
                rw [List.take_succ_eq_append_getElem hja, List.flatMap_append]; simp)
              have hpl : (b ++ num (m : Int) ++ (l.take j).flatMap bytesC).length ≤ mb + 10 + 1000 * m := by
                have h1 := PutN.flat_len (l := l.take j) (fun x hx => Hright.out x (List.mem_of_mem_take hx)) (fun x hx => H.out.fit x (List.mem_of_mem_take hx))
                have h2 : (l.take j).length ≤ j := by simp; omega
                have h3 := (num_can (n := (m : Int)) (by omega) (by omega)).2.2
                have h4 := Hbm.out
                simp only [List.length_append]
                omega
              have Hpl := Lib.hid hpl
              have Hrx := Lib.hid (show l[j].s.length ≤ 300 ∧ l[j].t.length ≤ 300 ∧ l[j].u.length ≤ 300 from right_len (Hright.out _ (List.getElem_mem hja)))
              have Hbx := Lib.hid (bytes_len (Hright.out _ (List.getElem_mem hja)) (H.out.fit _ (List.getElem_mem hja)).1 (H.out.fit _ (List.getElem_mem hja)).2)
              have Hfx := Lib.hid (H.out.fit _ (List.getElem_mem hja))
              clear hbel hpl
              generalize b ++ num (m : Int) ++ (l.take j).flatMap bytesC = p at *
              generalize l[j] = x at *
              obtain ⟨x0, x1, x2, x3, x4⟩ := x
              simp only at hc0 hc1 hc2 hc3 hc4
              have hl3 : x2.length ≤ 300 ∧ x3.length ≤ 300 ∧ x4.length ≤ 300 := Hrx.out
              have HA := Lib.hid ((Below.refl wr.heap.size wr).alloc (Nat.le_refl _) (.cells #[.int .i64 x0, .int .i64 x1, .string ⟨x2.toArray⟩, .string ⟨x3.toArray⟩, .string ⟨x4.toArray⟩] 75))
              go_wp2_with fail
              refine (bytesOf_any x0 x1 x2 x3 x4 _ Hfx.out.1 Hfx.out.2 (by omega) (by omega) (by omega)).mono ?_
              rintro e w5 ⟨v5, rfl, hown5, hb5⟩
              have K5 := Lib.hid (HA.out.trans (hb5.mono HA.out.size))
              obtain ⟨A5, c5, rfl, h51, h52, hr5, _⟩ := Own8.slice hown5
              have R5 := Lib.hid hr5
              have hsz5 := K5.out.size
              clear hown5 hb5 hl3 hr5
              go_wp2_with (at_builtin
                           refine app8 rfl (.tmp 36) (.tmp 38) rfl w.heap.size _ p rfl (own_kept Hown.out K5.out) A5 _ c5 (bytesC ⟨x0, x1, x2, x3, x4⟩) rfl rfl R5.out (by have := Hpl.out; have := Hbx.out; omega) (by omega) ?_
                           intro v6 w6 hown6 hg6
                           have B6 := Lib.hid (own_below (own_kept Hown.out K5.out) (Hbel.out.trans (K5.out.mono hsz)) (Nat.le_refl _) (by omega) hg6)
                           have Hown6 := Lib.hid hown6
                           clear hown6 hg6)
              go_roundw
              case rel => exact ⟨j + 1, by omega, by go_num, by rw [Hct.out]; exact Hown6.out, B6.out⟩
              case measure => simp [intOf]; omega
            · have Hfin := Lib.hid (show Own8 wr w.heap.size u8 (b ++ num (l.length : Int) ++ l.flatMap bytesC) by
                have h := Hown.out
                rw [List.take_of_length_le (by omega)] at h
                rwa [show ((l.length : Nat) : Int) = (m : Int) by omega])
              clear hbel
              go_wp2_with fail
              go_ret2
              exact gives8N HH.out Hfin.out Hbel.out
        · have HH := Lib.hid (all_twice (b := b) Hs.out Hright.out hnd)
          rw [decide_eq_false hnd]
          clear hnd
          go_wp2_with fail
          go_ret2
          exact gives8N HH.out (Own8.nil _ _) B3.out

end PutN
end Go.Proofs.YtehainbhoflpnaaGreatDoor

namespace Go.Proofs.YtehainbhoflpnaaGreatDoor
namespace PoolE
open Go.RowKit Base BinM BinE BinPut Bin8 BinAll BinText DescM DescW Stru PoolM PoolA PoolB PoolC PoolD Cat
open RefPut (refPut_any)

/-- bytes and a constant's behind them; the error's number -/
def putC (b : List UInt8) (c : Cst) : List UInt8 × Int := if rightC c then (b ++ bytesC c, 0) else ([], 11)
theorem put_no {b : List UInt8} {c : Cst} (h : rightC c = false) : putC b c = ([], 11) := by unfold putC; rw [h]; rfl
theorem put_yes {b : List UInt8} {c : Cst} (h : rightC c = true) : putC b c = (b ++ bytesC c, 0) := by unfold putC; rw [h]; rfl

/-- a call hands back bytes in new memory, and an error's number -/
def Gives8N (w : World) (r : List UInt8 × Int) (e : Ending) (w' : World) : Prop :=
  ∃ v, e = .returned (.tuple #[v, .int .i64 r.2]) ∧ Own8 w' w.heap.size v r.1 ∧ Below w.heap.size w w'
theorem gives8N {w w' : World} {r : List UInt8 × Int} {v : Value} {t : List UInt8} {n : Int} (h : r = (t, n)) (ho : Own8 w' w.heap.size v t) (hb : Below w.heap.size w w') : Gives8N w r (.returned (.tuple #[v, .int .i64 n])) w' := by
  subst h
  exact ⟨v, rfl, ho, hb⟩

theorem bytes_len {c : Cst} (hk : fitI c.kind) (hn : fitI c.n) (hs : c.s.length ≤ 300) (ht : c.t.length ≤ 300) (hu : c.u.length ≤ 300) : (bytesC c).length ≤ 1000 := by
  unfold fitI at hk hn
  have h1 := (num_can hk.1 hk.2).2.2
  have h2 := (num_can hn.1 hn.2).2.2
  have h3 := txt_len c.s (by omega)
  have h4 := txt_len c.t (by omega)
  have h5 := txt_len c.u (by omega)
  unfold bytesC
  rw [List.length_append]
  split
  · omega
  · split
    · omega
    · rw [List.length_append, List.length_append]; omega


set_option maxRecDepth 100000 in
set_option maxHeartbeats 4000000 in
theorem poolRefPut_any (B : Option Addr) (mb cb : Nat) (b : List UInt8) (k n : Int) (s t u : List UInt8) (w : World) (hbm : mb = b.length) (hbr : Rds w B (cells8 b)) (hbl : mb ≤ 140737488351232)
    (hk : fitI k) (hn : fitI n) (hs : s.length ≤ 140737488355327) (ht : t.length ≤ 140737488355327) (hu : u.length ≤ 140737488355327) :
    Calls Tryz.prog 161 #[.slice B mb cb, .agg #[.int .i64 k, .int .i64 n, .string ⟨s.toArray⟩, .string ⟨t.toArray⟩, .string ⟨u.toArray⟩]] w (Gives8N w (putC b ⟨k, n, s, t, u⟩)) := by
  have hB0 := (Below.refl w.heap.size w).alloc (Nat.le_refl _) (.cells #[.int .i64 k, .int .i64 n, .string ⟨s.toArray⟩, .string ⟨t.toArray⟩, .string ⟨u.toArray⟩] 75)
  have HB0 := Lib.hid hB0
  have Hbox := Lib.hid (boxC.new w k n s t u 75)
  have Hbm := Lib.hid hbm
  have Hbr := Lib.hid hbr
  have hk' := hk
  have hn' := hn
  unfold fitI at hk' hn'
  have hkl := (num_can hk'.1 hk'.2).2.2
  clear hB0 hbm hbr
  cases hrt : rightC ⟨k, n, s, t, u⟩
  · have H := Lib.hid (put_no (b := b) hrt)
    have Hrt := Lib.hid hrt
    clear hrt
    go_enter Tryz.func161, Tryz.ntmps161
    go_wp2_with fail
    refine (poolRefRight_any k n s t u _ (by omega) (by omega) (by omega)).mono ?_
    rw [Hrt.out]
    rintro e w1 ⟨rfl, hb1⟩
    have Hb1 := Lib.hid (HB0.out.trans (hb1.mono (by simp)))
    clear hb1
    go_wp2_with fail
    go_ret2
    exact gives8N H.out (Own8.nil _ _) Hb1.out
  · obtain ⟨hs, ht, hu⟩ := PoolL.right_len hrt
    have H := put_yes (b := b) hrt
    have Hrt := Lib.hid hrt
    clear hrt
    go_enter Tryz.func161, Tryz.ntmps161
    go_wp2_with fail
    refine (poolRefRight_any k n s t u _ (by omega) (by omega) (by omega)).mono ?_
    rw [Hrt.out]
    rintro e w1 ⟨rfl, hb1⟩
    obtain ⟨hc0', hc1', hc2', hc3', hc4'⟩ := boxC.after Hbox.out hb1
    have hbx : w.heap.size < w1.heap.size := World.block_lt_of_cell? w1 ⟨w.heap.size, 0, none⟩ hc0'
    have Hbx1 : Hid (boxC w1 w.heap.size k n s t u) := Lib.hid ⟨hc0', hc1', hc2', hc3', hc4'⟩
    have Hb1 := Lib.hid (HB0.out.trans (hb1.mono (by simp)))
    have hsz1 := Hb1.out.size
    clear hb1 hc1' hc2' hc3' hc4'
    have Hpost := Lib.hid H
    clear H
    go_wp2_with fail
    refine (refPut_any B b mb cb k w1 Hbm.out (by omega) hk'.1 hk'.2 (Hbr.out.below Hb1.out)).mono ?_
    rintro e w2 ⟨v2, rfl, hown2, hb2⟩
    obtain ⟨A4, c4, rfl, h41, h42, hr4, _⟩ := Own8.slice hown2
    obtain ⟨hc0, hc1, hc2, hc3, hc4⟩ := boxC.after Hbx1.out hb2
    have Hb2 := Lib.hid (Hb1.out.trans (hb2.mono hsz1))
    have hsz2 := Hb2.out.size
    have Hr4 := Lib.hid hr4
    clear hown2 hr4 hb2 hc0'
    generalize hX : b ++ num k = X at *
    have hXl : X.length ≤ mb + 10 := by rw [← hX, List.length_append, ← Hbm.out]; omega
    generalize hq4 : X.length = q4 at *
    have Hq4 := Lib.hid hq4
    have HX := Lib.hid hX
    clear hq4 hX
    by_cases h1 : k = 1
    · subst h1
      have H := Lib.hid (show putC b ⟨1, n, s, t, u⟩ = (X ++ num n, 0) by rw [Hpost.out, ← HX.out]; simp [bytesC])
      go_wp2_with fail
      refine (refPut_any A4 X q4 c4 n w2 Hq4.out.symm (by omega) hn'.1 hn'.2 Hr4.out).mono ?_
      rintro e w3 ⟨v3, rfl, hown3, hb3⟩
      have Hown3 := Lib.hid (own_mono hown3 hsz2)
      have Hb3 := Lib.hid (Hb2.out.trans (hb3.mono hsz2))
      clear hown3 hb3
      go_wp2_with fail
      go_ret2
      exact gives8N H.out Hown3.out Hb3.out
    · by_cases h2 : k = 2 ∨ k = 3
      · have H := Lib.hid (show putC b ⟨k, n, s, t, u⟩ = (X ++ txt s, 0) by rw [Hpost.out, ← HX.out]; unfold bytesC; rw [if_neg h1, if_pos h2]; simp)
        rcases h2 with rfl | rfl
        all_goals
          go_wp2_with fail
          refine (refText_any A4 X q4 c4 ⟨s.toArray⟩ w2 Hq4.out.symm (by rw [size_mk]; omega) Hr4.out).mono ?_
          rintro e w3 ⟨v3, rfl, hown3, hb3⟩
          have Hown3 := Lib.hid (own_mono hown3 hsz2)
          have Hb3 := Lib.hid (Hb2.out.trans (hb3.mono hsz2))
          clear hown3 hb3
          go_wp2_with fail
          go_ret2
          exact gives8N H.out Hown3.out Hb3.out
      · have H := Lib.hid (show putC b ⟨k, n, s, t, u⟩ = (X ++ txt s ++ txt t ++ txt u, 0) by rw [Hpost.out, ← HX.out]; unfold bytesC; rw [if_neg h1, if_neg h2]; simp)
        have g1 : (k == 1) = false := by simpa using h1
        have g2 : (k == 2) = false := by simp; omega
        have g3 : (k == 3) = false := by simp; omega
        have hts := txt_len s (by omega)
        have htt := txt_len t (by omega)
        have htu := txt_len u (by omega)
        clear h1 h2 Hpost
        go_wp2_with fail
        have hBw := Hb2.out.drew
        have hs1 : (ByteArray.mk s.toArray).size = s.length := size_mk s
        have ht1 : (ByteArray.mk t.toArray).size = t.length := size_mk t
        have hu1 : (ByteArray.mk u.toArray).size = u.length := size_mk u
        go_region_held3 (fun w' => w'.cell? ⟨w.heap.size, 2, none⟩ = some (.string ⟨s.toArray⟩) ∧ w'.cell? ⟨w.heap.size, 3, none⟩ = some (.string ⟨t.toArray⟩) ∧ w'.cell? ⟨w.heap.size, 4, none⟩ = some (.string ⟨u.toArray⟩))
          (first | go_keep)
          (first
            | (go_at_call 194; refine (refText_any A6 _ q6 c6 ⟨u.toArray⟩ _ Hq6.out.symm (by omega) Hr6.out).mono ?_; rintro e w7 ⟨v7, rfl, hown7, hb7⟩
               have hd2 : w7.cell? ⟨w.heap.size, 2, none⟩ = some (.string ⟨s.toArray⟩) := (hb7.cell (p := ⟨w.heap.size, 2, none⟩) (World.block_lt_of_cell? _ ⟨w.heap.size, 2, none⟩ he2)).trans he2
               have hd3 : w7.cell? ⟨w.heap.size, 3, none⟩ = some (.string ⟨t.toArray⟩) := (hb7.cell (p := ⟨w.heap.size, 3, none⟩) (World.block_lt_of_cell? _ ⟨w.heap.size, 3, none⟩ he3)).trans he3
               have hd4 : w7.cell? ⟨w.heap.size, 4, none⟩ = some (.string ⟨u.toArray⟩) := (hb7.cell (p := ⟨w.heap.size, 4, none⟩) (World.block_lt_of_cell? _ ⟨w.heap.size, 4, none⟩ he4)).trans he4
               have Hb7 := Lib.hid (Hb6.out.trans (hb7.mono Hb6.out.size))
               have Hown7 := Lib.hid (own_mono hown7 Hb6.out.size)
               clear hown7 hb7 he2 he3 he4)
            | (go_at_call 194; refine (refText_any A5 _ q5 c5 ⟨t.toArray⟩ _ Hq5.out.symm (by omega) Hr5.out).mono ?_; rintro e w6 ⟨v6, rfl, hown6, hb6⟩
               obtain ⟨A6, c6, rfl, h61, h62, hr6, _⟩ := Own8.slice hown6
               have he2 : w6.cell? ⟨w.heap.size, 2, none⟩ = some (.string ⟨s.toArray⟩) := (hb6.cell (p := ⟨w.heap.size, 2, none⟩) (World.block_lt_of_cell? _ ⟨w.heap.size, 2, none⟩ hd2)).trans hd2
               have he3 : w6.cell? ⟨w.heap.size, 3, none⟩ = some (.string ⟨t.toArray⟩) := (hb6.cell (p := ⟨w.heap.size, 3, none⟩) (World.block_lt_of_cell? _ ⟨w.heap.size, 3, none⟩ hd3)).trans hd3
               have he4 : w6.cell? ⟨w.heap.size, 4, none⟩ = some (.string ⟨u.toArray⟩) := (hb6.cell (p := ⟨w.heap.size, 4, none⟩) (World.block_lt_of_cell? _ ⟨w.heap.size, 4, none⟩ hd4)).trans hd4
               have Hr6 := Lib.hid hr6
               have Hb6 := Lib.hid (Hb5.out.trans (hb6.mono Hb5.out.size))
               generalize hq6 : (X ++ txt (ByteArray.mk s.toArray).data.toList ++ txt (ByteArray.mk t.toArray).data.toList).length = q6 at *
               have Hq6 := Lib.hid hq6
               have hq6l : q6 ≤ q5 + 10 + t.length := by rw [← hq6, List.length_append, Hq5.out]; show q5 + (txt t).length ≤ _; omega
               clear hown6 hr6 hb6 hq6 hd2 hd3 hd4)
            | (go_at_call 194; refine (refText_any A4 X q4 c4 ⟨s.toArray⟩ _ Hq4.out.symm (by omega) Hr4.out.drew).mono ?_; rintro e w5 ⟨v5, rfl, hown5, hb5⟩
               obtain ⟨A5, c5, rfl, h51, h52, hr5, _⟩ := Own8.slice hown5
               have hd2 : w5.cell? ⟨w.heap.size, 2, none⟩ = some (.string ⟨s.toArray⟩) := (hb5.cell (p := ⟨w.heap.size, 2, none⟩) (World.block_lt_of_cell? _ ⟨w.heap.size, 2, none⟩ hc2)).trans hc2
               have hd3 : w5.cell? ⟨w.heap.size, 3, none⟩ = some (.string ⟨t.toArray⟩) := (hb5.cell (p := ⟨w.heap.size, 3, none⟩) (World.block_lt_of_cell? _ ⟨w.heap.size, 3, none⟩ hc3)).trans hc3
               have hd4 : w5.cell? ⟨w.heap.size, 4, none⟩ = some (.string ⟨u.toArray⟩) := (hb5.cell (p := ⟨w.heap.size, 4, none⟩) (World.block_lt_of_cell? _ ⟨w.heap.size, 4, none⟩ hc4)).trans hc4
               have Hr5 := Lib.hid hr5
               have Hb5 := Lib.hid (hBw.trans (hb5.mono hsz2))
               generalize hq5 : (X ++ txt (ByteArray.mk s.toArray).data.toList).length = q5 at *
               have Hq5 := Lib.hid hq5
               have hq5l : q5 ≤ q4 + 10 + s.length := by rw [← hq5, List.length_append, Hq4.out]; show q4 + (txt s).length ≤ _; omega
               clear hown5 hr5 hb5 hq5 hc2 hc3 hc4))
        go_wp2_with fail
        go_ret2
        exact gives8N H.out Hown7.out Hb7.out

end PoolE
end Go.Proofs.YtehainbhoflpnaaGreatDoor

namespace Go.Proofs.YtehainbhoflpnaaGreatDoor
namespace PutR
open Go.RowKit Base BinM BinE BinPut Bin8 Stru PoolM PoolA PoolB PoolK PoolL PoolD PutM PutN
open InsP (Gives8N gives8N)

theorem find_lt : ∀ {l : List Cst} {c : Cst} {j : Nat}, c ∈ l.take j → findC l c < (j : Int)
  | [], _, _, h => by simp at h
  | x :: r, c, 0, h => by simp at h
  | x :: r, c, j + 1, h => by
    unfold findC
    by_cases hx : sameC x c = true
    · rw [if_pos hx]; omega
    · rw [if_neg hx]
      have hne : c ≠ x := fun e => hx ((same_iff _ _).2 e.symm)
      rw [List.take_succ_cons, List.mem_cons] at h
      rcases h with h | h
      · exact absurd h hne
      · have := find_lt h
        split <;> omega
theorem find_iff {l : List Cst} {j : Nat} (hj : j < l.length) : findC l l[j] < (j : Int) ↔ l[j] ∈ l.take j := by
  refine ⟨fun h => ?_, find_lt⟩
  apply Classical.byContradiction
  intro hn
  have := find_at (c := l[j]) hj (fun x hx e => hn (by rw [← e]; exact hx)) rfl
  omega
theorem nodup_iff {l : List Cst} {j : Nat} (hj : j < l.length) : (l.take (j + 1)).Nodup ↔ (l.take j).Nodup ∧ ¬ findC l l[j] < (j : Int) := by
  rw [find_iff hj, List.take_succ_eq_append_getElem hj, List.nodup_append]
  constructor
  · rintro ⟨h1, _, h2⟩
    exact ⟨h1, fun h => h2 _ h _ (by simp) rfl⟩
  · rintro ⟨h1, h2⟩
    refine ⟨h1, by simp, fun a ha b hb e => ?_⟩
    simp at hb
    subst hb
    exact h2 (e ▸ ha)

set_option maxRecDepth 100000 in
set_option maxHeartbeats 4000000 in
theorem refPutAll_any (B : Option Addr) (mb cb : Nat) (b : List UInt8) (A : Option Addr) (m c : Nat) (l : List Cst) (w : World) (hbm : mb = b.length) (hbr : Rds w B (cells8 b)) (hbl : mb ≤ 1048576) (h : IsCsts w A m c l)
    (hlt : ∀ x ∈ l, x.s.length ≤ 140737488351232 ∧ x.t.length ≤ 140737488351232 ∧ x.u.length ≤ 140737488351232) :
    Calls Tryz.prog 121 #[.slice B mb cb, .slice A m c] w (Gives8N w (allC b l)) := by
  have hml : l.length ≤ m := Nat.le_of_eq h.len.symm
  have hml2 : m ≤ l.length := Nat.le_of_eq h.len
  have hmx := h.max
  have hle := h.le
  unfold maxLen at hmx
  have H := Lib.hid h
  have Hlt := Lib.hid hlt
  have Hbm := Lib.hid hbm
  have Hbr := Lib.hid hbr
  clear h hlt hbm hbr
  by_cases hs : 256 < l.length
  · have HH := Lib.hid (all_size (b := b) hs)
    have hs' : 256 < m := by omega
    go_enter Tryz.func121, Tryz.ntmps121
    go_wp2_with fail
    go_ret2
    exact gives8N HH.out (Own8.nil _ _) (Below.refl _ _)
  · have hs' : ¬ 256 < m := by omega
    have Hs := Lib.hid hs
    clear hs
    go_enter Tryz.func121, Tryz.ntmps121
    go_wp2_with fail
    refine (RefPut.refPut_any B b mb cb (m : Int) w Hbm.out (by omega) (by omega) (by omega) Hbr.out).mono ?_
    rintro e w4 ⟨v4, rfl, hown4, hb4⟩
    have B4 := Lib.hid hb4
    have O4 := Lib.hid hown4
    clear hown4 hb4
    go_wp2_with fail
    go_loopw [6, 7, 8] (fun v t i wr => ∃ (j : Nat) (T : Bool), j ≤ m ∧ i = .int .i64 j ∧ t = .bool T ∧ T = !decide (l.take j).Nodup ∧ (∀ x ∈ l.take j, rightC x = true) ∧ Own8 wr w.heap.size v (b ++ num (m : Int) ++ (l.take j).flatMap bytesC) ∧ Below w.heap.size w wr) (fun _ _ i _ => m - (intOf i).toNat)
    case atStart => exact ⟨0, false, Nat.zero_le _, rfl, rfl, by simp, by simp, by rw [List.take_zero, List.flatMap_nil, List.append_nil]; exact O4.out, B4.out⟩
    case round =>
      obtain ⟨j, T, hj, rfl, rfl, hT, hall, hown, hbel⟩ := hrel
      have HT := Lib.hid hT
      have Hall := Lib.hid hall
      have Hown := Lib.hid hown
      have Hbel := Lib.hid hbel
      have hsz := hbel.size
      clear hown hall hT
      by_cases hlt : j < m
      · have hja : j < l.length := by omega
        obtain ⟨b1, o1, rfl, hb1, hc0, hc1, hc2, hc3, hc4⟩ := csts_at (H.out.below hbel).rds hja
        have hj1 : (j : Int) < (m : Int) := by omega
        have hj0 : (0 : Int) ≤ (j : Int) := by omega
        have Hct := Lib.hid (show b ++ num (m : Int) ++ (l.take (j + 1)).flatMap bytesC = (b ++ num (m : Int) ++ (l.take j).flatMap bytesC) ++ bytesC l[j] by
          rw [List.take_succ_eq_append_getElem hja, List.flatMap_append]; simp)
        have hpl : (b ++ num (m : Int) ++ (l.take j).flatMap bytesC).length ≤ mb + 10 + 1000 * m := by
          have h1 := PutN.flat_len (l := l.take j) (fun x hx => Hall.out x hx) (fun x hx => H.out.fit x (List.mem_of_mem_take hx))
          have h2 : (l.take j).length ≤ j := by simp; omega
          have h3 := (num_can (n := (m : Int)) (by omega) (by omega)).2.2
          have h4 := Hbm.out
          simp only [List.length_append]
          omega
        have Hpl := Lib.hid hpl
        have Hfx := Lib.hid (H.out.fit _ (List.getElem_mem hja))
        have Hlx := Lib.hid (Hlt.out _ (List.getElem_mem hja))
        have Hnext := Lib.hid (fun hn => right_next hja Hall.out hn)
        have Hbad := Lib.hid (fun hn => all_bad (b := b) Hs.out (List.getElem_mem hja) hn)
        have Hnd := Lib.hid (nodup_iff hja)
        have HI := Lib.hid (H.out.below hbel)
        clear hbel hpl
        generalize b ++ num (m : Int) ++ (l.take j).flatMap bytesC = p at *
        generalize l[j] = x at *
        obtain ⟨x0, x1, x2, x3, x4⟩ := x
        simp only at hc0 hc1 hc2 hc3 hc4
        have hl3 : x2.length ≤ 140737488351232 ∧ x3.length ≤ 140737488351232 ∧ x4.length ≤ 140737488351232 := Hlx.out
        obtain ⟨A5, c5, rfl, h51, h52, hr5, _⟩ := Own8.slice Hown.out
        have R5 := Lib.hid hr5
        have hpl' := Hpl.out
        clear hr5
        go_wp2_with fail
        refine (PoolE.poolRefPut_any A5 _ c5 p x0 x1 x2 x3 x4 wr rfl R5.out (by omega) Hfx.out.1 Hfx.out.2 (by omega) (by omega) (by omega)).mono ?_
        rintro e w5 ⟨v5, rfl, hown5, hb5⟩
        have B5 := Lib.hid (Hbel.out.trans (hb5.mono hsz))
        have HI5 := Lib.hid (HI.out.below hb5)
        cases hR : rightC ⟨x0, x1, x2, x3, x4⟩
        · have Hq := Lib.hid (Hbad.out hR)
          rw [PoolE.put_no hR] at hown5 ⊢
          clear hR hb5 hown5
          go_wp2_with fail
          go_ret2
          exact gives8N Hq.out (Own8.nil _ _) B5.out
        · have Hq := Lib.hid (Hnext.out hR)
          rw [PoolE.put_yes hR] at hown5 ⊢
          have O5 := Lib.hid (own_mono hown5 hsz)
          have q0 := (hb5.cell (p := ⟨b1, o1 + j * 5, none⟩) hb1).trans hc0
          have q1 := (hb5.cell (p := ⟨b1, o1 + j * 5 + 1, none⟩) hb1).trans hc1
          have q2 := (hb5.cell (p := ⟨b1, o1 + j * 5 + 2, none⟩) hb1).trans hc2
          have q3 := (hb5.cell (p := ⟨b1, o1 + j * 5 + 3, none⟩) hb1).trans hc3
          have q4 := (hb5.cell (p := ⟨b1, o1 + j * 5 + 4, none⟩) hb1).trans hc4
          clear hR hb5 hown5 hc0 hc1 hc2 hc3 hc4 hl3
          cases T
          · go_wp2_with fail
            refine (refFind_any _ l m c x0 x1 x2 x3 x4 _ HI5.out).mono ?_
            rintro e w6 ⟨rfl, hb6⟩
            have B6 := Lib.hid (B5.out.trans (hb6.mono B5.out.size))
            have O6 := Lib.hid (own_kept O5.out hb6)
            clear hb6
            by_cases hF : findC l ⟨x0, x1, x2, x3, x4⟩ < (j : Int)
            · have hN := Lib.hid (show (true : Bool) = !decide (l.take (j + 1)).Nodup by
                have := Hnd.out
                rw [decide_eq_false (by rw [this]; intro h; omega)]; rfl)
              generalize findC l ⟨x0, x1, x2, x3, x4⟩ = F at *
              have hF1 : decide (F < (j : Int)) = true := decide_eq_true hF
              go_wp2_with fail
              go_roundw
              case rel => exact ⟨j + 1, true, by omega, by go_num, rfl, hN.out, Hq.out, by rw [Hct.out]; exact O6.out, B6.out⟩
              case measure => simp [intOf]; omega
            · have hN := Lib.hid (show (false : Bool) = !decide (l.take (j + 1)).Nodup by
                have h1 := Hnd.out
                have h2 := HT.out
                rw [decide_eq_true (h1.2 ⟨by simpa using h2, by omega⟩)]; rfl)
              generalize findC l ⟨x0, x1, x2, x3, x4⟩ = F at *
              have hF1 : decide (F < (j : Int)) = false := decide_eq_false hF
              go_wp2_with fail
              go_roundw
              case rel => exact ⟨j + 1, false, by omega, by go_num, rfl, hN.out, Hq.out, by rw [Hct.out]; exact O6.out, B6.out⟩
              case measure => simp [intOf]; omega
          · have hN := Lib.hid (show (true : Bool) = !decide (l.take (j + 1)).Nodup by
              have h1 := Hnd.out
              have h2 := HT.out
              rw [decide_eq_false (by rw [h1]; intro h; simp [h.1] at h2)]; rfl)
            go_wp2_with fail
            go_roundw
            case rel => exact ⟨j + 1, true, by omega, by go_num, rfl, hN.out, Hq.out, by rw [Hct.out]; exact O5.out, B5.out⟩
            case measure => simp [intOf]; omega
      · have Hfin := Lib.hid (show Own8 wr w.heap.size u6 (b ++ num (l.length : Int) ++ l.flatMap bytesC) by
          have h := Hown.out
          rw [List.take_of_length_le (by omega)] at h
          rwa [show ((l.length : Nat) : Int) = (m : Int) by omega])
        have Hright := Lib.hid (show ∀ x ∈ l, rightC x = true by
          have h := Hall.out
          rwa [List.take_of_length_le (by omega)] at h)
        have HT2 := Lib.hid (show T = !decide l.Nodup by
          have h := HT.out
          rwa [List.take_of_length_le (by omega)] at h)
        clear hbel
        cases T
        · have HH := Lib.hid (all_good (b := b) Hs.out Hright.out (by simpa using HT2.out))
          go_wp2_with fail
          go_ret2
          exact gives8N HH.out Hfin.out Hbel.out
        · have HH := Lib.hid (all_twice (b := b) Hs.out Hright.out (by simpa using HT2.out))
          go_wp2_with fail
          go_ret2
          exact gives8N HH.out (Own8.nil _ _) Hbel.out

end PutR
end Go.Proofs.YtehainbhoflpnaaGreatDoor
