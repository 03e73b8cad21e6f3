/-
  A constant put behind bytes: pool.Put and the document's own: what each call returns.
-/
import Derived.Test.YtnkkeifjggcncaaDoorPoolL
import Derived.Test.YtnkkeifjggcncaaDoorPoolD
import Derived.Test.YtnkkeifjggcncaaDoorCat
namespace Go.Proofs.YtnkkeifjggcncaaDoor
namespace PoolE
open Go.RowKit Base BinM BinE BinPut Bin8 BinAll BinText DescM DescW Stru PoolM PoolA PoolB PoolC PoolD Cat
open RefPut (refPut_any)

/-- bytes and a constant's behind them; the error's number -/
def putC (b : List UInt8) (c : Cst) : List UInt8 × Int := if rightC c then (b ++ bytesC c, 0) else ([], 11)
theorem put_no {b : List UInt8} {c : Cst} (h : rightC c = false) : putC b c = ([], 11) := by unfold putC; rw [h]; rfl
theorem put_yes {b : List UInt8} {c : Cst} (h : rightC c = true) : putC b c = (b ++ bytesC c, 0) := by unfold putC; rw [h]; rfl

/-- a call hands back bytes in new memory, and an error's number -/
def Gives8N (w : World) (r : List UInt8 × Int) (e : Ending) (w' : World) : Prop :=
  ∃ v, e = .returned (.tuple #[v, .int .i64 r.2]) ∧ Own8 w' w.heap.size v r.1 ∧ Below w.heap.size w w'
theorem gives8N {w w' : World} {r : List UInt8 × Int} {v : Value} {t : List UInt8} {n : Int} (h : r = (t, n)) (ho : Own8 w' w.heap.size v t) (hb : Below w.heap.size w w') : Gives8N w r (.returned (.tuple #[v, .int .i64 n])) w' := by
  subst h
  exact ⟨v, rfl, ho, hb⟩

theorem bytes_len {c : Cst} (hk : fitI c.kind) (hn : fitI c.n) (hs : c.s.length ≤ 300) (ht : c.t.length ≤ 300) (hu : c.u.length ≤ 300) : (bytesC c).length ≤ 1000 := by
  unfold fitI at hk hn
  have h1 := (num_can hk.1 hk.2).2.2
  have h2 := (num_can hn.1 hn.2).2.2
  have h3 := txt_len c.s (by omega)
  have h4 := txt_len c.t (by omega)
  have h5 := txt_len c.u (by omega)
  unfold bytesC
  rw [List.length_append]
  split
  · omega
  · split
    · omega
    · rw [List.length_append, List.length_append]; omega

set_option maxRecDepth 100000 in
set_option maxHeartbeats 2000000 in
theorem poolPut_any (B : Option Addr) (mb cb : Nat) (b : List UInt8) (k n : Int) (s t u : List UInt8) (w : World) (hbm : mb = b.length) (hbr : Rds w B (cells8 b)) (hbl : mb ≤ 140737488351232)
    (hk : fitI k) (hn : fitI n) (hs : s.length ≤ 140737488355327) (ht : t.length ≤ 140737488355327) (hu : u.length ≤ 140737488355327) :
    Calls Tryd.prog 6 #[.slice B mb cb, .agg #[.int .i64 k, .int .i64 n, .string ⟨s.toArray⟩, .string ⟨t.toArray⟩, .string ⟨u.toArray⟩]] w (Gives8N w (putC b ⟨k, n, s, t, u⟩)) := by
  have hB0 := (Below.refl w.heap.size w).alloc (Nat.le_refl _) (.cells #[.int .i64 k, .int .i64 n, .string ⟨s.toArray⟩, .string ⟨t.toArray⟩, .string ⟨u.toArray⟩] 24)
  have HB0 := Lib.hid hB0
  have Hbox := Lib.hid (boxC.new w k n s t u 24)
  have Hbm := Lib.hid hbm
  have Hbr := Lib.hid hbr
  have Hk : Hid (fitI k) := hk
  have Hn : Hid (fitI n) := hn
  clear hB0 hbm hbr hk hn
  cases hrt : rightC ⟨k, n, s, t, u⟩
  · have H := Lib.hid (put_no (b := b) hrt)
    have Hrt := Lib.hid hrt
    clear hrt
    go_enter Tryd.func6, Tryd.ntmps6
    go_wp2_with fail
    refine (poolRight_any k n s t u _ (by omega) (by omega) (by omega)).mono ?_
    rw [Hrt.out]
    rintro e w1 ⟨rfl, hb1⟩
    have Hb1 := Lib.hid (HB0.out.trans (hb1.mono (by simp)))
    clear hb1
    go_wp2_with fail
    go_ret2
    exact gives8N H.out (Own8.nil _ _) Hb1.out
  · obtain ⟨hs, ht, hu⟩ := PoolL.right_len hrt
    have Hbl := Lib.hid (bytes_len (c := ⟨k, n, s, t, u⟩) Hk.out Hn.out hs ht hu)
    have H := Lib.hid (put_yes (b := b) hrt)
    have Hrt := Lib.hid hrt
    clear hrt
    go_enter Tryd.func6, Tryd.ntmps6
    go_wp2_with fail
    refine (poolRight_any k n s t u _ (by omega) (by omega) (by omega)).mono ?_
    rw [Hrt.out]
    rintro e w1 ⟨rfl, hb1⟩
    obtain ⟨hc0, hc1, hc2, hc3, hc4⟩ := boxC.after Hbox.out hb1
    have Hb1 := Lib.hid (HB0.out.trans (hb1.mono (by simp)))
    have hsz1 := Hb1.out.size
    clear hb1
    go_wp2_with fail
    refine (bytesOf_any k n s t u w1 Hk.out Hn.out (by omega) (by omega) (by omega)).mono ?_
    rintro e w2 ⟨v2, rfl, hown2, hb2⟩
    obtain ⟨A3, c3, rfl, h3, h4, hr3, _⟩ := Own8.slice hown2
    have Hr3 := Lib.hid hr3
    have Hb2 := Lib.hid (Hb1.out.trans (hb2.mono hsz1))
    have hsz2 := Hb2.out.size
    clear hown2 hr3 hb2 h3 h4
    generalize hX : bytesC ⟨k, n, s, t, u⟩ = X at *
    generalize hq3 : X.length = q3 at *
    have Hq3 := Lib.hid hq3
    clear hX hq3
    have hB2 := (Below.refl w2.heap.size w2).alloc (Nat.le_refl _) (.cells #[.slice B mb cb, .slice A3 q3 c3] 22)
    have HB2 := Lib.hid (Hb2.out.alloc hsz2 (.cells #[.slice B mb cb, .slice A3 q3 c3] 22))
    have HR0 := Lib.hid (Hbr.out.below HB2.out)
    have HR1 := Lib.hid (Hr3.out.below hB2)
    clear hB2
    go_wp2_with fail
    refine (concat_any w2.heap.size B A3 mb cb q3 c3 b X 2 _ (by simp) ?_ ?_ Hbm.out Hq3.out.symm HR0.out HR1.out (by have := Hbl.out; omega)).mono ?_
    · rw [cell_of_row _ _ 0 _ 22 (0, 0) (heap_alloc_new w2 _)]; rfl
    · rw [cell_of_row _ _ 1 _ 22 (0, 0) (heap_alloc_new w2 _)]; rfl
    rintro e w4 ⟨v4, rfl, hown4, hb4⟩
    have Hown4 := Lib.hid (own_mono hown4 (show w.heap.size ≤ (w2.alloc (.cells #[.slice B mb cb, .slice A3 q3 c3] 22)).heap.size by simp; omega))
    have Hb4 := Lib.hid (HB2.out.trans (hb4.mono (by simp; omega)))
    clear hown4 hb4
    go_wp2_with fail
    go_ret2
    exact gives8N (by rw [H.out]) Hown4.out Hb4.out

set_option maxRecDepth 100000 in
set_option maxHeartbeats 4000000 in
theorem poolRefPut_any (B : Option Addr) (mb cb : Nat) (b : List UInt8) (k n : Int) (s t u : List UInt8) (w : World) (hbm : mb = b.length) (hbr : Rds w B (cells8 b)) (hbl : mb ≤ 140737488351232)
    (hk : fitI k) (hn : fitI n) (hs : s.length ≤ 140737488355327) (ht : t.length ≤ 140737488355327) (hu : u.length ≤ 140737488355327) :
    Calls Tryd.prog 7 #[.slice B mb cb, .agg #[.int .i64 k, .int .i64 n, .string ⟨s.toArray⟩, .string ⟨t.toArray⟩, .string ⟨u.toArray⟩]] w (Gives8N w (putC b ⟨k, n, s, t, u⟩)) := by
  have hB0 := (Below.refl w.heap.size w).alloc (Nat.le_refl _) (.cells #[.int .i64 k, .int .i64 n, .string ⟨s.toArray⟩, .string ⟨t.toArray⟩, .string ⟨u.toArray⟩] 24)
  have HB0 := Lib.hid hB0
  have Hbox := Lib.hid (boxC.new w k n s t u 24)
  have Hbm := Lib.hid hbm
  have Hbr := Lib.hid hbr
  have hk' := hk
  have hn' := hn
  unfold fitI at hk' hn'
  have hkl := (num_can hk'.1 hk'.2).2.2
  clear hB0 hbm hbr
  cases hrt : rightC ⟨k, n, s, t, u⟩
  · have H := Lib.hid (put_no (b := b) hrt)
    have Hrt := Lib.hid hrt
    clear hrt
    go_enter Tryd.func7, Tryd.ntmps7
    go_wp2_with fail
    refine (poolRefRight_any k n s t u _ (by omega) (by omega) (by omega)).mono ?_
    rw [Hrt.out]
    rintro e w1 ⟨rfl, hb1⟩
    have Hb1 := Lib.hid (HB0.out.trans (hb1.mono (by simp)))
    clear hb1
    go_wp2_with fail
    go_ret2
    exact gives8N H.out (Own8.nil _ _) Hb1.out
  · obtain ⟨hs, ht, hu⟩ := PoolL.right_len hrt
    have H := put_yes (b := b) hrt
    have Hrt := Lib.hid hrt
    clear hrt
    go_enter Tryd.func7, Tryd.ntmps7
    go_wp2_with fail
    refine (poolRefRight_any k n s t u _ (by omega) (by omega) (by omega)).mono ?_
    rw [Hrt.out]
    rintro e w1 ⟨rfl, hb1⟩
    obtain ⟨hc0', hc1', hc2', hc3', hc4'⟩ := boxC.after Hbox.out hb1
    have hbx : w.heap.size < w1.heap.size := World.block_lt_of_cell? w1 ⟨w.heap.size, 0, none⟩ hc0'
    have Hbx1 : Hid (boxC w1 w.heap.size k n s t u) := Lib.hid ⟨hc0', hc1', hc2', hc3', hc4'⟩
    have Hb1 := Lib.hid (HB0.out.trans (hb1.mono (by simp)))
    have hsz1 := Hb1.out.size
    clear hb1 hc1' hc2' hc3' hc4'
    have Hpost := Lib.hid H
    clear H
    go_wp2_with fail
    refine (refPut_any B b mb cb k w1 Hbm.out (by omega) hk'.1 hk'.2 (Hbr.out.below Hb1.out)).mono ?_
    rintro e w2 ⟨v2, rfl, hown2, hb2⟩
    obtain ⟨A4, c4, rfl, h41, h42, hr4, _⟩ := Own8.slice hown2
    obtain ⟨hc0, hc1, hc2, hc3, hc4⟩ := boxC.after Hbx1.out hb2
    have Hb2 := Lib.hid (Hb1.out.trans (hb2.mono hsz1))
    have hsz2 := Hb2.out.size
    have Hr4 := Lib.hid hr4
    clear hown2 hr4 hb2 hc0'
    generalize hX : b ++ num k = X at *
    have hXl : X.length ≤ mb + 10 := by rw [← hX, List.length_append, ← Hbm.out]; omega
    generalize hq4 : X.length = q4 at *
    have Hq4 := Lib.hid hq4
    have HX := Lib.hid hX
    clear hq4 hX
    by_cases h1 : k = 1
    · subst h1
      have H := Lib.hid (show putC b ⟨1, n, s, t, u⟩ = (X ++ num n, 0) by rw [Hpost.out, ← HX.out]; simp [bytesC])
      go_wp2_with fail
      refine (refPut_any A4 X q4 c4 n w2 Hq4.out.symm (by omega) hn'.1 hn'.2 Hr4.out).mono ?_
      rintro e w3 ⟨v3, rfl, hown3, hb3⟩
      have Hown3 := Lib.hid (own_mono hown3 hsz2)
      have Hb3 := Lib.hid (Hb2.out.trans (hb3.mono hsz2))
      clear hown3 hb3
      go_wp2_with fail
      go_ret2
      exact gives8N H.out Hown3.out Hb3.out
    · by_cases h2 : k = 2 ∨ k = 3
      · have H := Lib.hid (show putC b ⟨k, n, s, t, u⟩ = (X ++ txt s, 0) by rw [Hpost.out, ← HX.out]; unfold bytesC; rw [if_neg h1, if_pos h2]; simp)
        rcases h2 with rfl | rfl
        all_goals
          go_wp2_with fail
          refine (refText_any A4 X q4 c4 ⟨s.toArray⟩ w2 Hq4.out.symm (by rw [size_mk]; omega) Hr4.out).mono ?_
          rintro e w3 ⟨v3, rfl, hown3, hb3⟩
          have Hown3 := Lib.hid (own_mono hown3 hsz2)
          have Hb3 := Lib.hid (Hb2.out.trans (hb3.mono hsz2))
          clear hown3 hb3
          go_wp2_with fail
          go_ret2
          exact gives8N H.out Hown3.out Hb3.out
      · have H := Lib.hid (show putC b ⟨k, n, s, t, u⟩ = (X ++ txt s ++ txt t ++ txt u, 0) by rw [Hpost.out, ← HX.out]; unfold bytesC; rw [if_neg h1, if_neg h2]; simp)
        have g1 : (k == 1) = false := by simpa using h1
        have g2 : (k == 2) = false := by simp; omega
        have g3 : (k == 3) = false := by simp; omega
        have hts := txt_len s (by omega)
        have htt := txt_len t (by omega)
        have htu := txt_len u (by omega)
        clear h1 h2 Hpost
        go_wp2_with fail
        have hBw := Hb2.out.drew
        have hs1 : (ByteArray.mk s.toArray).size = s.length := size_mk s
        have ht1 : (ByteArray.mk t.toArray).size = t.length := size_mk t
        have hu1 : (ByteArray.mk u.toArray).size = u.length := size_mk u
        go_region_held3 (fun w' => w'.cell? ⟨w.heap.size, 2, none⟩ = some (.string ⟨s.toArray⟩) ∧ w'.cell? ⟨w.heap.size, 3, none⟩ = some (.string ⟨t.toArray⟩) ∧ w'.cell? ⟨w.heap.size, 4, none⟩ = some (.string ⟨u.toArray⟩))
          (first | go_keep)
          (first
            | (go_at_call 25; refine (refText_any A6 _ q6 c6 ⟨u.toArray⟩ _ Hq6.out.symm (by omega) Hr6.out).mono ?_; rintro e w7 ⟨v7, rfl, hown7, hb7⟩
               have hd2 : w7.cell? ⟨w.heap.size, 2, none⟩ = some (.string ⟨s.toArray⟩) := (hb7.cell (p := ⟨w.heap.size, 2, none⟩) (World.block_lt_of_cell? _ ⟨w.heap.size, 2, none⟩ he2)).trans he2
               have hd3 : w7.cell? ⟨w.heap.size, 3, none⟩ = some (.string ⟨t.toArray⟩) := (hb7.cell (p := ⟨w.heap.size, 3, none⟩) (World.block_lt_of_cell? _ ⟨w.heap.size, 3, none⟩ he3)).trans he3
               have hd4 : w7.cell? ⟨w.heap.size, 4, none⟩ = some (.string ⟨u.toArray⟩) := (hb7.cell (p := ⟨w.heap.size, 4, none⟩) (World.block_lt_of_cell? _ ⟨w.heap.size, 4, none⟩ he4)).trans he4
               have Hb7 := Lib.hid (Hb6.out.trans (hb7.mono Hb6.out.size))
               have Hown7 := Lib.hid (own_mono hown7 Hb6.out.size)
               clear hown7 hb7 he2 he3 he4)
            | (go_at_call 25; refine (refText_any A5 _ q5 c5 ⟨t.toArray⟩ _ Hq5.out.symm (by omega) Hr5.out).mono ?_; rintro e w6 ⟨v6, rfl, hown6, hb6⟩
               obtain ⟨A6, c6, rfl, h61, h62, hr6, _⟩ := Own8.slice hown6
               have he2 : w6.cell? ⟨w.heap.size, 2, none⟩ = some (.string ⟨s.toArray⟩) := (hb6.cell (p := ⟨w.heap.size, 2, none⟩) (World.block_lt_of_cell? _ ⟨w.heap.size, 2, none⟩ hd2)).trans hd2
               have he3 : w6.cell? ⟨w.heap.size, 3, none⟩ = some (.string ⟨t.toArray⟩) := (hb6.cell (p := ⟨w.heap.size, 3, none⟩) (World.block_lt_of_cell? _ ⟨w.heap.size, 3, none⟩ hd3)).trans hd3
               have he4 : w6.cell? ⟨w.heap.size, 4, none⟩ = some (.string ⟨u.toArray⟩) := (hb6.cell (p := ⟨w.heap.size, 4, none⟩) (World.block_lt_of_cell? _ ⟨w.heap.size, 4, none⟩ hd4)).trans hd4
               have Hr6 := Lib.hid hr6
               have Hb6 := Lib.hid (Hb5.out.trans (hb6.mono Hb5.out.size))
               generalize hq6 : (X ++ txt (ByteArray.mk s.toArray).data.toList ++ txt (ByteArray.mk t.toArray).data.toList).length = q6 at *
               have Hq6 := Lib.hid hq6
               have hq6l : q6 ≤ q5 + 10 + t.length := by rw [← hq6, List.length_append, Hq5.out]; show q5 + (txt t).length ≤ _; omega
               clear hown6 hr6 hb6 hq6 hd2 hd3 hd4)
            | (go_at_call 25; refine (refText_any A4 X q4 c4 ⟨s.toArray⟩ _ Hq4.out.symm (by omega) Hr4.out.drew).mono ?_; rintro e w5 ⟨v5, rfl, hown5, hb5⟩
               obtain ⟨A5, c5, rfl, h51, h52, hr5, _⟩ := Own8.slice hown5
               have hd2 : w5.cell? ⟨w.heap.size, 2, none⟩ = some (.string ⟨s.toArray⟩) := (hb5.cell (p := ⟨w.heap.size, 2, none⟩) (World.block_lt_of_cell? _ ⟨w.heap.size, 2, none⟩ hc2)).trans hc2
               have hd3 : w5.cell? ⟨w.heap.size, 3, none⟩ = some (.string ⟨t.toArray⟩) := (hb5.cell (p := ⟨w.heap.size, 3, none⟩) (World.block_lt_of_cell? _ ⟨w.heap.size, 3, none⟩ hc3)).trans hc3
               have hd4 : w5.cell? ⟨w.heap.size, 4, none⟩ = some (.string ⟨u.toArray⟩) := (hb5.cell (p := ⟨w.heap.size, 4, none⟩) (World.block_lt_of_cell? _ ⟨w.heap.size, 4, none⟩ hc4)).trans hc4
               have Hr5 := Lib.hid hr5
               have Hb5 := Lib.hid (hBw.trans (hb5.mono hsz2))
               generalize hq5 : (X ++ txt (ByteArray.mk s.toArray).data.toList).length = q5 at *
               have Hq5 := Lib.hid hq5
               have hq5l : q5 ≤ q4 + 10 + s.length := by rw [← hq5, List.length_append, Hq4.out]; show q4 + (txt s).length ≤ _; omega
               clear hown5 hr5 hb5 hq5 hc2 hc3 hc4))
        go_wp2_with fail
        go_ret2
        exact gives8N H.out Hown7.out Hb7.out

end PoolE
end Go.Proofs.YtnkkeifjggcncaaDoor
