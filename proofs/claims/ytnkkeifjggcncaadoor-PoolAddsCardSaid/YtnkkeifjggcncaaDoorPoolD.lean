/-
  A constant's bytes: pool.bytesOf: what it returns.
-/
import Derived.Test.YtnkkeifjggcncaaDoorPoolC
import Derived.Test.YtnkkeifjggcncaaDoorBinAll
namespace Go.Proofs.YtnkkeifjggcncaaDoor
namespace PoolD
open Go.RowKit Base BinM BinE BinPut Bin8 BinAll BinText DescM DescW Stru PoolM PoolA PoolB

/-- a constant's bytes -/
def bytesC (c : Cst) : List UInt8 := num c.kind ++ (if c.kind = 1 then num c.n else if c.kind = 2 ∨ c.kind = 3 then txt c.s else txt c.s ++ txt c.t ++ txt c.u)

theorem ints_one (w : World) (k : Int) (h : fitI k) : IsInts (w.alloc (.cells #[.int .i64 k] 2)) (some ⟨w.heap.size, 0, none⟩) 1 1 [k] :=
  ⟨rfl, Nat.le_refl _, by simp [maxLen], rds_new w #[.int .i64 k] _, by intro x hx; simp at hx; subst hx; exact h⟩

theorem ints_two (w : World) (o : Obj) (k : Int) (h : fitI k) : IsInts ((w.alloc o).alloc (.cells #[.int .i64 k] 2)) (some ⟨w.heap.size + 1, 0, none⟩) 1 1 [k] := by
  have := ints_one (w.alloc o) k h
  simpa using this

theorem txt_len (s : List UInt8) (h : s.length ≤ 1048576) : (txt s).length ≤ 10 + s.length := by
  have := (num_can (n := (s.length : Int)) (by omega) (by omega)).2.2
  unfold txt
  rw [List.length_append]; omega

set_option maxRecDepth 100000 in
set_option maxHeartbeats 4000000 in
theorem bytesOf_any (k n : Int) (s t u : List UInt8) (w : World) (hk : fitI k) (hn : fitI n) (hs : s.length ≤ 1048576) (ht : t.length ≤ 1048576) (hu : u.length ≤ 1048576) :
    Calls Tryd.prog 23 #[.agg #[.int .i64 k, .int .i64 n, .string ⟨s.toArray⟩, .string ⟨t.toArray⟩, .string ⟨u.toArray⟩]] w (Gives8 w (bytesC ⟨k, n, s, t, u⟩)) := by
  have hB0 := (Below.refl w.heap.size w).alloc (Nat.le_refl _) (.cells #[.int .i64 k, .int .i64 n, .string ⟨s.toArray⟩, .string ⟨t.toArray⟩, .string ⟨u.toArray⟩] 24)
  have HB0 := Lib.hid hB0
  have Hbox := Lib.hid (boxC.new w k n s t u 24)
  have Hi := Lib.hid (ints_two w (.cells #[.int .i64 k, .int .i64 n, .string ⟨s.toArray⟩, .string ⟨t.toArray⟩, .string ⟨u.toArray⟩] 24) k hk)
  have hk' := hk
  have hn' := hn
  unfold fitI at hk' hn'
  have hkl := (num_can hk'.1 hk'.2).2.2
  clear hB0
  go_enter Tryd.func23, Tryd.ntmps23
  go_wp2_with fail
  refine (all_any _ [k] 1 1 _ Hi.out (by omega)).mono ?_
  rintro e w1 ⟨v1, rfl, hown1, hb1⟩
  have hnk : nums [k] = num k := by simp [nums]
  rw [hnk] at hown1
  obtain ⟨A4, c4, rfl, h41, h42, hr4, _⟩ := Own8.slice hown1
  have hb1' := (HB0.out.alloc (by simp) _).trans (hb1.mono (by simp; omega))
  obtain ⟨hc0, hc1, hc2, hc3, hc4⟩ := boxC.below (boxC.below Hbox.out ((Below.refl _ _).alloc (Nat.le_refl _) (.cells #[.int .i64 k] 2)) (by simp)) hb1 (by simp; omega)
  have Hb1 := Lib.hid hb1'
  have hsz1 := hb1'.size
  have Hr4 := Lib.hid hr4
  generalize hq4 : (num k).length = q4 at *
  have Hq4 := Lib.hid hq4
  clear hown1 hr4 hb1 hb1' hq4 hnk
  by_cases h1 : k = 1
  · subst h1
    have H := Lib.hid (show bytesC ⟨1, n, s, t, u⟩ = num 1 ++ num n from rfl)
    go_wp2_with fail
    refine (put_any A4 (num 1) q4 c4 n w1 Hq4.out.symm (by omega) hn'.1 hn'.2 Hr4.out).mono ?_
    rintro e w2 ⟨v2, rfl, hown2, hb2⟩
    have Hown2 := Lib.hid (own_mono hown2 hsz1)
    have Hb2 := Lib.hid (Hb1.out.trans (hb2.mono hsz1))
    clear hown2 hb2
    go_wp2_with fail
    go_ret
    exact ⟨_, rfl, by rw [H.out]; exact Hown2.out, Hb2.out⟩
  · by_cases h2 : k = 2 ∨ k = 3
    · have H := Lib.hid (show bytesC ⟨k, n, s, t, u⟩ = num k ++ txt s by unfold bytesC; rw [if_neg h1, if_pos h2])
      rcases h2 with rfl | rfl
      all_goals
        go_wp2_with fail
        refine (text_any A4 (num _) q4 c4 ⟨s.toArray⟩ w1 Hq4.out.symm (by rw [size_mk]; omega) Hr4.out).mono ?_
        rintro e w2 ⟨v2, rfl, hown2, hb2⟩
        have Hown2 := Lib.hid (own_mono hown2 hsz1)
        have Hb2 := Lib.hid (Hb1.out.trans (hb2.mono hsz1))
        clear hown2 hb2
        go_wp2_with fail
        go_ret
        exact ⟨_, rfl, by rw [H.out]; exact Hown2.out, Hb2.out⟩
    · have H := Lib.hid (show bytesC ⟨k, n, s, t, u⟩ = num k ++ txt s ++ txt t ++ txt u by unfold bytesC; rw [if_neg h1, if_neg h2]; simp)
      have g1 : (k == 1) = false := by simpa using h1
      have g2 : (k == 2) = false := by simp; omega
      have g3 : (k == 3) = false := by simp; omega
      have hts := txt_len s hs
      have htt := txt_len t ht
      have htu := txt_len u hu
      generalize hX : num k = X at *
      clear h1 h2
      go_wp2_with fail
      have hBw := Hb1.out.drew
      have hs1 : (ByteArray.mk s.toArray).size = s.length := size_mk s
      have ht1 : (ByteArray.mk t.toArray).size = t.length := size_mk t
      have hu1 : (ByteArray.mk u.toArray).size = u.length := size_mk u
      go_region_held3 (fun w' => w'.cell? ⟨w.heap.size, 2, none⟩ = some (.string ⟨s.toArray⟩) ∧ w'.cell? ⟨w.heap.size, 3, none⟩ = some (.string ⟨t.toArray⟩) ∧ w'.cell? ⟨w.heap.size, 4, none⟩ = some (.string ⟨u.toArray⟩))
        (first | go_keep)
        (first
          | (go_at_call 46; refine (text_any A6 _ q6 c6 ⟨u.toArray⟩ _ Hq6.out.symm (by omega) Hr6.out).mono ?_; rintro e w7 ⟨v7, rfl, hown7, hb7⟩
             have hd2 : w7.cell? ⟨w.heap.size, 2, none⟩ = some (.string ⟨s.toArray⟩) := (hb7.cell (p := ⟨w.heap.size, 2, none⟩) (World.block_lt_of_cell? _ ⟨w.heap.size, 2, none⟩ he2)).trans he2
             have hd3 : w7.cell? ⟨w.heap.size, 3, none⟩ = some (.string ⟨t.toArray⟩) := (hb7.cell (p := ⟨w.heap.size, 3, none⟩) (World.block_lt_of_cell? _ ⟨w.heap.size, 3, none⟩ he3)).trans he3
             have hd4 : w7.cell? ⟨w.heap.size, 4, none⟩ = some (.string ⟨u.toArray⟩) := (hb7.cell (p := ⟨w.heap.size, 4, none⟩) (World.block_lt_of_cell? _ ⟨w.heap.size, 4, none⟩ he4)).trans he4
             have Hb7 := Lib.hid (Hb6.out.trans (hb7.mono Hb6.out.size))
             have Hown7 := Lib.hid (own_mono hown7 Hb6.out.size)
             clear hown7 hb7 he2 he3 he4)
          | (go_at_call 46; refine (text_any A5 _ q5 c5 ⟨t.toArray⟩ _ Hq5.out.symm (by omega) Hr5.out).mono ?_; rintro e w6 ⟨v6, rfl, hown6, hb6⟩
             obtain ⟨A6, c6, rfl, h61, h62, hr6, _⟩ := Own8.slice hown6
             have he2 : w6.cell? ⟨w.heap.size, 2, none⟩ = some (.string ⟨s.toArray⟩) := (hb6.cell (p := ⟨w.heap.size, 2, none⟩) (World.block_lt_of_cell? _ ⟨w.heap.size, 2, none⟩ hd2)).trans hd2
             have he3 : w6.cell? ⟨w.heap.size, 3, none⟩ = some (.string ⟨t.toArray⟩) := (hb6.cell (p := ⟨w.heap.size, 3, none⟩) (World.block_lt_of_cell? _ ⟨w.heap.size, 3, none⟩ hd3)).trans hd3
             have he4 : w6.cell? ⟨w.heap.size, 4, none⟩ = some (.string ⟨u.toArray⟩) := (hb6.cell (p := ⟨w.heap.size, 4, none⟩) (World.block_lt_of_cell? _ ⟨w.heap.size, 4, none⟩ hd4)).trans hd4
             have Hr6 := Lib.hid hr6
             have Hb6 := Lib.hid (Hb5.out.trans (hb6.mono Hb5.out.size))
             generalize hq6 : (X ++ txt (ByteArray.mk s.toArray).data.toList ++ txt (ByteArray.mk t.toArray).data.toList).length = q6 at *
             have Hq6 := Lib.hid hq6
             have hq6l : q6 ≤ q5 + 10 + t.length := by rw [← hq6, List.length_append, Hq5.out]; show q5 + (txt t).length ≤ _; omega
             clear hown6 hr6 hb6 hq6 hd2 hd3 hd4)
          | (go_at_call 46; refine (text_any A4 X q4 c4 ⟨s.toArray⟩ _ Hq4.out.symm (by omega) Hr4.out.drew).mono ?_; rintro e w5 ⟨v5, rfl, hown5, hb5⟩
             obtain ⟨A5, c5, rfl, h51, h52, hr5, _⟩ := Own8.slice hown5
             have hd2 : w5.cell? ⟨w.heap.size, 2, none⟩ = some (.string ⟨s.toArray⟩) := (hb5.cell (p := ⟨w.heap.size, 2, none⟩) (World.block_lt_of_cell? _ ⟨w.heap.size, 2, none⟩ hc2)).trans hc2
             have hd3 : w5.cell? ⟨w.heap.size, 3, none⟩ = some (.string ⟨t.toArray⟩) := (hb5.cell (p := ⟨w.heap.size, 3, none⟩) (World.block_lt_of_cell? _ ⟨w.heap.size, 3, none⟩ hc3)).trans hc3
             have hd4 : w5.cell? ⟨w.heap.size, 4, none⟩ = some (.string ⟨u.toArray⟩) := (hb5.cell (p := ⟨w.heap.size, 4, none⟩) (World.block_lt_of_cell? _ ⟨w.heap.size, 4, none⟩ hc4)).trans hc4
             have Hr5 := Lib.hid hr5
             have Hb5 := Lib.hid (hBw.trans (hb5.mono hsz1))
             generalize hq5 : (X ++ txt (ByteArray.mk s.toArray).data.toList).length = q5 at *
             have Hq5 := Lib.hid hq5
             have hq5l : q5 ≤ q4 + 10 + s.length := by rw [← hq5, List.length_append, Hq4.out]; show q4 + (txt s).length ≤ _; omega
             clear hown5 hr5 hb5 hq5 hc2 hc3 hc4))
      go_wp2_with fail
      go_ret
      exact ⟨_, rfl, by rw [H.out]; exact Hown7.out, Hb7.out⟩

end PoolD
end Go.Proofs.YtnkkeifjggcncaaDoor
