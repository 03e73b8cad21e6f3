/-
  The document's own Names: what it returns, for every constant.
-/
import Derived.Test.YtnkkeifjggcncaaDoorPoolU
namespace Go.Proofs.YtnkkeifjggcncaaDoor
namespace PoolX
open Go.RowKit Base BinM DescM DescW DescX DescR DescP DescQ DescG Stru PoolM PoolA PoolB PoolC PoolN PoolO PoolP PoolQ PoolR

theorem plain_nil (s : List UInt8) : putR [] s true = [s] := by simp [putR, addT]
set_option maxRecDepth 100000 in
set_option maxHeartbeats 4000000 in
theorem refNames_any (k n : Int) (s t u : List UInt8) (w : World) (hs : s.length ≤ 140737488355327) (ht : t.length ≤ 140737488355327) (hu : u.length ≤ 140737488355327) :
    Calls Tryd.prog 12 #[.agg #[.int .i64 k, .int .i64 n, .string ⟨s.toArray⟩, .string ⟨t.toArray⟩, .string ⟨u.toArray⟩]] w (GivesN w (namesC ⟨k, n, s, t, u⟩)) := by
  have hB0 := (Below.refl w.heap.size w).alloc (Nat.le_refl _) (.cells #[.int .i64 k, .int .i64 n, .string ⟨s.toArray⟩, .string ⟨t.toArray⟩, .string ⟨u.toArray⟩] 24)
  have HB0 := Lib.hid hB0
  have Hbox := Lib.hid (boxC.new w k n s t u 24)
  clear hB0
  cases hrt : rightC ⟨k, n, s, t, u⟩
  · have H := Lib.hid (show namesC ⟨k, n, s, t, u⟩ = [] by unfold namesC; rw [hrt]; rfl)
    have Hrt := Lib.hid hrt
    clear hrt
    go_enter Tryd.func12, Tryd.ntmps12
    go_wp2_with fail
    refine (poolRefRight_any k n s t u _ (by omega) (by omega) (by omega)).mono ?_
    rw [Hrt.out]
    rintro e w1 ⟨rfl, hb1⟩
    have Hb1 := Lib.hid (HB0.out.trans (hb1.mono (by simp)))
    clear hb1
    go_wp2_with fail
    go_ret
    exact GivesN.of (by rw [H.out]; exact OwnS.nil _ _) Hb1.out
  · obtain ⟨hs, ht, hu⟩ := PoolL.right_len hrt
    have hN : namesC ⟨k, n, s, t, u⟩ = if k = 3 then addOne [] s else if k = 4 then addOne [s] u else if k = 5 then addAll [s] ((splitT u).2.1 ++ [(splitT u).1]) else [] := by unfold namesC; rw [hrt]; rfl
    have HN := Lib.hid hN
    have Hrt := Lib.hid hrt
    clear hN hrt
    go_enter Tryd.func12, Tryd.ntmps12
    go_wp2_with fail
    refine (poolRefRight_any k n s t u _ (by omega) (by omega) (by omega)).mono ?_
    rw [Hrt.out]
    rintro e w1 ⟨rfl, hb1⟩
    obtain ⟨hc0, hc1, hc2, hc3, hc4⟩ := boxC.after Hbox.out hb1
    have hbx : w.heap.size < w1.heap.size := World.block_lt_of_cell? w1 ⟨w.heap.size, 0, none⟩ hc0
    have Hb1 := Lib.hid (HB0.out.trans (hb1.mono (by simp)))
    have hsz1 := Hb1.out.size
    clear hb1
    by_cases h3 : k = 3
    · subst h3
      have H := Lib.hid (show namesC ⟨3, n, s, t, u⟩ = putR [] s false by rw [HN.out, if_pos rfl]; rfl)
      go_wp2_with fail
      refine (put_more none [] 0 0 s w1 rfl (Nat.le_refl _) (by simp [maxLen]) (by omega) (.inl rfl) (fun _ => rfl) (by omega)).mono ?_
      rintro e w2 ⟨A2, c2, rfl, h21, h22, h23, _, hb2⟩
      have Hr2 := Lib.hid h23
      have Hb2 := Lib.hid (Hb1.out.trans (hb2.mono hsz1))
      generalize putR [] s false = X at *
      generalize hq : X.length = q at *
      have Hq := Lib.hid hq
      clear h23 hb2 hq
      go_wp2_with fail
      go_ret
      exact ⟨A2, c2, by rw [H.out, Hq.out]; rfl, by rw [H.out, Hq.out]; exact h21, h22, by rw [H.out]; exact Hr2.out, Hb2.out⟩
    · by_cases h4 : k = 4
      · subst h4
        have H := Lib.hid (show namesC ⟨4, n, s, t, u⟩ = putR [s] u false by rw [HN.out, if_neg h3, if_pos rfl]; rfl)
        clear h3
        go_wp2_with fail
        go_region_held3 (fun w' => w'.cell? ⟨w.heap.size, 2, none⟩ = some (.string ⟨s.toArray⟩) ∧ w'.cell? ⟨w.heap.size, 4, none⟩ = some (.string ⟨u.toArray⟩))
          (first | go_keep)
          (first
            | (go_at_call 34; refine (put_more A2 [s] 1 c2 u _ rfl h21 h22 (by omega) Hr2.out Hn2.out (by omega)).mono ?_; rintro e w3 ⟨A3, c3, rfl, h31, h32, h33, _, hb3⟩
               have he2 : w3.cell? ⟨w.heap.size, 2, none⟩ = some (.string ⟨s.toArray⟩) := (hb3.cell (p := ⟨w.heap.size, 2, none⟩) (World.block_lt_of_cell? _ ⟨w.heap.size, 2, none⟩ hd2)).trans hd2
               have he4 : w3.cell? ⟨w.heap.size, 4, none⟩ = some (.string ⟨u.toArray⟩) := (hb3.cell (p := ⟨w.heap.size, 4, none⟩) (World.block_lt_of_cell? _ ⟨w.heap.size, 4, none⟩ hd4)).trans hd4
               have Hr3 := Lib.hid h33
               have Hb3 := Lib.hid (Hb2.out.trans (hb3.mono Hb2.out.size))
               generalize putR [s] u false = X at *
               generalize hq : X.length = q at *
               have Hq := Lib.hid hq
               clear h33 hb3 hq hd2 hd4)
            | (go_at_call 34; refine (put_plain none [] 0 0 s _ rfl (Nat.le_refl _) (by simp [maxLen]) (by omega) (.inl rfl) (fun _ => rfl)).mono ?_; rw [plain_nil]; rintro e w2 ⟨A2, c2, rfl, h21, h22, h23, hn2, hb2⟩
               have hw1 : Below w.heap.size w w1.drew := Hb1.out.drew
               have Hb2 := Lib.hid (Below.trans (by first | exact hw1 | exact Hb1.out) (hb2.mono hsz1))
               have hd2 : w2.cell? ⟨w.heap.size, 2, none⟩ = some (.string ⟨s.toArray⟩) := (hb2.cell (p := ⟨w.heap.size, 2, none⟩) (by show w.heap.size < w1.heap.size; omega)).trans hc2
               have hd4 : w2.cell? ⟨w.heap.size, 4, none⟩ = some (.string ⟨u.toArray⟩) := (hb2.cell (p := ⟨w.heap.size, 4, none⟩) (by show w.heap.size < w1.heap.size; omega)).trans hc4
               have Hr2 := Lib.hid h23
               have Hn2 := Lib.hid hn2
               clear h23 hn2 hb2 hw1))
        all_goals go_wp2_with fail
        all_goals go_ret
        all_goals exact ⟨A3, c3, by rw [H.out, Hq.out]; rfl, by rw [H.out, Hq.out]; exact h31, h32, by rw [H.out]; exact Hr3.out, Hb3.out⟩
      · by_cases h5 : k = 5
        · subst h5
          have hr := Hrt.out
          rw [r5] at hr
          have hse : (splitT u).2.2 = 0 := by simp only [Bool.and_eq_true, beq_iff_eq] at hr; exact hr.2
          obtain ⟨hok1, hok2, hok3, hok4⟩ := split_ok hse
          have H := Lib.hid (show namesC ⟨5, n, s, t, u⟩ = putR (addAll [s] (splitT u).2.1) (splitT u).1 false by rw [HN.out, if_neg h3, if_neg h4, if_pos rfl, addAll, List.foldl_append]; rfl)
          clear hr h3 h4
          have hsp := refSplit_any u w1 (by omega)
          unfold GivesS at hsp
          have hal : (addAll [s] (splitT u).2.1).length ≤ 1 + (splitT u).2.1.length := by have := all_len (splitT u).2.1 [s]; simpa using this
          generalize splitT u = sp at *
          obtain ⟨g, ts, er⟩ := sp
          simp only at hse hok1 hok2 hok3 hok4 hsp H hal
          subst hse
          have Hok1 := Lib.hid hok1
          have Hsp := Lib.hid hsp
          clear hok1 hok3 hsp
          go_wp2_with fail
          refine Calls.mono Hsp.out ?_
          rintro e w2 ⟨v2, rfl, hown2, hb2⟩
          obtain ⟨hd0, hd1, hd2, hd3, hd4⟩ := boxC.after (k := 5) (n := n) (s := s) (t := t) (u := u) ⟨hc0, hc1, hc2, hc3, hc4⟩ hb2
          have hsz2 := hb2.size
          have Hb2 := Lib.hid (Hb1.out.trans (hb2.mono hsz1))
          obtain ⟨A2, c2, rfl, hv2a, hv2b, hv2r, _⟩ := OwnS.slice hown2
          have Hr2 := Lib.hid (hv2r.below ((Below.refl w2.heap.size w2).alloc (Nat.le_refl _) (.cells #[.string ⟨s.toArray⟩] 9)))
          have Hb3 := Lib.hid (Hb2.out.alloc (by omega) (.cells #[.string ⟨s.toArray⟩] 9))
          clear hown2 hb2 hv2r hc0 hc1 hc2 hc3 hc4
          unfold str
          go_wp2_with fail
          refine (types_any (some ⟨w2.heap.size, 0, none⟩) [s] 1 A2 ts ts.length c2 _ (Nat.le_refl _) (by simp [maxLen]) (by simp) (rds_new _ _ _) (by simp) rfl (by omega) Hr2.out (fun z hz => by have := Hok1.out z hz; omega)).mono ?_
          rintro e w3 ⟨A3, c3, rfl, h31, h32, h33, hn3, hb3⟩
          have Hr3 := Lib.hid h33
          have Hn3 := Lib.hid hn3
          have Hb4 := Lib.hid (Hb3.out.trans (hb3.mono (by simp; omega)))
          have hsz4 := Hb4.out.size
          generalize addAll [s] ts = L at *
          generalize hq : L.length = q at *
          have Hq := Lib.hid hq
          clear h33 hn3 hb3 hq
          go_wp2_with fail
          refine (put_more A3 L q c3 g w3 Hq.out.symm h31 h32 (by omega) Hr3.out Hn3.out (by omega)).mono ?_
          rintro e w4 ⟨A4, c4, rfl, h41, h42, h43, _, hb4⟩
          have Hr4 := Lib.hid h43
          have Hb5 := Lib.hid (Hb4.out.trans (hb4.mono hsz4))
          generalize putR L g false = X at *
          generalize hq2 : X.length = q2 at *
          have Hq2 := Lib.hid hq2
          clear h43 hb4 hq2
          go_wp2_with fail
          go_ret
          exact ⟨A4, c4, by rw [H.out, Hq2.out]; rfl, by rw [H.out, Hq2.out]; exact h41, h42, by rw [H.out]; exact Hr4.out, Hb5.out⟩
        · have H := Lib.hid (show namesC ⟨k, n, s, t, u⟩ = [] by rw [HN.out, if_neg h3, if_neg h4, if_neg h5])
          have g3 : (k == 3) = false := by simpa using h3
          have g4 : (k == 4) = false := by simpa using h4
          have g5 : (k == 5) = false := by simpa using h5
          clear h3 h4 h5
          go_wp2_with fail
          go_ret
          exact GivesN.of (by rw [H.out]; exact OwnS.nil _ _) Hb1.out

end PoolX
end Go.Proofs.YtnkkeifjggcncaaDoor
