/-
  The document's own Right: what it returns, for every constant.
-/
import Derived.Test.YtnkkeifjggcncaaDoorPoolB
namespace Go.Proofs.YtnkkeifjggcncaaDoor
namespace PoolC
open Go.RowKit Base BinM DescM DescW DescX DescR DescP DescQ Stru PoolM PoolA PoolB

theorem r1 (n : Int) (s t u : List UInt8) : rightC ⟨1, n, s, t, u⟩ = ((s == []) && (t == []) && (u == [])) := by simp [rightC, bareC, restC, sameC]
theorem r2 (n : Int) (s t u : List UInt8) : rightC ⟨2, n, s, t, u⟩ = ((n == 0) && (t == []) && (u == []) && decide (s.length ≤ 64)) := by simp [rightC, bareC, restC, sameC]
theorem r3 (n : Int) (s t u : List UInt8) : rightC ⟨3, n, s, t, u⟩ = ((n == 0) && (t == []) && (u == []) && rightB s) := by simp [rightC, bareC, restC, sameC]
theorem r4 (n : Int) (s t u : List UInt8) : rightC ⟨4, n, s, t, u⟩ = ((n == 0) && nameB s && nameB t && rightB u) := by simp [rightC, bareC, restC, sameC, Bool.and_assoc]
theorem r5 (n : Int) (s t u : List UInt8) : rightC ⟨5, n, s, t, u⟩ = ((n == 0) && nameB s && nameB t && ((splitT u).2.2 == 0)) := by simp [rightC, bareC, restC, sameC, Bool.and_assoc]
theorem r0 {k n : Int} {s t u : List UInt8} (h1 : k ≠ 1) (h2 : k ≠ 2) (h3 : k ≠ 3) (h4 : k ≠ 4) (h5 : k ≠ 5) : rightC ⟨k, n, s, t, u⟩ = false := by
  unfold rightC restC
  rw [if_neg h1, if_neg h2, if_neg h3, if_neg h4, if_neg h5, Bool.and_false]

set_option maxRecDepth 100000 in
set_option maxHeartbeats 4000000 in
theorem poolRefRight_any (k n : Int) (s t u : List UInt8) (w : World) (hs : s.length ≤ 140737488355327) (ht : t.length ≤ 140737488355327) (hu : u.length ≤ 140737488355327) :
    Calls Tryd.prog 9 #[.agg #[.int .i64 k, .int .i64 n, .string ⟨s.toArray⟩, .string ⟨t.toArray⟩, .string ⟨u.toArray⟩]] w (GivesB w (.bool (rightC ⟨k, n, s, t, u⟩))) := by
  have hB0 := (Below.refl w.heap.size w).alloc (Nat.le_refl _) (.cells #[.int .i64 k, .int .i64 n, .string ⟨s.toArray⟩, .string ⟨t.toArray⟩, .string ⟨u.toArray⟩] 24)
  have HB := Lib.hid hB0
  clear hB0
  by_cases h1 : k = 1
  · subst h1
    have H := Lib.hid (r1 n s t u)
    clear hs ht hu
    cases hs : (s == [])
    · go_enter Tryd.func9, Tryd.ntmps9
      go_wp2
      go_ret
      exact ⟨ret_bool (by rw [H.out, hs]; rfl), HB.out⟩
    · cases ht : (t == [])
      · go_enter Tryd.func9, Tryd.ntmps9
        go_wp2
        go_ret
        exact ⟨ret_bool (by rw [H.out, hs, ht]; rfl), HB.out⟩
      · cases hu : (u == [])
        · go_enter Tryd.func9, Tryd.ntmps9
          go_wp2
          go_ret
          exact ⟨ret_bool (by rw [H.out, hs, ht, hu]; rfl), HB.out⟩
        · go_enter Tryd.func9, Tryd.ntmps9
          go_wp2
          go_ret
          exact ⟨ret_bool (by rw [H.out, hs, ht, hu]; rfl), HB.out⟩
  · by_cases h2 : k = 2
    · subst h2
      have H := Lib.hid (r2 n s t u)
      have hsz := Lib.hid (size_mk s)
      clear h1 ht hu
      cases hn : (n == 0)
      · go_enter Tryd.func9, Tryd.ntmps9
        go_wp2
        go_ret
        exact ⟨ret_bool (by rw [H.out, hn]; rfl), HB.out⟩
      · cases ht : (t == [])
        · go_enter Tryd.func9, Tryd.ntmps9
          go_wp2
          go_ret
          exact ⟨ret_bool (by rw [H.out, hn, ht]; rfl), HB.out⟩
        · cases hu : (u == [])
          · go_enter Tryd.func9, Tryd.ntmps9
            go_wp2
            go_ret
            exact ⟨ret_bool (by rw [H.out, hn, ht, hu]; rfl), HB.out⟩
          · by_cases h5 : s.length ≤ 64
            · have h5' : decide (s.length ≤ 64) = true := decide_eq_true h5
              go_enter Tryd.func9, Tryd.ntmps9
              go_wp2
              go_ret
              exact ⟨ret_bool (by rw [H.out, hn, ht, hu, Bool.eq_iff_iff]; simp <;> omega), HB.out⟩
            · go_enter Tryd.func9, Tryd.ntmps9
              go_wp2
              go_ret
              exact ⟨ret_bool (by rw [H.out, hn, ht, hu, Bool.eq_iff_iff]; simp <;> omega), HB.out⟩
    · by_cases h3 : k = 3
      · subst h3
        have H := Lib.hid (r3 n s t u)
        clear h1 h2 ht hu
        cases hn : (n == 0)
        · go_enter Tryd.func9, Tryd.ntmps9
          go_wp2
          go_ret
          exact ⟨ret_bool (by rw [H.out, hn]; rfl), HB.out⟩
        · cases ht : (t == [])
          · go_enter Tryd.func9, Tryd.ntmps9
            go_wp2
            go_ret
            exact ⟨ret_bool (by rw [H.out, hn, ht]; rfl), HB.out⟩
          · cases hu : (u == [])
            · go_enter Tryd.func9, Tryd.ntmps9
              go_wp2
              go_ret
              exact ⟨ret_bool (by rw [H.out, hn, ht, hu]; rfl), HB.out⟩
            · go_enter Tryd.func9, Tryd.ntmps9
              go_wp2_with fail
              refine (refRight_any s _ (by omega)).mono ?_
              rintro e w2 ⟨rfl, rfl⟩
              go_wp2_with fail
              go_ret
              exact ⟨ret_bool (by rw [H.out, hn, ht, hu]; rfl), HB.out⟩
      · by_cases h4 : k = 4
        · subst h4
          have H := Lib.hid (r4 n s t u)
          clear h1 h2 h3
          cases hn : (n == 0)
          · go_enter Tryd.func9, Tryd.ntmps9
            go_wp2
            go_ret
            exact ⟨ret_bool (by rw [H.out, hn]; rfl), HB.out⟩
          · go_enter Tryd.func9, Tryd.ntmps9
            go_wp2_with fail
            refine (refName_l s _ (by omega)).mono ?_
            cases hns : nameB s
            · rintro e w3 ⟨rfl, rfl⟩
              go_wp2_with fail
              go_ret
              exact ⟨ret_bool (by rw [H.out, hn, hns]; rfl), HB.out⟩
            · rintro e w3 ⟨rfl, rfl⟩
              go_wp2_with fail
              refine (refName_l t _ (by omega)).mono ?_
              cases hnt : nameB t
              · rintro e w3 ⟨rfl, rfl⟩
                go_wp2_with fail
                go_ret
                exact ⟨ret_bool (by rw [H.out, hn, hns, hnt]; rfl), HB.out⟩
              · rintro e w3 ⟨rfl, rfl⟩
                go_wp2_with fail
                refine (refRight_any u _ (by omega)).mono ?_
                rintro e w3 ⟨rfl, rfl⟩
                go_wp2_with fail
                go_ret
                exact ⟨ret_bool (by rw [H.out, hn, hns, hnt]; rfl), HB.out⟩
        · by_cases h5 : k = 5
          · subst h5
            have H := Lib.hid (r5 n s t u)
            obtain ⟨hc0, hc1, hc2, hc3, hc4⟩ := boxC.new w 5 n s t u 24
            clear h1 h2 h3 h4
            generalize hspl : splitT u = sp at *
            obtain ⟨sg, st, se⟩ := sp
            have Hsp := Lib.hid hspl
            have hsz := HB.out.size
            clear hspl
            go_enter Tryd.func9, Tryd.ntmps9
            go_wp2_with fail
            refine (refSplit_any u _ (by omega)).mono ?_
            rw [Hsp.out]
            rintro e w2 ⟨v, rfl, _, hb2⟩
            obtain ⟨he0, he1, he2, he3, he4⟩ := boxC.after (k := 5) (n := n) (s := s) (t := t) (u := u) ⟨hc0, hc1, hc2, hc3, hc4⟩ hb2
            have HB2 := Lib.hid (HB.out.trans (hb2.mono hsz))
            clear hb2 hc0 hc1 hc2 hc3 hc4
            unfold DescG.str
            cases hn : (n == 0)
            · go_wp2_with fail
              go_ret
              exact ⟨ret_bool (by rw [H.out, hn]; rfl), HB2.out⟩
            · go_wp2_with fail
              refine (refName_l s _ (by omega)).mono ?_
              cases hns : nameB s
              · rintro e w3 ⟨rfl, rfl⟩
                go_wp2_with fail
                go_ret
                exact ⟨ret_bool (by rw [H.out, hn, hns]; rfl), HB2.out⟩
              · rintro e w3 ⟨rfl, rfl⟩
                go_wp2_with fail
                refine (refName_l t _ (by omega)).mono ?_
                cases hnt : nameB t
                · rintro e w3 ⟨rfl, rfl⟩
                  go_wp2_with fail
                  go_ret
                  exact ⟨ret_bool (by rw [H.out, hn, hns, hnt]; rfl), HB2.out⟩
                · rintro e w3 ⟨rfl, rfl⟩
                  go_wp2_with fail
                  go_ret
                  exact ⟨ret_bool (by rw [H.out, hn, hns, hnt]; rfl), HB2.out⟩
          · have H := Lib.hid (r0 (n := n) (s := s) (t := t) (u := u) h1 h2 h3 h4 h5)
            have g1 : (k == 1) = false := by simpa using h1
            have g2 : (k == 2) = false := by simpa using h2
            have g3 : (k == 3) = false := by simpa using h3
            have g4 : (k == 4) = false := by simpa using h4
            have g5 : (k == 5) = false := by simpa using h5
            clear h1 h2 h3 h4 h5 hs ht hu
            go_enter Tryd.func9, Tryd.ntmps9
            go_wp2
            go_ret
            exact ⟨ret_bool H.out.symm, HB.out⟩

end PoolC
end Go.Proofs.YtnkkeifjggcncaaDoor
