/-
  pool.Right: what it returns, for every constant.
-/
import Derived.Test.YtnkkeifjggcncaaDoorPoolA
import Derived.Outline
namespace Go.Proofs.YtnkkeifjggcncaaDoor
namespace PoolB
open Go.RowKit Base BinM DescM DescW DescX DescR DescP DescQ Stru PoolM PoolA

/-- a constant in a box -/
def boxC (w : World) (g : Nat) (k n : Int) (s t u : List UInt8) : Prop :=
  w.cell? ⟨g, 0, none⟩ = some (.int .i64 k) ∧ w.cell? ⟨g, 1, none⟩ = some (.int .i64 n) ∧ w.cell? ⟨g, 2, none⟩ = some (.string ⟨s.toArray⟩) ∧ w.cell? ⟨g, 3, none⟩ = some (.string ⟨t.toArray⟩) ∧ w.cell? ⟨g, 4, none⟩ = some (.string ⟨u.toArray⟩)

theorem boxC.new (w : World) (k n : Int) (s t u : List UInt8) (ty : TypeId) : boxC (w.alloc (.cells #[.int .i64 k, .int .i64 n, .string ⟨s.toArray⟩, .string ⟨t.toArray⟩, .string ⟨u.toArray⟩] ty)) w.heap.size k n s t u := by
  refine ⟨?_, ?_, ?_, ?_, ?_⟩
  all_goals (rw [cell_of_row _ _ _ _ ty (0, 0) (heap_alloc_new w _)]; rfl)
theorem boxC.below {w w' : World} {B g : Nat} {k n : Int} {s t u : List UInt8} (h : boxC w g k n s t u) (hb : Below B w w') (hg : g < B) : boxC w' g k n s t u :=
  ⟨(hb.cell (p := ⟨g, 0, none⟩) hg).trans h.1, (hb.cell (p := ⟨g, 1, none⟩) hg).trans h.2.1, (hb.cell (p := ⟨g, 2, none⟩) hg).trans h.2.2.1, (hb.cell (p := ⟨g, 3, none⟩) hg).trans h.2.2.2.1, (hb.cell (p := ⟨g, 4, none⟩) hg).trans h.2.2.2.2⟩

theorem boxC.after {w w' : World} {g : Nat} {k n : Int} {s t u : List UInt8} (h : boxC w g k n s t u) (hb : Below w.heap.size w w') : boxC w' g k n s t u :=
  h.below hb (World.block_lt_of_cell? w ⟨g, 0, none⟩ h.1)

set_option maxRecDepth 100000 in
set_option maxHeartbeats 4000000 in
theorem poolRight_any (k n : Int) (s t u : List UInt8) (w : World) (hs : s.length ≤ 140737488355327) (ht : t.length ≤ 140737488355327) (hu : u.length ≤ 140737488355327) :
    Calls Tryd.prog 8 #[.agg #[.int .i64 k, .int .i64 n, .string ⟨s.toArray⟩, .string ⟨t.toArray⟩, .string ⟨u.toArray⟩]] w (GivesB w (.bool (rightC ⟨k, n, s, t, u⟩))) := by
  obtain ⟨hc0, hc1, hc2, hc3, hc4⟩ := boxC.new w k n s t u 24
  have hg := guard_cst
  generalize hbc : bareC ⟨k, n, s, t, u⟩ = bc at *
  obtain ⟨k', n', s', t', u'⟩ := bc
  have hne := neq_cst k n k' n' s t u s' t' u'
  have hR : rightC ⟨k, n, s, t, u⟩ = (sameC ⟨k, n, s, t, u⟩ ⟨k', n', s', t', u'⟩ && restC ⟨k, n, s, t, u⟩) := by unfold rightC; rw [hbc]
  have HR := Lib.hid hR
  have Hbc := Lib.hid hbc
  clear hR hbc
  cases hsm : sameC ⟨k, n, s, t, u⟩ ⟨k', n', s', t', u'⟩
  · rw [hsm] at hne
    have H := Lib.hid (show rightC ⟨k, n, s, t, u⟩ = false by rw [HR.out, hsm]; rfl)
    clear hsm
    go_enter Tryd.func8, Tryd.ntmps8
    go_wp2_with fail
    have hB0 := (Below.refl w.heap.size w).alloc (Nat.le_refl _) (.cells #[.int .i64 k, .int .i64 n, .string ⟨s.toArray⟩, .string ⟨t.toArray⟩, .string ⟨u.toArray⟩] 24)
    have hB1 := hB0.drew
    go_region_held3 (fun w' => w'.cell? ⟨w.heap.size, 0, none⟩ = some (.int .i64 k) ∧ w'.cell? ⟨w.heap.size, 1, none⟩ = some (.int .i64 n) ∧ w'.cell? ⟨w.heap.size, 2, none⟩ = some (.string ⟨s.toArray⟩) ∧ w'.cell? ⟨w.heap.size, 3, none⟩ = some (.string ⟨t.toArray⟩) ∧ w'.cell? ⟨w.heap.size, 4, none⟩ = some (.string ⟨u.toArray⟩) ∧ Below w.heap.size w w')
      (first | go_keep)
      (first | (go_at_call 26; refine (bare_any k n s t u _).mono ?_; rw [Hbc.out]; unfold cstV; rintro e w1 ⟨rfl, hb1⟩
                obtain ⟨hd0, hd1, hd2, hd3, hd4⟩ := boxC.after (g := w.heap.size) (k := k) (n := n) (s := s) (t := t) (u := u) ⟨by assumption, by assumption, by assumption, by assumption, by assumption⟩ hb1
                have hBB := Below.trans (B := w.heap.size) (by assumption) (hb1.mono (Below.size (by assumption)))))
    have HB := Lib.hid hBB
    go_wp2_with fail
    go_ret
    exact ⟨ret_bool H.out.symm, HB.out⟩
  · rw [hsm] at hne
    have H := Lib.hid (show rightC ⟨k, n, s, t, u⟩ = restC ⟨k, n, s, t, u⟩ by rw [HR.out, hsm]; rfl)
    clear hsm
    go_enter Tryd.func8, Tryd.ntmps8
    go_wp2_with fail
    have hB0 := (Below.refl w.heap.size w).alloc (Nat.le_refl _) (.cells #[.int .i64 k, .int .i64 n, .string ⟨s.toArray⟩, .string ⟨t.toArray⟩, .string ⟨u.toArray⟩] 24)
    have hB1 := hB0.drew
    go_region_held3 (fun w' => w'.cell? ⟨w.heap.size, 0, none⟩ = some (.int .i64 k) ∧ w'.cell? ⟨w.heap.size, 1, none⟩ = some (.int .i64 n) ∧ w'.cell? ⟨w.heap.size, 2, none⟩ = some (.string ⟨s.toArray⟩) ∧ w'.cell? ⟨w.heap.size, 3, none⟩ = some (.string ⟨t.toArray⟩) ∧ w'.cell? ⟨w.heap.size, 4, none⟩ = some (.string ⟨u.toArray⟩) ∧ Below w.heap.size w w')
      (first | go_keep)
      (first | (go_at_call 26; refine (bare_any k n s t u _).mono ?_; rw [Hbc.out]; unfold cstV; rintro e w1 ⟨rfl, hb1⟩
                obtain ⟨hd0, hd1, hd2, hd3, hd4⟩ := boxC.after (g := w.heap.size) (k := k) (n := n) (s := s) (t := t) (u := u) ⟨by assumption, by assumption, by assumption, by assumption, by assumption⟩ hb1
                have hBB := Below.trans (B := w.heap.size) (by assumption) (hb1.mono (Below.size (by assumption)))))
    have HB := Lib.hid hBB
    have hsz := hBB.size
    clear hb1 hB0 hB1 hBB hc0 hc1 hc2 hc3 hc4 hne hg
    by_cases h1 : k = 1
    · subst h1
      have H1 := Lib.hid (show restC ⟨1, n, s, t, u⟩ = true from rfl)
      go_wp2_with fail
      go_ret
      exact ⟨ret_bool (by rw [H.out, H1.out]), HB.out⟩
    · by_cases h2 : k = 2
      · subst h2
        have H1 := Lib.hid (show restC ⟨2, n, s, t, u⟩ = decide (s.length ≤ 64) from rfl)
        have hsz' := size_mk s
        have Hsz := Lib.hid hsz'
        clear h1 hsz'
        by_cases h5 : s.length ≤ 64
        · have h5' : decide (s.length ≤ 64) = true := decide_eq_true h5
          go_wp2_with fail
          go_ret
          exact ⟨ret_bool (by rw [H.out, H1.out, Bool.eq_iff_iff]; simp <;> omega), HB.out⟩
        · go_wp2_with fail
          go_ret
          exact ⟨ret_bool (by rw [H.out, H1.out, Bool.eq_iff_iff]; simp <;> omega), HB.out⟩
      · by_cases h3 : k = 3
        · subst h3
          have H1 := Lib.hid (show restC ⟨3, n, s, t, u⟩ = rightB s from rfl)
          clear h1 h2
          go_wp2_with fail
          refine (right_any s _ (by omega)).mono ?_
          rintro e w2 ⟨rfl, rfl⟩
          go_wp2_with fail
          go_ret
          exact ⟨ret_bool (by rw [H.out, H1.out]), HB.out⟩
        · by_cases h4 : k = 4
          · subst h4
            have H1 := Lib.hid (show restC ⟨4, n, s, t, u⟩ = (nameB s && nameB t && rightB u) from rfl)
            clear h1 h2 h3
            go_wp2_with fail
            refine (name_l s _ (by omega)).mono ?_
            cases hns : nameB s
            · rintro e w2 ⟨rfl, rfl⟩
              go_wp2_with fail
              go_ret
              exact ⟨ret_bool (by rw [H.out, H1.out, hns]; rfl), HB.out⟩
            · rintro e w2 ⟨rfl, rfl⟩
              go_wp2_with fail
              refine (name_l t _ (by omega)).mono ?_
              cases hnt : nameB t
              · rintro e w2 ⟨rfl, rfl⟩
                go_wp2_with fail
                go_ret
                exact ⟨ret_bool (by rw [H.out, H1.out, hns, hnt]; rfl), HB.out⟩
              · rintro e w2 ⟨rfl, rfl⟩
                go_wp2_with fail
                refine (right_any u _ (by omega)).mono ?_
                rintro e w2 ⟨rfl, rfl⟩
                go_wp2_with fail
                go_ret
                exact ⟨ret_bool (by rw [H.out, H1.out, hns, hnt]; rfl), HB.out⟩
          · by_cases h5 : k = 5
            · subst h5
              have H1 := Lib.hid (show restC ⟨5, n, s, t, u⟩ = (nameB s && nameB t && ((splitT u).2.2 == 0)) from rfl)
              clear h1 h2 h3 h4
              go_wp2_with fail
              refine (split_any u _ (by omega)).mono ?_
              rintro e w2 ⟨v, rfl, _, hb2⟩
              have hbx : boxC w2 w.heap.size 5 n s t u := boxC.after ⟨by assumption, by assumption, by assumption, by assumption, by assumption⟩ hb2
              obtain ⟨he0, he1, he2, he3, he4⟩ := hbx
              have HB2 := Lib.hid (HB.out.trans (hb2.mono hsz))
              clear hb2 hd0 hd1 hd2 hd3 hd4
              generalize hspl : splitT u = sp at *
              obtain ⟨sg, st, se⟩ := sp
              have Hsp := Lib.hid hspl
              unfold DescG.str
              clear hspl
              go_wp2_with fail
              refine (name_l s _ (by omega)).mono ?_
              cases hns : nameB s
              · rintro e w3 ⟨rfl, rfl⟩
                go_wp2_with fail
                go_ret
                exact ⟨ret_bool (by rw [H.out, H1.out, hns]; rfl), HB2.out⟩
              · rintro e w3 ⟨rfl, rfl⟩
                go_wp2_with fail
                refine (name_l t _ (by omega)).mono ?_
                cases hnt : nameB t
                · rintro e w3 ⟨rfl, rfl⟩
                  go_wp2_with fail
                  go_ret
                  exact ⟨ret_bool (by rw [H.out, H1.out, hns, hnt]; rfl), HB2.out⟩
                · rintro e w3 ⟨rfl, rfl⟩
                  go_wp2_with fail
                  go_ret
                  exact ⟨ret_bool (by rw [H.out, H1.out, hns, hnt]; rfl), HB2.out⟩
            · have H1 := Lib.hid (show restC ⟨k, n, s, t, u⟩ = false by unfold restC; rw [if_neg h1, if_neg h2, if_neg h3, if_neg h4, if_neg h5])
              have g1 : (k == 1) = false := by simpa using h1
              have g2 : (k == 2) = false := by simpa using h2
              have g3 : (k == 3) = false := by simpa using h3
              have g4 : (k == 4) = false := by simpa using h4
              have g5 : (k == 5) = false := by simpa using h5
              clear h1 h2 h3 h4 h5
              go_wp2_with fail
              go_ret
              exact ⟨ret_bool (by rw [H.out, H1.out]), HB.out⟩

end PoolB
end Go.Proofs.YtnkkeifjggcncaaDoor
