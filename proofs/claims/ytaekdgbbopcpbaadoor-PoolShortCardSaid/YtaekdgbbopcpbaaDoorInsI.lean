/-
  The document's own reading of code, walked.
-/
import Derived.Test.YtaekdgbbopcpbaaDoorInsH
namespace Go.Proofs.YtaekdgbbopcpbaaDoor
namespace InsI
open Go.RowKit InsM Base InsA InsB Stru InsC BinM BinE BinPut BinGet Bin8 InsP InsG InsH
open RefGet (refGet_any)

theorem one_ways (l : List UInt8) (b : Int) :
    ((getS l b).2.2 ≠ 0 ∧ oneI l b = ((0, 0), 0, (getS l b).2.2)) ∨
    ((getS l b).2.2 = 0 ∧ ((getS l b).1 < 0 ∨ 46 ≤ (getS l b).1) ∧ oneI l b = ((0, 0), 0, 12)) ∨
    ((getS l b).2.2 = 0 ∧ (0 ≤ (getS l b).1 ∧ (getS l b).1 ≤ 45) ∧ kindI (getS l b).1 = 0 ∧ oneI l b = (((getS l b).1, 0), (getS l b).2.1, 0)) ∨
    ((getS l b).2.2 = 0 ∧ (0 ≤ (getS l b).1 ∧ (getS l b).1 ≤ 45) ∧ (0 < kindI (getS l b).1 ∧ kindI (getS l b).1 ≤ 7) ∧
      (((getS l (getS l b).2.1).2.2 ≠ 0 ∧ oneI l b = ((0, 0), 0, (getS l (getS l b).2.1).2.2)) ∨
       ((getS l (getS l b).2.1).2.2 = 0 ∧ ((getS l (getS l b).2.1).1 < 0 ∨ 65535 < (getS l (getS l b).2.1).1) ∧ oneI l b = ((0, 0), 0, 12)) ∨
       ((getS l (getS l b).2.1).2.2 = 0 ∧ (0 ≤ (getS l (getS l b).2.1).1 ∧ (getS l (getS l b).2.1).1 ≤ 65535) ∧ oneI l b = (((getS l b).1, (getS l (getS l b).2.1).1), (getS l (getS l b).2.1).2.1, 0)))) := by
  unfold oneI
  by_cases h1 : (getS l b).2.2 = 0
  · by_cases h2 : (getS l b).1 < 0 ∨ 45 < (getS l b).1
    · refine .inr (.inl ⟨h1, by omega, ?_⟩)
      rw [getU_big h1 h2]; simp
    · have h3 : 0 ≤ (getS l b).1 ∧ (getS l b).1 ≤ 45 := by omega
      rw [getU_good h1 h2, if_neg (by simp)]
      by_cases h4 : kindI (getS l b).1 = 0
      · exact .inr (.inr (.inl ⟨h1, h3, h4, by rw [if_pos h4]⟩))
      · have h5 : 0 < kindI (getS l b).1 ∧ kindI (getS l b).1 ≤ 7 := by
          have := kind_range (getS l b).1
          have := (kind_neg (op := (getS l b).1)).1
          omega
        refine .inr (.inr (.inr ⟨h1, h3, h5, ?_⟩))
        rw [if_neg h4]
        by_cases h6 : (getS l (getS l b).2.1).2.2 = 0
        · by_cases h7 : (getS l (getS l b).2.1).1 < 0 ∨ 65535 < (getS l (getS l b).2.1).1
          · exact .inr (.inl ⟨h6, h7, by rw [getU_big h6 h7]; simp⟩)
          · exact .inr (.inr ⟨h6, by omega, by rw [getU_good h6 h7]; simp⟩)
        · exact .inl ⟨h6, by rw [getU_err h6]; simp [h6]⟩
  · exact .inl ⟨h1, by rw [getU_err h1]; simp [h1]⟩

/-- a struct of the call's own keeps its cells over a call -/
theorem cells_two {w w' : World} {x y : Value} {t : TypeId} (hb : Below (w.alloc (.cells #[x, y] t)).heap.size (w.alloc (.cells #[x, y] t)) w') :
    w'.cell? ⟨w.heap.size, 0, none⟩ = some x ∧ w'.cell? ⟨w.heap.size, 1, none⟩ = some y := by
  have h0 : (w.alloc (.cells #[x, y] t)).cell? ⟨w.heap.size, 0, none⟩ = some x := by
    rw [cell_of_row _ _ 0 #[x, y] t (0, 0) (heap_alloc_new w _)]; rfl
  have h1 : (w.alloc (.cells #[x, y] t)).cell? ⟨w.heap.size, 1, none⟩ = some y := by
    rw [cell_of_row _ _ 1 #[x, y] t (0, 0) (heap_alloc_new w _)]; rfl
  exact ⟨(hb.cell (p := ⟨w.heap.size, 0, none⟩) (by simp)).trans h0, (hb.cell (p := ⟨w.heap.size, 1, none⟩) (by simp)).trans h1⟩
theorem block_two {w w' : World} {cs : Array Value} {t : TypeId} (hb : Below (w.alloc (.cells cs t)).heap.size (w.alloc (.cells cs t)) w') : w'.heap[w.heap.size]? = some (.cells cs t (0, 0)) :=
  (hb.block w.heap.size (by simp)).trans (heap_alloc_new w _)
theorem free_of {w : World} {g : Nat} {cs : Array Value} {t : TypeId} (h : w.heap[g]? = some (.cells cs t (0, 0))) (i : Nat) : w.frozen? ⟨g, i, none⟩ = false := by
  simp [World.frozen?, h]
/-- a row just made behind a store -/
theorem rds_new3 (w : World) (p : Addr) (u : Value) (cs : Array Value) (t : TypeId) : Rds ((w.setCell p u).alloc (.cells cs t)) (some ⟨w.heap.size, 0, none⟩) cs.toList := by
  have := rds_new (w.setCell p u) cs t
  simpa [World.setCell] using this
theorem size_setCell' (w : World) (p : Addr) (u : Value) : (w.setCell p u).heap.size = w.heap.size := by simp [World.setCell]

set_option maxRecDepth 100000 in
set_option maxHeartbeats 8000000 in
theorem refInsGet_any (A : Option Addr) (l : List UInt8) (n cap : Nat) (a : Int) (w : World) (hn : n = l.length) (hnc : n ≤ cap) (hm : cap ≤ maxLen) (ha0 : -9223372036854775808 ≤ a) (ha1 : a ≤ 9223372036854775807) (hr : Rds w A (cells8 l)) :
    Calls Tryd.prog 51 #[.slice A n cap, .int .i64 a] w (GivesK w (getI l a)) := by
  have hg := refGet_any A l n cap a w hn hnc hm ha0 ha1 hr
  have hln : l.length ≤ 9223372036854775807 := by unfold maxLen at hm; omega
  have Hn := Lib.hid hn
  have Hr := Lib.hid hr
  clear hn hr
  by_cases h1 : (getS l a).2.2 = 0
  · have hok := BinText.getS_ok h1
    by_cases h2 : (getS l a).1 < 0 ∨ 512 < (getS l a).1
    · have H := Lib.hid (getI_big h1 h2)
      generalize getS l a = g at *
      obtain ⟨v, pl, er⟩ := g
      simp only at h1 h2
      subst h1
      unfold three at hg
      have Hg := Lib.hid hg
      clear hg hok
      by_cases h3 : v < 0
      · clear h2
        go_enter Tryd.func51, Tryd.ntmps51
        go_wp2_with fail
        refine Calls.mono Hg.out ?_
        rintro e w1 ⟨rfl, hb1⟩
        have Hb1 := Lib.hid hb1
        clear hb1
        go_wp2_with fail
        go_ret3
        exact givesK H.out (OwnK.nil _ _) Hb1.out
      · have h4 : 512 < v := by omega
        clear h2
        go_enter Tryd.func51, Tryd.ntmps51
        go_wp2_with fail
        refine Calls.mono Hg.out ?_
        rintro e w1 ⟨rfl, hb1⟩
        have Hb1 := Lib.hid hb1
        clear hb1
        go_wp2_with fail
        go_ret3
        exact givesK H.out (OwnK.nil _ _) Hb1.out
    · have H := Lib.hid (getI_many h1 h2)
      generalize getI l a = R at *
      generalize getS l a = g at *
      obtain ⟨v, pl, er⟩ := g
      simp only at h1 h2 hok H
      subst h1
      obtain ⟨N, rfl⟩ : ∃ N : Nat, v = (N : Int) := ⟨v.toNat, by omega⟩
      rw [Int.toNat_natCast] at H
      have hN : N ≤ 512 := by omega
      unfold three at hg
      have Hg := Lib.hid hg
      have h3 : ¬ (N : Int) < 0 := by omega
      have h4 : ¬ 512 < (N : Int) := by omega
      obtain ⟨hp0, hp1, _, _⟩ := hok
      clear hg h2
      go_enter Tryd.func51, Tryd.ntmps51
      go_wp2_with fail
      refine Calls.mono Hg.out ?_
      rintro e w1 ⟨rfl, hb1⟩
      have Hb1 := Lib.hid hb1
      clear hb1
      go_wp2_with fail
      go_loopw [1, 9, 10, 11, 12, 13, 14, 15, 16, 17] (fun at_ o i _ _ _ _ _ _ _ wr => InsG.Rel w l R N at_ o i wr) (fun _ _ i _ _ _ _ _ _ _ _ => N - (intOf i).toNat)
      case atStart => exact ⟨0, pl, [], Nat.zero_le _, rfl, rfl, by omega, rfl, H.out, OwnK.nil _ _, Hb1.out⟩
      case round =>
        obtain ⟨k, b, p, hk, rfl, rfl, ⟨hb0, hb1⟩, hpk, hR, hown, hbel⟩ := hrel
        have Hown := Lib.hid hown
        have Hbel := Lib.hid hbel
        have HR := Lib.hid hR
        have hsz := hbel.size
        have hpl : p.length ≤ k := Nat.le_of_eq hpk
        have Hpk := Lib.hid hpk
        have Hr2 := Lib.hid (Hr.out.below hbel)
        clear hown hbel hR hpk
        by_cases hlt : k < N
        · obtain ⟨q, hq⟩ : ∃ q, N - k = q + 1 := ⟨N - k - 1, by omega⟩
          have hq2 : N - (k + 1) = q := by omega
          have hR := HR.out
          rw [hq] at hR
          have Hq2 := Lib.hid hq2
          have hways := one_ways l b
          have hone := oneI_ok (l := l) (a := b)
          have hbad : (oneI l b).2.2 ≠ 0 → Hid (R = ([], 0, (oneI l b).2.2)) := fun h => Lib.hid (by rw [hR, after_err h])
          have hgood : (oneI l b).2.2 = 0 → Hid (R = after (p ++ [(oneI l b).1]) (manyI l q (oneI l b).2.1)) := fun h => Lib.hid (by rw [hR, after_ok h])
          have hsok := BinText.getS_ok (l := l) (a := b)
          generalize hO : oneI l b = O at *
          generalize hS : getS l b = S1 at *
          obtain ⟨v1, pl1, er1⟩ := S1
          simp only at hways hsok
          have HS := Lib.hid hS
          clear hO hS hR HR hq hq2
          rcases hways with ⟨h5, rfl⟩ | ⟨h5, h6, rfl⟩ | ⟨h5, ⟨h6, h7⟩, h8, rfl⟩ | ⟨h5, ⟨h6, h7⟩, h8, hways⟩
          · have HR2 := hbad h5
            have h5' : (er1 != 0) = true := by simpa using h5
            clear hbad hgood hone hsok h5
            go_wp2_with fail
            refine (refGet_any A l n cap b wr Hn.out hnc hm hb0 hb1 Hr2.out).mono ?_
            rw [HS.out]
            unfold three
            rintro e w2 ⟨rfl, hb2⟩
            have Hb2 := Lib.hid (Hbel.out.trans (hb2.mono hsz))
            clear hb2
            go_wp2_with fail
            go_ret3
            exact givesK HR2.out (OwnK.nil _ _) Hb2.out
          · subst h5
            have HR2 := hbad (by simp)
            clear hbad hgood hone hsok
            by_cases h6' : v1 < 0
            · clear h6
              go_wp2_with fail
              refine (refGet_any A l n cap b wr Hn.out hnc hm hb0 hb1 Hr2.out).mono ?_
              rw [HS.out]
              unfold three
              rintro e w2 ⟨rfl, hb2⟩
              have Hb2 := Lib.hid (Hbel.out.trans (hb2.mono hsz))
              clear hb2
              go_wp2_with fail
              go_ret3
              exact givesK HR2.out (OwnK.nil _ _) Hb2.out
            · have h7 : 46 ≤ v1 := by omega
              clear h6
              go_wp2_with fail
              refine (refGet_any A l n cap b wr Hn.out hnc hm hb0 hb1 Hr2.out).mono ?_
              rw [HS.out]
              unfold three
              rintro e w2 ⟨rfl, hb2⟩
              have Hb2 := Lib.hid (Hbel.out.trans (hb2.mono hsz))
              clear hb2
              go_wp2_with fail
              go_ret3
              exact givesK HR2.out (OwnK.nil _ _) Hb2.out
          · subst h5
            have HR2 := hgood rfl
            have hpl1 := hone rfl
            simp only at hpl1
            have H8 := Lib.hid h8
            have g1 : ¬ v1 < 0 := by omega
            have g2 : ¬ 46 ≤ v1 := by omega
            clear hbad hgood hone hsok h8
            go_wp2_with fail
            refine (refGet_any A l n cap b wr Hn.out hnc hm hb0 hb1 Hr2.out).mono ?_
            rw [HS.out]
            unfold three
            rintro e w2 ⟨rfl, hb2⟩
            have hsz2 := hb2.size
            have Hb2 := Lib.hid hb2
            clear hb2
            go_wp2_with fail
            refine (refKind_any v1 _).mono ?_
            rw [H8.out]
            rintro e w3 ⟨rfl, hb3⟩
            have hc3 : w3.cell? ⟨w2.heap.size, 0, none⟩ = some (.int .i64 v1) ∧ w3.cell? ⟨w2.heap.size, 1, none⟩ = some (.int .i64 0) := cells_two hb3
            obtain ⟨hc30, hc31⟩ := hc3
            have hsz3 : w2.heap.size + 1 ≤ w3.heap.size := by have := hb3.size; simpa using this
            have Hw3 := Lib.hid ((Hb2.out.alloc hsz2 _).trans (hb3.mono (by simp; omega)))
            have Hb3 := Lib.hid (Hbel.out.trans (Hw3.out.mono hsz))
            clear hb3
            go_wp2_with (at_builtin
                         have hkk : Below wr.heap.size wr (w3.alloc (.cells #[.int .i64 v1, .int .i64 0] 90)) := Hw3.out.alloc (by omega) _
                         refine appK rfl (.tmp 80) (.tmp 82) rfl w.heap.size _ p rfl (ownK_kept Hown.out hkk) (some ⟨w3.heap.size, 0, none⟩) 1 1 [(v1, 0)] rfl rfl (rds_new _ _ _) (by simp; omega) (by simp; omega) ?_
                         intro v4 w4 hown4 hg4
                         have Hb4 := Lib.hid (ownK_below (ownK_kept Hown.out hkk) (Hbel.out.trans (hkk.mono hsz)) (Nat.le_refl _) (by simp; omega) hg4)
                         have Hown4 := Lib.hid hown4
                         clear hown4 hg4 hkk)
            go_roundw
            case rel => exact ⟨k + 1, pl1, p ++ [(v1, 0)], by omega, by go_num, rfl, by omega, by simp [Hpk.out], by rw [Hq2.out]; exact HR2.out, Hown4.out, Hb4.out⟩
            case measure => simp [intOf]; omega
          · subst h5
            have hpl1 := hsok rfl
            have g1 : ¬ v1 < 0 := by omega
            have g2 : ¬ 46 ≤ v1 := by omega
            generalize hKK : kindI v1 = K at *
            have HK := Lib.hid hKK
            obtain ⟨h8, h8'⟩ := h8
            have hsok2 := BinText.getS_ok (l := l) (a := pl1)
            generalize hS2 : getS l pl1 = S2 at *
            obtain ⟨v2, pl2, er2⟩ := S2
            simp only at hways hsok2
            have HS2 := Lib.hid hS2
            have hpb0 : -9223372036854775808 ≤ pl1 := by omega
            have hpb1 : pl1 ≤ 9223372036854775807 := by omega
            clear hsok hS2 hKK hpl1
            go_wp2_with fail
            refine (refGet_any A l n cap b wr Hn.out hnc hm hb0 hb1 Hr2.out).mono ?_
            rw [HS.out]
            unfold three
            rintro e w2 ⟨rfl, hb2⟩
            have hsz2 := hb2.size
            have Hb2 := Lib.hid hb2
            clear hb2
            go_wp2_with fail
            refine (refKind_any v1 _).mono ?_
            rw [HK.out]
            rintro e w3 ⟨rfl, hb3⟩
            have Hc3 := Lib.hid (cells_two hb3)
            have Hk3 := Lib.hid (block_two hb3)
            have hsz3 : w2.heap.size + 1 ≤ w3.heap.size := by have := hb3.size; simpa using this
            have Hw3 := Lib.hid ((Hb2.out.alloc hsz2 _).trans (hb3.mono (by simp; omega)))
            have Hr3 := Lib.hid (Hr2.out.below Hw3.out)
            clear hb3
            go_wp2_with fail
            refine (refGet_any A l n cap pl1 w3 Hn.out hnc hm hpb0 hpb1 Hr3.out).mono ?_
            rw [HS2.out]
            unfold three
            rintro e w4 ⟨rfl, hb4⟩
            have hsz4 := hb4.size
            have hc40 : w4.cell? ⟨w2.heap.size, 0, none⟩ = some (.int .i64 v1) := (hb4.cell (p := ⟨w2.heap.size, 0, none⟩) hsz3).trans Hc3.out.1
            have hc41 : w4.cell? ⟨w2.heap.size, 1, none⟩ = some (.int .i64 0) := (hb4.cell (p := ⟨w2.heap.size, 1, none⟩) hsz3).trans Hc3.out.2
            have hfr4 : w4.frozen? ⟨w2.heap.size, 1, none⟩ = false := free_of ((hb4.block w2.heap.size hsz3).trans Hk3.out) 1
            have Hw4 := Lib.hid (Hw3.out.trans (hb4.mono (by omega)))
            have Hb4 := Lib.hid (Hbel.out.trans (Hw4.out.mono hsz))
            clear hb4
            rcases hways with ⟨h9, rfl⟩ | ⟨h9, h10, rfl⟩ | ⟨h9, ⟨h10, h11⟩, rfl⟩
            · have HR2 := hbad h9
              have h9' : (er2 != 0) = true := by simpa using h9
              clear hbad hgood hone hsok2 h9
              go_wp2_with fail
              go_ret3
              exact givesK HR2.out (OwnK.nil _ _) Hb4.out
            · subst h9
              have HR2 := hbad (by simp)
              clear hbad hgood hone hsok2
              by_cases h10' : v2 < 0
              · clear h10
                go_wp2_with fail
                go_ret3
                exact givesK HR2.out (OwnK.nil _ _) Hb4.out
              · have h12 : 65535 < v2 := by omega
                clear h10
                go_wp2_with fail
                go_ret3
                exact givesK HR2.out (OwnK.nil _ _) Hb4.out
            · subst h9
              have HR2 := hgood rfl
              have hpl2 := hsok2 rfl
              have g3 : ¬ v2 < 0 := by omega
              have g4 : ¬ 65535 < v2 := by omega
              clear hbad hgood hone hsok2
              have hkk : Below wr.heap.size wr (w4.setCell ⟨w2.heap.size, 1, none⟩ (.int .i64 v2)) := Hw4.out.setCell hsz2 _
              have Hkk := Lib.hid hkk
              have hss := size_setCell' w4 ⟨w2.heap.size, 1, none⟩ (.int .i64 v2)
              have hws : wr.heap.size ≤ w4.heap.size := Hw4.out.size
              have Hss := Lib.hid hss
              clear hkk hss
              go_wp2_with (at_builtin
                           have hkk : Below wr.heap.size wr ((w4.setCell ⟨w2.heap.size, 1, none⟩ (.int .i64 v2)).alloc (.cells #[.int .i64 v1, .int .i64 v2] 90)) := Hkk.out.alloc (by rw [Hss.out]; exact hws) _
                           refine appK rfl (.tmp 80) (.tmp 82) rfl w.heap.size _ p rfl (ownK_kept Hown.out hkk) (some ⟨w4.heap.size, 0, none⟩) 1 1 [(v1, v2)] rfl rfl (rds_new3 _ _ _ _ _) (by simp; omega) (by have := hkk.size; omega) ?_
                           intro v5 w5 hown5 hg5
                           have Hb5 := Lib.hid (ownK_below (ownK_kept Hown.out hkk) (Hbel.out.trans (hkk.mono hsz)) (Nat.le_refl _) (by have := hkk.size; omega) hg5)
                           have Hown5 := Lib.hid hown5
                           clear hown5 hg5 hkk)
              go_roundw
              case rel => exact ⟨k + 1, pl2, p ++ [(v1, v2)], by omega, by go_num, rfl, by omega, by simp [Hpk.out], by rw [Hq2.out]; exact HR2.out, Hown5.out, Hb5.out⟩
              case measure => simp [intOf]; omega
        · have hR := HR.out
          rw [after_end (by omega)] at hR
          have HR2 := Lib.hid hR
          clear hR HR
          go_wp2_with fail
          go_ret3
          exact givesK HR2.out Hown.out Hbel.out
  · have H := Lib.hid (getI_err h1)
    generalize getS l a = g at *
    obtain ⟨v, pl, er⟩ := g
    simp only at h1
    have h2 : (er != 0) = true := by simpa using h1
    unfold three at hg
    have Hg := Lib.hid hg
    clear hg h1
    go_enter Tryd.func51, Tryd.ntmps51
    go_wp2_with fail
    refine Calls.mono Hg.out ?_
    rintro e w1 ⟨rfl, hb1⟩
    have Hb1 := Lib.hid hb1
    clear hb1
    go_wp2_with fail
    go_ret3
    exact givesK H.out (OwnK.nil _ _) Hb1.out

end InsI
end Go.Proofs.YtaekdgbbopcpbaaDoor
