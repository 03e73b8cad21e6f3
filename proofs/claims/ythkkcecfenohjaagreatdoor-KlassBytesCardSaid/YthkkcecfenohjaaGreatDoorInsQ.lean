/-
  ins.Put and the document's own, walked.
-/
import Derived.Test.YthkkcecfenohjaaGreatDoorPutR
namespace Go.Proofs.YthkkcecfenohjaaGreatDoor
namespace InsQ
open Go.RowKit InsM Base InsA InsB Stru InsC BinM BinE BinPut Bin8 BinAll Cat InsP
open RefPut (refPut_any)

set_option maxRecDepth 100000 in
set_option maxHeartbeats 4000000 in
theorem put_any (B : Option Addr) (mb cb : Nat) (b : List UInt8) (A : Option Addr) (m c : Nat) (l : List InsT) (w : World) (hl : Laid w) (hbm : mb = b.length) (hbr : Rds w B (cells8 b)) (hbl : mb ≤ 140737489388000) (h : IsCode w A m c l) :
    Calls Tryz.prog 118 #[.slice B mb cb, .slice A m c] w (Gives8N w (putI b l)) := by
  obtain ⟨hm, hle, hmx, hr, hfit⟩ := h
  have hml : l.length ≤ m := Nat.le_of_eq hm.symm
  have hml2 : m ≤ l.length := Nat.le_of_eq hm
  unfold maxLen at hmx
  have Hl := Lib.hid hl
  have Hbm := Lib.hid hbm
  have Hbr := Lib.hid hbr
  have Hr := Lib.hid hr
  have Hm := Lib.hid hm
  have Hfit := Lib.hid hfit
  clear hm hr hl hbm hbr hfit
  by_cases hs : 512 < l.length
  · have H := Lib.hid (put_size (b := b) hs)
    have hs' : 512 < m := by omega
    go_enter Tryz.func118, Tryz.ntmps118
    go_wp2
    go_ret2
    exact gives8N H.out (Own8.nil _ _) (Below.refl _ _)
  · have hs' : ¬ 512 < m := by omega
    have hl5 : l.length ≤ 512 := by omega
    have Ho1 := Lib.hid (own_one w (m : Int))
    go_enter Tryz.func118, Tryz.ntmps118
    go_wp2
    go_loopw [6, 8, 9, 18] (fun o _ _ i wr => InsP.Rel w l o i wr) (fun _ _ _ i _ => m - (intOf i).toNat)
    case atStart => exact ⟨0, Nat.zero_le _, rfl, fun j _ hj => absurd hj (by omega), by have := Ho1.out; rw [Hm.out] at this ⊢; simpa [codeN] using this, (Below.refl _ _).alloc (Nat.le_refl _) _⟩
    case round =>
      obtain ⟨k, hk, rfl, hb, hown, hbel⟩ := hrel
      have Hb := Lib.hid hb
      have Hbel := Lib.hid hbel
      have Hown := Lib.hid hown
      have hsz := hbel.size
      have hcl : (codeN l.length (l.take k)).length ≤ 2 * k + 1 := by
        have := codeN_len l.length (l.take k)
        have h2 : (l.take k).length ≤ k := by simp; omega
        omega
      clear hb hbel hown
      by_cases hlt : k < l.length
      · obtain ⟨bb, o, rfl, hbk, hc0, hc1⟩ := code_at (Hr.out.below Hbel.out) hlt
        have Hct := Lib.hid (codeN_take (n := l.length) hlt)
        have Hbad := Lib.hid (fun hbad : putOk l[k] = false => put_bad (b := b) hs hlt hbad)
        have Hgood := Lib.hid (fun hgood : putOk l[k] = true => (show (∀ j (hj : j < l.length), j < k + 1 → putOk l[j] = true) from fun j hj hjk => by
          rcases Nat.lt_succ_iff_lt_or_eq.1 hjk with h | h
          · exact Hb.out j hj h
          · subst h; exact hgood))
        generalize hx : l[k] = x at *
        obtain ⟨op, a⟩ := x
        clear hx
        simp only at hc0 hc1
        have hcases := ok_cases op a
        generalize hpp : codeN l.length (l.take k) = p at *
        have Hpp := Lib.hid hpp
        clear hpp
        obtain ⟨K, hK⟩ : ∃ K, K = kindI op := ⟨_, rfl⟩
        rw [← hK] at hcases
        have HK := Lib.hid hK
        clear hK
        have Hl2 := Lib.hid (Hl.out.below (Hbel.out.alloc hsz (.cells #[.int .i64 op, .int .i64 a] 95)) Hl.out.1)
        have Hb2 := Lib.hid (Hbel.out.alloc hsz (.cells #[.int .i64 op, .int .i64 a] 95))
        rcases hcases with ⟨rfl, hok⟩ | ⟨hK0, hK7, ha, hok⟩ | ⟨rfl, ha, hok⟩ | ⟨rfl, rfl, hok, hin⟩ | ⟨hK0, hK7, ha, hok, hin⟩
        · have H := Lib.hid (Hbad.out hok)
          clear hok hs
          go_wp2_with (go_at_call 113; refine (kind_any _ _ Hl2.out).mono ?_; rw [← HK.out]; rintro e w' ⟨rfl, rfl⟩)
          go_ret2
          exact gives8N H.out (Own8.nil _ _) Hb2.out
        · have H := Lib.hid (Hbad.out hok)
          have g1 : (K == -1) = false := by simp; omega
          have g2 : decide (a < 0) = true := decide_eq_true ha
          clear hok hs
          go_wp2_with (go_at_call 113; refine (kind_any _ _ Hl2.out).mono ?_; rw [← HK.out]; rintro e w' ⟨rfl, rfl⟩)
          go_ret2
          exact gives8N H.out (Own8.nil _ _) Hb2.out
        · have H := Lib.hid (Hbad.out hok)
          have g2 : ¬ a < 0 := by omega
          have g3 : (a != 0) = true := by simp; omega
          clear hok hs
          go_wp2_with (go_at_call 113; refine (kind_any _ _ Hl2.out).mono ?_; rw [← HK.out]; rintro e w' ⟨rfl, rfl⟩)
          go_ret2
          exact gives8N H.out (Own8.nil _ _) Hb2.out
        · have H := Lib.hid (Hgood.out hok)
          have Hin := Lib.hid hin
          clear hok hin hs
          go_wp2_with (first
            | (go_at_call 113; refine (kind_any _ _ Hl2.out).mono ?_; rw [← HK.out]; rintro e w' ⟨rfl, rfl⟩)
            | (at_builtin
               refine appI rfl (.tmp 41) (.tmp 44) rfl w.heap.size _ p rfl (ownI_kept Hown.out (((Below.refl wr.heap.size wr).alloc (Nat.le_refl _) _).alloc (by simp) _)) (some ⟨wr.heap.size + 1, 0, none⟩) 1 1 [op] rfl rfl (rds_new2 _ _ _ _) (by simp; omega) (by simp; omega) ?_
               intro v2 w2 hown2 hg2
               have Hb3 := Lib.hid (ownI_below (ownI_kept Hown.out (((Below.refl wr.heap.size wr).alloc (Nat.le_refl _) _).alloc (by simp) _)) (Hb2.out.alloc (by simp; omega) _) (Nat.le_refl _) (by simp; omega) hg2)
               have Hown2 := Lib.hid hown2
               clear hown2 hg2))
          go_roundw
          case rel => exact ⟨k + 1, by omega, by go_num, H.out, by rw [Hct.out, Hin.out]; exact Hown2.out, Hb3.out⟩
          case measure => simp [intOf]; omega
        · have H := Lib.hid (Hgood.out hok)
          have Hin := Lib.hid hin
          have g1 : (K == -1) = false := by simp; omega
          have g2 : ¬ a < 0 := by omega
          have g3 : (K == 0) = false := by simp; omega
          have g4 : (K != 0) = true := by simp; omega
          clear hok hin hs
          go_wp2_with (first
            | (go_at_call 113; refine (kind_any _ _ Hl2.out).mono ?_; rw [← HK.out]; rintro e w' ⟨rfl, rfl⟩)
            | (at_builtin
               refine appI rfl (.tmp 48) (.tmp 51) rfl w.heap.size _ (p ++ [op]) rfl (ownI_kept Hown2.out ((Below.refl w2.heap.size w2).alloc (Nat.le_refl _) _)) (some ⟨w2.heap.size, 0, none⟩) 1 1 [a] rfl rfl (rds_new _ _ _) (by simp; omega) (by simp; omega) ?_
               intro v3 w3 hown3 hg3
               have Hb4 := Lib.hid (ownI_below (ownI_kept Hown2.out ((Below.refl w2.heap.size w2).alloc (Nat.le_refl _) _)) (Hb3.out.alloc hsz2 _) (Nat.le_refl _) (by simp; omega) hg3)
               have Hown3 := Lib.hid hown3
               clear hown3 hg3)
            | (at_builtin
               refine appI rfl (.tmp 41) (.tmp 44) rfl w.heap.size _ p rfl (ownI_kept Hown.out (((Below.refl wr.heap.size wr).alloc (Nat.le_refl _) _).alloc (by simp) _)) (some ⟨wr.heap.size + 1, 0, none⟩) 1 1 [op] rfl rfl (rds_new2 _ _ _ _) (by simp; omega) (by simp; omega) ?_
               intro v2 w2 hown2 hg2
               have Hb3 := Lib.hid (ownI_below (ownI_kept Hown.out (((Below.refl wr.heap.size wr).alloc (Nat.le_refl _) _).alloc (by simp) _)) (Hb2.out.alloc (by simp; omega) _) (Nat.le_refl _) (by simp; omega) hg2)
               have hsz2 := Hb3.out.size
               have hca := (keep2 hg2 (fun g hg => (Hown.out.lt g hg).2)).2
               have Hown2 := Lib.hid hown2
               clear hown2 hg2))
          go_roundw
          case rel => exact ⟨k + 1, by omega, by go_num, H.out, by rw [Hct.out, Hin.out]; have := Hown3.out; simpa using this, Hb4.out⟩
          case measure => simp [intOf]; omega
      · have e : l.take k = l := List.take_of_length_le (by omega)
        have H := Lib.hid (put_good (b := b) hs (fun j hj => Hb.out j hj (by omega)))
        have hown := Hown.out
        rw [e] at hown hcl
        obtain ⟨A2, c2, rfl, h1, h2, hr2⟩ := OwnI.slice hown
        have hfit2 := codeN_fit (n := l.length) hl5 Hfit.out
        have hkl : k = l.length := by omega
        generalize hq : codeN l.length l = N at *
        have Hq := Lib.hid hq
        have Hints : Hid (IsInts wr A2 N.length c2 N) := (⟨rfl, h1, h2, hr2, hfit2⟩ : IsInts wr A2 N.length c2 N)
        have hnl := nums_len N hfit2
        have hN5 : N.length ≤ 1025 := by omega
        generalize hqq : N.length = q at *
        have Hqq := Lib.hid hqq
        clear hq e hown hr2 hfit2 Hown hs hqq h1 h2 hkl
        go_wp2_with fail
        refine (all_any A2 N q c2 wr Hints.out (by omega)).mono ?_
        rintro e w1 ⟨v1, rfl, hown1, hb1⟩
        obtain ⟨A3, c3, rfl, h3, h4, hr3, _⟩ := Own8.slice hown1
        have Hr3 := Lib.hid hr3
        have Hb1 := Lib.hid (Hbel.out.trans (hb1.mono hsz))
        have hsz1 := Hb1.out.size
        clear hown1 hr3 hb1 h3 h4
        generalize hq3 : (nums N).length = q3 at *
        have Hq3 := Lib.hid hq3
        clear hq3
        have hB2 := (Below.refl w1.heap.size w1).alloc (Nat.le_refl _) (.cells #[.slice B mb cb, .slice A3 q3 c3] 33)
        have HB2 := Lib.hid (Hb1.out.alloc hsz1 (.cells #[.slice B mb cb, .slice A3 q3 c3] 33))
        have HR0 := Lib.hid (Hbr.out.below HB2.out)
        have HR1 := Lib.hid (Hr3.out.below hB2)
        clear hB2
        go_wp2_with fail
        refine (concat_any w1.heap.size B A3 mb cb q3 c3 b (nums N) 2 _ (by simp) ?_ ?_ Hbm.out Hq3.out.symm HR0.out HR1.out (by omega)).mono ?_
        · rw [cell_of_row _ _ 0 _ 33 (0, 0) (heap_alloc_new w1 _)]; rfl
        · rw [cell_of_row _ _ 1 _ 33 (0, 0) (heap_alloc_new w1 _)]; rfl
        rintro e w4 ⟨v4, rfl, hown4, hb4⟩
        have Hown4 := Lib.hid (own_mono hown4 (show w.heap.size ≤ (w1.alloc (.cells #[.slice B mb cb, .slice A3 q3 c3] 33)).heap.size by simp; omega))
        have Hb4 := Lib.hid (HB2.out.trans (hb4.mono (by simp; omega)))
        clear hown4 hb4
        go_wp2_with fail
        go_ret2
        exact gives8N (by rw [H.out]) Hown4.out Hb4.out

end InsQ
end Go.Proofs.YthkkcecfenohjaaGreatDoor
