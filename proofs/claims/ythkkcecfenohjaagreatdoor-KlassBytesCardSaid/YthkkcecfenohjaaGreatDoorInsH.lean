/-
  ins.Get and the document's own, walked.
-/
import Derived.Test.YthkkcecfenohjaaGreatDoorInsG
namespace Go.Proofs.YthkkcecfenohjaaGreatDoor
namespace InsH
open Go.RowKit InsM Base InsA InsB Stru InsC BinM BinE BinPut BinGet Bin8 InsP InsG

theorem getI_err {l : List UInt8} {a : Int} (h : (getS l a).2.2 ≠ 0) : getI l a = ([], 0, (getS l a).2.2) := by unfold getI; rw [if_pos h]
theorem getI_big {l : List UInt8} {a : Int} (h : (getS l a).2.2 = 0) (h2 : (getS l a).1 < 0 ∨ 512 < (getS l a).1) : getI l a = ([], 0, 6) := by unfold getI; rw [if_neg (by omega), if_pos h2]
theorem getI_many {l : List UInt8} {a : Int} (h : (getS l a).2.2 = 0) (h2 : ¬ ((getS l a).1 < 0 ∨ 512 < (getS l a).1)) : getI l a = after [] (manyI l (getS l a).1.toNat (getS l a).2.1) := by
  unfold getI; rw [if_neg (by omega), if_neg h2, after_nil (fun h => many_err h)]
theorem after_end {l : List UInt8} {a : Int} {p : List InsT} {N k : Nat} (h : N - k = 0) : after p (manyI l (N - k) a) = (p, a, 0) := by
  rw [h]; simp [manyI, after]

set_option maxRecDepth 100000 in
set_option maxHeartbeats 4000000 in
theorem insGet_any (A : Option Addr) (l : List UInt8) (n cap : Nat) (a : Int) (w : World) (hl : Laid w) (hn : n = l.length) (hm : n ≤ maxLen) (ha0 : -9223372036854775808 ≤ a) (ha1 : a ≤ 9223372036854775807) (hr : Rds w A (cells8 l)) :
    Calls Tryz.prog 144 #[.slice A n cap, .int .i64 a] w (GivesK w (getI l a)) := by
  have hg := get_any A l n cap a w hn hm ha0 ha1 hr
  have hln : l.length ≤ 9223372036854775807 := by unfold maxLen at hm; omega
  have Hn := Lib.hid hn
  have Hr := Lib.hid hr
  have Hl := Lib.hid hl
  clear hn hr hl
  by_cases h1 : (getS l a).2.2 = 0
  · have hok := BinText.getS_ok h1
    by_cases h2 : (getS l a).1 < 0 ∨ 512 < (getS l a).1
    · have H := Lib.hid (getI_big h1 h2)
      generalize getS l a = g at *
      obtain ⟨v, pl, er⟩ := g
      simp only at h1 h2
      subst h1
      unfold three at hg
      have Hg := Lib.hid hg
      clear hg hok
      by_cases h3 : v < 0
      · clear h2
        go_enter Tryz.func144, Tryz.ntmps144
        go_wp2_with fail
        refine Calls.mono Hg.out ?_
        rintro e w' ⟨rfl, rfl⟩
        go_wp2_with fail
        go_ret3
        exact givesK H.out (OwnK.nil _ _) (Below.refl _ _)
      · have h4 : 512 < v := by omega
        clear h2
        go_enter Tryz.func144, Tryz.ntmps144
        go_wp2_with fail
        refine Calls.mono Hg.out ?_
        rintro e w' ⟨rfl, rfl⟩
        go_wp2_with fail
        go_ret3
        exact givesK H.out (OwnK.nil _ _) (Below.refl _ _)
    · have H := Lib.hid (getI_many h1 h2)
      generalize getI l a = R at *
      generalize getS l a = g at *
      obtain ⟨v, pl, er⟩ := g
      simp only at h1 h2 hok H
      subst h1
      obtain ⟨N, rfl⟩ : ∃ N : Nat, v = (N : Int) := ⟨v.toNat, by omega⟩
      rw [Int.toNat_natCast] at H
      have hN : N ≤ 512 := by omega
      unfold three at hg
      have Hg := Lib.hid hg
      have h3 : ¬ (N : Int) < 0 := by omega
      have h4 : ¬ 512 < (N : Int) := by omega
      obtain ⟨hp0, hp1, _, _⟩ := hok
      clear hg h2
      go_enter Tryz.func144, Tryz.ntmps144
      go_wp2_with fail
      refine Calls.mono Hg.out ?_
      rintro e w' ⟨rfl, rfl⟩
      go_wp2_with fail
      go_loopw [1, 9, 10, 11, 12, 30] (fun at_ o _ _ _ i wr => InsG.Rel w l R N at_ o i wr) (fun _ _ _ _ _ i _ => N - (intOf i).toNat)
      case atStart => exact ⟨0, pl, [], Nat.zero_le _, rfl, rfl, by omega, rfl, H.out, OwnK.nil _ _, Below.refl _ _⟩
      case round =>
        obtain ⟨k, b, p, hk, rfl, rfl, ⟨hb0, hb1⟩, hpk, hR, hown, hbel⟩ := hrel
        have Hown := Lib.hid hown
        have Hbel := Lib.hid hbel
        have HR := Lib.hid hR
        have hsz := hbel.size
        have hpl : p.length ≤ k := Nat.le_of_eq hpk
        have Hpk := Lib.hid hpk
        have Hl2 := Lib.hid (Hl.out.below hbel Hl.out.1)
        have Hr2 := Lib.hid (Hr.out.below hbel)
        clear hown hbel hR hpk
        by_cases hlt : k < N
        · obtain ⟨q, hq⟩ : ∃ q, N - k = q + 1 := ⟨N - k - 1, by omega⟩
          have hq2 : N - (k + 1) = q := by omega
          have hR := HR.out
          rw [hq] at hR
          have hone := oneI_ok (l := l) (a := b)
          by_cases h5 : (oneI l b).2.2 = 0
          · rw [after_ok h5] at hR
            have hpl2 := hone h5
            generalize hO : oneI l b = O at *
            obtain ⟨⟨op, ar⟩, pl2, er2⟩ := O
            simp only at h5 hR hpl2
            subst h5
            have HO := Lib.hid hO
            have HR2 := Lib.hid hR
            have Hq2 := Lib.hid hq2
            clear hO hR hone HR hq hq2
            go_wp2_with fail
            refine (getOne_any A l n cap b wr Hl2.out Hn.out hm hb0 hb1 Hr2.out).mono ?_
            rw [HO.out]
            unfold oneV
            rintro e w1 ⟨rfl, hb1'⟩
            have Hw1 := Lib.hid (hb1'.alloc hb1'.size (.cells #[.int .i64 op, .int .i64 ar] 95))
            have Hb1 := Lib.hid (Hbel.out.trans (hb1'.mono hsz))
            have hsz1 := Hb1.out.size
            have hsz1' := hb1'.size
            clear hb1'
            go_wp2_with (at_builtin
                         have hkk : Below wr.heap.size wr ((w1.alloc (.cells #[.int .i64 op, .int .i64 ar] 95)).alloc (.cells #[.int .i64 op, .int .i64 ar] 95)) := Hw1.out.alloc (by simp; omega) _
                         refine appK rfl (.tmp 42) (.tmp 44) rfl w.heap.size _ p rfl (ownK_kept Hown.out hkk) (some ⟨w1.heap.size + 1, 0, none⟩) 1 1 [(op, ar)] rfl rfl (rds_new2 _ _ _ _) (by simp; omega) (by simp; omega) ?_
                         intro v2 w2 hown2 hg2
                         have Hb3 := Lib.hid (ownK_below (ownK_kept Hown.out hkk) (Hbel.out.trans (hkk.mono hsz)) (Nat.le_refl _) (by simp; omega) hg2)
                         have Hown2 := Lib.hid hown2
                         clear hown2 hg2 hkk)
            go_roundw
            case rel => exact ⟨k + 1, pl2, p ++ [(op, ar)], by omega, by go_num, rfl, by omega, by simp [Hpk.out], by rw [Hq2.out]; exact HR2.out, Hown2.out, Hb3.out⟩
            case measure => simp [intOf]; omega
          · rw [after_err h5] at hR
            generalize hO : oneI l b = O at *
            obtain ⟨⟨op, ar⟩, pl2, er2⟩ := O
            simp only at h5 hR
            have h6 : (er2 != 0) = true := by simpa using h5
            have HO := Lib.hid hO
            have HR2 := Lib.hid hR
            clear hO hR hone HR hq hq2 h5
            go_wp2_with fail
            refine (getOne_any A l n cap b wr Hl2.out Hn.out hm hb0 hb1 Hr2.out).mono ?_
            rw [HO.out]
            unfold oneV
            rintro e w1 ⟨rfl, hb1'⟩
            have hsz1' := hb1'.size
            have Hb1 := Lib.hid ((Hbel.out.trans (hb1'.mono hsz)).alloc (by omega) (.cells #[.int .i64 op, .int .i64 ar] 95))
            clear hb1'
            go_wp2_with fail
            go_ret3
            exact givesK HR2.out (OwnK.nil _ _) Hb1.out
        · have hR := HR.out
          rw [after_end (by omega)] at hR
          have HR2 := Lib.hid hR
          clear hR HR
          go_wp2_with fail
          go_ret3
          exact givesK HR2.out Hown.out Hbel.out
  · have H := Lib.hid (getI_err h1)
    generalize getS l a = g at *
    obtain ⟨v, pl, er⟩ := g
    simp only at h1
    have h2 : (er != 0) = true := by simpa using h1
    unfold three at hg
    have Hg := Lib.hid hg
    clear hg h1
    go_enter Tryz.func144, Tryz.ntmps144
    go_wp2_with fail
    refine Calls.mono Hg.out ?_
    rintro e w' ⟨rfl, rfl⟩
    go_wp2_with fail
    go_ret3
    exact givesK H.out (OwnK.nil _ _) (Below.refl _ _)

end InsH
end Go.Proofs.YthkkcecfenohjaaGreatDoor
