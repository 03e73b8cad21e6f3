/-
  The law PoolOnes, walked: for all bytes, every constant and every place it returns true, and nothing that was there is written.
-/
import Derived.Test.YtnkkeifjggcncaaDoorPoolX
import Derived.Test.YtnkkeifjggcncaaDoorPoolY
import Derived.Test.YtnkkeifjggcncaaDoorPoolZ
namespace Go.Proofs.YtnkkeifjggcncaaDoor
namespace WPoolOnes
open Go.RowKit Base BinM BinE BinGet BinText BinPut Bin8 DescM DescP DescQ Stru PoolM PoolA PoolB PoolC PoolD PoolE PoolN PoolR PoolX PoolS PoolT PoolU PoolV PoolZ PoolY
open RefGet (text_q)

theorem get_fit (b : List UInt8) (a : Int) : fitI (getC b a).1.kind ∧ fitI (getC b a).1.n := by
  have h0 : fitI noneC.kind ∧ fitI noneC.n := ⟨by unfold fitI noneC; simp, by unfold fitI noneC; simp⟩
  unfold getC
  split
  · exact h0
  · split
    · exact h0
    · rename_i h1 h2
      have hk := h2
      have hfirst : fitI (firstC (getS b a).1 b (getS b a).2.1).1.kind ∧ fitI (firstC (getS b a).1 b (getS b a).2.1).1.n := by
        generalize (getS b a).1 = k at *
        generalize (getS b a).2.1 = p
        have hn := getS_num (l := b) (a := p)
        unfold firstC
        split
        · exact ⟨by unfold fitI; simp, hn⟩
        · split
          · exact ⟨by unfold fitI; simp, by unfold fitI; simp⟩
          · split
            · exact ⟨by unfold fitI; simp, by unfold fitI; simp⟩
            · unfold getM
              split
              · exact h0
              · split
                · exact h0
                · split
                  · exact h0
                  · exact ⟨by unfold fitI; simp only; omega, by unfold fitI; simp⟩
      unfold finC
      split
      · exact h0
      · split
        · exact hfirst
        · exact h0
theorem box_keep {w w' : World} {g : Nat} {k n : Int} {s t u : List UInt8} (h : boxC w g k n s t u) (hb : Below w.heap.size w w') : boxC w' g k n s t u := h.after hb
theorem eq_self (k n : Int) (s t u : List UInt8) (W : World) : (binOp .eql 24 (.agg #[.int .i64 k, .int .i64 n, .string ⟨s.toArray⟩, .string ⟨t.toArray⟩, .string ⟨u.toArray⟩]) (.agg #[.int .i64 k, .int .i64 n, .string ⟨s.toArray⟩, .string ⟨t.toArray⟩, .string ⟨u.toArray⟩])).run Tryd.prog W = .ok (.bool true) W := by
  rw [eql_cst, same_refl]
theorem ne_self (k n : Int) (s t u : List UInt8) (W : World) : (binOp .neq 24 (.agg #[.int .i64 k, .int .i64 n, .string ⟨s.toArray⟩, .string ⟨t.toArray⟩, .string ⟨u.toArray⟩]) (.agg #[.int .i64 k, .int .i64 n, .string ⟨s.toArray⟩, .string ⟨t.toArray⟩, .string ⟨u.toArray⟩])).run Tryd.prog W = .ok (.bool false) W := by
  rw [neq_cst, same_refl]; rfl

set_option maxRecDepth 100000 in
set_option maxHeartbeats 16000000 in
theorem walk (a0 : Option Addr) (m0 c0 : Nat) (l : List UInt8) (k n : Int) (s t u : List UInt8) (a : Int) (w : World) (w0 : IsBytes w a0 m0 c0 l) (b0 : c0 ≤ 140737488351232) (fk : fitI k) (fn : fitI n) (bs : s.length ≤ 140737488351232) (bt : t.length ≤ 140737488351232) (bu : u.length ≤ 140737488351232) (w2 : (Lit.int .i64 a).wf = true) :
    Calls Tryd.prog 3 #[.slice a0 m0 c0, .agg #[.int .i64 k, .int .i64 n, .string ⟨s.toArray⟩, .string ⟨t.toArray⟩, .string ⟨u.toArray⟩], .int .i64 a] w fun e w' => e = .returned (.bool true) ∧ Below w.heap.size w w' := by
  obtain ⟨hm0, hmc, hcm, hrd⟩ := w0
  have ha : -9223372036854775808 ≤ a ∧ a ≤ 9223372036854775807 := by
    simp [Lit.wf, IntKind.min, IntKind.max, IntKind.bits, IntKind.signed] at w2
    omega
  have HB := Lib.hid ((Below.refl w.heap.size w).alloc (Nat.le_refl _) (.cells #[.int .i64 k, .int .i64 n, .string ⟨s.toArray⟩, .string ⟨t.toArray⟩, .string ⟨u.toArray⟩] 24))
  have Hbox := Lib.hid (boxC.new w k n s t u 24)
  have Hl := Lib.hid hm0
  have Hr0 := Lib.hid hrd
  have hm0l : m0 ≤ 140737488351232 := Nat.le_trans hmc b0
  have Hfit := Lib.hid (get_fit l a)
  have Hgb := Lib.hid (fun h => get_bytes (b := l) (a := a) h)
  have hlent := lent_any a0 l m0 c0 (w.alloc (.cells #[.int .i64 k, .int .i64 n, .string ⟨s.toArray⟩, .string ⟨t.toArray⟩, .string ⟨u.toArray⟩] 24)) hm0 (by omega) (hrd.below HB.out)
  have Hlent := Lib.hid hlent
  clear hm0 hrd w2 hlent

  have hll : l.length ≤ 140737488351232 := by have := Hl.out; omega
  have hput := fun (A : Option Addr) (m c : Nat) (W : World) (hm : m = l.length) (hr : Rds W A (cells8 l)) => poolPut_any A m c l k n s t u W hm hr (by omega) fk fn (by omega) (by omega) (by omega)
  have hrput := fun (A : Option Addr) (m c : Nat) (W : World) (hm : m = l.length) (hr : Rds W A (cells8 l)) => poolRefPut_any A m c l k n s t u W hm hr (by omega) fk fn (by omega) (by omega) (by omega)
  have hget := fun (A : Option Addr) (c : Nat) (W : World) (h : m0 ≤ c) (hc : c ≤ maxLen) (hr : Rds W A (cells8 l)) => poolGet_any A l m0 c a W Hl.out h hc ha.1 ha.2 hr
  have hrget := fun (A : Option Addr) (c : Nat) (W : World) (h : m0 ≤ c) (hc : c ≤ maxLen) (hr : Rds W A (cells8 l)) => poolRefGet_any A l m0 c a W Hl.out h hc ha.1 ha.2 hr
  generalize getC l a = G at *
  obtain ⟨⟨k', n', s', t', u'⟩, p', e'⟩ := G
  unfold GivesC cst3 cstV at hget hrget
  simp only at hget hrget Hfit Hgb
  have Hget := Lib.hid hget
  have Hrget := Lib.hid hrget
  clear hget hrget
  by_cases he : e' = 0
  · subst he
    obtain ⟨hrt', p, r, hl, hap, hpp⟩ := Hgb.out rfl
    have hput2 := fun (W : World) => poolPut_any none 0 0 [] k' n' s' t' u' W rfl (.inl rfl) (by omega) Hfit.out.1 Hfit.out.2 (by have := (PoolL.right_len hrt').1; omega) (by have := (PoolL.right_len hrt').2.1; omega) (by have := (PoolL.right_len hrt').2.2; omega)
    rw [put_yes hrt', List.nil_append] at hput2
    generalize bytesC ⟨k', n', s', t', u'⟩ = Y at *
    have hpv : p.length + Y.length ≤ m0 := by rw [Hl.out, hl]; simp
    have Hcut := Lib.hid (show (l.drop p.length).take Y.length = Y by rw [hl]; simp)
    have Hput2 := Lib.hid hput2
    rw [List.length_append, Int.natCast_add] at hpp
    subst hap hpp
    clear hl hrt' hput2 Hgb
    cases hrt : rightC ⟨k, n, s, t, u⟩
    · have Hrt := Lib.hid hrt
      obtain ⟨X, hX⟩ : ∃ X : List UInt8, X = [] := ⟨_, rfl⟩
      rw [put_no hrt, ← hX] at hput hrput
      have Hput := Lib.hid hput
      have Hrput := Lib.hid hrput
      clear hput hrput hrt hX hll
      go_enter Tryd.func3, Tryd.ntmps3
      go_wp2_with fail
      refine Calls.mono Hlent.out ?_
      rintro e w1 ⟨v1, rfl, hown1, hb1⟩
      obtain ⟨Ao, co, rfl, ho1, ho2, hro, _⟩ := Own8.slice (p := l) hown1
      rw [← Hl.out] at ho1
      rw [← Hl.out]
      have Hb1 := Lib.hid (HB.out.trans (hb1.mono (by simp)))
      obtain ⟨hc0, hc1, hc2, hc3, hc4⟩ := box_keep Hbox.out hb1
      have Hbox1 := Lib.hid (box_keep Hbox.out hb1)
      have hg1 : w.heap.size < w1.heap.size := World.block_lt_of_cell? w1 ⟨w.heap.size, 0, none⟩ hc0
      have Hro1 := Lib.hid hro
      have Hrb1 := Lib.hid ((Hr0.out.below HB.out).below hb1)
      clear hown1 hb1 hro
      go_wp2_with fail
      refine Calls.mono (Hput.out Ao m0 co w1 Hl.out Hro1.out) ?_
      rintro e w2 ⟨v2, rfl, hown2, hb2⟩
      simp only at hown2
      obtain ⟨Ax, cx, rfl, hx1, hx2, hrx, _⟩ := Own8.slice (p := X) hown2
      have Hb2 := Lib.hid (Hb1.out.trans (hb2.mono Hb1.out.size))
      have Hbox2 := Lib.hid (box_keep Hbox1.out hb2)
      clear hc0 hc1 hc2 hc3 hc4
      obtain ⟨hc0, hc1, hc2, hc3, hc4⟩ := Hbox2.out
      have Hro2 := Lib.hid (Hro1.out.below hb2)
      have Hrb2 := Lib.hid (Hrb1.out.below hb2)
      have Hrx2 := Lib.hid hrx
      clear hown2 hb2 hrx
      go_wp2_with fail
      refine Calls.mono (Hrput.out a0 m0 c0 w2 Hl.out Hrb2.out) ?_
      rintro e w3 ⟨v3, rfl, hown3, hb3⟩
      simp only at hown3
      obtain ⟨Ay, cy, rfl, hy1, hy2, hry, _⟩ := Own8.slice (p := X) hown3
      have Hb3 := Lib.hid (Hb2.out.trans (hb3.mono Hb2.out.size))
      have Hbox3 := Lib.hid (box_keep Hbox2.out hb3)
      clear hc0 hc1 hc2 hc3 hc4
      obtain ⟨hc0, hc1, hc2, hc3, hc4⟩ := Hbox3.out
      have Hro3 := Lib.hid (Hro2.out.below hb3)
      have Hrb3 := Lib.hid (Hrb2.out.below hb3)
      have Hrx3 := Lib.hid (Hrx2.out.below hb3)
      have Hry3 := Lib.hid hry
      clear hown3 hb3 hry
      have hcx := text_q w3 rfl Hrx3.out cx
      have hcy := text_q w3 rfl Hry3.out cy
      have hcx' := text_q w3.drew rfl Hrx3.out.drew cx
      have hcy' := text_q w3.drew rfl Hry3.out.drew cy
      have hB0 := Below.refl w3.heap.size w3
      have hB1 := hB0.drew
      go_wp2_with fail
      go_region_held3 (fun w' => w'.cell? ⟨w.heap.size, 0, none⟩ = some (.int .i64 k) ∧ w'.cell? ⟨w.heap.size, 1, none⟩ = some (.int .i64 n) ∧ w'.cell? ⟨w.heap.size, 2, none⟩ = some (.string ⟨s.toArray⟩) ∧ w'.cell? ⟨w.heap.size, 3, none⟩ = some (.string ⟨t.toArray⟩) ∧ w'.cell? ⟨w.heap.size, 4, none⟩ = some (.string ⟨u.toArray⟩) ∧ (convert 22 9 (.slice Ax X.length cx)).run Tryd.prog w' = .ok (.string ⟨X.toArray⟩) w' ∧ (convert 22 9 (.slice Ay X.length cy)).run Tryd.prog w' = .ok (.string ⟨X.toArray⟩) w' ∧ Below w3.heap.size w3 w')
        (first | go_keep)
        (first
          | (go_at_call 11
             refine (names_any k n s t u _ (by omega) (by omega) (by omega)).mono ?_
             rintro e wm ⟨Am, cm, rfl, hm1, hm2, hmr, hbm⟩
             have hBm := Below.trans (B := w3.heap.size) (by assumption) (hbm.mono (Below.size (by assumption)))
             obtain ⟨hdm0, hdm1, hdm2, hdm3, hdm4⟩ := box_keep Hbox3.out hBm
             have hdxm := text_q wm rfl (Hrx3.out.below hBm) cx
             have hdym := text_q wm rfl (Hry3.out.below hBm) cy
             have Hnm := Lib.hid hmr
             clear hmr)
          | (go_at_call 12
             refine (refNames_any k n s t u _ (by omega) (by omega) (by omega)).mono ?_
             rintro e wn ⟨An, cn, rfl, hn1, hn2, hnr, hbn⟩
             have hBn := Below.trans (B := w3.heap.size) (by assumption) (hbn.mono (Below.size (by assumption)))
             obtain ⟨hdn0, hdn1, hdn2, hdn3, hdn4⟩ := box_keep Hbox3.out hBn
             have hdxn := text_q wn rfl (Hrx3.out.below hBn) cx
             have hdyn := text_q wn rfl (Hry3.out.below hBn) cy
             have Hnn := Lib.hid hnr
             clear hnr)
          | (go_at_call 8
             refine (poolRight_any k n s t u _ (by omega) (by omega) (by omega)).mono ?_
             rw [Hrt.out]
             rintro e wp ⟨rfl, hbp⟩
             have hBp := Below.trans (B := w3.heap.size) (by assumption) (hbp.mono (Below.size (by assumption)))
             obtain ⟨hdp0, hdp1, hdp2, hdp3, hdp4⟩ := box_keep Hbox3.out hBp
             have hdxp := text_q wp rfl (Hrx3.out.below hBp) cx
             have hdyp := text_q wp rfl (Hry3.out.below hBp) cy
             clear hbp)
          | (go_at_call 9
             refine (poolRefRight_any k n s t u _ (by omega) (by omega) (by omega)).mono ?_
             rw [Hrt.out]
             rintro e wq ⟨rfl, hbq⟩
             have hBq := Below.trans (B := w3.heap.size) (by assumption) (hbq.mono (Below.size (by assumption)))
             obtain ⟨hdq0, hdq1, hdq2, hdq3, hdq4⟩ := box_keep Hbox3.out hBq
             have hdxq := text_q wq rfl (Hrx3.out.below hBq) cx
             have hdyq := text_q wq rfl (Hry3.out.below hBq) cy
             clear hbq)
          | (go_at_call 10
             refine (texts_any Am An (namesC ⟨k, n, s, t, u⟩) (namesC ⟨k, n, s, t, u⟩) _ _ cm cn _ rfl rfl (by omega) (by first | exact Hnm.out | exact Hnm.out.below (by assumption)) (by first | exact Hnn.out | exact Hnn.out.below (by assumption))).mono ?_
             rintro e wt ⟨rfl, hbt⟩
             have hBt := Below.trans (B := w3.heap.size) (by assumption) (hbt.mono (Below.size (by assumption)))
             obtain ⟨hdt0, hdt1, hdt2, hdt3, hdt4⟩ := box_keep Hbox3.out hBt
             have hdxt := text_q wt rfl (Hrx3.out.below hBt) cx
             have hdyt := text_q wt rfl (Hry3.out.below hBt) cy
             clear hbt))
      have Hb4 := Lib.hid (Hb3.out.trans (hBt.mono Hb3.out.size))
      have Hbox4 := Lib.hid (box_keep Hbox3.out hBt)
      have Hro4 := Lib.hid (Hro3.out.below hBt)
      have Hrb4 := Lib.hid (Hrb3.out.below hBt)
      have Hrx4 := Lib.hid (Hrx3.out.below hBt)
      clear hBp hBq hBm hBn hBt hbm hbn hdp0 hdp1 hdp2 hdp3 hdp4 hdq0 hdq1 hdq2 hdq3 hdq4 hdm0 hdm1 hdm2 hdm3 hdm4 hdn0 hdn1 hdn2 hdn3 hdn4 hdt0 hdt1 hdt2 hdt3 hdt4 hdxp hdyp hdxq hdyq hdxm hdym hdxn hdyn hdxt hdyt hcx hcy hcx' hcy' hc0 hc1 hc2 hc3 hc4 hB0 hB1
      have hg := guard_cst
      have hne := ne_self k' n' s' t' u'
      go_wp2_with fail
      refine Calls.mono (Hget.out Ao co wt ho1 ho2 Hro4.out) ?_
      rintro e w5 ⟨rfl, hb5⟩
      have Hb5 := Lib.hid ((Hb4.out.trans (hb5.mono Hb4.out.size)).alloc (by have := Hb4.out.size; have := hb5.size; omega) (.cells #[.int .i64 k', .int .i64 n', .string ⟨s'.toArray⟩, .string ⟨t'.toArray⟩, .string ⟨u'.toArray⟩] 24))
      have hk5 : Below wt.heap.size wt (w5.alloc (.cells #[.int .i64 k', .int .i64 n', .string ⟨s'.toArray⟩, .string ⟨t'.toArray⟩, .string ⟨u'.toArray⟩] 24)) := hb5.alloc hb5.size _
      have Hbox5 := Lib.hid (box_keep Hbox4.out hk5)
      have Hro5 := Lib.hid (Hro4.out.below hk5)
      have Hrb5 := Lib.hid (Hrb4.out.below hk5)
      have Hrx5 := Lib.hid (Hrx4.out.below hk5)
      have HboxD5 := Lib.hid (boxC.new w5 k' n' s' t' u' 24)
      clear hb5 hk5
      go_wp2_with fail
      refine Calls.mono (Hrget.out a0 c0 _ hmc hcm Hrb5.out) ?_
      rintro e w6 ⟨rfl, hb6⟩
      have Hb6 := Lib.hid ((Hb5.out.trans (hb6.mono Hb5.out.size)).alloc (by have := Hb5.out.size; have := hb6.size; omega) (.cells #[.int .i64 k', .int .i64 n', .string ⟨s'.toArray⟩, .string ⟨t'.toArray⟩, .string ⟨u'.toArray⟩] 24))
      have hk6 := hb6.alloc hb6.size (.cells #[.int .i64 k', .int .i64 n', .string ⟨s'.toArray⟩, .string ⟨t'.toArray⟩, .string ⟨u'.toArray⟩] 24)
      have Hbox6 := Lib.hid (box_keep Hbox5.out hk6)
      have Hro6 := Lib.hid (Hro5.out.below hk6)
      have Hrb6 := Lib.hid (Hrb5.out.below hk6)
      have Hrx6 := Lib.hid (Hrx5.out.below hk6)
      have HboxD6 := Lib.hid (box_keep HboxD5.out hk6)
      obtain ⟨hc0, hc1, hc2, hc3, hc4⟩ := HboxD6.out
      clear hb6 hk6
      have hkept := kept_any Ao a0 l l m0 m0 co c0 (w6.alloc (.cells #[.int .i64 k', .int .i64 n', .string ⟨s'.toArray⟩, .string ⟨t'.toArray⟩, .string ⟨u'.toArray⟩] 24)) Hl.out Hl.out Hro6.out Hrb6.out
      rw [decide_eq_true (rfl : l = l)] at hkept
      have Hkept := Lib.hid hkept
      clear hkept
      go_wp2_with fail
      refine Calls.mono Hkept.out ?_
      rintro e w7 ⟨rfl, rfl⟩
      go_wp2_with fail
      refine Calls.mono (Hput2.out _) ?_
      rintro e w8 ⟨v8, rfl, hown8, hb8⟩
      simp only at hown8
      obtain ⟨Az, cz, rfl, hz1, hz2, hrz, _⟩ := Own8.slice (p := Y) hown8
      have Hb8 := Lib.hid (Hb6.out.trans (hb8.mono Hb6.out.size))
      have Hbox8 := Lib.hid (box_keep Hbox6.out hb8)
      have Hrb8 := Lib.hid (Hrb6.out.below hb8)
      have Hrx8 := Lib.hid (Hrx6.out.below hb8)
      have hcz := fun q : Nat => text_q (w8.drewN q) rfl (hrz.drewN q) cz
      obtain ⟨Ac, hsl, hct⟩ := cut_text (cap := c0) (n := m0) (l := l) Hl.out hmc Hrb8.out (P := p.length) (V := Y.length) hpv
      rw [Hcut.out] at hct
      have hctq := fun q : Nat => hct (w8.drewN q) (Stru.drawn (Below.refl _ _) q)
      clear hown8 hb8 hct hrz hc0 hc1 hc2 hc3 hc4
      go_wp2_with fail
      go_quiet (fail)
      go_wp2_with fail
      refine (known_any _).mono ?_
      rintro e w9 ⟨rfl, hb9⟩
      have Hb9 := Lib.hid ((Stru.drawn Hb8.out _).trans (hb9.mono (Stru.drawn Hb8.out _).size))
      clear hb9
      go_wp2_with fail
      go_ret
      exact ⟨rfl, Hb9.out⟩
    · have Hrt := Lib.hid hrt
      have hback := get_back hrt fn l
      rw [put_yes hrt] at hput hrput
      generalize l ++ bytesC ⟨k, n, s, t, u⟩ = X at *
      have hget2 := fun (A : Option Addr) (c : Nat) (W : World) (h : X.length ≤ c) (hc : c ≤ maxLen) (hr : Rds W A (cells8 X)) => poolGet_any A X X.length c (m0 : Int) W rfl h hc (by omega) (by omega) hr
      rw [Hl.out, hback] at hget2
      unfold GivesC cst3 cstV at hget2
      rw [← Hl.out] at hget2
      have Hput := Lib.hid hput
      have Hrput := Lib.hid hrput
      have Hget2 := Lib.hid hget2
      clear hput hrput hrt hll hback hget2
      go_enter Tryd.func3, Tryd.ntmps3
      go_wp2_with fail
      refine Calls.mono Hlent.out ?_
      rintro e w1 ⟨v1, rfl, hown1, hb1⟩
      obtain ⟨Ao, co, rfl, ho1, ho2, hro, _⟩ := Own8.slice (p := l) hown1
      rw [← Hl.out] at ho1
      rw [← Hl.out]
      have Hb1 := Lib.hid (HB.out.trans (hb1.mono (by simp)))
      obtain ⟨hc0, hc1, hc2, hc3, hc4⟩ := box_keep Hbox.out hb1
      have Hbox1 := Lib.hid (box_keep Hbox.out hb1)
      have hg1 : w.heap.size < w1.heap.size := World.block_lt_of_cell? w1 ⟨w.heap.size, 0, none⟩ hc0
      have Hro1 := Lib.hid hro
      have Hrb1 := Lib.hid ((Hr0.out.below HB.out).below hb1)
      clear hown1 hb1 hro
      go_wp2_with fail
      refine Calls.mono (Hput.out Ao m0 co w1 Hl.out Hro1.out) ?_
      rintro e w2 ⟨v2, rfl, hown2, hb2⟩
      simp only at hown2
      obtain ⟨Ax, cx, rfl, hx1, hx2, hrx, _⟩ := Own8.slice (p := X) hown2
      have Hb2 := Lib.hid (Hb1.out.trans (hb2.mono Hb1.out.size))
      have Hbox2 := Lib.hid (box_keep Hbox1.out hb2)
      clear hc0 hc1 hc2 hc3 hc4
      obtain ⟨hc0, hc1, hc2, hc3, hc4⟩ := Hbox2.out
      have Hro2 := Lib.hid (Hro1.out.below hb2)
      have Hrb2 := Lib.hid (Hrb1.out.below hb2)
      have Hrx2 := Lib.hid hrx
      clear hown2 hb2 hrx
      go_wp2_with fail
      refine Calls.mono (Hrput.out a0 m0 c0 w2 Hl.out Hrb2.out) ?_
      rintro e w3 ⟨v3, rfl, hown3, hb3⟩
      simp only at hown3
      obtain ⟨Ay, cy, rfl, hy1, hy2, hry, _⟩ := Own8.slice (p := X) hown3
      have Hb3 := Lib.hid (Hb2.out.trans (hb3.mono Hb2.out.size))
      have Hbox3 := Lib.hid (box_keep Hbox2.out hb3)
      clear hc0 hc1 hc2 hc3 hc4
      obtain ⟨hc0, hc1, hc2, hc3, hc4⟩ := Hbox3.out
      have Hro3 := Lib.hid (Hro2.out.below hb3)
      have Hrb3 := Lib.hid (Hrb2.out.below hb3)
      have Hrx3 := Lib.hid (Hrx2.out.below hb3)
      have Hry3 := Lib.hid hry
      clear hown3 hb3 hry
      have hcx := text_q w3 rfl Hrx3.out cx
      have hcy := text_q w3 rfl Hry3.out cy
      have hcx' := text_q w3.drew rfl Hrx3.out.drew cx
      have hcy' := text_q w3.drew rfl Hry3.out.drew cy
      have hB0 := Below.refl w3.heap.size w3
      have hB1 := hB0.drew
      go_wp2_with fail
      go_region_held3 (fun w' => w'.cell? ⟨w.heap.size, 0, none⟩ = some (.int .i64 k) ∧ w'.cell? ⟨w.heap.size, 1, none⟩ = some (.int .i64 n) ∧ w'.cell? ⟨w.heap.size, 2, none⟩ = some (.string ⟨s.toArray⟩) ∧ w'.cell? ⟨w.heap.size, 3, none⟩ = some (.string ⟨t.toArray⟩) ∧ w'.cell? ⟨w.heap.size, 4, none⟩ = some (.string ⟨u.toArray⟩) ∧ (convert 22 9 (.slice Ax X.length cx)).run Tryd.prog w' = .ok (.string ⟨X.toArray⟩) w' ∧ (convert 22 9 (.slice Ay X.length cy)).run Tryd.prog w' = .ok (.string ⟨X.toArray⟩) w' ∧ Below w3.heap.size w3 w')
        (first | go_keep)
        (first
          | (go_at_call 11
             refine (names_any k n s t u _ (by omega) (by omega) (by omega)).mono ?_
             rintro e wm ⟨Am, cm, rfl, hm1, hm2, hmr, hbm⟩
             have hBm := Below.trans (B := w3.heap.size) (by assumption) (hbm.mono (Below.size (by assumption)))
             obtain ⟨hdm0, hdm1, hdm2, hdm3, hdm4⟩ := box_keep Hbox3.out hBm
             have hdxm := text_q wm rfl (Hrx3.out.below hBm) cx
             have hdym := text_q wm rfl (Hry3.out.below hBm) cy
             have Hnm := Lib.hid hmr
             clear hmr)
          | (go_at_call 12
             refine (refNames_any k n s t u _ (by omega) (by omega) (by omega)).mono ?_
             rintro e wn ⟨An, cn, rfl, hn1, hn2, hnr, hbn⟩
             have hBn := Below.trans (B := w3.heap.size) (by assumption) (hbn.mono (Below.size (by assumption)))
             obtain ⟨hdn0, hdn1, hdn2, hdn3, hdn4⟩ := box_keep Hbox3.out hBn
             have hdxn := text_q wn rfl (Hrx3.out.below hBn) cx
             have hdyn := text_q wn rfl (Hry3.out.below hBn) cy
             have Hnn := Lib.hid hnr
             clear hnr)
          | (go_at_call 8
             refine (poolRight_any k n s t u _ (by omega) (by omega) (by omega)).mono ?_
             rw [Hrt.out]
             rintro e wp ⟨rfl, hbp⟩
             have hBp := Below.trans (B := w3.heap.size) (by assumption) (hbp.mono (Below.size (by assumption)))
             obtain ⟨hdp0, hdp1, hdp2, hdp3, hdp4⟩ := box_keep Hbox3.out hBp
             have hdxp := text_q wp rfl (Hrx3.out.below hBp) cx
             have hdyp := text_q wp rfl (Hry3.out.below hBp) cy
             clear hbp)
          | (go_at_call 9
             refine (poolRefRight_any k n s t u _ (by omega) (by omega) (by omega)).mono ?_
             rw [Hrt.out]
             rintro e wq ⟨rfl, hbq⟩
             have hBq := Below.trans (B := w3.heap.size) (by assumption) (hbq.mono (Below.size (by assumption)))
             obtain ⟨hdq0, hdq1, hdq2, hdq3, hdq4⟩ := box_keep Hbox3.out hBq
             have hdxq := text_q wq rfl (Hrx3.out.below hBq) cx
             have hdyq := text_q wq rfl (Hry3.out.below hBq) cy
             clear hbq)
          | (go_at_call 10
             refine (texts_any Am An (namesC ⟨k, n, s, t, u⟩) (namesC ⟨k, n, s, t, u⟩) _ _ cm cn _ rfl rfl (by omega) (by first | exact Hnm.out | exact Hnm.out.below (by assumption)) (by first | exact Hnn.out | exact Hnn.out.below (by assumption))).mono ?_
             rintro e wt ⟨rfl, hbt⟩
             have hBt := Below.trans (B := w3.heap.size) (by assumption) (hbt.mono (Below.size (by assumption)))
             obtain ⟨hdt0, hdt1, hdt2, hdt3, hdt4⟩ := box_keep Hbox3.out hBt
             have hdxt := text_q wt rfl (Hrx3.out.below hBt) cx
             have hdyt := text_q wt rfl (Hry3.out.below hBt) cy
             clear hbt))
      have Hb4 := Lib.hid (Hb3.out.trans (hBt.mono Hb3.out.size))
      have Hbox4 := Lib.hid (box_keep Hbox3.out hBt)
      have Hro4 := Lib.hid (Hro3.out.below hBt)
      have Hrb4 := Lib.hid (Hrb3.out.below hBt)
      have Hrx4 := Lib.hid (Hrx3.out.below hBt)
      clear hBp hBq hBm hBn hBt hbm hbn hdp0 hdp1 hdp2 hdp3 hdp4 hdq0 hdq1 hdq2 hdq3 hdq4 hdm0 hdm1 hdm2 hdm3 hdm4 hdn0 hdn1 hdn2 hdn3 hdn4 hdt0 hdt1 hdt2 hdt3 hdt4 hdxp hdyp hdxq hdyq hdxm hdym hdxn hdyn hdxt hdyt hcx hcy hcx' hcy' hc0 hc1 hc2 hc3 hc4 hB0 hB1
      have hg := guard_cst
      have hne := ne_self k' n' s' t' u'
      go_wp2_with fail
      refine Calls.mono (Hget.out Ao co wt ho1 ho2 Hro4.out) ?_
      rintro e w5 ⟨rfl, hb5⟩
      have Hb5 := Lib.hid ((Hb4.out.trans (hb5.mono Hb4.out.size)).alloc (by have := Hb4.out.size; have := hb5.size; omega) (.cells #[.int .i64 k', .int .i64 n', .string ⟨s'.toArray⟩, .string ⟨t'.toArray⟩, .string ⟨u'.toArray⟩] 24))
      have hk5 : Below wt.heap.size wt (w5.alloc (.cells #[.int .i64 k', .int .i64 n', .string ⟨s'.toArray⟩, .string ⟨t'.toArray⟩, .string ⟨u'.toArray⟩] 24)) := hb5.alloc hb5.size _
      have Hbox5 := Lib.hid (box_keep Hbox4.out hk5)
      have Hro5 := Lib.hid (Hro4.out.below hk5)
      have Hrb5 := Lib.hid (Hrb4.out.below hk5)
      have Hrx5 := Lib.hid (Hrx4.out.below hk5)
      have HboxD5 := Lib.hid (boxC.new w5 k' n' s' t' u' 24)
      clear hb5 hk5
      go_wp2_with fail
      refine Calls.mono (Hrget.out a0 c0 _ hmc hcm Hrb5.out) ?_
      rintro e w6 ⟨rfl, hb6⟩
      have Hb6 := Lib.hid ((Hb5.out.trans (hb6.mono Hb5.out.size)).alloc (by have := Hb5.out.size; have := hb6.size; omega) (.cells #[.int .i64 k', .int .i64 n', .string ⟨s'.toArray⟩, .string ⟨t'.toArray⟩, .string ⟨u'.toArray⟩] 24))
      have hk6 := hb6.alloc hb6.size (.cells #[.int .i64 k', .int .i64 n', .string ⟨s'.toArray⟩, .string ⟨t'.toArray⟩, .string ⟨u'.toArray⟩] 24)
      have Hbox6 := Lib.hid (box_keep Hbox5.out hk6)
      have Hro6 := Lib.hid (Hro5.out.below hk6)
      have Hrb6 := Lib.hid (Hrb5.out.below hk6)
      have Hrx6 := Lib.hid (Hrx5.out.below hk6)
      have HboxD6 := Lib.hid (box_keep HboxD5.out hk6)
      obtain ⟨hc0, hc1, hc2, hc3, hc4⟩ := HboxD6.out
      clear hb6 hk6
      have hkept := kept_any Ao a0 l l m0 m0 co c0 (w6.alloc (.cells #[.int .i64 k', .int .i64 n', .string ⟨s'.toArray⟩, .string ⟨t'.toArray⟩, .string ⟨u'.toArray⟩] 24)) Hl.out Hl.out Hro6.out Hrb6.out
      rw [decide_eq_true (rfl : l = l)] at hkept
      have Hkept := Lib.hid hkept
      clear hkept
      go_wp2_with fail
      refine Calls.mono Hkept.out ?_
      rintro e w7 ⟨rfl, rfl⟩
      go_wp2_with fail
      refine Calls.mono (Hput2.out _) ?_
      rintro e w8 ⟨v8, rfl, hown8, hb8⟩
      simp only at hown8
      obtain ⟨Az, cz, rfl, hz1, hz2, hrz, _⟩ := Own8.slice (p := Y) hown8
      have Hb8 := Lib.hid (Hb6.out.trans (hb8.mono Hb6.out.size))
      have Hbox8 := Lib.hid (box_keep Hbox6.out hb8)
      have Hrb8 := Lib.hid (Hrb6.out.below hb8)
      have Hrx8 := Lib.hid (Hrx6.out.below hb8)
      have hcz := fun q : Nat => text_q (w8.drewN q) rfl (hrz.drewN q) cz
      obtain ⟨Ac, hsl, hct⟩ := cut_text (cap := c0) (n := m0) (l := l) Hl.out hmc Hrb8.out (P := p.length) (V := Y.length) hpv
      rw [Hcut.out] at hct
      have hctq := fun q : Nat => hct (w8.drewN q) (Stru.drawn (Below.refl _ _) q)
      clear hown8 hb8 hct hrz hc0 hc1 hc2 hc3 hc4
      go_wp2_with fail
      go_quiet (fail)
      go_wp2_with fail
      refine Calls.mono (Hget2.out Ax cx _ hx1 hx2 (Hrx8.out.drewN _)) ?_
      rintro e w9 ⟨rfl, hb9⟩
      have hk9 := (Below.trans (Stru.drawn (Below.refl w8.heap.size w8) _) (hb9.alloc hb9.size (.cells #[.int .i64 k, .int .i64 n, .string ⟨s.toArray⟩, .string ⟨t.toArray⟩, .string ⟨u.toArray⟩] 24)))
      have Hb9 := Lib.hid (Hb8.out.trans (hk9.mono Hb8.out.size))
      obtain ⟨hf0, hf1, hf2, hf3, hf4⟩ := box_keep Hbox8.out hk9
      have hself := eq_self k n s t u
      clear hb9 hk9
      go_wp2_with fail
      refine (known_any _).mono ?_
      rintro e w10 ⟨rfl, hb10⟩
      have Hb10 := Lib.hid (Hb9.out.trans (hb10.mono Hb9.out.size))
      clear hb10
      go_wp2_with fail
      go_ret
      exact ⟨rfl, Hb10.out⟩
  · have he2 : (e' == 0) = false := by simpa using he
    clear he Hgb
    cases hrt : rightC ⟨k, n, s, t, u⟩
    · have Hrt := Lib.hid hrt
      obtain ⟨X, hX⟩ : ∃ X : List UInt8, X = [] := ⟨_, rfl⟩
      rw [put_no hrt, ← hX] at hput hrput
      have Hput := Lib.hid hput
      have Hrput := Lib.hid hrput
      clear hput hrput hrt hX hll
      go_enter Tryd.func3, Tryd.ntmps3
      go_wp2_with fail
      refine Calls.mono Hlent.out ?_
      rintro e w1 ⟨v1, rfl, hown1, hb1⟩
      obtain ⟨Ao, co, rfl, ho1, ho2, hro, _⟩ := Own8.slice (p := l) hown1
      rw [← Hl.out] at ho1
      rw [← Hl.out]
      have Hb1 := Lib.hid (HB.out.trans (hb1.mono (by simp)))
      obtain ⟨hc0, hc1, hc2, hc3, hc4⟩ := box_keep Hbox.out hb1
      have Hbox1 := Lib.hid (box_keep Hbox.out hb1)
      have hg1 : w.heap.size < w1.heap.size := World.block_lt_of_cell? w1 ⟨w.heap.size, 0, none⟩ hc0
      have Hro1 := Lib.hid hro
      have Hrb1 := Lib.hid ((Hr0.out.below HB.out).below hb1)
      clear hown1 hb1 hro
      go_wp2_with fail
      refine Calls.mono (Hput.out Ao m0 co w1 Hl.out Hro1.out) ?_
      rintro e w2 ⟨v2, rfl, hown2, hb2⟩
      simp only at hown2
      obtain ⟨Ax, cx, rfl, hx1, hx2, hrx, _⟩ := Own8.slice (p := X) hown2
      have Hb2 := Lib.hid (Hb1.out.trans (hb2.mono Hb1.out.size))
      have Hbox2 := Lib.hid (box_keep Hbox1.out hb2)
      clear hc0 hc1 hc2 hc3 hc4
      obtain ⟨hc0, hc1, hc2, hc3, hc4⟩ := Hbox2.out
      have Hro2 := Lib.hid (Hro1.out.below hb2)
      have Hrb2 := Lib.hid (Hrb1.out.below hb2)
      have Hrx2 := Lib.hid hrx
      clear hown2 hb2 hrx
      go_wp2_with fail
      refine Calls.mono (Hrput.out a0 m0 c0 w2 Hl.out Hrb2.out) ?_
      rintro e w3 ⟨v3, rfl, hown3, hb3⟩
      simp only at hown3
      obtain ⟨Ay, cy, rfl, hy1, hy2, hry, _⟩ := Own8.slice (p := X) hown3
      have Hb3 := Lib.hid (Hb2.out.trans (hb3.mono Hb2.out.size))
      have Hbox3 := Lib.hid (box_keep Hbox2.out hb3)
      clear hc0 hc1 hc2 hc3 hc4
      obtain ⟨hc0, hc1, hc2, hc3, hc4⟩ := Hbox3.out
      have Hro3 := Lib.hid (Hro2.out.below hb3)
      have Hrb3 := Lib.hid (Hrb2.out.below hb3)
      have Hrx3 := Lib.hid (Hrx2.out.below hb3)
      have Hry3 := Lib.hid hry
      clear hown3 hb3 hry
      have hcx := text_q w3 rfl Hrx3.out cx
      have hcy := text_q w3 rfl Hry3.out cy
      have hcx' := text_q w3.drew rfl Hrx3.out.drew cx
      have hcy' := text_q w3.drew rfl Hry3.out.drew cy
      have hB0 := Below.refl w3.heap.size w3
      have hB1 := hB0.drew
      go_wp2_with fail
      go_region_held3 (fun w' => w'.cell? ⟨w.heap.size, 0, none⟩ = some (.int .i64 k) ∧ w'.cell? ⟨w.heap.size, 1, none⟩ = some (.int .i64 n) ∧ w'.cell? ⟨w.heap.size, 2, none⟩ = some (.string ⟨s.toArray⟩) ∧ w'.cell? ⟨w.heap.size, 3, none⟩ = some (.string ⟨t.toArray⟩) ∧ w'.cell? ⟨w.heap.size, 4, none⟩ = some (.string ⟨u.toArray⟩) ∧ (convert 22 9 (.slice Ax X.length cx)).run Tryd.prog w' = .ok (.string ⟨X.toArray⟩) w' ∧ (convert 22 9 (.slice Ay X.length cy)).run Tryd.prog w' = .ok (.string ⟨X.toArray⟩) w' ∧ Below w3.heap.size w3 w')
        (first | go_keep)
        (first
          | (go_at_call 11
             refine (names_any k n s t u _ (by omega) (by omega) (by omega)).mono ?_
             rintro e wm ⟨Am, cm, rfl, hm1, hm2, hmr, hbm⟩
             have hBm := Below.trans (B := w3.heap.size) (by assumption) (hbm.mono (Below.size (by assumption)))
             obtain ⟨hdm0, hdm1, hdm2, hdm3, hdm4⟩ := box_keep Hbox3.out hBm
             have hdxm := text_q wm rfl (Hrx3.out.below hBm) cx
             have hdym := text_q wm rfl (Hry3.out.below hBm) cy
             have Hnm := Lib.hid hmr
             clear hmr)
          | (go_at_call 12
             refine (refNames_any k n s t u _ (by omega) (by omega) (by omega)).mono ?_
             rintro e wn ⟨An, cn, rfl, hn1, hn2, hnr, hbn⟩
             have hBn := Below.trans (B := w3.heap.size) (by assumption) (hbn.mono (Below.size (by assumption)))
             obtain ⟨hdn0, hdn1, hdn2, hdn3, hdn4⟩ := box_keep Hbox3.out hBn
             have hdxn := text_q wn rfl (Hrx3.out.below hBn) cx
             have hdyn := text_q wn rfl (Hry3.out.below hBn) cy
             have Hnn := Lib.hid hnr
             clear hnr)
          | (go_at_call 8
             refine (poolRight_any k n s t u _ (by omega) (by omega) (by omega)).mono ?_
             rw [Hrt.out]
             rintro e wp ⟨rfl, hbp⟩
             have hBp := Below.trans (B := w3.heap.size) (by assumption) (hbp.mono (Below.size (by assumption)))
             obtain ⟨hdp0, hdp1, hdp2, hdp3, hdp4⟩ := box_keep Hbox3.out hBp
             have hdxp := text_q wp rfl (Hrx3.out.below hBp) cx
             have hdyp := text_q wp rfl (Hry3.out.below hBp) cy
             clear hbp)
          | (go_at_call 9
             refine (poolRefRight_any k n s t u _ (by omega) (by omega) (by omega)).mono ?_
             rw [Hrt.out]
             rintro e wq ⟨rfl, hbq⟩
             have hBq := Below.trans (B := w3.heap.size) (by assumption) (hbq.mono (Below.size (by assumption)))
             obtain ⟨hdq0, hdq1, hdq2, hdq3, hdq4⟩ := box_keep Hbox3.out hBq
             have hdxq := text_q wq rfl (Hrx3.out.below hBq) cx
             have hdyq := text_q wq rfl (Hry3.out.below hBq) cy
             clear hbq)
          | (go_at_call 10
             refine (texts_any Am An (namesC ⟨k, n, s, t, u⟩) (namesC ⟨k, n, s, t, u⟩) _ _ cm cn _ rfl rfl (by omega) (by first | exact Hnm.out | exact Hnm.out.below (by assumption)) (by first | exact Hnn.out | exact Hnn.out.below (by assumption))).mono ?_
             rintro e wt ⟨rfl, hbt⟩
             have hBt := Below.trans (B := w3.heap.size) (by assumption) (hbt.mono (Below.size (by assumption)))
             obtain ⟨hdt0, hdt1, hdt2, hdt3, hdt4⟩ := box_keep Hbox3.out hBt
             have hdxt := text_q wt rfl (Hrx3.out.below hBt) cx
             have hdyt := text_q wt rfl (Hry3.out.below hBt) cy
             clear hbt))
      have Hb4 := Lib.hid (Hb3.out.trans (hBt.mono Hb3.out.size))
      have Hbox4 := Lib.hid (box_keep Hbox3.out hBt)
      have Hro4 := Lib.hid (Hro3.out.below hBt)
      have Hrb4 := Lib.hid (Hrb3.out.below hBt)
      have Hrx4 := Lib.hid (Hrx3.out.below hBt)
      clear hBp hBq hBm hBn hBt hbm hbn hdp0 hdp1 hdp2 hdp3 hdp4 hdq0 hdq1 hdq2 hdq3 hdq4 hdm0 hdm1 hdm2 hdm3 hdm4 hdn0 hdn1 hdn2 hdn3 hdn4 hdt0 hdt1 hdt2 hdt3 hdt4 hdxp hdyp hdxq hdyq hdxm hdym hdxn hdyn hdxt hdyt hcx hcy hcx' hcy' hc0 hc1 hc2 hc3 hc4 hB0 hB1
      have hg := guard_cst
      have hne := ne_self k' n' s' t' u'
      go_wp2_with fail
      refine Calls.mono (Hget.out Ao co wt ho1 ho2 Hro4.out) ?_
      rintro e w5 ⟨rfl, hb5⟩
      have Hb5 := Lib.hid ((Hb4.out.trans (hb5.mono Hb4.out.size)).alloc (by have := Hb4.out.size; have := hb5.size; omega) (.cells #[.int .i64 k', .int .i64 n', .string ⟨s'.toArray⟩, .string ⟨t'.toArray⟩, .string ⟨u'.toArray⟩] 24))
      have hk5 : Below wt.heap.size wt (w5.alloc (.cells #[.int .i64 k', .int .i64 n', .string ⟨s'.toArray⟩, .string ⟨t'.toArray⟩, .string ⟨u'.toArray⟩] 24)) := hb5.alloc hb5.size _
      have Hbox5 := Lib.hid (box_keep Hbox4.out hk5)
      have Hro5 := Lib.hid (Hro4.out.below hk5)
      have Hrb5 := Lib.hid (Hrb4.out.below hk5)
      have Hrx5 := Lib.hid (Hrx4.out.below hk5)
      have HboxD5 := Lib.hid (boxC.new w5 k' n' s' t' u' 24)
      clear hb5 hk5
      go_wp2_with fail
      refine Calls.mono (Hrget.out a0 c0 _ hmc hcm Hrb5.out) ?_
      rintro e w6 ⟨rfl, hb6⟩
      have Hb6 := Lib.hid ((Hb5.out.trans (hb6.mono Hb5.out.size)).alloc (by have := Hb5.out.size; have := hb6.size; omega) (.cells #[.int .i64 k', .int .i64 n', .string ⟨s'.toArray⟩, .string ⟨t'.toArray⟩, .string ⟨u'.toArray⟩] 24))
      have hk6 := hb6.alloc hb6.size (.cells #[.int .i64 k', .int .i64 n', .string ⟨s'.toArray⟩, .string ⟨t'.toArray⟩, .string ⟨u'.toArray⟩] 24)
      have Hbox6 := Lib.hid (box_keep Hbox5.out hk6)
      have Hro6 := Lib.hid (Hro5.out.below hk6)
      have Hrb6 := Lib.hid (Hrb5.out.below hk6)
      have Hrx6 := Lib.hid (Hrx5.out.below hk6)
      have HboxD6 := Lib.hid (box_keep HboxD5.out hk6)
      obtain ⟨hc0, hc1, hc2, hc3, hc4⟩ := HboxD6.out
      clear hb6 hk6
      have hkept := kept_any Ao a0 l l m0 m0 co c0 (w6.alloc (.cells #[.int .i64 k', .int .i64 n', .string ⟨s'.toArray⟩, .string ⟨t'.toArray⟩, .string ⟨u'.toArray⟩] 24)) Hl.out Hl.out Hro6.out Hrb6.out
      rw [decide_eq_true (rfl : l = l)] at hkept
      have Hkept := Lib.hid hkept
      clear hkept
      go_wp2_with fail
      refine Calls.mono Hkept.out ?_
      rintro e w7 ⟨rfl, rfl⟩
      go_wp2_with fail
      refine (known_any _).mono ?_
      rintro e w9 ⟨rfl, hb9⟩
      have Hb9 := Lib.hid (Hb6.out.trans (hb9.mono Hb6.out.size))
      clear hb9
      go_wp2_with fail
      go_ret
      exact ⟨rfl, Hb9.out⟩
    · have Hrt := Lib.hid hrt
      have hback := get_back hrt fn l
      rw [put_yes hrt] at hput hrput
      generalize l ++ bytesC ⟨k, n, s, t, u⟩ = X at *
      have hget2 := fun (A : Option Addr) (c : Nat) (W : World) (h : X.length ≤ c) (hc : c ≤ maxLen) (hr : Rds W A (cells8 X)) => poolGet_any A X X.length c (m0 : Int) W rfl h hc (by omega) (by omega) hr
      rw [Hl.out, hback] at hget2
      unfold GivesC cst3 cstV at hget2
      rw [← Hl.out] at hget2
      have Hput := Lib.hid hput
      have Hrput := Lib.hid hrput
      have Hget2 := Lib.hid hget2
      clear hput hrput hrt hll hback hget2
      go_enter Tryd.func3, Tryd.ntmps3
      go_wp2_with fail
      refine Calls.mono Hlent.out ?_
      rintro e w1 ⟨v1, rfl, hown1, hb1⟩
      obtain ⟨Ao, co, rfl, ho1, ho2, hro, _⟩ := Own8.slice (p := l) hown1
      rw [← Hl.out] at ho1
      rw [← Hl.out]
      have Hb1 := Lib.hid (HB.out.trans (hb1.mono (by simp)))
      obtain ⟨hc0, hc1, hc2, hc3, hc4⟩ := box_keep Hbox.out hb1
      have Hbox1 := Lib.hid (box_keep Hbox.out hb1)
      have hg1 : w.heap.size < w1.heap.size := World.block_lt_of_cell? w1 ⟨w.heap.size, 0, none⟩ hc0
      have Hro1 := Lib.hid hro
      have Hrb1 := Lib.hid ((Hr0.out.below HB.out).below hb1)
      clear hown1 hb1 hro
      go_wp2_with fail
      refine Calls.mono (Hput.out Ao m0 co w1 Hl.out Hro1.out) ?_
      rintro e w2 ⟨v2, rfl, hown2, hb2⟩
      simp only at hown2
      obtain ⟨Ax, cx, rfl, hx1, hx2, hrx, _⟩ := Own8.slice (p := X) hown2
      have Hb2 := Lib.hid (Hb1.out.trans (hb2.mono Hb1.out.size))
      have Hbox2 := Lib.hid (box_keep Hbox1.out hb2)
      clear hc0 hc1 hc2 hc3 hc4
      obtain ⟨hc0, hc1, hc2, hc3, hc4⟩ := Hbox2.out
      have Hro2 := Lib.hid (Hro1.out.below hb2)
      have Hrb2 := Lib.hid (Hrb1.out.below hb2)
      have Hrx2 := Lib.hid hrx
      clear hown2 hb2 hrx
      go_wp2_with fail
      refine Calls.mono (Hrput.out a0 m0 c0 w2 Hl.out Hrb2.out) ?_
      rintro e w3 ⟨v3, rfl, hown3, hb3⟩
      simp only at hown3
      obtain ⟨Ay, cy, rfl, hy1, hy2, hry, _⟩ := Own8.slice (p := X) hown3
      have Hb3 := Lib.hid (Hb2.out.trans (hb3.mono Hb2.out.size))
      have Hbox3 := Lib.hid (box_keep Hbox2.out hb3)
      clear hc0 hc1 hc2 hc3 hc4
      obtain ⟨hc0, hc1, hc2, hc3, hc4⟩ := Hbox3.out
      have Hro3 := Lib.hid (Hro2.out.below hb3)
      have Hrb3 := Lib.hid (Hrb2.out.below hb3)
      have Hrx3 := Lib.hid (Hrx2.out.below hb3)
      have Hry3 := Lib.hid hry
      clear hown3 hb3 hry
      have hcx := text_q w3 rfl Hrx3.out cx
      have hcy := text_q w3 rfl Hry3.out cy
      have hcx' := text_q w3.drew rfl Hrx3.out.drew cx
      have hcy' := text_q w3.drew rfl Hry3.out.drew cy
      have hB0 := Below.refl w3.heap.size w3
      have hB1 := hB0.drew
      go_wp2_with fail
      go_region_held3 (fun w' => w'.cell? ⟨w.heap.size, 0, none⟩ = some (.int .i64 k) ∧ w'.cell? ⟨w.heap.size, 1, none⟩ = some (.int .i64 n) ∧ w'.cell? ⟨w.heap.size, 2, none⟩ = some (.string ⟨s.toArray⟩) ∧ w'.cell? ⟨w.heap.size, 3, none⟩ = some (.string ⟨t.toArray⟩) ∧ w'.cell? ⟨w.heap.size, 4, none⟩ = some (.string ⟨u.toArray⟩) ∧ (convert 22 9 (.slice Ax X.length cx)).run Tryd.prog w' = .ok (.string ⟨X.toArray⟩) w' ∧ (convert 22 9 (.slice Ay X.length cy)).run Tryd.prog w' = .ok (.string ⟨X.toArray⟩) w' ∧ Below w3.heap.size w3 w')
        (first | go_keep)
        (first
          | (go_at_call 11
             refine (names_any k n s t u _ (by omega) (by omega) (by omega)).mono ?_
             rintro e wm ⟨Am, cm, rfl, hm1, hm2, hmr, hbm⟩
             have hBm := Below.trans (B := w3.heap.size) (by assumption) (hbm.mono (Below.size (by assumption)))
             obtain ⟨hdm0, hdm1, hdm2, hdm3, hdm4⟩ := box_keep Hbox3.out hBm
             have hdxm := text_q wm rfl (Hrx3.out.below hBm) cx
             have hdym := text_q wm rfl (Hry3.out.below hBm) cy
             have Hnm := Lib.hid hmr
             clear hmr)
          | (go_at_call 12
             refine (refNames_any k n s t u _ (by omega) (by omega) (by omega)).mono ?_
             rintro e wn ⟨An, cn, rfl, hn1, hn2, hnr, hbn⟩
             have hBn := Below.trans (B := w3.heap.size) (by assumption) (hbn.mono (Below.size (by assumption)))
             obtain ⟨hdn0, hdn1, hdn2, hdn3, hdn4⟩ := box_keep Hbox3.out hBn
             have hdxn := text_q wn rfl (Hrx3.out.below hBn) cx
             have hdyn := text_q wn rfl (Hry3.out.below hBn) cy
             have Hnn := Lib.hid hnr
             clear hnr)
          | (go_at_call 8
             refine (poolRight_any k n s t u _ (by omega) (by omega) (by omega)).mono ?_
             rw [Hrt.out]
             rintro e wp ⟨rfl, hbp⟩
             have hBp := Below.trans (B := w3.heap.size) (by assumption) (hbp.mono (Below.size (by assumption)))
             obtain ⟨hdp0, hdp1, hdp2, hdp3, hdp4⟩ := box_keep Hbox3.out hBp
             have hdxp := text_q wp rfl (Hrx3.out.below hBp) cx
             have hdyp := text_q wp rfl (Hry3.out.below hBp) cy
             clear hbp)
          | (go_at_call 9
             refine (poolRefRight_any k n s t u _ (by omega) (by omega) (by omega)).mono ?_
             rw [Hrt.out]
             rintro e wq ⟨rfl, hbq⟩
             have hBq := Below.trans (B := w3.heap.size) (by assumption) (hbq.mono (Below.size (by assumption)))
             obtain ⟨hdq0, hdq1, hdq2, hdq3, hdq4⟩ := box_keep Hbox3.out hBq
             have hdxq := text_q wq rfl (Hrx3.out.below hBq) cx
             have hdyq := text_q wq rfl (Hry3.out.below hBq) cy
             clear hbq)
          | (go_at_call 10
             refine (texts_any Am An (namesC ⟨k, n, s, t, u⟩) (namesC ⟨k, n, s, t, u⟩) _ _ cm cn _ rfl rfl (by omega) (by first | exact Hnm.out | exact Hnm.out.below (by assumption)) (by first | exact Hnn.out | exact Hnn.out.below (by assumption))).mono ?_
             rintro e wt ⟨rfl, hbt⟩
             have hBt := Below.trans (B := w3.heap.size) (by assumption) (hbt.mono (Below.size (by assumption)))
             obtain ⟨hdt0, hdt1, hdt2, hdt3, hdt4⟩ := box_keep Hbox3.out hBt
             have hdxt := text_q wt rfl (Hrx3.out.below hBt) cx
             have hdyt := text_q wt rfl (Hry3.out.below hBt) cy
             clear hbt))
      have Hb4 := Lib.hid (Hb3.out.trans (hBt.mono Hb3.out.size))
      have Hbox4 := Lib.hid (box_keep Hbox3.out hBt)
      have Hro4 := Lib.hid (Hro3.out.below hBt)
      have Hrb4 := Lib.hid (Hrb3.out.below hBt)
      have Hrx4 := Lib.hid (Hrx3.out.below hBt)
      clear hBp hBq hBm hBn hBt hbm hbn hdp0 hdp1 hdp2 hdp3 hdp4 hdq0 hdq1 hdq2 hdq3 hdq4 hdm0 hdm1 hdm2 hdm3 hdm4 hdn0 hdn1 hdn2 hdn3 hdn4 hdt0 hdt1 hdt2 hdt3 hdt4 hdxp hdyp hdxq hdyq hdxm hdym hdxn hdyn hdxt hdyt hcx hcy hcx' hcy' hc0 hc1 hc2 hc3 hc4 hB0 hB1
      have hg := guard_cst
      have hne := ne_self k' n' s' t' u'
      go_wp2_with fail
      refine Calls.mono (Hget.out Ao co wt ho1 ho2 Hro4.out) ?_
      rintro e w5 ⟨rfl, hb5⟩
      have Hb5 := Lib.hid ((Hb4.out.trans (hb5.mono Hb4.out.size)).alloc (by have := Hb4.out.size; have := hb5.size; omega) (.cells #[.int .i64 k', .int .i64 n', .string ⟨s'.toArray⟩, .string ⟨t'.toArray⟩, .string ⟨u'.toArray⟩] 24))
      have hk5 : Below wt.heap.size wt (w5.alloc (.cells #[.int .i64 k', .int .i64 n', .string ⟨s'.toArray⟩, .string ⟨t'.toArray⟩, .string ⟨u'.toArray⟩] 24)) := hb5.alloc hb5.size _
      have Hbox5 := Lib.hid (box_keep Hbox4.out hk5)
      have Hro5 := Lib.hid (Hro4.out.below hk5)
      have Hrb5 := Lib.hid (Hrb4.out.below hk5)
      have Hrx5 := Lib.hid (Hrx4.out.below hk5)
      have HboxD5 := Lib.hid (boxC.new w5 k' n' s' t' u' 24)
      clear hb5 hk5
      go_wp2_with fail
      refine Calls.mono (Hrget.out a0 c0 _ hmc hcm Hrb5.out) ?_
      rintro e w6 ⟨rfl, hb6⟩
      have Hb6 := Lib.hid ((Hb5.out.trans (hb6.mono Hb5.out.size)).alloc (by have := Hb5.out.size; have := hb6.size; omega) (.cells #[.int .i64 k', .int .i64 n', .string ⟨s'.toArray⟩, .string ⟨t'.toArray⟩, .string ⟨u'.toArray⟩] 24))
      have hk6 := hb6.alloc hb6.size (.cells #[.int .i64 k', .int .i64 n', .string ⟨s'.toArray⟩, .string ⟨t'.toArray⟩, .string ⟨u'.toArray⟩] 24)
      have Hbox6 := Lib.hid (box_keep Hbox5.out hk6)
      have Hro6 := Lib.hid (Hro5.out.below hk6)
      have Hrb6 := Lib.hid (Hrb5.out.below hk6)
      have Hrx6 := Lib.hid (Hrx5.out.below hk6)
      have HboxD6 := Lib.hid (box_keep HboxD5.out hk6)
      obtain ⟨hc0, hc1, hc2, hc3, hc4⟩ := HboxD6.out
      clear hb6 hk6
      have hkept := kept_any Ao a0 l l m0 m0 co c0 (w6.alloc (.cells #[.int .i64 k', .int .i64 n', .string ⟨s'.toArray⟩, .string ⟨t'.toArray⟩, .string ⟨u'.toArray⟩] 24)) Hl.out Hl.out Hro6.out Hrb6.out
      rw [decide_eq_true (rfl : l = l)] at hkept
      have Hkept := Lib.hid hkept
      clear hkept
      go_wp2_with fail
      refine Calls.mono Hkept.out ?_
      rintro e w7 ⟨rfl, rfl⟩
      go_wp2_with fail
      refine Calls.mono (Hget2.out Ax cx _ hx1 hx2 (Hrx6.out)) ?_
      rintro e w9 ⟨rfl, hb9⟩
      have hk9 := (hb9.alloc hb9.size (.cells #[.int .i64 k, .int .i64 n, .string ⟨s.toArray⟩, .string ⟨t.toArray⟩, .string ⟨u.toArray⟩] 24))
      have Hb9 := Lib.hid (Hb6.out.trans (hk9.mono Hb6.out.size))
      obtain ⟨hf0, hf1, hf2, hf3, hf4⟩ := box_keep Hbox6.out hk9
      have hself := eq_self k n s t u
      clear hb9 hk9
      go_wp2_with fail
      refine (known_any _).mono ?_
      rintro e w10 ⟨rfl, hb10⟩
      have Hb10 := Lib.hid (Hb9.out.trans (hb10.mono Hb9.out.size))
      clear hb10
      go_wp2_with fail
      go_ret
      exact ⟨rfl, Hb10.out⟩

end WPoolOnes
end Go.Proofs.YtnkkeifjggcncaaDoor
