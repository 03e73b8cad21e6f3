/- pieces -/
import Derived.Test.YtehainbhoflpnaaGreatDoorK45
import Derived.Test.YtehainbhoflpnaaGreatDoorK46
import Derived.Test.YtehainbhoflpnaaGreatDoorK47
namespace Go.Proofs.YtehainbhoflpnaaGreatDoor
namespace WKindSteps
open Go.RowKit Base BinM Stru DescM DescW DescX HierS HierT HierM HierR Kls TabC TabM TabK TabP TabE TabB TabG TabH TabT TabU KndB KndM KndS KndK OpenI OpenF
set_option maxRecDepth 100000 in
set_option maxHeartbeats 8000000 in
theorem walk (a0 : Option Addr) (m0 c0 : Nat) (l0 : List Cst) (a1 : ByteArray) (x2 : OpenI.InT) (x3 : OpenF.FrT) (w : World) (hl : InsA.Laid w) (w0 : Zq w a0 m0 c0 l0) (b0 : ∀ x ∈ l0, x.s.length ≤ 140737488351232 ∧ x.t.length ≤ 140737488351232 ∧ x.u.length ≤ 140737488351232) (b1 : a1.size ≤ 140737488351232) (_ : x2.is w) (_ : OpenI.InT.lt x2) (w3 : x3.is w) (b3 : OpenF.FrT.lt x3) :
 Calls Tryz.prog 3 #[.slice a0 m0 c0, .string a1, x2.V, x3.V] w fun e w' => e = .returned (.bool true) ∧ Below w.heap.size w w' := by
 obtain ⟨gv, rfl⟩ : ∃ l : List UInt8, a1 = ⟨l.toArray⟩ := ⟨a1.data.toList, (Lib.mk_data a1).symm⟩
 rw [size_mk] at b1
 obtain rfl : m0 = l0.length := w0.len
 obtain ⟨op, a⟩ := x2
 obtain ⟨lA, lm, lc, sA, sm, sc, ls, ss⟩ := x3
 obtain ⟨e1, e2, ⟨hc1, hc2⟩, ⟨hc3, hc4⟩, hr1, hr2⟩ := w3
 obtain ⟨bl, bs⟩ := b3
 simp only at e1 e2 hc1 hc2 hc3 hc4 hr1 hr2 bl bs
 subst e1
 subst e2
 simp only [InT.V, FrT.V]
 have hr1 : Rds w lA (ls.map sv) := hr1
 have hr2 : Rds w sA (ss.map sv) := hr2
 have hb0 : Below w.heap.size w ((w.alloc (.cells #[.int .i64 op, .int .i64 a] 24)).alloc (.cells #[.slice lA ls.length lc, .slice sA ss.length sc] 27)) := ((Below.refl _ _).alloc (Nat.le_refl _) _).alloc (by simp) _
 have s0 : (w.alloc (.cells #[.int .i64 op, .int .i64 a] 24)).heap.size = w.heap.size + 1 := by simp
 have hi0 := TabZ.Zn (Bx.new w #[.int .i64 op, .int .i64 a] 24) (.cells #[.slice lA ls.length lc, .slice sA ss.length sc] 27)
 have hf0 := Bx.new (w.alloc (.cells #[.int .i64 op, .int .i64 a] 24)) #[.slice lA ls.length lc, .slice sA ss.length sc] 27
 rw [s0] at hf0
 have HB := zH hb0
 have HI := zH hi0
 have HF := zH hf0
 have HK := zH (fun W (hb : Below w.heap.size w W) => Q0 W (hl.below hb hl.1))
 have HSm := zH (fun W => KndG.zh8 lA sA ls.length lc ss.length sc W)
 have HL := zH hl
 have HR1 := zH hr1
 have HR2 := zH hr2
 have HC := zH w0
 have HB0 := zH b0
 have HBl := zH bl
 have HBs := zH bs
 clear hb0 s0 hi0 hf0 hl hr1 hr2 w0 b0 bl bs
 by_cases h1 : (decide (ls.length ≤ 60) && decide (ss.length ≤ 60)) = true
 · rw [h1] at HSm
   have hls : ls.length ≤ 60 := by simp at h1; exact h1.1
   have hss : ss.length ≤ 60 := by simp at h1; exact h1.2
   clear h1
   by_cases h2 : (300 : Int) < (l0.length : Int)
   · go_enter Tryz.func3, Tryz.ntmps3
     go_wp2_with fail
     refine (HSm.out _).mono ?_
     rintro e w1 ⟨rfl, hb1⟩
     have B1 := zH (HB.out.trans (hb1.mono HB.out.size))
     clear hb1
     go_wp2_with fail
     refine (HK.out _ B1.out).mono ?_
     rintro e w2 ⟨rfl, hb2⟩
     have B2 := zH (B1.out.trans (hb2.mono B1.out.size))
     clear hb2
     go_wp2_with fail
     go_ret
     exact ⟨rfl, B2.out⟩
   · have h300 : ¬ (300 : Int) < (l0.length : Int) := h2
     have HO := zH (fun W (hb : Below w.heap.size w W) => Ka W (HL.out.below hb HL.out.1))
     clear h2
     go_enter Tryz.func3, Tryz.ntmps3
     go_wp2_with fail
     refine (HSm.out _).mono ?_
     rintro e w1 ⟨rfl, hb1⟩
     have B1 := zH (HB.out.trans (hb1.mono HB.out.size))
     have I1 := zH (HI.out.after hb1)
     have F1 := zH (HF.out.after hb1)
     clear hb1 HSm HI HF HB
     go_wp2_with fail
     refine (HO.out _ B1.out).mono ?_
     rintro e w2 ⟨t, r, rfl, hBs, hb2⟩
     have B2 := zH (B1.out.trans (hb2.mono B1.out.size))
     have I2 := zH (I1.out.after hb2)
     have F2 := zH (F1.out.after hb2)
     obtain ⟨ps, C, L, hE⟩ := KndF.Zl7 hBs
     have G : KndF.Gv w2 a0 l0.length c0 l0 gv lA lc ls sA sc ss := ⟨HC.out.below B2.out, HB0.out, b1, HR1.out.below B2.out, HR2.out.below B2.out, hc3, hc4, by omega, by omega, HBs.out⟩
     obtain ⟨F, hFb, hP, hD⟩ := KndF.zw1 (op := op) (a := a) hE G HBl.out
     have HP := zH hP
     have HD := zH hD
     have p0 : w2.cell? ⟨w.heap.size + 1, 0, none⟩ = some (.slice lA ls.length lc) := F2.out.cell 0
     have p1 : w2.cell? ⟨w.heap.size + 1, 1, none⟩ = some (.slice sA ss.length sc) := F2.out.cell 1
     have pl := F2.out.lt
     have HGv := zH (KndG.yR lA sA ls.length lc ss.length sc w2)
     clear hb2 hBs hE G hP hD HO I1 F1 HBl HBs HB0 HC
     go_wp2_with fail
     refine HGv.out.mono ?_
     rintro e w3 ⟨rfl, hb3⟩
     have hal3 : Below w3.heap.size w3 (w3.alloc (.cells #[.slice lA ls.length lc, .slice sA ss.length sc] 34)) := (Below.refl _ _).alloc (Nat.le_refl _) _
     have T4 := zH (hb3.trans (hal3.mono hb3.size))
     have K4 := zH (Bx.new w3 #[.slice lA ls.length lc, .slice sA ss.length sc] 34)
     clear hb3 hal3 HGv p0 p1 pl
     obtain ⟨W4, hW4⟩ : ∃ W, w3.alloc (.cells #[.slice lA ls.length lc, .slice sA ss.length sc] 34) = W := ⟨_, rfl⟩
     rw [hW4] at T4 K4
     have HW4 := zH hW4
     have hw34 : W4.heap.size = w3.heap.size + 1 := by rw [← hW4]; simp
     clear hW4
     have F4 := zH (F2.out.after T4.out)
     have I4 := zH (I2.out.after T4.out)
     have B4 := zH (B2.out.trans (T4.out.mono B2.out.size))
     have hf4 : (w3.alloc (.cells #[.slice lA ls.length lc, .slice sA ss.length sc] 34)).cell? ⟨w.heap.size + 1, 0, none⟩ = some (.slice lA ls.length lc) := by rw [HW4.out]; exact F4.out.cell 0
     go_wp2_with (first
      | (at_builtin
         rw [HW4.out]
         refine UK rfl (.tmp 37) (.tmp 39) rfl W4.heap.size _ [] rfl (zT.nil _ _) lA ls.length lc ls rfl rfl (HR1.out.below B4.out) (by simp; omega) (Nat.le_refl _) ?_
         intro v5 w5 hown5 hg5
         rw [List.nil_append] at hown5
         obtain ⟨A5, c5, rfl, hcl5, hcx5, r5, ha5⟩ := zT.slice hown5
         have hb5 : Below W4.heap.size W4 w5 := KrJ.ZF hg5
         have T5 := zH (T4.out.trans (hb5.mono T4.out.size))
         have F5 := zH (F4.out.after hb5)
         have I5 := zH (I4.out.after hb5)
         have K5 := zH (K4.out.after hb5)
         have R5 := zH r5
         have B5 := zH (B2.out.trans (T5.out.mono B2.out.size))
         have f5 : w5.cell? ⟨w.heap.size + 1, 1, none⟩ = some (.slice sA ss.length sc) := F5.out.cell 1
         have fl5 := F5.out.lt
         clear hown5 hg5 hcl5 hcx5 r5 ha5 hb5)
      | (at_builtin
         refine UK rfl (.tmp 41) (.tmp 43) rfl w5.heap.size _ [] rfl (zT.nil _ _) sA ss.length sc ss rfl rfl (HR2.out.below B5.out) (by simp; omega) (Nat.le_refl _) ?_
         intro v6 w6 hown6 hg6
         rw [List.nil_append] at hown6
         obtain ⟨A6, c6, rfl, hcl6, hcx6, r6, ha6⟩ := zT.slice hown6
         have hb6 : Below w5.heap.size w5 w6 := KrJ.ZF hg6
         have T6 := zH (T5.out.trans (hb6.mono T5.out.size))
         have F6 := zH (F5.out.after hb6)
         have I6 := zH (I5.out.after hb6)
         have K6 := zH (K5.out.after hb6)
         have R6 := zH r6
         have S6 := zH (R5.out.below hb6)
         have i6 : w6.cell? ⟨w.heap.size, 0, none⟩ = some (.int .i64 op) := I6.out.cell 0
         have j6 : w6.cell? ⟨w.heap.size, 1, none⟩ = some (.int .i64 a) := I6.out.cell 1
         have il6 := I6.out.lt
         have k6 : w6.cell? ⟨w3.heap.size, 0, none⟩ = some (.slice lA ls.length lc) := K6.out.cell 0
         have l6 : w6.cell? ⟨w3.heap.size, 1, none⟩ = some (.slice sA ss.length sc) := K6.out.cell 1
         have kl6 := K6.out.lt
         clear hown6 hg6 hcl6 hcx6 r6 ha6 hb6))
     refine (HP.out _ T6.out).mono ?_
     rintro e w7 hgF
     obtain ⟨A7, c7, D7, d7, rfl, r7, q7, hb7⟩ := KndF.ze5 hgF
     clear hgF i6 j6 il6 k6 l6 kl6 f5 fl5 hf4
     obtain ⟨l2, s2, er, hfr⟩ : ∃ l s z, KndF.frE F = (l, s, z) := ⟨_, _, _, rfl⟩
     have HFr := zH hfr
     rw [hfr] at r7 q7 hFb ⊢
     clear hfr
     simp only at r7 q7 hFb ⊢
     obtain ⟨hF1, hF2⟩ := hFb
     have hal7 : Below w7.heap.size w7 (w7.alloc (.cells #[.slice A7 l2.length c7, .slice D7 s2.length d7] 34)) := (Below.refl _ _).alloc (Nat.le_refl _) _
     have h67 := hb7.trans (hal7.mono hb7.size)
     have T7 := zH (T6.out.trans (h67.mono T6.out.size))
     have F7 := zH (F6.out.after h67)
     have I7 := zH (I6.out.after h67)
     have R7 := zH (r7.below hal7)
     have Q7 := zH (q7.below hal7)
     have S7 := zH (S6.out.below h67)
     have U7 := zH (R6.out.below h67)
     have X7a := zH (Bx.new w7 #[.slice A7 l2.length c7, .slice D7 s2.length d7] 34)
     have i7 : (w7.alloc (.cells #[.slice A7 l2.length c7, .slice D7 s2.length d7] 34)).cell? ⟨w.heap.size, 0, none⟩ = some (.int .i64 op) := I7.out.cell 0
     have j7 : (w7.alloc (.cells #[.slice A7 l2.length c7, .slice D7 s2.length d7] 34)).cell? ⟨w.heap.size, 1, none⟩ = some (.int .i64 a) := I7.out.cell 1
     have k7 : (w7.alloc (.cells #[.slice A7 l2.length c7, .slice D7 s2.length d7] 34)).cell? ⟨w.heap.size + 1, 0, none⟩ = some (.slice lA ls.length lc) := F7.out.cell 0
     have m7 : (w7.alloc (.cells #[.slice A7 l2.length c7, .slice D7 s2.length d7] 34)).cell? ⟨w.heap.size + 1, 1, none⟩ = some (.slice sA ss.length sc) := F7.out.cell 1
     have il7 := I7.out.lt
     have kl7 := F7.out.lt
     clear hal7 h67 r7 q7 hb7 T4 T5 T6 F4 F5 F6 I2 I4 I5 I6 K4 K5 K6 R5 R6 S6 B4 B5 HW4
     go_wp2_with fail
     refine (HD.out _ T7.out).mono ?_
     rintro e w8 hgF
     obtain ⟨A8, c8, D8, d8, rfl, r8, q8, hb8⟩ := KndF.ze5 hgF
     clear hgF i7 j7 il7 k7 m7 kl7
     rw [HFr.out] at r8 q8
     simp only [HFr.out] at r8 q8 ⊢
     have hal8 : Below w8.heap.size w8 (w8.alloc (.cells #[.slice A8 l2.length c8, .slice D8 s2.length d8] 27)) := (Below.refl _ _).alloc (Nat.le_refl _) _
     have h78 := hb8.trans (hal8.mono hb8.size)
     have B9 := zH (B2.out.trans ((T7.out.trans (h78.mono T7.out.size)).mono B2.out.size))
     have X9 := zH (F7.out.after h78)
     have X7 := zH (X7a.out.after h78)
     have X8 := zH (Bx.new w8 #[.slice A8 l2.length c8, .slice D8 s2.length d8] 27)
     have R7b := R7.out.below h78
     have Q7b := Q7.out.below h78
     have S7b := S7.out.below h78
     have U7b := U7.out.below h78
     have R8b := r8.below hal8
     have Q8b := q8.below hal8
     have HRL := HR1.out.below B9.out
     have HRS := HR2.out.below B9.out
     have HSa := zH (fun W (hb : Below (w8.alloc (.cells #[.slice A8 l2.length c8, .slice D8 s2.length d8] 27)).heap.size (w8.alloc (.cells #[.slice A8 l2.length c8, .slice D8 s2.length d8] 27)) W) => KndG.zn8 A7 A8 D7 D8 c7 c8 d7 d8 l2 s2 W (by unfold maxLen; omega) (by unfold maxLen; omega) (R7b.below hb) (R8b.below hb) (Q7b.below hb) (Q8b.below hb))
     have HTx := zH (fun W (hb : Below (w8.alloc (.cells #[.slice A8 l2.length c8, .slice D8 s2.length d8] 27)).heap.size (w8.alloc (.cells #[.slice A8 l2.length c8, .slice D8 s2.length d8] 27)) W) => KndG.Jz lA A5 ls ls.length ls.length lc c5 W rfl rfl (by unfold maxLen; omega) (HRL.below hb) (S7b.below hb))
     have HTy := zH (fun W (hb : Below (w8.alloc (.cells #[.slice A8 l2.length c8, .slice D8 s2.length d8] 27)).heap.size (w8.alloc (.cells #[.slice A8 l2.length c8, .slice D8 s2.length d8] 27)) W) => KndG.Jz sA A6 ss ss.length ss.length sc c6 W rfl rfl (by unfold maxLen; omega) (HRS.below hb) (U7b.below hb))
     have HTk := zH (fun W => KndG.zh1 A7 D7 l2.length c7 s2.length d7 W)
     have hee : (er == er) = true := by simp
     clear hal8 h78 r8 q8 hb8 R7b Q7b S7b U7b R8b Q8b HRL HRS R7 Q7 S7 U7 T7 F7 I7 X7a HP HD F2 HR1 HR2 B2 HFr
     go_wp2_with fail
     generalize w8.alloc (.cells #[.slice A8 l2.length c8, .slice D8 s2.length d8] 27) = WZ at *
     have hB0 := Below.refl WZ.heap.size WZ
     have hB1 := hB0.drew
     have a0 : WZ.cell? ⟨w7.heap.size, 0, none⟩ = some (.slice A7 l2.length c7) := (X7.out.after hB0).cell 0
     have a1 : WZ.cell? ⟨w7.heap.size, 1, none⟩ = some (.slice D7 s2.length d7) := (X7.out.after hB0).cell 1
     have a2 : WZ.cell? ⟨w8.heap.size, 0, none⟩ = some (.slice A8 l2.length c8) := (X8.out.after hB0).cell 0
     have a3 : WZ.cell? ⟨w8.heap.size, 1, none⟩ = some (.slice D8 s2.length d8) := (X8.out.after hB0).cell 1
     have a4 : WZ.cell? ⟨w.heap.size + 1, 0, none⟩ = some (.slice lA ls.length lc) := (X9.out.after hB0).cell 0
     have a5 : WZ.cell? ⟨w.heap.size + 1, 1, none⟩ = some (.slice sA ss.length sc) := (X9.out.after hB0).cell 1
     go_region_held3 (fun w' => w'.cell? ⟨w7.heap.size, 0, none⟩ = some (.slice A7 l2.length c7) ∧ w'.cell? ⟨w7.heap.size, 1, none⟩ = some (.slice D7 s2.length d7) ∧ w'.cell? ⟨w8.heap.size, 0, none⟩ = some (.slice A8 l2.length c8) ∧ w'.cell? ⟨w8.heap.size, 1, none⟩ = some (.slice D8 s2.length d8) ∧ w'.cell? ⟨w.heap.size + 1, 0, none⟩ = some (.slice lA ls.length lc) ∧ w'.cell? ⟨w.heap.size + 1, 1, none⟩ = some (.slice sA ss.length sc))
      (first | (with_reducible exact ⟨a0, a1, a2, a3, a4, a5⟩) | (with_reducible exact ⟨x0, x1, x2, x3, x4, x5⟩) | (with_reducible exact ⟨y0, y1, y2, y3, y4, y5⟩) | (with_reducible exact ⟨z0, z1, z2, z3, z4, z5⟩) | (with_reducible exact ⟨u0, u1, u2, u3, u4, u5⟩) | (with_reducible exact ⟨v0, v1, v2, v3, v4, v5⟩) | go_keep)
      (first
       | (go_at_call 6
          have hG := M6
          clear hG
          refine (HK.out _ (B9.out.trans (hB6.mono B9.out.size))).mono ?_
          rintro e w13 ⟨rfl, hb7⟩
          have hB7 := hB6.trans (hb7.mono hB6.size)
          have M7 := hB7
          have v0 : w13.cell? ⟨w7.heap.size, 0, none⟩ = some (.slice A7 l2.length c7) := (X7.out.after hB7).cell 0
          have v1 : w13.cell? ⟨w7.heap.size, 1, none⟩ = some (.slice D7 s2.length d7) := (X7.out.after hB7).cell 1
          have v2 : w13.cell? ⟨w8.heap.size, 0, none⟩ = some (.slice A8 l2.length c8) := (X8.out.after hB7).cell 0
          have v3 : w13.cell? ⟨w8.heap.size, 1, none⟩ = some (.slice D8 s2.length d8) := (X8.out.after hB7).cell 1
          have v4 : w13.cell? ⟨w.heap.size + 1, 0, none⟩ = some (.slice lA ls.length lc) := (X9.out.after hB7).cell 0
          have v5 : w13.cell? ⟨w.heap.size + 1, 1, none⟩ = some (.slice sA ss.length sc) := (X9.out.after hB7).cell 1)
       | (go_at_call 13
          have hG := M5
          clear hG
          with_reducible refine (HTy.out _ hB5).mono ?_
          rintro e w12 ⟨rfl, hb6⟩
          have hB6 := hB5.trans (hb6.mono hB5.size)
          have M6 := hB6
          have u0 : w12.cell? ⟨w7.heap.size, 0, none⟩ = some (.slice A7 l2.length c7) := (X7.out.after hB6).cell 0
          have u1 : w12.cell? ⟨w7.heap.size, 1, none⟩ = some (.slice D7 s2.length d7) := (X7.out.after hB6).cell 1
          have u2 : w12.cell? ⟨w8.heap.size, 0, none⟩ = some (.slice A8 l2.length c8) := (X8.out.after hB6).cell 0
          have u3 : w12.cell? ⟨w8.heap.size, 1, none⟩ = some (.slice D8 s2.length d8) := (X8.out.after hB6).cell 1
          have u4 : w12.cell? ⟨w.heap.size + 1, 0, none⟩ = some (.slice lA ls.length lc) := (X9.out.after hB6).cell 0
          have u5 : w12.cell? ⟨w.heap.size + 1, 1, none⟩ = some (.slice sA ss.length sc) := (X9.out.after hB6).cell 1)
       | (go_at_call 13
          have hG := M4
          clear hG
          with_reducible refine (HTx.out _ hB4).mono ?_
          rintro e w11 ⟨rfl, hb5⟩
          have hB5 := hB4.trans (hb5.mono hB4.size)
          have M5 := hB5
          have z0 : w11.cell? ⟨w7.heap.size, 0, none⟩ = some (.slice A7 l2.length c7) := (X7.out.after hB5).cell 0
          have z1 : w11.cell? ⟨w7.heap.size, 1, none⟩ = some (.slice D7 s2.length d7) := (X7.out.after hB5).cell 1
          have z2 : w11.cell? ⟨w8.heap.size, 0, none⟩ = some (.slice A8 l2.length c8) := (X8.out.after hB5).cell 0
          have z3 : w11.cell? ⟨w8.heap.size, 1, none⟩ = some (.slice D8 s2.length d8) := (X8.out.after hB5).cell 1
          have z4 : w11.cell? ⟨w.heap.size + 1, 0, none⟩ = some (.slice lA ls.length lc) := (X9.out.after hB5).cell 0
          have z5 : w11.cell? ⟨w.heap.size + 1, 1, none⟩ = some (.slice sA ss.length sc) := (X9.out.after hB5).cell 1)
       | (go_at_call 11
          have hG := M3
          clear hG
          with_reducible refine (HSa.out _ hB3).mono ?_
          rintro e w10 ⟨rfl, hb4⟩
          have hB4 := hB3.trans (hb4.mono hB3.size)
          have M4 := hB4
          have y0 : w10.cell? ⟨w7.heap.size, 0, none⟩ = some (.slice A7 l2.length c7) := (X7.out.after hB4).cell 0
          have y1 : w10.cell? ⟨w7.heap.size, 1, none⟩ = some (.slice D7 s2.length d7) := (X7.out.after hB4).cell 1
          have y2 : w10.cell? ⟨w8.heap.size, 0, none⟩ = some (.slice A8 l2.length c8) := (X8.out.after hB4).cell 0
          have y3 : w10.cell? ⟨w8.heap.size, 1, none⟩ = some (.slice D8 s2.length d8) := (X8.out.after hB4).cell 1
          have y4 : w10.cell? ⟨w.heap.size + 1, 0, none⟩ = some (.slice lA ls.length lc) := (X9.out.after hB4).cell 0
          have y5 : w10.cell? ⟨w.heap.size + 1, 1, none⟩ = some (.slice sA ss.length sc) := (X9.out.after hB4).cell 1)
       | (go_at_call 12
          with_reducible refine (HTk.out _).mono ?_
          rintro e w9 ⟨rfl, hb3⟩
          have hB3 := hB1.trans (hb3.mono hB1.size)
          have M3 := hB3
          have x0 : w9.cell? ⟨w7.heap.size, 0, none⟩ = some (.slice A7 l2.length c7) := (X7.out.after hB3).cell 0
          have x1 : w9.cell? ⟨w7.heap.size, 1, none⟩ = some (.slice D7 s2.length d7) := (X7.out.after hB3).cell 1
          have x2 : w9.cell? ⟨w8.heap.size, 0, none⟩ = some (.slice A8 l2.length c8) := (X8.out.after hB3).cell 0
          have x3 : w9.cell? ⟨w8.heap.size, 1, none⟩ = some (.slice D8 s2.length d8) := (X8.out.after hB3).cell 1
          have x4 : w9.cell? ⟨w.heap.size + 1, 0, none⟩ = some (.slice lA ls.length lc) := (X9.out.after hB3).cell 0
          have x5 : w9.cell? ⟨w.heap.size + 1, 1, none⟩ = some (.slice sA ss.length sc) := (X9.out.after hB3).cell 1))
     all_goals
      go_wp2_with fail
      go_ret
      exact ⟨rfl, B9.out.trans (hB7.mono B9.out.size)⟩
 · have h1f : (decide (ls.length ≤ 60) && decide (ss.length ≤ 60)) = false := by simpa using h1
   rw [h1f] at HSm
   clear h1 h1f
   go_enter Tryz.func3, Tryz.ntmps3
   go_wp2_with fail
   refine (HSm.out _).mono ?_
   rintro e w1 ⟨rfl, hb1⟩
   have B1 := zH (HB.out.trans (hb1.mono HB.out.size))
   clear hb1
   go_wp2_with fail
   refine (HK.out _ B1.out).mono ?_
   rintro e w2 ⟨rfl, hb2⟩
   have B2 := zH (B1.out.trans (hb2.mono B1.out.size))
   clear hb2
   go_wp2_with fail
   go_ret
   exact ⟨rfl, B2.out⟩
end WKindSteps
end Go.Proofs.YtehainbhoflpnaaGreatDoor
