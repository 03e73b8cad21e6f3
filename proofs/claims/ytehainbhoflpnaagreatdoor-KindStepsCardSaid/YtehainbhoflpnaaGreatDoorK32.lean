/- pieces -/
import Derived.Test.YtehainbhoflpnaaGreatDoorK31
namespace Go.Proofs.YtehainbhoflpnaaGreatDoor
namespace KndZ
open Go.RowKit Base BinM Stru DescM DescW DescX DescS DescG DescP DescQ HierS HierT HierM HierC HierD HierN HierV HierR HierU HierY Kls KlsP KlsQ OpenK TabC TabM TabK TabP TabE TabB TabG TabH TabT TabU TabV TabX TabW TabF TabN TabO TabY TabR TabQ TabL TabZ KndB KndM EfA KndS
def QM (lo b : Nat) (w : World) (t : Nat) (kc : Value) (gv : T) (op a : Int) (ls ss : List T) (v : Value) (e : Ending) (w' : World) : Prop :=
 e = .returned v ∧ (∃ LV SV, St lo b w' t kc gv op a LV ls SV ss) ∧ Below lo w w'
theorem U2 {lo b : Nat} {w : World} {t : Nat} {kc : Value} {gv : T} {op a : Int} {LV : Value} {ls ss : List T} {v : Value} {e : Ending} {w' : World} (h : zN lo b w t kc gv op a LV ls ss v e w') : QM lo b w t kc gv op a ls ss v e w' :=
 ⟨h.1, by obtain ⟨SV, hs⟩ := h.2.1; exact ⟨LV, SV, hs⟩, h.2.2⟩
def endP (R : List T × List T × Bool) : Option (List T × List T) := if R.2.2 = true ∧ R.2.1.length ≤ 16 then some (R.1, R.2.1) else none
set_option maxRecDepth 100000 in
set_option maxHeartbeats 4000000 in
theorem ZC {w : World} {t : Nat} (kA : Option Addr) (km kc : Nat) (gv : T) (op a : Int) (A : Option Addr) (c : Nat) (ls : List T) (B : Option Addr) (d : Nat) (ss : List T) (hA : Rds w A (ls.map sv)) (hB : Rds w B (ss.map sv)) (hm : ss.length ≤ 500) (hl : ls.length ≤ 500) (R : List T × List T × Bool)
 (HDO : ∀ W b lo LV SV, Below w.heap.size w W → w.heap.size ≤ lo → St lo b W t (.slice kA km kc) gv op a LV ls SV ss → Calls Tryz.prog 25 #[.pointer (some ⟨b, 0, none⟩)] W (QM lo b W t (.slice kA km kc) gv op a R.1 R.2.1 (.bool R.2.2))) :
 Calls Tryz.prog 9 #[.pointer (some ⟨t, 0, none⟩), .slice kA km kc, .string ⟨gv.toArray⟩, .agg #[.int .i64 op, .int .i64 a], .agg #[.slice A ls.length c, .slice B ss.length d]] w (ZO w (endP R)) := by
 have hb1 : Below w.heap.size w (((w.alloc (.cells #[.int .i64 op, .int .i64 a] 24)).alloc (.cells #[.slice A ls.length c, .slice B ss.length d] 34)).alloc (.cells #[.slice none 0 0, .slice none 0 0] 34)) := (((Below.refl _ _).alloc (Nat.le_refl _) _).alloc (by simp) _).alloc (by simp; omega) _
 have e1 : (w.alloc (.cells #[.int .i64 op, .int .i64 a] 24)).heap.size = w.heap.size + 1 := by simp
 have e2 : ((w.alloc (.cells #[.int .i64 op, .int .i64 a] 24)).alloc (.cells #[.slice A ls.length c, .slice B ss.length d] 34)).heap.size = w.heap.size + 1 + 1 := by simp
 have hx1 := TabZ.Zn (TabZ.Zn (Bx.new w #[.int .i64 op, .int .i64 a] 24) (.cells #[.slice A ls.length c, .slice B ss.length d] 34)) (.cells #[.slice none 0 0, .slice none 0 0] 34)
 have hx2 := TabZ.Zn (Bx.new (w.alloc (.cells #[.int .i64 op, .int .i64 a] 24)) #[.slice A ls.length c, .slice B ss.length d] 34) (.cells #[.slice none 0 0, .slice none 0 0] 34)
 have hx3 := Bx.new ((w.alloc (.cells #[.int .i64 op, .int .i64 a] 24)).alloc (.cells #[.slice A ls.length c, .slice B ss.length d] 34)) #[.slice none 0 0, .slice none 0 0] 34
 rw [e1] at hx2
 rw [e2] at hx3
 have hs3 : (((w.alloc (.cells #[.int .i64 op, .int .i64 a] 24)).alloc (.cells #[.slice A ls.length c, .slice B ss.length d] 34)).alloc (.cells #[.slice none 0 0, .slice none 0 0] 34)).heap.size = w.heap.size + 3 := by simp
 obtain ⟨W3, hW3⟩ : ∃ W, (((w.alloc (.cells #[.int .i64 op, .int .i64 a] 24)).alloc (.cells #[.slice A ls.length c, .slice B ss.length d] 34)).alloc (.cells #[.slice none 0 0, .slice none 0 0] 34)) = W := ⟨_, rfl⟩
 rw [hW3] at hb1 hx1 hx2 hx3 hs3
 have hs3a : w.heap.size + 2 < W3.heap.size := by omega
 have Hs3 := zH hs3
 clear hs3
 have HB3 := zH hb1
 have H1 := zH hx1
 have H2 := zH hx2
 have H3 := zH hx3
 have HC1 : Hid (∀ W, Below W3.heap.size W3 W → Calls Tryz.prog 24 #[.slice A ls.length c] W fun e w' => ∃ A1 c1, e = .returned (.slice A1 ls.length c1) ∧ zT w' W.heap.size (.slice A1 ls.length c1) ls ∧ Below W.heap.size W w') := zH (fun W hb => (zf9 A ls.length c ls W rfl (by omega) ((hA.below hb1).below hb)).mono (fun e w' ⟨v, h1, h2, h3⟩ => by
  obtain ⟨A1, c1, rfl, _⟩ := h2.slice
  exact ⟨A1, c1, h1, h2, h3⟩))
 have HC2 : Hid (∀ W, Below W3.heap.size W3 W → Calls Tryz.prog 24 #[.slice B ss.length d] W fun e w' => ∃ A1 c1, e = .returned (.slice A1 ss.length c1) ∧ zT w' W.heap.size (.slice A1 ss.length c1) ss ∧ Below W.heap.size W w') := zH (fun W hb => (zf9 B ss.length d ss W rfl (by omega) ((hB.below hb1).below hb)).mono (fun e w' ⟨v, h1, h2, h3⟩ => by
  obtain ⟨A1, c1, rfl, _⟩ := h2.slice
  exact ⟨A1, c1, h1, h2, h3⟩))
 have a0 : W3.cell? ⟨w.heap.size, 0, none⟩ = some (.int .i64 op) := hx1.cell 0
 have a1 : W3.cell? ⟨w.heap.size, 1, none⟩ = some (.int .i64 a) := hx1.cell 1
 have a2 : W3.cell? ⟨w.heap.size + 1, 0, none⟩ = some (.slice A ls.length c) := hx2.cell 0
 have a3 : W3.cell? ⟨w.heap.size + 1, 1, none⟩ = some (.slice B ss.length d) := hx2.cell 1
 have HDOH := zH HDO
 have HEnd := zH (show endP R = if R.2.2 = true ∧ R.2.1.length ≤ 16 then some (R.1, R.2.1) else none from rfl)
 clear e1 e2 hx1 hx2 hx3 hb1 hA hB HDO
 go_enter Tryz.func9, Tryz.ntmps9
 go_wp2_with fail
 clear hW3
 have hB0 := Below.refl W3.heap.size W3
 have hB1 := hB0.drew
 go_region_held3 (fun w' => w'.cell? ⟨w.heap.size, 0, none⟩ = some (.int .i64 op) ∧ w'.cell? ⟨w.heap.size, 1, none⟩ = some (.int .i64 a) ∧ w'.cell? ⟨w.heap.size + 1, 0, none⟩ = some (.slice A ls.length c) ∧ w'.cell? ⟨w.heap.size + 1, 1, none⟩ = some (.slice B ss.length d))
  (first | (with_reducible exact ⟨a0, a1, a2, a3⟩) | (with_reducible exact ⟨x0, x1, x2, x3⟩) | (with_reducible exact ⟨y0, y1, y2, y3⟩) | go_keep)
  (first
   | (go_at_call 24
      have hG := hG1
      clear hG
      with_reducible refine (HC2.out _ hB4).mono ?_
      rintro e w5 ⟨A5, c5, rfl, ho5, hb5⟩
      have hB5 := hB4.trans (hb5.mono hB4.size)
      have y0 : w5.cell? ⟨w.heap.size, 0, none⟩ = some (.int .i64 op) := (H1.out.after hB5).cell 0
      have y1 : w5.cell? ⟨w.heap.size, 1, none⟩ = some (.int .i64 a) := (H1.out.after hB5).cell 1
      have y2 : w5.cell? ⟨w.heap.size + 1, 0, none⟩ = some (.slice A ls.length c) := (H2.out.after hB5).cell 0
      have y3 : w5.cell? ⟨w.heap.size + 1, 1, none⟩ = some (.slice B ss.length d) := (H2.out.after hB5).cell 1
      try
       have hQ := hP1.after hb5
       have q0 : w5.cell? ⟨W3.heap.size, 0, none⟩ = some (.pointer none) := hQ.cell 0
       have r0 : w5.frozen? ⟨W3.heap.size, 0, none⟩ = false := hQ.free 0
       have q1 : w5.cell? ⟨W3.heap.size, 1, none⟩ = some (.slice none 0 0) := hQ.cell 1
       have r1 : w5.frozen? ⟨W3.heap.size, 1, none⟩ = false := hQ.free 1
       have q2 : w5.cell? ⟨W3.heap.size, 2, none⟩ = some (.string ⟨#[]⟩) := hQ.cell 2
       have r2 : w5.frozen? ⟨W3.heap.size, 2, none⟩ = false := hQ.free 2
       have q3 : w5.cell? ⟨W3.heap.size, 3, none⟩ = some (.int .i64 0) := hQ.cell 3
       have r3 : w5.frozen? ⟨W3.heap.size, 3, none⟩ = false := hQ.free 3
       have q4 : w5.cell? ⟨W3.heap.size, 4, none⟩ = some (.int .i64 0) := hQ.cell 4
       have r4 : w5.frozen? ⟨W3.heap.size, 4, none⟩ = false := hQ.free 4
       have q5 : w5.cell? ⟨W3.heap.size, 5, none⟩ = some (.slice none 0 0) := hQ.cell 5
       have r5 : w5.frozen? ⟨W3.heap.size, 5, none⟩ = false := hQ.free 5
       have q6 : w5.cell? ⟨W3.heap.size, 6, none⟩ = some (.slice none 0 0) := hQ.cell 6
       have r6 : w5.frozen? ⟨W3.heap.size, 6, none⟩ = false := hQ.free 6
       have ql := hQ.lt
       have hz : w.heap.size + 2 < W3.heap.size := hs3a
       have n0 : ¬ W3.heap.size = w.heap.size := by omega
       have n1 : ¬ w.heap.size = W3.heap.size := by omega
       have n2 : ¬ W3.heap.size = w.heap.size + 1 := by omega
       have n3 : ¬ w.heap.size + 1 = W3.heap.size := by omega
       have n4 : ¬ W3.heap.size = w.heap.size + 1 + 1 := by omega
       have n5 : ¬ w.heap.size + 1 + 1 = W3.heap.size := by omega)
   | (go_at_call 24
      have hG := hG1
      clear hG
      with_reducible refine (HC2.out _ (hB4.alloc hB4.size _)).mono ?_
      rintro e w5 ⟨A5, c5, rfl, ho5, hb5⟩
      have hP2 := (Bx.new w4 #[.pointer none, .slice none 0 0, .string ⟨#[]⟩, .int .i64 0, .int .i64 0, .slice none 0 0, .slice none 0 0] 66).after hb5
      have hB5 := (hB4.alloc hB4.size _).trans (hb5.mono (hB4.alloc hB4.size _).size)
      have y0 : w5.cell? ⟨w.heap.size, 0, none⟩ = some (.int .i64 op) := (H1.out.after hB5).cell 0
      have y1 : w5.cell? ⟨w.heap.size, 1, none⟩ = some (.int .i64 a) := (H1.out.after hB5).cell 1
      have y2 : w5.cell? ⟨w.heap.size + 1, 0, none⟩ = some (.slice A ls.length c) := (H2.out.after hB5).cell 0
      have y3 : w5.cell? ⟨w.heap.size + 1, 1, none⟩ = some (.slice B ss.length d) := (H2.out.after hB5).cell 1
      have q0 : w5.cell? ⟨w4.heap.size, 0, none⟩ = some (.pointer none) := hP2.cell 0
      have r0 : w5.frozen? ⟨w4.heap.size, 0, none⟩ = false := hP2.free 0
      have q1 : w5.cell? ⟨w4.heap.size, 1, none⟩ = some (.slice none 0 0) := hP2.cell 1
      have r1 : w5.frozen? ⟨w4.heap.size, 1, none⟩ = false := hP2.free 1
      have q2 : w5.cell? ⟨w4.heap.size, 2, none⟩ = some (.string ⟨#[]⟩) := hP2.cell 2
      have r2 : w5.frozen? ⟨w4.heap.size, 2, none⟩ = false := hP2.free 2
      have q3 : w5.cell? ⟨w4.heap.size, 3, none⟩ = some (.int .i64 0) := hP2.cell 3
      have r3 : w5.frozen? ⟨w4.heap.size, 3, none⟩ = false := hP2.free 3
      have q4 : w5.cell? ⟨w4.heap.size, 4, none⟩ = some (.int .i64 0) := hP2.cell 4
      have r4 : w5.frozen? ⟨w4.heap.size, 4, none⟩ = false := hP2.free 4
      have q5 : w5.cell? ⟨w4.heap.size, 5, none⟩ = some (.slice none 0 0) := hP2.cell 5
      have r5 : w5.frozen? ⟨w4.heap.size, 5, none⟩ = false := hP2.free 5
      have q6 : w5.cell? ⟨w4.heap.size, 6, none⟩ = some (.slice none 0 0) := hP2.cell 6
      have r6 : w5.frozen? ⟨w4.heap.size, 6, none⟩ = false := hP2.free 6
      have ql := hP2.lt
      have hz : w.heap.size + 2 < w4.heap.size := by have := hB4.size; omega
      have n0 : ¬ w4.heap.size = w.heap.size := by omega
      have n1 : ¬ w.heap.size = w4.heap.size := by omega
      have n2 : ¬ w4.heap.size = w.heap.size + 1 := by omega
      have n3 : ¬ w.heap.size + 1 = w4.heap.size := by omega
      have n4 : ¬ w4.heap.size = w.heap.size + 1 + 1 := by omega
      have n5 : ¬ w.heap.size + 1 + 1 = w4.heap.size := by omega)
   | (go_at_call 24
      with_reducible refine (HC1.out _ hB1).mono ?_
      rintro e w4 ⟨A4, c4, rfl, ho4, hb4⟩
      have hG1 := hb4
      have hB4 := hB1.trans (hb4.mono hB1.size)
      have x0 : w4.cell? ⟨w.heap.size, 0, none⟩ = some (.int .i64 op) := (H1.out.after hB4).cell 0
      have x1 : w4.cell? ⟨w.heap.size, 1, none⟩ = some (.int .i64 a) := (H1.out.after hB4).cell 1
      have x2 : w4.cell? ⟨w.heap.size + 1, 0, none⟩ = some (.slice A ls.length c) := (H2.out.after hB4).cell 0
      have x3 : w4.cell? ⟨w.heap.size + 1, 1, none⟩ = some (.slice B ss.length d) := (H2.out.after hB4).cell 1)
   | (go_at_call 24
      with_reducible refine (HC1.out _ (hB0.alloc hB0.size _).drew).mono ?_
      rintro e w4 ⟨A4, c4, rfl, ho4, hb4⟩
      have hP1 := Bx.after (w := (W3.alloc (.cells #[.pointer none, .slice none 0 0, .string ⟨#[]⟩, .int .i64 0, .int .i64 0, .slice none 0 0, .slice none 0 0] 66)).drew) (Bx.new W3 #[.pointer none, .slice none 0 0, .string ⟨#[]⟩, .int .i64 0, .int .i64 0, .slice none 0 0, .slice none 0 0] 66) hb4
      have hG1 := hb4
      have hB4 := (hB0.alloc hB0.size _).drew.trans (hb4.mono (hB0.alloc hB0.size _).drew.size)
      have x0 : w4.cell? ⟨w.heap.size, 0, none⟩ = some (.int .i64 op) := (H1.out.after hB4).cell 0
      have x1 : w4.cell? ⟨w.heap.size, 1, none⟩ = some (.int .i64 a) := (H1.out.after hB4).cell 1
      have x2 : w4.cell? ⟨w.heap.size + 1, 0, none⟩ = some (.slice A ls.length c) := (H2.out.after hB4).cell 0
      have x3 : w4.cell? ⟨w.heap.size + 1, 1, none⟩ = some (.slice B ss.length d) := (H2.out.after hB4).cell 1))
 · rename_i hHeld
   have l5 : zT w5 W3.heap.size (.slice A4 ls.length c4) ls := YJ ho4 hb5
   have s5 : zT w5 W3.heap.size (.slice A5 ss.length c5) ss := Z6 ho5 hB4.size
   have HSt := zH (Zj0 (t := t) (kc := .slice kA km kc) (gv := gv) (op := op) (a := a) hB5.size l5 s5 (Uq ho4 ho5 (Nat.le_refl _)))
   have HBB := zH (hB5.alloc hB5.size (.cells (stV t (.slice kA km kc) gv op a (.slice A4 ls.length c4) (.slice A5 ss.length c5)) 66))
   simp only [stV] at HSt HBB
   clear hHeld x0 x1 x2 x3 y0 y1 y2 y3 hB4 hB5 hb4 hb5 hG1 ho4 ho5 l5 s5
   generalize w5.alloc (.cells #[.pointer (some ⟨t, 0, none⟩), .slice kA km kc, .string ⟨gv.toArray⟩, .int .i64 op, .int .i64 a, .slice A4 ls.length c4, .slice A5 ss.length c5] 66) = WF at *
   generalize w5.heap.size = bb at *
   have HD := zH (HDOH.out _ _ _ _ _ (HB3.out.trans (HBB.out.mono HB3.out.size)) HB3.out.size HSt.out)
   clear HSt hB0 hB1 a0 a1 a2 a3 HDOH H1 H2 HC1 HC2
   generalize endP R = F at *
   obtain ⟨l2, s2, ok⟩ := R
   simp only at HD HEnd
   go_wp2_with fail
   refine HD.out.mono ?_
   rintro e w6 ⟨rfl, ⟨LV6, SV6, hst⟩, hb⟩
   obtain ⟨A6, c6, rfl, _, _, r6, ha6⟩ := hst.stk.slice
   obtain ⟨A7, c7, rfl, _, _, r7, ha7⟩ := hst.loc.slice
   have q5 : w6.cell? ⟨bb, 5, none⟩ = some (.slice A7 l2.length c7) := hst.box.cell 5
   have q6 : w6.cell? ⟨bb, 6, none⟩ = some (.slice A6 s2.length c6) := hst.box.cell 6
   have qlt := hst.box.lt
   have X6 := zH (H3.out.after (HBB.out.trans hb))
   have g0 := X6.out.free 0
   have g1 := X6.out.free 1
   have k0 : w6.cell? ⟨w.heap.size + 1 + 1, 0, none⟩ = some (.slice none 0 0) := X6.out.cell 0
   have k1 : w6.cell? ⟨w.heap.size + 1 + 1, 1, none⟩ = some (.slice none 0 0) := X6.out.cell 1
   have klt := X6.out.lt
   have HB6 := zH (HB3.out.trans ((HBB.out.trans hb).mono HB3.out.size))
   have R6 := zH r6
   have R7 := zH r7
   have HA6 : Hid (∀ a, A6 = some a → a.block ≠ w.heap.size + 1 + 1) := zH (fun a ha => by have := (ha6 a ha).1; omega)
   have HA7 : Hid (∀ a, A7 = some a → a.block ≠ w.heap.size + 1 + 1) := zH (fun a ha => by have := (ha7 a ha).1; omega)
   clear hst hb r6 r7 ha6 ha7 HD H3 HB3 HBB
   cases ok
   · have HF := zH (show F = none from HEnd.out)
     go_wp2_with fail
     have HW := KndS.Zw X6.out (.slice none 0 0) (.slice none 0 0)
     rw [HF.out]
     exact bodyPost_ret (v := .tuple #[.agg #[.slice none 0 0, .slice none 0 0], .int .i64 16]) (zX Tryz.results9 _ _ _ _ rfl (run_loadVar_row _ _ _ _ #[.slice none 0 0, .slice none 0 0] (0, 0) _ HW Tryz.underlying34 rfl jW)) rfl ⟨rfl, KndS.zQ HB6.out (by omega) _ _⟩
   · by_cases h16 : s2.length ≤ 16
     · have HF := zH (show F = some (l2, s2) by rw [HEnd.out, if_pos ⟨rfl, h16⟩])
       go_wp2_with fail
       have HW := KndS.Zw X6.out (.slice A7 l2.length c7) (.slice A6 s2.length c6)
       rw [HF.out]
       exact bodyPost_ret (v := .tuple #[.agg #[.slice A7 l2.length c7, .slice A6 s2.length c6], .int .i64 0]) (zX Tryz.results9 _ _ _ _ rfl (run_loadVar_row _ _ _ _ #[.slice A7 l2.length c7, .slice A6 s2.length c6] (0, 0) _ HW Tryz.underlying34 rfl jW)) rfl
        ⟨⟨A7, c7, A6, c6, rfl, KndS.qN R7.out _ _ HA7.out, KndS.qN R6.out _ _ HA6.out⟩, KndS.zQ HB6.out (by omega) _ _⟩
     · have HF := zH (show F = none by rw [HEnd.out, if_neg (by simp; omega)])
       have h17 : 16 < s2.length := by omega
       go_wp2_with fail
       have HW := KndS.Zw X6.out (.slice none 0 0) (.slice none 0 0)
       rw [HF.out]
       exact bodyPost_ret (v := .tuple #[.agg #[.slice none 0 0, .slice none 0 0], .int .i64 16]) (zX Tryz.results9 _ _ _ _ rfl (run_loadVar_row _ _ _ _ #[.slice none 0 0, .slice none 0 0] (0, 0) _ HW Tryz.underlying34 rfl jW)) rfl ⟨rfl, KndS.zQ HB6.out (by omega) _ _⟩
 · rename_i hHeld
   have l5 : zT w5 W3.heap.size (.slice A4 ls.length c4) ls := YJ (World.ownsRow.alloc ho4 _) hb5
   have s5 : zT w5 W3.heap.size (.slice A5 ss.length c5) ss := Z6 ho5 (hB4.alloc hB4.size _).size
   have HSt := zH (zn6 (t := t) (kc := .slice kA km kc) (gv := gv) (op := op) (a := a) hB4.size hP2 l5 s5 (fun e => by have := (World.ownsRow.lt ho4 _ e).2; omega) (fun e => by have := (World.ownsRow.lt ho5 _ e).1; simp at this; omega) (Uq ho4 ho5 (by simp)))
   have HBB := zH (UY hB5 hB4.size (.pointer (some ⟨t, 0, none⟩)) (.slice kA km kc) (.string ⟨gv.toArray⟩) (.int .i64 op) (.int .i64 a) (.slice A4 ls.length c4) (.slice A5 ss.length c5))
   rw [zb6]
   clear hHeld x0 x1 x2 x3 y0 y1 y2 y3 hB4 hB5 hb4 hb5 hG1 ho4 ho5 l5 s5 hP2 q0 q1 q2 q3 q4 q5 q6 r0 r1 r2 r3 r4 r5 r6 ql hz n0 n1 n2 n3 n4 n5
   generalize sev w5 w4.heap.size (.pointer (some ⟨t, 0, none⟩)) (.slice kA km kc) (.string ⟨gv.toArray⟩) (.int .i64 op) (.int .i64 a) (.slice A4 ls.length c4) (.slice A5 ss.length c5) = WF at *
   generalize w4.heap.size = bb at *
   have HD := zH (HDOH.out _ _ _ _ _ (HB3.out.trans (HBB.out.mono HB3.out.size)) HB3.out.size HSt.out)
   clear HSt hB0 hB1 a0 a1 a2 a3 HDOH H1 H2 HC1 HC2
   generalize endP R = F at *
   obtain ⟨l2, s2, ok⟩ := R
   simp only at HD HEnd
   go_wp2_with fail
   refine HD.out.mono ?_
   rintro e w6 ⟨rfl, ⟨LV6, SV6, hst⟩, hb⟩
   obtain ⟨A6, c6, rfl, _, _, r6, ha6⟩ := hst.stk.slice
   obtain ⟨A7, c7, rfl, _, _, r7, ha7⟩ := hst.loc.slice
   have q5 : w6.cell? ⟨bb, 5, none⟩ = some (.slice A7 l2.length c7) := hst.box.cell 5
   have q6 : w6.cell? ⟨bb, 6, none⟩ = some (.slice A6 s2.length c6) := hst.box.cell 6
   have qlt := hst.box.lt
   have X6 := zH (H3.out.after (HBB.out.trans hb))
   have g0 := X6.out.free 0
   have g1 := X6.out.free 1
   have k0 : w6.cell? ⟨w.heap.size + 1 + 1, 0, none⟩ = some (.slice none 0 0) := X6.out.cell 0
   have k1 : w6.cell? ⟨w.heap.size + 1 + 1, 1, none⟩ = some (.slice none 0 0) := X6.out.cell 1
   have klt := X6.out.lt
   have HB6 := zH (HB3.out.trans ((HBB.out.trans hb).mono HB3.out.size))
   have R6 := zH r6
   have R7 := zH r7
   have HA6 : Hid (∀ a, A6 = some a → a.block ≠ w.heap.size + 1 + 1) := zH (fun a ha => by have := (ha6 a ha).1; omega)
   have HA7 : Hid (∀ a, A7 = some a → a.block ≠ w.heap.size + 1 + 1) := zH (fun a ha => by have := (ha7 a ha).1; omega)
   clear hst hb r6 r7 ha6 ha7 HD H3 HB3 HBB
   cases ok
   · have HF := zH (show F = none from HEnd.out)
     go_wp2_with fail
     have HW := KndS.Zw X6.out (.slice none 0 0) (.slice none 0 0)
     rw [HF.out]
     exact bodyPost_ret (v := .tuple #[.agg #[.slice none 0 0, .slice none 0 0], .int .i64 16]) (zX Tryz.results9 _ _ _ _ rfl (run_loadVar_row _ _ _ _ #[.slice none 0 0, .slice none 0 0] (0, 0) _ HW Tryz.underlying34 rfl jW)) rfl ⟨rfl, KndS.zQ HB6.out (by omega) _ _⟩
   · by_cases h16 : s2.length ≤ 16
     · have HF := zH (show F = some (l2, s2) by rw [HEnd.out, if_pos ⟨rfl, h16⟩])
       go_wp2_with fail
       have HW := KndS.Zw X6.out (.slice A7 l2.length c7) (.slice A6 s2.length c6)
       rw [HF.out]
       exact bodyPost_ret (v := .tuple #[.agg #[.slice A7 l2.length c7, .slice A6 s2.length c6], .int .i64 0]) (zX Tryz.results9 _ _ _ _ rfl (run_loadVar_row _ _ _ _ #[.slice A7 l2.length c7, .slice A6 s2.length c6] (0, 0) _ HW Tryz.underlying34 rfl jW)) rfl
        ⟨⟨A7, c7, A6, c6, rfl, KndS.qN R7.out _ _ HA7.out, KndS.qN R6.out _ _ HA6.out⟩, KndS.zQ HB6.out (by omega) _ _⟩
     · have HF := zH (show F = none by rw [HEnd.out, if_neg (by simp; omega)])
       have h17 : 16 < s2.length := by omega
       go_wp2_with fail
       have HW := KndS.Zw X6.out (.slice none 0 0) (.slice none 0 0)
       rw [HF.out]
       exact bodyPost_ret (v := .tuple #[.agg #[.slice none 0 0, .slice none 0 0], .int .i64 16]) (zX Tryz.results9 _ _ _ _ rfl (run_loadVar_row _ _ _ _ #[.slice none 0 0, .slice none 0 0] (0, 0) _ HW Tryz.underlying34 rfl jW)) rfl ⟨rfl, KndS.zQ HB6.out (by omega) _ _⟩
 · rename_i hHeld
   have l5 : zT w5 W3.heap.size (.slice A4 ls.length c4) ls := YJ (Z6 ho4 (by simp)) hb5
   have s5 : zT w5 W3.heap.size (.slice A5 ss.length c5) ss := Z6 ho5 hB4.size
   have HSt := zH (zn6 (t := t) (kc := .slice kA km kc) (gv := gv) (op := op) (a := a) (Nat.le_refl W3.heap.size) hQ l5 s5 (fun e => by have := (World.ownsRow.lt ho4 _ e).1; simp at this; omega) (fun e => by have := (World.ownsRow.lt ho5 _ e).1; have := hB4.size; have := hP1.lt; omega) (Uq ho4 ho5 (Nat.le_refl _)))
   have HBB := zH (UY hB5 (Nat.le_refl W3.heap.size) (.pointer (some ⟨t, 0, none⟩)) (.slice kA km kc) (.string ⟨gv.toArray⟩) (.int .i64 op) (.int .i64 a) (.slice A4 ls.length c4) (.slice A5 ss.length c5))
   rw [zb6]
   clear hHeld x0 x1 x2 x3 y0 y1 y2 y3 hB4 hB5 hb4 hb5 hG1 ho4 ho5 l5 s5 hP1 hQ q0 q1 q2 q3 q4 q5 q6 r0 r1 r2 r3 r4 r5 r6 ql hz n0 n1 n2 n3 n4 n5
   generalize sev w5 W3.heap.size (.pointer (some ⟨t, 0, none⟩)) (.slice kA km kc) (.string ⟨gv.toArray⟩) (.int .i64 op) (.int .i64 a) (.slice A4 ls.length c4) (.slice A5 ss.length c5) = WF at *
   have HD := zH (HDOH.out _ _ _ _ _ (HB3.out.trans (HBB.out.mono HB3.out.size)) HB3.out.size HSt.out)
   clear HSt hB0 hB1 a0 a1 a2 a3 HDOH H1 H2 HC1 HC2
   generalize endP R = F at *
   obtain ⟨l2, s2, ok⟩ := R
   simp only at HD HEnd
   go_wp2_with fail
   refine HD.out.mono ?_
   rintro e w6 ⟨rfl, ⟨LV6, SV6, hst⟩, hb⟩
   obtain ⟨A6, c6, rfl, _, _, r6, ha6⟩ := hst.stk.slice
   obtain ⟨A7, c7, rfl, _, _, r7, ha7⟩ := hst.loc.slice
   have q5 : w6.cell? ⟨W3.heap.size, 5, none⟩ = some (.slice A7 l2.length c7) := hst.box.cell 5
   have q6 : w6.cell? ⟨W3.heap.size, 6, none⟩ = some (.slice A6 s2.length c6) := hst.box.cell 6
   have qlt := hst.box.lt
   have X6 := zH (H3.out.after (HBB.out.trans hb))
   have g0 := X6.out.free 0
   have g1 := X6.out.free 1
   have k0 : w6.cell? ⟨w.heap.size + 1 + 1, 0, none⟩ = some (.slice none 0 0) := X6.out.cell 0
   have k1 : w6.cell? ⟨w.heap.size + 1 + 1, 1, none⟩ = some (.slice none 0 0) := X6.out.cell 1
   have klt := X6.out.lt
   have HB6 := zH (HB3.out.trans ((HBB.out.trans hb).mono HB3.out.size))
   have R6 := zH r6
   have R7 := zH r7
   have HA6 : Hid (∀ a, A6 = some a → a.block ≠ w.heap.size + 1 + 1) := zH (fun a ha => by have := (ha6 a ha).1; omega)
   have HA7 : Hid (∀ a, A7 = some a → a.block ≠ w.heap.size + 1 + 1) := zH (fun a ha => by have := (ha7 a ha).1; omega)
   clear hst hb r6 r7 ha6 ha7 HD H3 HB3 HBB
   cases ok
   · have HF := zH (show F = none from HEnd.out)
     go_wp2_with fail
     have HW := KndS.Zw X6.out (.slice none 0 0) (.slice none 0 0)
     rw [HF.out]
     exact bodyPost_ret (v := .tuple #[.agg #[.slice none 0 0, .slice none 0 0], .int .i64 16]) (zX Tryz.results9 _ _ _ _ rfl (run_loadVar_row _ _ _ _ #[.slice none 0 0, .slice none 0 0] (0, 0) _ HW Tryz.underlying34 rfl jW)) rfl ⟨rfl, KndS.zQ HB6.out (by omega) _ _⟩
   · by_cases h16 : s2.length ≤ 16
     · have HF := zH (show F = some (l2, s2) by rw [HEnd.out, if_pos ⟨rfl, h16⟩])
       go_wp2_with fail
       have HW := KndS.Zw X6.out (.slice A7 l2.length c7) (.slice A6 s2.length c6)
       rw [HF.out]
       exact bodyPost_ret (v := .tuple #[.agg #[.slice A7 l2.length c7, .slice A6 s2.length c6], .int .i64 0]) (zX Tryz.results9 _ _ _ _ rfl (run_loadVar_row _ _ _ _ #[.slice A7 l2.length c7, .slice A6 s2.length c6] (0, 0) _ HW Tryz.underlying34 rfl jW)) rfl
        ⟨⟨A7, c7, A6, c6, rfl, KndS.qN R7.out _ _ HA7.out, KndS.qN R6.out _ _ HA6.out⟩, KndS.zQ HB6.out (by omega) _ _⟩
     · have HF := zH (show F = none by rw [HEnd.out, if_neg (by simp; omega)])
       have h17 : 16 < s2.length := by omega
       go_wp2_with fail
       have HW := KndS.Zw X6.out (.slice none 0 0) (.slice none 0 0)
       rw [HF.out]
       exact bodyPost_ret (v := .tuple #[.agg #[.slice none 0 0, .slice none 0 0], .int .i64 16]) (zX Tryz.results9 _ _ _ _ rfl (run_loadVar_row _ _ _ _ #[.slice none 0 0, .slice none 0 0] (0, 0) _ HW Tryz.underlying34 rfl jW)) rfl ⟨rfl, KndS.zQ HB6.out (by omega) _ _⟩
theorem kP {w : World} {t g : Nat} {hr : Hr} {lo0 : Nat} (hlo : lo0 ≤ w.heap.size) (X : Tb lo0 w t g hr) (kA : Option Addr) (km kc : Nat) (gv : T) (op : Int) (hop : op = 10 ∨ op = 29) (A : Option Addr) (c : Nat) (ls : List T) (B : Option Addr) (d : Nat) (ss : List T) (hA : Rds w A (ls.map sv)) (hB : Rds w B (ss.map sv)) (hm : ss.length ≤ 500) (hl : ls.length ≤ 500) (hsl : ∀ x ∈ ss, x.length ≤ 140737488355328) :
 Calls Tryz.prog 9 #[.pointer (some ⟨t, 0, none⟩), .slice kA km kc, .string ⟨gv.toArray⟩, .agg #[.int .i64 op, .int .i64 0], .agg #[.slice A ls.length c, .slice B ss.length d]] w (ZO w (zn5 hr op ls ss)) :=
 ZC kA km kc gv op 0 A c ls B d ss hA hB hm hl (ls, (doP hr op ss).1, (doP hr op ss).2) (fun _ _ _ _ _ h1 h2 h3 => (Zl8 hop (KndS.Tb.mono (X.below (h1.mono hlo)) (Nat.le_trans hlo h2)) h3 (by omega) hsl).mono (fun _ _ h => U2 h))
end KndZ
namespace KndP
open Go.RowKit Base BinM Stru DescM DescW DescX DescS DescG DescP DescQ HierS HierT HierM HierC HierD HierN HierV HierR HierU HierY Kls KlsP KlsQ OpenK TabC TabM TabK TabP TabE TabB TabG TabH TabT TabU TabV TabX TabW TabF TabN TabO TabY TabR TabQ TabL TabZ KndB KndM EfA KndS
def thP (ss : List T) : List T × Bool := ((zi ss).2.1, Zr (zi ss).1)
theorem Qv {ss : List T} : (zi ss).2.1.length ≤ ss.length := by
 unfold zi
 split
 · exact Nat.zero_le _
 · simp
set_option maxRecDepth 100000 in
theorem Qm {lo b : Nat} {w : World} {t : Nat} {kc : Value} {gv : T} {op a : Int} {LV SV : Value} {ls ss : List T} (h : St lo b w t kc gv op a LV ls SV ss) (hm : ss.length ≤ 1000) (hsl : ∀ x ∈ ss, x.length ≤ 140737488355328) :
 Calls Tryz.prog 110 #[.pointer (some ⟨b, 0, none⟩)] w (zN lo b w t kc gv op a LV ls (thP ss).1 (.bool (thP ss).2)) := by
 have HP := zH (qO h hm)
 have hl := QT hsl
 unfold thP
 clear h hm hsl
 generalize zi ss = r at *
 obtain ⟨d, s2, ok⟩ := r
 simp only at HP hl ⊢
 go_enter Tryz.func110, Tryz.ntmps110
 go_wp2_with fail
 refine HP.out.mono ?_
 rintro e w1 ⟨rfl, hst, hb⟩
 have HE := zH (DescX.yK d w1 hl)
 have HS := zH hst
 have HB := zH hb
 clear hst hb
 go_wp2_with fail
 refine HE.out.mono ?_
 rintro e w2 ⟨rfl, rfl⟩
 go_wp2_with fail
 go_ret
 exact ⟨rfl, HS.out, HB.out⟩
set_option maxRecDepth 100000 in
set_option maxHeartbeats 1000000 in
theorem uw {lo b : Nat} {w : World} {t g : Nat} {hr : Hr} {kc : Value} {gv : T} {a : Int} {LV SV : Value} {ls ss : List T} (X : Tb lo w t g hr) (h : St lo b w t kc gv 42 a LV ls SV ss) (hm : ss.length ≤ 1000) (hsl : ∀ x ∈ ss, x.length ≤ 140737488355328) :
 Calls Tryz.prog 54 #[.pointer (some ⟨b, 0, none⟩)] w (zN lo b w t kc gv 42 a LV ls (tlP hr ss [[83], [83]] [[83]]).1 (.bool (tlP hr ss [[83], [83]] [[83]]).2)) := by
 have hal : Below w.heap.size w (w.alloc (.cells #[.string ⟨#[83]⟩, .string ⟨#[83]⟩] 9)) := (Below.refl _ _).alloc (Nat.le_refl _) _
 have HT := zH (qx (X.below (hal.mono h.los)) (h.ext hal) hm (some ⟨w.heap.size, 0, none⟩) 2 [[83], [83]] (by simp) (zB w #[sv [83], sv [83]] 9) hsl (by simp))
 have HB0 := zH (hal.mono h.los)
 have c3 : w.cell? ⟨b, 3, none⟩ = some (.int .i64 42) := h.box.cell 3
 have hlt := h.box.lt
 have hA : tlP hr ss [[83], [83]] [[83]] = if (zx hr ss [[83], [83]]).2 = true then ((zx hr ss [[83], [83]]).1 ++ [[83]], true) else (ss, false) := rfl
 have HA := zH hA
 have hle := Qg (h := hr) (ss := ss) (ds := [[83], [83]])
 have Hfl := zH (ZY (h := hr) (ss := ss) (ds := [[83], [83]]))
 clear h X hal hA hsl
 generalize tlP hr ss [[83], [83]] [[83]] = R at *
 generalize zx hr ss [[83], [83]] = r at *
 obtain ⟨s1, ok⟩ := r
 simp only at HT HA hle Hfl
 cases ok
 · have HR := zH (show R = (ss, false) from HA.out)
   have HF := zH (Hfl.out rfl)
   clear HA Hfl
   go_enter Tryz.func54, Tryz.ntmps54
   go_wp2_with fail
   refine (EfA.Zu (op := 42) (by decide) _).mono ?_
   rintro e w0 ⟨rfl, rfl⟩
   go_wp2_with fail
   refine HT.out.mono ?_
   rintro e w1 ⟨rfl, hst, hb⟩
   have HS := zH hst
   have HB := zH (HB0.out.trans hb)
   clear hst hb
   go_wp2_with fail
   go_ret
   rw [HR.out]
   exact ⟨rfl, by rw [← HF.out]; exact HS.out, HB.out⟩
 · have HR := zH (show R = (s1 ++ [[83]], true) from HA.out)
   clear HA Hfl
   go_enter Tryz.func54, Tryz.ntmps54
   go_wp2_with fail
   refine (EfA.Zu (op := 42) (by decide) _).mono ?_
   rintro e w0 ⟨rfl, rfl⟩
   go_wp2_with fail
   refine HT.out.mono ?_
   rintro e w1 ⟨rfl, ⟨SV1, hst⟩, hb⟩
   have HB := zH (HB0.out.trans hb)
   have hal2 : Below w1.heap.size w1 (w1.alloc (.cells #[.string ⟨#[83]⟩] 9)) := (Below.refl _ _).alloc (Nat.le_refl _) _
   have HL := zH (Zh (hst.ext hal2) (by omega) ⟨w1.heap.size, 0, none⟩ 1 [[83]] (by simp) (zB w1 #[sv [83]] 9))
   have HB3 := zH (HB.out.trans (hal2.mono hst.los))
   clear hst hb hal2 HT
   go_wp2_with fail
   refine HL.out.mono ?_
   rintro e w3 ⟨rfl, hst, hb⟩
   have HS3 := zH hst
   have HB4 := zH (HB3.out.trans hb)
   clear hst hb
   go_wp2_with fail
   go_ret
   rw [HR.out]
   exact ⟨rfl, HS3.out, HB4.out⟩
set_option maxRecDepth 100000 in
set_option maxHeartbeats 1000000 in
theorem uq {lo b : Nat} {w : World} {t g : Nat} {hr : Hr} {kc : Value} {gv : T} {a : Int} {LV SV : Value} {ls ss : List T} (X : Tb lo w t g hr) (h : St lo b w t kc gv 43 a LV ls SV ss) (hm : ss.length ≤ 1000) (hsl : ∀ x ∈ ss, x.length ≤ 140737488355328) :
 Calls Tryz.prog 54 #[.pointer (some ⟨b, 0, none⟩)] w (zN lo b w t kc gv 43 a LV ls (tlP hr ss [[83]] [[73]]).1 (.bool (tlP hr ss [[83]] [[73]]).2)) := by
 have hal : Below w.heap.size w (w.alloc (.cells #[.string ⟨#[83]⟩] 9)) := (Below.refl _ _).alloc (Nat.le_refl _) _
 have HT := zH (qx (X.below (hal.mono h.los)) (h.ext hal) hm (some ⟨w.heap.size, 0, none⟩) 1 [[83]] (by simp) (zB w #[sv [83]] 9) hsl (by simp))
 have HB0 := zH (hal.mono h.los)
 have c3 : w.cell? ⟨b, 3, none⟩ = some (.int .i64 43) := h.box.cell 3
 have hlt := h.box.lt
 have hA : tlP hr ss [[83]] [[73]] = if (zx hr ss [[83]]).2 = true then ((zx hr ss [[83]]).1 ++ [[73]], true) else (ss, false) := rfl
 have HA := zH hA
 have hle := Qg (h := hr) (ss := ss) (ds := [[83]])
 have Hfl := zH (ZY (h := hr) (ss := ss) (ds := [[83]]))
 clear h X hal hA hsl
 generalize tlP hr ss [[83]] [[73]] = R at *
 generalize zx hr ss [[83]] = r at *
 obtain ⟨s1, ok⟩ := r
 simp only at HT HA hle Hfl
 cases ok
 · have HR := zH (show R = (ss, false) from HA.out)
   have HF := zH (Hfl.out rfl)
   clear HA Hfl
   go_enter Tryz.func54, Tryz.ntmps54
   go_wp2_with fail
   refine (EfA.Zu (op := 43) (by decide) _).mono ?_
   rintro e w0 ⟨rfl, rfl⟩
   go_wp2_with fail
   refine HT.out.mono ?_
   rintro e w1 ⟨rfl, hst, hb⟩
   have HS := zH hst
   have HB := zH (HB0.out.trans hb)
   clear hst hb
   go_wp2_with fail
   go_ret
   rw [HR.out]
   exact ⟨rfl, by rw [← HF.out]; exact HS.out, HB.out⟩
 · have HR := zH (show R = (s1 ++ [[73]], true) from HA.out)
   clear HA Hfl
   go_enter Tryz.func54, Tryz.ntmps54
   go_wp2_with fail
   refine (EfA.Zu (op := 43) (by decide) _).mono ?_
   rintro e w0 ⟨rfl, rfl⟩
   go_wp2_with fail
   refine HT.out.mono ?_
   rintro e w1 ⟨rfl, ⟨SV1, hst⟩, hb⟩
   have HB := zH (HB0.out.trans hb)
   have hal2 : Below w1.heap.size w1 (w1.alloc (.cells #[.string ⟨#[73]⟩] 9)) := (Below.refl _ _).alloc (Nat.le_refl _) _
   have HL := zH (Zh (hst.ext hal2) (by omega) ⟨w1.heap.size, 0, none⟩ 1 [[73]] (by simp) (zB w1 #[sv [73]] 9))
   have HB3 := zH (HB.out.trans (hal2.mono hst.los))
   clear hst hb hal2 HT
   go_wp2_with fail
   refine HL.out.mono ?_
   rintro e w3 ⟨rfl, hst, hb⟩
   have HS3 := zH hst
   have HB4 := zH (HB3.out.trans hb)
   clear hst hb
   go_wp2_with fail
   go_ret
   rw [HR.out]
   exact ⟨rfl, HS3.out, HB4.out⟩
set_option maxRecDepth 100000 in
set_option maxHeartbeats 1000000 in
theorem Vq {lo b : Nat} {w : World} {t : Nat} {kc : Value} {gv : T} {a : Int} {LV SV : Value} {ls ss : List T} (h : St lo b w t kc gv 5 a LV ls SV ss) (hm : ss.length ≤ 1000) :
 Calls Tryz.prog 54 #[.pointer (some ⟨b, 0, none⟩)] w (zN lo b w t kc gv 5 a LV ls (ss ++ [[78]]) (.bool true)) := by
 have hal : Below w.heap.size w (w.alloc (.cells #[.string ⟨#[78]⟩] 9)) := (Below.refl _ _).alloc (Nat.le_refl _) _
 have HL := zH (Zh (h.ext hal) hm ⟨w.heap.size, 0, none⟩ 1 [[78]] (by simp) (zB w #[sv [78]] 9))
 have HB0 := zH (hal.mono h.los)
 have c3 : w.cell? ⟨b, 3, none⟩ = some (.int .i64 5) := h.box.cell 3
 have hlt := h.box.lt
 clear h hal
 go_enter Tryz.func54, Tryz.ntmps54
 go_wp2_with fail
 refine (EfA.Zu (op := 5) (by decide) _).mono ?_
 rintro e w0 ⟨rfl, rfl⟩
 go_wp2_with fail
 refine HL.out.mono ?_
 rintro e w1 ⟨rfl, hst, hb⟩
 have HS := zH hst
 have HB := zH (HB0.out.trans hb)
 clear hst hb
 go_wp2_with fail
 go_ret
 exact ⟨rfl, HS.out, HB.out⟩
set_option maxRecDepth 100000 in
set_option maxHeartbeats 1000000 in
theorem uy {lo b : Nat} {w : World} {t : Nat} {kc : Value} {gv : T} {a : Int} {LV SV : Value} {ls ss : List T} (h : St lo b w t kc gv 41 a LV ls SV ss) (hm : ss.length ≤ 1000) :
 Calls Tryz.prog 54 #[.pointer (some ⟨b, 0, none⟩)] w (zN lo b w t kc gv 41 a LV ls (ss ++ [[73]]) (.bool true)) := by
 have hal : Below w.heap.size w (w.alloc (.cells #[.string ⟨#[73]⟩] 9)) := (Below.refl _ _).alloc (Nat.le_refl _) _
 have HL := zH (Zh (h.ext hal) hm ⟨w.heap.size, 0, none⟩ 1 [[73]] (by simp) (zB w #[sv [73]] 9))
 have HB0 := zH (hal.mono h.los)
 have c3 : w.cell? ⟨b, 3, none⟩ = some (.int .i64 41) := h.box.cell 3
 have hlt := h.box.lt
 clear h hal
 go_enter Tryz.func54, Tryz.ntmps54
 go_wp2_with fail
 refine (EfA.Zu (op := 41) (by decide) _).mono ?_
 rintro e w0 ⟨rfl, rfl⟩
 go_wp2_with fail
 refine HL.out.mono ?_
 rintro e w1 ⟨rfl, hst, hb⟩
 have HS := zH hst
 have HB := zH (HB0.out.trans hb)
 clear hst hb
 go_wp2_with fail
 go_ret
 exact ⟨rfl, HS.out, HB.out⟩
set_option maxRecDepth 100000 in
set_option maxHeartbeats 1000000 in
theorem uE {lo b : Nat} {w : World} {t : Nat} {kc : Value} {gv : T} {a : Int} {LV SV : Value} {ls ss : List T} (h : St lo b w t kc gv 36 a LV ls SV ss) (hm : ss.length ≤ 1000) (hsl : ∀ x ∈ ss, x.length ≤ 140737488355328) :
 Calls Tryz.prog 54 #[.pointer (some ⟨b, 0, none⟩)] w (zN lo b w t kc gv 36 a LV ls (thP ss).1 (.bool (thP ss).2)) := by
 have HL := zH (Qm h hm hsl)
 have c3 : w.cell? ⟨b, 3, none⟩ = some (.int .i64 36) := h.box.cell 3
 have hlt := h.box.lt
 clear h hsl
 generalize thP ss = r at *
 obtain ⟨s2, ok⟩ := r
 go_enter Tryz.func54, Tryz.ntmps54
 go_wp2_with fail
 refine (EfA.Zu (op := 36) (by decide) _).mono ?_
 rintro e w0 ⟨rfl, rfl⟩
 go_wp2_with fail
 refine HL.out.mono ?_
 rintro e w1 ⟨rfl, hst, hb⟩
 have HS := zH hst
 have HB := zH hb
 clear hst hb
 go_wp2_with fail
 go_ret
 exact ⟨rfl, HS.out, HB.out⟩
set_option maxRecDepth 100000 in
set_option maxHeartbeats 1000000 in
theorem uD {lo b : Nat} {w : World} {t : Nat} {kc : Value} {gv : T} {a : Int} {LV SV : Value} {ls ss : List T} (h : St lo b w t kc gv 37 a LV ls SV ss) (hm : ss.length ≤ 1000) (hsl : ∀ x ∈ ss, x.length ≤ 140737488355328) :
 Calls Tryz.prog 54 #[.pointer (some ⟨b, 0, none⟩)] w (zN lo b w t kc gv 37 a LV ls (thP ss).1 (.bool (thP ss).2)) := by
 have HL := zH (Qm h hm hsl)
 have c3 : w.cell? ⟨b, 3, none⟩ = some (.int .i64 37) := h.box.cell 3
 have hlt := h.box.lt
 clear h hsl
 generalize thP ss = r at *
 obtain ⟨s2, ok⟩ := r
 go_enter Tryz.func54, Tryz.ntmps54
 go_wp2_with fail
 refine (EfA.Zu (op := 37) (by decide) _).mono ?_
 rintro e w0 ⟨rfl, rfl⟩
 go_wp2_with fail
 refine HL.out.mono ?_
 rintro e w1 ⟨rfl, hst, hb⟩
 have HS := zH hst
 have HB := zH hb
 clear hst hb
 go_wp2_with fail
 go_ret
 exact ⟨rfl, HS.out, HB.out⟩
end KndP
end Go.Proofs.YtehainbhoflpnaaGreatDoor
