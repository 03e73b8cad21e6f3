/- pieces -/
import Derived.Test.YtehainbhoflpnaaGreatDoorK39
namespace Go.Proofs.YtehainbhoflpnaaGreatDoor
namespace KrJ
open Go.RowKit Base BinM Stru DescM DescW DescX DescR DescS DescG DescP DescQ HierS HierT HierM HierC HierD HierN HierV HierR HierU HierY HierQ Kls KlsP KlsQ OpenK InsM InsB InsC InsA TabC TabM TabK TabP TabE TabB TabG TabH TabT TabU TabV TabX TabW TabF TabN TabO TabY TabR TabQ TabL KndM KndS KndV KndZ KrS KrA KrP KrB
set_option maxRecDepth 100000 in
theorem jr {ops : Array Oper} {o : Oper} {a : Act} {w : World} {K : Act → World → Prop} {Q : Exit → Act → World → Prop} {E : Prop} (hgd : o.guard = none) (s x : Operand)
 (ho : o.op = .call { callee := .builtin .append, args := #[s, x], argTypes := #[25, 25] })
 (base : Nat) (v : Value) (p : List T) (hs : a.eval s = v) (hown : zT w base v p) (A : Option Addr) (m c : Nat) (l : List T) (hx : a.eval x = .slice A m c)
 (hm : m = l.length) (hr : Rds w A (l.map sv)) (hlen : p.length + l.length ≤ 1048576) (hbase : base ≤ w.heap.size)
 (h : ∀ v' w', zT w' base v' (p ++ l) → w.grownBy w' v.ownBlock → K (a.put o.dst v') w') : if Region.wanted o (yielded ops a.tmps) = true then Oper.wp Tryz.prog o a w K Q else E := by
 have hw : Region.wanted o (yielded ops a.tmps) = true := by simp [Region.wanted, hgd]
 rw [if_pos hw]
 obtain ⟨i0, hi, hz, hs1, hb1⟩ := info_parts HierM.Xm
 refine QN s x 25 ho base 9 i0 _ 16 Tryz.underlying25 hi hz hs1 hb1 rfl v p.length (p.map sv) hs hown A m c (l.map sv) hx (by rw [List.length_map, hm]) hr (uN l) (by unfold maxLen; omega) (by omega) hbase ?_
 intro v' w' h1 h2
 refine h v' w' ?_ h2
 unfold zT
 rw [List.length_append, List.map_append, ← hm]
 exact h1
theorem qc : (Tryz.prog.info? 27).map (·.size) = some 2 := by kernel_rfl
theorem zo {W w' : World} {b q : Nat} {C : Array Value} {t : TypeId} (h : Bx W q C t) (hg : W.grownBy w' (some b)) (hn : q ≠ b) : Bx w' q C t := (hg.block q h.lt (fun e => by injection e with e; omega)).trans h
theorem ZF {w w' : World} (h : w.grownBy w' none) : Below w.heap.size w w' := (Below.refl _ _).grown h (Nat.le_refl _) (fun k hk => by cases hk)
theorem xD {w : World} {A : Option Addr} {xs : List Value} (h : Rds w A xs) (hne : xs ≠ []) : ∀ a, A = some a → a.block < w.heap.size := by
 rcases h with h | ⟨b, o, rfl, hb, _⟩
 · exact absurd h hne
 · intro a ha
   cases ha
   exact hb
set_option maxRecDepth 100000 in
set_option maxHeartbeats 4000000 in
theorem ZK {w : World} {r : Nat} (_hrw : r < w.heap.size) (kA : Option Addr) (km kc : Nat) (gv : T) (op a : Int) (A : Option Addr) (c : Nat) (ls : List T) (B : Option Addr) (d : Nat) (ss : List T) (hA : Rds w A (ls.map sv)) (hB : Rds w B (ss.map sv)) (hd : ss.length ≤ d) (hd2 : d ≤ maxLen) (_hm : ss.length ≤ 500) (hl : ls.length ≤ 500)
 (ks : List Cst) (hk : Zq w kA km kc ks) (k : Int) (hki : Zv op = k) (hk1 : 1 ≤ k) (hk5 : k ≤ 5) (i : Nat) (ha : a = (i : Int)) (hi : i < ks.length) (hkk : ks[i].kind = k) (S : RS) (hS : S.1.length ≤ 600)
 (HP : ∀ W b, Below w.heap.size w W → w.heap.size ≤ b → Sk W b r ss false → Calls Tryz.prog 30 #[.pointer (some ⟨b, 0, none⟩), .int .i64 op, jf ks[i]] W (zw W b r S)) :
 Calls Tryz.prog 10 #[.pointer (some ⟨r, 0, none⟩), .slice kA km kc, .string ⟨gv.toArray⟩, .agg #[.int .i64 op, .int .i64 a], .agg #[.slice A ls.length c, .slice B ss.length d]] w (ZO w (endP (ls, S.1, !S.2))) := by
 have hb1 : Below w.heap.size w (((w.alloc (.cells #[.int .i64 op, .int .i64 a] 24)).alloc (.cells #[.slice A ls.length c, .slice B ss.length d] 27)).alloc (.cells #[.slice none 0 0, .slice none 0 0] 27)) := (((Below.refl _ _).alloc (Nat.le_refl _) _).alloc (by simp) _).alloc (by simp; omega) _
 have e1 : (w.alloc (.cells #[.int .i64 op, .int .i64 a] 24)).heap.size = w.heap.size + 1 := by simp
 have e2 : ((w.alloc (.cells #[.int .i64 op, .int .i64 a] 24)).alloc (.cells #[.slice A ls.length c, .slice B ss.length d] 27)).heap.size = w.heap.size + 1 + 1 := by simp
 have hx1 := TabZ.Zn (TabZ.Zn (Bx.new w #[.int .i64 op, .int .i64 a] 24) (.cells #[.slice A ls.length c, .slice B ss.length d] 27)) (.cells #[.slice none 0 0, .slice none 0 0] 27)
 have hx2 := TabZ.Zn (Bx.new (w.alloc (.cells #[.int .i64 op, .int .i64 a] 24)) #[.slice A ls.length c, .slice B ss.length d] 27) (.cells #[.slice none 0 0, .slice none 0 0] 27)
 have hx3 := Bx.new ((w.alloc (.cells #[.int .i64 op, .int .i64 a] 24)).alloc (.cells #[.slice A ls.length c, .slice B ss.length d] 27)) #[.slice none 0 0, .slice none 0 0] 27
 rw [e1] at hx2
 rw [e2] at hx3
 have hs3 : (((w.alloc (.cells #[.int .i64 op, .int .i64 a] 24)).alloc (.cells #[.slice A ls.length c, .slice B ss.length d] 27)).alloc (.cells #[.slice none 0 0, .slice none 0 0] 27)).heap.size = w.heap.size + 3 := by simp
 obtain ⟨W3, hW3⟩ : ∃ W, (((w.alloc (.cells #[.int .i64 op, .int .i64 a] 24)).alloc (.cells #[.slice A ls.length c, .slice B ss.length d] 27)).alloc (.cells #[.slice none 0 0, .slice none 0 0] 27)) = W := ⟨_, rfl⟩
 rw [hW3] at hb1 hx1 hx2 hx3 hs3
 have hs3a : w.heap.size + 2 < W3.heap.size := by omega
 have Hs3 := zH hs3
 clear hs3
 have HB3 := zH hb1
 have H1 := zH hx1
 have H2 := zH hx2
 have H3 := zH hx3
 have HBl := zH (fun (hne : ss ≠ []) => xD hB (by simpa using hne))
 have RA := zH (hA.below hb1)
 have RB := zH (hB.below hb1)
 have a0 : W3.cell? ⟨w.heap.size, 0, none⟩ = some (.int .i64 op) := hx1.cell 0
 have HKi := zH (qR op W3)
 unfold InsB.Ql at HKi
 rw [hki] at HKi
 obtain ⟨kg, ko, rfl, hkg, kd0, kd1, kd2, kd3, kd4⟩ := Qy hk.rds hi
 have hkm := hk.len
 subst ha
 have HHP := zH HP
 have HD := zH (And.intro kd0 (And.intro kd1 (And.intro kd2 (And.intro kd3 kd4))))
 unfold jf at HHP
 have hii : (i : Int) < (km : Int) := by omega
 have hi0 : (0 : Int) ≤ (i : Int) := by omega
 have hk6 : ¬ k = 6 := by omega
 clear hk HP kd0 kd1 kd2 kd3 kd4 hki
 generalize ks[i] = z at *
 obtain ⟨zk, zn, zs, zt, zu⟩ := z
 simp only at HD HHP hkk
 subst hkk
 have hl1 := hx1.lt
 clear e1 e2 hx1 hx2 hx3 hb1 hA hB
 go_enter Tryz.func10, Tryz.ntmps10
 go_wp2_with fail
 refine HKi.out.mono ?_
 rintro e w4 ⟨rfl, hb4⟩
 clear hW3 a0 HKi hl1
 have h1 := H1.out.after hb4
 have h2 := H2.out.after hb4
 have h3 := H3.out.after hb4
 have a2 : w4.cell? ⟨w.heap.size + 1, 0, none⟩ = some (.slice A ls.length c) := h2.cell 0
 have a3 : w4.cell? ⟨w.heap.size + 1, 1, none⟩ = some (.slice B ss.length d) := h2.cell 1
 have l3 := h2.lt
 have s4 := hb4.size
 have hB6 : Below w4.heap.size w4 ((w4.alloc (.cells #[.pointer (some ⟨r, 0, none⟩), .slice B ss.length d, .bool false] 70)).alloc (.cells #[.slice none 0 0, .slice none 0 0] 27)) := ((Below.refl _ _).alloc (Nat.le_refl _) _).alloc (by simp) _
 have hK6 := TabZ.Zn (Bx.new w4 #[.pointer (some ⟨r, 0, none⟩), .slice B ss.length d, .bool false] 70) (.cells #[.slice none 0 0, .slice none 0 0] 27)
 have hO6 := Bx.new (w4.alloc (.cells #[.pointer (some ⟨r, 0, none⟩), .slice B ss.length d, .bool false] 70)) #[.slice none 0 0, .slice none 0 0] 27
 rw [show (w4.alloc (.cells #[.pointer (some ⟨r, 0, none⟩), .slice B ss.length d, .bool false] 70)).heap.size = w4.heap.size + 1 by simp] at hO6
 obtain ⟨W6, hW6⟩ : ∃ W, ((w4.alloc (.cells #[.pointer (some ⟨r, 0, none⟩), .slice B ss.length d, .bool false] 70)).alloc (.cells #[.slice none 0 0, .slice none 0 0] 27)) = W := ⟨_, rfl⟩
 have hs6 : W6.heap.size = w4.heap.size + 2 := by rw [← hW6]; simp
 rw [hW6] at hB6 hK6 hO6
 have HW6 := zH hW6
 clear hW6
 have F1 := zH (h1.after hB6)
 have F2 := zH (h2.after hB6)
 have F3 := zH (h3.after hB6)
 have FK := zH hK6
 have FO := zH hO6
 have FA := zH (RA.out.below (hb4.trans (hB6.mono hb4.size)))
 have FB := zH (RB.out.below (hb4.trans (hB6.mono hb4.size)))
 have FW := zH (HB3.out.trans ((hb4.trans (hB6.mono hb4.size)).mono HB3.out.size))
 have l3b : w.heap.size < w4.heap.size := by omega
 have p0 : ((w4.alloc (.cells #[.pointer (some ⟨r, 0, none⟩), .slice B ss.length d, .bool false] 70)).alloc (.cells #[.slice none 0 0, .slice none 0 0] 27)).cell? ⟨w.heap.size + 1, 0, none⟩ = some (.slice A ls.length c) := by rw [HW6.out]; exact F2.out.cell 0
 clear h1 h2 h3 H1 H2 H3 RA RB HB3 hB6 hK6 hO6 hb4
 go_wp2_with (at_builtin
              rw [HW6.out]
              refine UK rfl (.tmp 25) (.tmp 27) rfl W6.heap.size _ [] rfl (zT.nil _ _) A ls.length c ls rfl rfl FA.out (by simp; omega) (Nat.le_refl _) ?_
              intro v7 w7 hown7 hg7
              rw [List.nil_append] at hown7
              obtain ⟨A7, c7, rfl, hcl7, hcx7, r7, ha7⟩ := zT.slice hown7
              have hb7 : Below W6.heap.size W6 w7 := ZF hg7
              have G1 := F1.out.after hb7
              have G2 := F2.out.after hb7
              have GO := FO.out.after hb7
              have GK := FK.out.after hb7
              have o1 : w7.cell? ⟨w4.heap.size + 1, 0, none⟩ = some (.slice none 0 0) := GO.cell 0
              have o1f := GO.free 0
              have o1l := GO.lt
              have n1 : ¬ w4.heap.size + 1 = w.heap.size := by omega
              have n2 : ¬ w4.heap.size + 1 = w.heap.size + 1 := by omega
              have n3 : ¬ w.heap.size = w4.heap.size + 1 := by omega
              have n4 : ¬ w.heap.size + 1 = w4.heap.size + 1 := by omega
              have hY0 : ∀ k, k ≠ w4.heap.size + 1 → (w7.setCell ⟨w4.heap.size + 1, 0, none⟩ (.slice A7 ls.length c7)).heap[k]? = w7.heap[k]? := fun k hk => heap_setCell_other w7 ⟨w4.heap.size + 1, 0, none⟩ k _ hk
              have hB8 : Below w.heap.size w (w7.setCell ⟨w4.heap.size + 1, 0, none⟩ (.slice A7 ls.length c7)) := (FW.out.trans (hb7.mono FW.out.size)).setCell (by show w.heap.size ≤ w4.heap.size + 1; omega) _
              have hE1 : Bx (w7.setCell ⟨w4.heap.size + 1, 0, none⟩ (.slice A7 ls.length c7)) w.heap.size #[.int .i64 op, .int .i64 (i : Int)] 24 := (hY0 _ (by omega)).trans G1
              have hE2 : Bx (w7.setCell ⟨w4.heap.size + 1, 0, none⟩ (.slice A7 ls.length c7)) (w.heap.size + 1) #[.slice A ls.length c, .slice B ss.length d] 27 := (hY0 _ (by omega)).trans G2
              have z0 : (w7.setCell ⟨w4.heap.size + 1, 0, none⟩ (.slice A7 ls.length c7)).cell? ⟨w.heap.size, 0, none⟩ = some (.int .i64 op) := hE1.cell 0
              have z1 : (w7.setCell ⟨w4.heap.size + 1, 0, none⟩ (.slice A7 ls.length c7)).cell? ⟨w.heap.size, 1, none⟩ = some (.int .i64 (i : Int)) := hE1.cell 1
              have z2 : (w7.setCell ⟨w4.heap.size + 1, 0, none⟩ (.slice A7 ls.length c7)).cell? ⟨w.heap.size + 1, 0, none⟩ = some (.slice A ls.length c) := hE2.cell 0
              have z1l := hE1.lt
              have z2l := hE2.lt
              have P1 := zH hE1
              have P2 := zH hE2
              have P3 := zH ((hY0 _ (by omega)).trans (F3.out.after hb7))
              have PO := zH (GO.set 0 (.slice A7 ls.length c7))
              have PK : Hid (Sk (w7.setCell ⟨w4.heap.size + 1, 0, none⟩ (.slice A7 ls.length c7)) w4.heap.size r ss false) := zH ⟨B, d, (hY0 _ (by omega)).trans GK, QY (FB.out.below hb7) (fun hne x hx => by have := HBl.out (fun e => hne (by rw [e]; rfl)) x hx; show x.block ≠ w4.heap.size + 1; omega) 0 _, fun hne x hx => by have := HBl.out hne x hx; omega, hd, hd2⟩
              have PA : Hid (zT (w7.setCell ⟨w4.heap.size + 1, 0, none⟩ (.slice A7 ls.length c7)) W6.heap.size (.slice A7 ls.length c7) ls) := zH (TabM.zh hown7 (fun k hk => hY0 k (by have := (World.ownsRow.lt hown7 k hk).1; omega)))
              have PB := zH hB8
              have y0 := hB8.cell hkg |>.trans HD.out.1
              have y1 := hB8.cell hkg |>.trans HD.out.2.1
              have y2 := hB8.cell hkg |>.trans HD.out.2.2.1
              have y3 := hB8.cell hkg |>.trans HD.out.2.2.2.1
              have y4 := hB8.cell hkg |>.trans HD.out.2.2.2.2
              have hkl : kg < (w7.setCell ⟨w4.heap.size + 1, 0, none⟩ (.slice A7 ls.length c7)).heap.size := Nat.lt_of_lt_of_le hkg hB8.size
              clear hown7 hg7 hcl7 hcx7 r7 ha7 G1 G2 GO GK hY0 hB8 hE1 hE2 hb7)
 generalize w7.setCell ⟨w4.heap.size + 1, 0, none⟩ (.slice A7 ls.length c7) = W8 at *
 go_still_tail 8, (by kernel_rfl)
 go_wp2_with fail
 refine (HHP.out _ w4.heap.size PB.out.drew (by omega) PK.out.drew).mono ?_
 rintro e w9 ⟨rfl, hs, hg0⟩
 have hg : W8.grownBy w9 (some w4.heap.size) := ⟨hg0.os, hg0.tape, hg0.output, hg0.size, hg0.block⟩
 clear hg0
 obtain ⟨sl, sb⟩ := S
 simp only at hs hS ⊢
 obtain ⟨A9, c9, hbx9, hr9, hA9, hc9, hcx9⟩ := hs
 have T1 := zH (zo PO.out hg (by omega))
 have T3 := zH (zo P3.out hg (by omega))
 have TB := zH ((PB.out).trans (below_grown hg (by omega) PB.out.size))
 have TA := zH (TabM.zh PA.out (fun k hk => hg.block k ((World.ownsRow.lt PA.out k hk).2) (fun e => by injection e with e; have := (World.ownsRow.lt PA.out k hk).1; omega)))
 have TR := zH hr9
 have TK := zH hbx9
 have b1 : w9.cell? ⟨w4.heap.size, 1, none⟩ = some (.slice A9 sl.length c9) := hbx9.cell 1
 have b2 : w9.cell? ⟨w4.heap.size, 2, none⟩ = some (.bool sb) := hbx9.cell 2
 have bl := hbx9.lt
 have g0 := T3.out.free 0
 have g1 := T3.out.free 1
 have k0 : w9.cell? ⟨w.heap.size + 1 + 1, 0, none⟩ = some (.slice none 0 0) := T3.out.cell 0
 have k1 : w9.cell? ⟨w.heap.size + 1 + 1, 1, none⟩ = some (.slice none 0 0) := T3.out.cell 1
 have kl := T3.out.lt
 have u0 : w9.cell? ⟨w4.heap.size + 1, 0, none⟩ = some (.slice A7 ls.length c7) := T1.out.cell 0
 have u1 : w9.cell? ⟨w4.heap.size + 1, 1, none⟩ = some (.slice none 0 0) := T1.out.cell 1
 have ul := T1.out.lt
 clear hg hbx9 hr9 PO P3 PB PA PK P1 P2
 cases sb
 · by_cases h16 : sl.length ≤ 16
   · have HF := zH (show endP (ls, sl, true) = some (ls, sl) by unfold endP; rw [if_pos ⟨rfl, h16⟩])
     have TRd := zH (TR.out.below ((Below.refl w9.heap.size w9).drew))
     go_wp2_with fail
     go_region_law (refine jr rfl (.tmp 145) (.tmp 149) rfl w9.heap.size _ [] rfl (zT.nil _ _) A9 sl.length c9 sl rfl rfl TRd.out (by simp; omega) (by simp) ?_; intro v5 w5 hown5 hg5; rw [List.nil_append] at hown5; obtain ⟨A5, c5, rfl, hcl5, hcx5, r5, ha5⟩ := zT.slice hown5; have hb5 : Below w9.heap.size w9 w5 := (Below.refl w9.heap.size w9).drew.trans (ZF hg5); have v1 := (T1.out.after hb5).cell 1; have v0 := (T1.out.after hb5).cell 0; have vf := (T1.out.after hb5).free 1; have vl := (T1.out.after hb5).lt)
     all_goals
      obtain ⟨A7', c7', e7, _, _, r7, ha7⟩ := zT.slice TA.out
      injection e7 with e7a _ e7c
      subst e7a
      subst e7c
      have hY5 : ∀ k, k ≠ w4.heap.size + 1 → (w5.setCell ⟨w4.heap.size + 1, 1, none⟩ (.slice A5 sl.length c5)).heap[k]? = w5.heap[k]? := fun k hk => heap_setCell_other w5 ⟨w4.heap.size + 1, 1, none⟩ k _ hk
      have Q1 := zH ((T1.out.after hb5).set 1 (.slice A5 sl.length c5))
      have Q3 : Hid (Bx (w5.setCell ⟨w4.heap.size + 1, 1, none⟩ (.slice A5 sl.length c5)) (w.heap.size + 1 + 1) #[.slice none 0 0, .slice none 0 0] 27) := zH ((hY5 (w.heap.size + 1 + 1) (by omega)).trans (T3.out.after hb5))
      have QA := zH (TabN.ZU (r7.below hb5) (by simp [World.setCell]) (fun x hx => hY5 x.block (by have := (ha7 x hx).1; omega)))
      have QR := zH (TabN.ZU r5 (by simp [World.setCell]) (fun x hx => hY5 x.block (by have := (ha5 x hx).1; omega)))
      have QB := zH ((TB.out.trans (hb5.mono TB.out.size)).setCell (p := ⟨w4.heap.size + 1, 1, none⟩) (by show w.heap.size ≤ w4.heap.size + 1; omega) (.slice A5 sl.length c5))
      have HA7 : Hid (∀ x, A7 = some x → x.block ≠ w.heap.size + 1 + 1) := zH (fun x hx => by have := (ha7 x hx).1; omega)
      have HA5 : Hid (∀ x, A5 = some x → x.block ≠ w.heap.size + 1 + 1) := zH (fun x hx => by have := (ha5 x hx).1; omega)
      clear hown5 hg5 hY5 hb5 v0 v1 vf vl r5 ha5 r7 ha7 T1 T3 TB TA TR TK TRd b1 b2 g0 g1 k0 k1 u0 u1
      generalize w5.setCell ⟨w4.heap.size + 1, 1, none⟩ (.slice A5 sl.length c5) = W5 at *
      have g0 := Q3.out.free 0
      have g1 := Q3.out.free 1
      have k0 : W5.cell? ⟨w.heap.size + 1 + 1, 0, none⟩ = some (.slice none 0 0) := Q3.out.cell 0
      have k1 : W5.cell? ⟨w.heap.size + 1 + 1, 1, none⟩ = some (.slice none 0 0) := Q3.out.cell 1
      have kl := Q3.out.lt
      have u0 : W5.cell? ⟨w4.heap.size + 1, 0, none⟩ = some (.slice A7 ls.length c7) := Q1.out.cell 0
      have u1 : W5.cell? ⟨w4.heap.size + 1, 1, none⟩ = some (.slice A5 sl.length c5) := Q1.out.cell 1
      have ul := Q1.out.lt
      go_wp2_with fail
      have HW := KndS.Zw Q3.out (.slice A7 ls.length c7) (.slice A5 sl.length c5)
      rw [HF.out]
      exact bodyPost_ret (v := .tuple #[.agg #[.slice A7 ls.length c7, .slice A5 sl.length c5], .int .i64 0]) (zX Tryz.results10 _ _ _ _ rfl (run_loadVar_row _ _ _ _ #[.slice A7 ls.length c7, .slice A5 sl.length c5] (0, 0) _ HW Tryz.underlying27 rfl qc)) rfl
       ⟨⟨A7, c7, A5, c5, rfl, KndS.qN QA.out _ _ HA7.out, KndS.qN QR.out _ _ HA5.out⟩, KndS.zQ QB.out (by omega) _ _⟩
   · have HF := zH (show endP (ls, sl, true) = none by unfold endP; rw [if_neg (by simp; omega)])
     have h17 : 16 < sl.length := by omega
     go_wp2_with fail
     have HW := KndS.Zw T3.out (.slice none 0 0) (.slice none 0 0)
     rw [HF.out]
     exact bodyPost_ret (v := .tuple #[.agg #[.slice none 0 0, .slice none 0 0], .int .i64 16]) (zX Tryz.results10 _ _ _ _ rfl (run_loadVar_row _ _ _ _ #[.slice none 0 0, .slice none 0 0] (0, 0) _ HW Tryz.underlying27 rfl qc)) rfl ⟨rfl, KndS.zQ TB.out (by omega) _ _⟩
 · have HF := zH (show endP (ls, sl, false) = none by unfold endP; rw [if_neg (by simp)])
   go_wp2_with fail
   have HW := KndS.Zw T3.out (.slice none 0 0) (.slice none 0 0)
   rw [HF.out]
   exact bodyPost_ret (v := .tuple #[.agg #[.slice none 0 0, .slice none 0 0], .int .i64 16]) (zX Tryz.results10 _ _ _ _ rfl (run_loadVar_row _ _ _ _ #[.slice none 0 0, .slice none 0 0] (0, 0) _ HW Tryz.underlying27 rfl qc)) rfl ⟨rfl, KndS.zQ TB.out (by omega) _ _⟩
set_option maxRecDepth 100000 in
set_option maxHeartbeats 4000000 in
theorem QW {w : World} {r : Nat} (_hrw : r < w.heap.size) (kA : Option Addr) (km kc : Nat) (gv : T) (op a : Int) (A : Option Addr) (c : Nat) (ls : List T) (B : Option Addr) (d : Nat) (ss : List T) (hA : Rds w A (ls.map sv)) (hB : Rds w B (ss.map sv)) (hd : ss.length ≤ d) (hd2 : d ≤ maxLen) (_hm : ss.length ≤ 500) (hl : ls.length ≤ 500)
 (k : Int) (hki : Zv op = k) (hc : (k = 0 ∧ (a == 0) = true) ∨ k = 7) (S : RS) (hS : S.1.length ≤ 600)
 (HP : ∀ W b, Below w.heap.size w W → w.heap.size ≤ b → Sk W b r ss false → Calls Tryz.prog 31 #[.pointer (some ⟨b, 0, none⟩), .int .i64 op, .string ⟨gv.toArray⟩] W (zw W b r S)) :
 Calls Tryz.prog 10 #[.pointer (some ⟨r, 0, none⟩), .slice kA km kc, .string ⟨gv.toArray⟩, .agg #[.int .i64 op, .int .i64 a], .agg #[.slice A ls.length c, .slice B ss.length d]] w (ZO w (endP (ls, S.1, !S.2))) := by
 have hb1 : Below w.heap.size w (((w.alloc (.cells #[.int .i64 op, .int .i64 a] 24)).alloc (.cells #[.slice A ls.length c, .slice B ss.length d] 27)).alloc (.cells #[.slice none 0 0, .slice none 0 0] 27)) := (((Below.refl _ _).alloc (Nat.le_refl _) _).alloc (by simp) _).alloc (by simp; omega) _
 have e1 : (w.alloc (.cells #[.int .i64 op, .int .i64 a] 24)).heap.size = w.heap.size + 1 := by simp
 have e2 : ((w.alloc (.cells #[.int .i64 op, .int .i64 a] 24)).alloc (.cells #[.slice A ls.length c, .slice B ss.length d] 27)).heap.size = w.heap.size + 1 + 1 := by simp
 have hx1 := TabZ.Zn (TabZ.Zn (Bx.new w #[.int .i64 op, .int .i64 a] 24) (.cells #[.slice A ls.length c, .slice B ss.length d] 27)) (.cells #[.slice none 0 0, .slice none 0 0] 27)
 have hx2 := TabZ.Zn (Bx.new (w.alloc (.cells #[.int .i64 op, .int .i64 a] 24)) #[.slice A ls.length c, .slice B ss.length d] 27) (.cells #[.slice none 0 0, .slice none 0 0] 27)
 have hx3 := Bx.new ((w.alloc (.cells #[.int .i64 op, .int .i64 a] 24)).alloc (.cells #[.slice A ls.length c, .slice B ss.length d] 27)) #[.slice none 0 0, .slice none 0 0] 27
 rw [e1] at hx2
 rw [e2] at hx3
 have hs3 : (((w.alloc (.cells #[.int .i64 op, .int .i64 a] 24)).alloc (.cells #[.slice A ls.length c, .slice B ss.length d] 27)).alloc (.cells #[.slice none 0 0, .slice none 0 0] 27)).heap.size = w.heap.size + 3 := by simp
 obtain ⟨W3, hW3⟩ : ∃ W, (((w.alloc (.cells #[.int .i64 op, .int .i64 a] 24)).alloc (.cells #[.slice A ls.length c, .slice B ss.length d] 27)).alloc (.cells #[.slice none 0 0, .slice none 0 0] 27)) = W := ⟨_, rfl⟩
 rw [hW3] at hb1 hx1 hx2 hx3 hs3
 have hs3a : w.heap.size + 2 < W3.heap.size := by omega
 have Hs3 := zH hs3
 clear hs3
 have HB3 := zH hb1
 have H1 := zH hx1
 have H2 := zH hx2
 have H3 := zH hx3
 have HBl := zH (fun (hne : ss ≠ []) => xD hB (by simpa using hne))
 have RA := zH (hA.below hb1)
 have RB := zH (hB.below hb1)
 have a0 : W3.cell? ⟨w.heap.size, 0, none⟩ = some (.int .i64 op) := hx1.cell 0
 have HKi := zH (qR op W3)
 unfold InsB.Ql at HKi
 rw [hki] at HKi
 have HHP := zH HP
 clear HP hki
 rcases hc with ⟨rfl, ha⟩ | rfl <;>
  (have hl1 := hx1.lt
   clear e1 e2 hx1 hx2 hx3 hb1 hA hB
   go_enter Tryz.func10, Tryz.ntmps10
   go_wp2_with fail
   refine HKi.out.mono ?_
   rintro e w4 ⟨rfl, hb4⟩
   clear hW3 a0 HKi hl1
   have h1 := H1.out.after hb4
   have h2 := H2.out.after hb4
   have h3 := H3.out.after hb4
   have a2 : w4.cell? ⟨w.heap.size + 1, 0, none⟩ = some (.slice A ls.length c) := h2.cell 0
   have a3 : w4.cell? ⟨w.heap.size + 1, 1, none⟩ = some (.slice B ss.length d) := h2.cell 1
   have l3 := h2.lt
   have s4 := hb4.size
   have hB6 : Below w4.heap.size w4 ((w4.alloc (.cells #[.pointer (some ⟨r, 0, none⟩), .slice B ss.length d, .bool false] 70)).alloc (.cells #[.slice none 0 0, .slice none 0 0] 27)) := ((Below.refl _ _).alloc (Nat.le_refl _) _).alloc (by simp) _
   have hK6 := TabZ.Zn (Bx.new w4 #[.pointer (some ⟨r, 0, none⟩), .slice B ss.length d, .bool false] 70) (.cells #[.slice none 0 0, .slice none 0 0] 27)
   have hO6 := Bx.new (w4.alloc (.cells #[.pointer (some ⟨r, 0, none⟩), .slice B ss.length d, .bool false] 70)) #[.slice none 0 0, .slice none 0 0] 27
   rw [show (w4.alloc (.cells #[.pointer (some ⟨r, 0, none⟩), .slice B ss.length d, .bool false] 70)).heap.size = w4.heap.size + 1 by simp] at hO6
   obtain ⟨W6, hW6⟩ : ∃ W, ((w4.alloc (.cells #[.pointer (some ⟨r, 0, none⟩), .slice B ss.length d, .bool false] 70)).alloc (.cells #[.slice none 0 0, .slice none 0 0] 27)) = W := ⟨_, rfl⟩
   have hs6 : W6.heap.size = w4.heap.size + 2 := by rw [← hW6]; simp
   rw [hW6] at hB6 hK6 hO6
   have HW6 := zH hW6
   clear hW6
   have F1 := zH (h1.after hB6)
   have F2 := zH (h2.after hB6)
   have F3 := zH (h3.after hB6)
   have FK := zH hK6
   have FO := zH hO6
   have FA := zH (RA.out.below (hb4.trans (hB6.mono hb4.size)))
   have FB := zH (RB.out.below (hb4.trans (hB6.mono hb4.size)))
   have FW := zH (HB3.out.trans ((hb4.trans (hB6.mono hb4.size)).mono HB3.out.size))
   have l3b : w.heap.size < w4.heap.size := by omega
   have p0 : ((w4.alloc (.cells #[.pointer (some ⟨r, 0, none⟩), .slice B ss.length d, .bool false] 70)).alloc (.cells #[.slice none 0 0, .slice none 0 0] 27)).cell? ⟨w.heap.size + 1, 0, none⟩ = some (.slice A ls.length c) := by rw [HW6.out]; exact F2.out.cell 0
   clear h1 h2 h3 H1 H2 H3 RA RB HB3 hB6 hK6 hO6 hb4
   go_wp2_with (at_builtin
                rw [HW6.out]
                refine UK rfl (.tmp 25) (.tmp 27) rfl W6.heap.size _ [] rfl (zT.nil _ _) A ls.length c ls rfl rfl FA.out (by simp; omega) (Nat.le_refl _) ?_
                intro v7 w7 hown7 hg7
                rw [List.nil_append] at hown7
                obtain ⟨A7, c7, rfl, hcl7, hcx7, r7, ha7⟩ := zT.slice hown7
                have hb7 : Below W6.heap.size W6 w7 := ZF hg7
                have G1 := F1.out.after hb7
                have G2 := F2.out.after hb7
                have GO := FO.out.after hb7
                have GK := FK.out.after hb7
                have o1 : w7.cell? ⟨w4.heap.size + 1, 0, none⟩ = some (.slice none 0 0) := GO.cell 0
                have o1f := GO.free 0
                have o1l := GO.lt
                have n1 : ¬ w4.heap.size + 1 = w.heap.size := by omega
                have n2 : ¬ w4.heap.size + 1 = w.heap.size + 1 := by omega
                have n3 : ¬ w.heap.size = w4.heap.size + 1 := by omega
                have n4 : ¬ w.heap.size + 1 = w4.heap.size + 1 := by omega
                have hY0 : ∀ k, k ≠ w4.heap.size + 1 → (w7.setCell ⟨w4.heap.size + 1, 0, none⟩ (.slice A7 ls.length c7)).heap[k]? = w7.heap[k]? := fun k hk => heap_setCell_other w7 ⟨w4.heap.size + 1, 0, none⟩ k _ hk
                have hB8 : Below w.heap.size w (w7.setCell ⟨w4.heap.size + 1, 0, none⟩ (.slice A7 ls.length c7)) := (FW.out.trans (hb7.mono FW.out.size)).setCell (by show w.heap.size ≤ w4.heap.size + 1; omega) _
                have hE1 : Bx (w7.setCell ⟨w4.heap.size + 1, 0, none⟩ (.slice A7 ls.length c7)) w.heap.size #[.int .i64 op, .int .i64 a] 24 := (hY0 _ (by omega)).trans G1
                have hE2 : Bx (w7.setCell ⟨w4.heap.size + 1, 0, none⟩ (.slice A7 ls.length c7)) (w.heap.size + 1) #[.slice A ls.length c, .slice B ss.length d] 27 := (hY0 _ (by omega)).trans G2
                have z0 : (w7.setCell ⟨w4.heap.size + 1, 0, none⟩ (.slice A7 ls.length c7)).cell? ⟨w.heap.size, 0, none⟩ = some (.int .i64 op) := hE1.cell 0
                have z1 : (w7.setCell ⟨w4.heap.size + 1, 0, none⟩ (.slice A7 ls.length c7)).cell? ⟨w.heap.size, 1, none⟩ = some (.int .i64 a) := hE1.cell 1
                have z2 : (w7.setCell ⟨w4.heap.size + 1, 0, none⟩ (.slice A7 ls.length c7)).cell? ⟨w.heap.size + 1, 0, none⟩ = some (.slice A ls.length c) := hE2.cell 0
                have z1l := hE1.lt
                have z2l := hE2.lt
                have P1 := zH hE1
                have P2 := zH hE2
                have P3 := zH ((hY0 _ (by omega)).trans (F3.out.after hb7))
                have PO := zH (GO.set 0 (.slice A7 ls.length c7))
                have PK : Hid (Sk (w7.setCell ⟨w4.heap.size + 1, 0, none⟩ (.slice A7 ls.length c7)) w4.heap.size r ss false) := zH ⟨B, d, (hY0 _ (by omega)).trans GK, QY (FB.out.below hb7) (fun hne x hx => by have := HBl.out (fun e => hne (by rw [e]; rfl)) x hx; show x.block ≠ w4.heap.size + 1; omega) 0 _, fun hne x hx => by have := HBl.out hne x hx; omega, hd, hd2⟩
                have PA : Hid (zT (w7.setCell ⟨w4.heap.size + 1, 0, none⟩ (.slice A7 ls.length c7)) W6.heap.size (.slice A7 ls.length c7) ls) := zH (TabM.zh hown7 (fun k hk => hY0 k (by have := (World.ownsRow.lt hown7 k hk).1; omega)))
                have PB := zH hB8
                clear hown7 hg7 hcl7 hcx7 r7 ha7 G1 G2 GO GK hY0 hB8 hE1 hE2 hb7)
   generalize w7.setCell ⟨w4.heap.size + 1, 0, none⟩ (.slice A7 ls.length c7) = W8 at *
   refine (HHP.out _ w4.heap.size PB.out (by omega) PK.out).mono ?_
   rintro e w9 ⟨rfl, hs, hg0⟩
   have hg : W8.grownBy w9 (some w4.heap.size) := ⟨hg0.os, hg0.tape, hg0.output, hg0.size, hg0.block⟩
   clear hg0
   obtain ⟨sl, sb⟩ := S
   simp only at hs hS ⊢
   obtain ⟨A9, c9, hbx9, hr9, hA9, hc9, hcx9⟩ := hs
   have T1 := zH (zo PO.out hg (by omega))
   have T3 := zH (zo P3.out hg (by omega))
   have TB := zH ((PB.out).trans (below_grown hg (by omega) PB.out.size))
   have TA := zH (TabM.zh PA.out (fun k hk => hg.block k ((World.ownsRow.lt PA.out k hk).2) (fun e => by injection e with e; have := (World.ownsRow.lt PA.out k hk).1; omega)))
   have TR := zH hr9
   have TK := zH hbx9
   have b1 : w9.cell? ⟨w4.heap.size, 1, none⟩ = some (.slice A9 sl.length c9) := hbx9.cell 1
   have b2 : w9.cell? ⟨w4.heap.size, 2, none⟩ = some (.bool sb) := hbx9.cell 2
   have bl := hbx9.lt
   have g0 := T3.out.free 0
   have g1 := T3.out.free 1
   have k0 : w9.cell? ⟨w.heap.size + 1 + 1, 0, none⟩ = some (.slice none 0 0) := T3.out.cell 0
   have k1 : w9.cell? ⟨w.heap.size + 1 + 1, 1, none⟩ = some (.slice none 0 0) := T3.out.cell 1
   have kl := T3.out.lt
   have u0 : w9.cell? ⟨w4.heap.size + 1, 0, none⟩ = some (.slice A7 ls.length c7) := T1.out.cell 0
   have u1 : w9.cell? ⟨w4.heap.size + 1, 1, none⟩ = some (.slice none 0 0) := T1.out.cell 1
   have ul := T1.out.lt
   clear hg hbx9 hr9 PO P3 PB PA PK P1 P2
   cases sb
   · by_cases h16 : sl.length ≤ 16
     · have HF := zH (show endP (ls, sl, true) = some (ls, sl) by unfold endP; rw [if_pos ⟨rfl, h16⟩])
       have TRd := zH (TR.out.below ((Below.refl w9.heap.size w9).drew))
       go_wp2_with fail
       go_region_law (refine jr rfl (.tmp 145) (.tmp 149) rfl w9.heap.size _ [] rfl (zT.nil _ _) A9 sl.length c9 sl rfl rfl TRd.out (by simp; omega) (by simp) ?_; intro v5 w5 hown5 hg5; rw [List.nil_append] at hown5; obtain ⟨A5, c5, rfl, hcl5, hcx5, r5, ha5⟩ := zT.slice hown5; have hb5 : Below w9.heap.size w9 w5 := (Below.refl w9.heap.size w9).drew.trans (ZF hg5); have v1 := (T1.out.after hb5).cell 1; have v0 := (T1.out.after hb5).cell 0; have vf := (T1.out.after hb5).free 1; have vl := (T1.out.after hb5).lt)
       all_goals
        obtain ⟨A7', c7', e7, _, _, r7, ha7⟩ := zT.slice TA.out
        injection e7 with e7a _ e7c
        subst e7a
        subst e7c
        have hY5 : ∀ k, k ≠ w4.heap.size + 1 → (w5.setCell ⟨w4.heap.size + 1, 1, none⟩ (.slice A5 sl.length c5)).heap[k]? = w5.heap[k]? := fun k hk => heap_setCell_other w5 ⟨w4.heap.size + 1, 1, none⟩ k _ hk
        have Q1 := zH ((T1.out.after hb5).set 1 (.slice A5 sl.length c5))
        have Q3 : Hid (Bx (w5.setCell ⟨w4.heap.size + 1, 1, none⟩ (.slice A5 sl.length c5)) (w.heap.size + 1 + 1) #[.slice none 0 0, .slice none 0 0] 27) := zH ((hY5 (w.heap.size + 1 + 1) (by omega)).trans (T3.out.after hb5))
        have QA := zH (TabN.ZU (r7.below hb5) (by simp [World.setCell]) (fun x hx => hY5 x.block (by have := (ha7 x hx).1; omega)))
        have QR := zH (TabN.ZU r5 (by simp [World.setCell]) (fun x hx => hY5 x.block (by have := (ha5 x hx).1; omega)))
        have QB := zH ((TB.out.trans (hb5.mono TB.out.size)).setCell (p := ⟨w4.heap.size + 1, 1, none⟩) (by show w.heap.size ≤ w4.heap.size + 1; omega) (.slice A5 sl.length c5))
        have HA7 : Hid (∀ x, A7 = some x → x.block ≠ w.heap.size + 1 + 1) := zH (fun x hx => by have := (ha7 x hx).1; omega)
        have HA5 : Hid (∀ x, A5 = some x → x.block ≠ w.heap.size + 1 + 1) := zH (fun x hx => by have := (ha5 x hx).1; omega)
        clear hown5 hg5 hY5 hb5 v0 v1 vf vl r5 ha5 r7 ha7 T1 T3 TB TA TR TK TRd b1 b2 g0 g1 k0 k1 u0 u1
        generalize w5.setCell ⟨w4.heap.size + 1, 1, none⟩ (.slice A5 sl.length c5) = W5 at *
        have g0 := Q3.out.free 0
        have g1 := Q3.out.free 1
        have k0 : W5.cell? ⟨w.heap.size + 1 + 1, 0, none⟩ = some (.slice none 0 0) := Q3.out.cell 0
        have k1 : W5.cell? ⟨w.heap.size + 1 + 1, 1, none⟩ = some (.slice none 0 0) := Q3.out.cell 1
        have kl := Q3.out.lt
        have u0 : W5.cell? ⟨w4.heap.size + 1, 0, none⟩ = some (.slice A7 ls.length c7) := Q1.out.cell 0
        have u1 : W5.cell? ⟨w4.heap.size + 1, 1, none⟩ = some (.slice A5 sl.length c5) := Q1.out.cell 1
        have ul := Q1.out.lt
        go_wp2_with fail
        have HW := KndS.Zw Q3.out (.slice A7 ls.length c7) (.slice A5 sl.length c5)
        rw [HF.out]
        exact bodyPost_ret (v := .tuple #[.agg #[.slice A7 ls.length c7, .slice A5 sl.length c5], .int .i64 0]) (zX Tryz.results10 _ _ _ _ rfl (run_loadVar_row _ _ _ _ #[.slice A7 ls.length c7, .slice A5 sl.length c5] (0, 0) _ HW Tryz.underlying27 rfl qc)) rfl
         ⟨⟨A7, c7, A5, c5, rfl, KndS.qN QA.out _ _ HA7.out, KndS.qN QR.out _ _ HA5.out⟩, KndS.zQ QB.out (by omega) _ _⟩
     · have HF := zH (show endP (ls, sl, true) = none by unfold endP; rw [if_neg (by simp; omega)])
       have h17 : 16 < sl.length := by omega
       go_wp2_with fail
       have HW := KndS.Zw T3.out (.slice none 0 0) (.slice none 0 0)
       rw [HF.out]
       exact bodyPost_ret (v := .tuple #[.agg #[.slice none 0 0, .slice none 0 0], .int .i64 16]) (zX Tryz.results10 _ _ _ _ rfl (run_loadVar_row _ _ _ _ #[.slice none 0 0, .slice none 0 0] (0, 0) _ HW Tryz.underlying27 rfl qc)) rfl ⟨rfl, KndS.zQ TB.out (by omega) _ _⟩
   · have HF := zH (show endP (ls, sl, false) = none by unfold endP; rw [if_neg (by simp)])
     go_wp2_with fail
     have HW := KndS.Zw T3.out (.slice none 0 0) (.slice none 0 0)
     rw [HF.out]
     exact bodyPost_ret (v := .tuple #[.agg #[.slice none 0 0, .slice none 0 0], .int .i64 16]) (zX Tryz.results10 _ _ _ _ rfl (run_loadVar_row _ _ _ _ #[.slice none 0 0, .slice none 0 0] (0, 0) _ HW Tryz.underlying27 rfl qc)) rfl ⟨rfl, KndS.zQ TB.out (by omega) _ _⟩)
set_option maxRecDepth 100000 in
set_option maxHeartbeats 4000000 in
theorem Ja {w : World} {r : Nat} (_hrw : r < w.heap.size) (kA : Option Addr) (km kc : Nat) (gv : T) (op a : Int) (A : Option Addr) (c : Nat) (ls : List T) (B : Option Addr) (d : Nat) (ss : List T) (hA : Rds w A (ls.map sv)) (hB : Rds w B (ss.map sv)) (hd : ss.length ≤ d) (hd2 : d ≤ maxLen) (_hm : ss.length ≤ 500) (hl : ls.length ≤ 500)
 (k : Int) (hki : Zv op = k) (hc : k = -1 ∨ (k = 0 ∧ a ≠ 0) ∨ (k = 6 ∧ ¬ 0 ≤ a) ∨ (k = 6 ∧ 0 ≤ a ∧ ¬ a < (ls.length : Int)) ∨ (1 ≤ k ∧ k ≤ 5 ∧ ¬ k = 6 ∧ ¬ k = 0 ∧ ¬ k = 7 ∧ ¬ 0 ≤ a) ∨ (1 ≤ k ∧ k ≤ 5 ∧ ¬ k = 6 ∧ ¬ k = 0 ∧ ¬ k = 7 ∧ 0 ≤ a ∧ ¬ a < (km : Int))) :
 Calls Tryz.prog 10 #[.pointer (some ⟨r, 0, none⟩), .slice kA km kc, .string ⟨gv.toArray⟩, .agg #[.int .i64 op, .int .i64 a], .agg #[.slice A ls.length c, .slice B ss.length d]] w (ZO w (endP (ls, ss, false))) := by
 have hb1 : Below w.heap.size w (((w.alloc (.cells #[.int .i64 op, .int .i64 a] 24)).alloc (.cells #[.slice A ls.length c, .slice B ss.length d] 27)).alloc (.cells #[.slice none 0 0, .slice none 0 0] 27)) := (((Below.refl _ _).alloc (Nat.le_refl _) _).alloc (by simp) _).alloc (by simp; omega) _
 have e1 : (w.alloc (.cells #[.int .i64 op, .int .i64 a] 24)).heap.size = w.heap.size + 1 := by simp
 have e2 : ((w.alloc (.cells #[.int .i64 op, .int .i64 a] 24)).alloc (.cells #[.slice A ls.length c, .slice B ss.length d] 27)).heap.size = w.heap.size + 1 + 1 := by simp
 have hx1 := TabZ.Zn (TabZ.Zn (Bx.new w #[.int .i64 op, .int .i64 a] 24) (.cells #[.slice A ls.length c, .slice B ss.length d] 27)) (.cells #[.slice none 0 0, .slice none 0 0] 27)
 have hx2 := TabZ.Zn (Bx.new (w.alloc (.cells #[.int .i64 op, .int .i64 a] 24)) #[.slice A ls.length c, .slice B ss.length d] 27) (.cells #[.slice none 0 0, .slice none 0 0] 27)
 have hx3 := Bx.new ((w.alloc (.cells #[.int .i64 op, .int .i64 a] 24)).alloc (.cells #[.slice A ls.length c, .slice B ss.length d] 27)) #[.slice none 0 0, .slice none 0 0] 27
 rw [e1] at hx2
 rw [e2] at hx3
 have hs3 : (((w.alloc (.cells #[.int .i64 op, .int .i64 a] 24)).alloc (.cells #[.slice A ls.length c, .slice B ss.length d] 27)).alloc (.cells #[.slice none 0 0, .slice none 0 0] 27)).heap.size = w.heap.size + 3 := by simp
 obtain ⟨W3, hW3⟩ : ∃ W, (((w.alloc (.cells #[.int .i64 op, .int .i64 a] 24)).alloc (.cells #[.slice A ls.length c, .slice B ss.length d] 27)).alloc (.cells #[.slice none 0 0, .slice none 0 0] 27)) = W := ⟨_, rfl⟩
 rw [hW3] at hb1 hx1 hx2 hx3 hs3
 have hs3a : w.heap.size + 2 < W3.heap.size := by omega
 have Hs3 := zH hs3
 clear hs3
 have HB3 := zH hb1
 have H1 := zH hx1
 have H2 := zH hx2
 have H3 := zH hx3
 have HBl := zH (fun (hne : ss ≠ []) => xD hB (by simpa using hne))
 have RA := zH (hA.below hb1)
 have RB := zH (hB.below hb1)
 have a0 : W3.cell? ⟨w.heap.size, 0, none⟩ = some (.int .i64 op) := hx1.cell 0
 have HKi := zH (qR op W3)
 unfold InsB.Ql at HKi
 rw [hki] at HKi
 clear hki
 rcases hc with rfl | ⟨rfl, ha⟩ | ⟨rfl, ha⟩ | ⟨rfl, ha, ha2⟩ | ⟨hk1, hk5, hk6, hk0, hk7, ha⟩ | ⟨hk1, hk5, hk6, hk0, hk7, ha, ha2⟩ <;>
  (have hl1 := hx1.lt
   clear e1 e2 hx1 hx2 hx3 hb1 hA hB
   go_enter Tryz.func10, Tryz.ntmps10
   go_wp2_with fail
   refine HKi.out.mono ?_
   rintro e w4 ⟨rfl, hb4⟩
   clear hW3 a0 HKi hl1
   have h1 := H1.out.after hb4
   have h2 := H2.out.after hb4
   have h3 := H3.out.after hb4
   have a2 : w4.cell? ⟨w.heap.size + 1, 0, none⟩ = some (.slice A ls.length c) := h2.cell 0
   have a3 : w4.cell? ⟨w.heap.size + 1, 1, none⟩ = some (.slice B ss.length d) := h2.cell 1
   have l3 := h2.lt
   have s4 := hb4.size
   have hB6 : Below w4.heap.size w4 ((w4.alloc (.cells #[.pointer (some ⟨r, 0, none⟩), .slice B ss.length d, .bool false] 70)).alloc (.cells #[.slice none 0 0, .slice none 0 0] 27)) := ((Below.refl _ _).alloc (Nat.le_refl _) _).alloc (by simp) _
   have hK6 := TabZ.Zn (Bx.new w4 #[.pointer (some ⟨r, 0, none⟩), .slice B ss.length d, .bool false] 70) (.cells #[.slice none 0 0, .slice none 0 0] 27)
   have hO6 := Bx.new (w4.alloc (.cells #[.pointer (some ⟨r, 0, none⟩), .slice B ss.length d, .bool false] 70)) #[.slice none 0 0, .slice none 0 0] 27
   rw [show (w4.alloc (.cells #[.pointer (some ⟨r, 0, none⟩), .slice B ss.length d, .bool false] 70)).heap.size = w4.heap.size + 1 by simp] at hO6
   obtain ⟨W6, hW6⟩ : ∃ W, ((w4.alloc (.cells #[.pointer (some ⟨r, 0, none⟩), .slice B ss.length d, .bool false] 70)).alloc (.cells #[.slice none 0 0, .slice none 0 0] 27)) = W := ⟨_, rfl⟩
   have hs6 : W6.heap.size = w4.heap.size + 2 := by rw [← hW6]; simp
   rw [hW6] at hB6 hK6 hO6
   have HW6 := zH hW6
   clear hW6
   have F1 := zH (h1.after hB6)
   have F2 := zH (h2.after hB6)
   have F3 := zH (h3.after hB6)
   have FK := zH hK6
   have FO := zH hO6
   have FA := zH (RA.out.below (hb4.trans (hB6.mono hb4.size)))
   have FB := zH (RB.out.below (hb4.trans (hB6.mono hb4.size)))
   have FW := zH (HB3.out.trans ((hb4.trans (hB6.mono hb4.size)).mono HB3.out.size))
   have l3b : w.heap.size < w4.heap.size := by omega
   have p0 : ((w4.alloc (.cells #[.pointer (some ⟨r, 0, none⟩), .slice B ss.length d, .bool false] 70)).alloc (.cells #[.slice none 0 0, .slice none 0 0] 27)).cell? ⟨w.heap.size + 1, 0, none⟩ = some (.slice A ls.length c) := by rw [HW6.out]; exact F2.out.cell 0
   clear h1 h2 h3 H1 H2 H3 RA RB HB3 hB6 hK6 hO6 hb4
   go_wp2_with (at_builtin
                rw [HW6.out]
                refine UK rfl (.tmp 25) (.tmp 27) rfl W6.heap.size _ [] rfl (zT.nil _ _) A ls.length c ls rfl rfl FA.out (by simp; omega) (Nat.le_refl _) ?_
                intro v7 w7 hown7 hg7
                rw [List.nil_append] at hown7
                obtain ⟨A7, c7, rfl, hcl7, hcx7, r7, ha7⟩ := zT.slice hown7
                have hb7 : Below W6.heap.size W6 w7 := ZF hg7
                have G1 := F1.out.after hb7
                have G2 := F2.out.after hb7
                have GO := FO.out.after hb7
                have GK := FK.out.after hb7
                have o1 : w7.cell? ⟨w4.heap.size + 1, 0, none⟩ = some (.slice none 0 0) := GO.cell 0
                have o1f := GO.free 0
                have o1l := GO.lt
                have n1 : ¬ w4.heap.size + 1 = w.heap.size := by omega
                have n2 : ¬ w4.heap.size + 1 = w.heap.size + 1 := by omega
                have n3 : ¬ w.heap.size = w4.heap.size + 1 := by omega
                have n4 : ¬ w.heap.size + 1 = w4.heap.size + 1 := by omega
                have hY0 : ∀ k, k ≠ w4.heap.size + 1 → (w7.setCell ⟨w4.heap.size + 1, 0, none⟩ (.slice A7 ls.length c7)).heap[k]? = w7.heap[k]? := fun k hk => heap_setCell_other w7 ⟨w4.heap.size + 1, 0, none⟩ k _ hk
                have hB8 : Below w.heap.size w (w7.setCell ⟨w4.heap.size + 1, 0, none⟩ (.slice A7 ls.length c7)) := (FW.out.trans (hb7.mono FW.out.size)).setCell (by show w.heap.size ≤ w4.heap.size + 1; omega) _
                have hE1 : Bx (w7.setCell ⟨w4.heap.size + 1, 0, none⟩ (.slice A7 ls.length c7)) w.heap.size #[.int .i64 op, .int .i64 a] 24 := (hY0 _ (by omega)).trans G1
                have hE2 : Bx (w7.setCell ⟨w4.heap.size + 1, 0, none⟩ (.slice A7 ls.length c7)) (w.heap.size + 1) #[.slice A ls.length c, .slice B ss.length d] 27 := (hY0 _ (by omega)).trans G2
                have z0 : (w7.setCell ⟨w4.heap.size + 1, 0, none⟩ (.slice A7 ls.length c7)).cell? ⟨w.heap.size, 0, none⟩ = some (.int .i64 op) := hE1.cell 0
                have z1 : (w7.setCell ⟨w4.heap.size + 1, 0, none⟩ (.slice A7 ls.length c7)).cell? ⟨w.heap.size, 1, none⟩ = some (.int .i64 a) := hE1.cell 1
                have z2 : (w7.setCell ⟨w4.heap.size + 1, 0, none⟩ (.slice A7 ls.length c7)).cell? ⟨w.heap.size + 1, 0, none⟩ = some (.slice A ls.length c) := hE2.cell 0
                have z1l := hE1.lt
                have z2l := hE2.lt
                have P1 := zH hE1
                have P2 := zH hE2
                have P3 := zH ((hY0 _ (by omega)).trans (F3.out.after hb7))
                have PO := zH (GO.set 0 (.slice A7 ls.length c7))
                have PK : Hid (Sk (w7.setCell ⟨w4.heap.size + 1, 0, none⟩ (.slice A7 ls.length c7)) w4.heap.size r ss false) := zH ⟨B, d, (hY0 _ (by omega)).trans GK, QY (FB.out.below hb7) (fun hne x hx => by have := HBl.out (fun e => hne (by rw [e]; rfl)) x hx; show x.block ≠ w4.heap.size + 1; omega) 0 _, fun hne x hx => by have := HBl.out hne x hx; omega, hd, hd2⟩
                have PA : Hid (zT (w7.setCell ⟨w4.heap.size + 1, 0, none⟩ (.slice A7 ls.length c7)) W6.heap.size (.slice A7 ls.length c7) ls) := zH (TabM.zh hown7 (fun k hk => hY0 k (by have := (World.ownsRow.lt hown7 k hk).1; omega)))
                have PB := zH hB8
                have q2 := PK.out.flag.1
                have q2f := PK.out.flag.2.1
                have q2l := PK.out.lt
                have r0 : (w7.setCell ⟨w4.heap.size + 1, 0, none⟩ (.slice A7 ls.length c7)).cell? ⟨w.heap.size + 1 + 1, 0, none⟩ = some (.slice none 0 0) := Bx.cell P3.out 0
                have r1 : (w7.setCell ⟨w4.heap.size + 1, 0, none⟩ (.slice A7 ls.length c7)).cell? ⟨w.heap.size + 1 + 1, 1, none⟩ = some (.slice none 0 0) := Bx.cell P3.out 1
                have r0f : (w7.setCell ⟨w4.heap.size + 1, 0, none⟩ (.slice A7 ls.length c7)).frozen? ⟨w.heap.size + 1 + 1, 0, none⟩ = false := Bx.free P3.out 0
                have r1f : (w7.setCell ⟨w4.heap.size + 1, 0, none⟩ (.slice A7 ls.length c7)).frozen? ⟨w.heap.size + 1 + 1, 1, none⟩ = false := Bx.free P3.out 1
                have rl : w.heap.size + 1 + 1 < (w7.setCell ⟨w4.heap.size + 1, 0, none⟩ (.slice A7 ls.length c7)).heap.size := Bx.lt P3.out
                have n5 : ¬ w4.heap.size = w.heap.size + 1 + 1 := by omega
                have n6 : ¬ w.heap.size + 1 + 1 = w4.heap.size := by omega
                clear hown7 hg7 hcl7 hcx7 r7 ha7 G1 G2 GO GK hY0 hB8 hE1 hE2 hb7)
   generalize w7.setCell ⟨w4.heap.size + 1, 0, none⟩ (.slice A7 ls.length c7) = W8 at *
   have HX : Bx (W8.setCell ⟨w4.heap.size, 2, none⟩ (.bool true)) (w.heap.size + 1 + 1) #[.slice none 0 0, .slice none 0 0] 27 := (heap_setCell_other W8 ⟨w4.heap.size, 2, none⟩ (w.heap.size + 1 + 1) _ (by show w.heap.size + 1 + 1 ≠ w4.heap.size; omega)).trans P3.out
   have HW := KndS.Zw HX (.slice none 0 0) (.slice none 0 0)
   rw [show endP (ls, ss, false) = none from by unfold endP; rw [if_neg (by simp)]]
   exact bodyPost_ret (v := .tuple #[.agg #[.slice none 0 0, .slice none 0 0], .int .i64 16]) (zX Tryz.results10 _ _ _ _ rfl (run_loadVar_row _ _ _ _ #[.slice none 0 0, .slice none 0 0] (0, 0) _ HW Tryz.underlying27 rfl qc)) rfl ⟨rfl, KndS.zQ (PB.out.setCell (p := ⟨w4.heap.size, 2, none⟩) (by show w.heap.size ≤ w4.heap.size; omega) (.bool true)) (by omega) _ _⟩)
set_option maxRecDepth 100000 in
set_option maxHeartbeats 4000000 in
theorem gY {w : World} {r : Nat} (_hrw : r < w.heap.size) (kA : Option Addr) (km kc : Nat) (gv : T) (op a : Int) (A : Option Addr) (c : Nat) (ls : List T) (B : Option Addr) (d : Nat) (ss : List T) (hA : Rds w A (ls.map sv)) (hB : Rds w B (ss.map sv)) (hd : ss.length ≤ d) (hd2 : d ≤ maxLen) (_hm : ss.length ≤ 500) (hl : ls.length ≤ 500)
 (ks : List Cst) (hk : Zq w kA km kc ks) (k : Int) (hki : Zv op = k) (hk1 : 1 ≤ k) (hk5 : k ≤ 5) (i : Nat) (ha : a = (i : Int)) (hi : i < ks.length) (hkk : ks[i].kind ≠ k) :
 Calls Tryz.prog 10 #[.pointer (some ⟨r, 0, none⟩), .slice kA km kc, .string ⟨gv.toArray⟩, .agg #[.int .i64 op, .int .i64 a], .agg #[.slice A ls.length c, .slice B ss.length d]] w (ZO w (endP (ls, ss, false))) := by
 have hb1 : Below w.heap.size w (((w.alloc (.cells #[.int .i64 op, .int .i64 a] 24)).alloc (.cells #[.slice A ls.length c, .slice B ss.length d] 27)).alloc (.cells #[.slice none 0 0, .slice none 0 0] 27)) := (((Below.refl _ _).alloc (Nat.le_refl _) _).alloc (by simp) _).alloc (by simp; omega) _
 have e1 : (w.alloc (.cells #[.int .i64 op, .int .i64 a] 24)).heap.size = w.heap.size + 1 := by simp
 have e2 : ((w.alloc (.cells #[.int .i64 op, .int .i64 a] 24)).alloc (.cells #[.slice A ls.length c, .slice B ss.length d] 27)).heap.size = w.heap.size + 1 + 1 := by simp
 have hx1 := TabZ.Zn (TabZ.Zn (Bx.new w #[.int .i64 op, .int .i64 a] 24) (.cells #[.slice A ls.length c, .slice B ss.length d] 27)) (.cells #[.slice none 0 0, .slice none 0 0] 27)
 have hx2 := TabZ.Zn (Bx.new (w.alloc (.cells #[.int .i64 op, .int .i64 a] 24)) #[.slice A ls.length c, .slice B ss.length d] 27) (.cells #[.slice none 0 0, .slice none 0 0] 27)
 have hx3 := Bx.new ((w.alloc (.cells #[.int .i64 op, .int .i64 a] 24)).alloc (.cells #[.slice A ls.length c, .slice B ss.length d] 27)) #[.slice none 0 0, .slice none 0 0] 27
 rw [e1] at hx2
 rw [e2] at hx3
 have hs3 : (((w.alloc (.cells #[.int .i64 op, .int .i64 a] 24)).alloc (.cells #[.slice A ls.length c, .slice B ss.length d] 27)).alloc (.cells #[.slice none 0 0, .slice none 0 0] 27)).heap.size = w.heap.size + 3 := by simp
 obtain ⟨W3, hW3⟩ : ∃ W, (((w.alloc (.cells #[.int .i64 op, .int .i64 a] 24)).alloc (.cells #[.slice A ls.length c, .slice B ss.length d] 27)).alloc (.cells #[.slice none 0 0, .slice none 0 0] 27)) = W := ⟨_, rfl⟩
 rw [hW3] at hb1 hx1 hx2 hx3 hs3
 have hs3a : w.heap.size + 2 < W3.heap.size := by omega
 have Hs3 := zH hs3
 clear hs3
 have HB3 := zH hb1
 have H1 := zH hx1
 have H2 := zH hx2
 have H3 := zH hx3
 have HBl := zH (fun (hne : ss ≠ []) => xD hB (by simpa using hne))
 have RA := zH (hA.below hb1)
 have RB := zH (hB.below hb1)
 have a0 : W3.cell? ⟨w.heap.size, 0, none⟩ = some (.int .i64 op) := hx1.cell 0
 have HKi := zH (qR op W3)
 unfold InsB.Ql at HKi
 rw [hki] at HKi
 have hkm := hk.len
 have hk6 : ¬ k = 6 := by omega
 have hk0 : ¬ k = 0 := by omega
 have hk7 : ¬ k = 7 := by omega
 obtain ⟨kg, ko, rfl, hkg, kd0, kd1, kd2, kd3, kd4⟩ := Qy hk.rds hi
 subst ha
 have HD := zH kd0
 have hii : (i : Int) < (km : Int) := by omega
 have hi0 : (0 : Int) ≤ (i : Int) := by omega
 clear hk kd0 kd1 kd2 kd3 kd4 hki
 generalize ks[i].kind = zk at *
 have hl1 := hx1.lt
 clear e1 e2 hx1 hx2 hx3 hb1 hA hB
 go_enter Tryz.func10, Tryz.ntmps10
 go_wp2_with fail
 refine HKi.out.mono ?_
 rintro e w4 ⟨rfl, hb4⟩
 clear hW3 a0 HKi hl1
 have h1 := H1.out.after hb4
 have h2 := H2.out.after hb4
 have h3 := H3.out.after hb4
 have a2 : w4.cell? ⟨w.heap.size + 1, 0, none⟩ = some (.slice A ls.length c) := h2.cell 0
 have a3 : w4.cell? ⟨w.heap.size + 1, 1, none⟩ = some (.slice B ss.length d) := h2.cell 1
 have l3 := h2.lt
 have s4 := hb4.size
 have hB6 : Below w4.heap.size w4 ((w4.alloc (.cells #[.pointer (some ⟨r, 0, none⟩), .slice B ss.length d, .bool false] 70)).alloc (.cells #[.slice none 0 0, .slice none 0 0] 27)) := ((Below.refl _ _).alloc (Nat.le_refl _) _).alloc (by simp) _
 have hK6 := TabZ.Zn (Bx.new w4 #[.pointer (some ⟨r, 0, none⟩), .slice B ss.length d, .bool false] 70) (.cells #[.slice none 0 0, .slice none 0 0] 27)
 have hO6 := Bx.new (w4.alloc (.cells #[.pointer (some ⟨r, 0, none⟩), .slice B ss.length d, .bool false] 70)) #[.slice none 0 0, .slice none 0 0] 27
 rw [show (w4.alloc (.cells #[.pointer (some ⟨r, 0, none⟩), .slice B ss.length d, .bool false] 70)).heap.size = w4.heap.size + 1 by simp] at hO6
 obtain ⟨W6, hW6⟩ : ∃ W, ((w4.alloc (.cells #[.pointer (some ⟨r, 0, none⟩), .slice B ss.length d, .bool false] 70)).alloc (.cells #[.slice none 0 0, .slice none 0 0] 27)) = W := ⟨_, rfl⟩
 have hs6 : W6.heap.size = w4.heap.size + 2 := by rw [← hW6]; simp
 rw [hW6] at hB6 hK6 hO6
 have HW6 := zH hW6
 clear hW6
 have F1 := zH (h1.after hB6)
 have F2 := zH (h2.after hB6)
 have F3 := zH (h3.after hB6)
 have FK := zH hK6
 have FO := zH hO6
 have FA := zH (RA.out.below (hb4.trans (hB6.mono hb4.size)))
 have FB := zH (RB.out.below (hb4.trans (hB6.mono hb4.size)))
 have FW := zH (HB3.out.trans ((hb4.trans (hB6.mono hb4.size)).mono HB3.out.size))
 have l3b : w.heap.size < w4.heap.size := by omega
 have p0 : ((w4.alloc (.cells #[.pointer (some ⟨r, 0, none⟩), .slice B ss.length d, .bool false] 70)).alloc (.cells #[.slice none 0 0, .slice none 0 0] 27)).cell? ⟨w.heap.size + 1, 0, none⟩ = some (.slice A ls.length c) := by rw [HW6.out]; exact F2.out.cell 0
 clear h1 h2 h3 H1 H2 H3 RA RB HB3 hB6 hK6 hO6 hb4
 go_wp2_with (at_builtin
              rw [HW6.out]
              refine UK rfl (.tmp 25) (.tmp 27) rfl W6.heap.size _ [] rfl (zT.nil _ _) A ls.length c ls rfl rfl FA.out (by simp; omega) (Nat.le_refl _) ?_
              intro v7 w7 hown7 hg7
              rw [List.nil_append] at hown7
              obtain ⟨A7, c7, rfl, hcl7, hcx7, r7, ha7⟩ := zT.slice hown7
              have hb7 : Below W6.heap.size W6 w7 := ZF hg7
              have G1 := F1.out.after hb7
              have G2 := F2.out.after hb7
              have GO := FO.out.after hb7
              have GK := FK.out.after hb7
              have o1 : w7.cell? ⟨w4.heap.size + 1, 0, none⟩ = some (.slice none 0 0) := GO.cell 0
              have o1f := GO.free 0
              have o1l := GO.lt
              have n1 : ¬ w4.heap.size + 1 = w.heap.size := by omega
              have n2 : ¬ w4.heap.size + 1 = w.heap.size + 1 := by omega
              have n3 : ¬ w.heap.size = w4.heap.size + 1 := by omega
              have n4 : ¬ w.heap.size + 1 = w4.heap.size + 1 := by omega
              have hY0 : ∀ k, k ≠ w4.heap.size + 1 → (w7.setCell ⟨w4.heap.size + 1, 0, none⟩ (.slice A7 ls.length c7)).heap[k]? = w7.heap[k]? := fun k hk => heap_setCell_other w7 ⟨w4.heap.size + 1, 0, none⟩ k _ hk
              have hB8 : Below w.heap.size w (w7.setCell ⟨w4.heap.size + 1, 0, none⟩ (.slice A7 ls.length c7)) := (FW.out.trans (hb7.mono FW.out.size)).setCell (by show w.heap.size ≤ w4.heap.size + 1; omega) _
              have hE1 : Bx (w7.setCell ⟨w4.heap.size + 1, 0, none⟩ (.slice A7 ls.length c7)) w.heap.size #[.int .i64 op, .int .i64 (i : Int)] 24 := (hY0 _ (by omega)).trans G1
              have hE2 : Bx (w7.setCell ⟨w4.heap.size + 1, 0, none⟩ (.slice A7 ls.length c7)) (w.heap.size + 1) #[.slice A ls.length c, .slice B ss.length d] 27 := (hY0 _ (by omega)).trans G2
              have z0 : (w7.setCell ⟨w4.heap.size + 1, 0, none⟩ (.slice A7 ls.length c7)).cell? ⟨w.heap.size, 0, none⟩ = some (.int .i64 op) := hE1.cell 0
              have z1 : (w7.setCell ⟨w4.heap.size + 1, 0, none⟩ (.slice A7 ls.length c7)).cell? ⟨w.heap.size, 1, none⟩ = some (.int .i64 (i : Int)) := hE1.cell 1
              have z2 : (w7.setCell ⟨w4.heap.size + 1, 0, none⟩ (.slice A7 ls.length c7)).cell? ⟨w.heap.size + 1, 0, none⟩ = some (.slice A ls.length c) := hE2.cell 0
              have z1l := hE1.lt
              have z2l := hE2.lt
              have P1 := zH hE1
              have P2 := zH hE2
              have P3 := zH ((hY0 _ (by omega)).trans (F3.out.after hb7))
              have PO := zH (GO.set 0 (.slice A7 ls.length c7))
              have PK : Hid (Sk (w7.setCell ⟨w4.heap.size + 1, 0, none⟩ (.slice A7 ls.length c7)) w4.heap.size r ss false) := zH ⟨B, d, (hY0 _ (by omega)).trans GK, QY (FB.out.below hb7) (fun hne x hx => by have := HBl.out (fun e => hne (by rw [e]; rfl)) x hx; show x.block ≠ w4.heap.size + 1; omega) 0 _, fun hne x hx => by have := HBl.out hne x hx; omega, hd, hd2⟩
              have PA : Hid (zT (w7.setCell ⟨w4.heap.size + 1, 0, none⟩ (.slice A7 ls.length c7)) W6.heap.size (.slice A7 ls.length c7) ls) := zH (TabM.zh hown7 (fun k hk => hY0 k (by have := (World.ownsRow.lt hown7 k hk).1; omega)))
              have PB := zH hB8
              have q2 := PK.out.flag.1
              have q2f := PK.out.flag.2.1
              have q2l := PK.out.lt
              have r0 : (w7.setCell ⟨w4.heap.size + 1, 0, none⟩ (.slice A7 ls.length c7)).cell? ⟨w.heap.size + 1 + 1, 0, none⟩ = some (.slice none 0 0) := Bx.cell P3.out 0
              have r1 : (w7.setCell ⟨w4.heap.size + 1, 0, none⟩ (.slice A7 ls.length c7)).cell? ⟨w.heap.size + 1 + 1, 1, none⟩ = some (.slice none 0 0) := Bx.cell P3.out 1
              have r0f : (w7.setCell ⟨w4.heap.size + 1, 0, none⟩ (.slice A7 ls.length c7)).frozen? ⟨w.heap.size + 1 + 1, 0, none⟩ = false := Bx.free P3.out 0
              have r1f : (w7.setCell ⟨w4.heap.size + 1, 0, none⟩ (.slice A7 ls.length c7)).frozen? ⟨w.heap.size + 1 + 1, 1, none⟩ = false := Bx.free P3.out 1
              have rl : w.heap.size + 1 + 1 < (w7.setCell ⟨w4.heap.size + 1, 0, none⟩ (.slice A7 ls.length c7)).heap.size := Bx.lt P3.out
              have n5 : ¬ w4.heap.size = w.heap.size + 1 + 1 := by omega
              have n6 : ¬ w.heap.size + 1 + 1 = w4.heap.size := by omega
              have y0 := hB8.cell hkg |>.trans HD.out
              have hkl : kg < (w7.setCell ⟨w4.heap.size + 1, 0, none⟩ (.slice A7 ls.length c7)).heap.size := Nat.lt_of_lt_of_le hkg hB8.size
              clear hown7 hg7 hcl7 hcx7 r7 ha7 G1 G2 GO GK hY0 hB8 hE1 hE2 hb7)
 generalize w7.setCell ⟨w4.heap.size + 1, 0, none⟩ (.slice A7 ls.length c7) = W8 at *
 have HX : Bx (W8.setCell ⟨w4.heap.size, 2, none⟩ (.bool true)) (w.heap.size + 1 + 1) #[.slice none 0 0, .slice none 0 0] 27 := (heap_setCell_other W8 ⟨w4.heap.size, 2, none⟩ (w.heap.size + 1 + 1) _ (by show w.heap.size + 1 + 1 ≠ w4.heap.size; omega)).trans P3.out
 have HW := KndS.Zw HX (.slice none 0 0) (.slice none 0 0)
 rw [show endP (ls, ss, false) = none from by unfold endP; rw [if_neg (by simp)]]
 exact bodyPost_ret (v := .tuple #[.agg #[.slice none 0 0, .slice none 0 0], .int .i64 16]) (zX Tryz.results10 _ _ _ _ rfl (run_loadVar_row _ _ _ _ #[.slice none 0 0, .slice none 0 0] (0, 0) _ HW Tryz.underlying27 rfl qc)) rfl ⟨rfl, KndS.zQ (PB.out.setCell (p := ⟨w4.heap.size, 2, none⟩) (by show w.heap.size ≤ w4.heap.size; omega) (.bool true)) (by omega) _ _⟩
end KrJ
end Go.Proofs.YtehainbhoflpnaaGreatDoor
