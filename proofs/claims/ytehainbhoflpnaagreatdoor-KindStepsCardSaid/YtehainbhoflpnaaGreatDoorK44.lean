/- pieces -/
import Derived.Test.YtehainbhoflpnaaGreatDoorK42
namespace Go.Proofs.YtehainbhoflpnaaGreatDoor
namespace KrM
open Go.RowKit Base BinM Stru DescM DescW DescX DescR DescS DescG DescP DescQ HierS HierT HierM HierC HierD HierN HierV HierR HierU HierY HierQ Kls KlsP KlsQ OpenK InsM InsB InsC InsA TabC TabM TabK TabP TabE TabB TabG TabH TabT TabU TabV TabX TabW TabF TabN TabO TabY TabR TabQ TabL KndM KndS KndV KndZ KrS KrA KrP KrB KrJ
set_option maxRecDepth 100000 in
theorem jr {ops : Array Oper} {o : Oper} {a : Act} {w : World} {K : Act → World → Prop} {Q : Exit → Act → World → Prop} {E : Prop} (hgd : o.guard = none) (s x : Operand)
 (ho : o.op = .call { callee := .builtin .append, args := #[s, x], argTypes := #[25, 25] })
 (base : Nat) (v : Value) (p : List T) (hs : a.eval s = v) (hown : zT w base v p) (A : Option Addr) (m c : Nat) (l : List T) (hx : a.eval x = .slice A m c)
 (hm : m = l.length) (hr : Rds w A (l.map sv)) (hlen : p.length + l.length ≤ 1048576) (hbase : base ≤ w.heap.size)
 (h : ∀ v' w', zT w' base v' (p ++ l) → w.grownBy w' v.ownBlock → K (a.put o.dst v') w') : if Region.wanted o (yielded ops a.tmps) = true then Oper.wp Tryz.prog o a w K Q else E := by
 have hw : Region.wanted o (yielded ops a.tmps) = true := by simp [Region.wanted, hgd]
 rw [if_pos hw]
 obtain ⟨i0, hi, hz, hs1, hb1⟩ := info_parts HierM.Xm
 refine QN s x 25 ho base 9 i0 _ 16 Tryz.underlying25 hi hz hs1 hb1 rfl v p.length (p.map sv) hs hown A m c (l.map sv) hx (by rw [List.length_map, hm]) hr (uN l) (by unfold maxLen; omega) (by omega) hbase ?_
 intro v' w' h1 h2
 refine h v' w' ?_ h2
 unfold zT
 rw [List.length_append, List.map_append, ← hm]
 exact h1
theorem qc : (Tryz.prog.info? 27).map (·.size) = some 2 := by kernel_rfl
theorem zo {W w' : World} {b q : Nat} {C : Array Value} {t : TypeId} (h : Bx W q C t) (hg : W.grownBy w' (some b)) (hn : q ≠ b) : Bx w' q C t := (hg.block q h.lt (fun e => by injection e with e; omega)).trans h
theorem ZF {w w' : World} (h : w.grownBy w' none) : Below w.heap.size w w' := (Below.refl _ _).grown h (Nat.le_refl _) (fun k hk => by cases hk)
theorem zo0 {w w' : World} {A : Option Addr} {xs : List Value} (h : Rds w A xs) (hs : w.heap.size ≤ w'.heap.size) (hb : xs ≠ [] → ∀ a, A = some a → w'.heap[a.block]? = w.heap[a.block]?) : Rds w' A xs := by
 by_cases e : xs = []
 · exact .inl e
 · exact TabN.ZU h hs (hb e)
theorem zz2 {w : World} {A : Option Addr} {ss : List T} (h : Rds w A (ss.map sv)) : Rds w A ((zi ss).2.1.map sv) := by
 by_cases h0 : 0 < ss.length
 · rw [YI h0, List.map_take]; exact h.take _
 · have e : ss = [] := List.eq_nil_of_length_eq_zero (by omega)
   subst e
   exact .inl rfl
set_option maxRecDepth 100000 in
theorem Zj6 {w : World} {b r : Nat} {A : Option Addr} {c : Nat} {ss : List T} {bad : Bool} (hbx : Bx w b #[.pointer (some ⟨r, 0, none⟩), .slice A ss.length c, .bool bad] 70) (hr : Rds w A (ss.map sv)) (hc1 : ss.length ≤ c) (_hc2 : c ≤ maxLen) (hm : ss.length ≤ 1000) :
 Calls Tryz.prog 29 #[.pointer (some ⟨b, 0, none⟩)] w fun e w' => e = .returned (.string ⟨(zi ss).1.toArray⟩) ∧ Bx w' b #[.pointer (some ⟨r, 0, none⟩), .slice A (zi ss).2.1.length c, .bool (bad || !(zi ss).2.2)] 70 ∧ w.grownBy w' (some b) := by
 have HB := zH hbx
 have HR := zH hr
 have c1 : w.cell? ⟨b, 1, none⟩ = some (.slice A ss.length c) := hbx.cell 1
 have c2 : w.cell? ⟨b, 2, none⟩ = some (.bool bad) := hbx.cell 2
 have f1 := hbx.free 1
 have f2 := hbx.free 2
 have hlt := hbx.lt
 clear hbx hr
 by_cases h0 : 0 < ss.length
 · rw [YI h0]
   obtain ⟨g, o, rfl, hg, hc⟩ := HR.out.at_ (k := ss.length - 1) (by simp; omega)
   rw [List.getElem_map] at hc
   simp only [sv] at hc
   generalize ss[ss.length - 1] = d at *
   have HL := zH (show (ss.take (ss.length - 1)).length = ss.length - 1 by simp)
   generalize ss.take (ss.length - 1) = s2 at *
   obtain ⟨m, hm'⟩ : ∃ m, ss.length = m + 1 := ⟨ss.length - 1, by omega⟩
   have hm2 : ss.length - 1 = m := by omega
   rw [hm2] at hc HL
   rw [hm'] at c1 HB hc1
   have hmi : (m : Int) < ((m + 1 : Nat) : Int) := by omega
   have hm0 : (0 : Int) ≤ (m : Int) := by omega
   have hmb : m + 1 ≤ 1000 := by omega
   have HF : Hid (Bx (w.setCell ⟨b, 1, none⟩ (.slice (some ⟨g, o, none⟩) m c)) b #[.pointer (some ⟨r, 0, none⟩), .slice (some ⟨g, o, none⟩) s2.length c, .bool (bad || !true)] 70) := zH (by rw [HL.out]; simp only [Bool.not_true, Bool.or_false]; exact HB.out.set 1 (.slice (some ⟨g, o, none⟩) m c))
   clear hm' hm2 h0 hm HL
   go_enter Tryz.func29, Tryz.ntmps29
   go_wp2_with fail
   go_region
   go_wp2_with fail
   go_region
   go_wp2_with fail
   go_ret
   exact ⟨rfl, HF.out, qW (qW (ZT 1 _))⟩
 · have e : ss = [] := List.eq_nil_of_length_eq_zero (by omega)
   subst e
   rw [Vn]
   have HF : Hid (Bx (w.setCell ⟨b, 2, none⟩ (.bool true)) b #[.pointer (some ⟨r, 0, none⟩), .slice A ([] : List T).length c, .bool (bad || !false)] 70) := zH (by simp only [Bool.not_false, Bool.or_true]; exact HB.out.set 2 (.bool true))
   go_enter Tryz.func29, Tryz.ntmps29
   go_wp2_with fail
   go_ret
   exact ⟨rfl, HF.out, ZT 2 _⟩
set_option maxRecDepth 100000 in
set_option maxHeartbeats 4000000 in
theorem kQ {w : World} {r : Nat} (_hrw : r < w.heap.size) (kA : Option Addr) (km kc : Nat) (gv : T) (op a : Int) (A : Option Addr) (c : Nat) (ls : List T) (B : Option Addr) (d : Nat) (ss : List T) (hA : Rds w A (ls.map sv)) (hB : Rds w B (ss.map sv)) (hd : ss.length ≤ d) (hd2 : d ≤ maxLen) (_hm : ss.length ≤ 500) (hl : ls.length ≤ 500)
 (_hsl : ∀ x ∈ ss, x.length ≤ 140737488351232) (i : Nat) (hop : op = 7) (ha : a = (i : Int)) (hki : Zv op = 6) (hi : i < ls.length) :
 Calls Tryz.prog 10 #[.pointer (some ⟨r, 0, none⟩), .slice kA km kc, .string ⟨gv.toArray⟩, .agg #[.int .i64 op, .int .i64 a], .agg #[.slice A ls.length c, .slice B ss.length d]] w (ZO w (endP (ls.set i (zi ss).1, (zi ss).2.1, (zi ss).2.2))) := by
 have hb1 : Below w.heap.size w (((w.alloc (.cells #[.int .i64 op, .int .i64 a] 24)).alloc (.cells #[.slice A ls.length c, .slice B ss.length d] 27)).alloc (.cells #[.slice none 0 0, .slice none 0 0] 27)) := (((Below.refl _ _).alloc (Nat.le_refl _) _).alloc (by simp) _).alloc (by simp; omega) _
 have e1 : (w.alloc (.cells #[.int .i64 op, .int .i64 a] 24)).heap.size = w.heap.size + 1 := by simp
 have e2 : ((w.alloc (.cells #[.int .i64 op, .int .i64 a] 24)).alloc (.cells #[.slice A ls.length c, .slice B ss.length d] 27)).heap.size = w.heap.size + 1 + 1 := by simp
 have hx1 := TabZ.Zn (TabZ.Zn (Bx.new w #[.int .i64 op, .int .i64 a] 24) (.cells #[.slice A ls.length c, .slice B ss.length d] 27)) (.cells #[.slice none 0 0, .slice none 0 0] 27)
 have hx2 := TabZ.Zn (Bx.new (w.alloc (.cells #[.int .i64 op, .int .i64 a] 24)) #[.slice A ls.length c, .slice B ss.length d] 27) (.cells #[.slice none 0 0, .slice none 0 0] 27)
 have hx3 := Bx.new ((w.alloc (.cells #[.int .i64 op, .int .i64 a] 24)).alloc (.cells #[.slice A ls.length c, .slice B ss.length d] 27)) #[.slice none 0 0, .slice none 0 0] 27
 rw [e1] at hx2
 rw [e2] at hx3
 have hs3 : (((w.alloc (.cells #[.int .i64 op, .int .i64 a] 24)).alloc (.cells #[.slice A ls.length c, .slice B ss.length d] 27)).alloc (.cells #[.slice none 0 0, .slice none 0 0] 27)).heap.size = w.heap.size + 3 := by simp
 obtain ⟨W3, hW3⟩ : ∃ W, (((w.alloc (.cells #[.int .i64 op, .int .i64 a] 24)).alloc (.cells #[.slice A ls.length c, .slice B ss.length d] 27)).alloc (.cells #[.slice none 0 0, .slice none 0 0] 27)) = W := ⟨_, rfl⟩
 rw [hW3] at hb1 hx1 hx2 hx3 hs3
 have hs3a : w.heap.size + 2 < W3.heap.size := by omega
 have Hs3 := zH hs3
 clear hs3
 have HB3 := zH hb1
 have H1 := zH hx1
 have H2 := zH hx2
 have H3 := zH hx3
 have HBl := zH (fun (hne : ss ≠ []) => xD hB (by simpa using hne))
 have RA := zH (hA.below hb1)
 have RB := zH (hB.below hb1)
 have a0 : W3.cell? ⟨w.heap.size, 0, none⟩ = some (.int .i64 op) := hx1.cell 0
 have HKi := zH (qR op W3)
 unfold InsB.Ql at HKi
 rw [hki] at HKi
 subst ha
 subst hop
 have hii : (i : Int) < (ls.length : Int) := by omega
 have hi0 : (0 : Int) ≤ (i : Int) := by omega
 have HPop := zH (fun (W : World) (b : Nat) (h1 : Bx W b #[.pointer (some ⟨r, 0, none⟩), .slice B ss.length d, .bool false] 70) (h2 : Rds W B (ss.map sv)) => Zj6 h1 h2 hd hd2 (by omega : ss.length ≤ 1000))
 have HTk := zH (fun (W : World) (h2 : Rds W B (ss.map sv)) => zz2 h2)
 have Hpl := zH (KndP.Qv (ss := ss))
 clear hki _hsl
 have hl1 := hx1.lt
 clear e1 e2 hx1 hx2 hx3 hb1 hA hB
 go_enter Tryz.func10, Tryz.ntmps10
 go_wp2_with fail
 refine HKi.out.mono ?_
 rintro e w4 ⟨rfl, hb4⟩
 clear hW3 a0 HKi hl1
 have h1 := H1.out.after hb4
 have h2 := H2.out.after hb4
 have h3 := H3.out.after hb4
 have a2 : w4.cell? ⟨w.heap.size + 1, 0, none⟩ = some (.slice A ls.length c) := h2.cell 0
 have a3 : w4.cell? ⟨w.heap.size + 1, 1, none⟩ = some (.slice B ss.length d) := h2.cell 1
 have l3 := h2.lt
 have s4 := hb4.size
 have hB6 : Below w4.heap.size w4 ((w4.alloc (.cells #[.pointer (some ⟨r, 0, none⟩), .slice B ss.length d, .bool false] 70)).alloc (.cells #[.slice none 0 0, .slice none 0 0] 27)) := ((Below.refl _ _).alloc (Nat.le_refl _) _).alloc (by simp) _
 have hK6 := TabZ.Zn (Bx.new w4 #[.pointer (some ⟨r, 0, none⟩), .slice B ss.length d, .bool false] 70) (.cells #[.slice none 0 0, .slice none 0 0] 27)
 have hO6 := Bx.new (w4.alloc (.cells #[.pointer (some ⟨r, 0, none⟩), .slice B ss.length d, .bool false] 70)) #[.slice none 0 0, .slice none 0 0] 27
 rw [show (w4.alloc (.cells #[.pointer (some ⟨r, 0, none⟩), .slice B ss.length d, .bool false] 70)).heap.size = w4.heap.size + 1 by simp] at hO6
 obtain ⟨W6, hW6⟩ : ∃ W, ((w4.alloc (.cells #[.pointer (some ⟨r, 0, none⟩), .slice B ss.length d, .bool false] 70)).alloc (.cells #[.slice none 0 0, .slice none 0 0] 27)) = W := ⟨_, rfl⟩
 have hs6 : W6.heap.size = w4.heap.size + 2 := by rw [← hW6]; simp
 rw [hW6] at hB6 hK6 hO6
 have HW6 := zH hW6
 clear hW6
 have F1 := zH (h1.after hB6)
 have F2 := zH (h2.after hB6)
 have F3 := zH (h3.after hB6)
 have FK := zH hK6
 have FO := zH hO6
 have FA := zH (RA.out.below (hb4.trans (hB6.mono hb4.size)))
 have FB := zH (RB.out.below (hb4.trans (hB6.mono hb4.size)))
 have FW := zH (HB3.out.trans ((hb4.trans (hB6.mono hb4.size)).mono HB3.out.size))
 have l3b : w.heap.size < w4.heap.size := by omega
 have p0 : ((w4.alloc (.cells #[.pointer (some ⟨r, 0, none⟩), .slice B ss.length d, .bool false] 70)).alloc (.cells #[.slice none 0 0, .slice none 0 0] 27)).cell? ⟨w.heap.size + 1, 0, none⟩ = some (.slice A ls.length c) := by rw [HW6.out]; exact F2.out.cell 0
 clear h1 h2 h3 H1 H2 H3 RA RB HB3 hB6 hK6 hO6 hb4
 go_wp2_with (at_builtin
              rw [HW6.out]
              refine UK rfl (.tmp 25) (.tmp 27) rfl W6.heap.size _ [] rfl (zT.nil _ _) A ls.length c ls rfl rfl FA.out (by simp; omega) (Nat.le_refl _) ?_
              intro v7 w7 hown7 hg7
              rw [List.nil_append] at hown7
              obtain ⟨A7, c7, rfl, hcl7, hcx7, r7, ha7⟩ := zT.slice hown7
              have hb7 : Below W6.heap.size W6 w7 := ZF hg7
              have G1 := F1.out.after hb7
              have G2 := F2.out.after hb7
              have GO := FO.out.after hb7
              have GK := FK.out.after hb7
              have o1 : w7.cell? ⟨w4.heap.size + 1, 0, none⟩ = some (.slice none 0 0) := GO.cell 0
              have o1f := GO.free 0
              have o1l := GO.lt
              have n1 : ¬ w4.heap.size + 1 = w.heap.size := by omega
              have n2 : ¬ w4.heap.size + 1 = w.heap.size + 1 := by omega
              have n3 : ¬ w.heap.size = w4.heap.size + 1 := by omega
              have n4 : ¬ w.heap.size + 1 = w4.heap.size + 1 := by omega
              have hY0 : ∀ k, k ≠ w4.heap.size + 1 → (w7.setCell ⟨w4.heap.size + 1, 0, none⟩ (.slice A7 ls.length c7)).heap[k]? = w7.heap[k]? := fun k hk => heap_setCell_other w7 ⟨w4.heap.size + 1, 0, none⟩ k _ hk
              have hB8 : Below w.heap.size w (w7.setCell ⟨w4.heap.size + 1, 0, none⟩ (.slice A7 ls.length c7)) := (FW.out.trans (hb7.mono FW.out.size)).setCell (by show w.heap.size ≤ w4.heap.size + 1; omega) _
              have hE1 : Bx (w7.setCell ⟨w4.heap.size + 1, 0, none⟩ (.slice A7 ls.length c7)) w.heap.size #[.int .i64 7, .int .i64 (i : Int)] 24 := (hY0 _ (by omega)).trans G1
              have hE2 : Bx (w7.setCell ⟨w4.heap.size + 1, 0, none⟩ (.slice A7 ls.length c7)) (w.heap.size + 1) #[.slice A ls.length c, .slice B ss.length d] 27 := (hY0 _ (by omega)).trans G2
              have z0 : (w7.setCell ⟨w4.heap.size + 1, 0, none⟩ (.slice A7 ls.length c7)).cell? ⟨w.heap.size, 0, none⟩ = some (.int .i64 7) := hE1.cell 0
              have z1 : (w7.setCell ⟨w4.heap.size + 1, 0, none⟩ (.slice A7 ls.length c7)).cell? ⟨w.heap.size, 1, none⟩ = some (.int .i64 (i : Int)) := hE1.cell 1
              have z2 : (w7.setCell ⟨w4.heap.size + 1, 0, none⟩ (.slice A7 ls.length c7)).cell? ⟨w.heap.size + 1, 0, none⟩ = some (.slice A ls.length c) := hE2.cell 0
              have z1l := hE1.lt
              have z2l := hE2.lt
              have P1 := zH hE1
              have P2 := zH hE2
              have P3 := zH ((hY0 _ (by omega)).trans (F3.out.after hb7))
              have PO := zH (GO.set 0 (.slice A7 ls.length c7))
              have PK : Hid (Sk (w7.setCell ⟨w4.heap.size + 1, 0, none⟩ (.slice A7 ls.length c7)) w4.heap.size r ss false) := zH ⟨B, d, (hY0 _ (by omega)).trans GK, QY (FB.out.below hb7) (fun hne x hx => by have := HBl.out (fun e => hne (by rw [e]; rfl)) x hx; show x.block ≠ w4.heap.size + 1; omega) 0 _, fun hne x hx => by have := HBl.out hne x hx; omega, hd, hd2⟩
              have PA : Hid (zT (w7.setCell ⟨w4.heap.size + 1, 0, none⟩ (.slice A7 ls.length c7)) W6.heap.size (.slice A7 ls.length c7) ls) := zH (TabM.zh hown7 (fun k hk => hY0 k (by have := (World.ownsRow.lt hown7 k hk).1; omega)))
              have PB := zH hB8
              have PKB : Hid (Bx (w7.setCell ⟨w4.heap.size + 1, 0, none⟩ (.slice A7 ls.length c7)) w4.heap.size #[.pointer (some ⟨r, 0, none⟩), .slice B ss.length d, .bool false] 70) := zH ((hY0 _ (by omega)).trans GK)
              have PR : Hid (Rds (w7.setCell ⟨w4.heap.size + 1, 0, none⟩ (.slice A7 ls.length c7)) B (ss.map sv)) := zH (QY (FB.out.below hb7) (fun hne x hx => by have := HBl.out (fun e => hne (by rw [e]; rfl)) x hx; show x.block ≠ w4.heap.size + 1; omega) 0 _)
              clear hown7 hg7 hcl7 hcx7 r7 ha7 G1 G2 GO GK hY0 hB8 hE1 hE2 hb7)
 generalize w7.setCell ⟨w4.heap.size + 1, 0, none⟩ (.slice A7 ls.length c7) = W8 at *
 have HK := zH (HPop.out W8.drew w4.heap.size PKB.out PR.out)
 have HNe := zH (fun (h : (zi ss).2.1 ≠ []) (e : ss = []) => h (by rw [e]; rfl))
 have HTk8 := zH (fun (W : World) (h2 : Rds W B (ss.map sv)) => HTk.out W h2)
 clear HPop HTk
 generalize zi ss = p at *
 obtain ⟨dd, s2, ok⟩ := p
 simp only at HK HTk8 Hpl HNe ⊢
 obtain ⟨g7, hg7, hgl7, hgc7, hgf7⟩ := KndU.K9 PA.out hi
 subst hg7
 have hgb7 := (World.ownsRow.lt PA.out g7 rfl).1
 have o8 : W8.cell? ⟨w4.heap.size + 1, 0, none⟩ = some (.slice (some ⟨g7, 0, none⟩) ls.length c7) := PO.out.cell 0
 have o9 := PO.out.lt
 go_region_held3 (fun w' => w'.cell? ⟨w4.heap.size + 1, 0, none⟩ = some (.slice (some ⟨g7, 0, none⟩) ls.length c7) ∧ w'.cell? ⟨w.heap.size, 1, none⟩ = some (.int .i64 (i : Int)))
  (first | (with_reducible exact ⟨o8, z1⟩) | (with_reducible exact ⟨y0, y1⟩) | (with_reducible exact ⟨x0, x1⟩) | go_keep)
  (first
   | (go_at_call 29
      with_reducible refine HK.out.mono ?_
      rintro e w5 ⟨rfl, hb5, hg5⟩
      have y0 : w5.cell? ⟨w4.heap.size + 1, 0, none⟩ = some (.slice (some ⟨g7, 0, none⟩) ls.length c7) := (World.cell?_of_block (a := ⟨w4.heap.size + 1, 0, none⟩) (hg5.block (w4.heap.size + 1) o9 (fun e => by injection e with e; omega))).trans o8
      have y1 : w5.cell? ⟨w.heap.size, 1, none⟩ = some (.int .i64 (i : Int)) := (World.cell?_of_block (a := ⟨w.heap.size, 1, none⟩) (hg5.block w.heap.size z1l (fun e => by injection e with e; omega))).trans z1
      have q0 : w5.cell? ⟨g7, i, none⟩ = some (sv ls[i]) := (World.cell?_of_block (a := ⟨g7, i, none⟩) (hg5.block g7 hgl7 (fun e => by injection e with e; omega))).trans hgc7
      have q1 : w5.frozen? ⟨g7, i, none⟩ = false := (World.frozen?_of_block (a := ⟨g7, i, none⟩) (hg5.block g7 hgl7 (fun e => by injection e with e; omega))).trans hgf7
      have q2 : g7 < w5.heap.size := Nat.lt_of_lt_of_le hgl7 hg5.size
      have x0 : (w5.setCell ⟨g7, i, none⟩ (.string ⟨dd.toArray⟩)).cell? ⟨w4.heap.size + 1, 0, none⟩ = some (.slice (some ⟨g7, 0, none⟩) ls.length c7) := (World.cell?_of_block (a := ⟨w4.heap.size + 1, 0, none⟩) (heap_setCell_other w5 ⟨g7, i, none⟩ (w4.heap.size + 1) _ (by show w4.heap.size + 1 ≠ g7; omega))).trans y0
      have x1 : (w5.setCell ⟨g7, i, none⟩ (.string ⟨dd.toArray⟩)).cell? ⟨w.heap.size, 1, none⟩ = some (.int .i64 (i : Int)) := (World.cell?_of_block (a := ⟨w.heap.size, 1, none⟩) (heap_setCell_other w5 ⟨g7, i, none⟩ w.heap.size _ (by show w.heap.size ≠ g7; omega))).trans y1))
 all_goals
  have hg : W8.grownBy w5 (some w4.heap.size) := ⟨hg5.os, hg5.tape, hg5.output, hg5.size, hg5.block⟩
  have hZ : ∀ k, k ≠ g7 → (w5.setCell ⟨g7, i, none⟩ (.string ⟨dd.toArray⟩)).heap[k]? = w5.heap[k]? := fun k hk => heap_setCell_other w5 ⟨g7, i, none⟩ k _ hk
  have T1 : Hid (Bx (w5.setCell ⟨g7, i, none⟩ (.string ⟨dd.toArray⟩)) (w4.heap.size + 1) #[.slice (some ⟨g7, 0, none⟩) ls.length c7, .slice none 0 0] 27) := zH ((hZ (w4.heap.size + 1) (by omega)).trans (zo PO.out hg (by omega)))
  have T3 : Hid (Bx (w5.setCell ⟨g7, i, none⟩ (.string ⟨dd.toArray⟩)) (w.heap.size + 1 + 1) #[.slice none 0 0, .slice none 0 0] 27) := zH ((hZ (w.heap.size + 1 + 1) (by omega)).trans (zo P3.out hg (by omega)))
  have TK : Hid (Bx (w5.setCell ⟨g7, i, none⟩ (.string ⟨dd.toArray⟩)) w4.heap.size #[.pointer (some ⟨r, 0, none⟩), .slice B s2.length d, .bool (false || !ok)] 70) := zH ((hZ w4.heap.size (by omega)).trans hb5)
  have TB := zH (((PB.out).trans (below_grown hg (by omega) PB.out.size)).setCell (p := ⟨g7, i, none⟩) (by show w.heap.size ≤ g7; omega) (.string ⟨dd.toArray⟩))
  have hr9 := zo0 (HTk8.out W8 PR.out) (by simp [World.setCell]; exact hg.size) (fun hne x hx => (hZ x.block (by have := HBl.out (HNe.out (fun e => hne (by rw [e]; rfl))) x hx; omega)).trans (hg.block x.block (by have := HBl.out (HNe.out (fun e => hne (by rw [e]; rfl))) x hx; have := PB.out.size; omega) (fun e => by injection e with e; have := HBl.out (HNe.out (fun e => hne (by rw [e]; rfl))) x hx; omega)))
  have TR := zH hr9
  have TA0 := TabM.zh PA.out (fun k hk => hg.block k ((World.ownsRow.lt PA.out k hk).2) (fun e => by injection e with e; have := (World.ownsRow.lt PA.out k hk).1; omega))
  have TA : Hid (zT (w5.setCell ⟨g7, i, none⟩ (.string ⟨dd.toArray⟩)) W6.heap.size (.slice (some ⟨g7, 0, none⟩) ls.length c7) (ls.set i dd)) := zH (by
   have h3 := (World.ownsRow.stored (show w5.ownsRow W6.heap.size 9 1 (.slice (some ⟨g7, 0, none⟩) ls.length c7) ls.length (ls.map sv) from TA0) i (.string ⟨dd.toArray⟩)).1
   show World.ownsRow _ _ _ _ _ _ _
   rw [List.length_set, List.map_set]
   exact h3)
  have hbx9 := TK.out
  simp only [Bool.false_or] at hbx9
  clear y0 y1 q0 q1 q2 x0 x1 TA0 hZ hb5 hg5 o8 o9 z0 z1 z2 hgc7 hgf7
  generalize w5.setCell ⟨g7, i, none⟩ (.string ⟨dd.toArray⟩) = w9 at *
  have b1 : w9.cell? ⟨w4.heap.size, 1, none⟩ = some (.slice B s2.length d) := hbx9.cell 1
  have b2 : w9.cell? ⟨w4.heap.size, 2, none⟩ = some (.bool (!ok)) := hbx9.cell 2
  have bl := hbx9.lt
  have g0 := T3.out.free 0
  have g1 := T3.out.free 1
  have k0 : w9.cell? ⟨w.heap.size + 1 + 1, 0, none⟩ = some (.slice none 0 0) := T3.out.cell 0
  have k1 : w9.cell? ⟨w.heap.size + 1 + 1, 1, none⟩ = some (.slice none 0 0) := T3.out.cell 1
  have kl := T3.out.lt
  have u0 : w9.cell? ⟨w4.heap.size + 1, 0, none⟩ = some (.slice (some ⟨g7, 0, none⟩) ls.length c7) := T1.out.cell 0
  have u1 : w9.cell? ⟨w4.heap.size + 1, 1, none⟩ = some (.slice none 0 0) := T1.out.cell 1
  have ul := T1.out.lt
  clear hg hbx9 hr9 TK PO P3 PB PA PK P1 P2 PKB PR
  cases ok
  · have HF := zH (show endP (ls.set i dd, s2, false) = none by unfold endP; rw [if_neg (by simp)])
    go_wp2_with fail
    have HW := KndS.Zw T3.out (.slice none 0 0) (.slice none 0 0)
    rw [HF.out]
    exact bodyPost_ret (v := .tuple #[.agg #[.slice none 0 0, .slice none 0 0], .int .i64 16]) (zX Tryz.results10 _ _ _ _ rfl (run_loadVar_row _ _ _ _ #[.slice none 0 0, .slice none 0 0] (0, 0) _ HW Tryz.underlying27 rfl qc)) rfl ⟨rfl, KndS.zQ TB.out (by omega) _ _⟩
  · by_cases h16 : s2.length ≤ 16
    · have HF := zH (show endP (ls.set i dd, s2, true) = some (ls.set i dd, s2) by unfold endP; rw [if_pos ⟨rfl, h16⟩])
      have TRd := zH (TR.out.below ((Below.refl w9.heap.size w9).drew))
      go_wp2_with fail
      go_region_law (refine jr rfl (.tmp 145) (.tmp 149) rfl w9.heap.size _ [] rfl (zT.nil _ _) B s2.length d s2 rfl rfl TRd.out (by simp; omega) (by simp) ?_; intro v5 w5 hown5 hg5; rw [List.nil_append] at hown5; obtain ⟨A5, c5, rfl, hcl5, hcx5, r5, ha5⟩ := zT.slice hown5; have hb5 : Below w9.heap.size w9 w5 := (Below.refl w9.heap.size w9).drew.trans (ZF hg5); have v1 := (T1.out.after hb5).cell 1; have v0 := (T1.out.after hb5).cell 0; have vf := (T1.out.after hb5).free 1; have vl := (T1.out.after hb5).lt)
      all_goals
       obtain ⟨A7', c7', e7, _, _, r7, ha7⟩ := zT.slice TA.out
       injection e7 with e7a e7n e7c
       clear e7n
       subst e7a
       subst e7c
       have hY5 : ∀ k, k ≠ w4.heap.size + 1 → (w5.setCell ⟨w4.heap.size + 1, 1, none⟩ (.slice A5 s2.length c5)).heap[k]? = w5.heap[k]? := fun k hk => heap_setCell_other w5 ⟨w4.heap.size + 1, 1, none⟩ k _ hk
       have Q1 := zH ((T1.out.after hb5).set 1 (.slice A5 s2.length c5))
       have Q3 : Hid (Bx (w5.setCell ⟨w4.heap.size + 1, 1, none⟩ (.slice A5 s2.length c5)) (w.heap.size + 1 + 1) #[.slice none 0 0, .slice none 0 0] 27) := zH ((hY5 (w.heap.size + 1 + 1) (by omega)).trans (T3.out.after hb5))
       have QA := zH (TabN.ZU (r7.below hb5) (by simp [World.setCell]) (fun x hx => hY5 x.block (by have := (ha7 x hx).1; omega)))
       have QR := zH (TabN.ZU r5 (by simp [World.setCell]) (fun x hx => hY5 x.block (by have := (ha5 x hx).1; omega)))
       have QB := zH ((TB.out.trans (hb5.mono TB.out.size)).setCell (p := ⟨w4.heap.size + 1, 1, none⟩) (by show w.heap.size ≤ w4.heap.size + 1; omega) (.slice A5 s2.length c5))
       have HA7 : Hid (∀ x, some (⟨g7, 0, none⟩ : Addr) = some x → x.block ≠ w.heap.size + 1 + 1) := zH (fun x hx => by have := (ha7 x hx).1; omega)
       have HA5 : Hid (∀ x, A5 = some x → x.block ≠ w.heap.size + 1 + 1) := zH (fun x hx => by have := (ha5 x hx).1; omega)
       clear hown5 hg5 hY5 hb5 v0 v1 vf vl r5 ha5 r7 ha7 T1 T3 TB TA TR TRd b1 b2 g0 g1 k0 k1 u0 u1
       generalize w5.setCell ⟨w4.heap.size + 1, 1, none⟩ (.slice A5 s2.length c5) = W5 at *
       have g0 := Q3.out.free 0
       have g1 := Q3.out.free 1
       have k0 : W5.cell? ⟨w.heap.size + 1 + 1, 0, none⟩ = some (.slice none 0 0) := Q3.out.cell 0
       have k1 : W5.cell? ⟨w.heap.size + 1 + 1, 1, none⟩ = some (.slice none 0 0) := Q3.out.cell 1
       have kl := Q3.out.lt
       have u0 : W5.cell? ⟨w4.heap.size + 1, 0, none⟩ = some (.slice (some ⟨g7, 0, none⟩) ls.length c7) := Q1.out.cell 0
       have u1 : W5.cell? ⟨w4.heap.size + 1, 1, none⟩ = some (.slice A5 s2.length c5) := Q1.out.cell 1
       have ul := Q1.out.lt
       go_wp2_with fail
       have HW := KndS.Zw Q3.out (.slice (some ⟨g7, 0, none⟩) ls.length c7) (.slice A5 s2.length c5)
       rw [HF.out]
       exact bodyPost_ret (v := .tuple #[.agg #[.slice (some ⟨g7, 0, none⟩) ls.length c7, .slice A5 s2.length c5], .int .i64 0]) (zX Tryz.results10 _ _ _ _ rfl (run_loadVar_row _ _ _ _ #[.slice (some ⟨g7, 0, none⟩) ls.length c7, .slice A5 s2.length c5] (0, 0) _ HW Tryz.underlying27 rfl qc)) rfl
        ⟨⟨some ⟨g7, 0, none⟩, c7, A5, c5, by rw [List.length_set], KndS.qN QA.out _ _ HA7.out, KndS.qN QR.out _ _ HA5.out⟩, KndS.zQ QB.out (by omega) _ _⟩
    · have HF := zH (show endP (ls.set i dd, s2, true) = none by unfold endP; rw [if_neg (by simp; omega)])
      have h17 : 16 < s2.length := by omega
      go_wp2_with fail
      have HW := KndS.Zw T3.out (.slice none 0 0) (.slice none 0 0)
      rw [HF.out]
      exact bodyPost_ret (v := .tuple #[.agg #[.slice none 0 0, .slice none 0 0], .int .i64 16]) (zX Tryz.results10 _ _ _ _ rfl (run_loadVar_row _ _ _ _ #[.slice none 0 0, .slice none 0 0] (0, 0) _ HW Tryz.underlying27 rfl qc)) rfl ⟨rfl, KndS.zQ TB.out (by omega) _ _⟩
end KrM
end Go.Proofs.YtehainbhoflpnaaGreatDoor
