/- pieces -/
import Derived.Test.YtehainbhoflpnaaGreatDoorK35
namespace Go.Proofs.YtehainbhoflpnaaGreatDoor
namespace KndY
open Go.RowKit Base BinM Stru DescM DescW DescX DescS DescG DescP DescQ HierS HierT HierM HierC HierD HierN HierV HierR HierU HierY Kls KlsP KlsQ OpenK TabC TabM TabK TabP TabE TabB TabG TabH TabT TabU TabV TabX TabW TabF TabN TabO TabY TabR TabQ TabL TabZ KndB KndM KndS KndP KndQ KndR KndU KndV KndW KndX
def noM (C : List zf) (c : Cst) : Prop := Ze (Zl c.t) (hav C c.s).2 < 0 ∨ (mtE (hav C c.s).2 c.t).sig ≠ c.u
instance (C : List zf) (c : Cst) : Decidable (noM C c) := by unfold noM; exact inferInstance
def Ju (h : Hr) (C : List zf) (c : Cst) (ss : List T) : List T × Bool :=
 if noM C c then (ss, false) else if (zx h ss (ofT c.s :: (zy c.u).2.1)).2 = true then (if (zy c.u).1 = [86] then ((zx h ss (ofT c.s :: (zy c.u).2.1)).1, true) else ((zx h ss (ofT c.s :: (zy c.u).2.1)).1 ++ [(zy c.u).1], true)) else (ss, false)
theorem Jl : ∀ (n : Nat) (l : T) (ts : List T) (g : T), parse n l = some (ts, g) → ts.length ≤ n := by
 intro n
 induction n with
 | zero =>
   intro l ts g h
   by_cases h41 : l.head? = some 41
   · rw [QZ 0 h41] at h; injection h with h; injection h with h _; subst h; simp
   · rw [jI h41] at h; cases h
 | succ n ih =>
   intro l ts g h
   by_cases h41 : l.head? = some 41
   · rw [QZ _ h41] at h; injection h with h; injection h with h _; subst h; simp
   · cases hl : Zy l with
     | none => rw [QK _ h41 hl] at h; cases h
     | some k =>
       rw [JB n h41 hl] at h
       cases hp : parse n (l.drop k) with
       | none => rw [hp] at h; cases h
       | some r =>
         rw [hp] at h
         injection h with h
         injection h with h _
         subst h
         have := ih (l.drop k) r.1 r.2 hp
         simp; omega
theorem zh5 (u : T) : (zy u).2.1.length ≤ 6 := by
 unfold zy
 split
 · split
   · rename_i h
     split
     · exact Jl 6 _ _ _ h
     · simp
   · simp
 · simp
theorem JA (u : T) : (zy u).2.1.length ≤ 8 ∧ (zy u).1.length ≤ u.length ∧ ∀ x ∈ (zy u).2.1, x.length ≤ u.length :=
 ⟨Nat.le_trans (zh5 u) (by omega), Jb u⟩
def kJ (w : World) (g : Nat) (x y z : Value) : World := ((w.setCell ⟨g, 0, none⟩ x).setCell ⟨g, 1, none⟩ y).setCell ⟨g, 2, none⟩ z
theorem XP (w : World) (g : Nat) (x y z : Value) : ((w.setCell ⟨g, 0, none⟩ x).setCell ⟨g, 1, none⟩ y).setCell ⟨g, 2, none⟩ z = kJ w g x y z := rfl
theorem Y9 (w : World) (g : Nat) (x y z : Value) (k : Nat) (hk : k ≠ g) : (kJ w g x y z).heap[k]? = w.heap[k]? :=
 (heap_setCell_other _ ⟨g, 2, none⟩ k z hk).trans ((heap_setCell_other _ ⟨g, 1, none⟩ k y hk).trans (heap_setCell_other w ⟨g, 0, none⟩ k x hk))
theorem zx7 {lo b : Nat} {w : World} {t : Nat} {kc : Value} {gv : T} {op a : Int} {LV SV : Value} {ls ss : List T} (h : St lo b w t kc gv op a LV ls SV ss) {g : Nat} (hg : g ≠ b) (hl : ∀ k, LV.ownBlock = some k → k ≠ g) (hs : ∀ k, SV.ownBlock = some k → k ≠ g) (x y z : Value) :
 St lo b (kJ w g x y z) t kc gv op a LV ls SV ss :=
 ⟨(Y9 w g x y z b (fun e => hg e.symm)).trans h.box, h.lob, TabM.zh h.loc (fun k hk => Y9 w g x y z k (hl k hk)), TabM.zh h.stk (fun k hk => Y9 w g x y z k (hs k hk)), h.nl, h.ns, h.ap⟩
theorem XO {w : World} {g : Nat} {ty : TypeId} {u0 u1 u2 : Value} (h : Bx w g #[u0, u1, u2] ty) (x y z : Value) : Bx (kJ w g x y z) g #[x, y, z] ty := ((h.set 0 x).set 1 y).set 2 z
theorem J8 {lo : Nat} {a w : World} (h : Below lo a w) {g : Nat} (hg : lo ≤ g) (x y z : Value) : Below lo a (kJ w g x y z) := ((h.setCell hg x (p := ⟨g, 0, none⟩)).setCell hg y (p := ⟨g, 1, none⟩)).setCell hg z (p := ⟨g, 2, none⟩)
set_option maxRecDepth 100000 in
set_option maxHeartbeats 8000000 in
theorem zv6 {lo0 : Nat} {W0 : World} {t g mb n : Nat} {A : Option Addr} {cc : Nat} {hh : Hr} {C : List zf} {f : T → Option Zf} (HT : Ta lo0 W0 t g mb n A cc hh C f) (ht : Total C f)
 {lo b : Nat} {w : World} {kc : Value} {gv : T} {op a : Int} {LV SV : Value} {ls ss : List T} (X : Tb lo w t g hh) (hW : Below W0.heap.size W0 w) (hlo : W0.heap.size ≤ lo) (h : St lo b w t kc gv op a LV ls SV ss) (hm : ss.length ≤ 1000) (hsl : ∀ x ∈ ss, x.length ≤ 140737488351232) (c : Cst) (hc : c.s.length ≤ 140737488351232 ∧ c.u.length ≤ 140737488351232) :
 Calls Tryz.prog 53 #[.pointer (some ⟨b, 0, none⟩), jf c] w (zN lo b w t kc gv op a LV ls (Ju hh C c ss).1 (.bool (Ju hh C c ss).2)) := by
 obtain ⟨k0, k1, s, q, u⟩ := c
 obtain ⟨hc1, hc3⟩ := hc
 simp only at hc1 hc3
 simp only [jf]
 have hal : Below w.heap.size w (w.alloc (.cells #[.int .i64 k0, .int .i64 k1, .string ⟨s.toArray⟩, .string ⟨q.toArray⟩, .string ⟨u.toArray⟩] 75)) := (Below.refl _ _).alloc (Nat.le_refl _) _
 have hS1 := h.ext hal
 have hX1 := Bx.new w #[.int .i64 k0, .int .i64 k1, .string ⟨s.toArray⟩, .string ⟨q.toArray⟩, .string ⟨u.toArray⟩] 75
 have hB1 := hal.mono h.los
 have hbw : b < w.heap.size := h.box.lt
 obtain ⟨W3, hW3⟩ : ∃ W, (w.alloc (.cells #[.int .i64 k0, .int .i64 k1, .string ⟨s.toArray⟩, .string ⟨q.toArray⟩, .string ⟨u.toArray⟩] 75)) = W := ⟨_, rfl⟩
 rw [hW3] at hS1 hX1 hB1
 have HS := zH hS1
 have HX1 := zH hX1
 have HB := zH hB1
 have HXb := zH (X.below hB1)
 have HF := zH (fun W (hb : Below lo W3 W) => Yh (HT.ext ((hW.trans (hB1.mono hlo)).trans (hb.mono hlo))) ht s q hc1)
 have HN : Hid (Ju hh C ⟨k0, k1, s, q, u⟩ ss = if Ze (Zl q) (hav C s).2 < 0 ∨ (mtE (hav C s).2 q).sig ≠ u then (ss, false) else if (zx hh ss (ofT s :: (zy u).2.1)).2 = true then (if (zy u).1 = [86] then ((zx hh ss (ofT s :: (zy u).2.1)).1, true) else ((zx hh ss (ofT s :: (zy u).2.1)).1 ++ [(zy u).1], true)) else (ss, false)) := zH (by unfold Ju noM; rfl)
 have HOf := zH (fun W => Yg s W (by omega))
 have c0 : W3.cell? ⟨b, 0, none⟩ = some (.pointer (some ⟨t, 0, none⟩)) := hS1.box.cell 0
 have c2 : W3.cell? ⟨w.heap.size, 2, none⟩ = some (.string ⟨s.toArray⟩) := hX1.cell 2
 have c3 : W3.cell? ⟨w.heap.size, 3, none⟩ = some (.string ⟨q.toArray⟩) := hX1.cell 3
 have hloW := hS1.los
 have hwz : w.heap.size < W3.heap.size := hX1.lt
 have hofl : (ofT s).length ≤ 140737488355328 := by unfold ofT; simp; omega
 have Hofl := zH hofl
 have hsl2 : Hid (∀ x ∈ ss, x.length ≤ 140737488355328) := zH (fun x hx => Nat.le_trans (hsl x hx) (by omega))
 have HSp := zH (fun W => yJ u W (by omega))
 have HSl := zH (JA u)
 have hul := zH hc3
 clear h X hal hS1 hX1 hB1 HT ht hsl hW hc1 hc3 hofl
 generalize Ju hh C ⟨k0, k1, s, q, u⟩ ss = R at *
 go_enter Tryz.func53, Tryz.ntmps53
 go_wp2_with fail
 clear hW3
 have hB0 := Below.refl W3.heap.size W3
 have hBd := hB0.drew
 go_region_held3 (fun w' => w'.cell? ⟨b, 0, none⟩ = some (.pointer (some ⟨t, 0, none⟩)) ∧ w'.cell? ⟨w.heap.size, 2, none⟩ = some (.string ⟨s.toArray⟩) ∧ w'.cell? ⟨w.heap.size, 3, none⟩ = some (.string ⟨q.toArray⟩))
  (first | (with_reducible exact ⟨c0, c2, c3⟩) | (with_reducible exact ⟨y0, y2, y3⟩) | go_keep)
  (first
   | (go_at_call 90
      with_reducible refine (HF.out _ (hBd.mono hloW)).mono ?_
      rintro e w4 ⟨hgf, hb4⟩
      have he := qI hgf
      subst he
      have hB4 := hBd.trans (hb4.mono hBd.size)
      have y0 : w4.cell? ⟨b, 0, none⟩ = some (.pointer (some ⟨t, 0, none⟩)) := (HS.out.box.after hB4).cell 0
      have y2 : w4.cell? ⟨w.heap.size, 2, none⟩ = some (.string ⟨s.toArray⟩) := (HX1.out.after hB4).cell 2
      have y3 : w4.cell? ⟨w.heap.size, 3, none⟩ = some (.string ⟨q.toArray⟩) := (HX1.out.after hB4).cell 3)
   | (go_at_call 90
      with_reducible refine (HF.out _ ((hB0.alloc hB0.size _).drew.mono hloW)).mono ?_
      rintro e w4 ⟨hgf, hb4⟩
      have he := qI hgf
      subst he
      have hP := Bx.after (w := (W3.alloc (.cells #[.string ⟨#[]⟩, .string ⟨#[]⟩, .string ⟨#[]⟩] 160)).drew) (Bx.new W3 #[.string ⟨#[]⟩, .string ⟨#[]⟩, .string ⟨#[]⟩] 160) hb4
      have hB4 := (hB0.alloc hB0.size _).drew.trans (hb4.mono (hB0.alloc hB0.size _).drew.size)
      have y0 : w4.cell? ⟨b, 0, none⟩ = some (.pointer (some ⟨t, 0, none⟩)) := (HS.out.box.after hB4).cell 0
      have y2 : w4.cell? ⟨w.heap.size, 2, none⟩ = some (.string ⟨s.toArray⟩) := (HX1.out.after hB4).cell 2
      have y3 : w4.cell? ⟨w.heap.size, 3, none⟩ = some (.string ⟨q.toArray⟩) := (HX1.out.after hB4).cell 3
      have q0 : w4.cell? ⟨W3.heap.size, 0, none⟩ = some (.string ⟨#[]⟩) := hP.cell 0
      have q1 : w4.cell? ⟨W3.heap.size, 1, none⟩ = some (.string ⟨#[]⟩) := hP.cell 1
      have q5 : w4.cell? ⟨W3.heap.size, 2, none⟩ = some (.string ⟨#[]⟩) := hP.cell 2
      have q2 := hP.free 0
      have q3 := hP.free 1
      have q6 := hP.free 2
      have q4 := hP.lt
      have n0 : ¬ W3.heap.size = b := by omega
      have n1 : ¬ b = W3.heap.size := by omega
      have n2 : ¬ W3.heap.size = w.heap.size := by omega
      have n3 : ¬ w.heap.size = W3.heap.size := by omega))
 · rename_i hHeld
   have HStF := zH ((HS.out.ext hB4).ext ((Below.refl w4.heap.size w4).alloc (Nat.le_refl _) (.cells #[.string ⟨(mtE (hav C s).2 q).name.toArray⟩, .string ⟨(mtE (hav C s).2 q).sig.toArray⟩, .string ⟨(mtE (hav C s).2 q).cls.toArray⟩] 160)))
   have HFb := zH (Bx.new w4 #[.string ⟨(mtE (hav C s).2 q).name.toArray⟩, .string ⟨(mtE (hav C s).2 q).sig.toArray⟩, .string ⟨(mtE (hav C s).2 q).cls.toArray⟩] 160)
   have HBF := zH (hB4.alloc hB4.size (.cells #[.string ⟨(mtE (hav C s).2 q).name.toArray⟩, .string ⟨(mtE (hav C s).2 q).sig.toArray⟩, .string ⟨(mtE (hav C s).2 q).cls.toArray⟩] 160))
   have HXF := zH (HX1.out.after HBF.out)
   clear hHeld hgf hb4 hB4 y0 y2 y3
   generalize w4.alloc (.cells #[.string ⟨(mtE (hav C s).2 q).name.toArray⟩, .string ⟨(mtE (hav C s).2 q).sig.toArray⟩, .string ⟨(mtE (hav C s).2 q).cls.toArray⟩] 160) = WF at *
   generalize w4.heap.size = bf at *
   have z2 : WF.cell? ⟨w.heap.size, 2, none⟩ = some (.string ⟨s.toArray⟩) := HXF.out.cell 2
   have z4 : WF.cell? ⟨w.heap.size, 4, none⟩ = some (.string ⟨u.toArray⟩) := HXF.out.cell 4
   have zl := HXF.out.lt
   have zb := HStF.out.box.lt
   have f1 : WF.cell? ⟨bf, 1, none⟩ = some (.string ⟨(mtE (hav C s).2 q).sig.toArray⟩) := HFb.out.cell 1
   have fl := HFb.out.lt
   have HBw := zH (HB.out.trans (HBF.out.mono hloW))
   have HXt := zH (HXb.out.below (HBF.out.mono hloW))
   clear HX1 HFb HS HXb HB HBF hB0 hBd c0 c2 c3 HF
   generalize mtE (hav C s).2 q = fd at *
   generalize Ze (Zl q) (hav C s).2 = k at *
   obtain ⟨fd0, fd1, fd2⟩ := fd
   simp only at f1 HN ⊢
   by_cases hk : k < 0
   · have HR := zH (show R = (ss, false) by rw [HN.out, if_pos (.inl hk)])
     go_wp2_with fail
     go_ret
     rw [HR.out]
     exact ⟨rfl, ⟨_, HStF.out⟩, HBw.out⟩
   · by_cases hu : fd1 = u
     · subst hu
       have hne : (fd1 != fd1) = false := by simp
       have HN2 := zH (show R = _ from HN.out.trans (if_neg (by simp; omega)))
       have HSp2 := zH (HSp.out WF)
       clear HN HSp
       generalize zy fd1 = S at *
       obtain ⟨gs, ts, er⟩ := S
       simp only at HN2 HSl
       go_wp2_with fail
       refine HSp2.out.mono ?_
       rintro e w5 ⟨v5, rfl, ho5, hb5⟩
       obtain ⟨A5, c5, rfl, h51, h52, r5, h53⟩ := ho5.slice
       have z2' : w5.cell? ⟨w.heap.size, 2, none⟩ = some (.string ⟨s.toArray⟩) := (HXF.out.after hb5).cell 2
       have HSt5 := zH (HStF.out.ext hb5)
       have HBw5 := zH (HBw.out.trans (hb5.mono HStF.out.los))
       have HXt5 := zH (HXt.out.below (hb5.mono HStF.out.los))
       have R5 := zH r5
       have zl5 : w.heap.size < w5.heap.size := by have := hb5.size; omega
       have Hts := zH HSl.out.1
       have htl : ts.length ≤ 8 := HSl.out.1
       clear ho5 hb5 r5 HSp2 HStF HBw HXt HXF z2 z4 f1 fl zl zb
       unfold str
       simp only
       go_wp2_with fail
       refine (HOf.out _).mono ?_
       rintro e w' ⟨rfl, rfl⟩
       have hal6 : Below w5.heap.size w5 (w5.alloc (.cells #[.string ⟨(ofT s).toArray⟩] 9)) := (Below.refl _ _).alloc (Nat.le_refl _) _
       have R6 := zH (R5.out.below hal6)
       have Hal6 := zH hal6
       have hown6 : zT (w5.alloc (.cells #[.string ⟨(ofT s).toArray⟩] 9)) w5.heap.size (.slice (some ⟨w5.heap.size, 0, none⟩) 1 1) [ofT s] := World.ownsRow_lit w5 #[sv (ofT s)] 1 (Nat.le_refl _) (by unfold maxLen; omega) rfl
       have Hown6 := zH hown6
       clear hal6 hown6
       cases A5 with
       | none =>
         have hts : ts = [] := by
          rcases R6.out with h | ⟨_, _, h, _⟩
          · simpa using h
          · cases h
         subst hts
         have hb57 := Hal6.out
         have r7 : Rds (w5.alloc (.cells #[.string ⟨(ofT s).toArray⟩] 9)) (some ⟨w5.heap.size, 0, none⟩) ([ofT s].map sv) := zB w5 #[sv (ofT s)] 9
         clear Hown6 R6 Hal6
         have HT := zH (qx (HXt5.out.below (hb57.mono HSt5.out.los)) (HSt5.out.ext hb57) hm (some ⟨w5.heap.size, 0, none⟩) 1 [ofT s] (by simp) r7 hsl2.out (by intro x hx; simp at hx; subst hx; exact Hofl.out))
         have HB7 := zH (HBw5.out.trans (hb57.mono HSt5.out.los))
         skip
         have hle := Qg (h := hh) (ss := ss) (ds := [ofT s])
         have Hfl := zH (ZY (h := hh) (ss := ss) (ds := [ofT s]))
         clear HSt5 HBw5 HXt5 R5 hb57 r7 z2' zl5
         generalize zx hh ss [ofT s] = r at *
         obtain ⟨s1, ok⟩ := r
         simp only at HT HN2 hle Hfl
         cases ok
         · have HR := zH (show R = (ss, false) from HN2.out)
           have HF := zH (Hfl.out rfl)
           go_wp2_with fail
           refine HT.out.mono ?_
           rintro e w8 ⟨rfl, hst, hb⟩
           have HS8 := zH hst
           have HB8 := zH (HB7.out.trans hb)
           clear hst hb
           go_wp2_with fail
           go_ret
           rw [HR.out]
           exact ⟨rfl, by rw [← HF.out]; exact HS8.out, HB8.out⟩
         · by_cases hgs : gs = [86]
           · have HR := zH (show R = (s1, true) by rw [HN2.out, if_pos hgs]; rfl)
             have hge : (gs == [86]) = true := by simp [hgs]
             clear HN2 hgs
             go_wp2_with fail
             refine HT.out.mono ?_
             rintro e w8 ⟨rfl, hst, hb⟩
             have HS8 := zH hst
             have HB8 := zH (HB7.out.trans hb)
             clear hst hb
             go_wp2_with fail
             go_ret
             rw [HR.out]
             exact ⟨rfl, HS8.out, HB8.out⟩
           · have HR := zH (show R = (s1 ++ [gs], true) by rw [HN2.out, if_neg hgs]; rfl)
             have hge : (gs == [86]) = false := by simp [hgs]
             clear HN2 hgs
             go_wp2_with fail
             refine HT.out.mono ?_
             rintro e w8 ⟨rfl, ⟨SV8, hst⟩, hb⟩
             have HB8 := zH (HB7.out.trans hb)
             have hal8 : Below w8.heap.size w8 (w8.alloc (.cells #[.string ⟨gs.toArray⟩] 9)) := (Below.refl _ _).alloc (Nat.le_refl _) _
             have HL := zH (Zh (hst.ext hal8) (by omega) ⟨w8.heap.size, 0, none⟩ 1 [gs] (by simp) (zB w8 #[sv gs] 9))
             have HB9 := zH (HB8.out.trans (hal8.mono hst.los))
             clear hst hb hal8 HT
             go_wp2_with fail
             refine HL.out.mono ?_
             rintro e w9 ⟨rfl, hst, hb⟩
             have HS9 := zH hst
             have HB10 := zH (HB9.out.trans hb)
             clear hst hb
             go_wp2_with fail
             go_ret
             rw [HR.out]
             exact ⟨rfl, HS9.out, HB10.out⟩
       | some a5 =>
         go_wp2_with (at_builtin
                      refine Uo rfl (.tmp 42) (.tmp 43) rfl w5.heap.size _ [ofT s] rfl Hown6.out a5 ts.length c5 ts rfl rfl R6.out (by simp; omega) (by simp) ?_
                      intro v7 w7 hown7 hg7 hat7
                      have hb57 := zV Hal6.out Hown6.out (Nat.le_refl _) (by simp) hg7
                      obtain ⟨A7, c7, rfl, h71, h72, r7, _⟩ := hown7.slice
                      clear hown7 hg7 hat7 h71 h72 Hown6 R6 Hal6)
         have HT := zH (qx (HXt5.out.below (hb57.mono HSt5.out.los)) (HSt5.out.ext hb57) hm A7 c7 (ofT s :: ts) (by simp; omega) r7 hsl2.out (by intro x hx; rcases List.mem_cons.1 hx with rfl | hx; exact Hofl.out; exact Nat.le_trans (HSl.out.2.2 x hx) (by have := hul.out; omega)))
         have HB7 := zH (HBw5.out.trans (hb57.mono HSt5.out.los))
         simp only [List.length_cons] at HT
         have hle := Qg (h := hh) (ss := ss) (ds := ofT s :: ts)
         have Hfl := zH (ZY (h := hh) (ss := ss) (ds := ofT s :: ts))
         clear HSt5 HBw5 HXt5 R5 hb57 r7 z2' zl5
         generalize zx hh ss (ofT s :: ts) = r at *
         obtain ⟨s1, ok⟩ := r
         simp only at HT HN2 hle Hfl
         cases ok
         · have HR := zH (show R = (ss, false) from HN2.out)
           have HF := zH (Hfl.out rfl)
           refine HT.out.mono ?_
           rintro e w8 ⟨rfl, hst, hb⟩
           have HS8 := zH hst
           have HB8 := zH (HB7.out.trans hb)
           clear hst hb
           go_wp2_with fail
           go_ret
           rw [HR.out]
           exact ⟨rfl, by rw [← HF.out]; exact HS8.out, HB8.out⟩
         · by_cases hgs : gs = [86]
           · have HR := zH (show R = (s1, true) by rw [HN2.out, if_pos hgs]; rfl)
             have hge : (gs == [86]) = true := by simp [hgs]
             clear HN2 hgs
             refine HT.out.mono ?_
             rintro e w8 ⟨rfl, hst, hb⟩
             have HS8 := zH hst
             have HB8 := zH (HB7.out.trans hb)
             clear hst hb
             go_wp2_with fail
             go_ret
             rw [HR.out]
             exact ⟨rfl, HS8.out, HB8.out⟩
           · have HR := zH (show R = (s1 ++ [gs], true) by rw [HN2.out, if_neg hgs]; rfl)
             have hge : (gs == [86]) = false := by simp [hgs]
             clear HN2 hgs
             refine HT.out.mono ?_
             rintro e w8 ⟨rfl, ⟨SV8, hst⟩, hb⟩
             have HB8 := zH (HB7.out.trans hb)
             have hal8 : Below w8.heap.size w8 (w8.alloc (.cells #[.string ⟨gs.toArray⟩] 9)) := (Below.refl _ _).alloc (Nat.le_refl _) _
             have HL := zH (Zh (hst.ext hal8) (by omega) ⟨w8.heap.size, 0, none⟩ 1 [gs] (by simp) (zB w8 #[sv gs] 9))
             have HB9 := zH (HB8.out.trans (hal8.mono hst.los))
             clear hst hb hal8 HT
             go_wp2_with fail
             refine HL.out.mono ?_
             rintro e w9 ⟨rfl, hst, hb⟩
             have HS9 := zH hst
             have HB10 := zH (HB9.out.trans hb)
             clear hst hb
             go_wp2_with fail
             go_ret
             rw [HR.out]
             exact ⟨rfl, HS9.out, HB10.out⟩
     · have hne : (fd1 == u) = false := by simp [hu]
       have HR := zH (show R = (ss, false) by rw [HN.out, if_pos (.inr hu)])
       clear hu
       go_wp2_with fail
       go_ret
       rw [HR.out]
       exact ⟨rfl, ⟨_, HStF.out⟩, HBw.out⟩
 · rename_i hHeld
   have HStF := zH (zx7 (HS.out.ext hB4) (g := W3.heap.size) (by omega) (fun k hk e => by have := (World.ownsRow.lt HS.out.loc k hk).2; omega) (fun k hk e => by have := (World.ownsRow.lt HS.out.stk k hk).2; omega) (.string ⟨(mtE (hav C s).2 q).name.toArray⟩) (.string ⟨(mtE (hav C s).2 q).sig.toArray⟩) (.string ⟨(mtE (hav C s).2 q).cls.toArray⟩))
   have HFb := zH (XO hP (.string ⟨(mtE (hav C s).2 q).name.toArray⟩) (.string ⟨(mtE (hav C s).2 q).sig.toArray⟩) (.string ⟨(mtE (hav C s).2 q).cls.toArray⟩))
   have HBF := zH (J8 hB4 (Nat.le_refl W3.heap.size) (.string ⟨(mtE (hav C s).2 q).name.toArray⟩) (.string ⟨(mtE (hav C s).2 q).sig.toArray⟩) (.string ⟨(mtE (hav C s).2 q).cls.toArray⟩))
   have HXF := zH (HX1.out.after HBF.out)
   rw [XP]
   clear hHeld hgf hb4 hB4 y0 y2 y3 q0 q1 q2 q3 q4 q5 q6 n0 n1 n2 n3 hP
   generalize kJ w4 W3.heap.size (.string ⟨(mtE (hav C s).2 q).name.toArray⟩) (.string ⟨(mtE (hav C s).2 q).sig.toArray⟩) (.string ⟨(mtE (hav C s).2 q).cls.toArray⟩) = WF at *
   obtain ⟨bf, hbf⟩ : ∃ x, x = W3.heap.size := ⟨_, rfl⟩
   rw [← hbf] at HFb ⊢
   clear hbf
   have z2 : WF.cell? ⟨w.heap.size, 2, none⟩ = some (.string ⟨s.toArray⟩) := HXF.out.cell 2
   have z4 : WF.cell? ⟨w.heap.size, 4, none⟩ = some (.string ⟨u.toArray⟩) := HXF.out.cell 4
   have zl := HXF.out.lt
   have zb := HStF.out.box.lt
   have f1 : WF.cell? ⟨bf, 1, none⟩ = some (.string ⟨(mtE (hav C s).2 q).sig.toArray⟩) := HFb.out.cell 1
   have fl := HFb.out.lt
   have HBw := zH (HB.out.trans (HBF.out.mono hloW))
   have HXt := zH (HXb.out.below (HBF.out.mono hloW))
   clear HX1 HFb HS HXb HB HBF hB0 hBd c0 c2 c3 HF
   generalize mtE (hav C s).2 q = fd at *
   generalize Ze (Zl q) (hav C s).2 = k at *
   obtain ⟨fd0, fd1, fd2⟩ := fd
   simp only at f1 HN ⊢
   by_cases hk : k < 0
   · have HR := zH (show R = (ss, false) by rw [HN.out, if_pos (.inl hk)])
     go_wp2_with fail
     go_ret
     rw [HR.out]
     exact ⟨rfl, ⟨_, HStF.out⟩, HBw.out⟩
   · by_cases hu : fd1 = u
     · subst hu
       have hne : (fd1 != fd1) = false := by simp
       have HN2 := zH (show R = _ from HN.out.trans (if_neg (by simp; omega)))
       have HSp2 := zH (HSp.out WF)
       clear HN HSp
       generalize zy fd1 = S at *
       obtain ⟨gs, ts, er⟩ := S
       simp only at HN2 HSl
       go_wp2_with fail
       refine HSp2.out.mono ?_
       rintro e w5 ⟨v5, rfl, ho5, hb5⟩
       obtain ⟨A5, c5, rfl, h51, h52, r5, h53⟩ := ho5.slice
       have z2' : w5.cell? ⟨w.heap.size, 2, none⟩ = some (.string ⟨s.toArray⟩) := (HXF.out.after hb5).cell 2
       have HSt5 := zH (HStF.out.ext hb5)
       have HBw5 := zH (HBw.out.trans (hb5.mono HStF.out.los))
       have HXt5 := zH (HXt.out.below (hb5.mono HStF.out.los))
       have R5 := zH r5
       have zl5 : w.heap.size < w5.heap.size := by have := hb5.size; omega
       have Hts := zH HSl.out.1
       have htl : ts.length ≤ 8 := HSl.out.1
       clear ho5 hb5 r5 HSp2 HStF HBw HXt HXF z2 z4 f1 fl zl zb
       unfold str
       simp only
       go_wp2_with fail
       refine (HOf.out _).mono ?_
       rintro e w' ⟨rfl, rfl⟩
       have hal6 : Below w5.heap.size w5 (w5.alloc (.cells #[.string ⟨(ofT s).toArray⟩] 9)) := (Below.refl _ _).alloc (Nat.le_refl _) _
       have R6 := zH (R5.out.below hal6)
       have Hal6 := zH hal6
       have hown6 : zT (w5.alloc (.cells #[.string ⟨(ofT s).toArray⟩] 9)) w5.heap.size (.slice (some ⟨w5.heap.size, 0, none⟩) 1 1) [ofT s] := World.ownsRow_lit w5 #[sv (ofT s)] 1 (Nat.le_refl _) (by unfold maxLen; omega) rfl
       have Hown6 := zH hown6
       clear hal6 hown6
       cases A5 with
       | none =>
         have hts : ts = [] := by
          rcases R6.out with h | ⟨_, _, h, _⟩
          · simpa using h
          · cases h
         subst hts
         have hb57 := Hal6.out
         have r7 : Rds (w5.alloc (.cells #[.string ⟨(ofT s).toArray⟩] 9)) (some ⟨w5.heap.size, 0, none⟩) ([ofT s].map sv) := zB w5 #[sv (ofT s)] 9
         clear Hown6 R6 Hal6
         have HT := zH (qx (HXt5.out.below (hb57.mono HSt5.out.los)) (HSt5.out.ext hb57) hm (some ⟨w5.heap.size, 0, none⟩) 1 [ofT s] (by simp) r7 hsl2.out (by intro x hx; simp at hx; subst hx; exact Hofl.out))
         have HB7 := zH (HBw5.out.trans (hb57.mono HSt5.out.los))
         skip
         have hle := Qg (h := hh) (ss := ss) (ds := [ofT s])
         have Hfl := zH (ZY (h := hh) (ss := ss) (ds := [ofT s]))
         clear HSt5 HBw5 HXt5 R5 hb57 r7 z2' zl5
         generalize zx hh ss [ofT s] = r at *
         obtain ⟨s1, ok⟩ := r
         simp only at HT HN2 hle Hfl
         cases ok
         · have HR := zH (show R = (ss, false) from HN2.out)
           have HF := zH (Hfl.out rfl)
           go_wp2_with fail
           refine HT.out.mono ?_
           rintro e w8 ⟨rfl, hst, hb⟩
           have HS8 := zH hst
           have HB8 := zH (HB7.out.trans hb)
           clear hst hb
           go_wp2_with fail
           go_ret
           rw [HR.out]
           exact ⟨rfl, by rw [← HF.out]; exact HS8.out, HB8.out⟩
         · by_cases hgs : gs = [86]
           · have HR := zH (show R = (s1, true) by rw [HN2.out, if_pos hgs]; rfl)
             have hge : (gs == [86]) = true := by simp [hgs]
             clear HN2 hgs
             go_wp2_with fail
             refine HT.out.mono ?_
             rintro e w8 ⟨rfl, hst, hb⟩
             have HS8 := zH hst
             have HB8 := zH (HB7.out.trans hb)
             clear hst hb
             go_wp2_with fail
             go_ret
             rw [HR.out]
             exact ⟨rfl, HS8.out, HB8.out⟩
           · have HR := zH (show R = (s1 ++ [gs], true) by rw [HN2.out, if_neg hgs]; rfl)
             have hge : (gs == [86]) = false := by simp [hgs]
             clear HN2 hgs
             go_wp2_with fail
             refine HT.out.mono ?_
             rintro e w8 ⟨rfl, ⟨SV8, hst⟩, hb⟩
             have HB8 := zH (HB7.out.trans hb)
             have hal8 : Below w8.heap.size w8 (w8.alloc (.cells #[.string ⟨gs.toArray⟩] 9)) := (Below.refl _ _).alloc (Nat.le_refl _) _
             have HL := zH (Zh (hst.ext hal8) (by omega) ⟨w8.heap.size, 0, none⟩ 1 [gs] (by simp) (zB w8 #[sv gs] 9))
             have HB9 := zH (HB8.out.trans (hal8.mono hst.los))
             clear hst hb hal8 HT
             go_wp2_with fail
             refine HL.out.mono ?_
             rintro e w9 ⟨rfl, hst, hb⟩
             have HS9 := zH hst
             have HB10 := zH (HB9.out.trans hb)
             clear hst hb
             go_wp2_with fail
             go_ret
             rw [HR.out]
             exact ⟨rfl, HS9.out, HB10.out⟩
       | some a5 =>
         go_wp2_with (at_builtin
                      refine Uo rfl (.tmp 42) (.tmp 43) rfl w5.heap.size _ [ofT s] rfl Hown6.out a5 ts.length c5 ts rfl rfl R6.out (by simp; omega) (by simp) ?_
                      intro v7 w7 hown7 hg7 hat7
                      have hb57 := zV Hal6.out Hown6.out (Nat.le_refl _) (by simp) hg7
                      obtain ⟨A7, c7, rfl, h71, h72, r7, _⟩ := hown7.slice
                      clear hown7 hg7 hat7 h71 h72 Hown6 R6 Hal6)
         have HT := zH (qx (HXt5.out.below (hb57.mono HSt5.out.los)) (HSt5.out.ext hb57) hm A7 c7 (ofT s :: ts) (by simp; omega) r7 hsl2.out (by intro x hx; rcases List.mem_cons.1 hx with rfl | hx; exact Hofl.out; exact Nat.le_trans (HSl.out.2.2 x hx) (by have := hul.out; omega)))
         have HB7 := zH (HBw5.out.trans (hb57.mono HSt5.out.los))
         simp only [List.length_cons] at HT
         have hle := Qg (h := hh) (ss := ss) (ds := ofT s :: ts)
         have Hfl := zH (ZY (h := hh) (ss := ss) (ds := ofT s :: ts))
         clear HSt5 HBw5 HXt5 R5 hb57 r7 z2' zl5
         generalize zx hh ss (ofT s :: ts) = r at *
         obtain ⟨s1, ok⟩ := r
         simp only at HT HN2 hle Hfl
         cases ok
         · have HR := zH (show R = (ss, false) from HN2.out)
           have HF := zH (Hfl.out rfl)
           refine HT.out.mono ?_
           rintro e w8 ⟨rfl, hst, hb⟩
           have HS8 := zH hst
           have HB8 := zH (HB7.out.trans hb)
           clear hst hb
           go_wp2_with fail
           go_ret
           rw [HR.out]
           exact ⟨rfl, by rw [← HF.out]; exact HS8.out, HB8.out⟩
         · by_cases hgs : gs = [86]
           · have HR := zH (show R = (s1, true) by rw [HN2.out, if_pos hgs]; rfl)
             have hge : (gs == [86]) = true := by simp [hgs]
             clear HN2 hgs
             refine HT.out.mono ?_
             rintro e w8 ⟨rfl, hst, hb⟩
             have HS8 := zH hst
             have HB8 := zH (HB7.out.trans hb)
             clear hst hb
             go_wp2_with fail
             go_ret
             rw [HR.out]
             exact ⟨rfl, HS8.out, HB8.out⟩
           · have HR := zH (show R = (s1 ++ [gs], true) by rw [HN2.out, if_neg hgs]; rfl)
             have hge : (gs == [86]) = false := by simp [hgs]
             clear HN2 hgs
             refine HT.out.mono ?_
             rintro e w8 ⟨rfl, ⟨SV8, hst⟩, hb⟩
             have HB8 := zH (HB7.out.trans hb)
             have hal8 : Below w8.heap.size w8 (w8.alloc (.cells #[.string ⟨gs.toArray⟩] 9)) := (Below.refl _ _).alloc (Nat.le_refl _) _
             have HL := zH (Zh (hst.ext hal8) (by omega) ⟨w8.heap.size, 0, none⟩ 1 [gs] (by simp) (zB w8 #[sv gs] 9))
             have HB9 := zH (HB8.out.trans (hal8.mono hst.los))
             clear hst hb hal8 HT
             go_wp2_with fail
             refine HL.out.mono ?_
             rintro e w9 ⟨rfl, hst, hb⟩
             have HS9 := zH hst
             have HB10 := zH (HB9.out.trans hb)
             clear hst hb
             go_wp2_with fail
             go_ret
             rw [HR.out]
             exact ⟨rfl, HS9.out, HB10.out⟩
     · have hne : (fd1 == u) = false := by simp [hu]
       have HR := zH (show R = (ss, false) by rw [HN.out, if_pos (.inr hu)])
       clear hu
       go_wp2_with fail
       go_ret
       rw [HR.out]
       exact ⟨rfl, ⟨_, HStF.out⟩, HBw.out⟩
end KndY
end Go.Proofs.YtehainbhoflpnaaGreatDoor
