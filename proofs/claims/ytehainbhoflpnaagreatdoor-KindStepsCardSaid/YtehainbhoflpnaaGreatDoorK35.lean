/- pieces -/
import Derived.Test.YtehainbhoflpnaaGreatDoorK34
namespace Go.Proofs.YtehainbhoflpnaaGreatDoor
namespace KndW
open Go.RowKit Base BinM Stru DescM DescW DescX DescS DescG DescP DescQ HierS HierT HierM HierC HierD HierN HierV HierR HierU HierY Kls KlsP KlsQ OpenK TabC TabM TabK TabP TabE TabB TabG TabH TabT TabU TabV TabX TabW TabF TabN TabO TabY TabR TabQ TabL TabZ KndB KndM EfA KndS KndP KndQ KndR KndU KndV
def mtE (l : List zG) (q : T) : zG := if Ze (Zl q) l < 0 then ⟨[], [], []⟩ else l.getD (Ze (Zl q) l).toNat ⟨[], [], []⟩
theorem qI {l : List zG} {q : T} {e : Ending} (h : J5 l q e) : e = .returned (.tuple #[.agg #[.string ⟨(mtE l q).name.toArray⟩, .string ⟨(mtE l q).sig.toArray⟩, .string ⟨(mtE l q).cls.toArray⟩], .int .i64 (Ze (Zl q) l)]) := by
 unfold mtE
 rcases h with ⟨h1, rfl⟩ | ⟨j, hj, h1, rfl⟩
 · rw [h1]; rfl
 · rw [h1, if_neg (by omega), Int.toNat_natCast, List.getD_eq_getElem?_getD, List.getElem?_eq_getElem hj]
   rfl
def QV : T := [114, 117, 110]
def jh : T := [40, 41, 86]
def Qj (C : List zf) (ss : List T) : List T × Bool := ((zi ss).2.1, (zq (zi ss).1).2 && (mtE (hav C (zq (zi ss).1).1).2 QV).sig == jh)
theorem yY (d : T) : (zq d).1.length ≤ d.length := by
 unfold zq
 split <;> simp <;> omega
set_option maxRecDepth 100000 in
set_option maxHeartbeats 2000000 in
theorem zh7 {lo0 : Nat} {W0 : World} {t g mb n : Nat} {A : Option Addr} {c : Nat} {hh : Hr} {C : List zf} {f : T → Option Zf} (HT : Ta lo0 W0 t g mb n A c hh C f) (ht : Total C f)
 {lo b : Nat} {w : World} {kc : Value} {gv : T} {op a : Int} {LV SV : Value} {ls ss : List T} (hW : Below W0.heap.size W0 w) (hlo : W0.heap.size ≤ lo) (h : St lo b w t kc gv op a LV ls SV ss) (hm : ss.length ≤ 1000) (hsl : ∀ x ∈ ss, x.length ≤ 140737488351232) :
 Calls Tryz.prog 115 #[.pointer (some ⟨b, 0, none⟩)] w (zN lo b w t kc gv op a LV ls (Qj C ss).1 (.bool (Qj C ss).2)) := by
 have HP := zH (qO h hm)
 have hdl := QT hsl
 have hS : Qj C ss = ((zi ss).2.1, (zq (zi ss).1).2 && (mtE (hav C (zq (zi ss).1).1).2 QV).sig == jh) := rfl
 have HSp := zH hS
 have HTa := zH HT
 have HTo := zH ht
 clear h hsl hS HT ht
 generalize Qj C ss = R at *
 generalize zi ss = p at *
 obtain ⟨d, s2, ok0⟩ := p
 simp only at HP hdl HSp
 go_enter Tryz.func115, Tryz.ntmps115
 go_wp2_with fail
 refine HP.out.mono ?_
 rintro e w1 ⟨rfl, ⟨SV1, hst⟩, hb⟩
 have HB := zH hb
 have HS := zH hst
 have HC := zH (DescX.xX d w1 (by omega))
 have hcl := yY d
 have HM := zH (fun q (hq : q.length ≤ 140737488351232) => Yh (HTa.out.ext (hW.trans (hb.mono hlo))) HTo.out q QV hq)
 have c0 : w1.cell? ⟨b, 0, none⟩ = some (.pointer (some ⟨t, 0, none⟩)) := hst.box.cell 0
 have hlt := hst.box.lt
 clear hst hb HP
 generalize zq d = cl at *
 obtain ⟨cn, ok⟩ := cl
 unfold J7 at HC
 simp only at HC HSp hcl
 have HM2 := zH (HM.out cn (by omega))
 clear HM
 go_wp2_with fail
 refine HC.out.mono ?_
 rintro e w' ⟨rfl, rfl⟩
 go_wp2_with fail
 refine HM2.out.mono ?_
 rintro e w2 ⟨hg, hb2⟩
 have he := qI hg
 subst he
 have HB2 := zH (HB.out.trans (hb2.mono HS.out.los))
 have HS2 := zH (HS.out.ext hb2)
 have hlo2 := HS2.out.los
 clear hg hb2
 generalize mtE (hav C cn).2 QV = m at *
 generalize Ze (Zl QV) (hav C cn).2 = k at *
 obtain ⟨m0, m1, m2⟩ := m
 simp only at HSp ⊢
 have HA := zH ((HB2.out.alloc hlo2 (.cells #[.string ⟨m0.toArray⟩, .string ⟨m1.toArray⟩, .string ⟨m2.toArray⟩] 160)))
 have HSA := zH (HS2.out.ext ((Below.refl w2.heap.size w2).alloc (Nat.le_refl _) (.cells #[.string ⟨m0.toArray⟩, .string ⟨m1.toArray⟩, .string ⟨m2.toArray⟩] 160)))
 cases ok
 · have HR := zH (show R = (s2, false) from HSp.out)
   go_wp2_with fail
   go_ret
   rw [HR.out]
   exact ⟨rfl, ⟨_, HSA.out⟩, HA.out⟩
 · have HR := zH (show R = (s2, m1 == jh) from HSp.out)
   clear HSp
   cases e1 : m1 == jh
   all_goals
    rw [e1] at HR
    unfold jh at e1
    go_wp2_with fail
    go_ret
    rw [HR.out]
    exact ⟨rfl, ⟨_, HSA.out⟩, HA.out⟩
set_option maxRecDepth 100000 in
set_option maxHeartbeats 1000000 in
theorem uo {lo0 : Nat} {W0 : World} {t g mb n : Nat} {A : Option Addr} {c : Nat} {hh : Hr} {C : List zf} {f : T → Option Zf} (HT : Ta lo0 W0 t g mb n A c hh C f) (ht : Total C f)
 {lo b : Nat} {w : World} {kc : Value} {gv : T} {a : Int} {LV SV : Value} {ls ss : List T} (hW : Below W0.heap.size W0 w) (hlo : W0.heap.size ≤ lo) (h : St lo b w t kc gv 44 a LV ls SV ss) (hm : ss.length ≤ 1000) (hsl : ∀ x ∈ ss, x.length ≤ 140737488351232) :
 Calls Tryz.prog 54 #[.pointer (some ⟨b, 0, none⟩)] w (zN lo b w t kc gv 44 a LV ls (Qj C ss).1 (.bool (Qj C ss).2)) := by
 have HA := zH (zh7 HT ht hW hlo h hm hsl)
 have c3 : w.cell? ⟨b, 3, none⟩ = some (.int .i64 44) := h.box.cell 3
 have hlt := h.box.lt
 clear h HT ht hsl
 generalize Qj C ss = R at *
 go_enter Tryz.func54, Tryz.ntmps54
 go_wp2_with fail
 refine (EfA.Zu (op := 44) (by decide) _).mono ?_
 rintro e w0 ⟨rfl, rfl⟩
 go_wp2_with fail
 refine HA.out.mono ?_
 rintro e w1 ⟨rfl, hst, hb⟩
 have HS := zH hst
 have HB := zH hb
 clear hst hb
 go_wp2_with fail
 go_ret
 exact ⟨rfl, HS.out, HB.out⟩
end KndW
namespace KndX
open Go.RowKit Base BinM Stru DescM DescW DescX DescS DescG DescP DescQ HierS HierT HierM HierC HierD HierN HierV HierR HierU HierY Kls KlsP KlsQ OpenK TabC TabM TabK TabP TabE TabB TabG TabH TabT TabU TabV TabX TabW TabF TabN TabO TabY TabR TabQ TabL TabZ KndB KndM KndS KndP KndQ KndR KndU KndV KndW
def fdE (l : List Zi) (q : T) : Zi := if zD (zY q) l < 0 then ⟨[], [], []⟩ else l.getD (zD (zY q) l).toNat ⟨[], [], []⟩
theorem jN {l : List Zi} {q : T} {e : Ending} (h : ZO l q e) : e = .returned (.tuple #[.agg #[.string ⟨(fdE l q).name.toArray⟩, .string ⟨(fdE l q).desc.toArray⟩], .string ⟨(fdE l q).cls.toArray⟩, .int .i64 (zD (zY q) l)]) := by
 unfold fdE
 rcases h with ⟨h1, rfl⟩ | ⟨j, hj, h1, rfl⟩
 · rw [h1]; rfl
 · rw [h1, if_neg (by omega), Int.toNat_natCast, List.getD_eq_getElem?_getD, List.getElem?_eq_getElem hj]
   rfl
def noF (C : List zf) (c : Cst) : Prop := zD (zY c.t) (hav C c.s).1 < 0 ∨ (fdE (hav C c.s).1 c.t).desc ≠ c.u
instance (C : List zf) (c : Cst) : Decidable (noF C c) := by unfold noF; exact inferInstance
def Jq (h : Hr) (C : List zf) (c : Cst) (ss : List T) : List T × Bool := if noF C c then (ss, false) else tlP h ss [ofT c.s] [c.u]
def Jj (h : Hr) (C : List zf) (c : Cst) (ss : List T) : List T × Bool := if noF C c then (ss, false) else zx h ss [ofT c.s, c.u]
theorem za8 {lo b : Nat} {w : World} {t : Nat} {kc : Value} {gv : T} {op a : Int} {LV SV : Value} {ls ss : List T} (h : St lo b w t kc gv op a LV ls SV ss) {g : Nat} (hg : g ≠ b) (hl : ∀ k, LV.ownBlock = some k → k ≠ g) (hs : ∀ k, SV.ownBlock = some k → k ≠ g) (x y : Value) :
 St lo b ((w.setCell ⟨g, 0, none⟩ x).setCell ⟨g, 1, none⟩ y) t kc gv op a LV ls SV ss :=
 ⟨(KndS.qw w g x y b (fun e => hg e.symm)).trans h.box, h.lob, TabM.zh h.loc (fun k hk => KndS.qw w g x y k (hl k hk)), TabM.zh h.stk (fun k hk => KndS.qw w g x y k (hs k hk)), h.nl, h.ns, h.ap⟩
def zg9 (w : World) (g : Nat) (x y : Value) : World := (w.setCell ⟨g, 0, none⟩ x).setCell ⟨g, 1, none⟩ y
theorem Qu (w : World) (g : Nat) (x y : Value) : (w.setCell ⟨g, 0, none⟩ x).setCell ⟨g, 1, none⟩ y = zg9 w g x y := rfl
theorem Zh9 {w : World} {b : Nat} {C : Array Value} {ty : TypeId} (h : Bx w b C ty) : Bx w.drew b C ty := h
theorem XK {w w' : World} {g b : Nat} {C : Array Value} {ty : TypeId} (h : Bx w g C ty) (hk : ∀ k, k < w.heap.size → k ≠ b → w'.heap[k]? = w.heap[k]?) (hg : g ≠ b) : Bx w' g C ty := (hk g h.lt hg).trans h
set_option maxRecDepth 100000 in
set_option maxHeartbeats 8000000 in
theorem GJ {lo0 : Nat} {W0 : World} {t g mb n : Nat} {A : Option Addr} {cc : Nat} {hh : Hr} {C : List zf} {f : T → Option Zf} (HT : Ta lo0 W0 t g mb n A cc hh C f) (ht : Total C f)
 {lo b : Nat} {w : World} {kc : Value} {gv : T} {a : Int} {LV SV : Value} {ls ss : List T} (X : Tb lo w t g hh) (hW : Below W0.heap.size W0 w) (hlo : W0.heap.size ≤ lo) (h : St lo b w t kc gv 26 a LV ls SV ss) (hm : ss.length ≤ 1000) (hsl : ∀ x ∈ ss, x.length ≤ 140737488351232) (c : Cst) (hc : c.s.length ≤ 140737488351232 ∧ c.u.length ≤ 140737488351232) :
 Calls Tryz.prog 52 #[.pointer (some ⟨b, 0, none⟩), jf c] w (zN lo b w t kc gv 26 a LV ls (Jq hh C c ss).1 (.bool (Jq hh C c ss).2)) := by
 obtain ⟨k0, k1, s, q, u⟩ := c
 obtain ⟨hc1, hc3⟩ := hc
 simp only at hc1 hc3
 simp only [jf]
 have hal : Below w.heap.size w (w.alloc (.cells #[.int .i64 k0, .int .i64 k1, .string ⟨s.toArray⟩, .string ⟨q.toArray⟩, .string ⟨u.toArray⟩] 75)) := (Below.refl _ _).alloc (Nat.le_refl _) _
 have hS1 := h.ext hal
 have hX1 := Bx.new w #[.int .i64 k0, .int .i64 k1, .string ⟨s.toArray⟩, .string ⟨q.toArray⟩, .string ⟨u.toArray⟩] 75
 have hB1 := hal.mono h.los
 have hbw : b < w.heap.size := h.box.lt
 obtain ⟨W3, hW3⟩ : ∃ W, (w.alloc (.cells #[.int .i64 k0, .int .i64 k1, .string ⟨s.toArray⟩, .string ⟨q.toArray⟩, .string ⟨u.toArray⟩] 75)) = W := ⟨_, rfl⟩
 rw [hW3] at hS1 hX1 hB1
 have HS := zH hS1
 have HX1 := zH hX1
 have HB := zH hB1
 have HXb := zH (X.below hB1)
 have HF := zH (fun W (hb : Below lo W3 W) => xS (HT.ext ((hW.trans (hB1.mono hlo)).trans (hb.mono hlo))) ht s q hc1)
 have HN : Hid (Jq hh C ⟨k0, k1, s, q, u⟩ ss = if zD (zY q) (hav C s).1 < 0 ∨ (fdE (hav C s).1 q).desc ≠ u then (ss, false) else (if (zx hh ss [ofT s]).2 = true then ((zx hh ss [ofT s]).1 ++ [u], true) else (ss, false))) := zH (by unfold Jq noF; rfl)
 have HOf := zH (fun W => Yg s W (by omega))
 have c0 : W3.cell? ⟨b, 0, none⟩ = some (.pointer (some ⟨t, 0, none⟩)) := hS1.box.cell 0
 have c2 : W3.cell? ⟨w.heap.size, 2, none⟩ = some (.string ⟨s.toArray⟩) := hX1.cell 2
 have c3 : W3.cell? ⟨w.heap.size, 3, none⟩ = some (.string ⟨q.toArray⟩) := hX1.cell 3
 have hloW := hS1.los
 have hwz : w.heap.size < W3.heap.size := hX1.lt
 have hofl : (ofT s).length ≤ 140737488355328 := by unfold ofT; simp; omega
 have hul : u.length ≤ 140737488355328 := by omega
 have hsl2 : Hid (∀ x ∈ ss, x.length ≤ 140737488355328) := zH (fun x hx => Nat.le_trans (hsl x hx) (by omega))
 have hle := Qg (h := hh) (ss := ss) (ds := [ofT s])
 have Hfl := zH (ZY (h := hh) (ss := ss) (ds := [ofT s]))
 clear h X hal hS1 hX1 hB1 HT ht hsl hW hc1 hc3
 generalize Jq hh C ⟨k0, k1, s, q, u⟩ ss = R at *
 go_enter Tryz.func52, Tryz.ntmps52
 go_wp2_with fail
 clear hW3
 have hB0 := Below.refl W3.heap.size W3
 have hBd := hB0.drew
 go_region_held3 (fun w' => w'.cell? ⟨b, 0, none⟩ = some (.pointer (some ⟨t, 0, none⟩)) ∧ w'.cell? ⟨w.heap.size, 2, none⟩ = some (.string ⟨s.toArray⟩) ∧ w'.cell? ⟨w.heap.size, 3, none⟩ = some (.string ⟨q.toArray⟩))
  (first | (with_reducible exact ⟨c0, c2, c3⟩) | (with_reducible exact ⟨y0, y2, y3⟩) | go_keep)
  (first
   | (go_at_call 87
      with_reducible refine (HF.out _ (hBd.mono hloW)).mono ?_
      rintro e w4 ⟨hgf, hb4⟩
      have he := jN hgf
      subst he
      have hB4 := hBd.trans (hb4.mono hBd.size)
      have y0 : w4.cell? ⟨b, 0, none⟩ = some (.pointer (some ⟨t, 0, none⟩)) := (HS.out.box.after hB4).cell 0
      have y2 : w4.cell? ⟨w.heap.size, 2, none⟩ = some (.string ⟨s.toArray⟩) := (HX1.out.after hB4).cell 2
      have y3 : w4.cell? ⟨w.heap.size, 3, none⟩ = some (.string ⟨q.toArray⟩) := (HX1.out.after hB4).cell 3)
   | (go_at_call 87
      with_reducible refine (HF.out _ ((hB0.alloc hB0.size _).drew.mono hloW)).mono ?_
      rintro e w4 ⟨hgf, hb4⟩
      have he := jN hgf
      subst he
      have hP := Bx.after (w := (W3.alloc (.cells #[.string ⟨#[]⟩, .string ⟨#[]⟩] 125)).drew) (Bx.new W3 #[.string ⟨#[]⟩, .string ⟨#[]⟩] 125) hb4
      have hB4 := (hB0.alloc hB0.size _).drew.trans (hb4.mono (hB0.alloc hB0.size _).drew.size)
      have y0 : w4.cell? ⟨b, 0, none⟩ = some (.pointer (some ⟨t, 0, none⟩)) := (HS.out.box.after hB4).cell 0
      have y2 : w4.cell? ⟨w.heap.size, 2, none⟩ = some (.string ⟨s.toArray⟩) := (HX1.out.after hB4).cell 2
      have y3 : w4.cell? ⟨w.heap.size, 3, none⟩ = some (.string ⟨q.toArray⟩) := (HX1.out.after hB4).cell 3
      have q0 : w4.cell? ⟨W3.heap.size, 0, none⟩ = some (.string ⟨#[]⟩) := hP.cell 0
      have q1 : w4.cell? ⟨W3.heap.size, 1, none⟩ = some (.string ⟨#[]⟩) := hP.cell 1
      have q2 := hP.free 0
      have q3 := hP.free 1
      have q4 := hP.lt
      have n0 : ¬ W3.heap.size = b := by omega
      have n1 : ¬ b = W3.heap.size := by omega
      have n2 : ¬ W3.heap.size = w.heap.size := by omega
      have n3 : ¬ w.heap.size = W3.heap.size := by omega))
 · rename_i hHeld
   have HStF := zH ((HS.out.ext hB4).ext ((Below.refl w4.heap.size w4).alloc (Nat.le_refl _) (.cells #[.string ⟨(fdE (hav C s).1 q).name.toArray⟩, .string ⟨(fdE (hav C s).1 q).desc.toArray⟩] 125)))
   have HFb := zH (Bx.new w4 #[.string ⟨(fdE (hav C s).1 q).name.toArray⟩, .string ⟨(fdE (hav C s).1 q).desc.toArray⟩] 125)
   have HBF := zH (hB4.alloc hB4.size (.cells #[.string ⟨(fdE (hav C s).1 q).name.toArray⟩, .string ⟨(fdE (hav C s).1 q).desc.toArray⟩] 125))
   have HXF := zH (HX1.out.after HBF.out)
   clear hHeld hgf hb4 hB4 y0 y2 y3
   generalize w4.alloc (.cells #[.string ⟨(fdE (hav C s).1 q).name.toArray⟩, .string ⟨(fdE (hav C s).1 q).desc.toArray⟩] 125) = WF at *
   generalize w4.heap.size = bf at *
   have z2 : WF.cell? ⟨w.heap.size, 2, none⟩ = some (.string ⟨s.toArray⟩) := HXF.out.cell 2
   have z4 : WF.cell? ⟨w.heap.size, 4, none⟩ = some (.string ⟨u.toArray⟩) := HXF.out.cell 4
   have zl := HXF.out.lt
   have z3 : WF.cell? ⟨b, 3, none⟩ = some (.int .i64 26) := HStF.out.box.cell 3
   have zb := HStF.out.box.lt
   have f1 : WF.cell? ⟨bf, 1, none⟩ = some (.string ⟨(fdE (hav C s).1 q).desc.toArray⟩) := HFb.out.cell 1
   have fl := HFb.out.lt
   have HBw := zH (HB.out.trans (HBF.out.mono hloW))
   have HXt := zH (HXb.out.below (HBF.out.mono hloW))
   clear HX1 HFb HS HXb HB HBF hB0 hBd c0 c2 c3 HF
   generalize fdE (hav C s).1 q = fd at *
   generalize zD (zY q) (hav C s).1 = k at *
   obtain ⟨fd0, fd1, fd2⟩ := fd
   simp only at f1 HN ⊢
   by_cases hk : k < 0
   · have HR := zH (show R = (ss, false) by rw [HN.out, if_pos (.inl hk)])
     go_wp2_with fail
     go_ret
     rw [HR.out]
     exact ⟨rfl, ⟨_, HStF.out⟩, HBw.out⟩
   · by_cases hu : fd1 = u
     · subst hu
       have hne : (fd1 != fd1) = false := by simp
       have HN2 := zH (show R = (if (zx hh ss [ofT s]).2 = true then ((zx hh ss [ofT s]).1 ++ [fd1], true) else (ss, false)) by rw [HN.out, if_neg (by simp; omega)])
       have hal2 : Below WF.heap.size WF (WF.alloc (.cells #[.string ⟨(ofT s).toArray⟩] 9)) := (Below.refl _ _).alloc (Nat.le_refl _) _
       have HT := zH (Qi (HXt.out.below (hal2.mono HStF.out.los)) (HStF.out.ext hal2) hm (some ⟨WF.heap.size, 0, none⟩) 1 [ofT s] (by simp) (zB WF #[sv (ofT s)] 9) hsl2.out (by intro x hx; simp at hx; subst hx; exact hofl))
       have HB2 := zH (HBw.out.trans (hal2.mono HStF.out.los))
       have HXA := zH (HXF.out.after hal2)
       have hnb : w.heap.size ≠ b := by omega
       have hal3 := hal2.drew
       obtain ⟨r, hr⟩ : ∃ r, zx hh ss [ofT s] = r := ⟨_, rfl⟩
       have HTk := zH hr
       rw [hr] at HT HN2 hle Hfl
       clear hal2 HN HXF hr
       obtain ⟨s1, ok⟩ := r
       simp only at HT HN2 hle Hfl
       go_wp2_with fail
       refine (HOf.out _).mono ?_
       rintro e w' ⟨rfl, rfl⟩
       cases ok
       · have HR := zH (show R = (ss, false) from HN2.out)
         have HF := zH (Hfl.out rfl)
         go_wp2_with fail
         refine HT.out.mono ?_
         rintro e w1 ⟨⟨rfl, hst, hb⟩, _⟩
         have HS1 := zH hst
         have HB3 := zH (HB2.out.trans hb)
         clear hst hb
         go_wp2_with fail
         go_ret
         rw [HR.out]
         exact ⟨rfl, by rw [← HF.out]; exact HS1.out, HB3.out⟩
       · have HR := zH (show R = (s1 ++ [fd1], true) from HN2.out)
         go_wp2_with fail
         refine HT.out.mono ?_
         rintro e w1 ⟨⟨rfl, ⟨SV1, hst⟩, hb⟩, hkp⟩
         have hXw := XK HXA.out hkp hnb
         have z5 : w1.cell? ⟨w.heap.size, 4, none⟩ = some (.string ⟨fd1.toArray⟩) := hXw.cell 4
         have z6 := hXw.lt
         have HB3 := zH (HB2.out.trans hb)
         have hal2 : Below w1.heap.size w1 (w1.alloc (.cells #[.string ⟨fd1.toArray⟩] 9)) := (Below.refl _ _).alloc (Nat.le_refl _) _
         have HL := zH (Zh (hst.ext hal2) (by omega) ⟨w1.heap.size, 0, none⟩ 1 [fd1] (by simp) (zB w1 #[sv fd1] 9))
         have HB4 := zH (HB3.out.trans (hal2.mono hst.los))
         clear hst hb hal2 HT hXw hkp
         go_wp2_with fail
         refine HL.out.mono ?_
         rintro e w3 ⟨rfl, hst, hb⟩
         have HS3 := zH hst
         have HB5 := zH (HB4.out.trans hb)
         clear hst hb
         go_wp2_with fail
         go_ret
         rw [HR.out]
         exact ⟨rfl, HS3.out, HB5.out⟩
     · have hne : (fd1 == u) = false := by simp [hu]
       have HR := zH (show R = (ss, false) by rw [HN.out, if_pos (.inr hu)])
       clear hu
       go_wp2_with fail
       go_ret
       rw [HR.out]
       exact ⟨rfl, ⟨_, HStF.out⟩, HBw.out⟩
 · rename_i hHeld
   have HStF := zH (za8 (HS.out.ext hB4) (g := W3.heap.size) (by omega) (fun k hk e => by have := (World.ownsRow.lt HS.out.loc k hk).2; omega) (fun k hk e => by have := (World.ownsRow.lt HS.out.stk k hk).2; omega) (.string ⟨(fdE (hav C s).1 q).name.toArray⟩) (.string ⟨(fdE (hav C s).1 q).desc.toArray⟩))
   have HFb := zH (KndS.Zw hP (.string ⟨(fdE (hav C s).1 q).name.toArray⟩) (.string ⟨(fdE (hav C s).1 q).desc.toArray⟩))
   have HBF := zH (KndS.zQ hB4 (Nat.le_refl W3.heap.size) (.string ⟨(fdE (hav C s).1 q).name.toArray⟩) (.string ⟨(fdE (hav C s).1 q).desc.toArray⟩))
   have HXF := zH (HX1.out.after HBF.out)
   rw [Qu] at HStF HFb HBF HXF
   try rw [Qu]
   clear hHeld hgf hb4 hB4 y0 y2 y3 q0 q1 q2 q3 q4 n0 n1 n2 n3 hP
   generalize zg9 w4 W3.heap.size (.string ⟨(fdE (hav C s).1 q).name.toArray⟩) (.string ⟨(fdE (hav C s).1 q).desc.toArray⟩) = WF at *
   obtain ⟨bf, hbf⟩ : ∃ x, x = W3.heap.size := ⟨_, rfl⟩
   rw [← hbf] at HFb ⊢
   clear hbf
   have z2 : WF.cell? ⟨w.heap.size, 2, none⟩ = some (.string ⟨s.toArray⟩) := HXF.out.cell 2
   have z4 : WF.cell? ⟨w.heap.size, 4, none⟩ = some (.string ⟨u.toArray⟩) := HXF.out.cell 4
   have zl := HXF.out.lt
   have z3 : WF.cell? ⟨b, 3, none⟩ = some (.int .i64 26) := HStF.out.box.cell 3
   have zb := HStF.out.box.lt
   have f1 : WF.cell? ⟨bf, 1, none⟩ = some (.string ⟨(fdE (hav C s).1 q).desc.toArray⟩) := HFb.out.cell 1
   have fl := HFb.out.lt
   have HBw := zH (HB.out.trans (HBF.out.mono hloW))
   have HXt := zH (HXb.out.below (HBF.out.mono hloW))
   clear HX1 HFb HS HXb HB HBF hB0 hBd c0 c2 c3 HF
   generalize fdE (hav C s).1 q = fd at *
   generalize zD (zY q) (hav C s).1 = k at *
   obtain ⟨fd0, fd1, fd2⟩ := fd
   simp only at f1 HN ⊢
   by_cases hk : k < 0
   · have HR := zH (show R = (ss, false) by rw [HN.out, if_pos (.inl hk)])
     go_wp2_with fail
     go_ret
     rw [HR.out]
     exact ⟨rfl, ⟨_, HStF.out⟩, HBw.out⟩
   · by_cases hu : fd1 = u
     · subst hu
       have hne : (fd1 != fd1) = false := by simp
       have HN2 := zH (show R = (if (zx hh ss [ofT s]).2 = true then ((zx hh ss [ofT s]).1 ++ [fd1], true) else (ss, false)) by rw [HN.out, if_neg (by simp; omega)])
       have hal2 : Below WF.heap.size WF (WF.alloc (.cells #[.string ⟨(ofT s).toArray⟩] 9)) := (Below.refl _ _).alloc (Nat.le_refl _) _
       have HT := zH (Qi (HXt.out.below (hal2.mono HStF.out.los)) (HStF.out.ext hal2) hm (some ⟨WF.heap.size, 0, none⟩) 1 [ofT s] (by simp) (zB WF #[sv (ofT s)] 9) hsl2.out (by intro x hx; simp at hx; subst hx; exact hofl))
       have HB2 := zH (HBw.out.trans (hal2.mono HStF.out.los))
       have HXA := zH (HXF.out.after hal2)
       have hnb : w.heap.size ≠ b := by omega
       have hal3 := hal2.drew
       obtain ⟨r, hr⟩ : ∃ r, zx hh ss [ofT s] = r := ⟨_, rfl⟩
       have HTk := zH hr
       rw [hr] at HT HN2 hle Hfl
       clear hal2 HN HXF hr
       obtain ⟨s1, ok⟩ := r
       simp only at HT HN2 hle Hfl
       go_wp2_with fail
       refine (HOf.out _).mono ?_
       rintro e w' ⟨rfl, rfl⟩
       cases ok
       · have HR := zH (show R = (ss, false) from HN2.out)
         have HF := zH (Hfl.out rfl)
         go_wp2_with fail
         refine HT.out.mono ?_
         rintro e w1 ⟨⟨rfl, hst, hb⟩, _⟩
         have HS1 := zH hst
         have HB3 := zH (HB2.out.trans hb)
         clear hst hb
         go_wp2_with fail
         go_ret
         rw [HR.out]
         exact ⟨rfl, by rw [← HF.out]; exact HS1.out, HB3.out⟩
       · have HR := zH (show R = (s1 ++ [fd1], true) from HN2.out)
         go_wp2_with fail
         refine HT.out.mono ?_
         rintro e w1 ⟨⟨rfl, ⟨SV1, hst⟩, hb⟩, hkp⟩
         have hXw := XK HXA.out hkp hnb
         have z5 : w1.cell? ⟨w.heap.size, 4, none⟩ = some (.string ⟨fd1.toArray⟩) := hXw.cell 4
         have z6 := hXw.lt
         have HB3 := zH (HB2.out.trans hb)
         have hal2 : Below w1.heap.size w1 (w1.alloc (.cells #[.string ⟨fd1.toArray⟩] 9)) := (Below.refl _ _).alloc (Nat.le_refl _) _
         have HL := zH (Zh (hst.ext hal2) (by omega) ⟨w1.heap.size, 0, none⟩ 1 [fd1] (by simp) (zB w1 #[sv fd1] 9))
         have HB4 := zH (HB3.out.trans (hal2.mono hst.los))
         clear hst hb hal2 HT hXw hkp
         go_wp2_with fail
         refine HL.out.mono ?_
         rintro e w3 ⟨rfl, hst, hb⟩
         have HS3 := zH hst
         have HB5 := zH (HB4.out.trans hb)
         clear hst hb
         go_wp2_with fail
         go_ret
         rw [HR.out]
         exact ⟨rfl, HS3.out, HB5.out⟩
     · have hne : (fd1 == u) = false := by simp [hu]
       have HR := zH (show R = (ss, false) by rw [HN.out, if_pos (.inr hu)])
       clear hu
       go_wp2_with fail
       go_ret
       rw [HR.out]
       exact ⟨rfl, ⟨_, HStF.out⟩, HBw.out⟩
set_option maxRecDepth 100000 in
set_option maxHeartbeats 8000000 in
theorem GI {lo0 : Nat} {W0 : World} {t g mb n : Nat} {A : Option Addr} {cc : Nat} {hh : Hr} {C : List zf} {f : T → Option Zf} (HT : Ta lo0 W0 t g mb n A cc hh C f) (ht : Total C f)
 {lo b : Nat} {w : World} {kc : Value} {gv : T} {a : Int} {LV SV : Value} {ls ss : List T} (X : Tb lo w t g hh) (hW : Below W0.heap.size W0 w) (hlo : W0.heap.size ≤ lo) (h : St lo b w t kc gv 27 a LV ls SV ss) (hm : ss.length ≤ 1000) (hsl : ∀ x ∈ ss, x.length ≤ 140737488351232) (c : Cst) (hc : c.s.length ≤ 140737488351232 ∧ c.u.length ≤ 140737488351232) :
 Calls Tryz.prog 52 #[.pointer (some ⟨b, 0, none⟩), jf c] w (zN lo b w t kc gv 27 a LV ls (Jj hh C c ss).1 (.bool (Jj hh C c ss).2)) := by
 obtain ⟨k0, k1, s, q, u⟩ := c
 obtain ⟨hc1, hc3⟩ := hc
 simp only at hc1 hc3
 simp only [jf]
 have hal : Below w.heap.size w (w.alloc (.cells #[.int .i64 k0, .int .i64 k1, .string ⟨s.toArray⟩, .string ⟨q.toArray⟩, .string ⟨u.toArray⟩] 75)) := (Below.refl _ _).alloc (Nat.le_refl _) _
 have hS1 := h.ext hal
 have hX1 := Bx.new w #[.int .i64 k0, .int .i64 k1, .string ⟨s.toArray⟩, .string ⟨q.toArray⟩, .string ⟨u.toArray⟩] 75
 have hB1 := hal.mono h.los
 have hbw : b < w.heap.size := h.box.lt
 obtain ⟨W3, hW3⟩ : ∃ W, (w.alloc (.cells #[.int .i64 k0, .int .i64 k1, .string ⟨s.toArray⟩, .string ⟨q.toArray⟩, .string ⟨u.toArray⟩] 75)) = W := ⟨_, rfl⟩
 rw [hW3] at hS1 hX1 hB1
 have HS := zH hS1
 have HX1 := zH hX1
 have HB := zH hB1
 have HXb := zH (X.below hB1)
 have HF := zH (fun W (hb : Below lo W3 W) => xS (HT.ext ((hW.trans (hB1.mono hlo)).trans (hb.mono hlo))) ht s q hc1)
 have HN : Hid (Jj hh C ⟨k0, k1, s, q, u⟩ ss = if zD (zY q) (hav C s).1 < 0 ∨ (fdE (hav C s).1 q).desc ≠ u then (ss, false) else zx hh ss [ofT s, u]) := zH (by unfold Jj noF; rfl)
 have HOf := zH (fun W => Yg s W (by omega))
 have c0 : W3.cell? ⟨b, 0, none⟩ = some (.pointer (some ⟨t, 0, none⟩)) := hS1.box.cell 0
 have c2 : W3.cell? ⟨w.heap.size, 2, none⟩ = some (.string ⟨s.toArray⟩) := hX1.cell 2
 have c3 : W3.cell? ⟨w.heap.size, 3, none⟩ = some (.string ⟨q.toArray⟩) := hX1.cell 3
 have hloW := hS1.los
 have hwz : w.heap.size < W3.heap.size := hX1.lt
 have hofl : (ofT s).length ≤ 140737488355328 := by unfold ofT; simp; omega
 have hul : u.length ≤ 140737488355328 := by omega
 have hsl2 : Hid (∀ x ∈ ss, x.length ≤ 140737488355328) := zH (fun x hx => Nat.le_trans (hsl x hx) (by omega))
 have hle := Qg (h := hh) (ss := ss) (ds := [ofT s, u])
 have Hfl := zH (ZY (h := hh) (ss := ss) (ds := [ofT s, u]))
 clear h X hal hS1 hX1 hB1 HT ht hsl hW hc1 hc3
 generalize Jj hh C ⟨k0, k1, s, q, u⟩ ss = R at *
 go_enter Tryz.func52, Tryz.ntmps52
 go_wp2_with fail
 clear hW3
 have hB0 := Below.refl W3.heap.size W3
 have hBd := hB0.drew
 go_region_held3 (fun w' => w'.cell? ⟨b, 0, none⟩ = some (.pointer (some ⟨t, 0, none⟩)) ∧ w'.cell? ⟨w.heap.size, 2, none⟩ = some (.string ⟨s.toArray⟩) ∧ w'.cell? ⟨w.heap.size, 3, none⟩ = some (.string ⟨q.toArray⟩))
  (first | (with_reducible exact ⟨c0, c2, c3⟩) | (with_reducible exact ⟨y0, y2, y3⟩) | go_keep)
  (first
   | (go_at_call 87
      with_reducible refine (HF.out _ (hBd.mono hloW)).mono ?_
      rintro e w4 ⟨hgf, hb4⟩
      have he := jN hgf
      subst he
      have hB4 := hBd.trans (hb4.mono hBd.size)
      have y0 : w4.cell? ⟨b, 0, none⟩ = some (.pointer (some ⟨t, 0, none⟩)) := (HS.out.box.after hB4).cell 0
      have y2 : w4.cell? ⟨w.heap.size, 2, none⟩ = some (.string ⟨s.toArray⟩) := (HX1.out.after hB4).cell 2
      have y3 : w4.cell? ⟨w.heap.size, 3, none⟩ = some (.string ⟨q.toArray⟩) := (HX1.out.after hB4).cell 3)
   | (go_at_call 87
      with_reducible refine (HF.out _ ((hB0.alloc hB0.size _).drew.mono hloW)).mono ?_
      rintro e w4 ⟨hgf, hb4⟩
      have he := jN hgf
      subst he
      have hP := Bx.after (w := (W3.alloc (.cells #[.string ⟨#[]⟩, .string ⟨#[]⟩] 125)).drew) (Bx.new W3 #[.string ⟨#[]⟩, .string ⟨#[]⟩] 125) hb4
      have hB4 := (hB0.alloc hB0.size _).drew.trans (hb4.mono (hB0.alloc hB0.size _).drew.size)
      have y0 : w4.cell? ⟨b, 0, none⟩ = some (.pointer (some ⟨t, 0, none⟩)) := (HS.out.box.after hB4).cell 0
      have y2 : w4.cell? ⟨w.heap.size, 2, none⟩ = some (.string ⟨s.toArray⟩) := (HX1.out.after hB4).cell 2
      have y3 : w4.cell? ⟨w.heap.size, 3, none⟩ = some (.string ⟨q.toArray⟩) := (HX1.out.after hB4).cell 3
      have q0 : w4.cell? ⟨W3.heap.size, 0, none⟩ = some (.string ⟨#[]⟩) := hP.cell 0
      have q1 : w4.cell? ⟨W3.heap.size, 1, none⟩ = some (.string ⟨#[]⟩) := hP.cell 1
      have q2 := hP.free 0
      have q3 := hP.free 1
      have q4 := hP.lt
      have n0 : ¬ W3.heap.size = b := by omega
      have n1 : ¬ b = W3.heap.size := by omega
      have n2 : ¬ W3.heap.size = w.heap.size := by omega
      have n3 : ¬ w.heap.size = W3.heap.size := by omega))
 · rename_i hHeld
   have HStF := zH ((HS.out.ext hB4).ext ((Below.refl w4.heap.size w4).alloc (Nat.le_refl _) (.cells #[.string ⟨(fdE (hav C s).1 q).name.toArray⟩, .string ⟨(fdE (hav C s).1 q).desc.toArray⟩] 125)))
   have HFb := zH (Bx.new w4 #[.string ⟨(fdE (hav C s).1 q).name.toArray⟩, .string ⟨(fdE (hav C s).1 q).desc.toArray⟩] 125)
   have HBF := zH (hB4.alloc hB4.size (.cells #[.string ⟨(fdE (hav C s).1 q).name.toArray⟩, .string ⟨(fdE (hav C s).1 q).desc.toArray⟩] 125))
   have HXF := zH (HX1.out.after HBF.out)
   clear hHeld hgf hb4 hB4 y0 y2 y3
   generalize w4.alloc (.cells #[.string ⟨(fdE (hav C s).1 q).name.toArray⟩, .string ⟨(fdE (hav C s).1 q).desc.toArray⟩] 125) = WF at *
   generalize w4.heap.size = bf at *
   have z2 : WF.cell? ⟨w.heap.size, 2, none⟩ = some (.string ⟨s.toArray⟩) := HXF.out.cell 2
   have z4 : WF.cell? ⟨w.heap.size, 4, none⟩ = some (.string ⟨u.toArray⟩) := HXF.out.cell 4
   have zl := HXF.out.lt
   have z3 : WF.cell? ⟨b, 3, none⟩ = some (.int .i64 27) := HStF.out.box.cell 3
   have zb := HStF.out.box.lt
   have f1 : WF.cell? ⟨bf, 1, none⟩ = some (.string ⟨(fdE (hav C s).1 q).desc.toArray⟩) := HFb.out.cell 1
   have fl := HFb.out.lt
   have HBw := zH (HB.out.trans (HBF.out.mono hloW))
   have HXt := zH (HXb.out.below (HBF.out.mono hloW))
   clear HX1 HFb HS HXb HB HBF hB0 hBd c0 c2 c3 HF
   generalize fdE (hav C s).1 q = fd at *
   generalize zD (zY q) (hav C s).1 = k at *
   obtain ⟨fd0, fd1, fd2⟩ := fd
   simp only at f1 HN ⊢
   by_cases hk : k < 0
   · have HR := zH (show R = (ss, false) by rw [HN.out, if_pos (.inl hk)])
     go_wp2_with fail
     go_ret
     rw [HR.out]
     exact ⟨rfl, ⟨_, HStF.out⟩, HBw.out⟩
   · by_cases hu : fd1 = u
     · subst hu
       have hne : (fd1 != fd1) = false := by simp
       have HN2 := zH (show R = zx hh ss [ofT s, fd1] by rw [HN.out, if_neg (by simp; omega)])
       have hal2 : Below WF.heap.size WF (WF.alloc (.cells #[.string ⟨(ofT s).toArray⟩, .string ⟨fd1.toArray⟩] 9)) := (Below.refl _ _).alloc (Nat.le_refl _) _
       have HT := zH (Qi (HXt.out.below (hal2.mono HStF.out.los)) (HStF.out.ext hal2) hm (some ⟨WF.heap.size, 0, none⟩) 2 [ofT s, fd1] (by simp) (zB WF #[sv (ofT s), sv fd1] 9) hsl2.out (by intro x hx; simp at hx; rcases hx with rfl | rfl <;> assumption))
       have HB2 := zH (HBw.out.trans (hal2.mono HStF.out.los))
       have HXA := zH (HXF.out.after hal2)
       have hnb : w.heap.size ≠ b := by omega
       have hal3 := hal2.drew
       obtain ⟨r, hr⟩ : ∃ r, zx hh ss [ofT s, fd1] = r := ⟨_, rfl⟩
       have HTk := zH hr
       rw [hr] at HT HN2 hle Hfl
       clear hal2 HN HXF hr
       obtain ⟨s1, ok⟩ := r
       simp only at HT HN2 hle Hfl
       have HTd : Hid (Calls Tryz.prog 48 #[.pointer (some ⟨b, 0, none⟩), .slice (some ⟨WF.heap.size, 0, none⟩) 2 2] (WF.alloc (.cells #[.string ⟨(ofT s).toArray⟩, .string ⟨fd1.toArray⟩] 9)).drew (kD lo b (WF.alloc (.cells #[.string ⟨(ofT s).toArray⟩, .string ⟨fd1.toArray⟩] 9)).drew t kc gv 27 a LV ls s1 (.bool ok))) := zH (by
        have h9 := Qi ((HXt.out.below (hal3.mono HStF.out.los))) (HStF.out.ext hal3) hm (some ⟨WF.heap.size, 0, none⟩) 2 [ofT s, fd1] (by simp) (zB WF #[sv (ofT s), sv fd1] 9 : Rds (WF.alloc (.cells #[sv (ofT s), sv fd1] 9)).drew _ _) hsl2.out (by intro x hx; simp at hx; rcases hx with rfl | rfl <;> assumption)
        rw [HTk.out] at h9
        exact h9)
       clear HT
       go_wp2_with fail
       go_region_held3 (fun w' => w'.cell? ⟨w.heap.size, 2, none⟩ = some (.string ⟨s.toArray⟩) ∧ w'.cell? ⟨w.heap.size, 4, none⟩ = some (.string ⟨fd1.toArray⟩))
        (first | (with_reducible exact ⟨z2, z4⟩) | (with_reducible exact ⟨z7, z8⟩) | go_keep)
        (first
         | (go_at_call 48
            refine HTd.out.mono ?_
            rintro e w1 ⟨⟨rfl, hst, hb⟩, hkp⟩
            have hXw := XK (Zh9 HXA.out) hkp hnb
            have z7 : w1.cell? ⟨w.heap.size, 2, none⟩ = some (.string ⟨s.toArray⟩) := hXw.cell 2
            have z8 : w1.cell? ⟨w.heap.size, 4, none⟩ = some (.string ⟨fd1.toArray⟩) := hXw.cell 4)
         | (go_at_call 111
            refine (HOf.out _).mono ?_
            rintro e w' ⟨rfl, rfl⟩))
       all_goals
        have HS1 := zH hst
        have HB3 := zH (HB2.out.drew.trans hb)
        clear hst hb
        go_wp2_with fail
        go_ret
        rw [HN2.out]
        exact ⟨rfl, HS1.out, HB3.out⟩
     · have hne : (fd1 == u) = false := by simp [hu]
       have HR := zH (show R = (ss, false) by rw [HN.out, if_pos (.inr hu)])
       clear hu
       go_wp2_with fail
       go_ret
       rw [HR.out]
       exact ⟨rfl, ⟨_, HStF.out⟩, HBw.out⟩
 · rename_i hHeld
   have HStF := zH (za8 (HS.out.ext hB4) (g := W3.heap.size) (by omega) (fun k hk e => by have := (World.ownsRow.lt HS.out.loc k hk).2; omega) (fun k hk e => by have := (World.ownsRow.lt HS.out.stk k hk).2; omega) (.string ⟨(fdE (hav C s).1 q).name.toArray⟩) (.string ⟨(fdE (hav C s).1 q).desc.toArray⟩))
   have HFb := zH (KndS.Zw hP (.string ⟨(fdE (hav C s).1 q).name.toArray⟩) (.string ⟨(fdE (hav C s).1 q).desc.toArray⟩))
   have HBF := zH (KndS.zQ hB4 (Nat.le_refl W3.heap.size) (.string ⟨(fdE (hav C s).1 q).name.toArray⟩) (.string ⟨(fdE (hav C s).1 q).desc.toArray⟩))
   have HXF := zH (HX1.out.after HBF.out)
   rw [Qu] at HStF HFb HBF HXF
   try rw [Qu]
   clear hHeld hgf hb4 hB4 y0 y2 y3 q0 q1 q2 q3 q4 n0 n1 n2 n3 hP
   generalize zg9 w4 W3.heap.size (.string ⟨(fdE (hav C s).1 q).name.toArray⟩) (.string ⟨(fdE (hav C s).1 q).desc.toArray⟩) = WF at *
   obtain ⟨bf, hbf⟩ : ∃ x, x = W3.heap.size := ⟨_, rfl⟩
   rw [← hbf] at HFb ⊢
   clear hbf
   have z2 : WF.cell? ⟨w.heap.size, 2, none⟩ = some (.string ⟨s.toArray⟩) := HXF.out.cell 2
   have z4 : WF.cell? ⟨w.heap.size, 4, none⟩ = some (.string ⟨u.toArray⟩) := HXF.out.cell 4
   have zl := HXF.out.lt
   have z3 : WF.cell? ⟨b, 3, none⟩ = some (.int .i64 27) := HStF.out.box.cell 3
   have zb := HStF.out.box.lt
   have f1 : WF.cell? ⟨bf, 1, none⟩ = some (.string ⟨(fdE (hav C s).1 q).desc.toArray⟩) := HFb.out.cell 1
   have fl := HFb.out.lt
   have HBw := zH (HB.out.trans (HBF.out.mono hloW))
   have HXt := zH (HXb.out.below (HBF.out.mono hloW))
   clear HX1 HFb HS HXb HB HBF hB0 hBd c0 c2 c3 HF
   generalize fdE (hav C s).1 q = fd at *
   generalize zD (zY q) (hav C s).1 = k at *
   obtain ⟨fd0, fd1, fd2⟩ := fd
   simp only at f1 HN ⊢
   by_cases hk : k < 0
   · have HR := zH (show R = (ss, false) by rw [HN.out, if_pos (.inl hk)])
     go_wp2_with fail
     go_ret
     rw [HR.out]
     exact ⟨rfl, ⟨_, HStF.out⟩, HBw.out⟩
   · by_cases hu : fd1 = u
     · subst hu
       have hne : (fd1 != fd1) = false := by simp
       have HN2 := zH (show R = zx hh ss [ofT s, fd1] by rw [HN.out, if_neg (by simp; omega)])
       have hal2 : Below WF.heap.size WF (WF.alloc (.cells #[.string ⟨(ofT s).toArray⟩, .string ⟨fd1.toArray⟩] 9)) := (Below.refl _ _).alloc (Nat.le_refl _) _
       have HT := zH (Qi (HXt.out.below (hal2.mono HStF.out.los)) (HStF.out.ext hal2) hm (some ⟨WF.heap.size, 0, none⟩) 2 [ofT s, fd1] (by simp) (zB WF #[sv (ofT s), sv fd1] 9) hsl2.out (by intro x hx; simp at hx; rcases hx with rfl | rfl <;> assumption))
       have HB2 := zH (HBw.out.trans (hal2.mono HStF.out.los))
       have HXA := zH (HXF.out.after hal2)
       have hnb : w.heap.size ≠ b := by omega
       have hal3 := hal2.drew
       obtain ⟨r, hr⟩ : ∃ r, zx hh ss [ofT s, fd1] = r := ⟨_, rfl⟩
       have HTk := zH hr
       rw [hr] at HT HN2 hle Hfl
       clear hal2 HN HXF hr
       obtain ⟨s1, ok⟩ := r
       simp only at HT HN2 hle Hfl
       have HTd : Hid (Calls Tryz.prog 48 #[.pointer (some ⟨b, 0, none⟩), .slice (some ⟨WF.heap.size, 0, none⟩) 2 2] (WF.alloc (.cells #[.string ⟨(ofT s).toArray⟩, .string ⟨fd1.toArray⟩] 9)).drew (kD lo b (WF.alloc (.cells #[.string ⟨(ofT s).toArray⟩, .string ⟨fd1.toArray⟩] 9)).drew t kc gv 27 a LV ls s1 (.bool ok))) := zH (by
        have h9 := Qi ((HXt.out.below (hal3.mono HStF.out.los))) (HStF.out.ext hal3) hm (some ⟨WF.heap.size, 0, none⟩) 2 [ofT s, fd1] (by simp) (zB WF #[sv (ofT s), sv fd1] 9 : Rds (WF.alloc (.cells #[sv (ofT s), sv fd1] 9)).drew _ _) hsl2.out (by intro x hx; simp at hx; rcases hx with rfl | rfl <;> assumption)
        rw [HTk.out] at h9
        exact h9)
       clear HT
       go_wp2_with fail
       go_region_held3 (fun w' => w'.cell? ⟨w.heap.size, 2, none⟩ = some (.string ⟨s.toArray⟩) ∧ w'.cell? ⟨w.heap.size, 4, none⟩ = some (.string ⟨fd1.toArray⟩))
        (first | (with_reducible exact ⟨z2, z4⟩) | (with_reducible exact ⟨z7, z8⟩) | go_keep)
        (first
         | (go_at_call 48
            refine HTd.out.mono ?_
            rintro e w1 ⟨⟨rfl, hst, hb⟩, hkp⟩
            have hXw := XK (Zh9 HXA.out) hkp hnb
            have z7 : w1.cell? ⟨w.heap.size, 2, none⟩ = some (.string ⟨s.toArray⟩) := hXw.cell 2
            have z8 : w1.cell? ⟨w.heap.size, 4, none⟩ = some (.string ⟨fd1.toArray⟩) := hXw.cell 4)
         | (go_at_call 111
            refine (HOf.out _).mono ?_
            rintro e w' ⟨rfl, rfl⟩))
       all_goals
        have HS1 := zH hst
        have HB3 := zH (HB2.out.drew.trans hb)
        clear hst hb
        go_wp2_with fail
        go_ret
        rw [HN2.out]
        exact ⟨rfl, HS1.out, HB3.out⟩
     · have hne : (fd1 == u) = false := by simp [hu]
       have HR := zH (show R = (ss, false) by rw [HN.out, if_pos (.inr hu)])
       clear hu
       go_wp2_with fail
       go_ret
       rw [HR.out]
       exact ⟨rfl, ⟨_, HStF.out⟩, HBw.out⟩
end KndX
end Go.Proofs.YtehainbhoflpnaaGreatDoor
