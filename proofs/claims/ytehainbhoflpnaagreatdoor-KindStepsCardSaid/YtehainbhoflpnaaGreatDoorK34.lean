/- pieces -/
import Derived.Test.YtehainbhoflpnaaGreatDoorK33
namespace Go.Proofs.YtehainbhoflpnaaGreatDoor
namespace KndV
open Go.RowKit Base BinM Stru DescM DescW DescX DescS DescG DescP DescQ HierS HierT HierM HierC HierD HierN HierV HierR HierU HierY Kls KlsP KlsQ OpenK TabC TabM TabK TabP TabE TabB TabG TabH TabT TabU TabV TabX TabW TabF TabN TabO TabY TabR TabQ TabL TabZ KndB KndM KndS KndP KndQ KndR KndU
def noK : Cst := ⟨0, 0, [], [], []⟩
def jf (c : Cst) : Value := .agg #[.int .i64 c.kind, .int .i64 c.n, .string ⟨c.s.toArray⟩, .string ⟨c.t.toArray⟩, .string ⟨c.u.toArray⟩]
def Zj (ks : List Cst) (a kind : Int) : Cst × Bool := if 0 ≤ a ∧ a < ks.length ∧ (ks.getD a.toNat noK).kind = kind then (ks.getD a.toNat noK, true) else (noK, false)
theorem Xy : (Tryz.prog.info? 75).map (·.size) = some 5 := by kernel_rfl
set_option maxRecDepth 100000 in
set_option maxHeartbeats 2000000 in
theorem Qz {lo b : Nat} {w : World} {t : Nat} {kA : Option Addr} {km kcap : Nat} {gv : T} {op a : Int} {LV SV : Value} {ls ss : List T} (h : St lo b w t (.slice kA km kcap) gv op a LV ls SV ss) (ks : List Cst) (hk : Zq w kA km kcap ks) (kind : Int) :
 Calls Tryz.prog 49 #[.pointer (some ⟨b, 0, none⟩), .int .i64 kind] w fun e w' => e = .returned (.tuple #[jf (Zj ks a kind).1, .bool (Zj ks a kind).2]) ∧ Below w.heap.size w w' := by
 have c1 : w.cell? ⟨b, 1, none⟩ = some (.slice kA km kcap) := h.box.cell 1
 have c4 : w.cell? ⟨b, 4, none⟩ = some (.int .i64 a) := h.box.cell 4
 have hlt := h.box.lt
 have hml : ks.length ≤ km := Nat.le_of_eq hk.len.symm
 have hml2 : km ≤ ks.length := Nat.le_of_eq hk.len
 have R := zH hk.rds
 have hno : ∀ x y z u v : Value, Hid (Below w.heap.size w (w.alloc (.cells #[x, y, z, u, v] 75))) := fun x y z u v => zH ((Below.refl _ _).alloc (Nat.le_refl _) _)
 have HNo := zH hno
 have hbx : ∀ x y z u v : Value, Bx (w.alloc (.cells #[x, y, z, u, v] 75)) w.heap.size #[x, y, z, u, v] 75 := fun x y z u v => Bx.new w _ _
 have HBx := zH hbx
 clear h hk hno hbx
 have hbad : Hid (¬ (0 ≤ a ∧ a < ks.length ∧ (ks.getD a.toNat noK).kind = kind) → Zj ks a kind = (noK, false)) := zH (fun hn => by unfold Zj; rw [if_neg hn])
 by_cases h0 : a < 0
 · rw [hbad.out (by omega)]
   go_enter Tryz.func49, Tryz.ntmps49
   go_wp2_with fail
   exact bodyPost_ret (v := .tuple #[jf noK, .bool false]) (zX Tryz.results49 _ _ _ _ rfl (run_loadVar_row _ _ _ _ #[.int .i64 0, .int .i64 0, .string ⟨#[]⟩, .string ⟨#[]⟩, .string ⟨#[]⟩] (0, 0) _ (HBx.out _ _ _ _ _) Tryz.underlying75 rfl Xy)) rfl ⟨rfl, (HNo.out _ _ _ _ _).out⟩
 · by_cases hin : a < (ks.length : Int)
   · obtain ⟨k, rfl⟩ : ∃ k : Nat, a = (k : Int) := ⟨a.toNat, by omega⟩
     have hkl : k < ks.length := by omega
     have hki : (k : Int) < (km : Int) := by omega
     have hk0 : (0 : Int) ≤ (k : Int) := by omega
     obtain ⟨g, o, rfl, hg, d0, d1, d2, d3, d4⟩ := Qy R.out hkl
     have hget : ks.getD (k : Int).toNat noK = ks[k] := by rw [Int.toNat_natCast, List.getD_eq_getElem?_getD, List.getElem?_eq_getElem hkl]; rfl
     rw [hget] at hbad
     have hgood : Hid (ks[k].kind = kind → Zj ks (k : Int) kind = (ks[k], true)) := zH (fun he => by unfold Zj; rw [hget, if_pos ⟨hk0, hin, he⟩])
     clear hget hml hml2 h0
     generalize Zj ks (k : Int) kind = F at *
     generalize ks[k] = z at *
     obtain ⟨zk, zn, zs, zt, zu⟩ := z
     simp only at d0 d1 d2 d3 d4 hgood hbad
     by_cases he : zk = kind
     · subst he
       have HF := zH (hgood.out rfl)
       clear hgood hbad
       rw [HF.out]
       go_enter Tryz.func49, Tryz.ntmps49
       go_wp2_with fail
       exact bodyPost_ret (v := .tuple #[jf ⟨zk, zn, zs, zt, zu⟩, .bool true]) (zX Tryz.results49 _ _ _ _ rfl (run_loadVar_row _ _ _ _ #[.int .i64 zk, .int .i64 zn, .string ⟨zs.toArray⟩, .string ⟨zt.toArray⟩, .string ⟨zu.toArray⟩] (0, 0) _ (HBx.out _ _ _ _ _) Tryz.underlying75 rfl Xy)) rfl ⟨rfl, (HNo.out _ _ _ _ _).out⟩
     · have HF := zH (hbad.out (fun hn => he hn.2.2))
       have hne : (zk != kind) = true := by simp [he]
       clear hgood hbad he
       rw [HF.out]
       go_enter Tryz.func49, Tryz.ntmps49
       go_wp2_with fail
       exact bodyPost_ret (v := .tuple #[jf noK, .bool false]) (zX Tryz.results49 _ _ _ _ rfl (run_loadVar_row _ _ _ _ #[.int .i64 0, .int .i64 0, .string ⟨#[]⟩, .string ⟨#[]⟩, .string ⟨#[]⟩] (0, 0) _ (HBx.out _ _ _ _ _) Tryz.underlying75 rfl Xy)) rfl ⟨rfl, (HNo.out _ _ _ _ _).out⟩
   · rw [hbad.out (by omega)]
     have hge : (km : Int) ≤ a := by omega
     have hge2 : ¬ a < (km : Int) := by omega
     go_enter Tryz.func49, Tryz.ntmps49
     go_wp2_with fail
     exact bodyPost_ret (v := .tuple #[jf noK, .bool false]) (zX Tryz.results49 _ _ _ _ rfl (run_loadVar_row _ _ _ _ #[.int .i64 0, .int .i64 0, .string ⟨#[]⟩, .string ⟨#[]⟩, .string ⟨#[]⟩] (0, 0) _ (HBx.out _ _ _ _ _) Tryz.underlying75 rfl Xy)) rfl ⟨rfl, (HNo.out _ _ _ _ _).out⟩
def newP (h : Hr) (d : T) (ss : List T) : List T × Bool := if (zq d).2 = true ∧ h.known d = true then (ss ++ [d], true) else (ss, false)
set_option maxRecDepth 100000 in
set_option maxHeartbeats 2000000 in
theorem zg7 {lo b : Nat} {w : World} {t g : Nat} {hr : Hr} {kc : Value} {gv : T} {a : Int} {LV SV : Value} {ls ss : List T} (X : Tb lo w t g hr) (h : St lo b w t kc gv 25 a LV ls SV ss) (hm : ss.length ≤ 1000) (d : T) (hd : d.length ≤ 140737488355328) :
 Calls Tryz.prog 51 #[.pointer (some ⟨b, 0, none⟩), .string ⟨d.toArray⟩] w (zN lo b w t kc gv 25 a LV ls (newP hr d ss).1 (.bool (newP hr d ss).2)) := by
 have hal : Below w.heap.size w (w.alloc (.cells #[.string ⟨d.toArray⟩] 9)) := (Below.refl _ _).alloc (Nat.le_refl _) _
 have HL := zH (Zh (h.ext hal) hm ⟨w.heap.size, 0, none⟩ 1 [d] (by simp) (zB w #[sv d] 9))
 have HB0 := zH (hal.mono h.los)
 have c0 : w.cell? ⟨b, 0, none⟩ = some (.pointer (some ⟨t, 0, none⟩)) := h.box.cell 0
 have c3 : w.cell? ⟨b, 3, none⟩ = some (.int .i64 25) := h.box.cell 3
 have hlt := h.box.lt
 have HS := zH h
 have HC := zH (DescX.xX d w hd)
 have Hh := zH (jy X)
 have HK := zH (HierD.Q0 lo g hr d w X.hier hd)
 have HN := zH (show newP hr d ss = if (zq d).2 = true ∧ hr.known d = true then (ss ++ [d], true) else (ss, false) from rfl)
 clear h X hal
 generalize newP hr d ss = R at *
 generalize zq d = cl at *
 obtain ⟨cn, ok⟩ := cl
 unfold J7 at HC
 simp only at HC HN
 generalize hr.known d = kn at *
 cases ok
 · have HR := zH (show R = (ss, false) by rw [HN.out]; simp)
   rw [HR.out]
   go_enter Tryz.func51, Tryz.ntmps51
   go_wp2_with fail
   refine HC.out.mono ?_
   rintro e w' ⟨rfl, rfl⟩
   go_wp2_with fail
   go_ret
   exact ⟨rfl, ⟨_, HS.out⟩, Below.refl _ _⟩
 · cases kn
   · have HR := zH (show R = (ss, false) by rw [HN.out]; simp)
     rw [HR.out]
     go_enter Tryz.func51, Tryz.ntmps51
     go_wp2_with fail
     refine HC.out.mono ?_
     rintro e w' ⟨rfl, rfl⟩
     go_wp2_with fail
     refine Hh.out.mono ?_
     rintro e w' ⟨rfl, rfl⟩
     go_wp2_with fail
     refine HK.out.mono ?_
     rintro e w' ⟨rfl, rfl⟩
     go_wp2_with fail
     go_ret
     exact ⟨rfl, ⟨_, HS.out⟩, Below.refl _ _⟩
   · have HR := zH (show R = (ss ++ [d], true) by rw [HN.out]; simp)
     rw [HR.out]
     go_enter Tryz.func51, Tryz.ntmps51
     go_wp2_with fail
     refine HC.out.mono ?_
     rintro e w' ⟨rfl, rfl⟩
     go_wp2_with fail
     refine Hh.out.mono ?_
     rintro e w' ⟨rfl, rfl⟩
     go_wp2_with fail
     refine HK.out.mono ?_
     rintro e w' ⟨rfl, rfl⟩
     go_wp2_with fail
     refine HL.out.mono ?_
     rintro e w1 ⟨rfl, hst, hb⟩
     have HS1 := zH hst
     have HB := zH (HB0.out.trans hb)
     clear hst hb
     go_wp2_with fail
     go_ret
     exact ⟨rfl, HS1.out, HB.out⟩
def Xt (h : Hr) (d : T) (ss : List T) : List T × Bool := if ((zM d).2 == 0) = true ∧ h.known d = true then tlP h ss [tI] [d] else (ss, false)
set_option maxRecDepth 100000 in
set_option maxHeartbeats 2000000 in
theorem zg8 {lo b : Nat} {w : World} {t g : Nat} {hr : Hr} {kc : Value} {gv : T} {a : Int} {LV SV : Value} {ls ss : List T} (X : Tb lo w t g hr) (h : St lo b w t kc gv 28 a LV ls SV ss) (hm : ss.length ≤ 1000) (hsl : ∀ x ∈ ss, x.length ≤ 140737488355328) (d : T) (hd : d.length ≤ 140737488355328) :
 Calls Tryz.prog 51 #[.pointer (some ⟨b, 0, none⟩), .string ⟨d.toArray⟩] w (zN lo b w t kc gv 28 a LV ls (Xt hr d ss).1 (.bool (Xt hr d ss).2)) := by
 have hal : Below w.heap.size w (w.alloc (.cells #[.string ⟨#[73]⟩] 9)) := (Below.refl _ _).alloc (Nat.le_refl _) _
 have HT := zH (qx (X.below (hal.mono h.los)) (h.ext hal) hm (some ⟨w.heap.size, 0, none⟩) 1 [tI] (by simp) (zB w #[sv tI] 9) hsl (by simp [tI]))
 have HB0 := zH (hal.mono h.los)
 have c0 : w.cell? ⟨b, 0, none⟩ = some (.pointer (some ⟨t, 0, none⟩)) := h.box.cell 0
 have c3 : w.cell? ⟨b, 3, none⟩ = some (.int .i64 28) := h.box.cell 3
 have hlt := h.box.lt
 have HS := zH h
 have HC := zH (DescX.Js d w hd)
 have Hh := zH (jy X)
 have HK := zH (HierD.Q0 lo g hr d w X.hier hd)
 have HN := zH (show Xt hr d ss = if ((zM d).2 == 0) = true ∧ hr.known d = true then (if (zx hr ss [tI]).2 = true then ((zx hr ss [tI]).1 ++ [d], true) else (ss, false)) else (ss, false) from rfl)
 have hle := Qg (h := hr) (ss := ss) (ds := [tI])
 have Hfl := zH (ZY (h := hr) (ss := ss) (ds := [tI]))
 clear h X hal hsl
 generalize Xt hr d ss = R at *
 generalize zM d = el at *
 obtain ⟨x, n⟩ := el
 unfold Xo at HC
 simp only at HC HN
 cases hz : (n == 0)
 · have HR := zH (show R = (ss, false) by rw [HN.out, hz]; simp)
   rw [HR.out]
   clear HN
   go_enter Tryz.func51, Tryz.ntmps51
   go_wp2_with fail
   refine HC.out.mono ?_
   rintro e w' ⟨rfl, rfl⟩
   go_wp2_with fail
   go_ret
   exact ⟨rfl, ⟨_, HS.out⟩, Below.refl _ _⟩
 · rw [hz] at HN
   generalize hr.known d = kn at *
   cases kn
   · have HR := zH (show R = (ss, false) by rw [HN.out]; simp)
     rw [HR.out]
     go_enter Tryz.func51, Tryz.ntmps51
     go_wp2_with fail
     refine HC.out.mono ?_
     rintro e w' ⟨rfl, rfl⟩
     go_wp2_with fail
     refine Hh.out.mono ?_
     rintro e w' ⟨rfl, rfl⟩
     go_wp2_with fail
     refine HK.out.mono ?_
     rintro e w' ⟨rfl, rfl⟩
     go_wp2_with fail
     go_ret
     exact ⟨rfl, ⟨_, HS.out⟩, Below.refl _ _⟩
   · generalize zx hr ss [tI] = r at *
     obtain ⟨s1, ok⟩ := r
     simp only at HT HN hle Hfl
     cases ok
     · have HR := zH (show R = (ss, false) by rw [HN.out]; simp)
       have HF := zH (Hfl.out rfl)
       rw [HR.out]
       clear HN Hfl
       go_enter Tryz.func51, Tryz.ntmps51
       go_wp2_with fail
       refine HC.out.mono ?_
       rintro e w' ⟨rfl, rfl⟩
       go_wp2_with fail
       refine Hh.out.mono ?_
       rintro e w' ⟨rfl, rfl⟩
       go_wp2_with fail
       refine HK.out.mono ?_
       rintro e w' ⟨rfl, rfl⟩
       go_wp2_with fail
       refine HT.out.mono ?_
       rintro e w1 ⟨rfl, hst, hb⟩
       have HS1 := zH hst
       have HB := zH (HB0.out.trans hb)
       clear hst hb
       go_wp2_with fail
       go_ret
       exact ⟨rfl, by rw [← HF.out]; exact HS1.out, HB.out⟩
     · have HR := zH (show R = (s1 ++ [d], true) by rw [HN.out]; simp)
       rw [HR.out]
       clear HN Hfl
       go_enter Tryz.func51, Tryz.ntmps51
       go_wp2_with fail
       refine HC.out.mono ?_
       rintro e w' ⟨rfl, rfl⟩
       go_wp2_with fail
       refine Hh.out.mono ?_
       rintro e w' ⟨rfl, rfl⟩
       go_wp2_with fail
       refine HK.out.mono ?_
       rintro e w' ⟨rfl, rfl⟩
       go_wp2_with fail
       refine HT.out.mono ?_
       rintro e w1 ⟨rfl, ⟨SV1, hst⟩, hb⟩
       have HB := zH (HB0.out.trans hb)
       have hal2 : Below w1.heap.size w1 (w1.alloc (.cells #[.string ⟨d.toArray⟩] 9)) := (Below.refl _ _).alloc (Nat.le_refl _) _
       have HL := zH (Zh (hst.ext hal2) (by omega) ⟨w1.heap.size, 0, none⟩ 1 [d] (by simp) (zB w1 #[sv d] 9))
       have HB3 := zH (HB.out.trans (hal2.mono hst.los))
       clear hst hb hal2 HT
       go_wp2_with fail
       refine HL.out.mono ?_
       rintro e w3 ⟨rfl, hst, hb⟩
       have HS3 := zH hst
       have HB4 := zH (HB3.out.trans hb)
       clear hst hb
       go_wp2_with fail
       go_ret
       exact ⟨rfl, HS3.out, HB4.out⟩
def Qd (h : Hr) (d : T) (rs : T) (ss : List T) : List T × Bool := if h.known d = true ∧ Zr d = true then (if (thP ss).2 = true then ((thP ss).1 ++ [rs], true) else ((thP ss).1, false)) else (ss, false)
set_option maxRecDepth 100000 in
set_option maxHeartbeats 2000000 in
theorem zn1 {lo b : Nat} {w : World} {t g : Nat} {hr : Hr} {kc : Value} {gv : T} {a : Int} {LV SV : Value} {ls ss : List T} (X : Tb lo w t g hr) (h : St lo b w t kc gv 38 a LV ls SV ss) (hm : ss.length ≤ 1000) (hsl : ∀ x ∈ ss, x.length ≤ 140737488355328) (d : T) (hd : d.length ≤ 140737488355328) :
 Calls Tryz.prog 51 #[.pointer (some ⟨b, 0, none⟩), .string ⟨d.toArray⟩] w (zN lo b w t kc gv 38 a LV ls (Qd hr d d ss).1 (.bool (Qd hr d d ss).2)) := by
 have HT := zH (Qm h hm hsl)
 have c0 : w.cell? ⟨b, 0, none⟩ = some (.pointer (some ⟨t, 0, none⟩)) := h.box.cell 0
 have c3 : w.cell? ⟨b, 3, none⟩ = some (.int .i64 38) := h.box.cell 3
 have hlt := h.box.lt
 have HS := zH h
 have Hh := zH (jy X)
 have HK := zH (HierD.Q0 lo g hr d w X.hier hd)
 have HRf := zH (DescX.yK d w hd)
 have HN := zH (show Qd hr d d ss = if hr.known d = true ∧ Zr d = true then (if (thP ss).2 = true then ((thP ss).1 ++ [d], true) else ((thP ss).1, false)) else (ss, false) from rfl)
 have hle := zb0 (ss := ss)
 clear h X hsl
 generalize Qd hr d d ss = R at *
 generalize thP ss = r at *
 obtain ⟨s1, ok⟩ := r
 simp only at HT HN hle
 cases hkn : hr.known d
 · have HR := zH (show R = (ss, false) by rw [HN.out, hkn]; simp)
   rw [hkn] at HK
   rw [HR.out]
   clear HN hkn
   go_enter Tryz.func51, Tryz.ntmps51
   go_wp2_with fail
   refine Hh.out.mono ?_
   rintro e w' ⟨rfl, rfl⟩
   go_wp2_with fail
   refine HK.out.mono ?_
   rintro e w' ⟨rfl, rfl⟩
   go_wp2_with fail
   go_ret
   exact ⟨rfl, ⟨_, HS.out⟩, Below.refl _ _⟩
 · rw [hkn] at HK HN
   cases hrf : Zr d
   · have HR := zH (show R = (ss, false) by rw [HN.out, hrf]; simp)
     rw [hrf] at HRf
     rw [HR.out]
     clear HN hkn hrf
     go_enter Tryz.func51, Tryz.ntmps51
     go_wp2_with fail
     refine Hh.out.mono ?_
     rintro e w' ⟨rfl, rfl⟩
     go_wp2_with fail
     refine HK.out.mono ?_
     rintro e w' ⟨rfl, rfl⟩
     go_wp2_with fail
     refine HRf.out.mono ?_
     rintro e w' ⟨rfl, rfl⟩
     go_wp2_with fail
     go_ret
     exact ⟨rfl, ⟨_, HS.out⟩, Below.refl _ _⟩
   · rw [hrf] at HRf HN
     clear hkn hrf
     cases ok
     · have HR := zH (show R = (s1, false) by rw [HN.out]; simp)
       rw [HR.out]
       clear HN
       go_enter Tryz.func51, Tryz.ntmps51
       go_wp2_with fail
       refine Hh.out.mono ?_
       rintro e w' ⟨rfl, rfl⟩
       go_wp2_with fail
       refine HK.out.mono ?_
       rintro e w' ⟨rfl, rfl⟩
       go_wp2_with fail
       refine HRf.out.mono ?_
       rintro e w' ⟨rfl, rfl⟩
       go_wp2_with fail
       refine HT.out.mono ?_
       rintro e w1 ⟨rfl, hst, hb⟩
       have HS1 := zH hst
       have HB := zH hb
       clear hst hb
       go_wp2_with fail
       go_ret
       exact ⟨rfl, HS1.out, HB.out⟩
     · have HR := zH (show R = (s1 ++ [d], true) by rw [HN.out]; simp)
       rw [HR.out]
       clear HN
       go_enter Tryz.func51, Tryz.ntmps51
       go_wp2_with fail
       refine Hh.out.mono ?_
       rintro e w' ⟨rfl, rfl⟩
       go_wp2_with fail
       refine HK.out.mono ?_
       rintro e w' ⟨rfl, rfl⟩
       go_wp2_with fail
       refine HRf.out.mono ?_
       rintro e w' ⟨rfl, rfl⟩
       go_wp2_with fail
       refine HT.out.mono ?_
       rintro e w1 ⟨rfl, ⟨SV1, hst⟩, hb⟩
       have e3 : w1.cell? ⟨b, 3, none⟩ = some (.int .i64 38) := hst.box.cell 3
       have el := hst.box.lt
       have hal2 : Below w1.heap.size w1 (w1.alloc (.cells #[.string ⟨d.toArray⟩] 9)) := (Below.refl _ _).alloc (Nat.le_refl _) _
       have HL := zH (Zh (hst.ext hal2) (by omega) ⟨w1.heap.size, 0, none⟩ 1 [d] (by simp) (zB w1 #[sv d] 9))
       have HB3 := zH (hb.trans (hal2.mono hst.los))
       clear hst hb hal2 HT
       go_wp2_with fail
       refine HL.out.mono ?_
       rintro e w3 ⟨rfl, hst, hb⟩
       have HS3 := zH hst
       have HB4 := zH (HB3.out.trans hb)
       clear hst hb
       go_wp2_with fail
       go_ret
       exact ⟨rfl, HS3.out, HB4.out⟩
set_option maxRecDepth 100000 in
set_option maxHeartbeats 2000000 in
theorem zn0 {lo b : Nat} {w : World} {t g : Nat} {hr : Hr} {kc : Value} {gv : T} {a : Int} {LV SV : Value} {ls ss : List T} (X : Tb lo w t g hr) (h : St lo b w t kc gv 39 a LV ls SV ss) (hm : ss.length ≤ 1000) (hsl : ∀ x ∈ ss, x.length ≤ 140737488355328) (d : T) (hd : d.length ≤ 140737488355328) :
 Calls Tryz.prog 51 #[.pointer (some ⟨b, 0, none⟩), .string ⟨d.toArray⟩] w (zN lo b w t kc gv 39 a LV ls (Qd hr d tB ss).1 (.bool (Qd hr d tB ss).2)) := by
 have HT := zH (Qm h hm hsl)
 have c0 : w.cell? ⟨b, 0, none⟩ = some (.pointer (some ⟨t, 0, none⟩)) := h.box.cell 0
 have c3 : w.cell? ⟨b, 3, none⟩ = some (.int .i64 39) := h.box.cell 3
 have hlt := h.box.lt
 have HS := zH h
 have Hh := zH (jy X)
 have HK := zH (HierD.Q0 lo g hr d w X.hier hd)
 have HRf := zH (DescX.yK d w hd)
 have HN := zH (show Qd hr d tB ss = if hr.known d = true ∧ Zr d = true then (if (thP ss).2 = true then ((thP ss).1 ++ [tB], true) else ((thP ss).1, false)) else (ss, false) from rfl)
 have hle := zb0 (ss := ss)
 clear h X hsl
 generalize Qd hr d tB ss = R at *
 generalize thP ss = r at *
 obtain ⟨s1, ok⟩ := r
 simp only at HT HN hle
 cases hkn : hr.known d
 · have HR := zH (show R = (ss, false) by rw [HN.out, hkn]; simp)
   rw [hkn] at HK
   rw [HR.out]
   clear HN hkn
   go_enter Tryz.func51, Tryz.ntmps51
   go_wp2_with fail
   refine Hh.out.mono ?_
   rintro e w' ⟨rfl, rfl⟩
   go_wp2_with fail
   refine HK.out.mono ?_
   rintro e w' ⟨rfl, rfl⟩
   go_wp2_with fail
   go_ret
   exact ⟨rfl, ⟨_, HS.out⟩, Below.refl _ _⟩
 · rw [hkn] at HK HN
   cases hrf : Zr d
   · have HR := zH (show R = (ss, false) by rw [HN.out, hrf]; simp)
     rw [hrf] at HRf
     rw [HR.out]
     clear HN hkn hrf
     go_enter Tryz.func51, Tryz.ntmps51
     go_wp2_with fail
     refine Hh.out.mono ?_
     rintro e w' ⟨rfl, rfl⟩
     go_wp2_with fail
     refine HK.out.mono ?_
     rintro e w' ⟨rfl, rfl⟩
     go_wp2_with fail
     refine HRf.out.mono ?_
     rintro e w' ⟨rfl, rfl⟩
     go_wp2_with fail
     go_ret
     exact ⟨rfl, ⟨_, HS.out⟩, Below.refl _ _⟩
   · rw [hrf] at HRf HN
     clear hkn hrf
     cases ok
     · have HR := zH (show R = (s1, false) by rw [HN.out]; simp)
       rw [HR.out]
       clear HN
       go_enter Tryz.func51, Tryz.ntmps51
       go_wp2_with fail
       refine Hh.out.mono ?_
       rintro e w' ⟨rfl, rfl⟩
       go_wp2_with fail
       refine HK.out.mono ?_
       rintro e w' ⟨rfl, rfl⟩
       go_wp2_with fail
       refine HRf.out.mono ?_
       rintro e w' ⟨rfl, rfl⟩
       go_wp2_with fail
       refine HT.out.mono ?_
       rintro e w1 ⟨rfl, hst, hb⟩
       have HS1 := zH hst
       have HB := zH hb
       clear hst hb
       go_wp2_with fail
       go_ret
       exact ⟨rfl, HS1.out, HB.out⟩
     · have HR := zH (show R = (s1 ++ [tB], true) by rw [HN.out]; simp)
       rw [HR.out]
       clear HN
       go_enter Tryz.func51, Tryz.ntmps51
       go_wp2_with fail
       refine Hh.out.mono ?_
       rintro e w' ⟨rfl, rfl⟩
       go_wp2_with fail
       refine HK.out.mono ?_
       rintro e w' ⟨rfl, rfl⟩
       go_wp2_with fail
       refine HRf.out.mono ?_
       rintro e w' ⟨rfl, rfl⟩
       go_wp2_with fail
       refine HT.out.mono ?_
       rintro e w1 ⟨rfl, ⟨SV1, hst⟩, hb⟩
       have e3 : w1.cell? ⟨b, 3, none⟩ = some (.int .i64 39) := hst.box.cell 3
       have el := hst.box.lt
       have hal2 : Below w1.heap.size w1 (w1.alloc (.cells #[.string ⟨#[66]⟩] 9)) := (Below.refl _ _).alloc (Nat.le_refl _) _
       have HL := zH (Zh (hst.ext hal2) (by omega) ⟨w1.heap.size, 0, none⟩ 1 [tB] (by simp) (zB w1 #[sv tB] 9))
       have HB3 := zH (hb.trans (hal2.mono hst.los))
       clear hst hb hal2 HT
       go_wp2_with fail
       refine HL.out.mono ?_
       rintro e w3 ⟨rfl, hst, hb⟩
       have HS3 := zH hst
       have HB4 := zH (HB3.out.trans hb)
       clear hst hb
       go_wp2_with fail
       go_ret
       exact ⟨rfl, HS3.out, HB4.out⟩
end KndV
namespace KndD
open Go.RowKit Base BinM Stru DescM DescW DescX DescS DescG DescP DescQ HierS HierT HierM HierC HierD HierN HierV HierR HierU HierY Kls KlsP KlsQ OpenK TabC TabM TabK TabP TabE TabB TabG TabH TabT TabU TabV TabX TabW TabF TabN TabO TabY TabR TabQ TabL TabZ KndB KndM EfA KndS KndP KndQ KndU KndV KndZ
def NoA (op : Int) : Prop := op ≠ 1 ∧ op ≠ 2 ∧ op ≠ 6 ∧ op ≠ 7 ∧ op ≠ 22 ∧ op ≠ 23 ∧ op ≠ 24 ∧ op ≠ 25 ∧ op ≠ 26 ∧ op ≠ 27 ∧ op ≠ 28 ∧ op ≠ 32 ∧ op ≠ 38 ∧ op ≠ 39
set_option maxRecDepth 100000 in
set_option maxHeartbeats 4000000 in
theorem XI {lo b : Nat} {w : World} {t : Nat} {kc : Value} {gv : T} {op : Int} {LV SV : Value} {ls ss : List T} (h : St lo b w t kc gv op 0 LV ls SV ss) (hop : NoA op) {R : List T × Bool}
 (HP : Calls Tryz.prog 54 #[.pointer (some ⟨b, 0, none⟩)] w (zN lo b w t kc gv op 0 LV ls R.1 (.bool R.2))) :
 Calls Tryz.prog 25 #[.pointer (some ⟨b, 0, none⟩)] w (QM lo b w t kc gv op 0 ls R.1 (.bool R.2)) := by
 obtain ⟨n1, n2, n3, n4, n5, n6, n7, n8, n9, n10, n11, n12, n13, n14⟩ := hop
 have HH := zH HP
 have c3 : w.cell? ⟨b, 3, none⟩ = some (.int .i64 op) := h.box.cell 3
 have c4 : w.cell? ⟨b, 4, none⟩ = some (.int .i64 0) := h.box.cell 4
 have hlt := h.box.lt
 clear h HP
 obtain ⟨r1, r2⟩ := R
 simp only at HH
 go_enter Tryz.func25, Tryz.ntmps25
 go_wp2_with fail
 refine HH.out.mono ?_
 rintro e w1 ⟨rfl, hst, hb⟩
 have HS := zH hst
 have HB := zH hb
 clear hst hb
 go_wp2_with fail
 go_ret
 obtain ⟨SV', hs⟩ := HS.out
 exact ⟨rfl, ⟨_, _, hs⟩, HB.out⟩
set_option maxRecDepth 100000 in
set_option maxHeartbeats 4000000 in
theorem GQ {lo b : Nat} {w : World} {t : Nat} {kc : Value} {gv : T} {op a : Int} {LV SV : Value} {ls ss : List T} (h : St lo b w t kc gv op a LV ls SV ss) (hop : NoA op) (ha : a ≠ 0) :
 Calls Tryz.prog 25 #[.pointer (some ⟨b, 0, none⟩)] w (QM lo b w t kc gv op a ls ss (.bool false)) := by
 obtain ⟨n1, n2, n3, n4, n5, n6, n7, n8, n9, n10, n11, n12, n13, n14⟩ := hop
 have HS := zH h
 have c3 : w.cell? ⟨b, 3, none⟩ = some (.int .i64 op) := h.box.cell 3
 have c4 : w.cell? ⟨b, 4, none⟩ = some (.int .i64 a) := h.box.cell 4
 have hlt := h.box.lt
 clear h
 go_enter Tryz.func25, Tryz.ntmps25
 go_wp2_with fail
 go_ret
 exact ⟨rfl, ⟨_, _, HS.out⟩, Below.refl _ _⟩
set_option maxRecDepth 100000 in
set_option maxHeartbeats 4000000 in
theorem xg {lo b : Nat} {w : World} {t : Nat} {kc : Value} {gv : T} {op a : Int} {LV SV : Value} {ls ss : List T} (h : St lo b w t kc gv op a LV ls SV ss) (hop : op = 6 ∨ op = 7) {R : List T × List T × Bool}
 (HP : Calls Tryz.prog 47 #[.pointer (some ⟨b, 0, none⟩)] w (QM lo b w t kc gv op a R.1 R.2.1 (.bool R.2.2))) :
 Calls Tryz.prog 25 #[.pointer (some ⟨b, 0, none⟩)] w (QM lo b w t kc gv op a R.1 R.2.1 (.bool R.2.2)) := by
 have HH := zH HP
 have c3 : w.cell? ⟨b, 3, none⟩ = some (.int .i64 op) := h.box.cell 3
 have hlt := h.box.lt
 clear h HP
 obtain ⟨r1, r2, r3⟩ := R
 simp only at HH
 rcases hop with rfl | rfl <;>
  (go_enter Tryz.func25, Tryz.ntmps25
   go_wp2_with fail
   refine HH.out.mono ?_
   rintro e w1 ⟨rfl, hst, hb⟩
   have HS := zH hst
   have HB := zH hb
   clear hst hb
   go_wp2_with fail
   go_ret
   exact ⟨rfl, HS.out, HB.out⟩)
set_option maxRecDepth 100000 in
theorem Ze3 {lo b : Nat} {w : World} {t : Nat} {kc : Value} {gv : T} {a : Int} {LV SV : Value} {ls ss : List T} (h : St lo b w t kc gv 22 a LV ls SV ss) :
 Calls Tryz.prog 25 #[.pointer (some ⟨b, 0, none⟩)] w (QM lo b w t kc gv 22 a ls ss (.bool true)) := by
 have HS := zH h
 have c3 : w.cell? ⟨b, 3, none⟩ = some (.int .i64 22) := h.box.cell 3
 have hlt := h.box.lt
 clear h
 go_enter Tryz.func25, Tryz.ntmps25
 go_wp2_with fail
 go_ret
 exact ⟨rfl, ⟨_, _, HS.out⟩, Below.refl _ _⟩
set_option maxRecDepth 100000 in
set_option maxHeartbeats 4000000 in
theorem Zh7 {lo b : Nat} {w : World} {t g : Nat} {hr : Hr} {kc : Value} {gv : T} {op a : Int} {LV SV : Value} {ls ss : List T} (hop : op = 23 ∨ op = 24) (X : Tb lo w t g hr) (h : St lo b w t kc gv op a LV ls SV ss) (hm : ss.length ≤ 1000) (hsl : ∀ x ∈ ss, x.length ≤ 140737488355328) :
 Calls Tryz.prog 25 #[.pointer (some ⟨b, 0, none⟩)] w (QM lo b w t kc gv op a ls (zx hr ss [tB]).1 (.bool (zx hr ss [tB]).2)) := by
 have hal : Below w.heap.size w (w.alloc (.cells #[.string ⟨#[66]⟩] 9)) := (Below.refl _ _).alloc (Nat.le_refl _) _
 have HT := zH (qx (X.below (hal.mono h.los)) (h.ext hal) hm (some ⟨w.heap.size, 0, none⟩) 1 [tB] (by simp) (zB w #[sv tB] 9) hsl (by simp [tB]))
 have HB0 := zH (hal.mono h.los)
 have c3 : w.cell? ⟨b, 3, none⟩ = some (.int .i64 op) := h.box.cell 3
 have hlt := h.box.lt
 clear h X hal hsl
 generalize zx hr ss [tB] = r at *
 obtain ⟨s1, ok⟩ := r
 simp only at HT
 rcases hop with rfl | rfl <;>
  (go_enter Tryz.func25, Tryz.ntmps25
   go_wp2_with fail
   refine HT.out.mono ?_
   rintro e w1 ⟨rfl, hst, hb⟩
   have HS := zH hst
   have HB := zH (HB0.out.trans hb)
   clear hst hb
   go_wp2_with fail
   go_ret
   obtain ⟨SV', hs⟩ := HS.out
   exact ⟨rfl, ⟨_, _, hs⟩, HB.out⟩)
def Ut (op k : Int) : Prop := (op = 1 ∧ k = 1) ∨ (op = 2 ∧ k = 2) ∨ (op = 25 ∧ k = 3) ∨ (op = 28 ∧ k = 3) ∨ (op = 38 ∧ k = 3) ∨ (op = 39 ∧ k = 3) ∨ (op = 26 ∧ k = 4) ∨ (op = 27 ∧ k = 4) ∨ (op = 32 ∧ k = 5)
set_option maxRecDepth 100000 in
set_option maxHeartbeats 4000000 in
theorem Ze2 {lo b : Nat} {w : World} {t : Nat} {kA : Option Addr} {km kcap : Nat} {gv : T} {op a k : Int} {LV SV : Value} {ls ss : List T} (h : St lo b w t (.slice kA km kcap) gv op a LV ls SV ss) (hop : Ut op k) (ks : List Cst) (hk : Zq w kA km kcap ks) (hn : (Zj ks a k).2 = false) :
 Calls Tryz.prog 25 #[.pointer (some ⟨b, 0, none⟩)] w (QM lo b w t (.slice kA km kcap) gv op a ls ss (.bool false)) := by
 have HC := zH (Qz h ks hk k)
 rw [hn] at HC
 have HS := zH h
 have c3 : w.cell? ⟨b, 3, none⟩ = some (.int .i64 op) := h.box.cell 3
 have hlt := h.box.lt
 clear h hk hn
 generalize (Zj ks a k).1 = c at *
 unfold jf at HC
 rcases hop with ⟨rfl, rfl⟩ | ⟨rfl, rfl⟩ | ⟨rfl, rfl⟩ | ⟨rfl, rfl⟩ | ⟨rfl, rfl⟩ | ⟨rfl, rfl⟩ | ⟨rfl, rfl⟩ | ⟨rfl, rfl⟩ | ⟨rfl, rfl⟩ <;>
  (go_enter Tryz.func25, Tryz.ntmps25
   go_wp2_with fail
   refine HC.out.mono ?_
   rintro e w1 ⟨rfl, hb⟩
   have HB := zH (hb.trans ((Below.refl w1.heap.size w1).alloc (Nat.le_refl _) (.cells #[.int .i64 c.kind, .int .i64 c.n, .string ⟨c.s.toArray⟩, .string ⟨c.t.toArray⟩, .string ⟨c.u.toArray⟩] 75) |>.mono hb.size))
   clear hb
   go_wp2_with fail
   go_ret
   exact ⟨rfl, ⟨_, _, HS.out.ext HB.out⟩, HB.out.mono HS.out.los⟩)
set_option maxRecDepth 100000 in
set_option maxHeartbeats 4000000 in
theorem KV {lo b : Nat} {w : World} {t : Nat} {kA : Option Addr} {km kcap : Nat} {gv : T} {op a k : Int} {r : UInt8} {LV SV : Value} {ls ss : List T} (h : St lo b w t (.slice kA km kcap) gv op a LV ls SV ss) (hm : ss.length ≤ 1000) (hop : (op = 1 ∧ k = 1 ∧ r = 73) ∨ (op = 2 ∧ k = 2 ∧ r = 83)) (ks : List Cst) (hk : Zq w kA km kcap ks) (hn : (Zj ks a k).2 = true) :
 Calls Tryz.prog 25 #[.pointer (some ⟨b, 0, none⟩)] w (QM lo b w t (.slice kA km kcap) gv op a ls (ss ++ [[r]]) (.bool true)) := by
 have HC := zH (Qz h ks hk k)
 rw [hn] at HC
 have HS := zH h
 have c3 : w.cell? ⟨b, 3, none⟩ = some (.int .i64 op) := h.box.cell 3
 have hlt := h.box.lt
 clear h hk hn
 generalize (Zj ks a k).1 = c at *
 unfold jf at HC
 rcases hop with ⟨rfl, rfl, rfl⟩ | ⟨rfl, rfl, rfl⟩ <;>
  (go_enter Tryz.func25, Tryz.ntmps25
   go_wp2_with fail
   refine HC.out.mono ?_
   rintro e w1 ⟨rfl, hb⟩
   have HB := zH (hb.trans ((Below.refl w1.heap.size w1).alloc (Nat.le_refl _) (.cells #[.int .i64 c.kind, .int .i64 c.n, .string ⟨c.s.toArray⟩, .string ⟨c.t.toArray⟩, .string ⟨c.u.toArray⟩] 75) |>.mono hb.size))
   clear hb
   obtain ⟨W, hW⟩ : ∃ W, w1.alloc (.cells #[.int .i64 c.kind, .int .i64 c.n, .string ⟨c.s.toArray⟩, .string ⟨c.t.toArray⟩, .string ⟨c.u.toArray⟩] 75) = W := ⟨_, rfl⟩
   rw [hW] at HB
   have HL := zH (fun (x : UInt8) => Zh ((HS.out.ext HB.out).ext ((Below.refl W.heap.size W).alloc (Nat.le_refl _) (.cells #[.string ⟨#[x]⟩] 9))) hm ⟨W.heap.size, 0, none⟩ 1 [[x]] (by simp) (zB W #[sv [x]] 9))
   have HAL := zH (fun (x : UInt8) => (HB.out.mono HS.out.los).trans (((Below.refl W.heap.size W).alloc (Nat.le_refl _) (.cells #[.string ⟨#[x]⟩] 9)).mono (Nat.le_trans HS.out.los HB.out.size)))
   go_wp2_with fail
   refine (HL.out _).mono ?_
   rintro e w3 ⟨rfl, hst, hb⟩
   have HS3 := zH hst
   have HB3 := zH ((HAL.out _).trans hb)
   clear hst hb HL HAL hW
   go_wp2_with fail
   go_ret
   obtain ⟨SV', hs⟩ := HS3.out
   exact ⟨rfl, ⟨_, _, hs⟩, HB3.out⟩)
set_option maxRecDepth 100000 in
set_option maxHeartbeats 4000000 in
theorem YZ {lo b : Nat} {w : World} {t : Nat} {kA : Option Addr} {km kcap : Nat} {gv : T} {op a : Int} {LV SV : Value} {ls ss : List T} (h : St lo b w t (.slice kA km kcap) gv op a LV ls SV ss) (hop : op = 25 ∨ op = 28 ∨ op = 38 ∨ op = 39) (ks : List Cst) (hk : Zq w kA km kcap ks) (hn : (Zj ks a 3).2 = true) {R : List T × Bool}
 (HP : ∀ W, Below w.heap.size w W → Calls Tryz.prog 51 #[.pointer (some ⟨b, 0, none⟩), .string ⟨(Zj ks a 3).1.s.toArray⟩] W (zN lo b W t (.slice kA km kcap) gv op a LV ls R.1 (.bool R.2))) :
 Calls Tryz.prog 25 #[.pointer (some ⟨b, 0, none⟩)] w (QM lo b w t (.slice kA km kcap) gv op a ls R.1 (.bool R.2)) := by
 have HC := zH (Qz h ks hk 3)
 rw [hn] at HC
 have HLo := zH h.los
 have HH := zH HP
 have c3 : w.cell? ⟨b, 3, none⟩ = some (.int .i64 op) := h.box.cell 3
 have hlt := h.box.lt
 clear h hk hn HP
 generalize (Zj ks a 3).1 = c at *
 unfold jf at HC
 obtain ⟨r1, r2⟩ := R
 simp only at HH
 rcases hop with rfl | rfl | rfl | rfl <;>
  (go_enter Tryz.func25, Tryz.ntmps25
   go_wp2_with fail
   refine HC.out.mono ?_
   rintro e w1 ⟨rfl, hb⟩
   have HB := zH (hb.trans ((Below.refl w1.heap.size w1).alloc (Nat.le_refl _) (.cells #[.int .i64 c.kind, .int .i64 c.n, .string ⟨c.s.toArray⟩, .string ⟨c.t.toArray⟩, .string ⟨c.u.toArray⟩] 75) |>.mono hb.size))
   clear hb
   go_wp2_with fail
   refine (HH.out _ HB.out).mono ?_
   rintro e w3 ⟨rfl, hst, hb⟩
   have HS3 := zH hst
   have HB3 := zH ((HB.out.mono HLo.out).trans hb)
   clear hst hb
   go_wp2_with fail
   go_ret
   obtain ⟨SV', hs⟩ := HS3.out
   exact ⟨rfl, ⟨_, _, hs⟩, HB3.out⟩)
set_option maxRecDepth 100000 in
set_option maxHeartbeats 4000000 in
theorem KW {lo b : Nat} {w : World} {t : Nat} {kA : Option Addr} {km kcap : Nat} {gv : T} {op a : Int} {LV SV : Value} {ls ss : List T} (h : St lo b w t (.slice kA km kcap) gv op a LV ls SV ss) (hop : op = 26 ∨ op = 27) (ks : List Cst) (hk : Zq w kA km kcap ks) (hn : (Zj ks a 4).2 = true) {R : List T × Bool}
 (HP : ∀ W, Below w.heap.size w W → Calls Tryz.prog 52 #[.pointer (some ⟨b, 0, none⟩), jf (Zj ks a 4).1] W (zN lo b W t (.slice kA km kcap) gv op a LV ls R.1 (.bool R.2))) :
 Calls Tryz.prog 25 #[.pointer (some ⟨b, 0, none⟩)] w (QM lo b w t (.slice kA km kcap) gv op a ls R.1 (.bool R.2)) := by
 have HC := zH (Qz h ks hk 4)
 rw [hn] at HC
 have HLo := zH h.los
 have HH := zH HP
 have c3 : w.cell? ⟨b, 3, none⟩ = some (.int .i64 op) := h.box.cell 3
 have hlt := h.box.lt
 clear h hk hn HP
 generalize (Zj ks a 4).1 = c at *
 unfold jf at HC HH
 obtain ⟨r1, r2⟩ := R
 simp only at HH
 rcases hop with rfl | rfl <;>
  (go_enter Tryz.func25, Tryz.ntmps25
   go_wp2_with fail
   refine HC.out.mono ?_
   rintro e w1 ⟨rfl, hb⟩
   have HB := zH (hb.trans ((Below.refl w1.heap.size w1).alloc (Nat.le_refl _) (.cells #[.int .i64 c.kind, .int .i64 c.n, .string ⟨c.s.toArray⟩, .string ⟨c.t.toArray⟩, .string ⟨c.u.toArray⟩] 75) |>.mono hb.size))
   clear hb
   go_wp2_with fail
   refine (HH.out _ HB.out).mono ?_
   rintro e w3 ⟨rfl, hst, hb⟩
   have HS3 := zH hst
   have HB3 := zH ((HB.out.mono HLo.out).trans hb)
   clear hst hb
   go_wp2_with fail
   go_ret
   obtain ⟨SV', hs⟩ := HS3.out
   exact ⟨rfl, ⟨_, _, hs⟩, HB3.out⟩)
set_option maxRecDepth 100000 in
set_option maxHeartbeats 4000000 in
theorem Ze4 {lo b : Nat} {w : World} {t : Nat} {kA : Option Addr} {km kcap : Nat} {gv : T} {a : Int} {LV SV : Value} {ls ss : List T} (h : St lo b w t (.slice kA km kcap) gv 32 a LV ls SV ss) (ks : List Cst) (hk : Zq w kA km kcap ks) (hn : (Zj ks a 5).2 = true) {R : List T × Bool}
 (HP : ∀ W, Below w.heap.size w W → Calls Tryz.prog 53 #[.pointer (some ⟨b, 0, none⟩), jf (Zj ks a 5).1] W (zN lo b W t (.slice kA km kcap) gv 32 a LV ls R.1 (.bool R.2))) :
 Calls Tryz.prog 25 #[.pointer (some ⟨b, 0, none⟩)] w (QM lo b w t (.slice kA km kcap) gv 32 a ls R.1 (.bool R.2)) := by
 have HC := zH (Qz h ks hk 5)
 rw [hn] at HC
 have HLo := zH h.los
 have HH := zH HP
 have c3 : w.cell? ⟨b, 3, none⟩ = some (.int .i64 32) := h.box.cell 3
 have hlt := h.box.lt
 clear h hk hn HP
 generalize (Zj ks a 5).1 = c at *
 unfold jf at HC HH
 obtain ⟨r1, r2⟩ := R
 simp only at HH
 go_enter Tryz.func25, Tryz.ntmps25
 go_wp2_with fail
 refine HC.out.mono ?_
 rintro e w1 ⟨rfl, hb⟩
 have HB := zH (hb.trans ((Below.refl w1.heap.size w1).alloc (Nat.le_refl _) (.cells #[.int .i64 c.kind, .int .i64 c.n, .string ⟨c.s.toArray⟩, .string ⟨c.t.toArray⟩, .string ⟨c.u.toArray⟩] 75) |>.mono hb.size))
 clear hb
 go_wp2_with fail
 refine (HH.out _ HB.out).mono ?_
 rintro e w3 ⟨rfl, hst, hb⟩
 have HS3 := zH hst
 have HB3 := zH ((HB.out.mono HLo.out).trans hb)
 clear hst hb
 go_wp2_with fail
 go_ret
 obtain ⟨SV', hs⟩ := HS3.out
 exact ⟨rfl, ⟨_, _, hs⟩, HB3.out⟩
set_option maxRecDepth 100000 in
set_option maxHeartbeats 4000000 in
theorem kY {lo b : Nat} {w : World} {t : Nat} {kc : Value} {gv : T} {op a : Int} {LV SV : Value} {ls ss : List T} (h : St lo b w t kc gv op a LV ls SV ss) (hop : ∀ k : Int, 0 ≤ k → k ≤ 44 → op ≠ k) :
 Calls Tryz.prog 54 #[.pointer (some ⟨b, 0, none⟩)] w (zN lo b w t kc gv op a LV ls ss (.bool false)) := by
 have n0 : op ≠ 0 := hop 0 (by omega) (by omega)
 have n5 : op ≠ 5 := hop 5 (by omega) (by omega)
 have n8 : op ≠ 8 := hop 8 (by omega) (by omega)
 have n9 : op ≠ 9 := hop 9 (by omega) (by omega)
 have n21 : op ≠ 21 := hop 21 (by omega) (by omega)
 have n29 : op ≠ 29 := hop 29 (by omega) (by omega)
 have n30 : op ≠ 30 := hop 30 (by omega) (by omega)
 have n31 : op ≠ 31 := hop 31 (by omega) (by omega)
 have n33 : op ≠ 33 := hop 33 (by omega) (by omega)
 have n34 : op ≠ 34 := hop 34 (by omega) (by omega)
 have n35 : op ≠ 35 := hop 35 (by omega) (by omega)
 have n36 : op ≠ 36 := hop 36 (by omega) (by omega)
 have n37 : op ≠ 37 := hop 37 (by omega) (by omega)
 have n40 : op ≠ 40 := hop 40 (by omega) (by omega)
 have n41 : op ≠ 41 := hop 41 (by omega) (by omega)
 have n42 : op ≠ 42 := hop 42 (by omega) (by omega)
 have n43 : op ≠ 43 := hop 43 (by omega) (by omega)
 have n44 : op ≠ 44 := hop 44 (by omega) (by omega)
 have n3 : op ≠ 3 := hop 3 (by omega) (by omega)
 have n4 : op ≠ 4 := hop 4 (by omega) (by omega)
 have n10 : op ≠ 10 := hop 10 (by omega) (by omega)
 have n11 : op ≠ 11 := hop 11 (by omega) (by omega)
 have n12 : op ≠ 12 := hop 12 (by omega) (by omega)
 have n13 : op ≠ 13 := hop 13 (by omega) (by omega)
 have n14 : op ≠ 14 := hop 14 (by omega) (by omega)
 have n15 : op ≠ 15 := hop 15 (by omega) (by omega)
 have n16 : op ≠ 16 := hop 16 (by omega) (by omega)
 have n17 : op ≠ 17 := hop 17 (by omega) (by omega)
 have n18 : op ≠ 18 := hop 18 (by omega) (by omega)
 have n19 : op ≠ 19 := hop 19 (by omega) (by omega)
 have n20 : op ≠ 20 := hop 20 (by omega) (by omega)
 have he : Uc op = none := by unfold Uc; simp [n3, n4, n10, n11, n12, n13, n14, n15, n16, n17, n18, n19, n20]
 have HS := zH h
 have c3 : w.cell? ⟨b, 3, none⟩ = some (.int .i64 op) := h.box.cell 3
 have hlt := h.box.lt
 clear h hop
 go_enter Tryz.func54, Tryz.ntmps54
 go_wp2_with fail
 refine (EfA.Zu he _).mono ?_
 rintro e w0 ⟨rfl, rfl⟩
 go_wp2_with fail
 go_ret
 exact ⟨rfl, ⟨_, HS.out⟩, Below.refl _ _⟩
end KndD
end Go.Proofs.YtehainbhoflpnaaGreatDoor
