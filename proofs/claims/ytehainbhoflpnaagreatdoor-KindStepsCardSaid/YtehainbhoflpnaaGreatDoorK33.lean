/- pieces -/
import Derived.Test.YtehainbhoflpnaaGreatDoorK32
namespace Go.Proofs.YtehainbhoflpnaaGreatDoor
namespace KndQ
open Go.RowKit Base BinM Stru DescM DescW DescX DescS DescG DescP DescQ HierS HierT HierM HierC HierD HierN HierV HierR HierU HierY Kls KlsP KlsQ OpenK TabC TabM TabK TabP TabE TabB TabG TabH TabT TabU TabV TabX TabW TabF TabN TabO TabY TabR TabQ TabL TabZ KndB KndM EfA KndS KndP
def tB : T := [66]
def tE : T := [76, 69, 120, 99, 59]
set_option maxRecDepth 100000 in
theorem Vr {lo b : Nat} {w : World} {t : Nat} {kc : Value} {gv : T} {a : Int} {LV SV : Value} {ls ss : List T} (h : St lo b w t kc gv 0 a LV ls SV ss) :
 Calls Tryz.prog 54 #[.pointer (some ⟨b, 0, none⟩)] w (zN lo b w t kc gv 0 a LV ls ss (.bool true)) := by
 have HS := zH h
 have c3 : w.cell? ⟨b, 3, none⟩ = some (.int .i64 0) := h.box.cell 3
 have hlt := h.box.lt
 clear h
 go_enter Tryz.func54, Tryz.ntmps54
 go_wp2_with fail
 refine (EfA.Zu (op := 0) (by decide) _).mono ?_
 rintro e w0 ⟨rfl, rfl⟩
 go_wp2_with fail
 go_ret
 exact ⟨rfl, ⟨_, HS.out⟩, Below.refl _ _⟩
set_option maxRecDepth 100000 in
theorem Vp {lo b : Nat} {w : World} {t : Nat} {kc : Value} {gv : T} {a : Int} {LV SV : Value} {ls ss : List T} (h : St lo b w t kc gv 8 a LV ls SV ss) (hm : ss.length ≤ 1000) :
 Calls Tryz.prog 54 #[.pointer (some ⟨b, 0, none⟩)] w (zN lo b w t kc gv 8 a LV ls (zi ss).2.1 (.bool (zi ss).2.2)) := by
 have HP := zH (qO h hm)
 have c3 : w.cell? ⟨b, 3, none⟩ = some (.int .i64 8) := h.box.cell 3
 have hlt := h.box.lt
 clear h
 generalize zi ss = r at *
 obtain ⟨d, s2, ok⟩ := r
 simp only at HP ⊢
 go_enter Tryz.func54, Tryz.ntmps54
 go_wp2_with fail
 refine (EfA.Zu (op := 8) (by decide) _).mono ?_
 rintro e w0 ⟨rfl, rfl⟩
 go_wp2_with fail
 refine HP.out.mono ?_
 rintro e w1 ⟨rfl, hst, hb⟩
 have HS := zH hst
 have HB := zH hb
 clear hst hb
 go_wp2_with fail
 go_ret
 exact ⟨rfl, HS.out, HB.out⟩
def GN (ss : List T) : List T × Bool := if (zi ss).2.2 = true then ((zi ss).2.1 ++ [(zi ss).1, (zi ss).1], true) else ((zi ss).2.1, false)
set_option maxRecDepth 100000 in
set_option maxHeartbeats 1000000 in
theorem Vo {lo b : Nat} {w : World} {t : Nat} {kc : Value} {gv : T} {a : Int} {LV SV : Value} {ls ss : List T} (h : St lo b w t kc gv 9 a LV ls SV ss) (hm : ss.length ≤ 1000) :
 Calls Tryz.prog 54 #[.pointer (some ⟨b, 0, none⟩)] w (zN lo b w t kc gv 9 a LV ls (GN ss).1 (.bool (GN ss).2)) := by
 have HP := zH (qO h hm)
 have c3 : w.cell? ⟨b, 3, none⟩ = some (.int .i64 9) := h.box.cell 3
 have hlt := h.box.lt
 have hpl := Qv (ss := ss)
 have hD : GN ss = if (zi ss).2.2 = true then ((zi ss).2.1 ++ [(zi ss).1, (zi ss).1], true) else ((zi ss).2.1, false) := rfl
 have HD := zH hD
 clear h hD
 generalize GN ss = R at *
 generalize zi ss = r at *
 obtain ⟨d, s2, ok⟩ := r
 simp only at HP HD hpl
 cases ok
 · have HR := zH (show R = (s2, false) from HD.out)
   go_enter Tryz.func54, Tryz.ntmps54
   go_wp2_with fail
   refine (EfA.Zu (op := 9) (by decide) _).mono ?_
   rintro e w0 ⟨rfl, rfl⟩
   go_wp2_with fail
   refine HP.out.mono ?_
   rintro e w1 ⟨rfl, hst, hb⟩
   have HS := zH hst
   have HB := zH hb
   clear hst hb
   go_wp2_with fail
   go_ret
   rw [HR.out]
   exact ⟨rfl, HS.out, HB.out⟩
 · have HR := zH (show R = (s2 ++ [d, d], true) from HD.out)
   go_enter Tryz.func54, Tryz.ntmps54
   go_wp2_with fail
   refine (EfA.Zu (op := 9) (by decide) _).mono ?_
   rintro e w0 ⟨rfl, rfl⟩
   go_wp2_with fail
   refine HP.out.mono ?_
   rintro e w1 ⟨rfl, ⟨SV1, hst⟩, hb⟩
   have hal2 : Below w1.heap.size w1 (w1.alloc (.cells #[.string ⟨d.toArray⟩, .string ⟨d.toArray⟩] 9)) := (Below.refl _ _).alloc (Nat.le_refl _) _
   have HL := zH (Zh (hst.ext hal2) (by omega) ⟨w1.heap.size, 0, none⟩ 2 [d, d] (by simp) (zB w1 #[sv d, sv d] 9))
   have HB3 := zH (hb.trans (hal2.mono hst.los))
   clear hst hb hal2
   go_wp2_with fail
   refine HL.out.mono ?_
   rintro e w3 ⟨rfl, hst, hb⟩
   have HS3 := zH hst
   have HB4 := zH (HB3.out.trans hb)
   clear hst hb
   go_wp2_with fail
   go_ret
   rw [HR.out]
   exact ⟨rfl, HS3.out, HB4.out⟩
def zk4 (ss : List T) : List T × Bool := if (thP ss).2 = true then (if (thP (thP ss).1).2 = true then ((thP (thP ss).1).1 ++ [tB], true) else ((thP (thP ss).1).1, false)) else ((thP ss).1, false)
theorem Zn7 {ss : List T} : ∀ x ∈ (thP ss).1, x ∈ ss := Gf
theorem zb0 {ss : List T} : (thP ss).1.length ≤ ss.length := Qv
set_option maxRecDepth 100000 in
set_option maxHeartbeats 1000000 in
theorem uK {lo b : Nat} {w : World} {t : Nat} {kc : Value} {gv : T} {a : Int} {LV SV : Value} {ls ss : List T} (h : St lo b w t kc gv 21 a LV ls SV ss) (hm : ss.length ≤ 1000) (hsl : ∀ x ∈ ss, x.length ≤ 140737488355328) :
 Calls Tryz.prog 54 #[.pointer (some ⟨b, 0, none⟩)] w (zN lo b w t kc gv 21 a LV ls (zk4 ss).1 (.bool (zk4 ss).2)) := by
 have HP := zH (Qm h hm hsl)
 have c3 : w.cell? ⟨b, 3, none⟩ = some (.int .i64 21) := h.box.cell 3
 have hlt := h.box.lt
 have hpl := zb0 (ss := ss)
 have HQ := zH (fun (w1 : World) (SV1 : Value) (h1 : St lo b w1 t kc gv 21 a LV ls SV1 (thP ss).1) => Qm h1 (by omega) (fun x hx => hsl x (Zn7 x hx)))
 have hpl2 := zb0 (ss := (thP ss).1)
 have hD : zk4 ss = if (thP ss).2 = true then (if (thP (thP ss).1).2 = true then ((thP (thP ss).1).1 ++ [tB], true) else ((thP (thP ss).1).1, false)) else ((thP ss).1, false) := rfl
 have HD := zH hD
 clear h hD hsl
 generalize zk4 ss = R at *
 generalize thP ss = r at *
 obtain ⟨s1, ok⟩ := r
 simp only at HP HQ HD hpl hpl2
 generalize thP s1 = r2 at *
 obtain ⟨s2, ok2⟩ := r2
 simp only at HQ HD hpl2
 cases ok
 · have HR := zH (show R = (s1, false) from HD.out)
   go_enter Tryz.func54, Tryz.ntmps54
   go_wp2_with fail
   refine (EfA.Zu (op := 21) (by decide) _).mono ?_
   rintro e w0 ⟨rfl, rfl⟩
   go_wp2_with fail
   refine HP.out.mono ?_
   rintro e w1 ⟨rfl, hst, hb⟩
   have HS := zH hst
   have HB := zH hb
   clear hst hb
   go_wp2_with fail
   go_ret
   rw [HR.out]
   exact ⟨rfl, HS.out, HB.out⟩
 · go_enter Tryz.func54, Tryz.ntmps54
   go_wp2_with fail
   refine (EfA.Zu (op := 21) (by decide) _).mono ?_
   rintro e w0 ⟨rfl, rfl⟩
   go_wp2_with fail
   refine HP.out.mono ?_
   rintro e w1 ⟨rfl, ⟨SV1, hst⟩, hb⟩
   have HB := zH hb
   have HT := zH (HQ.out _ _ hst)
   clear hst hb
   cases ok2
   · have HR := zH (show R = (s2, false) from HD.out)
     go_wp2_with fail
     refine HT.out.mono ?_
     rintro e w2 ⟨rfl, hst, hb⟩
     have HS := zH hst
     have HB2 := zH (HB.out.trans hb)
     clear hst hb
     go_wp2_with fail
     go_ret
     rw [HR.out]
     exact ⟨rfl, HS.out, HB2.out⟩
   · have HR := zH (show R = (s2 ++ [tB], true) from HD.out)
     go_wp2_with fail
     refine HT.out.mono ?_
     rintro e w2 ⟨rfl, ⟨SV2, hst⟩, hb⟩
     have hal2 : Below w2.heap.size w2 (w2.alloc (.cells #[.string ⟨#[66]⟩] 9)) := (Below.refl _ _).alloc (Nat.le_refl _) _
     have HL := zH (Zh (hst.ext hal2) (by omega) ⟨w2.heap.size, 0, none⟩ 1 [tB] (by simp) (zB w2 #[sv tB] 9))
     have HB3 := zH ((HB.out.trans hb).trans (hal2.mono hst.los))
     clear hst hb hal2
     go_wp2_with fail
     refine HL.out.mono ?_
     rintro e w3 ⟨rfl, hst, hb⟩
     have HS3 := zH hst
     have HB4 := zH (HB3.out.trans hb)
     clear hst hb
     go_wp2_with fail
     go_ret
     rw [HR.out]
     exact ⟨rfl, HS3.out, HB4.out⟩
def prB (d : T) : Bool := d == [73] || d == [66] || d == [83]
set_option maxRecDepth 100000 in
set_option maxHeartbeats 1000000 in
theorem uz {lo b : Nat} {w : World} {t : Nat} {kc : Value} {gv : T} {a : Int} {LV SV : Value} {ls ss : List T} (h : St lo b w t kc gv 40 a LV ls SV ss) (hm : ss.length ≤ 1000) :
 Calls Tryz.prog 54 #[.pointer (some ⟨b, 0, none⟩)] w (zN lo b w t kc gv 40 a LV ls (zi ss).2.1 (.bool (prB (zi ss).1))) := by
 have HP := zH (qO h hm)
 have c3 : w.cell? ⟨b, 3, none⟩ = some (.int .i64 40) := h.box.cell 3
 have hlt := h.box.lt
 clear h
 generalize zi ss = r at *
 obtain ⟨d, s2, ok⟩ := r
 simp only at HP ⊢
 have HV : Hid (prB d = (d == [73] || d == [66] || d == [83])) := zH rfl
 generalize prB d = R at *
 cases e1 : d == [73]
 · cases e2 : d == [66]
   · cases e3 : d == [83]
     all_goals
      rw [e1, e2, e3] at HV
      go_enter Tryz.func54, Tryz.ntmps54
      go_wp2_with fail
      refine (EfA.Zu (op := 40) (by decide) _).mono ?_
      rintro e w0 ⟨rfl, rfl⟩
      go_wp2_with fail
      refine HP.out.mono ?_
      rintro e w1 ⟨rfl, hst, hb⟩
      have HS := zH hst
      have HB := zH hb
      clear hst hb
      go_wp2_with fail
      go_ret
      rw [HV.out]
      exact ⟨rfl, HS.out, HB.out⟩
   · rw [e1, e2] at HV
     go_enter Tryz.func54, Tryz.ntmps54
     go_wp2_with fail
     refine (EfA.Zu (op := 40) (by decide) _).mono ?_
     rintro e w0 ⟨rfl, rfl⟩
     go_wp2_with fail
     refine HP.out.mono ?_
     rintro e w1 ⟨rfl, hst, hb⟩
     have HS := zH hst
     have HB := zH hb
     clear hst hb
     go_wp2_with fail
     go_ret
     rw [HV.out]
     exact ⟨rfl, HS.out, HB.out⟩
 · rw [e1] at HV
   go_enter Tryz.func54, Tryz.ntmps54
   go_wp2_with fail
   refine (EfA.Zu (op := 40) (by decide) _).mono ?_
   rintro e w0 ⟨rfl, rfl⟩
   go_wp2_with fail
   refine HP.out.mono ?_
   rintro e w1 ⟨rfl, hst, hb⟩
   have HS := zH hst
   have HB := zH hb
   clear hst hb
   go_wp2_with fail
   go_ret
   rw [HV.out]
   exact ⟨rfl, HS.out, HB.out⟩
set_option maxRecDepth 100000 in
set_option maxHeartbeats 1000000 in
theorem uH {lo b : Nat} {w : World} {t g : Nat} {hr : Hr} {kc : Value} {gv : T} {a : Int} {LV SV : Value} {ls ss : List T} (X : Tb lo w t g hr) (h : St lo b w t kc gv 33 a LV ls SV ss) (hm : ss.length ≤ 1000) (hsl : ∀ x ∈ ss, x.length ≤ 140737488355328) (hgl : gv.length ≤ 140737488355328) :
 Calls Tryz.prog 54 #[.pointer (some ⟨b, 0, none⟩)] w (zN lo b w t kc gv 33 a LV ls (zx hr ss [gv]).1 (.bool (zx hr ss [gv]).2)) := by
 have hal : Below w.heap.size w (w.alloc (.cells #[.string ⟨gv.toArray⟩] 9)) := (Below.refl _ _).alloc (Nat.le_refl _) _
 have HT := zH (qx (X.below (hal.mono h.los)) (h.ext hal) hm (some ⟨w.heap.size, 0, none⟩) 1 [gv] (by simp) (zB w #[sv gv] 9) hsl (by intro x hx; simp at hx; subst hx; exact hgl))
 have HB0 := zH (hal.mono h.los)
 have c3 : w.cell? ⟨b, 3, none⟩ = some (.int .i64 33) := h.box.cell 3
 have c2 : w.cell? ⟨b, 2, none⟩ = some (.string ⟨gv.toArray⟩) := h.box.cell 2
 have hlt := h.box.lt
 clear h X hal hsl
 generalize zx hr ss [gv] = r at *
 go_enter Tryz.func54, Tryz.ntmps54
 go_wp2_with fail
 refine (EfA.Zu (op := 33) (by decide) _).mono ?_
 rintro e w0 ⟨rfl, rfl⟩
 go_wp2_with fail
 refine HT.out.mono ?_
 rintro e w1 ⟨rfl, hst, hb⟩
 have HS := zH hst
 have HB := zH (HB0.out.trans hb)
 clear hst hb
 go_wp2_with fail
 go_ret
 exact ⟨rfl, HS.out, HB.out⟩
set_option maxRecDepth 100000 in
set_option maxHeartbeats 1000000 in
theorem uG {lo b : Nat} {w : World} {t : Nat} {kc : Value} {gv : T} {a : Int} {LV SV : Value} {ls ss : List T} (h : St lo b w t kc gv 34 a LV ls SV ss) :
 Calls Tryz.prog 54 #[.pointer (some ⟨b, 0, none⟩)] w (zN lo b w t kc gv 34 a LV ls ss (.bool (gv == [86]))) := by
 have HS := zH h
 have c3 : w.cell? ⟨b, 3, none⟩ = some (.int .i64 34) := h.box.cell 3
 have c2 : w.cell? ⟨b, 2, none⟩ = some (.string ⟨gv.toArray⟩) := h.box.cell 2
 have hlt := h.box.lt
 clear h
 cases e1 : gv == [86]
 all_goals
  go_enter Tryz.func54, Tryz.ntmps54
  go_wp2_with fail
  refine (EfA.Zu (op := 34) (by decide) _).mono ?_
  rintro e w0 ⟨rfl, rfl⟩
  go_wp2_with fail
  go_ret
  exact ⟨rfl, ⟨_, HS.out⟩, Below.refl _ _⟩
set_option maxRecDepth 100000 in
set_option maxHeartbeats 1000000 in
theorem uF {lo b : Nat} {w : World} {t g : Nat} {hr : Hr} {kc : Value} {gv : T} {a : Int} {LV SV : Value} {ls ss : List T} (X : Tb lo w t g hr) (h : St lo b w t kc gv 35 a LV ls SV ss) (hm : ss.length ≤ 1000) (hsl : ∀ x ∈ ss, x.length ≤ 140737488355328) :
 Calls Tryz.prog 54 #[.pointer (some ⟨b, 0, none⟩)] w (zN lo b w t kc gv 35 a LV ls (zx hr ss [tE]).1 (.bool (zx hr ss [tE]).2)) := by
 have hal : Below w.heap.size w (w.alloc (.cells #[.string ⟨#[76, 69, 120, 99, 59]⟩] 9)) := (Below.refl _ _).alloc (Nat.le_refl _) _
 have HT := zH (qx (X.below (hal.mono h.los)) (h.ext hal) hm (some ⟨w.heap.size, 0, none⟩) 1 [tE] (by simp) (zB w #[sv tE] 9) hsl (by simp [tE]))
 have HOf := zH ((Yg [69, 120, 99] w (by simp)).mono (R' := fun e w' => e = .returned (.string ⟨#[76, 69, 120, 99, 59]⟩) ∧ w = w') (fun _ _ h => h))
 have HB0 := zH (hal.mono h.los)
 have c3 : w.cell? ⟨b, 3, none⟩ = some (.int .i64 35) := h.box.cell 3
 have hlt := h.box.lt
 clear h X hal hsl
 generalize zx hr ss [tE] = r at *
 go_enter Tryz.func54, Tryz.ntmps54
 go_wp2_with fail
 refine (EfA.Zu (op := 35) (by decide) _).mono ?_
 rintro e w0 ⟨rfl, rfl⟩
 go_wp2_with fail
 refine HOf.out.mono ?_
 rintro e w' ⟨rfl, rfl⟩
 go_wp2_with fail
 refine HT.out.mono ?_
 rintro e w1 ⟨rfl, hst, hb⟩
 have HS := zH hst
 have HB := zH (HB0.out.trans hb)
 clear hst hb
 go_wp2_with fail
 go_ret
 exact ⟨rfl, HS.out, HB.out⟩
end KndQ
namespace KndR
open Go.RowKit Base BinM Stru DescM DescW DescX DescS DescG DescP DescQ HierS HierT HierM HierC HierD HierN HierV HierR HierU HierY Kls KlsP KlsQ OpenK TabC TabM TabK TabP TabE TabB TabG TabH TabT TabU TabV TabX TabW TabF TabN TabO TabY TabR TabQ TabL TabZ KndB KndM EfA KndS KndP KndQ
def xB (ss : List T) : List T × Bool := if ((zM (zi ss).1).2 == 0) = true then ((zi ss).2.1 ++ [tI], true) else ((zi ss).2.1, false)
set_option maxRecDepth 100000 in
set_option maxHeartbeats 1000000 in
theorem GV {lo b : Nat} {w : World} {t : Nat} {kc : Value} {gv : T} {a : Int} {LV SV : Value} {ls ss : List T} (h : St lo b w t kc gv 31 a LV ls SV ss) (hm : ss.length ≤ 1000) (hsl : ∀ x ∈ ss, x.length ≤ 140737488355328) :
 Calls Tryz.prog 114 #[.pointer (some ⟨b, 0, none⟩)] w (zN lo b w t kc gv 31 a LV ls (xB ss).1 (.bool (xB ss).2)) := by
 have HE := zH (KndS.Js h hm hsl)
 have c3 : w.cell? ⟨b, 3, none⟩ = some (.int .i64 31) := h.box.cell 3
 have hlt := h.box.lt
 have hpl := Qv (ss := ss)
 have hD : xB ss = if ((zM (zi ss).1).2 == 0) = true then ((zi ss).2.1 ++ [tI], true) else ((zi ss).2.1, false) := rfl
 have HD := zH hD
 clear h hD hsl
 generalize xB ss = R at *
 generalize zi ss = r at *
 obtain ⟨d, s2, ok⟩ := r
 simp only at HE HD hpl
 generalize zM d = el at *
 obtain ⟨x, n⟩ := el
 simp only at HE HD
 generalize (n == 0) = z at *
 cases z
 · have HR := zH (show R = (s2, false) from HD.out)
   go_enter Tryz.func114, Tryz.ntmps114
   go_wp2_with fail
   refine HE.out.mono ?_
   rintro e w1 ⟨rfl, hst, hb⟩
   have HS := zH hst
   have HB := zH hb
   clear hst hb
   go_wp2_with fail
   go_ret
   rw [HR.out]
   exact ⟨rfl, HS.out, HB.out⟩
 · have HR := zH (show R = (s2 ++ [tI], true) from HD.out)
   go_enter Tryz.func114, Tryz.ntmps114
   go_wp2_with fail
   refine HE.out.mono ?_
   rintro e w1 ⟨rfl, ⟨SV1, hst⟩, hb⟩
   have hal2 : Below w1.heap.size w1 (w1.alloc (.cells #[.string ⟨#[73]⟩] 9)) := (Below.refl _ _).alloc (Nat.le_refl _) _
   have HL := zH (Zh (hst.ext hal2) (by omega) ⟨w1.heap.size, 0, none⟩ 1 [tI] (by simp) (zB w1 #[sv tI] 9))
   have HB3 := zH (hb.trans (hal2.mono hst.los))
   clear hst hb hal2
   go_wp2_with fail
   refine HL.out.mono ?_
   rintro e w3 ⟨rfl, hst, hb⟩
   have HS3 := zH hst
   have HB4 := zH (HB3.out.trans hb)
   clear hst hb
   go_wp2_with fail
   go_ret
   rw [HR.out]
   exact ⟨rfl, HS3.out, HB4.out⟩
def Un (h : Hr) (ss : List T) : List T × Bool :=
 if (zx h (zi ss).2.1 [tI]).2 = true then
  (if ((zM (zi (zx h (zi ss).2.1 [tI]).1).1).2 == 0) = true then ((zi (zx h (zi ss).2.1 [tI]).1).2.1, h.sub (zi ss).1 (zM (zi (zx h (zi ss).2.1 [tI]).1).1).1) else ((zi (zx h (zi ss).2.1 [tI]).1).2.1, false))
 else ((zx h (zi ss).2.1 [tI]).1, false)
theorem Ua (d : T) : (zM d).1.length ≤ d.length := by
 unfold zM
 split <;> simp
set_option maxRecDepth 100000 in
set_option maxHeartbeats 2000000 in
theorem VW {lo b : Nat} {w : World} {t g : Nat} {hr : Hr} {kc : Value} {gv : T} {a : Int} {LV SV : Value} {ls ss : List T} (X : Tb lo w t g hr) (h : St lo b w t kc gv 30 a LV ls SV ss) (hm : ss.length ≤ 1000) (hsl : ∀ x ∈ ss, x.length ≤ 140737488355328) :
 Calls Tryz.prog 114 #[.pointer (some ⟨b, 0, none⟩)] w (zN lo b w t kc gv 30 a LV ls (Un hr ss).1 (.bool (Un hr ss).2)) := by
 have HP := zH (qO h hm)
 have HX := zH X
 have c3 : w.cell? ⟨b, 3, none⟩ = some (.int .i64 30) := h.box.cell 3
 have hlt := h.box.lt
 have hpl := Qv (ss := ss)
 have hdl := QT hsl
 have Hin := zH (fun x (hx : x ∈ (zi ss).2.1) => hsl x (Gf x hx))
 have hA : Un hr ss = if (zx hr (zi ss).2.1 [tI]).2 = true then
  (if ((zM (zi (zx hr (zi ss).2.1 [tI]).1).1).2 == 0) = true then ((zi (zx hr (zi ss).2.1 [tI]).1).2.1, hr.sub (zi ss).1 (zM (zi (zx hr (zi ss).2.1 [tI]).1).1).1) else ((zi (zx hr (zi ss).2.1 [tI]).1).2.1, false))
  else ((zx hr (zi ss).2.1 [tI]).1, false) := rfl
 have HA := zH hA
 clear h X hA hsl
 generalize Un hr ss = R at *
 generalize zi ss = r at *
 obtain ⟨d, s1, ok0⟩ := r
 simp only at HP HA hpl hdl Hin
 go_enter Tryz.func114, Tryz.ntmps114
 go_wp2_with fail
 refine HP.out.mono ?_
 rintro e w1 ⟨rfl, ⟨SV1, hst⟩, hb⟩
 have hal : Below w1.heap.size w1 (w1.alloc (.cells #[.string ⟨#[73]⟩] 9)) := (Below.refl _ _).alloc (Nat.le_refl _) _
 have HB1 := zH (hb.trans (hal.mono hst.los))
 have HT := zH (qx (HX.out.below HB1.out) (hst.ext hal) (by omega) (some ⟨w1.heap.size, 0, none⟩) 1 [tI] (by simp) (zB w1 #[sv tI] 9) Hin.out (by simp [tI]))
 have hle := Qg (h := hr) (ss := s1) (ds := [tI])
 have Hin2 := zH (fun x hx => Hin.out x (zb1 (h := hr) (ss := s1) (ds := [tI]) x hx))
 clear hst hb hal HP
 generalize zx hr s1 [tI] = r at *
 obtain ⟨s2, ok⟩ := r
 simp only at HT HA hle Hin2
 cases ok
 · have HR := zH (show R = (s2, false) from HA.out)
   go_wp2_with fail
   refine HT.out.mono ?_
   rintro e w2 ⟨rfl, hst, hb⟩
   have HS := zH hst
   have HB := zH (HB1.out.trans hb)
   clear hst hb
   go_wp2_with fail
   go_ret
   rw [HR.out]
   exact ⟨rfl, HS.out, HB.out⟩
 · have hA2 : R = if ((zM (zi s2).1).2 == 0) = true then ((zi s2).2.1, hr.sub d (zM (zi s2).1).1) else ((zi s2).2.1, false) := HA.out
   have HA2 := zH hA2
   have hel : (zM (zi s2).1).1.length ≤ 140737488355328 := Nat.le_trans (Ua _) (QT Hin2.out)
   clear HA hA2
   go_wp2_with fail
   refine HT.out.mono ?_
   rintro e w2 ⟨rfl, ⟨SV2, hst⟩, hb⟩
   have HB2 := zH (HB1.out.trans hb)
   have HE := zH (KndS.Js hst (by omega) Hin2.out)
   clear hst hb HT
   generalize zi s2 = r2 at *
   obtain ⟨d2, s3, ok2⟩ := r2
   simp only at HE HA2 hel
   generalize zM d2 = el at *
   obtain ⟨x, n⟩ := el
   simp only at HE HA2 hel
   generalize (n == 0) = z at *
   go_wp2_with fail
   refine HE.out.mono ?_
   rintro e w3 ⟨rfl, ⟨SV3, hst⟩, hb⟩
   have HS3 := zH hst
   have HB3 := zH (HB2.out.trans hb)
   cases z
   · have HR := zH (show R = (s3, false) from HA2.out)
     clear hst hb
     go_wp2_with fail
     go_ret
     rw [HR.out]
     exact ⟨rfl, ⟨_, HS3.out⟩, HB3.out⟩
   · have HR := zH (show R = (s3, hr.sub d x) from HA2.out)
     have hX3 := HX.out.below HB3.out
     have c0 : w3.cell? ⟨b, 0, none⟩ = some (.pointer (some ⟨t, 0, none⟩)) := hst.box.cell 0
     have hl3 := hst.box.lt
     have Hh := zH (jy hX3)
     have HSb := zH (zb2 lo g hr d x w3 hX3.hier hst.los hX3.good hdl hel)
     have hlos := hst.los
     generalize hr.sub d x = D at *
     clear hst hb hX3
     go_wp2_with fail
     refine Hh.out.mono ?_
     rintro e w4 ⟨rfl, rfl⟩
     go_wp2_with fail
     refine HSb.out.mono ?_
     rintro e w5 ⟨rfl, hb5⟩
     have HS5 := zH (HS3.out.ext hb5)
     have HB5 := zH (HB3.out.trans (hb5.mono hlos))
     clear hb5
     go_wp2_with fail
     go_ret
     rw [HR.out]
     exact ⟨rfl, ⟨_, HS5.out⟩, HB5.out⟩
set_option maxRecDepth 100000 in
set_option maxHeartbeats 1000000 in
theorem uJ {lo b : Nat} {w : World} {t g : Nat} {hr : Hr} {kc : Value} {gv : T} {a : Int} {LV SV : Value} {ls ss : List T} (X : Tb lo w t g hr) (h : St lo b w t kc gv 30 a LV ls SV ss) (hm : ss.length ≤ 1000) (hsl : ∀ x ∈ ss, x.length ≤ 140737488355328) :
 Calls Tryz.prog 54 #[.pointer (some ⟨b, 0, none⟩)] w (zN lo b w t kc gv 30 a LV ls (Un hr ss).1 (.bool (Un hr ss).2)) := by
 have HA := zH (VW X h hm hsl)
 have c3 : w.cell? ⟨b, 3, none⟩ = some (.int .i64 30) := h.box.cell 3
 have hlt := h.box.lt
 clear h X hsl
 generalize Un hr ss = R at *
 go_enter Tryz.func54, Tryz.ntmps54
 go_wp2_with fail
 refine (EfA.Zu (op := 30) (by decide) _).mono ?_
 rintro e w0 ⟨rfl, rfl⟩
 go_wp2_with fail
 refine HA.out.mono ?_
 rintro e w1 ⟨rfl, hst, hb⟩
 have HS := zH hst
 have HB := zH hb
 clear hst hb
 go_wp2_with fail
 go_ret
 exact ⟨rfl, HS.out, HB.out⟩
set_option maxRecDepth 100000 in
set_option maxHeartbeats 1000000 in
theorem uI {lo b : Nat} {w : World} {t : Nat} {kc : Value} {gv : T} {a : Int} {LV SV : Value} {ls ss : List T} (h : St lo b w t kc gv 31 a LV ls SV ss) (hm : ss.length ≤ 1000) (hsl : ∀ x ∈ ss, x.length ≤ 140737488355328) :
 Calls Tryz.prog 54 #[.pointer (some ⟨b, 0, none⟩)] w (zN lo b w t kc gv 31 a LV ls (xB ss).1 (.bool (xB ss).2)) := by
 have HA := zH (GV h hm hsl)
 have c3 : w.cell? ⟨b, 3, none⟩ = some (.int .i64 31) := h.box.cell 3
 have hlt := h.box.lt
 clear h hsl
 generalize xB ss = R at *
 go_enter Tryz.func54, Tryz.ntmps54
 go_wp2_with fail
 refine (EfA.Zu (op := 31) (by decide) _).mono ?_
 rintro e w0 ⟨rfl, rfl⟩
 go_wp2_with fail
 refine HA.out.mono ?_
 rintro e w1 ⟨rfl, hst, hb⟩
 have HS := zH hst
 have HB := zH hb
 clear hst hb
 go_wp2_with fail
 go_ret
 exact ⟨rfl, HS.out, HB.out⟩
end KndR
namespace KndU
open Go.RowKit Base BinM Stru DescM DescW DescX DescS DescG DescP DescQ HierS HierT HierM HierC HierD HierN HierV HierR HierU HierY Kls KlsP KlsQ OpenK TabC TabM TabK TabP TabE TabB TabG TabH TabT TabU TabV TabX TabW TabF TabN TabO TabY TabR TabQ TabL TabZ KndB KndM KndS KndP KndQ KndR
def Qp (a : Int) (ls ss : List T) : List T × Bool := if 0 ≤ a ∧ a < ls.length then (if ls.getD a.toNat [] = [] then (ss, false) else (ss ++ [ls.getD a.toNat []], true)) else (ss, false)
def je (a : Int) (ls ss : List T) : List T × List T × Bool := if 0 ≤ a ∧ a < ls.length then (ls.set a.toNat (zi ss).1, (zi ss).2.1, (zi ss).2.2) else (ls, ss, false)
set_option maxRecDepth 100000 in
set_option maxHeartbeats 2000000 in
theorem uW {lo b : Nat} {w : World} {t : Nat} {kc : Value} {gv : T} {a : Int} {LV SV : Value} {ls ss : List T} (h : St lo b w t kc gv 6 a LV ls SV ss) (hm : ss.length ≤ 1000) :
 Calls Tryz.prog 47 #[.pointer (some ⟨b, 0, none⟩)] w (zN lo b w t kc gv 6 a LV ls (Qp a ls ss).1 (.bool (Qp a ls ss).2)) := by
 obtain ⟨A, c, rfl, h1, _, r, _⟩ := h.loc.slice
 have c3 : w.cell? ⟨b, 3, none⟩ = some (.int .i64 6) := h.box.cell 3
 have c4 : w.cell? ⟨b, 4, none⟩ = some (.int .i64 a) := h.box.cell 4
 have c5 : w.cell? ⟨b, 5, none⟩ = some (.slice A ls.length c) := h.box.cell 5
 have hlt := h.box.lt
 have HS := zH h
 have R := zH r
 by_cases h0 : a < 0
 · have HF := zH (show Qp a ls ss = (ss, false) by unfold Qp; rw [if_neg (by omega)])
   rw [HF.out]
   clear h r h1
   go_enter Tryz.func47, Tryz.ntmps47
   go_wp2_with fail
   go_ret
   exact ⟨rfl, ⟨_, HS.out⟩, Below.refl _ _⟩
 · by_cases hin : a < (ls.length : Int)
   · obtain ⟨k, rfl⟩ : ∃ k : Nat, a = (k : Int) := ⟨a.toNat, by omega⟩
     have hk : k < ls.length := by omega
     obtain ⟨g, o, rfl, hg, hc⟩ := R.out.at_ (k := k) (by simp; omega)
     rw [List.getElem_map] at hc
     have hF : Qp (k : Int) ls ss = if ls[k] = [] then (ss, false) else (ss ++ [ls[k]], true) := by
      unfold Qp
      rw [if_pos ⟨by omega, hin⟩, Int.toNat_natCast, List.getD_eq_getElem?_getD, List.getElem?_eq_getElem hk]
      rfl
     have HF := zH hF
     have hal : Below w.heap.size w (w.alloc (.cells #[.string ⟨ls[k].toArray⟩] 9)) := (Below.refl _ _).alloc (Nat.le_refl _) _
     have HL := zH (Zh (h.ext hal) hm ⟨w.heap.size, 0, none⟩ 1 [ls[k]] (by simp) (zB w #[sv ls[k]] 9))
     have HB0 := zH (hal.mono h.los)
     simp only [sv] at hc
     clear h r hF hal
     generalize Qp (k : Int) ls ss = F at *
     generalize ls[k] = x at *
     cases x with
     | nil =>
       have HR := zH (show F = (ss, false) from HF.out)
       rw [HR.out]
       go_enter Tryz.func47, Tryz.ntmps47
       go_wp2_with fail
       go_ret
       exact ⟨rfl, ⟨_, HS.out⟩, Below.refl _ _⟩
     | cons x0 xs =>
       have HR := zH (show F = (ss ++ [x0 :: xs], true) by rw [HF.out, if_neg (by simp)])
       rw [HR.out]
       go_enter Tryz.func47, Tryz.ntmps47
       go_wp2_with fail
       refine HL.out.mono ?_
       rintro e w1 ⟨rfl, hst, hb⟩
       have HS1 := zH hst
       have HB := zH (HB0.out.trans hb)
       clear hst hb
       go_wp2_with fail
       go_ret
       exact ⟨rfl, HS1.out, HB.out⟩
   · have HF := zH (show Qp a ls ss = (ss, false) by unfold Qp; rw [if_neg (by omega)])
     rw [HF.out]
     clear h r h1
     go_enter Tryz.func47, Tryz.ntmps47
     go_wp2_with fail
     go_ret
     exact ⟨rfl, ⟨_, HS.out⟩, Below.refl _ _⟩
theorem St.Zq4 {lo b : Nat} {w : World} {t : Nat} {kc : Value} {gv : T} {op a : Int} {g n c : Nat} {SV : Value} {ls ss : List T} (h : St lo b w t kc gv op a (.slice (some ⟨g, 0, none⟩) n c) ls SV ss) (k : Nat) (d : T) :
 St lo b (w.setCell ⟨g, k, none⟩ (.string ⟨d.toArray⟩)) t kc gv op a (.slice (some ⟨g, 0, none⟩) n c) (ls.set k d) SV ss := by
 have hgb : g ≠ b := fun e => h.nl (by rw [e]; rfl)
 have hn : n = ls.length := by obtain ⟨A', c', e, _⟩ := zT.slice h.loc; injection e with _ e2 _
 refine ⟨(h.box.beside k _ (fun e => hgb e.symm)), h.lob, ?_, TabM.zh h.stk (fun q hq => heap_setCell_other w ⟨g, k, none⟩ q _ (fun e => h.ap g rfl (by rw [hq, e]))), h.nl, h.ns, h.ap⟩
 have h1 : w.ownsRow lo 9 1 (.slice (some ⟨g, 0, none⟩) n c) n (ls.map sv) := by
  have h2 : w.ownsRow lo 9 1 (.slice (some ⟨g, 0, none⟩) n c) ls.length (ls.map sv) := h.loc
  rw [← hn] at h2
  exact h2
 have h3 := (h1.stored k (.string ⟨d.toArray⟩)).1
 show World.ownsRow _ _ _ _ _ _ _
 rw [List.length_set, ← hn, List.map_set]
 exact h3
theorem K9 {w : World} {base n c : Nat} {A : Option Addr} {p : List T} (h : zT w base (.slice A n c) p) {k : Nat} (hk : k < p.length) : ∃ g, A = some ⟨g, 0, none⟩ ∧ g < w.heap.size ∧ w.cell? ⟨g, k, none⟩ = some (sv p[k]) ∧ w.frozen? ⟨g, k, none⟩ = false := by
 have h0 := h
 rcases h.2 with ⟨_, h2⟩ | ⟨g, cap, cur, hv, _, hh, _⟩
 · omega
 · injection hv with e1 _ _
   subst e1
   obtain ⟨A', c', e, _, _, r, _⟩ := zT.slice h0
   injection e with e1 _ _
   subst e1
   obtain ⟨b, o, hA, hb, hc⟩ := r.at_ (k := k) (by simp; omega)
   injection hA with hA
   injection hA with e1 e2 _
   subst e1
   subst e2
   rw [List.getElem_map, Nat.zero_add] at hc
   exact ⟨g, rfl, hb, hc, frozen_of_row w g k cur _ hh⟩
set_option maxRecDepth 100000 in
set_option maxHeartbeats 2000000 in
theorem Xj {lo b : Nat} {w : World} {t : Nat} {kc : Value} {gv : T} {a : Int} {LV SV : Value} {ls ss : List T} (h : St lo b w t kc gv 7 a LV ls SV ss) (hm : ss.length ≤ 1000) :
 Calls Tryz.prog 47 #[.pointer (some ⟨b, 0, none⟩)] w (zN lo b w t kc gv 7 a LV (je a ls ss).1 (je a ls ss).2.1 (.bool (je a ls ss).2.2)) := by
 obtain ⟨A, c, rfl, h1, _, r, _⟩ := h.loc.slice
 have c3 : w.cell? ⟨b, 3, none⟩ = some (.int .i64 7) := h.box.cell 3
 have c4 : w.cell? ⟨b, 4, none⟩ = some (.int .i64 a) := h.box.cell 4
 have c5 : w.cell? ⟨b, 5, none⟩ = some (.slice A ls.length c) := h.box.cell 5
 have hlt := h.box.lt
 have HS := zH h
 have R := zH r
 by_cases hin : 0 ≤ a ∧ a < (ls.length : Int)
 · obtain ⟨k, rfl⟩ : ∃ k : Nat, a = (k : Int) := ⟨a.toNat, by omega⟩
   have hk : k < ls.length := by omega
   have hki : (k : Int) < (ls.length : Int) := by omega
   have hF : je (k : Int) ls ss = (ls.set k (zi ss).1, (zi ss).2.1, (zi ss).2.2) := by
    unfold je
    rw [if_pos hin, Int.toNat_natCast]
   have HF := zH hF
   have HP := zH (qO h hm)
   clear h r hF hin
   generalize je (k : Int) ls ss = F at *
   generalize zi ss = p at *
   obtain ⟨d, s2, ok⟩ := p
   simp only at HF HP
   go_enter Tryz.func47, Tryz.ntmps47
   go_wp2_with fail
   refine HP.out.mono ?_
   rintro e w1 ⟨rfl, ⟨SV1, hst⟩, hb⟩
   obtain ⟨g, rfl, hg, hc, hf⟩ := K9 hst.loc hk
   have d5 : w1.cell? ⟨b, 5, none⟩ = some (.slice (some ⟨g, 0, none⟩) ls.length c) := hst.box.cell 5
   have hlt1 := hst.box.lt
   have HS1 := zH (St.Zq4 hst k d)
   have hlg : lo ≤ g := (World.ownsRow.lt hst.loc g rfl).1
   have HB := zH (hb.setCell hlg (.string ⟨d.toArray⟩) (p := ⟨g, k, none⟩))
   simp only [sv] at hc
   generalize ls[k] = y at *
   clear hst hb HS
   go_wp2_with fail
   go_ret
   rw [HF.out]
   exact ⟨rfl, ⟨_, HS1.out⟩, HB.out⟩
 · have HF := zH (show je a ls ss = (ls, ss, false) by unfold je; rw [if_neg hin])
   rw [HF.out]
   clear h r h1
   by_cases h0 : a < 0
   · clear hin
     go_enter Tryz.func47, Tryz.ntmps47
     go_wp2_with fail
     go_ret
     exact ⟨rfl, ⟨_, HS.out⟩, Below.refl _ _⟩
   · have h9 : ¬ a < (ls.length : Int) := by omega
     clear hin
     go_enter Tryz.func47, Tryz.ntmps47
     go_wp2_with fail
     go_ret
     exact ⟨rfl, ⟨_, HS.out⟩, Below.refl _ _⟩
end KndU
end Go.Proofs.YtehainbhoflpnaaGreatDoor
