/- pieces -/
import Derived.Test.YtehainbhoflpnaaGreatDoorK30
namespace Go.Proofs.YtehainbhoflpnaaGreatDoor
namespace KndS
open Go.RowKit Base BinM Stru DescM DescW DescX DescS DescG DescP DescQ HierS HierT HierM HierC HierD HierN HierV HierR HierU HierY Kls KlsP KlsQ OpenK TabC TabM TabK TabP TabE TabB TabG TabH TabT TabU TabV TabX TabW TabF TabN TabO TabY TabR TabQ TabL TabZ KndB KndM EfA
theorem QT {ss : List T} {N : Nat} (h : ∀ x ∈ ss, x.length ≤ N) : (zi ss).1.length ≤ N := by
 unfold zi
 cases hg : ss.getLast? with
 | none => exact Nat.zero_le _
 | some d => exact h d (List.mem_of_getLast? hg)
theorem Gf {ss : List T} : ∀ x ∈ (zi ss).2.1, x ∈ ss := by
 unfold zi
 cases hg : ss.getLast? with
 | none => intro x hx; cases hx
 | some d => intro x hx; exact List.mem_of_mem_take hx
set_option maxRecDepth 100000 in
theorem Js {lo b : Nat} {w : World} {t : Nat} {kc : Value} {gv : T} {op a : Int} {LV SV : Value} {ls ss : List T} (h : St lo b w t kc gv op a LV ls SV ss) (hm : ss.length ≤ 1000) (hsl : ∀ x ∈ ss, x.length ≤ 140737488355328) :
 Calls Tryz.prog 159 #[.pointer (some ⟨b, 0, none⟩)] w (zN lo b w t kc gv op a LV ls (zi ss).2.1 (.tuple #[.string ⟨(zM (zi ss).1).1.toArray⟩, .bool ((zM (zi ss).1).2 == 0)])) := by
 have HP := zH (qO h hm)
 have hl := QT hsl
 clear h hm hsl
 generalize zi ss = r at *
 obtain ⟨d, s2, ok⟩ := r
 simp only at HP hl ⊢
 go_enter Tryz.func159, Tryz.ntmps159
 go_wp2_with fail
 refine HP.out.mono ?_
 rintro e w1 ⟨rfl, hst, hb⟩
 have HE := zH (DescX.Js d w1 hl)
 have HS := zH hst
 have HB := zH hb
 clear hst hb
 generalize zM d = el at *
 obtain ⟨x, n⟩ := el
 unfold Xo at HE
 simp only at HE ⊢
 go_wp2_with fail
 refine HE.out.mono ?_
 rintro e w2 ⟨rfl, rfl⟩
 go_wp2_with fail
 go_ret2
 exact ⟨rfl, HS.out, HB.out⟩
def tI : T := [73]
def jg (h : Hr) (ss : List T) : List T × Bool :=
 if (zx h ss [tI]).2 = true then (if ((zM (zi (zx h ss [tI]).1).1).2 == 0) = true then ((zi (zx h ss [tI]).1).2.1 ++ [(zM (zi (zx h ss [tI]).1).1).1], true) else ((zi (zx h ss [tI]).1).2.1, false)) else (ss, false)
theorem zb1 {h : Hr} {ss ds : List T} : ∀ x ∈ (zx h ss ds).1, x ∈ ss := by
 unfold zx
 split
 · intro x hx; exact List.mem_of_mem_take hx
 · intro x hx; exact hx
theorem Qg {h : Hr} {ss ds : List T} : (zx h ss ds).1.length ≤ ss.length := by
 unfold zx
 split
 · simp
 · exact Nat.le_refl _
theorem ZY {h : Hr} {ss ds : List T} (hf : (zx h ss ds).2 = false) : (zx h ss ds).1 = ss := by
 unfold zx at hf ⊢
 split at hf
 · cases hf
 · rw [if_neg (by assumption)]
set_option maxRecDepth 100000 in
set_option maxHeartbeats 1000000 in
theorem gQ {lo b : Nat} {w : World} {t g : Nat} {hr : Hr} {kc : Value} {gv : T} {a : Int} {LV SV : Value} {ls ss : List T} (X : Tb lo w t g hr) (h : St lo b w t kc gv 29 a LV ls SV ss) (hm : ss.length ≤ 1000) (hsl : ∀ x ∈ ss, x.length ≤ 140737488355328) :
 Calls Tryz.prog 114 #[.pointer (some ⟨b, 0, none⟩)] w (zN lo b w t kc gv 29 a LV ls (jg hr ss).1 (.bool (jg hr ss).2)) := by
 have hal : Below w.heap.size w (w.alloc (.cells #[.string ⟨#[73]⟩] 9)) := (Below.refl _ _).alloc (Nat.le_refl _) _
 have HT := zH (qx (X.below (hal.mono h.los)) (h.ext hal) hm (some ⟨w.heap.size, 0, none⟩) 1 [tI] (by simp) (zB w #[sv tI] 9) hsl (by simp [tI]))
 have HB0 := zH (hal.mono h.los)
 have c3 : w.cell? ⟨b, 3, none⟩ = some (.int .i64 29) := h.box.cell 3
 have hlt := h.box.lt
 have hlo := h.lob
 have hA : jg hr ss = if (zx hr ss [tI]).2 = true then (if ((zM (zi (zx hr ss [tI]).1).1).2 == 0) = true then ((zi (zx hr ss [tI]).1).2.1 ++ [(zM (zi (zx hr ss [tI]).1).1).1], true) else ((zi (zx hr ss [tI]).1).2.1, false)) else (ss, false) := rfl
 have HA := zH hA
 have hin := zb1 (h := hr) (ss := ss) (ds := [tI])
 have hle := Qg (h := hr) (ss := ss) (ds := [tI])
 have hfl := ZY (h := hr) (ss := ss) (ds := [tI])
 have Hsl := zH (fun x hx => hsl x (hin x hx))
 have Hfl := zH hfl
 clear h X hal hA hin hsl hfl
 generalize jg hr ss = R at *
 generalize zx hr ss [tI] = r at *
 obtain ⟨s1, ok⟩ := r
 simp only at HT HA hle Hsl Hfl
 cases ok
 · have HR := zH (show R = (ss, false) from HA.out)
   have HF := zH (Hfl.out rfl)
   clear HA Hfl
   go_enter Tryz.func114, Tryz.ntmps114
   go_wp2_with fail
   refine HT.out.mono ?_
   rintro e w1 ⟨rfl, hst, hb⟩
   have HS := zH hst
   have HB := zH (HB0.out.trans hb)
   clear hst hb
   go_wp2_with fail
   go_ret
   rw [HR.out]
   exact ⟨rfl, by rw [← HF.out]; exact HS.out, HB.out⟩
 · have hA2 : R = if ((zM (zi s1).1).2 == 0) = true then ((zi s1).2.1 ++ [(zM (zi s1).1).1], true) else ((zi s1).2.1, false) := HA.out
   have HA2 := zH hA2
   have Hin := zH (QT (ss := s1) (N := 140737488355328) Hsl.out)
   clear HA Hfl hA2
   go_enter Tryz.func114, Tryz.ntmps114
   go_wp2_with fail
   refine HT.out.mono ?_
   rintro e w1 ⟨rfl, ⟨SV1, hst⟩, hb⟩
   have HE := zH (Js hst (by omega) Hsl.out)
   have HB := zH (HB0.out.trans hb)
   clear hst hb HT
   have hpl : (zi s1).2.1.length ≤ 1000 := by
    unfold zi
    split
    · simp
    · simp; omega
   generalize zi s1 = r2 at *
   obtain ⟨d, s2, ok2⟩ := r2
   simp only at HE HA2 hpl
   generalize zM d = el at *
   obtain ⟨x, n⟩ := el
   simp only at HE HA2
   go_wp2_with fail
   refine HE.out.mono ?_
   rintro e w2 ⟨rfl, ⟨SV2, hst⟩, hb⟩
   have HB2 := zH (HB.out.trans hb)
   have HS2 := zH hst
   have hal2 : Below w2.heap.size w2 (w2.alloc (.cells #[.string ⟨x.toArray⟩] 9)) := (Below.refl _ _).alloc (Nat.le_refl _) _
   have HL := zH (Zh (hst.ext hal2) hpl ⟨w2.heap.size, 0, none⟩ 1 [x] (by simp) (zB w2 #[sv x] 9))
   have HB3 := zH (HB2.out.trans (hal2.mono hst.los))
   clear hst hb hal2 HE
   generalize hn : (n == 0) = z at *
   clear hn
   cases z
   · have HR := zH (show R = (s2, false) from HA2.out)
     go_wp2_with fail
     go_ret
     rw [HR.out]
     exact ⟨rfl, ⟨_, HS2.out⟩, HB2.out⟩
   · have HR := zH (show R = (s2 ++ [x], true) from HA2.out)
     go_wp2_with fail
     refine HL.out.mono ?_
     rintro e w3 ⟨rfl, hst, hb⟩
     have HS3 := zH hst
     have HB4 := zH (HB3.out.trans hb)
     clear hst hb
     go_wp2_with fail
     go_ret
     rw [HR.out]
     exact ⟨rfl, HS3.out, HB4.out⟩
def tlP (h : Hr) (ss ds rs : List T) : List T × Bool := if (zx h ss ds).2 = true then ((zx h ss ds).1 ++ rs, true) else (ss, false)
theorem Ze1 {op : Int} {ds : List T} {lv : T} (h : Uc op = some (ds, lv)) : ds.length ≤ 2 ∧ (∀ x ∈ ds, x.length ≤ 1) ∧ lv.length ≤ 1 := by
 unfold Uc at h
 repeat' (split at h)
 all_goals first | (cases h; simp) | cases h
set_option maxRecDepth 100000 in
set_option maxHeartbeats 2000000 in
theorem qj {lo b : Nat} {w : World} {t g : Nat} {hr : Hr} {kc : Value} {gv : T} {op a : Int} {LV SV : Value} {ls ss ds : List T} {lv : T} (he : Uc op = some (ds, lv)) (X : Tb lo w t g hr) (h : St lo b w t kc gv op a LV ls SV ss) (hm : ss.length ≤ 1000) (hsl : ∀ x ∈ ss, x.length ≤ 140737488355328) :
 Calls Tryz.prog 54 #[.pointer (some ⟨b, 0, none⟩)] w (zN lo b w t kc gv op a LV ls (tlP hr ss ds [lv]).1 (.bool (tlP hr ss ds [lv]).2)) := by
 obtain ⟨hd2, hd1, hl1⟩ := Ze1 he
 have HO := Yg op w
 rw [he] at HO
 have HOf := zH HO
 have HS := zH h
 have HX := zH X
 have Hsl := zH hsl
 have Hd1 := zH hd1
 have c3 : w.cell? ⟨b, 3, none⟩ = some (.int .i64 op) := h.box.cell 3
 have hlt := h.box.lt
 have hA : tlP hr ss ds [lv] = if (zx hr ss ds).2 = true then ((zx hr ss ds).1 ++ [lv], true) else (ss, false) := rfl
 have HA := zH hA
 have hle := Qg (h := hr) (ss := ss) (ds := ds)
 have Hfl := zH (ZY (h := hr) (ss := ss) (ds := ds))
 clear h X hsl hd1 he HO hA
 generalize tlP hr ss ds [lv] = R at *
 go_enter Tryz.func54, Tryz.ntmps54
 go_wp2_with fail
 refine HOf.out.mono ?_
 rintro e w0 ⟨A0, rfl, hr0, hb0⟩
 have HT := zH (qx (HX.out.below (hb0.mono HS.out.los)) (HS.out.ext hb0) hm A0 ds.length ds (by omega) hr0 Hsl.out (fun x hx => Nat.le_trans (Hd1.out x hx) (by omega)))
 have HB0 := zH (hb0.mono HS.out.los)
 clear hr0 hb0 HOf HX
 generalize zx hr ss ds = r at *
 obtain ⟨s1, ok⟩ := r
 simp only at HT HA hle Hfl
 cases ok
 · have HR := zH (show R = (ss, false) from HA.out)
   have HF := zH (Hfl.out rfl)
   clear HA Hfl
   go_wp2_with fail
   refine HT.out.mono ?_
   rintro e w1 ⟨rfl, hst, hb⟩
   have HS1 := zH hst
   have HB := zH (HB0.out.trans hb)
   clear hst hb
   go_wp2_with fail
   go_ret
   rw [HR.out]
   exact ⟨rfl, by rw [← HF.out]; exact HS1.out, HB.out⟩
 · have HR := zH (show R = (s1 ++ [lv], true) from HA.out)
   clear HA Hfl
   go_wp2_with fail
   refine HT.out.mono ?_
   rintro e w1 ⟨rfl, ⟨SV1, hst⟩, hb⟩
   have HB := zH (HB0.out.trans hb)
   have hal2 : Below w1.heap.size w1 (w1.alloc (.cells #[.string ⟨lv.toArray⟩] 9)) := (Below.refl _ _).alloc (Nat.le_refl _) _
   have HL := zH (Zh (hst.ext hal2) (by omega) ⟨w1.heap.size, 0, none⟩ 1 [lv] (by simp) (zB w1 #[sv lv] 9))
   have HB3 := zH (HB.out.trans (hal2.mono hst.los))
   clear hst hb hal2 HT
   go_wp2_with fail
   refine HL.out.mono ?_
   rintro e w3 ⟨rfl, hst, hb⟩
   have HS3 := zH hst
   have HB4 := zH (HB3.out.trans hb)
   clear hst hb
   go_wp2_with fail
   go_ret
   rw [HR.out]
   exact ⟨rfl, HS3.out, HB4.out⟩
set_option maxRecDepth 100000 in
set_option maxHeartbeats 1000000 in
theorem Xg {lo b : Nat} {w : World} {t g : Nat} {hr : Hr} {kc : Value} {gv : T} {a : Int} {LV SV : Value} {ls ss : List T} (X : Tb lo w t g hr) (h : St lo b w t kc gv 29 a LV ls SV ss) (hm : ss.length ≤ 1000) (hsl : ∀ x ∈ ss, x.length ≤ 140737488355328) :
 Calls Tryz.prog 54 #[.pointer (some ⟨b, 0, none⟩)] w (zN lo b w t kc gv 29 a LV ls (jg hr ss).1 (.bool (jg hr ss).2)) := by
 have HA := zH (gQ X h hm hsl)
 have c3 : w.cell? ⟨b, 3, none⟩ = some (.int .i64 29) := h.box.cell 3
 have hlt := h.box.lt
 clear h X hsl
 generalize jg hr ss = R at *
 go_enter Tryz.func54, Tryz.ntmps54
 go_wp2_with fail
 refine (EfA.Zu (op := 29) (by decide) _).mono ?_
 rintro e w0 ⟨rfl, rfl⟩
 go_wp2_with fail
 refine HA.out.mono ?_
 rintro e w1 ⟨rfl, hst, hb⟩
 have HS := zH hst
 have HB := zH hb
 clear hst hb
 go_wp2_with fail
 go_ret
 exact ⟨rfl, HS.out, HB.out⟩
def doP (h : Hr) (op : Int) (ss : List T) : List T × Bool := if op = 10 then tlP h ss [[73], [73]] [[73]] else jg h ss
set_option maxRecDepth 100000 in
set_option maxHeartbeats 2000000 in
theorem Zl8 {lo b : Nat} {w : World} {t g : Nat} {hr : Hr} {kc : Value} {gv : T} {op : Int} {LV SV : Value} {ls ss : List T} (hop : op = 10 ∨ op = 29) (X : Tb lo w t g hr) (h : St lo b w t kc gv op 0 LV ls SV ss) (hm : ss.length ≤ 1000) (hsl : ∀ x ∈ ss, x.length ≤ 140737488355328) :
 Calls Tryz.prog 25 #[.pointer (some ⟨b, 0, none⟩)] w (zN lo b w t kc gv op 0 LV ls (doP hr op ss).1 (.bool (doP hr op ss).2)) := by
 rcases hop with rfl | rfl
 · have HA := zH (qj (op := 10) rfl X h hm hsl)
   have c3 : w.cell? ⟨b, 3, none⟩ = some (.int .i64 10) := h.box.cell 3
   have c4 : w.cell? ⟨b, 4, none⟩ = some (.int .i64 0) := h.box.cell 4
   have hlt := h.box.lt
   have HD := zH (show doP hr 10 ss = tlP hr ss [[73], [73]] [[73]] from rfl)
   rw [HD.out]
   clear h X hsl HD
   generalize tlP hr ss [[73], [73]] [[73]] = R at *
   go_enter Tryz.func25, Tryz.ntmps25
   go_wp2_with fail
   refine HA.out.mono ?_
   rintro e w1 ⟨rfl, hst, hb⟩
   have HS := zH hst
   have HB := zH hb
   clear hst hb
   go_wp2_with fail
   go_ret
   exact ⟨rfl, HS.out, HB.out⟩
 · have HA := zH (Xg X h hm hsl)
   have c3 : w.cell? ⟨b, 3, none⟩ = some (.int .i64 29) := h.box.cell 3
   have c4 : w.cell? ⟨b, 4, none⟩ = some (.int .i64 0) := h.box.cell 4
   have hlt := h.box.lt
   have HD := zH (show doP hr 29 ss = jg hr ss from rfl)
   rw [HD.out]
   clear h X hsl HD
   generalize jg hr ss = R at *
   go_enter Tryz.func25, Tryz.ntmps25
   go_wp2_with fail
   refine HA.out.mono ?_
   rintro e w1 ⟨rfl, hst, hb⟩
   have HS := zH hst
   have HB := zH hb
   clear hst hb
   go_wp2_with fail
   go_ret
   exact ⟨rfl, HS.out, HB.out⟩
def ZO (w : World) (r : Option (List T × List T)) (e : Ending) (w' : World) : Prop :=
 (match r with
  | some (ls, ss) => ∃ A c B d, e = .returned (.tuple #[.agg #[.slice A ls.length c, .slice B ss.length d], .int .i64 0]) ∧ Rds w' A (ls.map sv) ∧ Rds w' B (ss.map sv)
  | none => e = .returned (.tuple #[.agg #[.slice none 0 0, .slice none 0 0], .int .i64 16])) ∧ Below w.heap.size w w'
def zn5 (h : Hr) (op : Int) (ls ss : List T) : Option (List T × List T) := if (doP h op ss).2 = true ∧ (doP h op ss).1.length ≤ 16 then some (ls, (doP h op ss).1) else none
theorem jW : (Tryz.prog.info? 34).map (·.size) = some 2 := by kernel_rfl
def sev (w : World) (b : Nat) (v0 v1 v2 v3 v4 v5 v6 : Value) : World := ((((((w.setCell ⟨b, 0, none⟩ v0).setCell ⟨b, 1, none⟩ v1).setCell ⟨b, 2, none⟩ v2).setCell ⟨b, 3, none⟩ v3).setCell ⟨b, 4, none⟩ v4).setCell ⟨b, 5, none⟩ v5).setCell ⟨b, 6, none⟩ v6
theorem Zj2 {w : World} {b : Nat} {ty : TypeId} {u0 u1 u2 u3 u4 u5 u6 : Value} (h : Bx w b #[u0, u1, u2, u3, u4, u5, u6] ty) (v0 v1 v2 v3 v4 v5 v6 : Value) : Bx (sev w b v0 v1 v2 v3 v4 v5 v6) b #[v0, v1, v2, v3, v4, v5, v6] ty := by
 have h0 : Bx (w.setCell ⟨b, 0, none⟩ v0) b #[v0, u1, u2, u3, u4, u5, u6] ty := h.set 0 v0
 have h1 : Bx ((w.setCell ⟨b, 0, none⟩ v0).setCell ⟨b, 1, none⟩ v1) b #[v0, v1, u2, u3, u4, u5, u6] ty := h0.set 1 v1
 have h2 : Bx (((w.setCell ⟨b, 0, none⟩ v0).setCell ⟨b, 1, none⟩ v1).setCell ⟨b, 2, none⟩ v2) b #[v0, v1, v2, u3, u4, u5, u6] ty := h1.set 2 v2
 have h3 : Bx ((((w.setCell ⟨b, 0, none⟩ v0).setCell ⟨b, 1, none⟩ v1).setCell ⟨b, 2, none⟩ v2).setCell ⟨b, 3, none⟩ v3) b #[v0, v1, v2, v3, u4, u5, u6] ty := h2.set 3 v3
 have h4 : Bx (((((w.setCell ⟨b, 0, none⟩ v0).setCell ⟨b, 1, none⟩ v1).setCell ⟨b, 2, none⟩ v2).setCell ⟨b, 3, none⟩ v3).setCell ⟨b, 4, none⟩ v4) b #[v0, v1, v2, v3, v4, u5, u6] ty := h3.set 4 v4
 have h5 : Bx ((((((w.setCell ⟨b, 0, none⟩ v0).setCell ⟨b, 1, none⟩ v1).setCell ⟨b, 2, none⟩ v2).setCell ⟨b, 3, none⟩ v3).setCell ⟨b, 4, none⟩ v4).setCell ⟨b, 5, none⟩ v5) b #[v0, v1, v2, v3, v4, v5, u6] ty := h4.set 5 v5
 have h6 : Bx (((((((w.setCell ⟨b, 0, none⟩ v0).setCell ⟨b, 1, none⟩ v1).setCell ⟨b, 2, none⟩ v2).setCell ⟨b, 3, none⟩ v3).setCell ⟨b, 4, none⟩ v4).setCell ⟨b, 5, none⟩ v5).setCell ⟨b, 6, none⟩ v6) b #[v0, v1, v2, v3, v4, v5, v6] ty := h5.set 6 v6
 exact h6
theorem UW (w : World) (b : Nat) (v0 v1 v2 v3 v4 v5 v6 : Value) (k : Nat) (hk : k ≠ b) : (sev w b v0 v1 v2 v3 v4 v5 v6).heap[k]? = w.heap[k]? :=
 (heap_setCell_other _ ⟨b, 6, none⟩ k v6 hk).trans ((heap_setCell_other _ ⟨b, 5, none⟩ k v5 hk).trans ((heap_setCell_other _ ⟨b, 4, none⟩ k v4 hk).trans ((heap_setCell_other _ ⟨b, 3, none⟩ k v3 hk).trans ((heap_setCell_other _ ⟨b, 2, none⟩ k v2 hk).trans ((heap_setCell_other _ ⟨b, 1, none⟩ k v1 hk).trans (heap_setCell_other w ⟨b, 0, none⟩ k v0 hk))))))
theorem UY {lo : Nat} {a w : World} (h : Below lo a w) {b : Nat} (hb : lo ≤ b) (v0 v1 v2 v3 v4 v5 v6 : Value) : Below lo a (sev w b v0 v1 v2 v3 v4 v5 v6) :=
 ((((((h.setCell hb v0 (p := ⟨b, 0, none⟩)).setCell hb v1 (p := ⟨b, 1, none⟩)).setCell hb v2 (p := ⟨b, 2, none⟩)).setCell hb v3 (p := ⟨b, 3, none⟩)).setCell hb v4 (p := ⟨b, 4, none⟩)).setCell hb v5 (p := ⟨b, 5, none⟩)).setCell hb v6 (p := ⟨b, 6, none⟩)
theorem zn6 {lo b : Nat} {w : World} {t : Nat} {kc : Value} {gv : T} {op a : Int} {LV SV : Value} {ls ss : List T} {u0 u1 u2 u3 u4 u5 u6 : Value} (hlo : lo ≤ b) (hbx : Bx w b #[u0, u1, u2, u3, u4, u5, u6] 66) (hl : zT w lo LV ls) (hs : zT w lo SV ss) (nl : LV.ownBlock ≠ some b) (ns : SV.ownBlock ≠ some b) (ap : ∀ k, LV.ownBlock = some k → SV.ownBlock ≠ some k) :
 St lo b (sev w b (.pointer (some ⟨t, 0, none⟩)) kc (.string ⟨gv.toArray⟩) (.int .i64 op) (.int .i64 a) LV SV) t kc gv op a LV ls SV ss :=
 ⟨Zj2 hbx _ _ _ _ _ _ _, hlo, TabM.zh hl (fun k hk => UW _ _ _ _ _ _ _ _ _ k (fun e => nl (by rw [hk, e]))), TabM.zh hs (fun k hk => UW _ _ _ _ _ _ _ _ _ k (fun e => ns (by rw [hk, e]))), nl, ns, ap⟩
theorem Zj0 {lo : Nat} {w : World} {t : Nat} {kc : Value} {gv : T} {op a : Int} {LV SV : Value} {ls ss : List T} (hlo : lo ≤ w.heap.size) (hl : zT w lo LV ls) (hs : zT w lo SV ss) (ap : ∀ k, LV.ownBlock = some k → SV.ownBlock ≠ some k) :
 St lo w.heap.size (w.alloc (.cells (stV t kc gv op a LV SV) 66)) t kc gv op a LV ls SV ss :=
 ⟨Bx.new w _ _, hlo, World.ownsRow.alloc hl _, World.ownsRow.alloc hs _, fun e => by have := (World.ownsRow.lt hl _ e).2; omega, fun e => by have := (World.ownsRow.lt hs _ e).2; omega, ap⟩
theorem Uq {w4 w5 : World} {lo B : Nat} {LV SV : Value} {ls ss : List T} (h4 : zT w4 lo LV ls) (h5 : zT w5 B SV ss) (hB : w4.heap.size ≤ B) : ∀ k, LV.ownBlock = some k → SV.ownBlock ≠ some k := fun k h1 h2 => by
 have := (World.ownsRow.lt h4 k h1).2
 have := (World.ownsRow.lt h5 k h2).1
 omega
theorem Tb.mono {lo lo' : Nat} {w : World} {t g : Nat} {h : Hr} (H : Tb lo w t g h) (hl : lo ≤ lo') : Tb lo' w t g h := ⟨H.box, by have := H.low; omega, H.hier.mono hl, H.good⟩
theorem qw (w : World) (g : Nat) (x y : Value) (k : Nat) (hk : k ≠ g) : ((w.setCell ⟨g, 0, none⟩ x).setCell ⟨g, 1, none⟩ y).heap[k]? = w.heap[k]? :=
 (heap_setCell_other _ ⟨g, 1, none⟩ k y hk).trans (heap_setCell_other w ⟨g, 0, none⟩ k x hk)
theorem Zw {w : World} {g : Nat} {ty : TypeId} {u0 u1 : Value} (h : Bx w g #[u0, u1] ty) (x y : Value) : Bx ((w.setCell ⟨g, 0, none⟩ x).setCell ⟨g, 1, none⟩ y) g #[x, y] ty := (h.set 0 x).set 1 y
theorem qN {w : World} {A : Option Addr} {xs : List Value} (h : Rds w A xs) {g : Nat} (x y : Value) (hA : ∀ a, A = some a → a.block ≠ g) : Rds ((w.setCell ⟨g, 0, none⟩ x).setCell ⟨g, 1, none⟩ y) A xs :=
 TabN.ZU h (by simp [World.setCell]) (fun a ha => qw w g x y a.block (hA a ha))
theorem zQ {lo : Nat} {a w : World} (h : Below lo a w) {g : Nat} (hg : lo ≤ g) (x y : Value) : Below lo a ((w.setCell ⟨g, 0, none⟩ x).setCell ⟨g, 1, none⟩ y) := (h.setCell hg x (p := ⟨g, 0, none⟩)).setCell hg y (p := ⟨g, 1, none⟩)
theorem zb6 (w : World) (b : Nat) (v0 v1 v2 v3 v4 v5 v6 : Value) : ((((((w.setCell ⟨b, 0, none⟩ v0).setCell ⟨b, 1, none⟩ v1).setCell ⟨b, 2, none⟩ v2).setCell ⟨b, 3, none⟩ v3).setCell ⟨b, 4, none⟩ v4).setCell ⟨b, 5, none⟩ v5).setCell ⟨b, 6, none⟩ v6 = sev w b v0 v1 v2 v3 v4 v5 v6 := rfl
end KndS
end Go.Proofs.YtehainbhoflpnaaGreatDoor
