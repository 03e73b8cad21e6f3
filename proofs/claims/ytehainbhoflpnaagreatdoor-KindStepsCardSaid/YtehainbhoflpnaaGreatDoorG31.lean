/-
  kind.step at work: thing, elem, array, plain, do for the instructions that the known of law 9 steps over; kind.Step.
-/
import Derived.Test.YtehainbhoflpnaaGreatDoorG30
import Derived.Deep.RegionHeld3
namespace Go.Proofs.YtehainbhoflpnaaGreatDoor
namespace KndS
open Go.RowKit Base BinM Stru DescM DescW DescX DescS DescG DescP DescQ HierS HierT HierM HierC HierD HierN HierV HierR HierU HierY Kls KlsP KlsQ OpenK TabC TabM TabK TabP TabE TabB TabG TabH TabT TabU TabV TabX TabW TabF TabN TabO TabY TabR TabQ TabL TabZ KndB KndM EfA

theorem pop_len {ss : List T} {N : Nat} (h : ∀ x ∈ ss, x.length ≤ N) : (popP ss).1.length ≤ N := by
  unfold popP
  cases hg : ss.getLast? with
  | none => exact Nat.zero_le _
  | some d => exact h d (List.mem_of_getLast? hg)
theorem pop_in {ss : List T} : ∀ x ∈ (popP ss).2.1, x ∈ ss := by
  unfold popP
  cases hg : ss.getLast? with
  | none => intro x hx; cases hx
  | some d => intro x hx; exact List.mem_of_mem_take hx

set_option maxRecDepth 100000 in
theorem elem_any {lo b : Nat} {w : World} {t : Nat} {kc : Value} {gv : T} {op a : Int} {LV SV : Value} {ls ss : List T} (h : St lo b w t kc gv op a LV ls SV ss) (hm : ss.length ≤ 1000) (hsl : ∀ x ∈ ss, x.length ≤ 140737488355328) :
    Calls Tryz.prog 159 #[.pointer (some ⟨b, 0, none⟩)] w (GivesSt lo b w t kc gv op a LV ls (popP ss).2.1 (.tuple #[.string ⟨(elemT (popP ss).1).1.toArray⟩, .bool ((elemT (popP ss).1).2 == 0)])) := by
  have HP := Lib.hid (pop_any h hm)
  have hl := pop_len hsl
  clear h hm hsl
  generalize popP ss = r at *
  obtain ⟨d, s2, ok⟩ := r
  simp only at HP hl ⊢
  go_enter Tryz.func159, Tryz.ntmps159
  go_wp2_with fail
  refine HP.out.mono ?_
  rintro e w1 ⟨rfl, hst, hb⟩
  have HE := Lib.hid (DescX.elem_any d w1 hl)
  have HS := Lib.hid hst
  have HB := Lib.hid hb
  clear hst hb
  generalize elemT d = el at *
  obtain ⟨x, n⟩ := el
  unfold twoI at HE
  simp only at HE ⊢
  go_wp2_with fail
  refine HE.out.mono ?_
  rintro e w2 ⟨rfl, rfl⟩
  go_wp2_with fail
  go_ret2
  exact ⟨rfl, HS.out, HB.out⟩

def tI : T := [73]
/-- an array's element is taken -/
def aloadP (h : Hr) (ss : List T) : List T × Bool :=
  if (takeP h ss [tI]).2 = true then (if ((elemT (popP (takeP h ss [tI]).1).1).2 == 0) = true then ((popP (takeP h ss [tI]).1).2.1 ++ [(elemT (popP (takeP h ss [tI]).1).1).1], true) else ((popP (takeP h ss [tI]).1).2.1, false)) else (ss, false)
theorem take_in {h : Hr} {ss ds : List T} : ∀ x ∈ (takeP h ss ds).1, x ∈ ss := by
  unfold takeP
  split
  · intro x hx; exact List.mem_of_mem_take hx
  · intro x hx; exact hx
theorem take_le {h : Hr} {ss ds : List T} : (takeP h ss ds).1.length ≤ ss.length := by
  unfold takeP
  split
  · simp
  · exact Nat.le_refl _
theorem take_fails {h : Hr} {ss ds : List T} (hf : (takeP h ss ds).2 = false) : (takeP h ss ds).1 = ss := by
  unfold takeP at hf ⊢
  split at hf
  · cases hf
  · rw [if_neg (by assumption)]

set_option maxRecDepth 100000 in
set_option maxHeartbeats 1000000 in
theorem array_aload {lo b : Nat} {w : World} {t g : Nat} {hr : Hr} {kc : Value} {gv : T} {a : Int} {LV SV : Value} {ls ss : List T} (X : Tb lo w t g hr) (h : St lo b w t kc gv 29 a LV ls SV ss) (hm : ss.length ≤ 1000) (hsl : ∀ x ∈ ss, x.length ≤ 140737488355328) :
    Calls Tryz.prog 114 #[.pointer (some ⟨b, 0, none⟩)] w (GivesSt lo b w t kc gv 29 a LV ls (aloadP hr ss).1 (.bool (aloadP hr ss).2)) := by
  have hal : Below w.heap.size w (w.alloc (.cells #[.string ⟨#[73]⟩] 9)) := (Below.refl _ _).alloc (Nat.le_refl _) _
  have HT := Lib.hid (take_any (X.below (hal.mono h.los)) (h.ext hal) hm (some ⟨w.heap.size, 0, none⟩) 1 [tI] (by simp) (rds_new w #[sv tI] 9) hsl (by simp [tI]))
  have HB0 := Lib.hid (hal.mono h.los)
  have c3 : w.cell? ⟨b, 3, none⟩ = some (.int .i64 29) := h.box.cell 3
  have hlt := h.box.lt
  have hlo := h.lob
  have hA : aloadP hr ss = if (takeP hr ss [tI]).2 = true then (if ((elemT (popP (takeP hr ss [tI]).1).1).2 == 0) = true then ((popP (takeP hr ss [tI]).1).2.1 ++ [(elemT (popP (takeP hr ss [tI]).1).1).1], true) else ((popP (takeP hr ss [tI]).1).2.1, false)) else (ss, false) := rfl
  have HA := Lib.hid hA
  have hin := take_in (h := hr) (ss := ss) (ds := [tI])
  have hle := take_le (h := hr) (ss := ss) (ds := [tI])
  have hfl := take_fails (h := hr) (ss := ss) (ds := [tI])
  have Hsl := Lib.hid (fun x hx => hsl x (hin x hx))
  have Hfl := Lib.hid hfl
  clear h X hal hA hin hsl hfl
  generalize aloadP hr ss = R at *
  generalize takeP hr ss [tI] = r at *
  obtain ⟨s1, ok⟩ := r
  simp only at HT HA hle Hsl Hfl
  cases ok
  · have HR := Lib.hid (show R = (ss, false) from HA.out)
    have HF := Lib.hid (Hfl.out rfl)
    clear HA Hfl
    go_enter Tryz.func114, Tryz.ntmps114
    go_wp2_with fail
    refine HT.out.mono ?_
    rintro e w1 ⟨rfl, hst, hb⟩
    have HS := Lib.hid hst
    have HB := Lib.hid (HB0.out.trans hb)
    clear hst hb
    go_wp2_with fail
    go_ret
    rw [HR.out]
    exact ⟨rfl, by rw [← HF.out]; exact HS.out, HB.out⟩
  · have hA2 : R = if ((elemT (popP s1).1).2 == 0) = true then ((popP s1).2.1 ++ [(elemT (popP s1).1).1], true) else ((popP s1).2.1, false) := HA.out
    have HA2 := Lib.hid hA2
    have Hin := Lib.hid (pop_len (ss := s1) (N := 140737488355328) Hsl.out)
    clear HA Hfl hA2
    go_enter Tryz.func114, Tryz.ntmps114
    go_wp2_with fail
    refine HT.out.mono ?_
    rintro e w1 ⟨rfl, ⟨SV1, hst⟩, hb⟩
    have HE := Lib.hid (elem_any hst (by omega) Hsl.out)
    have HB := Lib.hid (HB0.out.trans hb)
    clear hst hb HT
    have hpl : (popP s1).2.1.length ≤ 1000 := by
      unfold popP
      split
      · simp
      · simp; omega
    generalize popP s1 = r2 at *
    obtain ⟨d, s2, ok2⟩ := r2
    simp only at HE HA2 hpl
    generalize elemT d = el at *
    obtain ⟨x, n⟩ := el
    simp only at HE HA2
    go_wp2_with fail
    refine HE.out.mono ?_
    rintro e w2 ⟨rfl, ⟨SV2, hst⟩, hb⟩
    have HB2 := Lib.hid (HB.out.trans hb)
    have HS2 := Lib.hid hst
    have hal2 : Below w2.heap.size w2 (w2.alloc (.cells #[.string ⟨x.toArray⟩] 9)) := (Below.refl _ _).alloc (Nat.le_refl _) _
    have HL := Lib.hid (leave_any (hst.ext hal2) hpl ⟨w2.heap.size, 0, none⟩ 1 [x] (by simp) (rds_new w2 #[sv x] 9))
    have HB3 := Lib.hid (HB2.out.trans (hal2.mono hst.los))
    clear hst hb hal2 HE
    generalize hn : (n == 0) = z at *
    clear hn
    cases z
    · have HR := Lib.hid (show R = (s2, false) from HA2.out)
      go_wp2_with fail
      go_ret
      rw [HR.out]
      exact ⟨rfl, ⟨_, HS2.out⟩, HB2.out⟩
    · have HR := Lib.hid (show R = (s2 ++ [x], true) from HA2.out)
      go_wp2_with fail
      refine HL.out.mono ?_
      rintro e w3 ⟨rfl, hst, hb⟩
      have HS3 := Lib.hid hst
      have HB4 := Lib.hid (HB3.out.trans hb)
      clear hst hb
      go_wp2_with fail
      go_ret
      rw [HR.out]
      exact ⟨rfl, HS3.out, HB4.out⟩
/-- some are taken, some left -/
def tlP (h : Hr) (ss ds rs : List T) : List T × Bool := if (takeP h ss ds).2 = true then ((takeP h ss ds).1 ++ rs, true) else (ss, false)
theorem eff_few {op : Int} {ds : List T} {lv : T} (h : effT op = some (ds, lv)) : ds.length ≤ 2 ∧ (∀ x ∈ ds, x.length ≤ 1) ∧ lv.length ≤ 1 := by
  unfold effT at h
  repeat' (split at h)
  all_goals first | (cases h; simp) | cases h
set_option maxRecDepth 100000 in
set_option maxHeartbeats 2000000 in
theorem plain_ef {lo b : Nat} {w : World} {t g : Nat} {hr : Hr} {kc : Value} {gv : T} {op a : Int} {LV SV : Value} {ls ss ds : List T} {lv : T} (he : effT op = some (ds, lv)) (X : Tb lo w t g hr) (h : St lo b w t kc gv op a LV ls SV ss) (hm : ss.length ≤ 1000) (hsl : ∀ x ∈ ss, x.length ≤ 140737488355328) :
    Calls Tryz.prog 54 #[.pointer (some ⟨b, 0, none⟩)] w (GivesSt lo b w t kc gv op a LV ls (tlP hr ss ds [lv]).1 (.bool (tlP hr ss ds [lv]).2)) := by
  obtain ⟨hd2, hd1, hl1⟩ := eff_few he
  have HO := of_any op w
  rw [he] at HO
  have HOf := Lib.hid HO
  have HS := Lib.hid h
  have HX := Lib.hid X
  have Hsl := Lib.hid hsl
  have Hd1 := Lib.hid hd1
  have c3 : w.cell? ⟨b, 3, none⟩ = some (.int .i64 op) := h.box.cell 3
  have hlt := h.box.lt
  have hA : tlP hr ss ds [lv] = if (takeP hr ss ds).2 = true then ((takeP hr ss ds).1 ++ [lv], true) else (ss, false) := rfl
  have HA := Lib.hid hA
  have hle := take_le (h := hr) (ss := ss) (ds := ds)
  have Hfl := Lib.hid (take_fails (h := hr) (ss := ss) (ds := ds))
  clear h X hsl hd1 he HO hA
  generalize tlP hr ss ds [lv] = R at *
  go_enter Tryz.func54, Tryz.ntmps54
  go_wp2_with fail
  refine HOf.out.mono ?_
  rintro e w0 ⟨A0, rfl, hr0, hb0⟩
  have HT := Lib.hid (take_any (HX.out.below (hb0.mono HS.out.los)) (HS.out.ext hb0) hm A0 ds.length ds (by omega) hr0 Hsl.out (fun x hx => Nat.le_trans (Hd1.out x hx) (by omega)))
  have HB0 := Lib.hid (hb0.mono HS.out.los)
  clear hr0 hb0 HOf HX
  generalize takeP hr ss ds = r at *
  obtain ⟨s1, ok⟩ := r
  simp only at HT HA hle Hfl
  cases ok
  · have HR := Lib.hid (show R = (ss, false) from HA.out)
    have HF := Lib.hid (Hfl.out rfl)
    clear HA Hfl
    go_wp2_with fail
    refine HT.out.mono ?_
    rintro e w1 ⟨rfl, hst, hb⟩
    have HS1 := Lib.hid hst
    have HB := Lib.hid (HB0.out.trans hb)
    clear hst hb
    go_wp2_with fail
    go_ret
    rw [HR.out]
    exact ⟨rfl, by rw [← HF.out]; exact HS1.out, HB.out⟩
  · have HR := Lib.hid (show R = (s1 ++ [lv], true) from HA.out)
    clear HA Hfl
    go_wp2_with fail
    refine HT.out.mono ?_
    rintro e w1 ⟨rfl, ⟨SV1, hst⟩, hb⟩
    have HB := Lib.hid (HB0.out.trans hb)
    have hal2 : Below w1.heap.size w1 (w1.alloc (.cells #[.string ⟨lv.toArray⟩] 9)) := (Below.refl _ _).alloc (Nat.le_refl _) _
    have HL := Lib.hid (leave_any (hst.ext hal2) (by omega) ⟨w1.heap.size, 0, none⟩ 1 [lv] (by simp) (rds_new w1 #[sv lv] 9))
    have HB3 := Lib.hid (HB.out.trans (hal2.mono hst.los))
    clear hst hb hal2 HT
    go_wp2_with fail
    refine HL.out.mono ?_
    rintro e w3 ⟨rfl, hst, hb⟩
    have HS3 := Lib.hid hst
    have HB4 := Lib.hid (HB3.out.trans hb)
    clear hst hb
    go_wp2_with fail
    go_ret
    rw [HR.out]
    exact ⟨rfl, HS3.out, HB4.out⟩
set_option maxRecDepth 100000 in
set_option maxHeartbeats 1000000 in
theorem plain_aload {lo b : Nat} {w : World} {t g : Nat} {hr : Hr} {kc : Value} {gv : T} {a : Int} {LV SV : Value} {ls ss : List T} (X : Tb lo w t g hr) (h : St lo b w t kc gv 29 a LV ls SV ss) (hm : ss.length ≤ 1000) (hsl : ∀ x ∈ ss, x.length ≤ 140737488355328) :
    Calls Tryz.prog 54 #[.pointer (some ⟨b, 0, none⟩)] w (GivesSt lo b w t kc gv 29 a LV ls (aloadP hr ss).1 (.bool (aloadP hr ss).2)) := by
  have HA := Lib.hid (array_aload X h hm hsl)
  have c3 : w.cell? ⟨b, 3, none⟩ = some (.int .i64 29) := h.box.cell 3
  have hlt := h.box.lt
  clear h X hsl
  generalize aloadP hr ss = R at *
  go_enter Tryz.func54, Tryz.ntmps54
  go_wp2_with fail
  refine (EfA.of_none (op := 29) (by decide) _).mono ?_
  rintro e w0 ⟨rfl, rfl⟩
  go_wp2_with fail
  refine HA.out.mono ?_
  rintro e w1 ⟨rfl, hst, hb⟩
  have HS := Lib.hid hst
  have HB := Lib.hid hb
  clear hst hb
  go_wp2_with fail
  go_ret
  exact ⟨rfl, HS.out, HB.out⟩

/-- what an instruction without a number of its own does to the stack -/
def doP (h : Hr) (op : Int) (ss : List T) : List T × Bool := if op = 10 then tlP h ss [[73], [73]] [[73]] else aloadP h ss
set_option maxRecDepth 100000 in
set_option maxHeartbeats 2000000 in
theorem do_any {lo b : Nat} {w : World} {t g : Nat} {hr : Hr} {kc : Value} {gv : T} {op : Int} {LV SV : Value} {ls ss : List T} (hop : op = 10 ∨ op = 29) (X : Tb lo w t g hr) (h : St lo b w t kc gv op 0 LV ls SV ss) (hm : ss.length ≤ 1000) (hsl : ∀ x ∈ ss, x.length ≤ 140737488355328) :
    Calls Tryz.prog 25 #[.pointer (some ⟨b, 0, none⟩)] w (GivesSt lo b w t kc gv op 0 LV ls (doP hr op ss).1 (.bool (doP hr op ss).2)) := by
  rcases hop with rfl | rfl
  · have HA := Lib.hid (plain_ef (op := 10) rfl X h hm hsl)
    have c3 : w.cell? ⟨b, 3, none⟩ = some (.int .i64 10) := h.box.cell 3
    have c4 : w.cell? ⟨b, 4, none⟩ = some (.int .i64 0) := h.box.cell 4
    have hlt := h.box.lt
    have HD := Lib.hid (show doP hr 10 ss = tlP hr ss [[73], [73]] [[73]] from rfl)
    rw [HD.out]
    clear h X hsl HD
    generalize tlP hr ss [[73], [73]] [[73]] = R at *
    go_enter Tryz.func25, Tryz.ntmps25
    go_wp2_with fail
    refine HA.out.mono ?_
    rintro e w1 ⟨rfl, hst, hb⟩
    have HS := Lib.hid hst
    have HB := Lib.hid hb
    clear hst hb
    go_wp2_with fail
    go_ret
    exact ⟨rfl, HS.out, HB.out⟩
  · have HA := Lib.hid (plain_aload X h hm hsl)
    have c3 : w.cell? ⟨b, 3, none⟩ = some (.int .i64 29) := h.box.cell 3
    have c4 : w.cell? ⟨b, 4, none⟩ = some (.int .i64 0) := h.box.cell 4
    have hlt := h.box.lt
    have HD := Lib.hid (show doP hr 29 ss = aloadP hr ss from rfl)
    rw [HD.out]
    clear h X hsl HD
    generalize aloadP hr ss = R at *
    go_enter Tryz.func25, Tryz.ntmps25
    go_wp2_with fail
    refine HA.out.mono ?_
    rintro e w1 ⟨rfl, hst, hb⟩
    have HS := Lib.hid hst
    have HB := Lib.hid hb
    clear hst hb
    go_wp2_with fail
    go_ret
    exact ⟨rfl, HS.out, HB.out⟩

/-- a frame that is handed back, and an error -/
def GivesF (w : World) (r : Option (List T × List T)) (e : Ending) (w' : World) : Prop :=
  (match r with
    | some (ls, ss) => ∃ A c B d, e = .returned (.tuple #[.agg #[.slice A ls.length c, .slice B ss.length d], .int .i64 0]) ∧ Rds w' A (ls.map sv) ∧ Rds w' B (ss.map sv)
    | none => e = .returned (.tuple #[.agg #[.slice none 0 0, .slice none 0 0], .int .i64 16])) ∧ Below w.heap.size w w'
def stepP (h : Hr) (op : Int) (ls ss : List T) : Option (List T × List T) := if (doP h op ss).2 = true ∧ (doP h op ss).1.length ≤ 16 then some (ls, (doP h op ss).1) else none
theorem sizeFr : (Tryz.prog.info? 34).map (·.size) = some 2 := by kernel_rfl

/-- seven cells of a box, written -/
def sev (w : World) (b : Nat) (v0 v1 v2 v3 v4 v5 v6 : Value) : World := ((((((w.setCell ⟨b, 0, none⟩ v0).setCell ⟨b, 1, none⟩ v1).setCell ⟨b, 2, none⟩ v2).setCell ⟨b, 3, none⟩ v3).setCell ⟨b, 4, none⟩ v4).setCell ⟨b, 5, none⟩ v5).setCell ⟨b, 6, none⟩ v6
theorem sev_bx {w : World} {b : Nat} {ty : TypeId} {u0 u1 u2 u3 u4 u5 u6 : Value} (h : Bx w b #[u0, u1, u2, u3, u4, u5, u6] ty) (v0 v1 v2 v3 v4 v5 v6 : Value) : Bx (sev w b v0 v1 v2 v3 v4 v5 v6) b #[v0, v1, v2, v3, v4, v5, v6] ty := by
  have h0 : Bx (w.setCell ⟨b, 0, none⟩ v0) b #[v0, u1, u2, u3, u4, u5, u6] ty := h.set 0 v0
  have h1 : Bx ((w.setCell ⟨b, 0, none⟩ v0).setCell ⟨b, 1, none⟩ v1) b #[v0, v1, u2, u3, u4, u5, u6] ty := h0.set 1 v1
  have h2 : Bx (((w.setCell ⟨b, 0, none⟩ v0).setCell ⟨b, 1, none⟩ v1).setCell ⟨b, 2, none⟩ v2) b #[v0, v1, v2, u3, u4, u5, u6] ty := h1.set 2 v2
  have h3 : Bx ((((w.setCell ⟨b, 0, none⟩ v0).setCell ⟨b, 1, none⟩ v1).setCell ⟨b, 2, none⟩ v2).setCell ⟨b, 3, none⟩ v3) b #[v0, v1, v2, v3, u4, u5, u6] ty := h2.set 3 v3
  have h4 : Bx (((((w.setCell ⟨b, 0, none⟩ v0).setCell ⟨b, 1, none⟩ v1).setCell ⟨b, 2, none⟩ v2).setCell ⟨b, 3, none⟩ v3).setCell ⟨b, 4, none⟩ v4) b #[v0, v1, v2, v3, v4, u5, u6] ty := h3.set 4 v4
  have h5 : Bx ((((((w.setCell ⟨b, 0, none⟩ v0).setCell ⟨b, 1, none⟩ v1).setCell ⟨b, 2, none⟩ v2).setCell ⟨b, 3, none⟩ v3).setCell ⟨b, 4, none⟩ v4).setCell ⟨b, 5, none⟩ v5) b #[v0, v1, v2, v3, v4, v5, u6] ty := h4.set 5 v5
  have h6 : Bx (((((((w.setCell ⟨b, 0, none⟩ v0).setCell ⟨b, 1, none⟩ v1).setCell ⟨b, 2, none⟩ v2).setCell ⟨b, 3, none⟩ v3).setCell ⟨b, 4, none⟩ v4).setCell ⟨b, 5, none⟩ v5).setCell ⟨b, 6, none⟩ v6) b #[v0, v1, v2, v3, v4, v5, v6] ty := h5.set 6 v6
  exact h6
theorem sev_block (w : World) (b : Nat) (v0 v1 v2 v3 v4 v5 v6 : Value) (k : Nat) (hk : k ≠ b) : (sev w b v0 v1 v2 v3 v4 v5 v6).heap[k]? = w.heap[k]? :=
  (heap_setCell_other _ ⟨b, 6, none⟩ k v6 hk).trans ((heap_setCell_other _ ⟨b, 5, none⟩ k v5 hk).trans ((heap_setCell_other _ ⟨b, 4, none⟩ k v4 hk).trans ((heap_setCell_other _ ⟨b, 3, none⟩ k v3 hk).trans ((heap_setCell_other _ ⟨b, 2, none⟩ k v2 hk).trans ((heap_setCell_other _ ⟨b, 1, none⟩ k v1 hk).trans (heap_setCell_other w ⟨b, 0, none⟩ k v0 hk))))))
theorem sev_below {lo : Nat} {a w : World} (h : Below lo a w) {b : Nat} (hb : lo ≤ b) (v0 v1 v2 v3 v4 v5 v6 : Value) : Below lo a (sev w b v0 v1 v2 v3 v4 v5 v6) :=
  ((((((h.setCell hb v0 (p := ⟨b, 0, none⟩)).setCell hb v1 (p := ⟨b, 1, none⟩)).setCell hb v2 (p := ⟨b, 2, none⟩)).setCell hb v3 (p := ⟨b, 3, none⟩)).setCell hb v4 (p := ⟨b, 4, none⟩)).setCell hb v5 (p := ⟨b, 5, none⟩)).setCell hb v6 (p := ⟨b, 6, none⟩)
theorem st_put {lo b : Nat} {w : World} {t : Nat} {kc : Value} {gv : T} {op a : Int} {LV SV : Value} {ls ss : List T} {u0 u1 u2 u3 u4 u5 u6 : Value} (hlo : lo ≤ b) (hbx : Bx w b #[u0, u1, u2, u3, u4, u5, u6] 66) (hl : OwnT w lo LV ls) (hs : OwnT w lo SV ss) (nl : LV.ownBlock ≠ some b) (ns : SV.ownBlock ≠ some b) (ap : ∀ k, LV.ownBlock = some k → SV.ownBlock ≠ some k) :
    St lo b (sev w b (.pointer (some ⟨t, 0, none⟩)) kc (.string ⟨gv.toArray⟩) (.int .i64 op) (.int .i64 a) LV SV) t kc gv op a LV ls SV ss :=
  ⟨sev_bx hbx _ _ _ _ _ _ _, hlo, TabM.own_same hl (fun k hk => sev_block _ _ _ _ _ _ _ _ _ k (fun e => nl (by rw [hk, e]))), TabM.own_same hs (fun k hk => sev_block _ _ _ _ _ _ _ _ _ k (fun e => ns (by rw [hk, e]))), nl, ns, ap⟩
theorem st_new {lo : Nat} {w : World} {t : Nat} {kc : Value} {gv : T} {op a : Int} {LV SV : Value} {ls ss : List T} (hlo : lo ≤ w.heap.size) (hl : OwnT w lo LV ls) (hs : OwnT w lo SV ss) (ap : ∀ k, LV.ownBlock = some k → SV.ownBlock ≠ some k) :
    St lo w.heap.size (w.alloc (.cells (stV t kc gv op a LV SV) 66)) t kc gv op a LV ls SV ss :=
  ⟨Bx.new w _ _, hlo, World.ownsRow.alloc hl _, World.ownsRow.alloc hs _, fun e => by have := (World.ownsRow.lt hl _ e).2; omega, fun e => by have := (World.ownsRow.lt hs _ e).2; omega, ap⟩
theorem apart_of {w4 w5 : World} {lo B : Nat} {LV SV : Value} {ls ss : List T} (h4 : OwnT w4 lo LV ls) (h5 : OwnT w5 B SV ss) (hB : w4.heap.size ≤ B) : ∀ k, LV.ownBlock = some k → SV.ownBlock ≠ some k := fun k h1 h2 => by
  have := (World.ownsRow.lt h4 k h1).2
  have := (World.ownsRow.lt h5 k h2).1
  omega

theorem Tb.mono {lo lo' : Nat} {w : World} {t g : Nat} {h : Hr} (H : Tb lo w t g h) (hl : lo ≤ lo') : Tb lo' w t g h := ⟨H.box, by have := H.low; omega, H.hier.mono hl, H.good⟩
theorem two_block (w : World) (g : Nat) (x y : Value) (k : Nat) (hk : k ≠ g) : ((w.setCell ⟨g, 0, none⟩ x).setCell ⟨g, 1, none⟩ y).heap[k]? = w.heap[k]? :=
  (heap_setCell_other _ ⟨g, 1, none⟩ k y hk).trans (heap_setCell_other w ⟨g, 0, none⟩ k x hk)
theorem two_bx {w : World} {g : Nat} {ty : TypeId} {u0 u1 : Value} (h : Bx w g #[u0, u1] ty) (x y : Value) : Bx ((w.setCell ⟨g, 0, none⟩ x).setCell ⟨g, 1, none⟩ y) g #[x, y] ty := (h.set 0 x).set 1 y
theorem two_rds {w : World} {A : Option Addr} {xs : List Value} (h : Rds w A xs) {g : Nat} (x y : Value) (hA : ∀ a, A = some a → a.block ≠ g) : Rds ((w.setCell ⟨g, 0, none⟩ x).setCell ⟨g, 1, none⟩ y) A xs :=
  TabN.rds_same h (by simp [World.setCell]) (fun a ha => two_block w g x y a.block (hA a ha))
theorem two_below {lo : Nat} {a w : World} (h : Below lo a w) {g : Nat} (hg : lo ≤ g) (x y : Value) : Below lo a ((w.setCell ⟨g, 0, none⟩ x).setCell ⟨g, 1, none⟩ y) := (h.setCell hg x (p := ⟨g, 0, none⟩)).setCell hg y (p := ⟨g, 1, none⟩)
theorem sev_def (w : World) (b : Nat) (v0 v1 v2 v3 v4 v5 v6 : Value) : ((((((w.setCell ⟨b, 0, none⟩ v0).setCell ⟨b, 1, none⟩ v1).setCell ⟨b, 2, none⟩ v2).setCell ⟨b, 3, none⟩ v3).setCell ⟨b, 4, none⟩ v4).setCell ⟨b, 5, none⟩ v5).setCell ⟨b, 6, none⟩ v6 = sev w b v0 v1 v2 v3 v4 v5 v6 := rfl

set_option maxRecDepth 100000 in
set_option maxHeartbeats 4000000 in
theorem step_any {w : World} {t g : Nat} {hr : Hr} {lo0 : Nat} (hlo : lo0 ≤ w.heap.size) (X : Tb lo0 w t g hr) (kA : Option Addr) (km kc : Nat) (gv : T) (op : Int) (hop : op = 10 ∨ op = 29) (A : Option Addr) (c : Nat) (ls : List T) (B : Option Addr) (d : Nat) (ss : List T) (hA : Rds w A (ls.map sv)) (hB : Rds w B (ss.map sv)) (hm : ss.length ≤ 500) (hl : ls.length ≤ 500) (hsl : ∀ x ∈ ss, x.length ≤ 140737488355328) :
    Calls Tryz.prog 9 #[.pointer (some ⟨t, 0, none⟩), .slice kA km kc, .string ⟨gv.toArray⟩, .agg #[.int .i64 op, .int .i64 0], .agg #[.slice A ls.length c, .slice B ss.length d]] w (GivesF w (stepP hr op ls ss)) := by
  have hb1 : Below w.heap.size w (((w.alloc (.cells #[.int .i64 op, .int .i64 0] 24)).alloc (.cells #[.slice A ls.length c, .slice B ss.length d] 34)).alloc (.cells #[.slice none 0 0, .slice none 0 0] 34)) := (((Below.refl _ _).alloc (Nat.le_refl _) _).alloc (by simp) _).alloc (by simp; omega) _
  have e1 : (w.alloc (.cells #[.int .i64 op, .int .i64 0] 24)).heap.size = w.heap.size + 1 := by simp
  have e2 : ((w.alloc (.cells #[.int .i64 op, .int .i64 0] 24)).alloc (.cells #[.slice A ls.length c, .slice B ss.length d] 34)).heap.size = w.heap.size + 1 + 1 := by simp
  have hx1 := TabZ.bx_al (TabZ.bx_al (Bx.new w #[.int .i64 op, .int .i64 0] 24) (.cells #[.slice A ls.length c, .slice B ss.length d] 34)) (.cells #[.slice none 0 0, .slice none 0 0] 34)
  have hx2 := TabZ.bx_al (Bx.new (w.alloc (.cells #[.int .i64 op, .int .i64 0] 24)) #[.slice A ls.length c, .slice B ss.length d] 34) (.cells #[.slice none 0 0, .slice none 0 0] 34)
  have hx3 := Bx.new ((w.alloc (.cells #[.int .i64 op, .int .i64 0] 24)).alloc (.cells #[.slice A ls.length c, .slice B ss.length d] 34)) #[.slice none 0 0, .slice none 0 0] 34
  rw [e1] at hx2
  rw [e2] at hx3
  have hs3 : (((w.alloc (.cells #[.int .i64 op, .int .i64 0] 24)).alloc (.cells #[.slice A ls.length c, .slice B ss.length d] 34)).alloc (.cells #[.slice none 0 0, .slice none 0 0] 34)).heap.size = w.heap.size + 3 := by simp
  obtain ⟨W3, hW3⟩ : ∃ W, (((w.alloc (.cells #[.int .i64 op, .int .i64 0] 24)).alloc (.cells #[.slice A ls.length c, .slice B ss.length d] 34)).alloc (.cells #[.slice none 0 0, .slice none 0 0] 34)) = W := ⟨_, rfl⟩
  rw [hW3] at hb1 hx1 hx2 hx3 hs3
  have hs3a : w.heap.size + 2 < W3.heap.size := by omega
  have Hs3 := Lib.hid hs3
  clear hs3
  have hX3 := X.below (hb1.mono hlo)
  have HX3 := Lib.hid hX3
  have HB3 := Lib.hid hb1
  have H1 := Lib.hid hx1
  have H2 := Lib.hid hx2
  have H3 := Lib.hid hx3
  have HC1 : Hid (∀ W, Below W3.heap.size W3 W → Calls Tryz.prog 24 #[.slice A ls.length c] W fun e w' => ∃ A1 c1, e = .returned (.slice A1 ls.length c1) ∧ OwnT w' W.heap.size (.slice A1 ls.length c1) ls ∧ Below W.heap.size W w') := Lib.hid (fun W hb => (clone_l A ls.length c ls W rfl (by omega) ((hA.below hb1).below hb)).mono (fun e w' ⟨v, h1, h2, h3⟩ => by
    obtain ⟨A1, c1, rfl, _⟩ := h2.slice
    exact ⟨A1, c1, h1, h2, h3⟩))
  have HC2 : Hid (∀ W, Below W3.heap.size W3 W → Calls Tryz.prog 24 #[.slice B ss.length d] W fun e w' => ∃ A1 c1, e = .returned (.slice A1 ss.length c1) ∧ OwnT w' W.heap.size (.slice A1 ss.length c1) ss ∧ Below W.heap.size W w') := Lib.hid (fun W hb => (clone_l B ss.length d ss W rfl (by omega) ((hB.below hb1).below hb)).mono (fun e w' ⟨v, h1, h2, h3⟩ => by
    obtain ⟨A1, c1, rfl, _⟩ := h2.slice
    exact ⟨A1, c1, h1, h2, h3⟩))
  have Hsl := Lib.hid hsl
  have a0 : W3.cell? ⟨w.heap.size, 0, none⟩ = some (.int .i64 op) := hx1.cell 0
  have a1 : W3.cell? ⟨w.heap.size, 1, none⟩ = some (.int .i64 0) := hx1.cell 1
  have a2 : W3.cell? ⟨w.heap.size + 1, 0, none⟩ = some (.slice A ls.length c) := hx2.cell 0
  have a3 : W3.cell? ⟨w.heap.size + 1, 1, none⟩ = some (.slice B ss.length d) := hx2.cell 1
  clear e1 e2 hx1 hx2 hx3 hb1 X hX3 hA hB hsl
  go_enter Tryz.func9, Tryz.ntmps9
  go_wp2_with fail
  clear hW3
  have hB0 := Below.refl W3.heap.size W3
  have hB1 := hB0.drew
  go_region_held3 (fun w' => w'.cell? ⟨w.heap.size, 0, none⟩ = some (.int .i64 op) ∧ w'.cell? ⟨w.heap.size, 1, none⟩ = some (.int .i64 0) ∧ w'.cell? ⟨w.heap.size + 1, 0, none⟩ = some (.slice A ls.length c) ∧ w'.cell? ⟨w.heap.size + 1, 1, none⟩ = some (.slice B ss.length d))
    (first | (with_reducible exact ⟨a0, a1, a2, a3⟩) | (with_reducible exact ⟨x0, x1, x2, x3⟩) | (with_reducible exact ⟨y0, y1, y2, y3⟩) | go_keep)
    (first
      | (go_at_call 24
         have hG := hG1
         clear hG
         with_reducible refine (HC2.out _ hB4).mono ?_
         rintro e w5 ⟨A5, c5, rfl, ho5, hb5⟩
         have hB5 := hB4.trans (hb5.mono hB4.size)
         have y0 : w5.cell? ⟨w.heap.size, 0, none⟩ = some (.int .i64 op) := (H1.out.after hB5).cell 0
         have y1 : w5.cell? ⟨w.heap.size, 1, none⟩ = some (.int .i64 0) := (H1.out.after hB5).cell 1
         have y2 : w5.cell? ⟨w.heap.size + 1, 0, none⟩ = some (.slice A ls.length c) := (H2.out.after hB5).cell 0
         have y3 : w5.cell? ⟨w.heap.size + 1, 1, none⟩ = some (.slice B ss.length d) := (H2.out.after hB5).cell 1
         try
           have hQ := hP1.after hb5
           have q0 : w5.cell? ⟨W3.heap.size, 0, none⟩ = some (.pointer none) := hQ.cell 0
           have r0 : w5.frozen? ⟨W3.heap.size, 0, none⟩ = false := hQ.free 0
           have q1 : w5.cell? ⟨W3.heap.size, 1, none⟩ = some (.slice none 0 0) := hQ.cell 1
           have r1 : w5.frozen? ⟨W3.heap.size, 1, none⟩ = false := hQ.free 1
           have q2 : w5.cell? ⟨W3.heap.size, 2, none⟩ = some (.string ⟨#[]⟩) := hQ.cell 2
           have r2 : w5.frozen? ⟨W3.heap.size, 2, none⟩ = false := hQ.free 2
           have q3 : w5.cell? ⟨W3.heap.size, 3, none⟩ = some (.int .i64 0) := hQ.cell 3
           have r3 : w5.frozen? ⟨W3.heap.size, 3, none⟩ = false := hQ.free 3
           have q4 : w5.cell? ⟨W3.heap.size, 4, none⟩ = some (.int .i64 0) := hQ.cell 4
           have r4 : w5.frozen? ⟨W3.heap.size, 4, none⟩ = false := hQ.free 4
           have q5 : w5.cell? ⟨W3.heap.size, 5, none⟩ = some (.slice none 0 0) := hQ.cell 5
           have r5 : w5.frozen? ⟨W3.heap.size, 5, none⟩ = false := hQ.free 5
           have q6 : w5.cell? ⟨W3.heap.size, 6, none⟩ = some (.slice none 0 0) := hQ.cell 6
           have r6 : w5.frozen? ⟨W3.heap.size, 6, none⟩ = false := hQ.free 6
           have ql := hQ.lt
           have hz : w.heap.size + 2 < W3.heap.size := hs3a
           have n0 : ¬ W3.heap.size = w.heap.size := by omega
           have n1 : ¬ w.heap.size = W3.heap.size := by omega
           have n2 : ¬ W3.heap.size = w.heap.size + 1 := by omega
           have n3 : ¬ w.heap.size + 1 = W3.heap.size := by omega
           have n4 : ¬ W3.heap.size = w.heap.size + 1 + 1 := by omega
           have n5 : ¬ w.heap.size + 1 + 1 = W3.heap.size := by omega)
      | (go_at_call 24
         have hG := hG1
         clear hG
         with_reducible refine (HC2.out _ (hB4.alloc hB4.size _)).mono ?_
         rintro e w5 ⟨A5, c5, rfl, ho5, hb5⟩
         have hP2 := (Bx.new w4 #[.pointer none, .slice none 0 0, .string ⟨#[]⟩, .int .i64 0, .int .i64 0, .slice none 0 0, .slice none 0 0] 66).after hb5
         have hB5 := (hB4.alloc hB4.size _).trans (hb5.mono (hB4.alloc hB4.size _).size)
         have y0 : w5.cell? ⟨w.heap.size, 0, none⟩ = some (.int .i64 op) := (H1.out.after hB5).cell 0
         have y1 : w5.cell? ⟨w.heap.size, 1, none⟩ = some (.int .i64 0) := (H1.out.after hB5).cell 1
         have y2 : w5.cell? ⟨w.heap.size + 1, 0, none⟩ = some (.slice A ls.length c) := (H2.out.after hB5).cell 0
         have y3 : w5.cell? ⟨w.heap.size + 1, 1, none⟩ = some (.slice B ss.length d) := (H2.out.after hB5).cell 1
         have q0 : w5.cell? ⟨w4.heap.size, 0, none⟩ = some (.pointer none) := hP2.cell 0
         have r0 : w5.frozen? ⟨w4.heap.size, 0, none⟩ = false := hP2.free 0
         have q1 : w5.cell? ⟨w4.heap.size, 1, none⟩ = some (.slice none 0 0) := hP2.cell 1
         have r1 : w5.frozen? ⟨w4.heap.size, 1, none⟩ = false := hP2.free 1
         have q2 : w5.cell? ⟨w4.heap.size, 2, none⟩ = some (.string ⟨#[]⟩) := hP2.cell 2
         have r2 : w5.frozen? ⟨w4.heap.size, 2, none⟩ = false := hP2.free 2
         have q3 : w5.cell? ⟨w4.heap.size, 3, none⟩ = some (.int .i64 0) := hP2.cell 3
         have r3 : w5.frozen? ⟨w4.heap.size, 3, none⟩ = false := hP2.free 3
         have q4 : w5.cell? ⟨w4.heap.size, 4, none⟩ = some (.int .i64 0) := hP2.cell 4
         have r4 : w5.frozen? ⟨w4.heap.size, 4, none⟩ = false := hP2.free 4
         have q5 : w5.cell? ⟨w4.heap.size, 5, none⟩ = some (.slice none 0 0) := hP2.cell 5
         have r5 : w5.frozen? ⟨w4.heap.size, 5, none⟩ = false := hP2.free 5
         have q6 : w5.cell? ⟨w4.heap.size, 6, none⟩ = some (.slice none 0 0) := hP2.cell 6
         have r6 : w5.frozen? ⟨w4.heap.size, 6, none⟩ = false := hP2.free 6
         have ql := hP2.lt
         have hz : w.heap.size + 2 < w4.heap.size := by have := hB4.size; omega
         have n0 : ¬ w4.heap.size = w.heap.size := by omega
         have n1 : ¬ w.heap.size = w4.heap.size := by omega
         have n2 : ¬ w4.heap.size = w.heap.size + 1 := by omega
         have n3 : ¬ w.heap.size + 1 = w4.heap.size := by omega
         have n4 : ¬ w4.heap.size = w.heap.size + 1 + 1 := by omega
         have n5 : ¬ w.heap.size + 1 + 1 = w4.heap.size := by omega)
      | (go_at_call 24
         with_reducible refine (HC1.out _ hB1).mono ?_
         rintro e w4 ⟨A4, c4, rfl, ho4, hb4⟩
         have hG1 := hb4
         have hB4 := hB1.trans (hb4.mono hB1.size)
         have x0 : w4.cell? ⟨w.heap.size, 0, none⟩ = some (.int .i64 op) := (H1.out.after hB4).cell 0
         have x1 : w4.cell? ⟨w.heap.size, 1, none⟩ = some (.int .i64 0) := (H1.out.after hB4).cell 1
         have x2 : w4.cell? ⟨w.heap.size + 1, 0, none⟩ = some (.slice A ls.length c) := (H2.out.after hB4).cell 0
         have x3 : w4.cell? ⟨w.heap.size + 1, 1, none⟩ = some (.slice B ss.length d) := (H2.out.after hB4).cell 1)
      | (go_at_call 24
         with_reducible refine (HC1.out _ (hB0.alloc hB0.size _).drew).mono ?_
         rintro e w4 ⟨A4, c4, rfl, ho4, hb4⟩
         have hP1 := Bx.after (w := (W3.alloc (.cells #[.pointer none, .slice none 0 0, .string ⟨#[]⟩, .int .i64 0, .int .i64 0, .slice none 0 0, .slice none 0 0] 66)).drew) (Bx.new W3 #[.pointer none, .slice none 0 0, .string ⟨#[]⟩, .int .i64 0, .int .i64 0, .slice none 0 0, .slice none 0 0] 66) hb4
         have hG1 := hb4
         have hB4 := (hB0.alloc hB0.size _).drew.trans (hb4.mono (hB0.alloc hB0.size _).drew.size)
         have x0 : w4.cell? ⟨w.heap.size, 0, none⟩ = some (.int .i64 op) := (H1.out.after hB4).cell 0
         have x1 : w4.cell? ⟨w.heap.size, 1, none⟩ = some (.int .i64 0) := (H1.out.after hB4).cell 1
         have x2 : w4.cell? ⟨w.heap.size + 1, 0, none⟩ = some (.slice A ls.length c) := (H2.out.after hB4).cell 0
         have x3 : w4.cell? ⟨w.heap.size + 1, 1, none⟩ = some (.slice B ss.length d) := (H2.out.after hB4).cell 1))
  · rename_i hHeld
    have l5 : OwnT w5 W3.heap.size (.slice A4 ls.length c4) ls := own_ext ho4 hb5
    have s5 : OwnT w5 W3.heap.size (.slice A5 ss.length c5) ss := own_mono ho5 hB4.size
    have HSt := Lib.hid (st_new (t := t) (kc := .slice kA km kc) (gv := gv) (op := op) (a := 0) hB5.size l5 s5 (apart_of ho4 ho5 (Nat.le_refl _)))
    have HBB := Lib.hid (hB5.alloc hB5.size (.cells (stV t (.slice kA km kc) gv op 0 (.slice A4 ls.length c4) (.slice A5 ss.length c5)) 66))
    simp only [stV] at HSt HBB
    clear hHeld x0 x1 x2 x3 y0 y1 y2 y3 hB4 hB5 hb4 hb5 hG1 ho4 ho5 l5 s5
    generalize w5.alloc (.cells #[.pointer (some ⟨t, 0, none⟩), .slice kA km kc, .string ⟨gv.toArray⟩, .int .i64 op, .int .i64 0, .slice A4 ls.length c4, .slice A5 ss.length c5] 66) = WF at *
    generalize w5.heap.size = bb at *
    have HXF := (Tb.mono HX3.out (by omega : lo0 ≤ W3.heap.size)).below HBB.out
    have HD := Lib.hid (do_any hop HXF HSt.out (by omega) Hsl.out)
    have hstep : stepP hr op ls ss = if (doP hr op ss).2 = true ∧ (doP hr op ss).1.length ≤ 16 then some (ls, (doP hr op ss).1) else none := rfl
    have HStep := Lib.hid hstep
    clear HXF hstep HSt hB0 hB1 a0 a1 a2 a3 hop HX3 H1 H2 HC1 HC2 Hsl
    generalize stepP hr op ls ss = F at *
    generalize doP hr op ss = R at *
    obtain ⟨s2, ok⟩ := R
    simp only at HD HStep
    go_wp2_with fail
    refine HD.out.mono ?_
    rintro e w6 ⟨rfl, ⟨SV6, hst⟩, hb⟩
    obtain ⟨A6, c6, rfl, _, _, r6, ha6⟩ := hst.stk.slice
    obtain ⟨A7, c7, e7, _, _, r7, ha7⟩ := hst.loc.slice
    injection e7 with e7a _ e7c
    subst e7a
    subst e7c
    have q5 : w6.cell? ⟨bb, 5, none⟩ = some (.slice A4 ls.length c4) := hst.box.cell 5
    have q6 : w6.cell? ⟨bb, 6, none⟩ = some (.slice A6 s2.length c6) := hst.box.cell 6
    have qlt := hst.box.lt
    have X6 := Lib.hid (H3.out.after (HBB.out.trans hb))
    have g0 := X6.out.free 0
    have g1 := X6.out.free 1
    have k0 : w6.cell? ⟨w.heap.size + 1 + 1, 0, none⟩ = some (.slice none 0 0) := X6.out.cell 0
    have k1 : w6.cell? ⟨w.heap.size + 1 + 1, 1, none⟩ = some (.slice none 0 0) := X6.out.cell 1
    have klt := X6.out.lt
    have HB6 := Lib.hid (HB3.out.trans ((HBB.out.trans hb).mono HB3.out.size))
    have R6 := Lib.hid r6
    have R7 := Lib.hid r7
    have HA6 : Hid (∀ a, A6 = some a → a.block ≠ w.heap.size + 1 + 1) := Lib.hid (fun a ha => by have := (ha6 a ha).1; omega)
    have HA7 : Hid (∀ a, A4 = some a → a.block ≠ w.heap.size + 1 + 1) := Lib.hid (fun a ha => by have := (ha7 a ha).1; omega)
    clear hst hb r6 r7 ha6 ha7 HD H3 HB3 HBB
    cases ok
    · have HF := Lib.hid (show F = none from HStep.out)
      go_wp2_with fail
      have HW := two_bx X6.out (.slice none 0 0) (.slice none 0 0)
      rw [HF.out]
      exact bodyPost_ret (v := .tuple #[.agg #[.slice none 0 0, .slice none 0 0], .int .i64 16]) (result2 Tryz.results9 _ _ _ _ rfl (run_loadVar_row _ _ _ _ #[.slice none 0 0, .slice none 0 0] (0, 0) _ HW Tryz.underlying34 rfl sizeFr)) rfl ⟨rfl, two_below HB6.out (by omega) _ _⟩
    · by_cases h16 : s2.length ≤ 16
      · have HF := Lib.hid (show F = some (ls, s2) by rw [HStep.out, if_pos ⟨rfl, h16⟩])
        go_wp2_with fail
        have HW := two_bx X6.out (.slice A4 ls.length c4) (.slice A6 s2.length c6)
        rw [HF.out]
        exact bodyPost_ret (v := .tuple #[.agg #[.slice A4 ls.length c4, .slice A6 s2.length c6], .int .i64 0]) (result2 Tryz.results9 _ _ _ _ rfl (run_loadVar_row _ _ _ _ #[.slice A4 ls.length c4, .slice A6 s2.length c6] (0, 0) _ HW Tryz.underlying34 rfl sizeFr)) rfl
          ⟨⟨A4, c4, A6, c6, rfl, two_rds R7.out _ _ HA7.out, two_rds R6.out _ _ HA6.out⟩, two_below HB6.out (by omega) _ _⟩
      · have HF := Lib.hid (show F = none by rw [HStep.out, if_neg (by simp; omega)])
        have h17 : 16 < s2.length := by omega
        go_wp2_with fail
        have HW := two_bx X6.out (.slice none 0 0) (.slice none 0 0)
        rw [HF.out]
        exact bodyPost_ret (v := .tuple #[.agg #[.slice none 0 0, .slice none 0 0], .int .i64 16]) (result2 Tryz.results9 _ _ _ _ rfl (run_loadVar_row _ _ _ _ #[.slice none 0 0, .slice none 0 0] (0, 0) _ HW Tryz.underlying34 rfl sizeFr)) rfl ⟨rfl, two_below HB6.out (by omega) _ _⟩
  · rename_i hHeld
    have l5 : OwnT w5 W3.heap.size (.slice A4 ls.length c4) ls := own_ext (World.ownsRow.alloc ho4 _) hb5
    have s5 : OwnT w5 W3.heap.size (.slice A5 ss.length c5) ss := own_mono ho5 (hB4.alloc hB4.size _).size
    have HSt := Lib.hid (st_put (t := t) (kc := .slice kA km kc) (gv := gv) (op := op) (a := 0) hB4.size hP2 l5 s5 (fun e => by have := (World.ownsRow.lt ho4 _ e).2; omega) (fun e => by have := (World.ownsRow.lt ho5 _ e).1; simp at this; omega) (apart_of ho4 ho5 (by simp)))
    have HBB := Lib.hid (sev_below hB5 hB4.size (.pointer (some ⟨t, 0, none⟩)) (.slice kA km kc) (.string ⟨gv.toArray⟩) (.int .i64 op) (.int .i64 0) (.slice A4 ls.length c4) (.slice A5 ss.length c5))
    rw [sev_def]
    clear hHeld x0 x1 x2 x3 y0 y1 y2 y3 hB4 hB5 hb4 hb5 hG1 ho4 ho5 l5 s5 hP2 q0 q1 q2 q3 q4 q5 q6 r0 r1 r2 r3 r4 r5 r6 ql hz n0 n1 n2 n3 n4 n5
    generalize sev w5 w4.heap.size (.pointer (some ⟨t, 0, none⟩)) (.slice kA km kc) (.string ⟨gv.toArray⟩) (.int .i64 op) (.int .i64 0) (.slice A4 ls.length c4) (.slice A5 ss.length c5) = WF at *
    generalize w4.heap.size = bb at *
    have HXF := (Tb.mono HX3.out (by omega : lo0 ≤ W3.heap.size)).below HBB.out
    have HD := Lib.hid (do_any hop HXF HSt.out (by omega) Hsl.out)
    have hstep : stepP hr op ls ss = if (doP hr op ss).2 = true ∧ (doP hr op ss).1.length ≤ 16 then some (ls, (doP hr op ss).1) else none := rfl
    have HStep := Lib.hid hstep
    clear HXF hstep HSt hB0 hB1 a0 a1 a2 a3 hop HX3 H1 H2 HC1 HC2 Hsl
    generalize stepP hr op ls ss = F at *
    generalize doP hr op ss = R at *
    obtain ⟨s2, ok⟩ := R
    simp only at HD HStep
    go_wp2_with fail
    refine HD.out.mono ?_
    rintro e w6 ⟨rfl, ⟨SV6, hst⟩, hb⟩
    obtain ⟨A6, c6, rfl, _, _, r6, ha6⟩ := hst.stk.slice
    obtain ⟨A7, c7, e7, _, _, r7, ha7⟩ := hst.loc.slice
    injection e7 with e7a _ e7c
    subst e7a
    subst e7c
    have q5 : w6.cell? ⟨bb, 5, none⟩ = some (.slice A4 ls.length c4) := hst.box.cell 5
    have q6 : w6.cell? ⟨bb, 6, none⟩ = some (.slice A6 s2.length c6) := hst.box.cell 6
    have qlt := hst.box.lt
    have X6 := Lib.hid (H3.out.after (HBB.out.trans hb))
    have g0 := X6.out.free 0
    have g1 := X6.out.free 1
    have k0 : w6.cell? ⟨w.heap.size + 1 + 1, 0, none⟩ = some (.slice none 0 0) := X6.out.cell 0
    have k1 : w6.cell? ⟨w.heap.size + 1 + 1, 1, none⟩ = some (.slice none 0 0) := X6.out.cell 1
    have klt := X6.out.lt
    have HB6 := Lib.hid (HB3.out.trans ((HBB.out.trans hb).mono HB3.out.size))
    have R6 := Lib.hid r6
    have R7 := Lib.hid r7
    have HA6 : Hid (∀ a, A6 = some a → a.block ≠ w.heap.size + 1 + 1) := Lib.hid (fun a ha => by have := (ha6 a ha).1; omega)
    have HA7 : Hid (∀ a, A4 = some a → a.block ≠ w.heap.size + 1 + 1) := Lib.hid (fun a ha => by have := (ha7 a ha).1; omega)
    clear hst hb r6 r7 ha6 ha7 HD H3 HB3 HBB
    cases ok
    · have HF := Lib.hid (show F = none from HStep.out)
      go_wp2_with fail
      have HW := two_bx X6.out (.slice none 0 0) (.slice none 0 0)
      rw [HF.out]
      exact bodyPost_ret (v := .tuple #[.agg #[.slice none 0 0, .slice none 0 0], .int .i64 16]) (result2 Tryz.results9 _ _ _ _ rfl (run_loadVar_row _ _ _ _ #[.slice none 0 0, .slice none 0 0] (0, 0) _ HW Tryz.underlying34 rfl sizeFr)) rfl ⟨rfl, two_below HB6.out (by omega) _ _⟩
    · by_cases h16 : s2.length ≤ 16
      · have HF := Lib.hid (show F = some (ls, s2) by rw [HStep.out, if_pos ⟨rfl, h16⟩])
        go_wp2_with fail
        have HW := two_bx X6.out (.slice A4 ls.length c4) (.slice A6 s2.length c6)
        rw [HF.out]
        exact bodyPost_ret (v := .tuple #[.agg #[.slice A4 ls.length c4, .slice A6 s2.length c6], .int .i64 0]) (result2 Tryz.results9 _ _ _ _ rfl (run_loadVar_row _ _ _ _ #[.slice A4 ls.length c4, .slice A6 s2.length c6] (0, 0) _ HW Tryz.underlying34 rfl sizeFr)) rfl
          ⟨⟨A4, c4, A6, c6, rfl, two_rds R7.out _ _ HA7.out, two_rds R6.out _ _ HA6.out⟩, two_below HB6.out (by omega) _ _⟩
      · have HF := Lib.hid (show F = none by rw [HStep.out, if_neg (by simp; omega)])
        have h17 : 16 < s2.length := by omega
        go_wp2_with fail
        have HW := two_bx X6.out (.slice none 0 0) (.slice none 0 0)
        rw [HF.out]
        exact bodyPost_ret (v := .tuple #[.agg #[.slice none 0 0, .slice none 0 0], .int .i64 16]) (result2 Tryz.results9 _ _ _ _ rfl (run_loadVar_row _ _ _ _ #[.slice none 0 0, .slice none 0 0] (0, 0) _ HW Tryz.underlying34 rfl sizeFr)) rfl ⟨rfl, two_below HB6.out (by omega) _ _⟩
  · rename_i hHeld
    have l5 : OwnT w5 W3.heap.size (.slice A4 ls.length c4) ls := own_ext (own_mono ho4 (by simp)) hb5
    have s5 : OwnT w5 W3.heap.size (.slice A5 ss.length c5) ss := own_mono ho5 hB4.size
    have HSt := Lib.hid (st_put (t := t) (kc := .slice kA km kc) (gv := gv) (op := op) (a := 0) (Nat.le_refl W3.heap.size) hQ l5 s5 (fun e => by have := (World.ownsRow.lt ho4 _ e).1; simp at this; omega) (fun e => by have := (World.ownsRow.lt ho5 _ e).1; have := hB4.size; have := hP1.lt; omega) (apart_of ho4 ho5 (Nat.le_refl _)))
    have HBB := Lib.hid (sev_below hB5 (Nat.le_refl W3.heap.size) (.pointer (some ⟨t, 0, none⟩)) (.slice kA km kc) (.string ⟨gv.toArray⟩) (.int .i64 op) (.int .i64 0) (.slice A4 ls.length c4) (.slice A5 ss.length c5))
    rw [sev_def]
    clear hHeld x0 x1 x2 x3 y0 y1 y2 y3 hB4 hB5 hb4 hb5 hG1 ho4 ho5 l5 s5 hP1 hQ q0 q1 q2 q3 q4 q5 q6 r0 r1 r2 r3 r4 r5 r6 ql hz n0 n1 n2 n3 n4 n5
    generalize sev w5 W3.heap.size (.pointer (some ⟨t, 0, none⟩)) (.slice kA km kc) (.string ⟨gv.toArray⟩) (.int .i64 op) (.int .i64 0) (.slice A4 ls.length c4) (.slice A5 ss.length c5) = WF at *
    have HXF := (Tb.mono HX3.out (by omega : lo0 ≤ W3.heap.size)).below HBB.out
    have HD := Lib.hid (do_any hop HXF HSt.out (by omega) Hsl.out)
    have hstep : stepP hr op ls ss = if (doP hr op ss).2 = true ∧ (doP hr op ss).1.length ≤ 16 then some (ls, (doP hr op ss).1) else none := rfl
    have HStep := Lib.hid hstep
    clear HXF hstep HSt hB0 hB1 a0 a1 a2 a3 hop HX3 H1 H2 HC1 HC2 Hsl
    generalize stepP hr op ls ss = F at *
    generalize doP hr op ss = R at *
    obtain ⟨s2, ok⟩ := R
    simp only at HD HStep
    go_wp2_with fail
    refine HD.out.mono ?_
    rintro e w6 ⟨rfl, ⟨SV6, hst⟩, hb⟩
    obtain ⟨A6, c6, rfl, _, _, r6, ha6⟩ := hst.stk.slice
    obtain ⟨A7, c7, e7, _, _, r7, ha7⟩ := hst.loc.slice
    injection e7 with e7a _ e7c
    subst e7a
    subst e7c
    have q5 : w6.cell? ⟨W3.heap.size, 5, none⟩ = some (.slice A4 ls.length c4) := hst.box.cell 5
    have q6 : w6.cell? ⟨W3.heap.size, 6, none⟩ = some (.slice A6 s2.length c6) := hst.box.cell 6
    have qlt := hst.box.lt
    have X6 := Lib.hid (H3.out.after (HBB.out.trans hb))
    have g0 := X6.out.free 0
    have g1 := X6.out.free 1
    have k0 : w6.cell? ⟨w.heap.size + 1 + 1, 0, none⟩ = some (.slice none 0 0) := X6.out.cell 0
    have k1 : w6.cell? ⟨w.heap.size + 1 + 1, 1, none⟩ = some (.slice none 0 0) := X6.out.cell 1
    have klt := X6.out.lt
    have HB6 := Lib.hid (HB3.out.trans ((HBB.out.trans hb).mono HB3.out.size))
    have R6 := Lib.hid r6
    have R7 := Lib.hid r7
    have HA6 : Hid (∀ a, A6 = some a → a.block ≠ w.heap.size + 1 + 1) := Lib.hid (fun a ha => by have := (ha6 a ha).1; omega)
    have HA7 : Hid (∀ a, A4 = some a → a.block ≠ w.heap.size + 1 + 1) := Lib.hid (fun a ha => by have := (ha7 a ha).1; omega)
    clear hst hb r6 r7 ha6 ha7 HD H3 HB3 HBB
    cases ok
    · have HF := Lib.hid (show F = none from HStep.out)
      go_wp2_with fail
      have HW := two_bx X6.out (.slice none 0 0) (.slice none 0 0)
      rw [HF.out]
      exact bodyPost_ret (v := .tuple #[.agg #[.slice none 0 0, .slice none 0 0], .int .i64 16]) (result2 Tryz.results9 _ _ _ _ rfl (run_loadVar_row _ _ _ _ #[.slice none 0 0, .slice none 0 0] (0, 0) _ HW Tryz.underlying34 rfl sizeFr)) rfl ⟨rfl, two_below HB6.out (by omega) _ _⟩
    · by_cases h16 : s2.length ≤ 16
      · have HF := Lib.hid (show F = some (ls, s2) by rw [HStep.out, if_pos ⟨rfl, h16⟩])
        go_wp2_with fail
        have HW := two_bx X6.out (.slice A4 ls.length c4) (.slice A6 s2.length c6)
        rw [HF.out]
        exact bodyPost_ret (v := .tuple #[.agg #[.slice A4 ls.length c4, .slice A6 s2.length c6], .int .i64 0]) (result2 Tryz.results9 _ _ _ _ rfl (run_loadVar_row _ _ _ _ #[.slice A4 ls.length c4, .slice A6 s2.length c6] (0, 0) _ HW Tryz.underlying34 rfl sizeFr)) rfl
          ⟨⟨A4, c4, A6, c6, rfl, two_rds R7.out _ _ HA7.out, two_rds R6.out _ _ HA6.out⟩, two_below HB6.out (by omega) _ _⟩
      · have HF := Lib.hid (show F = none by rw [HStep.out, if_neg (by simp; omega)])
        have h17 : 16 < s2.length := by omega
        go_wp2_with fail
        have HW := two_bx X6.out (.slice none 0 0) (.slice none 0 0)
        rw [HF.out]
        exact bodyPost_ret (v := .tuple #[.agg #[.slice none 0 0, .slice none 0 0], .int .i64 16]) (result2 Tryz.results9 _ _ _ _ rfl (run_loadVar_row _ _ _ _ #[.slice none 0 0, .slice none 0 0] (0, 0) _ HW Tryz.underlying34 rfl sizeFr)) rfl ⟨rfl, two_below HB6.out (by omega) _ _⟩
end KndS
end Go.Proofs.YtehainbhoflpnaaGreatDoor
