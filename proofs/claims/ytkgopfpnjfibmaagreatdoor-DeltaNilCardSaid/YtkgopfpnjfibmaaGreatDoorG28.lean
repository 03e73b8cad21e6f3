/-
  A class's own method: Table.own, Table.Code, and the document's Code: what each of them hands back, of any table.
-/
import Derived.Test.YtkgopfpnjfibmaaGreatDoorG26
import Derived.Test.YtkgopfpnjfibmaaGreatDoorG27
import Derived.Test.YtkgopfpnjfibmaaGreatDoorG25
namespace Go.Proofs.YtkgopfpnjfibmaaGreatDoor
namespace TabHc
open Go.RowKit Base BinM Stru DescM DescW DescX HierS HierT HierM HierC HierD HierN Kls KlsP KlsQ TabC TabM TabK TabP TabE TabB TabG TabH TabT TabU TabI TabR TabV TabCl

/-- a class's method with a name; none -/
def ownP (k : ClsT) (nm : T) : MthT × Bool := if findP (nameM nm) k.meths < 0 then (noM, false) else (k.meths.getD (findP (nameM nm) k.meths).toNat noM, true)
theorem own_no_ {k : ClsT} {nm : T} (h : findP (nameM nm) k.meths = -1) : ownP k nm = (noM, false) := by unfold ownP; rw [h]; rfl
theorem own_yes {k : ClsT} {nm : T} {j : Nat} (hj : j < k.meths.length) (h : findP (nameM nm) k.meths = (j : Int)) : ownP k nm = (k.meths[j], true) := by
  unfold ownP
  rw [h, if_neg (by omega), Int.toNat_natCast, List.getD_eq_getElem?_getD, List.getElem?_eq_getElem hj]
  rfl
/-- the class that own hands back -/
def ownC (k : ClsT) (nm : T) : ClsT := if (ownP k nm).2 = true then k else noC
theorem ownC_no {k : ClsT} {nm : T} (h : ownP k nm = (noM, false)) : ownC k nm = noC := by unfold ownC; rw [h]; rfl
theorem ownC_yes {k : ClsT} {nm : T} {y : MthT} (h : ownP k nm = (y, true)) : ownC k nm = k := by unfold ownC; rw [h]; rfl
theorem own_is {k : ClsT} {w : World} (h : k.is w) (nm : T) : (ownP k nm).1.is w := by
  rcases findP_cases (nameM nm) k.meths with h1 | ⟨j, hj, h1⟩
  · rw [own_no_ h1]; exact noM_is w
  · rw [own_yes hj h1]; exact h.meths.each _ (List.getElem_mem hj)

theorem fiv_def (w : World) (b : Nat) (v0 v1 v2 v3 v4 : Value) : ((((w.setCell ⟨b, 0, none⟩ v0).setCell ⟨b, 1, none⟩ v1).setCell ⟨b, 2, none⟩ v2).setCell ⟨b, 3, none⟩ v3).setCell ⟨b, 4, none⟩ v4 = fiv w b v0 v1 v2 v3 v4 := rfl
theorem bx_drew {w : World} {b : Nat} {C : Array Value} {T : TypeId} (h : Bx w b C T) : Bx w.drew b C T := h
theorem below_drew {lo : Nat} {a w : World} (h : Below lo a w) : Below lo a w.drew := h.drew
set_option maxRecDepth 100000 in
set_option maxHeartbeats 1000000 in
theorem own_any (g : Nat) (tp mp : Value) (A : Option Addr) (l : List ClsT) (c : Nat) (q nm : List UInt8) (w : World) (hbox : Bx w g #[tp, .slice A l.length c, mp] 161) (hml : l.length ≤ 100000) (hr : Rds w A (l.flatMap valsC)) (his : ∀ x ∈ l, x.is w) :
    Calls Tryz.prog 148 #[.pointer (some ⟨g, 0, none⟩), .string ⟨q.toArray⟩, .string ⟨nm.toArray⟩] w fun e w' => e = .returned (.tuple #[clsV (ownC (keptC q l) nm), mthV (ownP (keptC q l) nm).1, .bool (ownP (keptC q l) nm).2]) ∧ Below w.heap.size w w' := by
  have hb0 : Below w.heap.size w ((w.alloc (.cells #[.string ⟨#[]⟩, .string ⟨#[]⟩, .slice none 0 0, .slice none 0 0, .slice none 0 0] 127)).alloc (.cells #[.string ⟨#[]⟩, .string ⟨#[]⟩, .int .i64 0, .slice none 0 0, .slice none 0 0] 150)) := ((Below.refl _ _).alloc (Nat.le_refl _) _).alloc (by simp) _
  have hs0 : (w.alloc (.cells #[.string ⟨#[]⟩, .string ⟨#[]⟩, .slice none 0 0, .slice none 0 0, .slice none 0 0] 127)).heap.size = w.heap.size + 1 := by simp
  have N0 := (Bx.new w #[.string ⟨#[]⟩, .string ⟨#[]⟩, .slice none 0 0, .slice none 0 0, .slice none 0 0] 127).after ((Below.refl _ _).alloc (Nat.le_refl _) (.cells #[.string ⟨#[]⟩, .string ⟨#[]⟩, .int .i64 0, .slice none 0 0, .slice none 0 0] 150))
  have R0 := Bx.new (w.alloc (.cells #[.string ⟨#[]⟩, .string ⟨#[]⟩, .slice none 0 0, .slice none 0 0, .slice none 0 0] 127)) #[.string ⟨#[]⟩, .string ⟨#[]⟩, .int .i64 0, .slice none 0 0, .slice none 0 0] 150
  rw [hs0] at R0
  have HC0 := Lib.hid N0
  have HM0 := Lib.hid R0
  have HB0 := Lib.hid hb0
  have HN := Lib.hid (kept_any g tp mp A l l.length c q ((w.alloc (.cells #[.string ⟨#[]⟩, .string ⟨#[]⟩, .slice none 0 0, .slice none 0 0, .slice none 0 0] 127)).alloc (.cells #[.string ⟨#[]⟩, .string ⟨#[]⟩, .int .i64 0, .slice none 0 0, .slice none 0 0] 150)) (hbox.after hb0) rfl hml (hr.below hb0))
  have HKI := Lib.hid (kept_is his q)
  clear hb0 hs0 N0 R0 hbox hr his
  generalize keptC q l = k at *
  obtain ⟨kn, ks, kA, km, kc, fA, fm, fc, mA, mm, mc, kcs, kfs, kms⟩ := k
  simp only [ClsT.V] at HN
  go_enter Tryz.func148, Tryz.ntmps148
  go_wp2_with fail
  refine HN.out.mono ?_
  rintro e w1 ⟨rfl, hb1⟩
  have hs1 : w.heap.size + 2 ≤ w1.heap.size := by have := hb1.size; simp at this; omega
  have B1 := Lib.hid (HB0.out.trans (hb1.mono HB0.out.size))
  have hal : Below w1.heap.size w1 (w1.alloc (.cells #[.string ⟨kn.toArray⟩, .string ⟨ks.toArray⟩, .slice kA km kc, .slice fA fm fc, .slice mA mm mc] 127)) := (Below.refl _ _).alloc (Nat.le_refl _) _
  have B2 := Lib.hid (B1.out.trans (hal.mono B1.out.size))
  have C2 := Lib.hid ((HC0.out.after hb1).after hal)
  have M2 := Lib.hid ((HM0.out.after hb1).after hal)
  have X2 := Lib.hid (Bx.new w1 #[.string ⟨kn.toArray⟩, .string ⟨ks.toArray⟩, .slice kA km kc, .slice fA fm fc, .slice mA mm mc] 127)
  have HA := Lib.hid (atM_any ⟨kn, ks, kA, km, kc, fA, fm, fc, mA, mm, mc, kcs, kfs, kms⟩ nm (w1.alloc (.cells #[.string ⟨kn.toArray⟩, .string ⟨ks.toArray⟩, .slice kA km kc, .slice fA fm fc, .slice mA mm mc] 127)) (HKI.out.below B2.out))
  simp only [ClsT.V] at HA
  clear hb1 hal
  go_wp2_with fail
  refine HA.out.mono ?_
  rintro e w3 ⟨rfl, hb3⟩
  have B3 := Lib.hid (B2.out.trans (hb3.mono B2.out.size))
  have C3 := Lib.hid (C2.out.after hb3)
  have M3 := Lib.hid (M2.out.after hb3)
  have X3 := Lib.hid (X2.out.after hb3)
  have KI := Lib.hid (HKI.out.below B3.out)
  have ne1 : ¬ w.heap.size = w.heap.size + 1 := by omega
  have ne2 : ¬ w.heap.size + 1 = w.heap.size := by omega
  have f0 := C3.out.free 0
  have f1 := C3.out.free 1
  have f2 := C3.out.free 2
  have f3 := C3.out.free 3
  have f4 := C3.out.free 4
  have r0 := C3.out.cell 0
  have r1 := C3.out.cell 1
  have r2 := C3.out.cell 2
  have r3 := C3.out.cell 3
  have r4 := C3.out.cell 4
  have g0 := M3.out.free 0
  have g1 := M3.out.free 1
  have g2 := M3.out.free 2
  have g3 := M3.out.free 3
  have g4 := M3.out.free 4
  have s0 := M3.out.cell 0
  have s1 := M3.out.cell 1
  have s2 := M3.out.cell 2
  have s3 := M3.out.cell 3
  have s4 := M3.out.cell 4
  clear hb3
  rcases findP_cases (nameM nm) kms with hF | ⟨j, hj, hF⟩
  · have HO := Lib.hid (own_no_ (k := ⟨kn, ks, kA, km, kc, fA, fm, fc, mA, mm, mc, kcs, kfs, kms⟩) hF)
    rw [hF]
    clear hF
    go_wp2_with fail
    have HW1 := fiv_off (fiv_bx C3.out (.string ⟨#[]⟩) (.string ⟨#[]⟩) (.slice none 0 0) (.slice none 0 0) (.slice none 0 0)) ne1 (.string ⟨#[]⟩) (.string ⟨#[]⟩) (.int .i64 0) (.slice none 0 0) (.slice none 0 0)
    have HW2 := fiv_bx (fiv_off M3.out ne2 (.string ⟨#[]⟩) (.string ⟨#[]⟩) (.slice none 0 0) (.slice none 0 0) (.slice none 0 0)) (.string ⟨#[]⟩) (.string ⟨#[]⟩) (.int .i64 0) (.slice none 0 0) (.slice none 0 0)
    exact bodyPost_ret (v := .tuple #[clsV noC, mthV noM, .bool false]) (resultT Tryz.results148 _ _ _ _ _ _ rfl rfl (run_loadVar_row _ _ _ _ #[.string ⟨#[]⟩, .string ⟨#[]⟩, .slice none 0 0, .slice none 0 0, .slice none 0 0] (0, 0) _ HW1 Tryz.underlying127 rfl sizeClass) (run_loadVar_row _ _ _ _ #[.string ⟨#[]⟩, .string ⟨#[]⟩, .int .i64 0, .slice none 0 0, .slice none 0 0] (0, 0) _ HW2 Tryz.underlying150 rfl sizeMth)) rfl
      ⟨by rw [ownC_no HO.out, HO.out], fiv_below (fiv_below B3.out (Nat.le_refl _) _ _ _ _ _) (by omega) _ _ _ _ _⟩
  · have HO := Lib.hid (own_yes (k := ⟨kn, ks, kA, km, kc, fA, fm, fc, mA, mm, mc, kcs, kfs, kms⟩) hj hF)
    rw [hF]
    obtain ⟨bm, om, hmA, hbm0, _, _, _, _, _⟩ := mth_at HKI.out.meths.rds hj
    obtain ⟨bm', om', hmA', hbm, m0, m1, m2, m3, m4⟩ := mth_at KI.out.meths.rds hj
    simp only at hmA hmA'
    rw [hmA] at hmA'
    injection hmA' with hmA'
    injection hmA' with e1 e2 _
    subst e1
    subst e2
    have hmm := KI.out.meths.len
    have hjm : (j : Int) < (mm : Int) := by have h9 : mm = kms.length := hmm; omega
    have x0 := X3.out.cell 0
    have x1 := X3.out.cell 1
    have x2 := X3.out.cell 2
    have x3 := X3.out.cell 3
    have x4 := X3.out.cell 4
    subst hmA
    have n1 : ¬ bm = w.heap.size := by omega
    have n2 : ¬ w.heap.size = bm := by omega
    have n3 : ¬ bm = w.heap.size + 1 := by omega
    have n4 : ¬ w.heap.size + 1 = bm := by omega
    have n5 : ¬ w1.heap.size = w.heap.size := by omega
    have n6 : ¬ w.heap.size = w1.heap.size := by omega
    have n7 : ¬ w1.heap.size = w.heap.size + 1 := by omega
    have n8 : ¬ w.heap.size + 1 = w1.heap.size := by omega
    simp only at HO m0 m1 m2 m3 m4
    generalize kms[j] = y at *
    clear hF hmm
    go_wp2_with fail
    go_region
    go_wp2_with fail
    have HW0 : Hid (Below w.heap.size w (fiv (fiv w3 w.heap.size (.string ⟨kn.toArray⟩) (.string ⟨ks.toArray⟩) (.slice kA km kc) (.slice fA fm fc) (.slice (some ⟨bm, om, none⟩) mm mc)) (w.heap.size + 1) (.string ⟨y.name.toArray⟩) (.string ⟨y.sig.toArray⟩) (.int .i64 y.locals) (.slice y.cA y.cm y.cc) (.slice y.hA y.hm y.hc)).drew) := Lib.hid (below_drew (fiv_below (fiv_below B3.out (Nat.le_refl _) _ _ _ _ _) (by omega) _ _ _ _ _))
    have HW1 : Bx (fiv (fiv w3 w.heap.size (.string ⟨kn.toArray⟩) (.string ⟨ks.toArray⟩) (.slice kA km kc) (.slice fA fm fc) (.slice (some ⟨bm, om, none⟩) mm mc)) (w.heap.size + 1) (.string ⟨y.name.toArray⟩) (.string ⟨y.sig.toArray⟩) (.int .i64 y.locals) (.slice y.cA y.cm y.cc) (.slice y.hA y.hm y.hc)).drew w.heap.size #[.string ⟨kn.toArray⟩, .string ⟨ks.toArray⟩, .slice kA km kc, .slice fA fm fc, .slice (some ⟨bm, om, none⟩) mm mc] 127 := bx_drew (fiv_off (fiv_bx C3.out _ _ _ _ _) ne1 _ _ _ _ _)
    have HW2 : Bx (fiv (fiv w3 w.heap.size (.string ⟨kn.toArray⟩) (.string ⟨ks.toArray⟩) (.slice kA km kc) (.slice fA fm fc) (.slice (some ⟨bm, om, none⟩) mm mc)) (w.heap.size + 1) (.string ⟨y.name.toArray⟩) (.string ⟨y.sig.toArray⟩) (.int .i64 y.locals) (.slice y.cA y.cm y.cc) (.slice y.hA y.hm y.hc)).drew (w.heap.size + 1) #[.string ⟨y.name.toArray⟩, .string ⟨y.sig.toArray⟩, .int .i64 y.locals, .slice y.cA y.cm y.cc, .slice y.hA y.hm y.hc] 150 := bx_drew (fiv_bx (fiv_off M3.out ne2 _ _ _ _ _) _ _ _ _ _)
    rw [fiv_def, fiv_def]
    generalize (fiv (fiv w3 w.heap.size (.string ⟨kn.toArray⟩) (.string ⟨ks.toArray⟩) (.slice kA km kc) (.slice fA fm fc) (.slice (some ⟨bm, om, none⟩) mm mc)) (w.heap.size + 1) (.string ⟨y.name.toArray⟩) (.string ⟨y.sig.toArray⟩) (.int .i64 y.locals) (.slice y.cA y.cm y.cc) (.slice y.hA y.hm y.hc)).drew = WE at HW0 HW1 HW2 ⊢
    exact bodyPost_ret (v := .tuple #[clsV ⟨kn, ks, kA, km, kc, fA, fm, fc, some ⟨bm, om, none⟩, mm, mc, kcs, kfs, kms⟩, mthV y, .bool true]) (resultT Tryz.results148 _ _ _ _ _ _ rfl rfl (run_loadVar_row _ _ _ _ #[.string ⟨kn.toArray⟩, .string ⟨ks.toArray⟩, .slice kA km kc, .slice fA fm fc, .slice (some ⟨bm, om, none⟩) mm mc] (0, 0) _ HW1 Tryz.underlying127 rfl sizeClass) (run_loadVar_row _ _ _ _ #[.string ⟨y.name.toArray⟩, .string ⟨y.sig.toArray⟩, .int .i64 y.locals, .slice y.cA y.cm y.cc, .slice y.hA y.hm y.hc] (0, 0) _ HW2 Tryz.underlying150 rfl sizeMth)) rfl
      ⟨by rw [ownC_yes HO.out, HO.out], HW0.out⟩
theorem fresh_fiv {lo : Nat} {w4 : World} {y : MthT} (F : Fresh lo w4 y) {b : Nat} (hb : b < lo) (v0 v1 v2 v3 v4 : Value) : y.is (fiv w4 b v0 v1 v2 v3 v4) :=
  ⟨F.is.fit, ⟨F.is.code.len, F.is.code.le, F.is.code.max, TabN.rds_same F.is.code.rds (Nat.le_of_eq (fiv_size _ _ _ _ _ _ _).symm) (fun a ha => fiv_block _ _ _ _ _ _ _ _ (by have := (F.code a ha).1; omega)), F.is.code.fit⟩,
    ⟨F.is.hand.len, F.is.hand.le, F.is.hand.max, TabN.rds_same F.is.hand.rds (Nat.le_of_eq (fiv_size _ _ _ _ _ _ _).symm) (fun a ha => fiv_block _ _ _ _ _ _ _ _ (by have := (F.hand a ha).1; omega)), F.is.hand.fit⟩⟩
set_option maxRecDepth 100000 in
set_option maxHeartbeats 4000000 in
theorem code_any (g : Nat) (tp mp : Value) (A : Option Addr) (l : List ClsT) (c : Nat) (q nm : List UInt8) (w : World) (hbox : Bx w g #[tp, .slice A l.length c, mp] 161) (hml : l.length ≤ 100000) (hr : Rds w A (l.flatMap valsC)) (his : ∀ x ∈ l, x.is w) (hsh : (ownP (keptC q l) nm).1.code.length ≤ 10000 ∧ (ownP (keptC q l) nm).1.hand.length ≤ 10000) :
    Calls Tryz.prog 78 #[.pointer (some ⟨g, 0, none⟩), .string ⟨q.toArray⟩, .string ⟨nm.toArray⟩] w fun e w' => ∃ y : MthT, e = .returned (.tuple #[mthV y, .bool (ownP (keptC q l) nm).2]) ∧ y.is w' ∧ y.pure = (ownP (keptC q l) nm).1.pure ∧ Below w.heap.size w w' := by
  have hb0 : Below w.heap.size w (w.alloc (.cells #[.string ⟨#[]⟩, .string ⟨#[]⟩, .int .i64 0, .slice none 0 0, .slice none 0 0] 150)) := (Below.refl w.heap.size w).alloc (Nat.le_refl _) _
  have HR := Lib.hid (Bx.new w #[.string ⟨#[]⟩, .string ⟨#[]⟩, .int .i64 0, .slice none 0 0, .slice none 0 0] 150)
  have HB := Lib.hid hb0
  have HN := Lib.hid (own_any g tp mp A l c q nm (w.alloc (.cells #[.string ⟨#[]⟩, .string ⟨#[]⟩, .int .i64 0, .slice none 0 0, .slice none 0 0] 150)) (hbox.after hb0) hml (hr.below hb0) (fun x hx => (his x hx).below hb0))
  have HIs := Lib.hid (own_is (kept_is his q) nm)
  clear hbox hr his hb0
  generalize ownC (keptC q l) nm = k at HN
  rcases hP : ownP (keptC q l) nm with ⟨m, ok⟩
  rw [hP] at HN HIs hsh
  simp only at HN HIs hsh ⊢
  obtain ⟨x0, x1, x2, cA, cm, cc, hA, hm, hcc, code, hand⟩ := m
  simp only [mthV] at HN
  simp only at hsh
  clear hP
  go_enter Tryz.func78, Tryz.ntmps78
  go_wp2_with fail
  refine HN.out.mono ?_
  rintro e w1 ⟨rfl, hb1⟩
  simp only [clsV]
  have B1 := Lib.hid (HB.out.trans (hb1.mono (by simp)))
  have hk1 : Below w1.heap.size w1 (w1.alloc (.cells #[.string ⟨k.name.toArray⟩, .string ⟨k.sup.toArray⟩, .slice k.kA k.km k.kc, .slice k.fA k.fm k.fc, .slice k.mA k.mm k.mc] 127)) := (Below.refl _ _).alloc (Nat.le_refl _) _
  have hk2 : Below w1.heap.size w1 ((w1.alloc (.cells #[.string ⟨k.name.toArray⟩, .string ⟨k.sup.toArray⟩, .slice k.kA k.km k.kc, .slice k.fA k.fm k.fc, .slice k.mA k.mm k.mc] 127)).alloc (.cells #[.string ⟨x0.toArray⟩, .string ⟨x1.toArray⟩, .int .i64 x2, .slice cA cm cc, .slice hA hm hcc] 150)) := hk1.alloc (by simp) _
  have B3 := Lib.hid (B1.out.trans (hk2.mono B1.out.size))
  have R3 := Lib.hid ((HR.out.after hb1).after hk2)
  have HC := Lib.hid (cloneMethod_any ⟨x0, x1, x2, cA, cm, cc, hA, hm, hcc, code, hand⟩ ((w1.alloc (.cells #[.string ⟨k.name.toArray⟩, .string ⟨k.sup.toArray⟩, .slice k.kA k.km k.kc, .slice k.fA k.fm k.fc, .slice k.mA k.mm k.mc] 127)).alloc (.cells #[.string ⟨x0.toArray⟩, .string ⟨x1.toArray⟩, .int .i64 x2, .slice cA cm cc, .slice hA hm hcc] 150)) (HIs.out.below B3.out) hsh.1 hsh.2)
  simp only [MthT.V] at HC
  clear hb1 hk1 hk2
  go_wp2_with fail
  refine HC.out.mono ?_
  rintro e w4 ⟨y, rfl, hf4, hp4, hb4⟩
  have B4 := Lib.hid (B3.out.trans (hb4.mono B3.out.size))
  have R4 := Lib.hid (R3.out.after hb4)
  have F4 := Lib.hid hf4
  have P4 := Lib.hid hp4
  have hrl := R3.out.lt
  have f0 := R4.out.free 0
  have f1 := R4.out.free 1
  have f2 := R4.out.free 2
  have f3 := R4.out.free 3
  have f4 := R4.out.free 4
  have r0 := R4.out.cell 0
  have r1 := R4.out.cell 1
  have r2 := R4.out.cell 2
  have r3 := R4.out.cell 3
  have r4 := R4.out.cell 4
  clear hb4 hf4 hp4
  go_wp2_with fail
  have HW := fiv_bx R4.out (.string ⟨y.name.toArray⟩) (.string ⟨y.sig.toArray⟩) (.int .i64 y.locals) (.slice y.cA y.cm y.cc) (.slice y.hA y.hm y.hc)
  exact bodyPost_ret (v := .tuple #[mthV y, .bool ok]) (result2 Tryz.results78 _ _ _ _ rfl (run_loadVar_row _ _ _ _ #[.string ⟨y.name.toArray⟩, .string ⟨y.sig.toArray⟩, .int .i64 y.locals, .slice y.cA y.cm y.cc, .slice y.hA y.hm y.hc] (0, 0) _ HW Tryz.underlying150 rfl sizeMth)) rfl
    ⟨y, rfl, fresh_fiv F4.out hrl _ _ _ _ _, P4.out, fiv_below B4.out (Nat.le_refl _) _ _ _ _ _⟩

end TabHc
end Go.Proofs.YtkgopfpnjfibmaaGreatDoor
