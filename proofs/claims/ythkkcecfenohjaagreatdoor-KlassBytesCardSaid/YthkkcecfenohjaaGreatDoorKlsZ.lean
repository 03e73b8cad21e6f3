/-
  A class read from its bytes: klass.Get.
-/
import Derived.Test.YthkkcecfenohjaaGreatDoorKlsL
import Derived.Test.YthkkcecfenohjaaGreatDoorKlsS
import Derived.Test.YthkkcecfenohjaaGreatDoorKlsI
namespace Go.Proofs.YthkkcecfenohjaaGreatDoor
namespace KlsZ
open Go.RowKit DescM DescW DescX DescR DescP DescQ PoolM PoolD PutN InsM InsA InsC InsD InsE InsP Base BinM Stru BinE BinGet BinText BinPut Bin8 Part Kls KlsK KlsP KlsQ KlsC KlsD KlsI KlsY KlsL OpenK
open KlsG (results1 results2 open_yes end_yes)
open KlsS (getAll_any OwnConst)

theorem chk_least {cd : List InsT} {ks : List Cst} {lo : Int} (h : (checkI cd ks lo).2 = 0) (hk : ks.length ≤ 256) (hlo : lo ≤ 24) : ∀ i ∈ cd, i.2 ≤ 65535 := by
  unfold checkI at h
  split at h
  · cases h
  · rename_i h1
    split at h
    · cases h
    · rename_i hq
      rw [List.find?_eq_none] at hq
      intro x hx
      obtain ⟨i, hi, rfl⟩ := List.getElem_of_mem hx
      have h2 := hq i (List.mem_range.2 hi)
      rw [List.getD_eq_getElem?_getD, List.getElem?_eq_getElem hi, Option.getD_some] at h2
      generalize cd[i] = x at h2
      unfold canB at h2
      split at h2
      · simp at h2
      · split at h2
        · simp at h2; omega
        · split at h2
          · unfold inB at h2; simp at h2; omega
          · split at h2
            · unfold inB at h2; simp at h2; omega
            · split at h2
              · rename_i c hc
                obtain ⟨hlt, _⟩ := List.getElem?_eq_some_iff.1 hc
                omega
              · simp at h2
theorem sig_le {l : List UInt8} (h : (splitT l).2.2 = 0) : l.length ≤ 256 := by
  unfold splitT at h
  split at h
  · split at h
    · rename_i ts g hp
      have h1 := parse_len 6 hp
      rw [List.length_drop] at h1
      split at h
      · rename_i hg
        unfold givenB at hg
        rw [Bool.or_eq_true] at hg
        rcases hg with hg | hg
        · have : g = [86] := by simpa using hg
          subst this
          simp at h1
          omega
        · have := right_le hg
          omega
      · cases h
    · cases h
  · cases h
/-- what of a class must be in bounds so that it is got back -/
structure ReadC (x : ClsT) : Prop where
  name : x.name.length ≤ 256
  sup : x.sup.length ≤ 256
  consts : (allC [] x.consts).2 = 0
  fitk : ∀ c ∈ x.consts, fitI c.kind ∧ fitI c.n
  fm : x.fm = x.fields.length
  fields : x.fields.length ≤ 16
  field : ∀ y ∈ x.fields, y.name.length ≤ 256 ∧ y.desc.length ≤ 256
  mm : x.mm = x.meths.length
  meths : x.meths.length ≤ 32
  meth : ∀ y ∈ x.meths, KlsL.Read y
theorem readC_of {w : World} {x : ClsT} (hx : x.is w) (h : clsE x = 0) : ReadC x := by
  unfold clsE at h
  split at h
  · cases h
  · rename_i h1
    have hn : nameB x.name = true := Classical.byContradiction fun hq => h1 (.inl (by simpa using hq))
    have hs : nameB x.sup = true := Classical.byContradiction fun hq => h1 (.inr (by simpa using hq))
    split at h
    · rename_i h2; exact (h2 h).elim
    · rename_i h2
      split at h
      · rename_i h3; exact (h3 h).elim
      · rename_i h3
        have h2' : (allC [] x.consts).2 = 0 := Classical.byContradiction h2
        have h3' : fldsE x.fields = 0 := Classical.byContradiction h3
        have hkl := (KlsS.const_ok h2').2.1
        unfold fldsE at h3'
        unfold mthsE at h
        split at h3'
        · cases h3'
        · rename_i h4
          split at h
          · cases h
          · rename_i h5
            have hF := firstI_zero h3'
            have hM := firstI_zero h
            refine ⟨by have := (name_ok hn).2.2; omega, by have := (name_ok hs).2.2; omega, h2', hx.consts.fit, hx.fields.len, by omega, ?_, hx.meths.len, by omega, ?_⟩
            · intro y hy
              obtain ⟨i, hi, rfl⟩ := List.getElem_of_mem hy
              have h6 := hF i hi
              unfold fldE at h6
              split at h6
              · cases h6
              · rename_i a1
                split at h6
                · cases h6
                · rename_i a2
                  have b1 : nameB x.fields[i].name = true := by simpa using a1
                  have b2 : rightB x.fields[i].desc = true := by simpa using a2
                  have := (name_ok b1).2.2
                  have := right_le b2
                  omega
            · intro y hy
              have hyi := hx.meths.each y hy
              obtain ⟨i, hi, rfl⟩ := List.getElem_of_mem hy
              have h6 := hM i hi
              unfold mthE at h6
              split at h6
              · cases h6
              · rename_i a1
                split at h6
                · cases h6
                · rename_i a2
                  split at h6
                  · cases h6
                  · split at h6
                    · cases h6
                    · rename_i aL
                      have b1 : nameB x.meths[i].name = true := by simpa using a1
                      have b2 : (splitT x.meths[i].sig).2.2 = 0 := Classical.byContradiction a2
                      unfold codeE at h6
                      split at h6
                      · rename_i a3; exact (a3 h6).elim
                      · rename_i a3
                        have a3' := Classical.byContradiction a3
                        split at h6
                        · cases h6
                        · unfold hndsE at h6
                          split at h6
                          · cases h6
                          · rename_i a4
                            have hH := firstI_zero h6
                            have hcl : x.meths[i].code.length ≤ 512 := by
                              unfold checkI at a3'
                              split at a3'
                              · cases a3'
                              · omega
                            refine ⟨by have := (name_ok b1).2.2; omega, sig_le b2, by omega, chk_put a3', hyi.code.fit, chk_least a3' hkl (by omega), hyi.hand.len, by omega, ?_⟩
                            intro z hz
                            have hzf := hyi.hand.fit z hz
                            obtain ⟨k, hk, rfl⟩ := List.getElem_of_mem hz
                            have h7 := hH k hk
                            unfold hndE at h7
                            split at h7
                            · cases h7
                            · rename_i a6
                              split at h7
                              · cases h7
                              · rename_i a5
                                have b3 : nameB x.meths[i].hand[k].cls = true := by simpa using a5
                                have := (name_ok b3).2.2
                                unfold outH at a6
                                simp only [Bool.or_eq_true, decide_eq_true_eq, not_or] at a6
                                exact ⟨by omega, hzf, by omega, by omega, by omega⟩
theorem Sofar.keep {lo : Nat} {w wr w' : World} {v : Value} {xs ys : List MthT} (h : Sofar w wr v xs ys) (hk : Keep lo wr w') (hlo : lo ≤ w.heap.size) : OwnM w' w.heap.size v ys ∧ ∀ y ∈ ys, y.is w' :=
  ⟨hk.own h.own hlo, fun y hy => is_same (h.is y hy) hk.size (fun a hA hlt => hk.block _ (by have := ((h.away y hy).code a hA).1; omega) hlt) (fun a hA hlt => hk.block _ (by have := ((h.away y hy).hand a hA).1; omega) hlt)⟩
/-- where what a class holds lies -/
structure Far (lo : Nat) (y : ClsT) : Prop where
  k : ∀ a, y.kA = some a → lo ≤ a.block
  f : ∀ a, y.fA = some a → lo ≤ a.block
  m : ∀ a, y.mA = some a → lo ≤ a.block
  code : ∀ z ∈ y.meths, ∀ a, z.cA = some a → lo ≤ a.block
  hand : ∀ z ∈ y.meths, ∀ a, z.hA = some a → lo ≤ a.block
theorem is_keep {lo : Nat} {w w' : World} {y : ClsT} (h : y.is w) (f : Far lo y) (k : Keep lo w w') : y.is w' :=
  ⟨⟨h.consts.len, h.consts.le, h.consts.max, rds_same h.consts.rds k.size (fun a hA hlt => k.block _ (f.k a hA) hlt), h.consts.fit⟩,
   ⟨h.fields.len, h.fields.le, h.fields.max, rds_same h.fields.rds k.size (fun a hA hlt => k.block _ (f.f a hA) hlt)⟩,
   ⟨h.meths.len, h.meths.le, h.meths.max, rds_same h.meths.rds k.size (fun a hA hlt => k.block _ (f.m a hA) hlt), fun z hz => is_same (h.meths.each z hz) k.size (fun a hA hlt => k.block _ (f.code z hz a hA) hlt) (fun a hA hlt => k.block _ (f.hand z hz a hA) hlt)⟩⟩
theorem sizeClass : (Tryz.prog.info? 26).map (·.size) = some 5 := by kernel_rfl

set_option maxRecDepth 100000 in
set_option maxHeartbeats 8000000 in
theorem class_any (g : Nat) (A : Option Addr) (cap : Nat) (ty : TypeId) (w : World) (x : ClsT) (hL : Laid w) (hrow : Row w g #[.slice A (clsB x).length cap, .int .i64 4, .int .i64 0] ty)
    (hrg : 0 < g) (hnc : (clsB x).length ≤ cap) (hm : cap ≤ maxLen) (hr : Rds w A (cells8 (clsB x))) (hne : ∀ a, A = some a → a.block ≠ g) (hlen : (clsB x).length ≤ 65536) (hx : ReadC x) :
    Calls Tryz.prog 59 #[.pointer (some ⟨g, 0, none⟩)] w fun e w' => ∃ y : ClsT, e = .returned y.V ∧ y.is w' ∧ y.same x = true ∧ Far w.heap.size y ∧ Row w' g #[.slice A (clsB x).length cap, .int .i64 ((clsB x).length : Int), .int .i64 0] ty ∧ Part.Aside g w w' := by
  have S0 := Lib.hid (At.start 26 #[.string ⟨#[]⟩, .string ⟨#[]⟩, .slice none 0 0, .slice none 0 0, .slice none 0 0] hrow)
  have Hx := Lib.hid hx
  obtain ⟨l, hl⟩ : ∃ l, l = clsB x := ⟨_, rfl⟩
  rw [← hl] at hrow hnc hr hlen S0 ⊢
  have HR := Lib.hid (fun (wr : World) (h : Part.Aside g w wr) => rds_aside hr hne h)
  have HLd := Lib.hid (fun (wr : World) (h : Part.Aside g w wr) => (hL.below h.bel hrg : Laid wr))
  have hn : l.length = l.length := rfl
  unfold clsB clsF clsH at hl
  rw [hx.fm, hx.mm] at hl
  have l1 : l = [72, 66, 75, 49] ++ (txt x.name ++ (txt x.sup ++ (constB x.consts ++ (num (x.fields.length : Int) ++ (x.fields.flatMap fldB ++ (num (x.meths.length : Int) ++ (x.meths.flatMap mthB ++ []))))))) := by rw [hl]; simp only [List.append_assoc, List.append_nil]
  have l2 : l = ([72, 66, 75, 49] ++ txt x.name) ++ (txt x.sup ++ (constB x.consts ++ (num (x.fields.length : Int) ++ (x.fields.flatMap fldB ++ (num (x.meths.length : Int) ++ (x.meths.flatMap mthB ++ [])))))) := by rw [l1]; simp only [List.append_assoc]
  have l3 : l = (([72, 66, 75, 49] ++ txt x.name) ++ txt x.sup) ++ (constB x.consts ++ (num (x.fields.length : Int) ++ (x.fields.flatMap fldB ++ (num (x.meths.length : Int) ++ (x.meths.flatMap mthB ++ []))))) := by rw [l1]; simp only [List.append_assoc]
  have l4 : l = ((([72, 66, 75, 49] ++ txt x.name) ++ txt x.sup) ++ constB x.consts) ++ (num (x.fields.length : Int) ++ (x.fields.flatMap fldB ++ (num (x.meths.length : Int) ++ (x.meths.flatMap mthB ++ [])))) := by rw [l1]; simp only [List.append_assoc]
  have l5 : l = (((([72, 66, 75, 49] ++ txt x.name) ++ txt x.sup) ++ constB x.consts) ++ num (x.fields.length : Int)) ++ (x.fields.flatMap fldB ++ (num (x.meths.length : Int) ++ (x.meths.flatMap mthB ++ []))) := by rw [l1]; simp only [List.append_assoc]
  have l6 : l = ((((([72, 66, 75, 49] ++ txt x.name) ++ txt x.sup) ++ constB x.consts) ++ num (x.fields.length : Int)) ++ x.fields.flatMap fldB) ++ (num (x.meths.length : Int) ++ (x.meths.flatMap mthB ++ [])) := by rw [l1]; simp only [List.append_assoc]
  have l7 : l = (((((([72, 66, 75, 49] ++ txt x.name) ++ txt x.sup) ++ constB x.consts) ++ num (x.fields.length : Int)) ++ x.fields.flatMap fldB) ++ num (x.meths.length : Int)) ++ (x.meths.flatMap mthB ++ []) := by rw [l1]; simp only [List.append_assoc]
  have l8 : ((((((([72, 66, 75, 49] ++ txt x.name) ++ txt x.sup) ++ constB x.consts) ++ num (x.fields.length : Int)) ++ x.fields.flatMap fldB) ++ num (x.meths.length : Int)) ++ x.meths.flatMap mthB).length = l.length := by rw [l1]; simp only [List.append_assoc, List.append_nil]
  have k1 : getT l 4 256 = (x.name, (([72, 66, 75, 49] ++ txt x.name).length : Int), 0) := by rw [l1]; exact txt_full [72, 66, 75, 49] _ _ 256 (by have := hx.name; omega) (by have := hx.name; omega)
  have k2 : getT l (([72, 66, 75, 49] ++ txt x.name).length : Int) 256 = (x.sup, ((([72, 66, 75, 49] ++ txt x.name) ++ txt x.sup).length : Int), 0) := by rw [l2]; exact txt_full _ _ _ 256 (by have := hx.sup; omega) (by have := hx.sup; omega)
  have b1 : ([72, 66, 75, 49] ++ txt x.name).length ≤ l.length := by rw [l2]; simp only [List.length_append]; omega
  have b3 : ((([72, 66, 75, 49] ++ txt x.name) ++ txt x.sup) ++ constB x.consts).length ≤ l.length := by rw [l4]; simp only [List.length_append]; omega
  have b5 : ((((([72, 66, 75, 49] ++ txt x.name) ++ txt x.sup) ++ constB x.consts) ++ num (x.fields.length : Int)) ++ x.fields.flatMap fldB).length ≤ l.length := by rw [l6]; simp only [List.length_append]; omega
  have KC := Lib.hid (fun (W : World) (h : Part.Aside g w W) => getAll_any A l l.length cap (([72, 66, 75, 49] ++ txt x.name) ++ txt x.sup) _ x.consts W rfl hnc hm (rds_aside hr hne h) (by omega) l3 hx.consts hx.fitk)
  have KF := Lib.hid (fun (W : World) (h : Part.Aside g w W) hrw => listField_any g A l l.length cap ((([72, 66, 75, 49] ++ txt x.name) ++ txt x.sup) ++ constB x.consts).length ty W hrw x.fields (((([72, 66, 75, 49] ++ txt x.name) ++ txt x.sup) ++ constB x.consts) ++ num (x.fields.length : Int)) _ rfl hnc hm (rds_aside hr hne h) hne (by omega) (by omega) l5 (by have hf := hx.fields; rw [l4]; exact getS_numr (by omega) (by omega) _ _) hx.fields hx.field)
  have KM := Lib.hid (fun (W : World) (h : Part.Aside g w W) hrw => listMethod_any g A l l.length cap ((((([72, 66, 75, 49] ++ txt x.name) ++ txt x.sup) ++ constB x.consts) ++ num (x.fields.length : Int)) ++ x.fields.flatMap fldB).length ty W (hL.below h.bel hrg) hrw x.meths ((((((([72, 66, 75, 49] ++ txt x.name) ++ txt x.sup) ++ constB x.consts) ++ num (x.fields.length : Int)) ++ x.fields.flatMap fldB) ++ num (x.meths.length : Int))) [] hrg rfl hnc hm (rds_aside hr hne h) hne (by omega) (by omega) l7 (by have hf := hx.meths; rw [l6]; exact getS_numr (by omega) (by omega) _ _) hx.meths hx.meth)
  rw [l8] at KM
  generalize ((((([72, 66, 75, 49] ++ txt x.name) ++ txt x.sup) ++ constB x.consts) ++ num (x.fields.length : Int)) ++ x.fields.flatMap fldB).length = p5 at *
  generalize ((([72, 66, 75, 49] ++ txt x.name) ++ txt x.sup) ++ constB x.consts).length = p3 at *
  generalize (([72, 66, 75, 49] ++ txt x.name) ++ txt x.sup).length = p2 at *
  generalize ([72, 66, 75, 49] ++ txt x.name).length = p1 at *
  clear hrow hr hx hL hl l1 l2 l3 l4 l5 l6 l7 l8 hne
  have HIc := Lib.hid (show ∀ W B c, Rds W B (x.consts.flatMap Cst.vals) → x.consts.length ≤ c → c ≤ maxLen → IsCsts W B x.consts.length c x.consts from fun W B c h1 h2 h3 => ⟨rfl, h2, h3, h1, Hx.out.fitk⟩)
  obtain ⟨x0, x1, kA, km, kc, fA, fm, fc, mA, mm, mc, ks, fs, ms⟩ := x
  simp only at *
  clear hn
  generalize hN : l.length = n at *
  have hln : n = l.length := hN.symm
  clear hN
  go_enter Tryz.func59, Tryz.ntmps59
  go_wp2_with fail
  refine Calls.mono (text_klass g A l n cap 4 ty _ S0.out.row hln hnc hm (by omega) (by omega) (HR.out _ S0.out.asd)) ?_
  rw [k1]
  rintro e w1 ⟨rfl, hrow1, ha1⟩
  have T1 := Lib.hid (S0.out.next hrow1 ha1)
  have S1 := Lib.hid (T1.out.set 0 (.string ⟨x0.toArray⟩))
  have hc := T1.out.box.cell 0
  have hf := T1.out.box.free 0
  clear hrow1 ha1
  go_wp2_with fail
  clear hc hf
  refine Calls.mono (text_klass g A l n cap p1 ty _ S1.out.row hln hnc hm (by omega) (by omega) (HR.out _ S1.out.asd)) ?_
  rw [k2]
  rintro e w2 ⟨rfl, hrow2, ha2⟩
  have T2 := Lib.hid (S1.out.next hrow2 ha2)
  have S2 := Lib.hid (T2.out.set 1 (.string ⟨x1.toArray⟩))
  have hc := T2.out.box.cell 1
  have hf := T2.out.box.free 1
  clear hrow2 ha2
  go_wp2_with fail
  clear hc hf
  have hz2 : w.heap.size + 1 < (w2.setCell ⟨w.heap.size + 1, 1, none⟩ (.string ⟨x1.toArray⟩)).heap.size := S2.out.box.lt
  refine Calls.mono (KlsT.nextCst_any g A n cap p2 p3 40 5 ks.length (ks.flatMap Cst.vals) ty _ S2.out.row ((KC.out _ S2.out.asd.drew).mono (fun e w' ⟨v, he, ho, hb⟩ => ⟨v, he, ho, (Below.refl _ _).drew.trans hb⟩))) ?_
  rintro e w3 ⟨v3, rfl, hown3, hrow3, ha3⟩
  obtain ⟨A3, c3, rfl, hq3, hq3', hl3, _⟩ := own_slice hown3
  have O3 := Lib.hid hown3
  have T3 := Lib.hid (S2.out.next hrow3 ha3)
  have S3 := Lib.hid (T3.out.set 2 (.slice A3 ks.length c3))
  have hc := T3.out.box.cell 2
  have hf := T3.out.box.free 2
  have HL3 := Lib.hid hl3
  clear hrow3 ha3 hown3 hl3
  go_wp2_with fail
  clear hc hf
  have hz3 : w.heap.size + 1 < (w3.setCell ⟨w.heap.size + 1, 2, none⟩ (.slice A3 ks.length c3)).heap.size := S3.out.box.lt
  refine Calls.mono (KF.out _ S3.out.asd S3.out.row) ?_
  rintro e w4 ⟨v4, rfl, hown4, hrow4, ha4⟩
  obtain ⟨A4, c4, rfl, hq4, hq4', hl4, _⟩ := own_slice hown4
  have O4 := Lib.hid hown4
  have hglt := S0.out.lt
  have D34 := Lib.hid ((Keep.set (lo := w.heap.size + 2) w3 (w.heap.size + 1) 2 (.slice A3 ks.length c3) (by omega)).trans (Keep.aside ha4 (by omega)))
  have T4 := Lib.hid (S3.out.next hrow4 ha4)
  have S4 := Lib.hid (T4.out.set 3 (.slice A4 fs.length c4))
  have hc := T4.out.box.cell 3
  have hf := T4.out.box.free 3
  have HL4 := Lib.hid hl4
  clear hrow4 ha4 hown4 hl4
  go_wp2_with fail
  clear hc hf
  have hz4 : w.heap.size + 1 < (w4.setCell ⟨w.heap.size + 1, 3, none⟩ (.slice A4 fs.length c4)).heap.size := S4.out.box.lt
  refine Calls.mono (KM.out _ S4.out.asd S4.out.row) ?_
  rintro e w5 ⟨v5, ys, rfl, hso5, hrow5, ha5⟩
  obtain ⟨A5, c5, rfl, hq5, hq5', hl5, _⟩ := own_slice hso5.own
  have O5 := Lib.hid hso5
  have D45 := Lib.hid ((Keep.set (lo := w.heap.size + 2) w4 (w.heap.size + 1) 3 (.slice A4 fs.length c4) (by omega)).trans (Keep.aside ha5 (by omega)))
  have T5 := Lib.hid (S4.out.next hrow5 ha5)
  have S5 := Lib.hid (T5.out.set 4 (.slice A5 ys.length c5))
  have hc := T5.out.box.cell 4
  have hf := T5.out.box.free 4
  have HL5 := Lib.hid hl5
  clear hrow5 ha5 hso5 hl5
  have Hb : Row (w5.setCell ⟨w.heap.size + 1, 4, none⟩ (.slice A5 ys.length c5)) (w.heap.size + 1) #[.string ⟨x0.toArray⟩, .string ⟨x1.toArray⟩, .slice A3 ks.length c3, .slice A4 fs.length c4, .slice A5 ys.length c5] 26 := S5.out.box
  have g0 := Hb.cell 0
  have g1 := Hb.cell 1
  have g2 := Hb.cell 2
  have g3 := Hb.cell 3
  have g4 := Hb.cell 4
  have f0 := S5.out.res.free 0
  have r0 := S5.out.res.cell 0
  have f1 := S5.out.res.free 1
  have r1 := S5.out.res.cell 1
  have f2 := S5.out.res.free 2
  have r2 := S5.out.res.cell 2
  have f3 := S5.out.res.free 3
  have r3 := S5.out.res.cell 3
  have f4 := S5.out.res.free 4
  have r4 := S5.out.res.cell 4
  clear Hb
  go_wp2_with fail
  have HF := Lib.hid (((((S5.out.put 0 (.string ⟨x0.toArray⟩)).put 1 (.string ⟨x1.toArray⟩)).put 2 (.slice A3 ks.length c3)).put 3 (.slice A4 fs.length c4)).put 4 (.slice A5 ys.length c5))
  have HW : Row _ w.heap.size #[.string ⟨x0.toArray⟩, .string ⟨x1.toArray⟩, .slice A3 ks.length c3, .slice A4 fs.length c4, .slice A5 ys.length c5] 26 := HF.out.res
  have D5 := Lib.hid ((((((Keep.set (lo := w.heap.size + 2) w5 (w.heap.size + 1) 4 (.slice A5 ys.length c5) (by omega)).trans (Keep.set _ w.heap.size 0 (.string ⟨x0.toArray⟩) (by omega))).trans (Keep.set _ w.heap.size 1 (.string ⟨x1.toArray⟩) (by omega))).trans (Keep.set _ w.heap.size 2 (.slice A3 ks.length c3) (by omega))).trans (Keep.set _ w.heap.size 3 (.slice A4 fs.length c4) (by omega))).trans (Keep.set _ w.heap.size 4 (.slice A5 ys.length c5) (by omega)))
  have Q3 := D5.out.own (D45.out.own (D34.out.own O3.out (by omega)) (by omega)) (by omega)
  have Q4 := D5.out.own (D45.out.own O4.out (by omega)) (by omega)
  have Q5 := Sofar.keep O5.out D5.out (by omega)
  exact bodyPost_ret (v := .agg #[.string ⟨x0.toArray⟩, .string ⟨x1.toArray⟩, .slice A3 ks.length c3, .slice A4 fs.length c4, .slice A5 ys.length c5]) (results1 Tryz.results59 _ _ _ _ rfl (run_loadVar_row _ _ _ _ #[.string ⟨x0.toArray⟩, .string ⟨x1.toArray⟩, .slice A3 ks.length c3, .slice A4 fs.length c4, .slice A5 ys.length c5] (0, 0) _ HW Tryz.underlying26 rfl sizeClass)) rfl
    ⟨⟨x0, x1, A3, ks.length, c3, A4, fs.length, c4, A5, ys.length, c5, ks, fs, ys⟩, rfl, ⟨HIc.out _ _ _ (Rds.ownN Q3) hq3 hq3', ⟨rfl, hq4, hq4', Rds.ownN Q4⟩, ⟨rfl, hq5, hq5', Rds.ownN Q5.1, Q5.2⟩⟩, (by have := O5.out.pure; simp [ClsT.same, this]),
      ⟨fun a ha => by have h1 := HL3.out a ha; omega, fun a ha => by have h1 := HL4.out a ha; omega, fun a ha => by have h1 := HL5.out a ha; omega, fun z hz a ha => by have h1 := (O5.out.away z hz).code a ha; omega, fun z hz a ha => by have h1 := (O5.out.away z hz).hand a ha; omega⟩, HF.out.row, HF.out.asd⟩

theorem same_parts {y x : ClsT} (h : y.same x = true) : y.name = x.name ∧ y.sup = x.sup ∧ y.consts = x.consts ∧ y.fields = x.fields ∧ y.meths.map MthT.pure = x.meths.map MthT.pure := by
  simpa [ClsT.same, and_assoc] using h
theorem firstI_congr {α β : Type} {f : Nat → α → Int} {f' : Nat → β → Int} {l : List α} {l' : List β} (hl : l.length = l'.length) (h : ∀ i (hi : i < l.length) (hi' : i < l'.length), f i l[i] = f' i l'[i]) : firstI f l = firstI f' l' := by
  have hp : ∀ i, (l[i]?).elim false (fun x => f i x != 0) = (l'[i]?).elim false (fun x => f' i x != 0) := by
    intro i
    by_cases hi : i < l.length
    · rw [List.getElem?_eq_getElem hi, List.getElem?_eq_getElem (by omega)]
      simp only [Option.elim]
      rw [h i hi (by omega)]
    · rw [List.getElem?_eq_none (by omega), List.getElem?_eq_none (by omega)]
      rfl
  have hq : ∀ i, (l[i]?).elim 0 (f i) = (l'[i]?).elim 0 (f' i) := by
    intro i
    by_cases hi : i < l.length
    · rw [List.getElem?_eq_getElem hi, List.getElem?_eq_getElem (by omega)]
      simp only [Option.elim]
      exact h i hi (by omega)
    · rw [List.getElem?_eq_none (by omega), List.getElem?_eq_none (by omega)]
      rfl
  unfold firstI
  rw [hl, funext hp]
  split
  · exact hq _
  · rfl
theorem find_same (q : List UInt8) : ∀ {a b : List MthT}, a.map MthT.pure = b.map MthT.pure → findP (nameM q) a = findP (nameM q) b
  | [], [], _ => rfl
  | [], _ :: _, h => by cases h
  | _ :: _, [], h => by cases h
  | x :: t, y :: u, h => by
    rw [List.map_cons, List.map_cons] at h
    injection h with h1 h2
    have hn : x.name = y.name := congrArg MthP.name h1
    have ih := find_same q h2
    unfold findP
    rw [ih, show nameM q x = nameM q y by unfold nameM; rw [hn]]
theorem clsE_same {y x : ClsT} (h : y.same x = true) : clsE y = clsE x := by
  obtain ⟨h1, h2, h3, h4, h5⟩ := same_parts h
  have hlen : y.meths.length = x.meths.length := by have := congrArg List.length h5; simpa using this
  unfold clsE
  rw [h1, h2, h3, h4]
  have hm : mthsE y.meths x.consts = mthsE x.meths x.consts := by
    unfold mthsE
    rw [hlen]
    split
    · rfl
    · refine firstI_congr hlen (fun i hi hi' => ?_)
      have hp : y.meths[i].pure = x.meths[i].pure := by
        have h6 : (y.meths.map MthT.pure)[i]? = (x.meths.map MthT.pure)[i]? := by rw [h5]
        simpa [hi, hi'] using h6
      have p1 : y.meths[i].name = x.meths[i].name := congrArg MthP.name hp
      have p2 : y.meths[i].sig = x.meths[i].sig := congrArg MthP.sig hp
      have p3 : y.meths[i].locals = x.meths[i].locals := congrArg MthP.locals hp
      have p4 : y.meths[i].code = x.meths[i].code := congrArg MthP.code hp
      have p5 : y.meths[i].hand = x.meths[i].hand := congrArg MthP.hand hp
      unfold mthE
      rw [p1, p2, p3, p4, p5, find_same _ h5]
  rw [hm]
theorem lt_same {y x : ClsT} (h : y.same x = true) (hl : ClsT.lt x) : ClsT.lt y := by
  obtain ⟨h1, h2, h3, h4, h5⟩ := same_parts h
  refine ⟨h1 ▸ hl.name, h2 ▸ hl.sup, h3 ▸ hl.consts, h4 ▸ hl.fields, ?_⟩
  intro z hz
  have hz' : z.pure ∈ x.meths.map MthT.pure := by rw [← h5]; exact List.mem_map.2 ⟨z, hz, rfl⟩
  obtain ⟨u, hu, he⟩ := List.mem_map.1 hz'
  have hul := hl.meths u hu
  have p1 : u.name = z.name := congrArg MthP.name he
  have p2 : u.sig = z.sig := congrArg MthP.sig he
  have p5 : u.hand = z.hand := congrArg MthP.hand he
  exact ⟨p1 ▸ hul.name, p2 ▸ hul.sig, p5 ▸ hul.hand⟩

set_option maxRecDepth 100000 in
set_option maxHeartbeats 8000000 in
/-- the bytes of a class that can be, got -/
theorem get_any (x : ClsT) (b o : Nat) (cap : Nat) (w : World) (hL : Laid w) (hx : ReadC x) (hE : clsE x = 0) (hlt : ClsT.lt x) (hnc : (clsB x).length ≤ cap) (hm : cap ≤ maxLen) (hlen : (clsB x).length ≤ 65536) (hr : Rds w (some ⟨b, o, none⟩) (cells8 (clsB x))) :
    Calls Tryz.prog 21 #[.slice (some ⟨b, o, none⟩) (clsB x).length cap] w fun e w' => ∃ y : ClsT, e = .returned (.tuple #[y.V, .int .i64 0]) ∧ y.is w' ∧ y.same x = true ∧ Below w.heap.size w w' := by
  have Hr := Lib.hid hr
  have HLd := Lib.hid hL
  have Hcl := Lib.hid (fun (g : Nat) (W : World) (hW : Below w.heap.size w W) (hg : w.heap.size ≤ g) (hrow : Row W g #[.slice (some ⟨b, o, none⟩) (clsB x).length cap, .int .i64 4, .int .i64 0] 84) (hr' : Rds W (some ⟨b, o, none⟩) (cells8 (clsB x))) (hbg : b ≠ g) =>
    class_any g (some ⟨b, o, none⟩) cap 84 W x (hL.below hW hL.1) hrow (Nat.lt_of_lt_of_le hL.1 hg) hnc hm hr' (by intro a ha; injection ha with ha; subst ha; exact hbg) hlen hx)
  have Hsame := Lib.hid (fun (y : ClsT) (hy : y.same x = true) => And.intro ((clsE_same hy).trans hE) (lt_same hy hlt))
  have HQ := Lib.hid (show clsB x = [72, 66, 75, 49] ++ (clsB x).drop 4 by unfold clsB clsF clsH; simp)
  clear hr hL hx hE hlt
  generalize clsB x = l at *
  generalize hN : l.length = n at *
  have HN := Lib.hid hN
  clear hN
  go_enter Tryz.func21, Tryz.ntmps21
  go_wp2_with fail
  have R0 := Lib.hid (Row.new w #[.string ⟨#[]⟩, .string ⟨#[]⟩, .slice none 0 0, .slice none 0 0, .slice none 0 0] 26)
  have B0 := Lib.hid ((Below.refl w.heap.size w).alloc (Nat.le_refl _) (.cells #[.string ⟨#[]⟩, .string ⟨#[]⟩, .slice none 0 0, .slice none 0 0, .slice none 0 0] 26))
  refine Calls.mono (open_yes b o l (l.drop 4) n cap 72 66 75 49 _ HQ.out HN.out.symm (by omega) (Hr.out.below B0.out) hnc) ?_
  rintro e w1 ⟨rfl, hb1⟩
  have R1 := Lib.hid (R0.out.after hb1)
  have B1 := Lib.hid (B0.out.trans (hb1.mono B0.out.size))
  clear hb1
  go_wp2_with fail
  have hlt1 : w.heap.size < w1.heap.size := Nat.lt_of_lt_of_le (by simp) (R1.out.lt)
  have hbb : b < w.heap.size ∨ l = [] := by
    rcases Hr.out with h | ⟨b', o', hA, hb, _⟩
    · right
      exact List.eq_nil_of_length_eq_zero (by rw [← cells8_length]; rw [h]; rfl)
    · injection hA with hA; injection hA with h1 h2; subst h1; exact .inl hb
  have hbb2 : b < w.heap.size := by
    rcases hbb with h | h
    · exact h
    · have := HQ.out; rw [h] at this; simp at this
  clear hbb
  have HA1 := Lib.hid ((Below.refl w1.heap.size w1).alloc (Nat.le_refl _) (.cells #[.slice (some ⟨b, o, none⟩) n cap, .int .i64 4, .int .i64 0] 84))
  refine Calls.mono (Hcl.out w1.heap.size _ (B1.out.trans (HA1.out.mono B1.out.size)) B1.out.size (Row.new w1 _ _) ((Hr.out.below B1.out).below HA1.out) (by omega)) ?_
  rintro e w2 ⟨y, rfl, hy2, hsm, hfar, hrow2, ha2⟩
  have R2 := Lib.hid (ha2.row (R1.out.after HA1.out) (by omega))
  have Q2 := Lib.hid hrow2
  have Y2 := Lib.hid hy2
  have F2 := Lib.hid (show Far (w.heap.size + 1) y from ⟨fun a h => by have := hfar.k a h; simp at this; omega, fun a h => by have := hfar.f a h; simp at this; omega, fun a h => by have := hfar.m a h; simp at this; omega, fun z hz a h => by have := hfar.code z hz a h; simp at this; omega, fun z hz a h => by have := hfar.hand z hz a h; simp at this; omega⟩)
  have SM := Lib.hid hsm
  have HEy := Lib.hid (Hsame.out y hsm)
  have B2 := Lib.hid (B1.out.trans ((HA1.out.trans (ha2.bel)).mono (Nat.le_of_lt hlt1)))
  clear hrow2 ha2 hy2 hsm hfar
  obtain ⟨y0, y1, kA, km, kc, fA, fm, fc, mA, mm, mc, ks, fs, ms⟩ := y
  simp only [ClsT.V]
  go_wp2_with fail
  have C2 := Lib.hid (Row.new w2 #[.string ⟨y0.toArray⟩, .string ⟨y1.toArray⟩, .slice kA km kc, .slice fA fm fc, .slice mA mm mc] 26)
  have HA2 := Lib.hid ((Below.refl w2.heap.size w2).alloc (Nat.le_refl _) (.cells #[.string ⟨y0.toArray⟩, .string ⟨y1.toArray⟩, .slice kA km kc, .slice fA fm fc, .slice mA mm mc] 26))
  refine Calls.mono (end_yes w1.heap.size (some ⟨b, o, none⟩) n cap 84 _ (Q2.out.after HA2.out)) ?_
  rintro e w3 ⟨rfl, k3, hk3⟩
  have C3 : Row w3 w2.heap.size #[.string ⟨y0.toArray⟩, .string ⟨y1.toArray⟩, .slice kA km kc, .slice fA fm fc, .slice mA mm mc] 26 := by rw [hk3]; exact C2.out
  have R3 : Row w3 w.heap.size #[.string ⟨#[]⟩, .string ⟨#[]⟩, .slice none 0 0, .slice none 0 0, .slice none 0 0] 26 := by rw [hk3]; exact R2.out.after (Stru.drawn HA2.out k3)
  have K3 : Below w2.heap.size w2 w3 := by rw [hk3]; exact Stru.drawn HA2.out k3
  have D3 := Lib.hid C3
  have E3 := Lib.hid R3
  have Y3 := Lib.hid (Y2.out.below K3)
  have F3 := Lib.hid (B2.out.trans (K3.mono B2.out.size))
  clear hk3
  have g0 := C3.cell 0
  have g1 := C3.cell 1
  have g2 := C3.cell 2
  have g3 := C3.cell 3
  have g4 := C3.cell 4
  clear C3 R3 K3
  go_wp2_with fail
  have hrn := KlsX.right_any _ w3 (HLd.out.below F3.out HLd.out.1) Y3.out HEy.out.2
  rw [HEy.out.1] at hrn
  refine Calls.mono hrn ?_
  rintro e w4 ⟨rfl, hb4⟩
  clear hrn g0 g1 g2 g3 g4
  have D4 := D3.out.after hb4
  have E4 := E3.out.after hb4
  have F4 := Lib.hid (F3.out.trans (hb4.mono F3.out.size))
  have Y4 := Lib.hid (Y3.out.below hb4)
  have g0 := D4.cell 0
  have g1 := D4.cell 1
  have g2 := D4.cell 2
  have g3 := D4.cell 3
  have g4 := D4.cell 4
  have r0 := E4.cell 0
  have r1 := E4.cell 1
  have r2 := E4.cell 2
  have r3 := E4.cell 3
  have r4 := E4.cell 4
  have f0 := E4.free 0
  have f1 := E4.free 1
  have f2 := E4.free 2
  have f3 := E4.free 3
  have f4 := E4.free 4
  have G4 := Lib.hid E4
  clear D4 E4 hb4
  go_wp2_with fail
  have h0 := (((((G4.out.set 0 (.string ⟨y0.toArray⟩)).set 1 (.string ⟨y1.toArray⟩)).set 2 (.slice kA km kc)).set 3 (.slice fA fm fc)).set 4 (.slice mA mm mc))
  have D5 := Lib.hid (((((Keep.set (lo := w.heap.size + 1) w4 w.heap.size 0 (.string ⟨y0.toArray⟩) (by omega)).trans (Keep.set _ w.heap.size 1 (.string ⟨y1.toArray⟩) (by omega))).trans (Keep.set _ w.heap.size 2 (.slice kA km kc) (by omega))).trans (Keep.set _ w.heap.size 3 (.slice fA fm fc) (by omega))).trans (Keep.set _ w.heap.size 4 (.slice mA mm mc) (by omega)))
  exact bodyPost_ret (v := .tuple #[.agg #[.string ⟨y0.toArray⟩, .string ⟨y1.toArray⟩, .slice kA km kc, .slice fA fm fc, .slice mA mm mc], .int .i64 0]) (results2 Tryz.results21 _ _ _ _ rfl (run_loadVar_row _ _ _ _ #[.string ⟨y0.toArray⟩, .string ⟨y1.toArray⟩, .slice kA km kc, .slice fA fm fc, .slice mA mm mc] (0, 0) _ h0 Tryz.underlying26 rfl sizeClass)) rfl
    ⟨_, rfl, is_keep Y4.out F2.out D5.out, SM.out, ((((F4.out.setCell (Nat.le_refl _) _).setCell (Nat.le_refl _) _).setCell (Nat.le_refl _) _).setCell (Nat.le_refl _) _).setCell (Nat.le_refl _) _⟩

end KlsZ
end Go.Proofs.YthkkcecfenohjaaGreatDoor
