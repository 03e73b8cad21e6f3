/-
  The reference's Put of classes.
-/
import Derived.Test.YthkkcecfenohjaaGreatDoorKlsI
namespace Go.Proofs.YthkkcecfenohjaaGreatDoor
namespace KlsJ
open Go.RowKit Base BinM DescM Stru PoolM InsM InsA InsC InsP BinE BinPut BinText Bin8 BinAll Kls KlsK KlsP KlsQ KlsC KlsD KlsI PutN OpenK
open Part (Row)

set_option maxRecDepth 100000 in
set_option maxHeartbeats 16000000 in
theorem refPut_any (x : ClsT) (w : World) (hL : Laid w) (hx : x.is w) (hl : ClsT.lt x) :
    Calls Tryz.prog 20 #[x.V] w (Gives8K w (putK x)) := by
  have HL := Lib.hid hL
  have Hr := Lib.hid (fun (W : World) (hb : Below w.heap.size w W) => KlsX.refRight_any x W (hx.below hb) hl)
  have Hx := Lib.hid hx
  have P1 := Lib.hid (putK_bad (x := x))
  have HT := Lib.hid (fun (h : clsE x = 0) => tame_of hl h)
  have P2 := Lib.hid (putK_long (x := x))
  have P3 := Lib.hid (putK_ok (x := x))
  clear hL hl
  have HB := Lib.hid ((Below.refl w.heap.size w).alloc (Nat.le_refl _) (.cells #[.string ⟨x.name.toArray⟩, .string ⟨x.sup.toArray⟩, .slice x.kA x.km x.kc, .slice x.fA x.fm x.fc, .slice x.mA x.mm x.mc] 26))
  have H1 := Lib.hid (Box5.new w (.string ⟨x.name.toArray⟩) (.string ⟨x.sup.toArray⟩) (.slice x.kA x.km x.kc) (.slice x.fA x.fm x.fc) (.slice x.mA x.mm x.mc) 26)
  by_cases hE : clsE x = 0
  · have ht := HT.out hE
    have Ht := Lib.hid ht
    have P2' := Lib.hid (P2.out hE)
    have P3' := Lib.hid (P3.out hE)
    rw [hE] at Hr
    have hcode : ∀ b, allC b x.consts = (b ++ constB x.consts, 0) ∧ (constB x.consts).length ≤ 300000 := fun b => allC_ok ht.consts hx.consts.fit
    have hkl := (hcode []).2
    have HC := Lib.hid (fun b => (hcode b).1)
    have hnl := ht.name
    have hsl := ht.sup
    have hfl := ht.fields
    have hml := ht.meths
    have hfm : x.fields.length ≤ x.fm := Nat.le_of_eq hx.fields.len.symm
    have hfm2 : x.fm ≤ x.fields.length := Nat.le_of_eq hx.fields.len
    have hmm : x.meths.length ≤ x.mm := Nat.le_of_eq hx.meths.len.symm
    have hmm2 : x.mm ≤ x.meths.length := Nat.le_of_eq hx.meths.len
    have htn := txt_le (s := x.name) (by omega)
    have hts := txt_le (s := x.sup) (by omega)
    have hf10 := (num_can (n := (x.fm : Int)) (by omega) (by omega)).2.2
    have hm10 := (num_can (n := (x.mm : Int)) (by omega) (by omega)).2.2
    have hfd := flds_len (l := x.fields) ht.field
    clear hx ht hcode HT P1 P2 P3 hE
    have HM := Lib.hid (show clsB x = clsF x ++ x.meths.flatMap mthB from rfl)
    have HF := Lib.hid (show clsF x = clsH x ++ x.fields.flatMap fldB ++ num (x.mm : Int) from rfl)
    have HH := Lib.hid (show clsH x = [72, 66, 75, 49] ++ txt x.name ++ txt x.sup ++ constB x.consts ++ num (x.fm : Int) from rfl)
    generalize putK x = RR at *
    generalize clsB x = R at *
    generalize clsF x = Z at *
    generalize clsH x = Y at *
    obtain ⟨n, s, kA, km, kc, fA, fm, fc, mA, mm, mc, ks, fs, ms⟩ := x
    simp only [ClsT.V] at *
    obtain ⟨hc0, hc1, hc2, hc3, hc4⟩ := H1.out
    go_enter Tryz.func20, Tryz.ntmps20
    go_wp2_with fail
    refine Calls.mono (Hr.out _ HB.out) ?_
    rintro e w1 ⟨rfl, hb1⟩
    clear hc0 hc1 hc2 hc3 hc4
    have B1 := Lib.hid (HB.out.trans (hb1.mono HB.out.size))
    have H2 := Lib.hid (H1.out.after hb1)
    clear hb1 H1 HB
    have HB := Lib.hid B1.out
    have H1 := Lib.hid H2.out
    clear B1 H2
    have HBa := Lib.hid (((Below.refl w1.heap.size w1).alloc (Nat.le_refl _) (.cells #[.int .u8 72, .int .u8 66, .int .u8 75, .int .u8 49] 5)).drew)
    have HBm := Lib.hid (((Below.refl w1.heap.size w1).alloc (Nat.le_refl _) (.cells #[.int .u8 72, .int .u8 66, .int .u8 75, .int .u8 49] 5 (4, 5))).drew)
    obtain ⟨hc0, hc1, hc2, hc3, hc4⟩ := H1.out
    have hcv := conv_lit w1 #[.int .u8 72, .int .u8 66, .int .u8 75, .int .u8 49] 4 4
    have hlit := rds_lit w1 [72, 66, 75, 49] (4, 5)
    have Hlit := Lib.hid hlit
    clear hlit
    obtain ⟨X3, hX3⟩ : ∃ X, X = [72, 66, 75, 49] ++ txt n := ⟨_, rfl⟩
    obtain ⟨X, hX⟩ : ∃ X, X = X3 ++ txt s := ⟨_, rfl⟩
    have hX3l : X3.length ≤ 400 := by rw [hX3]; simp; omega
    have hXl : X.length ≤ 800 := by rw [hX]; simp; omega
    obtain ⟨Y1, hY1⟩ : ∃ Y1, Y1 = X ++ constB ks := ⟨_, rfl⟩
    have hL1 : Y1.length ≤ 301000 := by rw [hY1]; simp only [List.length_append]; omega
    have hL2 : Y.length ≤ 301100 := by rw [HH.out]; simp only [List.length_append]; rw [hY1, hX, hX3] at hL1; simp only [List.length_append] at hL1; omega
    have hL3 : Z.length ≤ 400000 := by rw [HF.out]; simp only [List.length_append]; omega
    have e1 : X ++ constB ks = Y1 := hY1.symm
    have e2 : Y1 ++ num (fm : Int) = Y := by rw [hY1, hX, hX3, HH.out]
    have G1 := Lib.hid e1
    have G2 := Lib.hid e2
    clear e1 e2 hY1 HH hkl
    have HX3 := Lib.hid hX3
    have HX := Lib.hid hX
    clear hX3 hX
    go_wp2_with fail
    refine wp_region_held_drew (S := fun w' => w'.cell? ⟨w.heap.size, 0, none⟩ = some (.string ⟨n.toArray⟩) ∧ w'.cell? ⟨w.heap.size, 1, none⟩ = some (.string ⟨s.toArray⟩)) (by kernel_rfl) ?hSb (fun hHeld => ?restb)
    case hSb => exact ⟨H1.out.1, H1.out.2.1⟩
    refine wpAnyH_take (i := 2) (oi := _) (v := ?vb1) rfl (by kernel_rfl) (by kernel_rfl) (by kernel_rfl) (fun _ _ _ h => h) (Or.inl ⟨by rfl, ?hyb1⟩) (by assumption) ?restb1
    case hyb1 => (intro w hSw; (try dsimp only at hSw); go_simp <;> with_reducible rfl)
    simp only [Act.put, List.getElem_toArray, List.getElem_cons_zero, List.getElem_cons_succ, List.setIfInBounds_toArray, List.set_cons_zero, List.set_cons_succ]
    refine wpAnyH_take (i := 3) (oi := _) (v := ?vb2) rfl (by kernel_rfl) (by kernel_rfl) (by kernel_rfl) (fun _ _ _ h => h) (Or.inl ⟨by rfl, ?hyb2⟩) (by assumption) ?restb2
    case hyb2 => (intro w hSw; (try dsimp only at hSw); go_simp <;> with_reducible rfl)
    simp only [Act.put, List.getElem_toArray, List.getElem_cons_zero, List.getElem_cons_succ, List.setIfInBounds_toArray, List.set_cons_zero, List.set_cons_succ]
    refine wpAnyH_take (i := 5) (oi := _) (v := ?vb3) rfl (by kernel_rfl) (by kernel_rfl) (by kernel_rfl) (fun _ _ _ h => h) (Or.inl ⟨by rfl, ?hyb3⟩) (by assumption) ?restb3
    case hyb3 => (intro w hSw; (try dsimp only at hSw); go_simp <;> with_reducible rfl)
    simp only [Act.put, List.getElem_toArray, List.getElem_cons_zero, List.getElem_cons_succ, List.setIfInBounds_toArray, List.set_cons_zero, List.set_cons_succ]
    refine wpAnyH_take (i := 6) (oi := _) (v := ?vb4) rfl (by kernel_rfl) (by kernel_rfl) (by kernel_rfl) (fun _ _ _ h => h) (Or.inl ⟨by rfl, ?hyb4⟩) (by assumption) ?restb4
    case hyb4 => (intro w hSw; (try dsimp only at hSw); go_simp <;> with_reducible rfl)
    simp only [Act.put, List.getElem_toArray, List.getElem_cons_zero, List.getElem_cons_succ, List.setIfInBounds_toArray, List.set_cons_zero, List.set_cons_succ]
    refine wpAnyH_ready (rs := [0]) (by kernel_rfl) (by simp) ?_
    refine AllReadyH.cons (o := _) rfl (fun K hK => ?_) AllReadyH.nil
    go_simp
    refine hK.out _ _ ?hSb5 (fun hHeldb5 => ?restb5)
    case hSb5 => exact ⟨(H1.out.after HBa.out).1, (H1.out.after HBa.out).2.1⟩
    clear hK K
    try simp only [Act.put, List.getElem_toArray, List.getElem_cons_zero, List.getElem_cons_succ, List.setIfInBounds_toArray, List.set_cons_zero, List.set_cons_succ]
    refine wpAnyH_ready (rs := [1]) (by kernel_rfl) (by simp) ?_
    refine AllReadyH.cons (o := _) rfl (fun K hK => ?_) AllReadyH.nil
    go_simp
    refine hK.out _ _ ?hSb6 (fun hHeldb6 => ?restb6)
    case hSb6 => exact ⟨(H1.out.after HBm.out).1, (H1.out.after HBm.out).2.1⟩
    clear hK K
    try simp only [Act.put, List.getElem_toArray, List.getElem_cons_zero, List.getElem_cons_succ, List.setIfInBounds_toArray, List.set_cons_zero, List.set_cons_succ]
    refine wpAnyH_ready (rs := [4]) (by kernel_rfl) (by simp) ?_
    refine AllReadyH.cons (o := _) rfl (fun K hK => ?_) AllReadyH.nil
    go_simp
    go_at_call 54
    refine (refText_any _ [72, 66, 75, 49] 4 4 ⟨n.toArray⟩ _ rfl (by simp [ByteArray.size]; omega) Hlit.out.drew).mono ?_
    rintro ee w3 ⟨v3, rfl, hown3, hb3⟩
    rw [show [72, 66, 75, 49] ++ txt (ByteArray.mk n.toArray).data.toList = X3 from HX3.out.symm] at hown3
    obtain ⟨A3, c3, rfl, hq3, hq3', hr3, _⟩ := Own8.slice (p := X3) hown3
    have HB3 := Lib.hid (HBm.out.trans (hb3.mono (Nat.le_trans HBm.out.size (Nat.le_refl _))))
    have Hr3 := Lib.hid hr3
    clear hown3 hb3 hr3
    refine hK.out _ _ ?hSb7 (fun hHeldb7 => ?restb7)
    case hSb7 => exact ⟨(H1.out.after HB3.out).1, (H1.out.after HB3.out).2.1⟩
    clear hK K
    refine wpAnyH_ready (rs := [7]) (by kernel_rfl) (by simp) ?_
    refine AllReadyH.cons (o := _) rfl (fun K hK => ?_) AllReadyH.nil
    go_simp
    go_at_call 54
    refine (refText_any A3 X3 _ c3 ⟨s.toArray⟩ w3 rfl (by simp [ByteArray.size]; omega) Hr3.out).mono ?_
    rintro ee w4 ⟨v4, rfl, hown4, hb4⟩
    rw [show X3 ++ txt (ByteArray.mk s.toArray).data.toList = X from HX.out.symm] at hown4
    obtain ⟨A4, c4, rfl, hq4, hq4', hr4, _⟩ := Own8.slice (p := X) hown4
    have HB4 := Lib.hid (HB3.out.trans (hb4.mono HB3.out.size))
    have Hr4 := Lib.hid hr4
    clear hown4 hb4 hr4
    refine hK.out _ _ ?hSb8 (fun hHeldb8 => ?restb8)
    case hSb8 => exact ⟨(H1.out.after HB4.out).1, (H1.out.after HB4.out).2.1⟩
    clear hK K
    refine wpAnyH_take (i := 8) (oi := _) (v := ?vb9) rfl (by kernel_rfl) (by kernel_rfl) (by kernel_rfl) (fun _ _ _ h => h) (Or.inl ⟨by rfl, ?hyb9⟩) (by assumption) ?restb9
    case hyb9 => (intro w hSw; (try dsimp only at hSw); go_simp <;> with_reducible rfl)
    simp only [Act.put, List.getElem_toArray, List.getElem_cons_zero, List.getElem_cons_succ, List.setIfInBounds_toArray, List.set_cons_zero, List.set_cons_succ]
    refine wpAnyH_done (by kernel_rfl) ?_ _
    clear hc0 hc1 hc2 hc3 hc4 hcv
    have H4 := Lib.hid (H1.out.after HB4.out)
    obtain ⟨hc0, hc1, hc2, hc3, hc4⟩ := H4.out
    have B4 := Lib.hid (HB.out.trans (HB4.out.mono HB.out.size))
    clear HB4 HB3 HBa HBm Hlit
    go_wp2_with fail
    refine Calls.mono (PutR.refPutAll_any A4 _ c4 X kA km kc ks w4 rfl Hr4.out (by omega) (Hx.out.consts.below B4.out) Ht.out.bulk) ?_
    rw [HC.out, G1.out]
    rintro e w5 ⟨v5, rfl, hown5, hb5⟩
    obtain ⟨A5, c5, rfl, hq5, hq5', hr5, _⟩ := Own8.slice (p := Y1) hown5
    have H5 := Lib.hid (H4.out.after hb5)
    clear hc0 hc1 hc2 hc3 hc4
    obtain ⟨hc0, hc1, hc2, hc3, hc4⟩ := H5.out
    have B5 := Lib.hid (B4.out.trans (hb5.mono B4.out.size))
    have Hr5 := Lib.hid hr5
    clear hown5 hb5 hr5
    go_wp2_with fail
    refine Calls.mono (RefPut.refPut_any A5 Y1 _ c5 (fm : Int) w5 rfl (by omega) (by omega) (by omega) Hr5.out) ?_
    rw [G2.out]
    rintro e w6 ⟨v6, rfl, hown6, hb6⟩
    replace hown6 : Own8 w6 w5.heap.size v6 Y := hown6
    have O6 : Hid (Own8 w6 w.heap.size v6 Y) := Lib.hid (own_mono hown6 B5.out.size)
    have H6 := Lib.hid (H5.out.after hb6)
    clear hc0 hc1 hc2 hc3 hc4
    have B6 := Lib.hid (B5.out.trans (hb6.mono B5.out.size))
    clear hown6 hb6
    go_wp2_with fail
    go_loopw [5, 6] (fun v i wr => ∃ j : Nat, j ≤ fm ∧ i = .int .i64 j ∧ Own8 wr w.heap.size v (Y ++ (fs.take j).flatMap fldB) ∧ Below w.heap.size w wr ∧ Box5 wr w.heap.size (.string ⟨n.toArray⟩) (.string ⟨s.toArray⟩) (.slice kA km kc) (.slice fA fm fc) (.slice mA mm mc)) (fun _ i _ => fm - (intOf i).toNat)
    case atStart => exact ⟨0, Nat.zero_le _, rfl, by rw [List.take_zero, List.flatMap_nil, List.append_nil]; exact O6.out, B6.out, H6.out⟩
    case round =>
      obtain ⟨j, hj, rfl, hown, hbel, hbox⟩ := hrel
      have Hbel := Lib.hid hbel
      have Hbox := Lib.hid hbox
      have hsz := hbel.size
      obtain ⟨hc0, hc1, hc2, hc3, hc4⟩ := hbox
      by_cases hlt : j < fm
      · have hja : j < fs.length := by omega
        obtain ⟨b1, o1, rfl, hb1, d0, d1⟩ := fld_at (Hx.out.fields.below hbel).rds hja
        have hj1 : (j : Int) < (fm : Int) := by omega
        have hj0 : (0 : Int) ≤ (j : Int) := by omega
        have Hct := Lib.hid (show Y ++ (fs.take (j + 1)).flatMap fldB = ((Y ++ (fs.take j).flatMap fldB) ++ txt fs[j].name) ++ txt fs[j].desc by
          rw [List.take_succ_eq_append_getElem hja, List.flatMap_append]; simp [fldB])
        have hpl : (Y ++ (fs.take j).flatMap fldB).length ≤ 400000 := by
          have h1 := flds_len (l := fs.take j) (fun x hx => Ht.out.field x (List.mem_of_mem_take hx))
          have h2 : (fs.take j).length ≤ 64 := by simp; omega
          simp only [List.length_append]
          omega
        have hcx := Ht.out.field _ (List.getElem_mem hja)
        clear hbel
        generalize Y ++ (fs.take j).flatMap fldB = p at *
        obtain ⟨Av, cv, rfl, hqv, hqv', hrv, _⟩ := Own8.slice hown
        have Hrv := Lib.hid hrv
        clear hown hrv
        generalize fs[j] = x at *
        obtain ⟨f, t⟩ := x
        simp only at d0 d1 hcx
        have htf := txt_le (s := f) (by omega)
        have D0 := Lib.hid d0
        have D1 := Lib.hid d1
        go_wp2_with fail
        go_region_held3 (fun w' => w'.cell? ⟨w.heap.size, 3, none⟩ = some (.slice (some ⟨b1, o1, none⟩) fm fc) ∧ w'.cell? ⟨b1, o1 + j * 2, none⟩ = some (.string ⟨f.toArray⟩) ∧ w'.cell? ⟨b1, o1 + j * 2 + 1, none⟩ = some (.string ⟨t.toArray⟩))
          (first | exact ⟨hc3, d0, d1⟩ | go_keep)
          (first
            | (have hB := K1; clear hB; go_at_call 54; refine Calls.mono (refText_any A7 P7 _ c7 ⟨t.toArray⟩ w7 rfl (by simp [ByteArray.size]; omega) R7.out) ?_; rintro e w8 ⟨v8, rfl, hown8, hb8⟩
               replace hown8 : Own8 w8 w7.heap.size v8 (P7 ++ txt t) := hown8
               rw [HP7.out] at hown8
               have O8 : Hid (Own8 w8 w.heap.size v8 ((p ++ txt f) ++ txt t)) := Lib.hid (own_mono hown8 (Nat.le_trans hsz K1.out.size))
               have K2 := Lib.hid (K1.out.trans (hb8.mono K1.out.size))
               have E8 := Lib.hid (E7.out.after hb8)
               have M0 := Lib.hid ((hb8.cell (p := ⟨b1, o1 + j * 2, none⟩) (Nat.lt_of_lt_of_le hb1 K1.out.size)).trans d0)
               have M1 := Lib.hid ((hb8.cell (p := ⟨b1, o1 + j * 2 + 1, none⟩) (Nat.lt_of_lt_of_le hb1 K1.out.size)).trans d1)
               clear hown8 hb8 hc0 hc1 hc2 hc3 hc4 d0 d1
               obtain ⟨hc0, hc1, hc2, hc3, hc4⟩ := E8.out
               have d0 := M0.out
               have d1 := M1.out)
            | (go_at_call 54; refine Calls.mono (refText_any Av p _ cv ⟨f.toArray⟩ _ rfl (by simp [ByteArray.size]; omega) Hrv.out.drew) ?_; rintro e w7 ⟨v7, rfl, hown7, hb7⟩
               replace hown7 : Own8 w7 wr.heap.size v7 (p ++ txt f) := hown7
               obtain ⟨P7, hP7⟩ : ∃ P7, P7 = p ++ txt f := ⟨_, rfl⟩
               have hP7l : P7.length ≤ 401000 := by rw [hP7]; simp only [List.length_append]; omega
               rw [← hP7] at hown7
               have HP7 := Lib.hid hP7
               obtain ⟨A7, c7, rfl, hq7, hq7', hr7, _⟩ := Own8.slice hown7
               have R7 := Lib.hid hr7
               have K1 := Lib.hid ((Below.refl wr.heap.size wr).drew.trans (hb7.mono (Nat.le_refl _)))
               have E7 := Lib.hid (Box5.after (w := wr.drew) Hbox.out hb7)
               have N0 := Lib.hid ((hb7.cell (p := ⟨b1, o1 + j * 2, none⟩) hb1).trans d0)
               have N1 := Lib.hid ((hb7.cell (p := ⟨b1, o1 + j * 2 + 1, none⟩) hb1).trans d1)
               clear hown7 hb7 hr7 hP7 hc0 hc1 hc2 hc3 hc4 d0 d1
               obtain ⟨hc0, hc1, hc2, hc3, hc4⟩ := E7.out
               have d0 := N0.out
               have d1 := N1.out))
        go_wp2_with fail
        go_roundw
        case rel => exact ⟨j + 1, by omega, by go_num, by rw [Hct.out]; exact O8.out, Hbel.out.trans (K2.out.mono hsz), Hbox.out.after K2.out⟩
        case measure => simp [intOf]; omega
      · have e : fs.take j = fs := List.take_of_length_le (by omega)
        rw [e] at hown
        have hpl : (Y ++ fs.flatMap fldB).length ≤ 400000 := by
          simp only [List.length_append]
          omega
        have HZ : Hid ((Y ++ fs.flatMap fldB) ++ num (mm : Int) = Z) := Lib.hid (by rw [HF.out])
        clear hbel HF hc0 hc1 hc2
        generalize Y ++ fs.flatMap fldB = p at *
        obtain ⟨Av, cv, rfl, hqv, hqv', hrv, _⟩ := Own8.slice hown
        have Hrv := Lib.hid hrv
        clear hown hrv
        go_wp2_with fail
        refine Calls.mono (RefPut.refPut_any Av p _ cv (mm : Int) wr rfl (by omega) (by omega) (by omega) Hrv.out) ?_
        rw [HZ.out]
        rintro e w7 ⟨v7, rfl, hown7, hb7⟩
        replace hown7 : Own8 w7 wr.heap.size v7 Z := hown7
        have O7 : Hid (Own8 w7 w.heap.size v7 Z) := Lib.hid (own_mono hown7 hsz)
        have H7 := Lib.hid (Hbox.out.after hb7)
        have B7 := Lib.hid (Hbel.out.trans (hb7.mono hsz))
        clear hown7 hb7 hc3 hc4
        go_wp2_with fail
        go_loopw [5, 7] (fun v i wr => ∃ j : Nat, j ≤ mm ∧ i = .int .i64 j ∧ Own8 wr w.heap.size v (Z ++ (ms.take j).flatMap mthB) ∧ Below w.heap.size w wr ∧ Box5 wr w.heap.size (.string ⟨n.toArray⟩) (.string ⟨s.toArray⟩) (.slice kA km kc) (.slice fA fm fc) (.slice mA mm mc)) (fun _ i _ => mm - (intOf i).toNat)
        case atStart => exact ⟨0, Nat.zero_le _, rfl, by rw [List.take_zero, List.flatMap_nil, List.append_nil]; exact O7.out, B7.out, H7.out⟩
        case round =>
          obtain ⟨j, hj, rfl, hown, hbel, hbox⟩ := hrel
          have Hbel := Lib.hid hbel
          have Hbox := Lib.hid hbox
          have hsz := hbel.size
          obtain ⟨hc0, hc1, hc2, hc3, hc4⟩ := hbox
          by_cases hlt : j < mm
          · have hja : j < ms.length := by omega
            obtain ⟨b1, o1, rfl, hb1, m0, m1, m2, m3, m4⟩ := mth_at (Hx.out.meths.below hbel).rds hja
            have hj1 : (j : Int) < (mm : Int) := by omega
            have hj0 : (0 : Int) ≤ (j : Int) := by omega
            have Hct := Lib.hid (show Z ++ (ms.take (j + 1)).flatMap mthB = (Z ++ (ms.take j).flatMap mthB) ++ mthB ms[j] by
              rw [List.take_succ_eq_append_getElem hja, List.flatMap_append]; simp)
            have hpl : (Z ++ (ms.take j).flatMap mthB).length ≤ 4000000 := by
              have h1 := mths_len (w := w) (l := ms.take j) (fun x hx => Hx.out.meths.each x (List.mem_of_mem_take hx)) (fun x hx => Ht.out.meth x (List.mem_of_mem_take hx))
              have h2 : (ms.take j).length ≤ 64 := by simp; omega
              simp only [List.length_append]
              omega
            have hxi := Hx.out.meths.each _ (List.getElem_mem hja)
            have hti := Ht.out.meth _ (List.getElem_mem hja)
            have Hxi := Lib.hid hxi
            have Hti := Lib.hid hti
            have hcd : ∀ b, putI b (ms[j]'hja).code = (b ++ codeB (ms[j]'hja).code, 0) ∧ (codeB (ms[j]'hja).code).length ≤ 10250 := fun b => by
              rcases putI_ok (b := b) hti.code with h | ⟨y, hy, hn⟩
              · exact h
              · exact (hn (hxi.code.fit y hy)).elim
            have hcl := (hcd []).2
            have HCm := Lib.hid (fun b => (hcd b).1)
            have hlo := hxi.fit
            have hnm := hti.name
            have hsg := hti.sig
            have hhl := hti.hand
            have hhm : (ms[j]'hja).hand.length ≤ (ms[j]'hja).hm := Nat.le_of_eq hxi.hand.len.symm
            have hhm2 : (ms[j]'hja).hm ≤ (ms[j]'hja).hand.length := Nat.le_of_eq hxi.hand.len
            have HMB := Lib.hid (show mthB (ms[j]'hja) = (txt (ms[j]'hja).name ++ txt (ms[j]'hja).sig ++ num (ms[j]'hja).locals ++ codeB (ms[j]'hja).code ++ num ((ms[j]'hja).hm : Int)) ++ (ms[j]'hja).hand.flatMap hndB from rfl)
            clear hbel hxi hti hcd
            generalize Z ++ (ms.take j).flatMap mthB = p at *
            obtain ⟨Av, cv, rfl, hqv, hqv', hrv, _⟩ := Own8.slice hown
            have Hrv := Lib.hid hrv
            clear hown hrv
            generalize mthB ms[j] = N at *
            generalize ms[j] = x at *
            obtain ⟨x0, x1, x2, x3, x4, x5, x6, x7, x8, x9, x10⟩ := x
            simp only at m0 m1 m2 m3 m4 hcl HCm hlo hnm hsg hhl hhm hhm2 HMB
            unfold fitI at hlo
            have ht0 := txt_le (s := x0) (by omega)
            have ht1 := txt_le (s := x1) (by omega)
            have hn2 := (num_can hlo.1 hlo.2).2.2
            have hn7 := (num_can (n := (x7 : Int)) (by omega) (by omega)).2.2
            have HA := Lib.hid ((Below.refl wr.heap.size wr).alloc (Nat.le_refl _) (.cells #[.string ⟨x0.toArray⟩, .string ⟨x1.toArray⟩, .int .i64 x2, .slice x3 x4 x5, .slice x6 x7 x8] 62))
            have QA := Lib.hid (Row.new wr #[.string ⟨x0.toArray⟩, .string ⟨x1.toArray⟩, .int .i64 x2, .slice x3 x4 x5, .slice x6 x7 x8] 62)
            go_wp2_with fail
            have d0 := QA.out.cell 0
            have d1 := QA.out.cell 1
            have d2 := QA.out.cell 2
            have d3 := QA.out.cell 3
            have d4 := QA.out.cell 4
            clear hc0 hc1 hc2 hc3 hc4 m0 m1 m2 m3 m4
            go_region_held3 (fun w' => w'.cell? ⟨wr.heap.size, 0, none⟩ = some (.string ⟨x0.toArray⟩) ∧ w'.cell? ⟨wr.heap.size, 1, none⟩ = some (.string ⟨x1.toArray⟩) ∧ w'.cell? ⟨wr.heap.size, 2, none⟩ = some (.int .i64 x2))
              (first | exact ⟨d0, d1, d2⟩ | go_keep)
              (first
                | (have hB := K2; clear hB; go_at_call 56; refine Calls.mono (RefPut.refPut_any A9 P9 _ c9 x2 w9 rfl (by omega) hlo.1 hlo.2 R9.out) ?_; rintro e w10 ⟨v10, rfl, hown9, hb9⟩
                   replace hown9 : Own8 w10 w9.heap.size v10 (P9 ++ num x2) := hown9
                   have K3 := Lib.hid (K2.out.trans (hb9.mono K2.out.size))
                   have Q10 := Lib.hid (Q9.out.after hb9)
                   obtain ⟨P10, hP10⟩ : ∃ T, T = P9 ++ num x2 := ⟨_, rfl⟩
                   have hlP10 : P10.length ≤ 4004000 := by rw [hP10]; simp only [List.length_append]; omega
                   rw [← hP10] at hown9
                   have HP10 := Lib.hid hP10
                   obtain ⟨A10, c10, rfl, hqP10, hq'P10, hr9, _⟩ := Own8.slice hown9
                   have R10 := Lib.hid hr9
                   clear hown9 hb9 hr9 hP10 d0 d1 d2 d3 d4
                   have d0 := Q10.out.cell 0
                   have d1 := Q10.out.cell 1
                   have d2 := Q10.out.cell 2
                   have d3 := Q10.out.cell 3
                   have d4 := Q10.out.cell 4)
                | (have hB := K1; clear hB; go_at_call 54; refine Calls.mono (refText_any A8 P8 _ c8 ⟨x1.toArray⟩ w8 rfl (by simp [ByteArray.size]; omega) R8.out) ?_; rintro e w9 ⟨v9, rfl, hown9, hb9⟩
                   replace hown9 : Own8 w9 w8.heap.size v9 (P8 ++ txt x1) := hown9
                   have K2 := Lib.hid (K1.out.trans (hb9.mono K1.out.size))
                   have Q9 := Lib.hid (Q8.out.after hb9)
                   obtain ⟨P9, hP9⟩ : ∃ T, T = P8 ++ txt x1 := ⟨_, rfl⟩
                   have hlP9 : P9.length ≤ 4003000 := by rw [hP9]; simp only [List.length_append]; omega
                   rw [← hP9] at hown9
                   have HP9 := Lib.hid hP9
                   obtain ⟨A9, c9, rfl, hqP9, hq'P9, hr9, _⟩ := Own8.slice hown9
                   have R9 := Lib.hid hr9
                   clear hown9 hb9 hr9 hP9 d0 d1 d2 d3 d4
                   have d0 := Q9.out.cell 0
                   have d1 := Q9.out.cell 1
                   have d2 := Q9.out.cell 2
                   have d3 := Q9.out.cell 3
                   have d4 := Q9.out.cell 4)
                | (go_at_call 54; refine Calls.mono (refText_any Av p _ cv ⟨x0.toArray⟩ _ rfl (by simp [ByteArray.size]; omega) (Hrv.out.below HA.out).drew) ?_; rintro e w8 ⟨v8, rfl, hown9, hb9⟩
                   replace hown9 : Own8 w8 (wr.alloc (.cells #[.string ⟨x0.toArray⟩, .string ⟨x1.toArray⟩, .int .i64 x2, .slice x3 x4 x5, .slice x6 x7 x8] 62)).heap.size v8 (p ++ txt x0) := hown9
                   have K1 := Lib.hid (HA.out.drew.trans (hb9.mono HA.out.size))
                   have Q8 := Lib.hid (Row.after (w := (wr.alloc (.cells #[.string ⟨x0.toArray⟩, .string ⟨x1.toArray⟩, .int .i64 x2, .slice x3 x4 x5, .slice x6 x7 x8] 62)).drew) QA.out hb9)
                   obtain ⟨P8, hP8⟩ : ∃ T, T = p ++ txt x0 := ⟨_, rfl⟩
                   have hlP8 : P8.length ≤ 4001000 := by rw [hP8]; simp only [List.length_append]; omega
                   rw [← hP8] at hown9
                   have HP8 := Lib.hid hP8
                   obtain ⟨A8, c8, rfl, hqP8, hq'P8, hr9, _⟩ := Own8.slice hown9
                   have R8 := Lib.hid hr9
                   clear hown9 hb9 hr9 hP8 d0 d1 d2 d3 d4
                   have d0 := Q8.out.cell 0
                   have d1 := Q8.out.cell 1
                   have d2 := Q8.out.cell 2
                   have d3 := Q8.out.cell 3
                   have d4 := Q8.out.cell 4))
            go_wp2_with fail
            refine Calls.mono (InsR.refInsPut_any A10 _ c10 P10 x3 x4 x5 x9 w10 rfl R10.out (by omega) (Hxi.out.code.below (Hbel.out.trans (K3.out.mono hsz)))) ?_
            rw [HCm.out]
            rintro e w11 ⟨v11, rfl, hown11, hb11⟩
            replace hown11 : Own8 w11 w10.heap.size v11 (P10 ++ codeB x9) := hown11
            obtain ⟨P11, hP11⟩ : ∃ T, T = P10 ++ codeB x9 := ⟨_, rfl⟩
            have hlP11 : P11.length ≤ 4020000 := by rw [hP11]; simp only [List.length_append]; omega
            rw [← hP11] at hown11
            have HP11 := Lib.hid hP11
            obtain ⟨A11, c11, rfl, hq11, hq11', hr11, _⟩ := Own8.slice hown11
            have R11 := Lib.hid hr11
            have K4 := Lib.hid (K3.out.trans (hb11.mono K3.out.size))
            have Q11 := Lib.hid (Q10.out.after hb11)
            clear hown11 hb11 hr11 hP11 d0 d1 d2 d3 d4
            have d4 := Q11.out.cell 4
            go_wp2_with fail
            refine Calls.mono (RefPut.refPut_any A11 P11 _ c11 (x7 : Int) w11 rfl (by omega) (by omega) (by omega) R11.out) ?_
            rintro e w12 ⟨v12, rfl, hown12, hb12⟩
            replace hown12 : Own8 w12 w11.heap.size v12 (P11 ++ num (x7 : Int)) := hown12
            obtain ⟨P12, hP12⟩ : ∃ T, T = P11 ++ num (x7 : Int) := ⟨_, rfl⟩
            have hlP12 : P12.length ≤ 4021000 := by rw [hP12]; simp only [List.length_append]; omega
            rw [← hP12] at hown12
            have HN : Hid (p ++ N = P12 ++ x10.flatMap hndB) := Lib.hid (by rw [HMB.out, hP12, HP11.out, HP10.out, HP9.out, HP8.out]; simp)
            have O12 : Hid (Own8 w12 w.heap.size v12 P12) := Lib.hid (own_mono hown12 (Nat.le_trans hsz K4.out.size))
            have K5 := Lib.hid (K4.out.trans (hb12.mono K4.out.size))
            have Q12 := Lib.hid (Q11.out.after hb12)
            clear hown12 hb12 hP12 d4
            go_wp2_with fail
            go_loopw [5, 9] (fun v i wq => ∃ k : Nat, k ≤ x7 ∧ i = .int .i64 k ∧ Own8 wq w.heap.size v (P12 ++ (x10.take k).flatMap hndB) ∧ Below w12.heap.size w12 wq) (fun _ i _ => x7 - (intOf i).toNat)
            case atStart => exact ⟨0, Nat.zero_le _, rfl, by rw [List.take_zero, List.flatMap_nil, List.append_nil]; exact O12.out, Below.refl _ _⟩
            case round =>
              obtain ⟨k, hk, rfl, hown, hbelq⟩ := hrel
              have Hbelq := Lib.hid hbelq
              have K6 := Lib.hid (K5.out.trans (hbelq.mono K5.out.size))
              have Q6 := Lib.hid (Q12.out.after hbelq)
              have B6 := Lib.hid (Hbel.out.trans (K6.out.mono hsz))
              have hszq : w.heap.size ≤ wr.heap.size := B6.out.size
              have d4 := Q6.out.cell 4
              clear hbelq
              by_cases hltq : k < x7
              · have hka : k < x10.length := by omega
                obtain ⟨b2, o2, rfl, hb2, g0, g1, g2, g3⟩ := hnd_at (Hxi.out.hand.below B6.out).rds hka
                have hk1 : (k : Int) < (x7 : Int) := by omega
                have hk0 : (0 : Int) ≤ (k : Int) := by omega
                have Hctq := Lib.hid (show P12 ++ (x10.take (k + 1)).flatMap hndB = ((((P12 ++ (x10.take k).flatMap hndB) ++ num x10[k].frm) ++ num x10[k].til) ++ num x10[k].pos) ++ txt x10[k].cls by
                  rw [List.take_succ_eq_append_getElem hka, List.flatMap_append]; simp [hndB, nums])
                have hplq : (P12 ++ (x10.take k).flatMap hndB).length ≤ 4100000 := by
                  have h1 := hnds_len (l := x10.take k) (fun x hx => Hxi.out.hand.fit x (List.mem_of_mem_take hx)) (fun x hx => Hti.out.cls x (List.mem_of_mem_take hx))
                  have h2 : (x10.take k).length ≤ 64 := by simp; omega
                  simp only [List.length_append]
                  omega
                have hfx := Hxi.out.hand.fit _ (List.getElem_mem hka)
                have hcx := Hti.out.cls _ (List.getElem_mem hka)
                generalize P12 ++ (x10.take k).flatMap hndB = pp at *
                obtain ⟨Au, cu, rfl, hqu, hqu', hru, _⟩ := Own8.slice hown
                have Hru := Lib.hid hru
                clear hown hru
                generalize x10[k] = x at *
                obtain ⟨f, t, a, q⟩ := x
                simp only at g0 g1 g2 g3 hfx hcx
                unfold fitI at hfx
                obtain ⟨hf1, hf2, hf3⟩ := hfx
                have hnf := (num_can hf1.1 hf1.2).2.2
                have hnt := (num_can hf2.1 hf2.2).2.2
                have hna := (num_can hf3.1 hf3.2).2.2
                have HAq := Lib.hid ((Below.refl wr.heap.size wr).alloc (Nat.le_refl _) (.cells #[.int .i64 f, .int .i64 t, .int .i64 a, .string ⟨q.toArray⟩] 79))
                have IA := Lib.hid (Row.new wr #[.int .i64 f, .int .i64 t, .int .i64 a, .string ⟨q.toArray⟩] 79)
                go_wp2_with fail
                clear g0 g1 g2 g3 d4
                have g0 := IA.out.cell 0
                have g1 := IA.out.cell 1
                have g2 := IA.out.cell 2
                have g3 := IA.out.cell 3
                go_region_held3 (fun w' => w'.cell? ⟨wr.heap.size, 0, none⟩ = some (.int .i64 f) ∧ w'.cell? ⟨wr.heap.size, 1, none⟩ = some (.int .i64 t) ∧ w'.cell? ⟨wr.heap.size, 2, none⟩ = some (.int .i64 a) ∧ w'.cell? ⟨wr.heap.size, 3, none⟩ = some (.string ⟨q.toArray⟩))
                  (first | exact ⟨g0, g1, g2, g3⟩ | go_keep)
                  (first
                    | (have hB := J3; clear hB; go_at_call 54; refine Calls.mono (refText_any B3 T3 _ e3 ⟨q.toArray⟩ y3 rfl (by simp [ByteArray.size]; omega) S3.out) ?_; rintro e y4 ⟨u4, rfl, hown9, hb9⟩
                       replace hown9 : Own8 y4 y3.heap.size u4 (T3 ++ txt q) := hown9
                       have J4 := Lib.hid (J3.out.trans (hb9.mono J3.out.size))
                       have I4 := Lib.hid (I3.out.after hb9)
                       have O4 : Hid (Own8 y4 w.heap.size u4 (T3 ++ txt q)) := Lib.hid (own_mono hown9 (Nat.le_trans hszq J3.out.size))
                       clear hown9 hb9 g0 g1 g2 g3
                       have g0 := I4.out.cell 0
                       have g1 := I4.out.cell 1
                       have g2 := I4.out.cell 2
                       have g3 := I4.out.cell 3)
                    | (have hB := J2; clear hB; go_at_call 56; refine Calls.mono (RefPut.refPut_any B2 T2 _ e2 a y2 rfl (by omega) hf3.1 hf3.2 S2.out) ?_; rintro e y3 ⟨u3, rfl, hown9, hb9⟩
                       replace hown9 : Own8 y3 y2.heap.size u3 (T2 ++ num a) := hown9
                       have J3 := Lib.hid (J2.out.trans (hb9.mono J2.out.size))
                       have I3 := Lib.hid (I2.out.after hb9)
                       obtain ⟨T3, hT3⟩ : ∃ T, T = T2 ++ num a := ⟨_, rfl⟩
                       have hlT3 : T3.length ≤ 4100300 := by rw [hT3]; simp only [List.length_append]; omega
                       rw [← hT3] at hown9
                       have HT3 := Lib.hid hT3
                       obtain ⟨B3, e3, rfl, hqT3, hq'T3, hr9, _⟩ := Own8.slice hown9
                       have S3 := Lib.hid hr9
                       clear hown9 hb9 hr9 hT3 g0 g1 g2 g3
                       have g0 := I3.out.cell 0
                       have g1 := I3.out.cell 1
                       have g2 := I3.out.cell 2
                       have g3 := I3.out.cell 3)
                    | (have hB := J1; clear hB; go_at_call 56; refine Calls.mono (RefPut.refPut_any B1 T1 _ e1 t y1 rfl (by omega) hf2.1 hf2.2 S1.out) ?_; rintro e y2 ⟨u2, rfl, hown9, hb9⟩
                       replace hown9 : Own8 y2 y1.heap.size u2 (T1 ++ num t) := hown9
                       have J2 := Lib.hid (J1.out.trans (hb9.mono J1.out.size))
                       have I2 := Lib.hid (I1.out.after hb9)
                       obtain ⟨T2, hT2⟩ : ∃ T, T = T1 ++ num t := ⟨_, rfl⟩
                       have hlT2 : T2.length ≤ 4100200 := by rw [hT2]; simp only [List.length_append]; omega
                       rw [← hT2] at hown9
                       have HT2 := Lib.hid hT2
                       obtain ⟨B2, e2, rfl, hqT2, hq'T2, hr9, _⟩ := Own8.slice hown9
                       have S2 := Lib.hid hr9
                       clear hown9 hb9 hr9 hT2 g0 g1 g2 g3
                       have g0 := I2.out.cell 0
                       have g1 := I2.out.cell 1
                       have g2 := I2.out.cell 2
                       have g3 := I2.out.cell 3)
                    | (go_at_call 56; refine Calls.mono (RefPut.refPut_any Au pp _ cu f _ rfl (by omega) hf1.1 hf1.2 (Hru.out.below HAq.out).drew) ?_; rintro e y1 ⟨u1, rfl, hown9, hb9⟩
                       replace hown9 : Own8 y1 (wr.alloc (.cells #[.int .i64 f, .int .i64 t, .int .i64 a, .string ⟨q.toArray⟩] 79)).heap.size u1 (pp ++ num f) := hown9
                       have J1 := Lib.hid (HAq.out.drew.trans (hb9.mono HAq.out.size))
                       have I1 := Lib.hid (Row.after (w := (wr.alloc (.cells #[.int .i64 f, .int .i64 t, .int .i64 a, .string ⟨q.toArray⟩] 79)).drew) IA.out hb9)
                       obtain ⟨T1, hT1⟩ : ∃ T, T = pp ++ num f := ⟨_, rfl⟩
                       have hlT1 : T1.length ≤ 4100100 := by rw [hT1]; simp only [List.length_append]; omega
                       rw [← hT1] at hown9
                       have HT1 := Lib.hid hT1
                       obtain ⟨B1, e1, rfl, hqT1, hq'T1, hr9, _⟩ := Own8.slice hown9
                       have S1 := Lib.hid hr9
                       clear hown9 hb9 hr9 hT1 g0 g1 g2 g3
                       have g0 := I1.out.cell 0
                       have g1 := I1.out.cell 1
                       have g2 := I1.out.cell 2
                       have g3 := I1.out.cell 3))
                go_wp2_with fail
                go_roundw
                case rel => exact ⟨k + 1, by omega, by go_num, by rw [Hctq.out, ← HT1.out, ← HT2.out, ← HT3.out]; exact O4.out, Hbelq.out.trans (J4.out.mono Hbelq.out.size)⟩
                case measure => simp [intOf]; omega
              · have e : x10.take k = x10 := List.take_of_length_le (by omega)
                rw [e, ← HN.out] at hown
                have Hown := Lib.hid hown
                clear hown
                go_wp2_with fail
                go_roundw
                case rel => exact ⟨j + 1, by omega, by go_num, by rw [Hct.out]; exact Hown.out, B6.out, Hbox.out.after K6.out⟩
                case measure => simp [intOf]; omega
          · have e : ms.take j = ms := List.take_of_length_le (by omega)
            rw [e, ← HM.out] at hown
            have Hown := Lib.hid hown
            obtain ⟨Av, cv, rfl, hqv, hqv', hrv, _⟩ := Own8.slice hown
            clear hbel hown hrv
            by_cases h6 : 65536 < R.length
            · have Hq := Lib.hid (P2'.out h6)
              have h6' : (65536 : Int) < (R.length : Int) := by omega
              have d1 : decide ((65536 : Int) < (R.length : Int)) = true := by simp; omega
              clear h6
              go_wp2_with fail
              go_ret2
              exact gives8K Hq.out (Own8.nil _ _) Hbel.out
            · have Hq := Lib.hid (P3'.out h6)
              have h6' : ¬ (65536 : Int) < (R.length : Int) := by omega
              have d1 : decide ((65536 : Int) < (R.length : Int)) = false := by simp; omega
              clear h6
              go_wp2_with fail
              go_ret2
              exact gives8K Hq.out Hown.out Hbel.out
  · have Hq := Lib.hid (P1.out hE)
    have hE2 : (clsE x != 0) = true := by simp [hE]
    generalize clsE x = E at *
    generalize putK x = RR at *
    obtain ⟨n, s, kA, km, kc, fA, fm, fc, mA, mm, mc, ks, fs, ms⟩ := x
    simp only [ClsT.V] at *
    obtain ⟨hc0, hc1, hc2, hc3, hc4⟩ := H1.out
    clear hE
    go_enter Tryz.func20, Tryz.ntmps20
    go_wp2_with fail
    refine Calls.mono (Hr.out _ HB.out) ?_
    rintro e w1 ⟨rfl, hb1⟩
    clear hc0 hc1 hc2 hc3 hc4
    have B1 := Lib.hid (HB.out.trans (hb1.mono HB.out.size))
    clear hb1
    go_wp2_with fail
    go_ret2
    exact gives8K Hq.out (Own8.nil _ _) B1.out

end KlsJ
end Go.Proofs.YthkkcecfenohjaaGreatDoor
