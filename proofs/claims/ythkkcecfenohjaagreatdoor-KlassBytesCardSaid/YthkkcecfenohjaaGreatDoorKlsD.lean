/-
  The bytes of a class: klass.bytesOf.
-/
import Derived.Test.YthkkcecfenohjaaGreatDoorKlsC
namespace Go.Proofs.YthkkcecfenohjaaGreatDoor
namespace KlsD
open Go.RowKit Base BinM DescM Stru PoolM InsM InsA InsC InsP BinE BinPut BinText Bin8 BinAll Kls KlsK KlsC PutN PoolD
open Part (Row)

/-- the bytes of constants, of a class -/
def constB (l : List Cst) : List UInt8 := (allC [] l).1
def clsH (x : ClsT) : List UInt8 := [72, 66, 75, 49] ++ txt x.name ++ txt x.sup ++ constB x.consts ++ num (x.fm : Int)
def clsF (x : ClsT) : List UInt8 := clsH x ++ x.fields.flatMap fldB ++ num (x.mm : Int)
def clsB (x : ClsT) : List UInt8 := clsF x ++ x.meths.flatMap mthB
/-- what of a class must be bounded so that its bytes are -/
structure TameC (x : ClsT) : Prop where
  name : x.name.length ≤ 300
  sup : x.sup.length ≤ 300
  consts : (allC [] x.consts).2 = 0
  bulk : ∀ y ∈ x.consts, y.s.length ≤ 140737488351232 ∧ y.t.length ≤ 140737488351232 ∧ y.u.length ≤ 140737488351232
  fields : x.fields.length ≤ 64
  field : ∀ y ∈ x.fields, y.name.length ≤ 300 ∧ y.desc.length ≤ 300
  meths : x.meths.length ≤ 64
  meth : ∀ y ∈ x.meths, Tame y
theorem allC_ok {b : List UInt8} {l : List Cst} (h : (allC [] l).2 = 0) (hf : ∀ x ∈ l, fitI x.kind ∧ fitI x.n) : allC b l = (b ++ constB l, 0) ∧ (constB l).length ≤ 300000 := by
  unfold constB
  unfold allC at h ⊢
  split at h
  · cases h
  · rename_i h1
    split at h
    · rename_i h2
      split at h
      · rename_i h3
        rw [if_neg h1, if_pos h2, if_pos h3, if_neg h1, if_pos h2, if_pos h3]
        refine ⟨by simp, ?_⟩
        have h4 := PutN.flat_len (l := l) (fun x hx => List.all_eq_true.1 h2 x hx) hf
        have h5 := (num_can (n := (l.length : Int)) (by omega) (by omega)).2.2
        simp only [List.nil_append, List.length_append]
        omega
      · cases h
    · cases h
theorem fldB_len {h : FldT} (hf : h.name.length ≤ 300 ∧ h.desc.length ≤ 300) : (fldB h).length ≤ 700 := by
  have h1 := txt_le (s := h.name) (by omega)
  have h2 := txt_le (s := h.desc) (by omega)
  unfold fldB
  rw [List.length_append]
  omega
theorem flds_len {l : List FldT} (hf : ∀ x ∈ l, x.name.length ≤ 300 ∧ x.desc.length ≤ 300) : (l.flatMap fldB).length ≤ 700 * l.length := by
  induction l with
  | nil => simp
  | cons a t ih =>
    have h1 := fldB_len (hf a (by simp))
    have h2 := ih (fun x hx => hf x (by simp [hx]))
    rw [List.flatMap_cons, List.length_append, List.length_cons]
    omega
theorem mthB_len {w : World} {x : MthT} (hx : x.is w) (ht : Tame x) : (mthB x).length ≤ 40000 := by
  have h1 := txt_le (s := x.name) (by have := ht.name; omega)
  have h2 := txt_le (s := x.sig) (by have := ht.sig; omega)
  have h3 := hnds_len hx.hand.fit ht.cls
  have h4 := (num_can (n := x.locals) hx.fit.1 hx.fit.2).2.2
  have h5 : x.hm ≤ 64 := by have := hx.hand.len; have := ht.hand; omega
  have h6 := (num_can (n := (x.hm : Int)) (by omega) (by omega)).2.2
  have h7 : (codeB x.code).length ≤ 10250 := by
    rcases putI_ok (b := []) ht.code with h | ⟨y, hy, hn⟩
    · exact h.2
    · exact (hn (hx.code.fit y hy)).elim
  have h8 := ht.name
  have h9 := ht.sig
  have h10 := ht.hand
  unfold mthB mthH
  simp only [List.length_append]
  omega
theorem mths_len {w : World} {l : List MthT} (hx : ∀ x ∈ l, x.is w) (ht : ∀ x ∈ l, Tame x) : (l.flatMap mthB).length ≤ 40000 * l.length := by
  induction l with
  | nil => simp
  | cons a t ih =>
    have h1 := mthB_len (hx a (by simp)) (ht a (by simp))
    have h2 := ih (fun x h => hx x (by simp [h])) (fun x h => ht x (by simp [h]))
    rw [List.flatMap_cons, List.length_append, List.length_cons]
    omega

set_option maxRecDepth 100000 in
set_option maxHeartbeats 8000000 in
theorem bytesOf_any (x : ClsT) (w : World) (hL : Laid w) (hx : x.is w) (ht : TameC x) :
    Calls Tryz.prog 53 #[x.V] w (Gives8 w (clsB x)) := by
  have HL := Lib.hid hL
  have Hx := Lib.hid hx
  have Ht := Lib.hid ht
  have hcode : ∀ b, allC b x.consts = (b ++ constB x.consts, 0) ∧ (constB x.consts).length ≤ 300000 := fun b => allC_ok ht.consts hx.consts.fit
  have hkl := (hcode []).2
  have HC := Lib.hid (fun b => (hcode b).1)
  have hnl := ht.name
  have hsl := ht.sup
  have hfl := ht.fields
  have hml := ht.meths
  have hfm : x.fields.length ≤ x.fm := Nat.le_of_eq hx.fields.len.symm
  have hfm2 : x.fm ≤ x.fields.length := Nat.le_of_eq hx.fields.len
  have hmm : x.meths.length ≤ x.mm := Nat.le_of_eq hx.meths.len.symm
  have hmm2 : x.mm ≤ x.meths.length := Nat.le_of_eq hx.meths.len
  have htn := txt_le (s := x.name) (by omega)
  have hts := txt_le (s := x.sup) (by omega)
  have hf10 := (num_can (n := (x.fm : Int)) (by omega) (by omega)).2.2
  have hm10 := (num_can (n := (x.mm : Int)) (by omega) (by omega)).2.2
  have hfd := flds_len (l := x.fields) ht.field
  clear hL hx ht hcode
  have HM := Lib.hid (show clsB x = clsF x ++ x.meths.flatMap mthB from rfl)
  have HF := Lib.hid (show clsF x = clsH x ++ x.fields.flatMap fldB ++ num (x.mm : Int) from rfl)
  have HH := Lib.hid (show clsH x = [72, 66, 75, 49] ++ txt x.name ++ txt x.sup ++ constB x.consts ++ num (x.fm : Int) from rfl)
  generalize clsB x = R at *
  generalize clsF x = Z at *
  generalize clsH x = Y at *
  obtain ⟨n, s, kA, km, kc, fA, fm, fc, mA, mm, mc, ks, fs, ms⟩ := x
  simp only [ClsT.V] at *
  have H1 := Lib.hid (Box5.new w (.string ⟨n.toArray⟩) (.string ⟨s.toArray⟩) (.slice kA km kc) (.slice fA fm fc) (.slice mA mm mc) 26)
  have HB := Lib.hid ((Below.refl w.heap.size w).alloc (Nat.le_refl _) (.cells #[.string ⟨n.toArray⟩, .string ⟨s.toArray⟩, .slice kA km kc, .slice fA fm fc, .slice mA mm mc] 26))
  have HBa := Lib.hid (((Below.refl (w.alloc (.cells #[.string ⟨n.toArray⟩, .string ⟨s.toArray⟩, .slice kA km kc, .slice fA fm fc, .slice mA mm mc] 26)).heap.size (w.alloc (.cells #[.string ⟨n.toArray⟩, .string ⟨s.toArray⟩, .slice kA km kc, .slice fA fm fc, .slice mA mm mc] 26))).alloc (Nat.le_refl _) (.cells #[.int .u8 72, .int .u8 66, .int .u8 75, .int .u8 49] 5)).drew)
  have HBm := Lib.hid (((Below.refl (w.alloc (.cells #[.string ⟨n.toArray⟩, .string ⟨s.toArray⟩, .slice kA km kc, .slice fA fm fc, .slice mA mm mc] 26)).heap.size (w.alloc (.cells #[.string ⟨n.toArray⟩, .string ⟨s.toArray⟩, .slice kA km kc, .slice fA fm fc, .slice mA mm mc] 26))).alloc (Nat.le_refl _) (.cells #[.int .u8 72, .int .u8 66, .int .u8 75, .int .u8 49] 5 (4, 5))).drew)
  obtain ⟨hc0, hc1, hc2, hc3, hc4⟩ := H1.out
  have hcv := conv_lit (w.alloc (.cells #[.string ⟨n.toArray⟩, .string ⟨s.toArray⟩, .slice kA km kc, .slice fA fm fc, .slice mA mm mc] 26)) #[.int .u8 72, .int .u8 66, .int .u8 75, .int .u8 49] 4 4
  have hlit := rds_lit (w.alloc (.cells #[.string ⟨n.toArray⟩, .string ⟨s.toArray⟩, .slice kA km kc, .slice fA fm fc, .slice mA mm mc] 26)) [72, 66, 75, 49] (4, 5)
  have Hsz : (w.alloc (.cells #[.string ⟨n.toArray⟩, .string ⟨s.toArray⟩, .slice kA km kc, .slice fA fm fc, .slice mA mm mc] 26)).heap.size = w.heap.size + 1 := by simp
  rw [Hsz] at hcv hlit
  have Hlit := Lib.hid hlit
  clear hlit
  obtain ⟨X3, hX3⟩ : ∃ X, X = [72, 66, 75, 49] ++ txt n := ⟨_, rfl⟩
  obtain ⟨X, hX⟩ : ∃ X, X = X3 ++ txt s := ⟨_, rfl⟩
  have hX3l : X3.length ≤ 400 := by rw [hX3]; simp; omega
  have hXl : X.length ≤ 800 := by rw [hX]; simp; omega
  obtain ⟨Y1, hY1⟩ : ∃ Y1, Y1 = X ++ constB ks := ⟨_, rfl⟩
  have hL1 : Y1.length ≤ 301000 := by rw [hY1]; simp only [List.length_append]; omega
  have hL2 : Y.length ≤ 301100 := by rw [HH.out]; simp only [List.length_append]; rw [hY1, hX, hX3] at hL1; simp only [List.length_append] at hL1; omega
  have hL3 : Z.length ≤ 400000 := by rw [HF.out]; simp only [List.length_append]; omega
  have e1 : X ++ constB ks = Y1 := hY1.symm
  have e2 : Y1 ++ num (fm : Int) = Y := by rw [hY1, hX, hX3, HH.out]
  have G1 := Lib.hid e1
  have G2 := Lib.hid e2
  clear e1 e2 hY1 HH hkl
  have HX3 := Lib.hid hX3
  have HX := Lib.hid hX
  clear hX3 hX
  go_enter Tryz.func53, Tryz.ntmps53
  go_wp2_with fail
  refine wp_region_held_drew (S := fun w' => w'.cell? ⟨w.heap.size, 0, none⟩ = some (.string ⟨n.toArray⟩) ∧ w'.cell? ⟨w.heap.size, 1, none⟩ = some (.string ⟨s.toArray⟩)) (by kernel_rfl) ?hSb (fun hHeld => ?restb)
  case hSb => exact ⟨H1.out.1, H1.out.2.1⟩
  refine wpAnyH_take (i := 2) (oi := _) (v := ?vb1) rfl (by kernel_rfl) (by kernel_rfl) (by kernel_rfl) (fun _ _ _ h => h) (Or.inl ⟨by rfl, ?hyb1⟩) (by assumption) ?restb1
  case hyb1 => (intro w hSw; (try dsimp only at hSw); go_simp <;> with_reducible rfl)
  simp only [Act.put, List.getElem_toArray, List.getElem_cons_zero, List.getElem_cons_succ, List.setIfInBounds_toArray, List.set_cons_zero, List.set_cons_succ]
  refine wpAnyH_take (i := 3) (oi := _) (v := ?vb2) rfl (by kernel_rfl) (by kernel_rfl) (by kernel_rfl) (fun _ _ _ h => h) (Or.inl ⟨by rfl, ?hyb2⟩) (by assumption) ?restb2
  case hyb2 => (intro w hSw; (try dsimp only at hSw); go_simp <;> with_reducible rfl)
  simp only [Act.put, List.getElem_toArray, List.getElem_cons_zero, List.getElem_cons_succ, List.setIfInBounds_toArray, List.set_cons_zero, List.set_cons_succ]
  refine wpAnyH_take (i := 5) (oi := _) (v := ?vb3) rfl (by kernel_rfl) (by kernel_rfl) (by kernel_rfl) (fun _ _ _ h => h) (Or.inl ⟨by rfl, ?hyb3⟩) (by assumption) ?restb3
  case hyb3 => (intro w hSw; (try dsimp only at hSw); go_simp <;> with_reducible rfl)
  simp only [Act.put, List.getElem_toArray, List.getElem_cons_zero, List.getElem_cons_succ, List.setIfInBounds_toArray, List.set_cons_zero, List.set_cons_succ]
  refine wpAnyH_take (i := 6) (oi := _) (v := ?vb4) rfl (by kernel_rfl) (by kernel_rfl) (by kernel_rfl) (fun _ _ _ h => h) (Or.inl ⟨by rfl, ?hyb4⟩) (by assumption) ?restb4
  case hyb4 => (intro w hSw; (try dsimp only at hSw); go_simp <;> with_reducible rfl)
  simp only [Act.put, List.getElem_toArray, List.getElem_cons_zero, List.getElem_cons_succ, List.setIfInBounds_toArray, List.set_cons_zero, List.set_cons_succ]
  refine wpAnyH_ready (rs := [0]) (by kernel_rfl) (by simp) ?_
  refine AllReadyH.cons (o := _) rfl (fun K hK => ?_) AllReadyH.nil
  go_simp
  refine hK.out _ _ ?hSb5 (fun hHeldb5 => ?restb5)
  case hSb5 => exact ⟨(H1.out.after HBa.out).1, (H1.out.after HBa.out).2.1⟩
  clear hK K
  try simp only [Act.put, List.getElem_toArray, List.getElem_cons_zero, List.getElem_cons_succ, List.setIfInBounds_toArray, List.set_cons_zero, List.set_cons_succ]
  refine wpAnyH_ready (rs := [1]) (by kernel_rfl) (by simp) ?_
  refine AllReadyH.cons (o := _) rfl (fun K hK => ?_) AllReadyH.nil
  go_simp
  refine hK.out _ _ ?hSb6 (fun hHeldb6 => ?restb6)
  case hSb6 => exact ⟨(H1.out.after HBm.out).1, (H1.out.after HBm.out).2.1⟩
  clear hK K
  try simp only [Act.put, List.getElem_toArray, List.getElem_cons_zero, List.getElem_cons_succ, List.setIfInBounds_toArray, List.set_cons_zero, List.set_cons_succ]
  refine wpAnyH_ready (rs := [4]) (by kernel_rfl) (by simp) ?_
  refine AllReadyH.cons (o := _) rfl (fun K hK => ?_) AllReadyH.nil
  go_simp
  go_at_call 100
  refine (text_any _ [72, 66, 75, 49] 4 4 ⟨n.toArray⟩ _ rfl (by simp [ByteArray.size]; omega) Hlit.out.drew).mono ?_
  rintro ee w3 ⟨v3, rfl, hown3, hb3⟩
  rw [show [72, 66, 75, 49] ++ txt (ByteArray.mk n.toArray).data.toList = X3 from HX3.out.symm] at hown3
  obtain ⟨A3, c3, rfl, hq3, hq3', hr3, _⟩ := Own8.slice (p := X3) hown3
  have HB3 := Lib.hid (HBm.out.trans (hb3.mono (Nat.le_trans HBm.out.size (Nat.le_refl _))))
  have Hr3 := Lib.hid hr3
  clear hown3 hb3 hr3
  refine hK.out _ _ ?hSb7 (fun hHeldb7 => ?restb7)
  case hSb7 => exact ⟨(H1.out.after HB3.out).1, (H1.out.after HB3.out).2.1⟩
  clear hK K
  refine wpAnyH_ready (rs := [7]) (by kernel_rfl) (by simp) ?_
  refine AllReadyH.cons (o := _) rfl (fun K hK => ?_) AllReadyH.nil
  go_simp
  go_at_call 100
  refine (text_any A3 X3 _ c3 ⟨s.toArray⟩ w3 rfl (by simp [ByteArray.size]; omega) Hr3.out).mono ?_
  rintro ee w4 ⟨v4, rfl, hown4, hb4⟩
  rw [show X3 ++ txt (ByteArray.mk s.toArray).data.toList = X from HX.out.symm] at hown4
  obtain ⟨A4, c4, rfl, hq4, hq4', hr4, _⟩ := Own8.slice (p := X) hown4
  have HB4 := Lib.hid (HB3.out.trans (hb4.mono HB3.out.size))
  have Hr4 := Lib.hid hr4
  clear hown4 hb4 hr4
  refine hK.out _ _ ?hSb8 (fun hHeldb8 => ?restb8)
  case hSb8 => exact ⟨(H1.out.after HB4.out).1, (H1.out.after HB4.out).2.1⟩
  clear hK K
  refine wpAnyH_take (i := 8) (oi := _) (v := ?vb9) rfl (by kernel_rfl) (by kernel_rfl) (by kernel_rfl) (fun _ _ _ h => h) (Or.inl ⟨by rfl, ?hyb9⟩) (by assumption) ?restb9
  case hyb9 => (intro w hSw; (try dsimp only at hSw); go_simp <;> with_reducible rfl)
  simp only [Act.put, List.getElem_toArray, List.getElem_cons_zero, List.getElem_cons_succ, List.setIfInBounds_toArray, List.set_cons_zero, List.set_cons_succ]
  refine wpAnyH_done (by kernel_rfl) ?_ _
  clear hc0 hc1 hc2 hc3 hc4 hcv Hsz
  have H4 := Lib.hid (H1.out.after HB4.out)
  obtain ⟨hc0, hc1, hc2, hc3, hc4⟩ := H4.out
  have B4 := Lib.hid (HB.out.trans (HB4.out.mono HB.out.size))
  clear HB4 HB3 HBa HBm Hlit
  go_wp2_with fail
  refine Calls.mono (PutN.putAll_any A4 _ c4 X kA km kc ks w4 rfl Hr4.out (by omega) (Hx.out.consts.below B4.out) Ht.out.bulk) ?_
  rw [HC.out, G1.out]
  rintro e w5 ⟨v5, rfl, hown5, hb5⟩
  obtain ⟨A5, c5, rfl, hq5, hq5', hr5, _⟩ := Own8.slice (p := Y1) hown5
  have H5 := Lib.hid (H4.out.after hb5)
  clear hc0 hc1 hc2 hc3 hc4
  obtain ⟨hc0, hc1, hc2, hc3, hc4⟩ := H5.out
  have B5 := Lib.hid (B4.out.trans (hb5.mono B4.out.size))
  have Hr5 := Lib.hid hr5
  clear hown5 hb5 hr5
  go_wp2_with fail
  refine Calls.mono (put_any A5 Y1 _ c5 (fm : Int) w5 rfl (by omega) (by omega) (by omega) Hr5.out) ?_
  rw [G2.out]
  rintro e w6 ⟨v6, rfl, hown6, hb6⟩
  replace hown6 : Own8 w6 w5.heap.size v6 Y := hown6
  have O6 : Hid (Own8 w6 w.heap.size v6 Y) := Lib.hid (own_mono hown6 B5.out.size)
  have H6 := Lib.hid (H5.out.after hb6)
  clear hc0 hc1 hc2 hc3 hc4
  obtain ⟨hc0, hc1, hc2, hc3, hc4⟩ := H6.out
  have B6 := Lib.hid (B5.out.trans (hb6.mono B5.out.size))
  clear hown6 hb6
  go_wp2_with fail
  clear hc0 hc1 hc2 hc3 hc4
  go_loopw [3, 31] (fun v i wr => ∃ j : Nat, j ≤ fm ∧ i = .int .i64 j ∧ Own8 wr w.heap.size v (Y ++ (fs.take j).flatMap fldB) ∧ Below w.heap.size w wr ∧ Box5 wr w.heap.size (.string ⟨n.toArray⟩) (.string ⟨s.toArray⟩) (.slice kA km kc) (.slice fA fm fc) (.slice mA mm mc)) (fun _ i _ => fm - (intOf i).toNat)
  case atStart => exact ⟨0, Nat.zero_le _, rfl, by rw [List.take_zero, List.flatMap_nil, List.append_nil]; exact O6.out, B6.out, H6.out⟩
  case round =>
    obtain ⟨j, hj, rfl, hown, hbel, hbox⟩ := hrel
    have Hbel := Lib.hid hbel
    have Hbox := Lib.hid hbox
    have hsz := hbel.size
    clear hbox
    by_cases hlt : j < fm
    · have hja : j < fs.length := by omega
      obtain ⟨b1, o1, rfl, hb1, hc0, hc1⟩ := fld_at (Hx.out.fields.below hbel).rds hja
      have hj1 : (j : Int) < (fm : Int) := by omega
      have hj0 : (0 : Int) ≤ (j : Int) := by omega
      have Hct := Lib.hid (show Y ++ (fs.take (j + 1)).flatMap fldB = ((Y ++ (fs.take j).flatMap fldB) ++ txt fs[j].name) ++ txt fs[j].desc by
        rw [List.take_succ_eq_append_getElem hja, List.flatMap_append]; simp [fldB])
      have hpl : (Y ++ (fs.take j).flatMap fldB).length ≤ 400000 := by
        have h1 := flds_len (l := fs.take j) (fun x hx => Ht.out.field x (List.mem_of_mem_take hx))
        have h2 : (fs.take j).length ≤ 64 := by simp; omega
        simp only [List.length_append]
        omega
      have hcx := Ht.out.field _ (List.getElem_mem hja)
      clear hbel
      generalize Y ++ (fs.take j).flatMap fldB = p at *
      obtain ⟨Av, cv, rfl, hqv, hqv', hrv, _⟩ := Own8.slice hown
      have Hrv := Lib.hid hrv
      clear hown hrv
      generalize fs[j] = x at *
      obtain ⟨f, t⟩ := x
      simp only at hc0 hc1 hcx
      have htf := txt_le (s := f) (by omega)
      have HA := Lib.hid ((Below.refl wr.heap.size wr).alloc (Nat.le_refl _) (.cells #[.string ⟨f.toArray⟩, .string ⟨t.toArray⟩] 67))
      have QA := Lib.hid (Row.new wr #[.string ⟨f.toArray⟩, .string ⟨t.toArray⟩] 67)
      go_wp2_with fail
      have d0 := QA.out.cell 0
      have d1 := QA.out.cell 1
      go_region_held3 (fun w' => w'.cell? ⟨wr.heap.size, 0, none⟩ = some (.string ⟨f.toArray⟩) ∧ w'.cell? ⟨wr.heap.size, 1, none⟩ = some (.string ⟨t.toArray⟩))
        (first | exact ⟨d0, d1⟩ | go_keep)
        (first
          | (have hB := K1; clear hB; go_at_call 100; refine Calls.mono (text_any A7 P7 _ c7 ⟨t.toArray⟩ w7 rfl (by simp [ByteArray.size]; omega) R7.out) ?_; rintro e w8 ⟨v8, rfl, hown8, hb8⟩
             replace hown8 : Own8 w8 w7.heap.size v8 (P7 ++ txt t) := hown8
             rw [HP7.out] at hown8
             have O8 : Hid (Own8 w8 w.heap.size v8 ((p ++ txt f) ++ txt t)) := Lib.hid (own_mono hown8 (Nat.le_trans hsz K1.out.size))
             have K2 := Lib.hid (K1.out.trans (hb8.mono K1.out.size))
             have Q8 := Lib.hid (Q7.out.after hb8)
             clear hown8 hb8 d0 d1
             have d0 := Q8.out.cell 0
             have d1 := Q8.out.cell 1)
          | (go_at_call 100; refine Calls.mono (text_any Av p _ cv ⟨f.toArray⟩ _ rfl (by simp [ByteArray.size]; omega) (Hrv.out.below HA.out).drew) ?_; rintro e w7 ⟨v7, rfl, hown7, hb7⟩
             replace hown7 : Own8 w7 (wr.alloc (.cells #[.string ⟨f.toArray⟩, .string ⟨t.toArray⟩] 67)).heap.size v7 (p ++ txt f) := hown7
             obtain ⟨P7, hP7⟩ : ∃ P7, P7 = p ++ txt f := ⟨_, rfl⟩
             have hP7l : P7.length ≤ 401000 := by rw [hP7]; simp only [List.length_append]; omega
             rw [← hP7] at hown7
             have HP7 := Lib.hid hP7
             obtain ⟨A7, c7, rfl, hq7, hq7', hr7, _⟩ := Own8.slice hown7
             have R7 := Lib.hid hr7
             have K1 := Lib.hid (HA.out.drew.trans (hb7.mono HA.out.size))
             have Q7 := Lib.hid (Row.after (w := (wr.alloc (.cells #[.string ⟨f.toArray⟩, .string ⟨t.toArray⟩] 67)).drew) QA.out hb7)
             clear hown7 hb7 hr7 hP7 d0 d1
             have d0 := Q7.out.cell 0
             have d1 := Q7.out.cell 1))
      go_wp2_with fail
      go_roundw
      case rel => exact ⟨j + 1, by omega, by go_num, by rw [Hct.out]; exact O8.out, Hbel.out.trans (K2.out.mono hsz), Hbox.out.after K2.out⟩
      case measure => simp [intOf]; omega
    · have e : fs.take j = fs := List.take_of_length_le (by omega)
      rw [e] at hown
      have hpl : (Y ++ fs.flatMap fldB).length ≤ 400000 := by
        simp only [List.length_append]
        omega
      have HZ : Hid ((Y ++ fs.flatMap fldB) ++ num (mm : Int) = Z) := Lib.hid (by rw [HF.out])
      clear hbel HF
      generalize Y ++ fs.flatMap fldB = p at *
      obtain ⟨Av, cv, rfl, hqv, hqv', hrv, _⟩ := Own8.slice hown
      have Hrv := Lib.hid hrv
      clear hown hrv
      obtain ⟨hc0, hc1, hc2, hc3, hc4⟩ := Hbox.out
      go_wp2_with fail
      refine Calls.mono (put_any Av p _ cv (mm : Int) wr rfl (by omega) (by omega) (by omega) Hrv.out) ?_
      rw [HZ.out]
      rintro e w7 ⟨v7, rfl, hown7, hb7⟩
      replace hown7 : Own8 w7 wr.heap.size v7 Z := hown7
      have O7 : Hid (Own8 w7 w.heap.size v7 Z) := Lib.hid (own_mono hown7 hsz)
      have H7 := Lib.hid (Hbox.out.after hb7)
      clear hc0 hc1 hc2 hc3 hc4
      obtain ⟨hc0, hc1, hc2, hc3, hc4⟩ := H7.out
      have B7 := Lib.hid (Hbel.out.trans (hb7.mono hsz))
      clear hown7 hb7
      go_wp2_with fail
      clear hc0 hc1 hc2 hc3 hc4
      go_loopw [3, 51] (fun v i wr => ∃ j : Nat, j ≤ mm ∧ i = .int .i64 j ∧ Own8 wr w.heap.size v (Z ++ (ms.take j).flatMap mthB) ∧ Below w.heap.size w wr) (fun _ i _ => mm - (intOf i).toNat)
      case atStart => exact ⟨0, Nat.zero_le _, rfl, by rw [List.take_zero, List.flatMap_nil, List.append_nil]; exact O7.out, B7.out⟩
      case round =>
        obtain ⟨j, hj, rfl, hown, hbel⟩ := hrel
        have Hown := Lib.hid hown
        have Hbel := Lib.hid hbel
        have hsz := hbel.size
        clear hown
        by_cases hlt : j < mm
        · have hja : j < ms.length := by omega
          obtain ⟨b1, o1, rfl, hb1, hc0, hc1, hc2, hc3, hc4⟩ := mth_at (Hx.out.meths.below hbel).rds hja
          have hj1 : (j : Int) < (mm : Int) := by omega
          have hj0 : (0 : Int) ≤ (j : Int) := by omega
          have Hct := Lib.hid (show Z ++ (ms.take (j + 1)).flatMap mthB = (Z ++ (ms.take j).flatMap mthB) ++ mthB ms[j] by
            rw [List.take_succ_eq_append_getElem hja, List.flatMap_append]; simp)
          have hpl : (Z ++ (ms.take j).flatMap mthB).length ≤ 4000000 := by
            have h1 := mths_len (w := w) (l := ms.take j) (fun x hx => Hx.out.meths.each x (List.mem_of_mem_take hx)) (fun x hx => Ht.out.meth x (List.mem_of_mem_take hx))
            have h2 : (ms.take j).length ≤ 64 := by simp; omega
            simp only [List.length_append]
            omega
          have Hpl := Lib.hid hpl
          have hxi := Hx.out.meths.each _ (List.getElem_mem hja)
          have hti := Ht.out.meth _ (List.getElem_mem hja)
          have Hbx := Lib.hid (mthB_len hxi hti)
          have Hm := Lib.hid (fun (W : World) (hb : Below w.heap.size w W) => method_any ms[j] W (HL.out.below hb HL.out.1) (hxi.below hb) hti)
          clear hbel hpl hxi hti
          generalize Z ++ (ms.take j).flatMap mthB = p at *
          generalize mthB ms[j] = N at *
          generalize ms[j] = x at *
          obtain ⟨x0, x1, x2, x3, x4, x5, x6, x7, x8, x9, x10⟩ := x
          simp only [MthT.V] at hc0 hc1 hc2 hc3 hc4 Hm
          have HA := Lib.hid ((Below.refl wr.heap.size wr).alloc (Nat.le_refl _) (.cells #[.string ⟨x0.toArray⟩, .string ⟨x1.toArray⟩, .int .i64 x2, .slice x3 x4 x5, .slice x6 x7 x8] 62))
          go_wp2_with fail
          refine Calls.mono (Hm.out _ (Hbel.out.trans (HA.out.mono hsz))) ?_
          rintro e w8 ⟨v8, rfl, hown8, hb8⟩
          have K8 := Lib.hid (HA.out.trans (hb8.mono HA.out.size))
          obtain ⟨A8, c8, rfl, h81, h82, hr8, _⟩ := Own8.slice (p := N) hown8
          have R8 := Lib.hid hr8
          have hsz8 := K8.out.size
          clear hown8 hb8 hr8
          go_wp2_with (at_builtin
                       refine app8 rfl (.tmp 55) (.tmp 57) rfl w.heap.size _ p rfl (own_kept Hown.out K8.out) A8 _ c8 N rfl rfl R8.out (by have := Hpl.out; have := Hbx.out; omega) (by omega) ?_
                       intro v9 w9 hown9 hg9
                       have B9 := Lib.hid (own_below (own_kept Hown.out K8.out) (Hbel.out.trans (K8.out.mono hsz)) (Nat.le_refl _) (by omega) hg9)
                       have O9 := Lib.hid hown9
                       clear hown9 hg9)
          go_roundw
          case rel => exact ⟨j + 1, by omega, by go_num, by rw [Hct.out]; exact O9.out, B9.out⟩
          case measure => simp [intOf]; omega
        · have e : ms.take j = ms := List.take_of_length_le (by omega)
          rw [e] at Hown
          clear hbel
          go_wp2_with fail
          go_ret
          rw [HM.out]
          exact ⟨_, rfl, Hown.out, Hbel.out⟩

end KlsD
end Go.Proofs.YthkkcecfenohjaaGreatDoor
