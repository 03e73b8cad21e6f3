/-
  Classes of which there is but their names: whether they can be, their bytes.
-/
import Derived.Test.YthkkcecfenohjaaGreatDoorPartZ
import Derived.Test.YthkkcecfenohjaaGreatDoorKlsR
import Derived.Test.YthkkcecfenohjaaGreatDoorBinName
import Derived.Lib.SlBytesConst
namespace Go.Proofs.YthkkcecfenohjaaGreatDoor
namespace KlsK
open Go.RowKit Base BinM BinE BinGet BinText BinPut Bin8 Part Kls

/-- a class that has but names -/
def nilV (n s : List UInt8) : Value := .agg #[.string ⟨n.toArray⟩, .string ⟨s.toArray⟩, .slice none 0 0, .slice none 0 0, .slice none 0 0]

set_option maxRecDepth 100000 in
set_option maxHeartbeats 1000000 in
theorem rightFields_nil (n s : List UInt8) (w : World) : Calls Tryz.prog 43 #[nilV n s] w fun e w' => e = .returned (.int .i64 0) ∧ Below w.heap.size w w' := by
  have H1 := Lib.hid (Box5.new w (.string ⟨n.toArray⟩) (.string ⟨s.toArray⟩) (.slice none 0 0) (.slice none 0 0) (.slice none 0 0) 26)
  have HB := Lib.hid ((Below.refl w.heap.size w).alloc (Nat.le_refl _) (.cells #[.string ⟨n.toArray⟩, .string ⟨s.toArray⟩, .slice none 0 0, .slice none 0 0, .slice none 0 0] 26))
  unfold nilV
  go_enter Tryz.func43, Tryz.ntmps43
  go_wp2_with fail
  go_loopw [12] (fun i wr => i = .int .i64 0 ∧ wr = (w.alloc (.cells #[.string ⟨n.toArray⟩, .string ⟨s.toArray⟩, .slice none 0 0, .slice none 0 0, .slice none 0 0] 26))) (fun _ _ => 0)
  case atStart => exact ⟨rfl, rfl⟩
  case round =>
    obtain ⟨rfl, rfl⟩ := hrel
    go_wp2_with fail
    go_ret
    exact ⟨rfl, HB.out⟩

set_option maxRecDepth 100000 in
set_option maxHeartbeats 1000000 in
theorem rightMethods_nil (n s : List UInt8) (w : World) : Calls Tryz.prog 44 #[nilV n s] w fun e w' => e = .returned (.int .i64 0) ∧ Below w.heap.size w w' := by
  have HB := Lib.hid ((Below.refl w.heap.size w).alloc (Nat.le_refl _) (.cells #[.string ⟨n.toArray⟩, .string ⟨s.toArray⟩, .slice none 0 0, .slice none 0 0, .slice none 0 0] 26))
  unfold nilV
  go_enter Tryz.func44, Tryz.ntmps44
  go_wp2_with fail
  go_loopw [16] (fun i wr => i = .int .i64 0 ∧ wr = (w.alloc (.cells #[.string ⟨n.toArray⟩, .string ⟨s.toArray⟩, .slice none 0 0, .slice none 0 0, .slice none 0 0] 26))) (fun _ _ => 0)
  case atStart => exact ⟨rfl, rfl⟩
  case round =>
    obtain ⟨rfl, rfl⟩ := hrel
    go_wp2_with fail
    go_ret
    exact ⟨rfl, HB.out⟩

set_option maxRecDepth 100000 in
set_option maxHeartbeats 1000000 in
theorem right_nil (n s : List UInt8) (w : World) (hn : nameB n = true) (hs : nameB s = true) (hnl : n.length ≤ 100) (hsl : s.length ≤ 100) :
    Calls Tryz.prog 13 #[nilV n s] w fun e w' => e = .returned (.int .i64 0) ∧ Below w.heap.size w w' := by
  have H1 := Lib.hid (Box5.new w (.string ⟨n.toArray⟩) (.string ⟨s.toArray⟩) (.slice none 0 0) (.slice none 0 0) (.slice none 0 0) 26)
  have HB := Lib.hid ((Below.refl w.heap.size w).alloc (Nat.le_refl _) (.cells #[.string ⟨n.toArray⟩, .string ⟨s.toArray⟩, .slice none 0 0, .slice none 0 0, .slice none 0 0] 26))
  have h1 := fun W => BinName.name_any ⟨n.toArray⟩ W (by simp [maxLen, ByteArray.size]; omega)
  have h2 := fun W => BinName.name_any ⟨s.toArray⟩ W (by simp [maxLen, ByteArray.size]; omega)
  simp only at h1 h2
  rw [hn] at h1
  rw [hs] at h2
  have Hn := Lib.hid h1
  have Hs := Lib.hid h2
  clear h1 h2 hn hs
  unfold nilV
  go_enter Tryz.func13, Tryz.ntmps13
  go_wp2_with fail
  refine Calls.mono (Hn.out _) ?_
  rintro e w1 ⟨rfl, rfl⟩
  go_wp2_with fail
  refine Calls.mono (Hs.out _) ?_
  rintro e w1 ⟨rfl, rfl⟩
  go_wp2_with fail
  refine Calls.mono (putAll_nil none [] 0 0 0 _ rfl (by omega) (.inl rfl)) ?_
  rintro e w1 ⟨v1, rfl, -, hb1⟩
  obtain ⟨hc0, hc1, hc2, hc3, hc4⟩ := H1.out.after hb1
  have B1 := Lib.hid (HB.out.trans (hb1.mono HB.out.size))
  have H2 := Lib.hid (H1.out.after hb1)
  clear hb1
  go_wp2_with fail
  refine Calls.mono (rightFields_nil n s w1) ?_
  rintro e w2 ⟨rfl, hb2⟩
  clear hc0 hc1 hc2 hc3 hc4
  obtain ⟨hc0, hc1, hc2, hc3, hc4⟩ := H2.out.after hb2
  have B2 := Lib.hid (B1.out.trans (hb2.mono B1.out.size))
  clear hb2
  go_wp2_with fail
  refine Calls.mono (rightMethods_nil n s w2) ?_
  rintro e w3 ⟨rfl, hb3⟩
  have B3 := Lib.hid (B2.out.trans (hb3.mono B2.out.size))
  clear hb3
  go_wp2_with fail
  go_ret
  exact ⟨rfl, B3.out⟩

set_option maxRecDepth 100000 in
set_option maxHeartbeats 1000000 in
theorem right_none (w : World) : Calls Tryz.prog 13 #[nilV [] []] w fun e w' => e = .returned (.int .i64 7) ∧ Below w.heap.size w w' := by
  have HB := Lib.hid ((Below.refl w.heap.size w).alloc (Nat.le_refl _) (.cells #[.string ⟨#[]⟩, .string ⟨#[]⟩, .slice none 0 0, .slice none 0 0, .slice none 0 0] 26))
  have h1 := fun W => BinName.name_any ⟨#[]⟩ W (by simp [maxLen, ByteArray.size])
  have Hn := Lib.hid h1
  clear h1
  unfold nilV
  go_enter Tryz.func13, Tryz.ntmps13
  go_wp2_with fail
  refine Calls.mono (Hn.out _) ?_
  rw [show nameB (ByteArray.mk #[]).data.toList = false from by decide]
  rintro e w1 ⟨rfl, rfl⟩
  go_wp2_with fail
  go_ret
  exact ⟨rfl, HB.out⟩

/-- bytes of a constant text, turned: the block bears the mark -/
theorem conv_lit (W : World) (C : Array Value) (n c : Nat) :
    (convert 33 33 (.slice (some ⟨W.heap.size, 0, none⟩) n c)).run Tryz.prog ((W.alloc (.cells C 5)).drew) = .ok (.slice (some ⟨W.heap.size, 0, none⟩) n c) ((W.alloc (.cells C 5 (C.size, C.size + 1))).drew) :=
  Lib.run_convert_bytes_const (P := Tryz.prog) W.drew 33 5 C n c Tryz.underlying33 Tryz.underlying5
theorem rds_lit (W : World) (l : List UInt8) (fr : Nat × Nat) : Rds (W.alloc (.cells (cells8 l).toArray 5 fr)) (some ⟨W.heap.size, 0, none⟩) (cells8 l) := by
  refine .inr ⟨W.heap.size, 0, rfl, by simp, fun j u hu => ?_⟩
  rw [Nat.zero_add, cell_of_row _ _ _ _ _ fr (heap_alloc_new W _)]
  simpa using hu

set_option maxRecDepth 100000 in
set_option maxHeartbeats 1000000 in
theorem bytesOf_nil (n s : List UInt8) (w : World) (hnl : n.length ≤ 100) (hsl : s.length ≤ 100) (htn : (txt n).length ≤ 110) (hts : (txt s).length ≤ 110) :
    Calls Tryz.prog 53 #[nilV n s] w fun e w' => ∃ v, e = .returned v ∧ Own8 w' w.heap.size v ((([72, 66, 75, 49] ++ txt n) ++ txt s) ++ [0] ++ [0] ++ [0]) ∧ Below w.heap.size w w' := by
  have H1 := Lib.hid (Box5.new w (.string ⟨n.toArray⟩) (.string ⟨s.toArray⟩) (.slice none 0 0) (.slice none 0 0) (.slice none 0 0) 26)
  have HB := Lib.hid ((Below.refl w.heap.size w).alloc (Nat.le_refl _) (.cells #[.string ⟨n.toArray⟩, .string ⟨s.toArray⟩, .slice none 0 0, .slice none 0 0, .slice none 0 0] 26))
  have HBa := Lib.hid (((Below.refl (w.alloc (.cells #[.string ⟨n.toArray⟩, .string ⟨s.toArray⟩, .slice none 0 0, .slice none 0 0, .slice none 0 0] 26)).heap.size (w.alloc (.cells #[.string ⟨n.toArray⟩, .string ⟨s.toArray⟩, .slice none 0 0, .slice none 0 0, .slice none 0 0] 26))).alloc (Nat.le_refl _) (.cells #[.int .u8 72, .int .u8 66, .int .u8 75, .int .u8 49] 5)).drew)
  have HBm := Lib.hid (((Below.refl (w.alloc (.cells #[.string ⟨n.toArray⟩, .string ⟨s.toArray⟩, .slice none 0 0, .slice none 0 0, .slice none 0 0] 26)).heap.size (w.alloc (.cells #[.string ⟨n.toArray⟩, .string ⟨s.toArray⟩, .slice none 0 0, .slice none 0 0, .slice none 0 0] 26))).alloc (Nat.le_refl _) (.cells #[.int .u8 72, .int .u8 66, .int .u8 75, .int .u8 49] 5 (4, 5))).drew)
  obtain ⟨hc0, hc1, hc2, hc3, hc4⟩ := H1.out
  have hcv := conv_lit (w.alloc (.cells #[.string ⟨n.toArray⟩, .string ⟨s.toArray⟩, .slice none 0 0, .slice none 0 0, .slice none 0 0] 26)) #[.int .u8 72, .int .u8 66, .int .u8 75, .int .u8 49] 4 4
  have hlit := rds_lit (w.alloc (.cells #[.string ⟨n.toArray⟩, .string ⟨s.toArray⟩, .slice none 0 0, .slice none 0 0, .slice none 0 0] 26)) [72, 66, 75, 49] (4, 5)
  have Hsz : (w.alloc (.cells #[.string ⟨n.toArray⟩, .string ⟨s.toArray⟩, .slice none 0 0, .slice none 0 0, .slice none 0 0] 26)).heap.size = w.heap.size + 1 := by simp
  rw [Hsz] at hcv hlit
  have Hlit := Lib.hid hlit
  clear hlit
  obtain ⟨X3, hX3⟩ : ∃ X, X = [72, 66, 75, 49] ++ txt n := ⟨_, rfl⟩
  obtain ⟨X, hX⟩ : ∃ X, X = X3 ++ txt s := ⟨_, rfl⟩
  have hX3l : X3.length ≤ 120 := by rw [hX3]; simp; omega
  have hXl : X.length ≤ 300 := by rw [hX]; simp; omega
  rw [← hX3, ← hX]
  have HX3 := Lib.hid hX3
  have HX := Lib.hid hX
  clear hX3 hX
  unfold nilV
  go_enter Tryz.func53, Tryz.ntmps53
  go_wp2_with fail
  refine wp_region_held_drew (S := fun w' => w'.cell? ⟨w.heap.size, 0, none⟩ = some (.string ⟨n.toArray⟩) ∧ w'.cell? ⟨w.heap.size, 1, none⟩ = some (.string ⟨s.toArray⟩)) (by kernel_rfl) ?hSb (fun hHeld => ?restb)
  case hSb => exact ⟨H1.out.1, H1.out.2.1⟩
  refine wpAnyH_take (i := 2) (oi := _) (v := ?vb1) rfl (by kernel_rfl) (by kernel_rfl) (by kernel_rfl) (fun _ _ _ h => h) (Or.inl ⟨by rfl, ?hyb1⟩) (by assumption) ?restb1
  case hyb1 => (intro w hSw; (try dsimp only at hSw); go_simp <;> with_reducible rfl)
  simp only [Act.put, List.getElem_toArray, List.getElem_cons_zero, List.getElem_cons_succ, List.setIfInBounds_toArray, List.set_cons_zero, List.set_cons_succ]
  refine wpAnyH_take (i := 3) (oi := _) (v := ?vb2) rfl (by kernel_rfl) (by kernel_rfl) (by kernel_rfl) (fun _ _ _ h => h) (Or.inl ⟨by rfl, ?hyb2⟩) (by assumption) ?restb2
  case hyb2 => (intro w hSw; (try dsimp only at hSw); go_simp <;> with_reducible rfl)
  simp only [Act.put, List.getElem_toArray, List.getElem_cons_zero, List.getElem_cons_succ, List.setIfInBounds_toArray, List.set_cons_zero, List.set_cons_succ]
  refine wpAnyH_take (i := 5) (oi := _) (v := ?vb3) rfl (by kernel_rfl) (by kernel_rfl) (by kernel_rfl) (fun _ _ _ h => h) (Or.inl ⟨by rfl, ?hyb3⟩) (by assumption) ?restb3
  case hyb3 => (intro w hSw; (try dsimp only at hSw); go_simp <;> with_reducible rfl)
  simp only [Act.put, List.getElem_toArray, List.getElem_cons_zero, List.getElem_cons_succ, List.setIfInBounds_toArray, List.set_cons_zero, List.set_cons_succ]
  refine wpAnyH_take (i := 6) (oi := _) (v := ?vb4) rfl (by kernel_rfl) (by kernel_rfl) (by kernel_rfl) (fun _ _ _ h => h) (Or.inl ⟨by rfl, ?hyb4⟩) (by assumption) ?restb4
  case hyb4 => (intro w hSw; (try dsimp only at hSw); go_simp <;> with_reducible rfl)
  simp only [Act.put, List.getElem_toArray, List.getElem_cons_zero, List.getElem_cons_succ, List.setIfInBounds_toArray, List.set_cons_zero, List.set_cons_succ]
  refine wpAnyH_ready (rs := [0]) (by kernel_rfl) (by simp) ?_
  refine AllReadyH.cons (o := _) rfl (fun K hK => ?_) AllReadyH.nil
  go_simp
  refine hK.out _ _ ?hSb5 (fun hHeldb5 => ?restb5)
  case hSb5 => exact ⟨(H1.out.after HBa.out).1, (H1.out.after HBa.out).2.1⟩
  clear hK K
  try simp only [Act.put, List.getElem_toArray, List.getElem_cons_zero, List.getElem_cons_succ, List.setIfInBounds_toArray, List.set_cons_zero, List.set_cons_succ]
  refine wpAnyH_ready (rs := [1]) (by kernel_rfl) (by simp) ?_
  refine AllReadyH.cons (o := _) rfl (fun K hK => ?_) AllReadyH.nil
  go_simp
  refine hK.out _ _ ?hSb6 (fun hHeldb6 => ?restb6)
  case hSb6 => exact ⟨(H1.out.after HBm.out).1, (H1.out.after HBm.out).2.1⟩
  clear hK K
  try simp only [Act.put, List.getElem_toArray, List.getElem_cons_zero, List.getElem_cons_succ, List.setIfInBounds_toArray, List.set_cons_zero, List.set_cons_succ]
  refine wpAnyH_ready (rs := [4]) (by kernel_rfl) (by simp) ?_
  refine AllReadyH.cons (o := _) rfl (fun K hK => ?_) AllReadyH.nil
  go_simp
  go_at_call 100
  refine (text_any _ [72, 66, 75, 49] 4 4 ⟨n.toArray⟩ _ rfl (by simp [ByteArray.size]; omega) Hlit.out.drew).mono ?_
  rintro ee w3 ⟨v3, rfl, hown3, hb3⟩
  rw [show [72, 66, 75, 49] ++ txt (ByteArray.mk n.toArray).data.toList = X3 from HX3.out.symm] at hown3
  obtain ⟨A3, c3, rfl, hq3, hq3', hr3, _⟩ := Own8.slice (p := X3) hown3
  have HB3 := Lib.hid (HBm.out.trans (hb3.mono (Nat.le_trans HBm.out.size (Nat.le_refl _))))
  have Hr3 := Lib.hid hr3
  clear hown3 hb3 hr3
  refine hK.out _ _ ?hSb7 (fun hHeldb7 => ?restb7)
  case hSb7 => exact ⟨(H1.out.after HB3.out).1, (H1.out.after HB3.out).2.1⟩
  clear hK K
  refine wpAnyH_ready (rs := [7]) (by kernel_rfl) (by simp) ?_
  refine AllReadyH.cons (o := _) rfl (fun K hK => ?_) AllReadyH.nil
  go_simp
  go_at_call 100
  refine (text_any A3 X3 _ c3 ⟨s.toArray⟩ w3 rfl (by simp [ByteArray.size]; omega) Hr3.out).mono ?_
  rintro ee w4 ⟨v4, rfl, hown4, hb4⟩
  rw [show X3 ++ txt (ByteArray.mk s.toArray).data.toList = X from HX.out.symm] at hown4
  obtain ⟨A4, c4, rfl, hq4, hq4', hr4, _⟩ := Own8.slice (p := X) hown4
  have HB4 := Lib.hid (HB3.out.trans (hb4.mono HB3.out.size))
  have Hr4 := Lib.hid hr4
  clear hown4 hb4 hr4
  refine hK.out _ _ ?hSb8 (fun hHeldb8 => ?restb8)
  case hSb8 => exact ⟨(H1.out.after HB4.out).1, (H1.out.after HB4.out).2.1⟩
  clear hK K
  refine wpAnyH_take (i := 8) (oi := _) (v := ?vb9) rfl (by kernel_rfl) (by kernel_rfl) (by kernel_rfl) (fun _ _ _ h => h) (Or.inl ⟨by rfl, ?hyb9⟩) (by assumption) ?restb9
  case hyb9 => (intro w hSw; (try dsimp only at hSw); go_simp <;> with_reducible rfl)
  simp only [Act.put, List.getElem_toArray, List.getElem_cons_zero, List.getElem_cons_succ, List.setIfInBounds_toArray, List.set_cons_zero, List.set_cons_succ]
  refine wpAnyH_done (by kernel_rfl) ?_ _
  clear hc0 hc1 hc2 hc3 hc4 hcv Hsz
  have H4 := Lib.hid (H1.out.after HB4.out)
  obtain ⟨hc0, hc1, hc2, hc3, hc4⟩ := H4.out
  have B4 := Lib.hid (HB.out.trans (HB4.out.mono HB.out.size))
  clear HB4 HB3 HBa HBm Hlit
  go_wp2_with fail
  refine Calls.mono (putAll_nil A4 X _ c4 0 w4 rfl (by omega) Hr4.out) ?_
  rintro e w5 ⟨v5, rfl, hown5, hb5⟩
  obtain ⟨X5, hX5⟩ : ∃ Y, Y = X ++ [0] := ⟨_, rfl⟩
  have hX5l : X5.length ≤ 310 := by rw [hX5]; simp; omega
  rw [← hX5] at hown5
  have HX5 := Lib.hid hX5
  clear hX5
  obtain ⟨A5, c5, rfl, hq5, hq5', hr5, _⟩ := Own8.slice hown5
  have H5 := Lib.hid (H4.out.after hb5)
  clear hc0 hc1 hc2 hc3 hc4
  obtain ⟨hc0, hc1, hc2, hc3, hc4⟩ := H5.out
  have B5 := Lib.hid (B4.out.trans (hb5.mono B4.out.size))
  have Hr5 := Lib.hid hr5
  clear hown5 hb5 hr5
  go_wp2_with fail
  refine Calls.mono (put_any A5 X5 _ c5 0 w5 rfl (by omega) (by omega) (by omega) Hr5.out) ?_
  rw [show num 0 = [0] from by decide]
  rintro e w6 ⟨v6, rfl, hown6, hb6⟩
  obtain ⟨X6, hX6⟩ : ∃ Y, Y = X5 ++ [0] := ⟨_, rfl⟩
  have hX6l : X6.length ≤ 320 := by rw [hX6]; simp; omega
  replace hown6 : Own8 w6 w5.heap.size v6 (X5 ++ [0]) := hown6
  rw [← hX6] at hown6
  have HX6 := Lib.hid hX6
  clear hX6
  obtain ⟨A6, c6, rfl, hq6, hq6', hr6, _⟩ := Own8.slice hown6
  have H6 := Lib.hid (H5.out.after hb6)
  clear hc0 hc1 hc2 hc3 hc4
  obtain ⟨hc0, hc1, hc2, hc3, hc4⟩ := H6.out
  have B6 := Lib.hid (B5.out.trans (hb6.mono B5.out.size))
  have Hr6 := Lib.hid hr6
  clear hown6 hb6 hr6
  go_wp2_with fail
  go_loopw [3, 31] (fun v i wr => v = .slice A6 X6.length c6 ∧ i = .int .i64 0 ∧ w6 = wr) (fun _ _ _ => 0)
  case atStart => exact ⟨rfl, rfl, rfl⟩
  case round =>
    obtain ⟨rfl, rfl, rfl⟩ := hrel
    go_wp2_with fail
    refine Calls.mono (put_any A6 X6 _ c6 0 w6 rfl (by omega) (by omega) (by omega) Hr6.out) ?_
    rw [show num 0 = [0] from by decide]
    rintro e w7 ⟨v7, rfl, hown7, hb7⟩
    have H7 := Lib.hid (H6.out.after hb7)
    clear hc0 hc1 hc2 hc3 hc4
    obtain ⟨hc0, hc1, hc2, hc3, hc4⟩ := H7.out
    have B7 := Lib.hid (B6.out.trans (hb7.mono B6.out.size))
    have Hown7 := Lib.hid (own_mono hown7 B6.out.size)
    clear hown7 hb7
    go_wp2_with fail
    go_loopw [3, 51] (fun v i wr => v = v7 ∧ i = .int .i64 0 ∧ w7 = wr) (fun _ _ _ => 0)
    case atStart => exact ⟨rfl, rfl, rfl⟩
    case round =>
      obtain ⟨rfl, rfl, rfl⟩ := hrel
      go_wp2_with fail
      go_ret
      rw [← HX5.out, ← HX6.out]
      exact ⟨_, rfl, Hown7.out, B7.out⟩

end KlsK
end Go.Proofs.YthkkcecfenohjaaGreatDoor
