/-
  The document's consts: Arr of what is no array; Old.
-/
import Derived.Test.YtehainbhoflpnaaGreatDoorG39
import Derived.StillTailTactics
import Derived.Deep.RegionHeld
namespace Go.Proofs.YtehainbhoflpnaaGreatDoor
namespace KrI
open Go.RowKit Base BinM Stru DescM DescW DescX DescS DescG DescP DescQ HierS HierT HierM HierC HierD HierN HierV HierR HierU HierY HierQ Kls KlsP KlsQ OpenK TabC TabM TabK TabP TabE TabB TabG TabH TabT TabU TabV TabX TabW TabF TabN TabO TabY TabR TabQ TabL KndM KndS KrS KrA KrP KrB KrC KrD KrE
open KndP (pop_le)
open KndW (mtE gives_mt tRun tUnit)

set_option maxRecDepth 100000 in
set_option maxHeartbeats 2000000 in
theorem consts_45 {w : World} {b r : Nat} {s : RS} (h : Sk w b r s.1 s.2) (kk nn : Int) (S T' U : T) (hS : S.length ≤ 140737488351232) :
    Calls Tryz.prog 30 #[.pointer (some ⟨b, 0, none⟩), .int .i64 45, .agg #[.int .i64 kk, .int .i64 nn, .string ⟨S.toArray⟩, .string ⟨T'.toArray⟩, .string ⟨U.toArray⟩]] w (GivesR w b r (KrG.rbad s)) := by
  have hqb : w.heap.size ≠ b := by have := h.lt; omega
  have A0 := ((Below.refl w.heap.size w).alloc (Nat.le_refl _) (.cells #[.int .i64 kk, .int .i64 nn, .string ⟨S.toArray⟩, .string ⟨T'.toArray⟩, .string ⟨U.toArray⟩] 75))
  have HS0 := Lib.hid (h.ext A0)
  have HG0 := Lib.hid (grown_of (some b) A0)
  have HBx := Lib.hid (Bx.new w #[.int .i64 kk, .int .i64 nn, .string ⟨S.toArray⟩, .string ⟨T'.toArray⟩, .string ⟨U.toArray⟩] 75)
  have hCl := Lib.hid (fun W => DescR.refClass_any S W (by omega))
  unfold twoB at hCl
  clear A0
  obtain ⟨W0, hW0⟩ : ∃ W, w.alloc (.cells #[.int .i64 kk, .int .i64 nn, .string ⟨S.toArray⟩, .string ⟨T'.toArray⟩, .string ⟨U.toArray⟩] 75) = W := ⟨_, rfl⟩
  rw [hW0] at HS0 HG0 HBx
  have k2 := HBx.out.cell 2
  have kl := HBx.out.lt
  have f2 := HS0.out.flag.2.1
  have c2 := HS0.out.flag.1
  have hlt := HS0.out.lt
  have HX := Lib.hid (HS0.out.spoil true)
  go_enter Tryz.func30, Tryz.ntmps30
  go_wp2_with fail
  refine (hCl.out _).mono ?_
  rintro e w' ⟨rfl, rfl⟩
  go_wp2_with fail
  go_end0
  exact ⟨rfl, HX.out, grown_trans HG0.out (grown_set 2 _)⟩
set_option maxRecDepth 100000 in
set_option maxHeartbeats 2000000 in
theorem consts_28_no {lo g : Nat} {ps : List P2} {w : World} {b r : Nat} {s : RS} (h : Sk w b r s.1 s.2) (hf : Few 800 s) (kk nn : Int) (S T' U : T) (hS : S.length ≤ 140737488351232) (hn : (elemT S).2 = 10) (H : TbR lo w r g ps) (hb : lo ≤ b) :
    Calls Tryz.prog 30 #[.pointer (some ⟨b, 0, none⟩), .int .i64 28, .agg #[.int .i64 kk, .int .i64 nn, .string ⟨S.toArray⟩, .string ⟨T'.toArray⟩, .string ⟨U.toArray⟩]] w (GivesR w b r (rpush S (rwant [73] (rneed false s)))) := by
  have hlow : lo ≤ w.heap.size := by have := h.lt; omega
  have HT := Lib.hid (fun W (hW : Below lo w W) => H.below hW)
  have hqb : w.heap.size ≠ b := by have := h.lt; omega
  have A0 := ((Below.refl w.heap.size w).alloc (Nat.le_refl _) (.cells #[.int .i64 kk, .int .i64 nn, .string ⟨S.toArray⟩, .string ⟨T'.toArray⟩, .string ⟨U.toArray⟩] 75))
  have HS0 := Lib.hid (h.ext A0)
  have HG0 := Lib.hid (grown_of (some b) A0)
  have HBx := Lib.hid (Bx.new w #[.int .i64 kk, .int .i64 nn, .string ⟨S.toArray⟩, .string ⟨T'.toArray⟩, .string ⟨U.toArray⟩] 75)
  have hCl := Lib.hid (fun W => DescR.refClass_any S W (by omega))
  unfold twoB at hCl
  clear A0
  obtain ⟨W0, hW0⟩ : ∃ W, w.alloc (.cells #[.int .i64 kk, .int .i64 nn, .string ⟨S.toArray⟩, .string ⟨T'.toArray⟩, .string ⟨U.toArray⟩] 75) = W := ⟨_, rfl⟩
  rw [hW0] at HS0 HG0 HBx
  have k2 := HBx.out.cell 2
  have kl := HBx.out.lt
  have hB0 := below_grown HG0.out hb hlow
  have HT0 := HT.out W0 hB0
  have c0 := HS0.out.flag.2.2
  have c1 := crOf HT0
  have hbl := HS0.out.lt
  have hrl : r < W0.heap.size := Nat.lt_of_lt_of_le HT0.low (Nat.le_trans hlow hB0.size)
  have HKn := Lib.hid (fun W (hW : Below lo w W) => knownR_any lo g ps S W (HT.out W hW).hier (by omega))
  have HEl := Lib.hid (fun W => DescR.refElem_any S W (by omega))
  unfold twoI at HEl
  generalize (mk ps).known S = hx at *
  generalize elemT S = el at *
  obtain ⟨y, n⟩ := el
  simp only at HEl hn ⊢
  clear HT0
  subst hn
  go_enter Tryz.func30, Tryz.ntmps30
  go_wp2_with fail
  refine (hCl.out _).mono ?_
  rintro e w' ⟨rfl, rfl⟩
  go_wp2_with fail
  refine (HEl.out _).mono ?_
  rintro e w' ⟨rfl, rfl⟩
  go_wp2_with fail
  have hSd := Lib.hid HS0.out.drew
  have HKd := Lib.hid (HKn.out _ hB0.drew)
  have HGd := Lib.hid (grown_drew (grown_refl W0 (some b)))
  refine wp_region_held_drew (S := fun _ => True) (by kernel_rfl) ?hS (fun hHeld => ?rest)
  case hS => trivial
  refine wpAnyH_take (i := 0) (oi := _) (v := ?v0) rfl (by kernel_rfl) (by kernel_rfl) (by kernel_rfl) (fun _ _ _ h => h) (Or.inl ⟨by rfl, ?hy0⟩) trivial ?rest0
  case hy0 => (intro w hSw; go_simp <;> with_reducible rfl)
  simp only [Act.put, List.getElem_toArray, List.getElem_cons_zero, List.setIfInBounds_toArray, List.set_cons_zero, List.set_cons_succ]
  refine wpAnyH_take (i := 1) (oi := _) (v := ?v1) rfl (by kernel_rfl) (by kernel_rfl) (by kernel_rfl) (fun _ _ _ h => h) (Or.inl ⟨by rfl, ?hy1⟩) trivial ?rest1
  case hy1 => (intro w hSw; go_simp <;> with_reducible rfl)
  simp only [Act.put, List.getElem_toArray, List.getElem_cons_zero, List.getElem_cons_succ, List.setIfInBounds_toArray, List.set_cons_zero, List.set_cons_succ]
  refine wpAnyH_take (i := 2) (oi := _) (v := ?v2) rfl (by kernel_rfl) (by kernel_rfl) (by kernel_rfl) (fun _ _ _ h => h) (Or.inl ⟨by rfl, ?hy2⟩) trivial ?rest2
  case hy2 => (intro w hSw; go_simp <;> with_reducible rfl)
  simp only [Act.put, List.getElem_toArray, List.getElem_cons_zero, List.getElem_cons_succ, List.setIfInBounds_toArray, List.set_cons_zero, List.set_cons_succ]
  refine wpAnyH_take (i := 3) (oi := _) (v := ?v3) rfl (by kernel_rfl) (by kernel_rfl) (by kernel_rfl) (fun _ _ _ h => h) (Or.inl ⟨by rfl, ?hy3⟩) trivial ?rest3
  case hy3 => (intro w hSw; go_simp <;> with_reducible rfl)
  simp only [Act.put, List.getElem_toArray, List.getElem_cons_zero, List.getElem_cons_succ, List.setIfInBounds_toArray, List.set_cons_zero, List.set_cons_succ]
  refine wpAnyH_take (i := 4) (oi := _) (v := undef) rfl (by kernel_rfl) (by kernel_rfl) (by kernel_rfl) (fun _ _ _ h => h) (Or.inr ⟨by rfl, rfl⟩) trivial ?rest4
  simp only [Act.put, List.getElem_toArray, List.getElem_cons_zero, List.getElem_cons_succ, List.setIfInBounds_toArray, List.set_cons_zero, List.set_cons_succ]
  refine wpAnyH_take (i := 5) (oi := _) (v := undef) rfl (by kernel_rfl) (by kernel_rfl) (by kernel_rfl) (fun _ _ _ h => h) (Or.inr ⟨by rfl, rfl⟩) trivial ?rest5
  simp only [Act.put, List.getElem_toArray, List.getElem_cons_zero, List.getElem_cons_succ, List.setIfInBounds_toArray, List.set_cons_zero, List.set_cons_succ]
  refine wpAnyH_take (i := 6) (oi := _) (v := undef) rfl (by kernel_rfl) (by kernel_rfl) (by kernel_rfl) (fun _ _ _ h => h) (Or.inr ⟨by rfl, rfl⟩) trivial ?rest6
  simp only [Act.put, List.getElem_toArray, List.getElem_cons_zero, List.getElem_cons_succ, List.setIfInBounds_toArray, List.set_cons_zero, List.set_cons_succ]
  refine wpAnyH_take (i := 7) (oi := _) (v := undef) rfl (by kernel_rfl) (by kernel_rfl) (by kernel_rfl) (fun _ _ _ h => h) (Or.inr ⟨by rfl, rfl⟩) trivial ?rest7
  simp only [Act.put, List.getElem_toArray, List.getElem_cons_zero, List.getElem_cons_succ, List.setIfInBounds_toArray, List.set_cons_zero, List.set_cons_succ]
  refine wpAnyH_take (i := 8) (oi := _) (v := undef) rfl (by kernel_rfl) (by kernel_rfl) (by kernel_rfl) (fun _ _ _ h => h) (Or.inr ⟨by rfl, rfl⟩) trivial ?rest8
  simp only [Act.put, List.getElem_toArray, List.getElem_cons_zero, List.getElem_cons_succ, List.setIfInBounds_toArray, List.set_cons_zero, List.set_cons_succ]
  refine wpAnyH_take (i := 9) (oi := _) (v := undef) rfl (by kernel_rfl) (by kernel_rfl) (by kernel_rfl) (fun _ _ _ h => h) (Or.inr ⟨by rfl, rfl⟩) trivial ?rest9
  simp only [Act.put, List.getElem_toArray, List.getElem_cons_zero, List.getElem_cons_succ, List.setIfInBounds_toArray, List.set_cons_zero, List.set_cons_succ]
  refine wpAnyH_take (i := 10) (oi := _) (v := undef) rfl (by kernel_rfl) (by kernel_rfl) (by kernel_rfl) (fun _ _ _ h => h) (Or.inr ⟨by rfl, rfl⟩) trivial ?rest10
  simp only [Act.put, List.getElem_toArray, List.getElem_cons_zero, List.getElem_cons_succ, List.setIfInBounds_toArray, List.set_cons_zero, List.set_cons_succ]
  refine wpAnyH_take (i := 11) (oi := _) (v := undef) rfl (by kernel_rfl) (by kernel_rfl) (by kernel_rfl) (fun _ _ _ h => h) (Or.inr ⟨by rfl, rfl⟩) trivial ?rest11
  simp only [Act.put, List.getElem_toArray, List.getElem_cons_zero, List.getElem_cons_succ, List.setIfInBounds_toArray, List.set_cons_zero, List.set_cons_succ]
  refine wpAnyH_take (i := 12) (oi := _) (v := undef) rfl (by kernel_rfl) (by kernel_rfl) (by kernel_rfl) (fun _ _ _ h => h) (Or.inr ⟨by rfl, rfl⟩) trivial ?rest12
  simp only [Act.put, List.getElem_toArray, List.getElem_cons_zero, List.getElem_cons_succ, List.setIfInBounds_toArray, List.set_cons_zero, List.set_cons_succ]
  refine wpAnyH_take (i := 13) (oi := _) (v := undef) rfl (by kernel_rfl) (by kernel_rfl) (by kernel_rfl) (fun _ _ _ h => h) (Or.inr ⟨by rfl, rfl⟩) trivial ?rest13
  simp only [Act.put, List.getElem_toArray, List.getElem_cons_zero, List.getElem_cons_succ, List.setIfInBounds_toArray, List.set_cons_zero, List.set_cons_succ]
  refine wpAnyH_take (i := 14) (oi := _) (v := ?v14) rfl (by kernel_rfl) (by kernel_rfl) (by kernel_rfl) (fun _ _ _ h => h) (Or.inl ⟨by rfl, ?hy14⟩) trivial ?rest14
  case hy14 => (intro w hSw; go_simp <;> with_reducible rfl)
  simp only [Act.put, List.getElem_toArray, List.getElem_cons_zero, List.getElem_cons_succ, List.setIfInBounds_toArray, List.set_cons_zero, List.set_cons_succ]
  refine wpAnyH_ready (rs := [15]) (by kernel_rfl) (by simp) ?_
  refine AllReadyH.cons (o := _) rfl (fun K hK => ?_) AllReadyH.nil
  go_simp
  go_at_call 27
  refine (c_need hSd.out false).mono ?_
  rintro e w1 ⟨rfl, hs, hg⟩
  refine hK.out _ _ ?hS15 (fun hHeld15 => ?rest15)
  case hS15 => trivial
  clear hK K
  have HS1 := Lib.hid hs
  have HG1 := Lib.hid (grown_trans HGd.out hg)
  clear hs hg
  refine wpAnyH_done (by kernel_rfl) ?_ _
  go_wp2_with fail
  refine (c_want HS1.out ((hf.need false).mono (by omega)) [73]).mono ?_
  rintro e w2 ⟨rfl, hs, hg⟩
  have HS2 := Lib.hid hs
  have HG2 := Lib.hid (grown_trans HG1.out hg)
  have k2 := (bx_grown HBx.out HG2.out hqb).cell 2
  have kl := (bx_grown HBx.out HG2.out hqb).lt
  clear hs hg
  go_wp2_with fail
  refine (c_push HS2.out (((hf.need false).want [73]).mono (by omega)) S).mono ?_
  rintro e w3 ⟨rfl, hs, hg⟩
  have HS3 := Lib.hid hs
  have HG3 := Lib.hid (grown_trans HG2.out hg)
  clear hs hg
  go_wp2_with fail
  go_end0
  exact ⟨rfl, HS3.out, grown_trans HG0.out HG3.out⟩
theorem consts_28 {lo g : Nat} {ps : List P2} {w : World} {b r : Nat} {s : RS} (h : Sk w b r s.1 s.2) (hf : Few 800 s) (kk nn : Int) (S T' U : T) (hS : S.length ≤ 140737488351232) (H : TbR lo w r g ps) (hb : lo ≤ b) :
    Calls Tryz.prog 30 #[.pointer (some ⟨b, 0, none⟩), .int .i64 28, .agg #[.int .i64 kk, .int .i64 nn, .string ⟨S.toArray⟩, .string ⟨T'.toArray⟩, .string ⟨U.toArray⟩]] w (GivesR w b r (rpush S (rwant [73] (rneed ((elemT S).2 == 0 && (mk ps).known S) s)))) := by
  by_cases h0 : (elemT S).2 = 0
  · exact consts_28_yes h hf kk nn S T' U hS h0 H hb
  · have h1 : (elemT S).2 = 10 := by
      unfold elemT at h0 ⊢
      split
      · rename_i hh; rw [if_pos hh] at h0; exact absurd rfl h0
      · rfl
    rw [show ((elemT S).2 == 0 && (mk ps).known S) = false by rw [h1]; rfl]
    exact consts_28_no h hf kk nn S T' U hS h1 H hb
end KrI
end Go.Proofs.YtehainbhoflpnaaGreatDoor
