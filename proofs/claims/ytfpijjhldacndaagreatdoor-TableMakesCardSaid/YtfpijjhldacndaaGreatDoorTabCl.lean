/-
  What a table hands out of its classes: Class.
-/
import Derived.Test.YtfpijjhldacndaaGreatDoorTabI
import Derived.Test.YtfpijjhldacndaaGreatDoorTabCs
namespace Go.Proofs.YtfpijjhldacndaaGreatDoor
namespace TabCl
open Go.RowKit Base BinM Stru DescM DescW DescX DescS DescG DescP DescQ HierS HierT HierM HierC HierD HierN Kls KlsP KlsQ OpenK TabC TabM TabK TabP TabE TabB TabG TabH TabT TabU TabV TabX TabW TabN TabO TabY TabI TabCs

theorem kept_in (q : T) (L : List ClsT) : keptC q L = noC ∨ keptC q L ∈ L := by
  unfold keptC
  cases h : L.find? (named q) with
  | none => exact .inl rfl
  | some k => exact .inr (List.mem_of_find?_eq_some h)
theorem kept_is {L : List ClsT} {w : World} (h : ∀ x ∈ L, x.is w) (q : T) : (keptC q L).is w := by
  rcases kept_in q L with e | e
  · rw [e]; exact noC_is _
  · exact h _ e
theorem kept_short {L : List ClsT} (h : Short L) (q : T) : (keptC q L).consts.length ≤ 10000 ∧ (keptC q L).fields.length ≤ 10000 ∧ (keptC q L).meths.length ≤ 10000 ∧ ∀ z ∈ (keptC q L).meths, z.code.length ≤ 10000 ∧ z.hand.length ≤ 10000 := by
  rcases kept_in q L with e | e
  · rw [e]; simp [noC]
  · exact h _ e

set_option maxRecDepth 100000 in
set_option maxHeartbeats 4000000 in
theorem class_any {lo : Nat} {w : World} {t g mb n : Nat} {A : Option Addr} {c : Nat} {h : Hr} {L : List ClsT} {f : T → Option HavT} (H : Ta lo w t g mb n A c h L f) (hml : L.length ≤ 10000) (hsh : Short L) (q : T) :
    Calls Tryz.prog 12 #[.pointer (some ⟨t, 0, none⟩), .string ⟨q.toArray⟩] w fun e w' => ∃ y : ClsT, e = .returned (.tuple #[clsV y, .bool (L.find? (named q)).isSome]) ∧ y.is w' ∧ bareC y = bareC (keptC q L) ∧ Below w.heap.size w w' := by
  have hb := Lib.hid ((Below.refl w.heap.size w).alloc (Nat.le_refl _) (.cells #[.string ⟨#[]⟩, .string ⟨#[]⟩, .slice none 0 0, .slice none 0 0, .slice none 0 0] 42))
  have HR := Lib.hid (Bx.new w #[.string ⟨#[]⟩, .string ⟨#[]⟩, .slice none 0 0, .slice none 0 0, .slice none 0 0] 42)
  have H1 := H.ext hb.out
  have HN := Lib.hid (kept_any t _ _ A L L.length c q (w.alloc (.cells #[.string ⟨#[]⟩, .string ⟨#[]⟩, .slice none 0 0, .slice none 0 0, .slice none 0 0] 42)) H1.box rfl (by omega) H1.rds)
  have HI := Lib.hid (kept_is H.each q)
  have HS := Lib.hid (kept_short hsh q)
  clear H H1 hsh
  generalize (L.find? (named q)).isSome = is at *
  generalize keptC q L = x at *
  go_enter Tryz.func12, Tryz.ntmps12
  go_wp2_with fail
  refine HN.out.mono ?_
  rintro e w1 ⟨rfl, hb1⟩
  simp only [ClsT.V]
  have HB1 := Lib.hid (hb.out.trans (hb1.mono (by simp)))
  have R1 := Lib.hid (HR.out.after hb1)
  have HB2 := Lib.hid (HB1.out.alloc HB1.out.size (.cells #[.string ⟨x.name.toArray⟩, .string ⟨x.sup.toArray⟩, .slice x.kA x.km x.kc, .slice x.fA x.fm x.fc, .slice x.mA x.mm x.mc] 42))
  have R2 := Lib.hid (R1.out.after ((Below.refl _ _).alloc (Nat.le_refl _) (.cells #[.string ⟨x.name.toArray⟩, .string ⟨x.sup.toArray⟩, .slice x.kA x.km x.kc, .slice x.fA x.fm x.fc, .slice x.mA x.mm x.mc] 42)))
  have HC := Lib.hid (cloneClass_any x (w1.alloc (.cells #[.string ⟨x.name.toArray⟩, .string ⟨x.sup.toArray⟩, .slice x.kA x.km x.kc, .slice x.fA x.fm x.fc, .slice x.mA x.mm x.mc] 42)) (HI.out.below HB2.out) HS.out.1 HS.out.2.1 HS.out.2.2.1 HS.out.2.2.2)
  simp only [ClsT.V] at HC
  clear hb1
  go_wp2_with fail
  refine HC.out.mono ?_
  rintro e w3 ⟨y, rfl, hy, hxy, hb3⟩
  have HB3 := Lib.hid (HB2.out.trans (hb3.mono HB2.out.size))
  have R3 := Lib.hid (R2.out.after hb3)
  have OY := Lib.hid (show OwnK (w.heap.size + 1) w3 y from (own_of hy).mono (by have := R1.out.lt; simp; omega))
  have BY := Lib.hid (bare_of hxy)
  have f0 := R3.out.free 0
  have f1 := R3.out.free 1
  have f2 := R3.out.free 2
  have f3 := R3.out.free 3
  have f4 := R3.out.free 4
  have r0 := R3.out.cell 0
  have r1 := R3.out.cell 1
  have r2 := R3.out.cell 2
  have r3 := R3.out.cell 3
  have r4 := R3.out.cell 4
  clear hb3 hy hxy
  go_wp2_with fail
  have K0 := Lib.hid (((((R3.out.set 0 (.string ⟨y.name.toArray⟩)).set 1 (.string ⟨y.sup.toArray⟩)).set 2 (.slice y.kA y.km y.kc)).set 3 (.slice y.fA y.fm y.fc)).set 4 (.slice y.mA y.mm y.mc))
  have HW : Bx (((((w3.setCell ⟨w.heap.size, 0, none⟩ (.string ⟨y.name.toArray⟩)).setCell ⟨w.heap.size, 1, none⟩ (.string ⟨y.sup.toArray⟩)).setCell ⟨w.heap.size, 2, none⟩ (.slice y.kA y.km y.kc)).setCell ⟨w.heap.size, 3, none⟩ (.slice y.fA y.fm y.fc)).setCell ⟨w.heap.size, 4, none⟩ (.slice y.mA y.mm y.mc)) w.heap.size #[.string ⟨y.name.toArray⟩, .string ⟨y.sup.toArray⟩, .slice y.kA y.km y.kc, .slice y.fA y.fm y.fc, .slice y.mA y.mm y.mc] 42 := K0.out
  have OW : y.is (((((w3.setCell ⟨w.heap.size, 0, none⟩ (.string ⟨y.name.toArray⟩)).setCell ⟨w.heap.size, 1, none⟩ (.string ⟨y.sup.toArray⟩)).setCell ⟨w.heap.size, 2, none⟩ (.slice y.kA y.km y.kc)).setCell ⟨w.heap.size, 3, none⟩ (.slice y.fA y.fm y.fc)).setCell ⟨w.heap.size, 4, none⟩ (.slice y.mA y.mm y.mc)) :=
    (OY.out.same (w' := fiv w3 w.heap.size (.string ⟨y.name.toArray⟩) (.string ⟨y.sup.toArray⟩) (.slice y.kA y.km y.kc) (.slice y.fA y.fm y.fc) (.slice y.mA y.mm y.mc)) (Nat.le_of_eq (fiv_size _ _ _ _ _ _ _).symm) (fun b hb => fiv_block _ _ _ _ _ _ _ b (by have := (OY.out.on b hb).1; omega))).is
  exact bodyPost_ret (v := .tuple #[clsV y, .bool is]) (result2 Tryz.results12 _ _ _ _ rfl (run_loadVar_row _ _ _ _ #[.string ⟨y.name.toArray⟩, .string ⟨y.sup.toArray⟩, .slice y.kA y.km y.kc, .slice y.fA y.fm y.fc, .slice y.mA y.mm y.mc] (0, 0) _ HW Tryz.underlying42 rfl sizeClass)) rfl
    ⟨y, rfl, OW, BY.out, ((((HB3.out.setCell (p := ⟨w.heap.size, 0, none⟩) (Nat.le_refl _) _).setCell (p := ⟨w.heap.size, 1, none⟩) (Nat.le_refl _) _).setCell (p := ⟨w.heap.size, 2, none⟩) (Nat.le_refl _) _).setCell (p := ⟨w.heap.size, 3, none⟩) (Nat.le_refl _) _).setCell (p := ⟨w.heap.size, 4, none⟩) (Nat.le_refl _) _⟩
end TabCl
end Go.Proofs.YtfpijjhldacndaaGreatDoor
