/-
  What a table hands out of its classes: Classes, Class.
-/
import Derived.Test.YtiagjnimafdbhaaGreatDoorG24
import Derived.Test.YtiagjnimafdbhaaGreatDoorG25
import Derived.Test.YtiagjnimafdbhaaGreatDoorG27
namespace Go.Proofs.YtiagjnimafdbhaaGreatDoor
namespace TabCs
open Go.RowKit Base BinM Stru DescM DescW DescX DescS DescG DescP DescQ HierS HierT HierM HierC HierD HierN Kls KlsP KlsQ OpenK TabC TabM TabK TabP TabE TabB TabG TabH TabT TabU TabV TabX TabW TabN TabO TabY

/-- so many classes handed out: clones of the classes L -/
structure N0 (w0 wr : World) (A : Option Addr) (cap : Nat) (cs L : List ClsT) : Prop where
  own : wr.ownsRow w0.heap.size 43 5 (.slice A cs.length cap) cs.length (cs.flatMap valsC)
  bare : cs.map bareC = L.map bareC
  each : ∀ y ∈ cs, OwnK w0.heap.size wr y
  far : ∀ y ∈ cs, ∀ b, OnC y b → some b ≠ (Value.slice A cs.length cap).ownBlock
  bel : Below w0.heap.size w0 wr
theorem N0.start (w : World) : N0 w w none 0 [] [] := ⟨World.ownsRow_nil _ _ _ _, rfl, by simp, by simp, Below.refl _ _⟩
theorem N0.ext {w0 wr w' : World} {A : Option Addr} {cap : Nat} {cs L : List ClsT} (h : N0 w0 wr A cap cs L) (hb : Below wr.heap.size wr w') : N0 w0 w' A cap cs L :=
  ⟨TabM.own_same h.own (fun q hq => hb.block q (h.own.lt q hq).2), h.bare, fun y hy => (h.each y hy).below hb, h.far, h.bel.trans (hb.mono h.bel.size)⟩
theorem N0.push {w0 W W2 : World} {A : Option Addr} {cap : Nat} {cs L : List ClsT} (h : N0 w0 W A cap cs L) {x y : ClsT} (hy : OwnK w0.heap.size W y) (hyf : ∀ b, OnC y b → some b ≠ (Value.slice A cs.length cap).ownBlock) (hxy : bareC y = bareC x) (v : Value)
    (hF : W2.ownsRow w0.heap.size 43 5 v (cs.length + 1) ((cs ++ [y]).flatMap valsC)) (hg : W.grownBy W2 (Value.slice A cs.length cap).ownBlock) (hat : v.ownBlock = (Value.slice A cs.length cap).ownBlock ∨ v.ownBlock = some W.heap.size) :
    ∃ A' cap', v = .slice A' (cs ++ [y]).length cap' ∧ N0 w0 W2 A' cap' (cs ++ [y]) (L ++ [x]) := by
  obtain ⟨A', cap', rfl, _, _, _, _⟩ := own_slice hF
  have hsz2 := hg.size
  have hl : (cs ++ [y]).length = cs.length + 1 := by simp
  refine ⟨A', cap', by rw [hl], by rw [hl]; exact hF, ?_, ?_, ?_, below_own h.bel h.own (Nat.le_refl _) h.bel.size hg⟩
  · rw [List.map_append, List.map_append, h.bare, List.map_cons, List.map_cons, hxy]
  · intro z hz
    rcases List.mem_append.1 hz with hz | hz
    · exact (h.each z hz).same hsz2 (fun b hb => hg.block b ((h.each z hz).on b hb).2 (h.far z hz b hb))
    · simp at hz; subst hz; exact hy.same hsz2 (fun b hb => hg.block b (hy.on b hb).2 (hyf b hb))
  · intro z hz b hb
    rw [hl]
    have hold : OwnK w0.heap.size W z ∧ some b ≠ (Value.slice A cs.length cap).ownBlock := by
      rcases List.mem_append.1 hz with hz | hz
      · exact ⟨h.each z hz, h.far z hz b hb⟩
      · simp at hz; subst hz; exact ⟨hy, hyf b hb⟩
    rcases hat with e | e
    · rw [e]; exact hold.2
    · rw [e]
      have := (hold.1.on b hb).2
      intro e2
      injection e2 with e2
      omega

set_option maxRecDepth 100000 in
theorem appCl {ops : Array Oper} {rest : List Oper} {o : Oper} {a : Act} {w : World} {Q : Exit → Act → World → Prop} (hgd : o.guard = none) (s x : Operand)
    (ho : o.op = .call { callee := .builtin .append, args := #[s, x], argTypes := #[22, 22] })
    (base : Nat) (v : Value) (p : List ClsT) (hs : a.eval s = v) (hown : w.ownsRow base 43 5 v p.length (p.flatMap valsC)) (g c : Nat) (y : ClsT) (hx : a.eval x = .slice (some ⟨g, 0, none⟩) 1 c)
    (hr : Rds w (some ⟨g, 0, none⟩) (valsC y)) (hlen : p.length ≤ 100000) (hbase : base ≤ w.heap.size)
    (h : ∀ v' w', w'.ownsRow base 43 5 v' (p.length + 1) ((p ++ [y]).flatMap valsC) → w.grownBy w' v.ownBlock → (v'.ownBlock = v.ownBlock ∨ v'.ownBlock = some w.heap.size) → wpList Tryz.prog ops Q rest (a.put o.dst v') w') : wpList Tryz.prog ops Q (o :: rest) a w := by
  obtain ⟨i0, hi, hz, hs1, hb1⟩ := info_parts TabO.infoC
  refine wpList_plain hgd fun K hK => ?_
  obtain ⟨v', w', hrun, h2, h3, _, h5⟩ := run_append_own_at (P := Tryz.prog) w base 22 o.type 43 i0 _ 5 104 Tryz.underlying22 hi hz hs1 hb1 rfl (by omega) v p.length (p.flatMap valsC) hown ⟨g, 0, none⟩ 1 c (valsC y) rfl
    (by intro j u hu
        rcases hr with h0 | ⟨b, o', hA, _, hc⟩
        · rw [h0] at hu; simp at hu
        · injection hA with hA
          rw [hA, Addr.add_mid]
          exact hc j u hu)
    (by intro u hu; unfold valsC at hu; simp at hu; rcases hu with rfl | rfl | rfl | rfl | rfl <;> rfl) (by unfold maxLen; omega) (by omega) hbase
  unfold Oper.wp execOp
  simp only [ho, resolve, invoke, builtin, Sem.run_bind, Sem.run_pure, Result.andThen_ok, List.map_toArray, List.map_cons, List.map_nil, hs, hx, hrun]
  refine hK _ _ (h v' w' ?_ h3 h5)
  rw [List.flatMap_append]
  simpa using h2

/-- classes that are not long -/
def Short (L : List ClsT) : Prop := ∀ x ∈ L, x.consts.length ≤ 10000 ∧ x.fields.length ≤ 10000 ∧ x.meths.length ≤ 10000 ∧ ∀ z ∈ x.meths, z.code.length ≤ 10000 ∧ z.hand.length ≤ 10000

set_option maxRecDepth 100000 in
set_option maxHeartbeats 4000000 in
theorem classes_own {lo : Nat} {w : World} {t g mb n : Nat} {A : Option Addr} {c : Nat} {h : Hr} {L : List ClsT} {f : T → Option HavT} (H : Ta lo w t g mb n A c h L f) (hml : L.length ≤ 10000) (hsh : Short L) :
    Calls Tryz.prog 28 #[.pointer (some ⟨t, 0, none⟩)] w fun e w' => ∃ (A' : Option Addr) (c' : Nat) (C : List ClsT), e = .returned (.slice A' C.length c') ∧ N0 w w' A' c' C L := by
  have HT := Lib.hid H
  have HS := Lib.hid hsh
  have t1 := H.box.cell 1
  have htl := H.box.lt
  clear H hsh
  go_enter Tryz.func28, Tryz.ntmps28
  go_wp2_with fail
  clear t1 htl
  have M0 := Lib.hid (N0.start w)
  go_loopw [3, 13] (fun v i wr => ∃ (j : Nat) (A1 : Option Addr) (cap : Nat) (cs : List ClsT), j ≤ L.length ∧ i = .int .i64 j ∧ v = .slice A1 cs.length cap ∧ cs.length = j ∧ N0 w wr A1 cap cs (L.take j)) (fun _ i _ => L.length - (intOf i).toNat)
  case atStart => exact ⟨0, none, 0, [], Nat.zero_le _, rfl, rfl, rfl, M0.out⟩
  case round =>
    obtain ⟨j, A1, cap, cs, hj, rfl, rfl, hcl, hN⟩ := hrel
    have HN := Lib.hid hN
    have HCl := Lib.hid hcl
    have hcl2 : cs.length ≤ j := Nat.le_of_eq hcl
    have hbw := hN.bel
    have hsz := hbw.size
    clear hN hcl
    by_cases hlt : j < L.length
    · obtain ⟨b1, o1, hA, hb1, hc0, hc1, hc2, hc3, hc4⟩ := cls_at (HT.out.rds.below hbw) hlt
      subst hA
      have hj1 : (j : Int) < (L.length : Int) := by omega
      have hj0 : (0 : Int) ≤ (j : Int) := by omega
      have HTk := Lib.hid (show L.take (j + 1) = L.take j ++ [L[j]] from by rw [List.take_succ_eq_append_getElem hlt])
      have hxis := (HT.out.each _ (List.getElem_mem hlt)).below hbw
      have hxs := HS.out _ (List.getElem_mem hlt)
      generalize L[j] = x at *
      have HC := Lib.hid ((cloneClass_any x (wr.alloc (.cells #[.string ⟨x.name.toArray⟩, .string ⟨x.sup.toArray⟩, .slice x.kA x.km x.kc, .slice x.fA x.fm x.fc, .slice x.mA x.mm x.mc] 43)) (hxis.below ((Below.refl _ _).alloc (Nat.le_refl _) _)) hxs.1 hxs.2.1 hxs.2.2.1 hxs.2.2.2).mono (R' := fun e w' => ∃ y : ClsT, e = .returned (.agg #[.string ⟨y.name.toArray⟩, .string ⟨y.sup.toArray⟩, .slice y.kA y.km y.kc, .slice y.fA y.fm y.fc, .slice y.mA y.mm y.mc]) ∧ FreshC (wr.alloc (.cells #[.string ⟨x.name.toArray⟩, .string ⟨x.sup.toArray⟩, .slice x.kA x.km x.kc, .slice x.fA x.fm x.fc, .slice x.mA x.mm x.mc] 43)).heap.size w' y ∧ bareC y = bareC x ∧ Below (wr.alloc (.cells #[.string ⟨x.name.toArray⟩, .string ⟨x.sup.toArray⟩, .slice x.kA x.km x.kc, .slice x.fA x.fm x.fc, .slice x.mA x.mm x.mc] 43)).heap.size (wr.alloc (.cells #[.string ⟨x.name.toArray⟩, .string ⟨x.sup.toArray⟩, .slice x.kA x.km x.kc, .slice x.fA x.fm x.fc, .slice x.mA x.mm x.mc] 43)) w') (fun e w' h => by
          obtain ⟨y, rfl, q1, q2, q3⟩ := h
          exact ⟨y, rfl, q1, bare_of q2, q3⟩))
      simp only [ClsT.V] at HC
      clear hxis hxs hbw
      go_wp2_with fail
      refine HC.out.mono ?_
      rintro e w6 ⟨y, rfl, hy, hxy, hb6⟩
      have hb06 : Below wr.heap.size wr w6 := ((Below.refl _ _).alloc (Nat.le_refl _) _).trans (hb6.mono (by simp))
      have N6 := Lib.hid ((HN.out.ext hb06).ext ((Below.refl _ _).alloc (Nat.le_refl _) (.cells #[.string ⟨y.name.toArray⟩, .string ⟨y.sup.toArray⟩, .slice y.kA y.km y.kc, .slice y.fA y.fm y.fc, .slice y.mA y.mm y.mc] 43)))
      have ow : OwnK wr.heap.size w6 y := (own_of hy).mono (by simp)
      have HY := Lib.hid (show OwnK w.heap.size (w6.alloc (.cells #[.string ⟨y.name.toArray⟩, .string ⟨y.sup.toArray⟩, .slice y.kA y.km y.kc, .slice y.fA y.fm y.fc, .slice y.mA y.mm y.mc] 43)) y from (ow.mono hsz).below ((Below.refl _ _).alloc (Nat.le_refl _) _))
      have HF := Lib.hid (show ∀ b, OnC y b → some b ≠ (Value.slice A1 cs.length cap).ownBlock from fun b hb e => by
        have h1 := (ow.on b hb).1
        have h2 := (HN.out.own.lt b e.symm).2
        omega)
      have HXY := Lib.hid hxy
      have hs6 := hb06.size
      clear hy hxy hb6 hb06 ow hc0 hc1 hc2 hc3 hc4
      go_wp2_with (at_builtin
                   refine appCl rfl (.tmp 17) (.tmp 20) rfl w.heap.size (.slice A1 cs.length cap) cs rfl N6.out.own w6.heap.size 1 y rfl (Base.rds_new w6 _ _) (by omega) (by simp; omega) ?_
                   intro v7 w7 hF7 hg7 hat7
                   obtain ⟨A7, c7, rfl, hN7⟩ := N6.out.push HY.out HF.out HXY.out v7 hF7 hg7 hat7
                   have N7 := Lib.hid hN7
                   clear hF7 hg7 hat7 hN7)
      go_roundw
      case rel => exact ⟨j + 1, A7, c7, cs ++ [y], by omega, by go_num, by simp, by have := HCl.out; simp [this], by rw [HTk.out]; exact N7.out⟩
      case measure => simp [intOf]; omega
    · have htk : L.take j = L := List.take_of_length_le (by omega)
      rw [htk] at HN
      clear htk hbw
      go_wp2_with fail
      go_ret
      exact ⟨A1, cap, cs, rfl, HN.out⟩
theorem classes_any {lo : Nat} {w : World} {t g mb n : Nat} {A : Option Addr} {c : Nat} {h : Hr} {L : List ClsT} {f : T → Option HavT} (H : Ta lo w t g mb n A c h L f) (hml : L.length ≤ 10000) (hsh : Short L) :
    Calls Tryz.prog 28 #[.pointer (some ⟨t, 0, none⟩)] w fun e w' => ∃ (A' : Option Addr) (c' : Nat) (C : List ClsT), e = .returned (.slice A' C.length c') ∧ Rds w' A' (C.flatMap valsC) ∧ (∀ x ∈ C, x.is w') ∧ C.map bareC = L.map bareC ∧ Below w.heap.size w w' :=
  (classes_own H hml hsh).mono fun _ _ ⟨A', c', C, he, hN⟩ => ⟨A', c', C, he, Rds.ownN hN.own, fun x hx => (hN.each x hx).is, hN.bare, hN.bel⟩
end TabCs
end Go.Proofs.YtiagjnimafdbhaaGreatDoor
/-
  What a table hands out of its classes: Class.
-/
namespace Go.Proofs.YtiagjnimafdbhaaGreatDoor
namespace TabCl
open Go.RowKit Base BinM Stru DescM DescW DescX DescS DescG DescP DescQ HierS HierT HierM HierC HierD HierN Kls KlsP KlsQ OpenK TabC TabM TabK TabP TabE TabB TabG TabH TabT TabU TabV TabX TabW TabN TabO TabY TabI TabCs

theorem kept_in (q : T) (L : List ClsT) : keptC q L = noC ∨ keptC q L ∈ L := by
  unfold keptC
  cases h : L.find? (named q) with
  | none => exact .inl rfl
  | some k => exact .inr (List.mem_of_find?_eq_some h)
theorem kept_is {L : List ClsT} {w : World} (h : ∀ x ∈ L, x.is w) (q : T) : (keptC q L).is w := by
  rcases kept_in q L with e | e
  · rw [e]; exact noC_is _
  · exact h _ e
theorem kept_short {L : List ClsT} (h : Short L) (q : T) : (keptC q L).consts.length ≤ 10000 ∧ (keptC q L).fields.length ≤ 10000 ∧ (keptC q L).meths.length ≤ 10000 ∧ ∀ z ∈ (keptC q L).meths, z.code.length ≤ 10000 ∧ z.hand.length ≤ 10000 := by
  rcases kept_in q L with e | e
  · rw [e]; simp [noC]
  · exact h _ e

set_option maxRecDepth 100000 in
set_option maxHeartbeats 4000000 in
theorem class_any {lo : Nat} {w : World} {t g mb n : Nat} {A : Option Addr} {c : Nat} {h : Hr} {L : List ClsT} {f : T → Option HavT} (H : Ta lo w t g mb n A c h L f) (hml : L.length ≤ 10000) (hsh : Short L) (q : T) :
    Calls Tryz.prog 27 #[.pointer (some ⟨t, 0, none⟩), .string ⟨q.toArray⟩] w fun e w' => ∃ y : ClsT, e = .returned (.tuple #[clsV y, .bool (L.find? (named q)).isSome]) ∧ y.is w' ∧ bareC y = bareC (keptC q L) ∧ Below w.heap.size w w' := by
  have hb := Lib.hid ((Below.refl w.heap.size w).alloc (Nat.le_refl _) (.cells #[.string ⟨#[]⟩, .string ⟨#[]⟩, .slice none 0 0, .slice none 0 0, .slice none 0 0] 43))
  have HR := Lib.hid (Bx.new w #[.string ⟨#[]⟩, .string ⟨#[]⟩, .slice none 0 0, .slice none 0 0, .slice none 0 0] 43)
  have H1 := H.ext hb.out
  have HN := Lib.hid (kept_any t _ _ A L L.length c q (w.alloc (.cells #[.string ⟨#[]⟩, .string ⟨#[]⟩, .slice none 0 0, .slice none 0 0, .slice none 0 0] 43)) H1.box rfl (by omega) H1.rds)
  have HI := Lib.hid (kept_is H.each q)
  have HS := Lib.hid (kept_short hsh q)
  clear H H1 hsh
  generalize (L.find? (named q)).isSome = is at *
  generalize keptC q L = x at *
  go_enter Tryz.func27, Tryz.ntmps27
  go_wp2_with fail
  refine HN.out.mono ?_
  rintro e w1 ⟨rfl, hb1⟩
  simp only [ClsT.V]
  have HB1 := Lib.hid (hb.out.trans (hb1.mono (by simp)))
  have R1 := Lib.hid (HR.out.after hb1)
  have HB2 := Lib.hid (HB1.out.alloc HB1.out.size (.cells #[.string ⟨x.name.toArray⟩, .string ⟨x.sup.toArray⟩, .slice x.kA x.km x.kc, .slice x.fA x.fm x.fc, .slice x.mA x.mm x.mc] 43))
  have R2 := Lib.hid (R1.out.after ((Below.refl _ _).alloc (Nat.le_refl _) (.cells #[.string ⟨x.name.toArray⟩, .string ⟨x.sup.toArray⟩, .slice x.kA x.km x.kc, .slice x.fA x.fm x.fc, .slice x.mA x.mm x.mc] 43)))
  have HC := Lib.hid (cloneClass_any x (w1.alloc (.cells #[.string ⟨x.name.toArray⟩, .string ⟨x.sup.toArray⟩, .slice x.kA x.km x.kc, .slice x.fA x.fm x.fc, .slice x.mA x.mm x.mc] 43)) (HI.out.below HB2.out) HS.out.1 HS.out.2.1 HS.out.2.2.1 HS.out.2.2.2)
  simp only [ClsT.V] at HC
  clear hb1
  go_wp2_with fail
  refine HC.out.mono ?_
  rintro e w3 ⟨y, rfl, hy, hxy, hb3⟩
  have HB3 := Lib.hid (HB2.out.trans (hb3.mono HB2.out.size))
  have R3 := Lib.hid (R2.out.after hb3)
  have OY := Lib.hid (show OwnK (w.heap.size + 1) w3 y from (own_of hy).mono (by have := R1.out.lt; simp; omega))
  have BY := Lib.hid (bare_of hxy)
  have f0 := R3.out.free 0
  have f1 := R3.out.free 1
  have f2 := R3.out.free 2
  have f3 := R3.out.free 3
  have f4 := R3.out.free 4
  have r0 := R3.out.cell 0
  have r1 := R3.out.cell 1
  have r2 := R3.out.cell 2
  have r3 := R3.out.cell 3
  have r4 := R3.out.cell 4
  clear hb3 hy hxy
  go_wp2_with fail
  have K0 := Lib.hid (((((R3.out.set 0 (.string ⟨y.name.toArray⟩)).set 1 (.string ⟨y.sup.toArray⟩)).set 2 (.slice y.kA y.km y.kc)).set 3 (.slice y.fA y.fm y.fc)).set 4 (.slice y.mA y.mm y.mc))
  have HW : Bx (((((w3.setCell ⟨w.heap.size, 0, none⟩ (.string ⟨y.name.toArray⟩)).setCell ⟨w.heap.size, 1, none⟩ (.string ⟨y.sup.toArray⟩)).setCell ⟨w.heap.size, 2, none⟩ (.slice y.kA y.km y.kc)).setCell ⟨w.heap.size, 3, none⟩ (.slice y.fA y.fm y.fc)).setCell ⟨w.heap.size, 4, none⟩ (.slice y.mA y.mm y.mc)) w.heap.size #[.string ⟨y.name.toArray⟩, .string ⟨y.sup.toArray⟩, .slice y.kA y.km y.kc, .slice y.fA y.fm y.fc, .slice y.mA y.mm y.mc] 43 := K0.out
  have OW : y.is (((((w3.setCell ⟨w.heap.size, 0, none⟩ (.string ⟨y.name.toArray⟩)).setCell ⟨w.heap.size, 1, none⟩ (.string ⟨y.sup.toArray⟩)).setCell ⟨w.heap.size, 2, none⟩ (.slice y.kA y.km y.kc)).setCell ⟨w.heap.size, 3, none⟩ (.slice y.fA y.fm y.fc)).setCell ⟨w.heap.size, 4, none⟩ (.slice y.mA y.mm y.mc)) :=
    (OY.out.same (w' := fiv w3 w.heap.size (.string ⟨y.name.toArray⟩) (.string ⟨y.sup.toArray⟩) (.slice y.kA y.km y.kc) (.slice y.fA y.fm y.fc) (.slice y.mA y.mm y.mc)) (Nat.le_of_eq (fiv_size _ _ _ _ _ _ _).symm) (fun b hb => fiv_block _ _ _ _ _ _ _ b (by have := (OY.out.on b hb).1; omega))).is
  exact bodyPost_ret (v := .tuple #[clsV y, .bool is]) (result2 Tryz.results27 _ _ _ _ rfl (run_loadVar_row _ _ _ _ #[.string ⟨y.name.toArray⟩, .string ⟨y.sup.toArray⟩, .slice y.kA y.km y.kc, .slice y.fA y.fm y.fc, .slice y.mA y.mm y.mc] (0, 0) _ HW Tryz.underlying43 rfl sizeClass)) rfl
    ⟨y, rfl, OW, BY.out, ((((HB3.out.setCell (p := ⟨w.heap.size, 0, none⟩) (Nat.le_refl _) _).setCell (p := ⟨w.heap.size, 1, none⟩) (Nat.le_refl _) _).setCell (p := ⟨w.heap.size, 2, none⟩) (Nat.le_refl _) _).setCell (p := ⟨w.heap.size, 3, none⟩) (Nat.le_refl _) _).setCell (p := ⟨w.heap.size, 4, none⟩) (Nat.le_refl _) _⟩
end TabCl
end Go.Proofs.YtiagjnimafdbhaaGreatDoor
/-
  A class's own method: Table.own, Table.Code, and the document's Code: what each of them hands back, of any table.
-/
namespace Go.Proofs.YtiagjnimafdbhaaGreatDoor
namespace TabHc
open Go.RowKit Base BinM Stru DescM DescW DescX HierS HierT HierM HierC HierD HierN Kls KlsP KlsQ TabC TabM TabK TabP TabE TabB TabG TabH TabT TabU TabI TabR TabV TabCl

/-- a class's method with a name; none -/
def ownP (k : ClsT) (nm : T) : MthT × Bool := if findP (nameM nm) k.meths < 0 then (noM, false) else (k.meths.getD (findP (nameM nm) k.meths).toNat noM, true)
theorem own_no_ {k : ClsT} {nm : T} (h : findP (nameM nm) k.meths = -1) : ownP k nm = (noM, false) := by unfold ownP; rw [h]; rfl
theorem own_yes {k : ClsT} {nm : T} {j : Nat} (hj : j < k.meths.length) (h : findP (nameM nm) k.meths = (j : Int)) : ownP k nm = (k.meths[j], true) := by
  unfold ownP
  rw [h, if_neg (by omega), Int.toNat_natCast, List.getD_eq_getElem?_getD, List.getElem?_eq_getElem hj]
  rfl
/-- the class that own hands back -/
def ownC (k : ClsT) (nm : T) : ClsT := if (ownP k nm).2 = true then k else noC
theorem ownC_no {k : ClsT} {nm : T} (h : ownP k nm = (noM, false)) : ownC k nm = noC := by unfold ownC; rw [h]; rfl
theorem ownC_yes {k : ClsT} {nm : T} {y : MthT} (h : ownP k nm = (y, true)) : ownC k nm = k := by unfold ownC; rw [h]; rfl
theorem own_is {k : ClsT} {w : World} (h : k.is w) (nm : T) : (ownP k nm).1.is w := by
  rcases findP_cases (nameM nm) k.meths with h1 | ⟨j, hj, h1⟩
  · rw [own_no_ h1]; exact noM_is w
  · rw [own_yes hj h1]; exact h.meths.each _ (List.getElem_mem hj)

theorem fiv_def (w : World) (b : Nat) (v0 v1 v2 v3 v4 : Value) : ((((w.setCell ⟨b, 0, none⟩ v0).setCell ⟨b, 1, none⟩ v1).setCell ⟨b, 2, none⟩ v2).setCell ⟨b, 3, none⟩ v3).setCell ⟨b, 4, none⟩ v4 = fiv w b v0 v1 v2 v3 v4 := rfl
theorem bx_drew {w : World} {b : Nat} {C : Array Value} {T : TypeId} (h : Bx w b C T) : Bx w.drew b C T := h
theorem below_drew {lo : Nat} {a w : World} (h : Below lo a w) : Below lo a w.drew := h.drew
set_option maxRecDepth 100000 in
set_option maxHeartbeats 1000000 in
theorem own_any (g : Nat) (tp mp : Value) (A : Option Addr) (l : List ClsT) (c : Nat) (q nm : List UInt8) (w : World) (hbox : Bx w g #[tp, .slice A l.length c, mp] 73) (hml : l.length ≤ 100000) (hr : Rds w A (l.flatMap valsC)) (his : ∀ x ∈ l, x.is w) :
    Calls Tryz.prog 102 #[.pointer (some ⟨g, 0, none⟩), .string ⟨q.toArray⟩, .string ⟨nm.toArray⟩] w fun e w' => e = .returned (.tuple #[clsV (ownC (keptC q l) nm), mthV (ownP (keptC q l) nm).1, .bool (ownP (keptC q l) nm).2]) ∧ Below w.heap.size w w' := by
  have hb0 : Below w.heap.size w ((w.alloc (.cells #[.string ⟨#[]⟩, .string ⟨#[]⟩, .slice none 0 0, .slice none 0 0, .slice none 0 0] 43)).alloc (.cells #[.string ⟨#[]⟩, .string ⟨#[]⟩, .int .i64 0, .slice none 0 0, .slice none 0 0] 55)) := ((Below.refl _ _).alloc (Nat.le_refl _) _).alloc (by simp) _
  have hs0 : (w.alloc (.cells #[.string ⟨#[]⟩, .string ⟨#[]⟩, .slice none 0 0, .slice none 0 0, .slice none 0 0] 43)).heap.size = w.heap.size + 1 := by simp
  have N0 := (Bx.new w #[.string ⟨#[]⟩, .string ⟨#[]⟩, .slice none 0 0, .slice none 0 0, .slice none 0 0] 43).after ((Below.refl _ _).alloc (Nat.le_refl _) (.cells #[.string ⟨#[]⟩, .string ⟨#[]⟩, .int .i64 0, .slice none 0 0, .slice none 0 0] 55))
  have R0 := Bx.new (w.alloc (.cells #[.string ⟨#[]⟩, .string ⟨#[]⟩, .slice none 0 0, .slice none 0 0, .slice none 0 0] 43)) #[.string ⟨#[]⟩, .string ⟨#[]⟩, .int .i64 0, .slice none 0 0, .slice none 0 0] 55
  rw [hs0] at R0
  have HC0 := Lib.hid N0
  have HM0 := Lib.hid R0
  have HB0 := Lib.hid hb0
  have HN := Lib.hid (kept_any g tp mp A l l.length c q ((w.alloc (.cells #[.string ⟨#[]⟩, .string ⟨#[]⟩, .slice none 0 0, .slice none 0 0, .slice none 0 0] 43)).alloc (.cells #[.string ⟨#[]⟩, .string ⟨#[]⟩, .int .i64 0, .slice none 0 0, .slice none 0 0] 55)) (hbox.after hb0) rfl hml (hr.below hb0))
  have HKI := Lib.hid (kept_is his q)
  clear hb0 hs0 N0 R0 hbox hr his
  generalize keptC q l = k at *
  obtain ⟨kn, ks, kA, km, kc, fA, fm, fc, mA, mm, mc, kcs, kfs, kms⟩ := k
  simp only [ClsT.V] at HN
  go_enter Tryz.func102, Tryz.ntmps102
  go_wp2_with fail
  refine HN.out.mono ?_
  rintro e w1 ⟨rfl, hb1⟩
  have hs1 : w.heap.size + 2 ≤ w1.heap.size := by have := hb1.size; simp at this; omega
  have B1 := Lib.hid (HB0.out.trans (hb1.mono HB0.out.size))
  have hal : Below w1.heap.size w1 (w1.alloc (.cells #[.string ⟨kn.toArray⟩, .string ⟨ks.toArray⟩, .slice kA km kc, .slice fA fm fc, .slice mA mm mc] 43)) := (Below.refl _ _).alloc (Nat.le_refl _) _
  have B2 := Lib.hid (B1.out.trans (hal.mono B1.out.size))
  have C2 := Lib.hid ((HC0.out.after hb1).after hal)
  have M2 := Lib.hid ((HM0.out.after hb1).after hal)
  have X2 := Lib.hid (Bx.new w1 #[.string ⟨kn.toArray⟩, .string ⟨ks.toArray⟩, .slice kA km kc, .slice fA fm fc, .slice mA mm mc] 43)
  have HA := Lib.hid (atM_any ⟨kn, ks, kA, km, kc, fA, fm, fc, mA, mm, mc, kcs, kfs, kms⟩ nm (w1.alloc (.cells #[.string ⟨kn.toArray⟩, .string ⟨ks.toArray⟩, .slice kA km kc, .slice fA fm fc, .slice mA mm mc] 43)) (HKI.out.below B2.out))
  simp only [ClsT.V] at HA
  clear hb1 hal
  go_wp2_with fail
  refine HA.out.mono ?_
  rintro e w3 ⟨rfl, hb3⟩
  have B3 := Lib.hid (B2.out.trans (hb3.mono B2.out.size))
  have C3 := Lib.hid (C2.out.after hb3)
  have M3 := Lib.hid (M2.out.after hb3)
  have X3 := Lib.hid (X2.out.after hb3)
  have KI := Lib.hid (HKI.out.below B3.out)
  have ne1 : ¬ w.heap.size = w.heap.size + 1 := by omega
  have ne2 : ¬ w.heap.size + 1 = w.heap.size := by omega
  have f0 := C3.out.free 0
  have f1 := C3.out.free 1
  have f2 := C3.out.free 2
  have f3 := C3.out.free 3
  have f4 := C3.out.free 4
  have r0 := C3.out.cell 0
  have r1 := C3.out.cell 1
  have r2 := C3.out.cell 2
  have r3 := C3.out.cell 3
  have r4 := C3.out.cell 4
  have g0 := M3.out.free 0
  have g1 := M3.out.free 1
  have g2 := M3.out.free 2
  have g3 := M3.out.free 3
  have g4 := M3.out.free 4
  have s0 := M3.out.cell 0
  have s1 := M3.out.cell 1
  have s2 := M3.out.cell 2
  have s3 := M3.out.cell 3
  have s4 := M3.out.cell 4
  clear hb3
  rcases findP_cases (nameM nm) kms with hF | ⟨j, hj, hF⟩
  · have HO := Lib.hid (own_no_ (k := ⟨kn, ks, kA, km, kc, fA, fm, fc, mA, mm, mc, kcs, kfs, kms⟩) hF)
    rw [hF]
    clear hF
    go_wp2_with fail
    have HW1 := fiv_off (fiv_bx C3.out (.string ⟨#[]⟩) (.string ⟨#[]⟩) (.slice none 0 0) (.slice none 0 0) (.slice none 0 0)) ne1 (.string ⟨#[]⟩) (.string ⟨#[]⟩) (.int .i64 0) (.slice none 0 0) (.slice none 0 0)
    have HW2 := fiv_bx (fiv_off M3.out ne2 (.string ⟨#[]⟩) (.string ⟨#[]⟩) (.slice none 0 0) (.slice none 0 0) (.slice none 0 0)) (.string ⟨#[]⟩) (.string ⟨#[]⟩) (.int .i64 0) (.slice none 0 0) (.slice none 0 0)
    exact bodyPost_ret (v := .tuple #[clsV noC, mthV noM, .bool false]) (resultT Tryz.results102 _ _ _ _ _ _ rfl rfl (run_loadVar_row _ _ _ _ #[.string ⟨#[]⟩, .string ⟨#[]⟩, .slice none 0 0, .slice none 0 0, .slice none 0 0] (0, 0) _ HW1 Tryz.underlying43 rfl sizeClass) (run_loadVar_row _ _ _ _ #[.string ⟨#[]⟩, .string ⟨#[]⟩, .int .i64 0, .slice none 0 0, .slice none 0 0] (0, 0) _ HW2 Tryz.underlying55 rfl sizeMth)) rfl
      ⟨by rw [ownC_no HO.out, HO.out], fiv_below (fiv_below B3.out (Nat.le_refl _) _ _ _ _ _) (by omega) _ _ _ _ _⟩
  · have HO := Lib.hid (own_yes (k := ⟨kn, ks, kA, km, kc, fA, fm, fc, mA, mm, mc, kcs, kfs, kms⟩) hj hF)
    rw [hF]
    obtain ⟨bm, om, hmA, hbm0, _, _, _, _, _⟩ := mth_at HKI.out.meths.rds hj
    obtain ⟨bm', om', hmA', hbm, m0, m1, m2, m3, m4⟩ := mth_at KI.out.meths.rds hj
    simp only at hmA hmA'
    rw [hmA] at hmA'
    injection hmA' with hmA'
    injection hmA' with e1 e2 _
    subst e1
    subst e2
    have hmm := KI.out.meths.len
    have hjm : (j : Int) < (mm : Int) := by have h9 : mm = kms.length := hmm; omega
    have x0 := X3.out.cell 0
    have x1 := X3.out.cell 1
    have x2 := X3.out.cell 2
    have x3 := X3.out.cell 3
    have x4 := X3.out.cell 4
    subst hmA
    have n1 : ¬ bm = w.heap.size := by omega
    have n2 : ¬ w.heap.size = bm := by omega
    have n3 : ¬ bm = w.heap.size + 1 := by omega
    have n4 : ¬ w.heap.size + 1 = bm := by omega
    have n5 : ¬ w1.heap.size = w.heap.size := by omega
    have n6 : ¬ w.heap.size = w1.heap.size := by omega
    have n7 : ¬ w1.heap.size = w.heap.size + 1 := by omega
    have n8 : ¬ w.heap.size + 1 = w1.heap.size := by omega
    simp only at HO m0 m1 m2 m3 m4
    generalize kms[j] = y at *
    clear hF hmm
    go_wp2_with fail
    go_region
    go_wp2_with fail
    have HW0 : Hid (Below w.heap.size w (fiv (fiv w3 w.heap.size (.string ⟨kn.toArray⟩) (.string ⟨ks.toArray⟩) (.slice kA km kc) (.slice fA fm fc) (.slice (some ⟨bm, om, none⟩) mm mc)) (w.heap.size + 1) (.string ⟨y.name.toArray⟩) (.string ⟨y.sig.toArray⟩) (.int .i64 y.locals) (.slice y.cA y.cm y.cc) (.slice y.hA y.hm y.hc)).drew) := Lib.hid (below_drew (fiv_below (fiv_below B3.out (Nat.le_refl _) _ _ _ _ _) (by omega) _ _ _ _ _))
    have HW1 : Bx (fiv (fiv w3 w.heap.size (.string ⟨kn.toArray⟩) (.string ⟨ks.toArray⟩) (.slice kA km kc) (.slice fA fm fc) (.slice (some ⟨bm, om, none⟩) mm mc)) (w.heap.size + 1) (.string ⟨y.name.toArray⟩) (.string ⟨y.sig.toArray⟩) (.int .i64 y.locals) (.slice y.cA y.cm y.cc) (.slice y.hA y.hm y.hc)).drew w.heap.size #[.string ⟨kn.toArray⟩, .string ⟨ks.toArray⟩, .slice kA km kc, .slice fA fm fc, .slice (some ⟨bm, om, none⟩) mm mc] 43 := bx_drew (fiv_off (fiv_bx C3.out _ _ _ _ _) ne1 _ _ _ _ _)
    have HW2 : Bx (fiv (fiv w3 w.heap.size (.string ⟨kn.toArray⟩) (.string ⟨ks.toArray⟩) (.slice kA km kc) (.slice fA fm fc) (.slice (some ⟨bm, om, none⟩) mm mc)) (w.heap.size + 1) (.string ⟨y.name.toArray⟩) (.string ⟨y.sig.toArray⟩) (.int .i64 y.locals) (.slice y.cA y.cm y.cc) (.slice y.hA y.hm y.hc)).drew (w.heap.size + 1) #[.string ⟨y.name.toArray⟩, .string ⟨y.sig.toArray⟩, .int .i64 y.locals, .slice y.cA y.cm y.cc, .slice y.hA y.hm y.hc] 55 := bx_drew (fiv_bx (fiv_off M3.out ne2 _ _ _ _ _) _ _ _ _ _)
    rw [fiv_def, fiv_def]
    generalize (fiv (fiv w3 w.heap.size (.string ⟨kn.toArray⟩) (.string ⟨ks.toArray⟩) (.slice kA km kc) (.slice fA fm fc) (.slice (some ⟨bm, om, none⟩) mm mc)) (w.heap.size + 1) (.string ⟨y.name.toArray⟩) (.string ⟨y.sig.toArray⟩) (.int .i64 y.locals) (.slice y.cA y.cm y.cc) (.slice y.hA y.hm y.hc)).drew = WE at HW0 HW1 HW2 ⊢
    exact bodyPost_ret (v := .tuple #[clsV ⟨kn, ks, kA, km, kc, fA, fm, fc, some ⟨bm, om, none⟩, mm, mc, kcs, kfs, kms⟩, mthV y, .bool true]) (resultT Tryz.results102 _ _ _ _ _ _ rfl rfl (run_loadVar_row _ _ _ _ #[.string ⟨kn.toArray⟩, .string ⟨ks.toArray⟩, .slice kA km kc, .slice fA fm fc, .slice (some ⟨bm, om, none⟩) mm mc] (0, 0) _ HW1 Tryz.underlying43 rfl sizeClass) (run_loadVar_row _ _ _ _ #[.string ⟨y.name.toArray⟩, .string ⟨y.sig.toArray⟩, .int .i64 y.locals, .slice y.cA y.cm y.cc, .slice y.hA y.hm y.hc] (0, 0) _ HW2 Tryz.underlying55 rfl sizeMth)) rfl
      ⟨by rw [ownC_yes HO.out, HO.out], HW0.out⟩
end TabHc
end Go.Proofs.YtiagjnimafdbhaaGreatDoor
