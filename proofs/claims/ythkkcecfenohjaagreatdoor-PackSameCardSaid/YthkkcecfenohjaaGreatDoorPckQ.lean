/-
  Whether a move can be: pack.rightKind, pack.rightMoves, the document's own move.
-/
import Derived.Test.YthkkcecfenohjaaGreatDoorPckC
import Derived.Test.YthkkcecfenohjaaGreatDoorPckF
import Derived.Test.YthkkcecfenohjaaGreatDoorKlsX
import Derived.Test.YthkkcecfenohjaaGreatDoorOpenP
namespace Go.Proofs.YthkkcecfenohjaaGreatDoor
namespace PckQ
open Go.RowKit Base BinM DescM Stru PoolM InsM InsA InsC InsD InsE PutN Kls KlsP KlsQ KlsX Pck PckC PckF OpenP
open Part (Row)

/-- why a move can not be -/
def kndE (m : MovT) (ks : List Cst) : Int :=
  if m.kind = 0 then (if m.frm ≠ [] ∨ 0 < m.code.length then 2 else 0)
  else if m.kind = 1 then (if nameB m.frm = false then 7 else if 0 < m.code.length then 2 else 0)
  else if m.kind = 2 then (if m.frm ≠ [] then 2 else leanE m.code ks)
  else 2
def movE (vs : List MovT) (ks : List Cst) (i : Nat) (m : MovT) : Int := if nameB m.field = false then 7 else if 0 ≤ findP (nameV m.field) (vs.take i) then 8 else kndE m ks
def movsE (vs : List MovT) (ks : List Cst) : Int := if 16 < vs.length then 6 else firstI (movE vs ks) vs
theorem mov_name {vs : List MovT} {ks : List Cst} {i : Nat} {m : MovT} (h : nameB m.field = false) : movE vs ks i m = 7 := by unfold movE; rw [if_pos h]
theorem mov_twice {vs : List MovT} {ks : List Cst} {i : Nat} {m : MovT} (h : nameB m.field = true) (h2 : 0 ≤ findP (nameV m.field) (vs.take i)) : movE vs ks i m = 8 := by unfold movE; rw [if_neg (by rw [h]; simp), if_pos h2]
theorem mov_kind {vs : List MovT} {ks : List Cst} {i : Nat} {m : MovT} (h : nameB m.field = true) (h2 : ¬ 0 ≤ findP (nameV m.field) (vs.take i)) : movE vs ks i m = kndE m ks := by unfold movE; rw [if_neg (by rw [h]; simp), if_neg h2]

set_option maxRecDepth 100000 in
set_option maxHeartbeats 4000000 in
theorem kind_any (x : MovT) (kA : Option Addr) (km kc : Nat) (ks : List Cst) (w : World) (hL : Laid w) (hx : x.is w) (hl : MovT.lt x) (hk : IsCsts w kA km kc ks) :
    Calls Tryz.prog 151 #[x.V, .slice kA km kc] w fun e w' => e = .returned (.int .i64 (kndE x ks)) ∧ Below w.heap.size w w' := by
  have hB := (Below.refl w.heap.size w).alloc (Nat.le_refl _) (.cells #[.string ⟨x.field.toArray⟩, .int .i64 x.kind, .string ⟨x.frm.toArray⟩, .slice x.cA x.cm x.cc] 105)
  have Hcode := Lib.hid (fun (W : World) (hb : Below w.heap.size w W) => PckC.code_any x.cA x.cm x.cc x.code kA km kc ks W (hL.below hb hL.1) (hx.code.below hb) (hk.below hb))
  have hcl : x.code.length = x.cm := hx.code.len.symm
  have hfl : x.frm.length ≤ 140737488351232 := hl.frm
  have HB := Lib.hid hB
  clear hB hx hL hl hk
  have HE := Lib.hid (show kndE x ks = if x.kind = 0 then (if x.frm ≠ [] ∨ 0 < x.cm then 2 else 0) else if x.kind = 1 then (if nameB x.frm = false then 7 else if 0 < x.cm then 2 else 0) else if x.kind = 2 then (if x.frm ≠ [] then 2 else leanE x.code ks) else 2 by unfold kndE; rw [hcl])
  clear hcl
  generalize kndE x ks = R at *
  obtain ⟨x0, x1, x2, x3, x4, x5, x6⟩ := x
  simp only [MovT.V] at *
  by_cases h0 : x1 = 0
  · subst h0
    have HE0 := Lib.hid (show R = if x2 ≠ [] ∨ 0 < x4 then 2 else 0 from HE.out.trans (if_pos rfl))
    rcases x2 with _ | ⟨c, r⟩
    · by_cases h1 : 0 < x4
      · have Hq := Lib.hid (show R = 2 by rw [HE0.out, if_pos (.inr h1)])
        clear Hcode
        go_enter Tryz.func151, Tryz.ntmps151
        go_wp2_with fail
        go_ret
        exact ⟨ret_i Hq.out.symm, HB.out⟩
      · have Hq := Lib.hid (show R = 0 by rw [HE0.out, if_neg (by simp; omega)])
        have d1 : decide ((0 : Int) < (x4 : Int)) = false := by simp; omega
        have d2 : x4 = 0 := by omega
        subst d2
        go_enter Tryz.func151, Tryz.ntmps151
        go_wp2_with fail
        go_ret
        exact ⟨ret_i Hq.out.symm, HB.out⟩
    · have Hq := Lib.hid (show R = 2 by rw [HE0.out, if_pos (.inl (by simp))])
      go_enter Tryz.func151, Tryz.ntmps151
      go_wp2_with fail
      go_ret
      exact ⟨ret_i Hq.out.symm, HB.out⟩
  · have e0 : (x1 == 0) = false := by simpa using h0
    by_cases h1 : x1 = 1
    · subst h1
      have HE0 := Lib.hid (show R = if nameB x2 = false then 7 else if 0 < x4 then 2 else 0 from HE.out.trans ((if_neg (by decide)).trans (if_pos rfl)))
      clear h0 e0
      go_enter Tryz.func151, Tryz.ntmps151
      go_wp2_with fail
      refine Calls.mono (nm_any x2 _ (by omega)) ?_
      rintro e w3 ⟨rfl, rfl⟩
      cases hN : nameB x2
      · have Hq := Lib.hid (show R = 7 by rw [HE0.out, if_pos hN])
        clear hN
        go_wp2_with fail
        go_ret
        exact ⟨ret_i Hq.out.symm, HB.out⟩
      · by_cases h1 : 0 < x4
        · have Hq := Lib.hid (show R = 2 by rw [HE0.out, if_neg (by rw [hN]; simp), if_pos h1])
          clear hN
          go_wp2_with fail
          go_ret
          exact ⟨ret_i Hq.out.symm, HB.out⟩
        · have Hq := Lib.hid (show R = 0 by rw [HE0.out, if_neg (by rw [hN]; simp), if_neg h1])
          have d2 : x4 = 0 := by omega
          clear h1 hN
          subst d2
          go_wp2_with fail
          go_ret
          exact ⟨ret_i Hq.out.symm, HB.out⟩
    · have e1 : (x1 == 1) = false := by simpa using h1
      by_cases h2 : x1 = 2
      · subst h2
        have HE0 := Lib.hid (show R = if x2 ≠ [] then 2 else leanE x6 ks from HE.out.trans ((if_neg (by decide)).trans ((if_neg (by decide)).trans (if_pos rfl))))
        clear h0 e0 h1 e1
        rcases x2 with _ | ⟨c, r⟩
        · have Hq := Lib.hid (show R = leanE x6 ks by rw [HE0.out, if_neg (by simp)])
          go_enter Tryz.func151, Tryz.ntmps151
          go_wp2_with fail
          refine Calls.mono (Hcode.out _ HB.out) ?_
          rintro e w3 ⟨rfl, hb3⟩
          have B3 := Lib.hid (HB.out.trans (hb3.mono HB.out.size))
          clear hb3
          go_wp2_with fail
          go_ret
          exact ⟨ret_i Hq.out.symm, B3.out⟩
        · have Hq := Lib.hid (show R = 2 by rw [HE0.out, if_pos (by simp)])
          go_enter Tryz.func151, Tryz.ntmps151
          go_wp2_with fail
          go_ret
          exact ⟨ret_i Hq.out.symm, HB.out⟩
      · have e2 : (x1 == 2) = false := by simpa using h2
        have Hq := Lib.hid (show R = 2 by rw [HE.out, if_neg h0, if_neg h1, if_neg h2])
        clear h0 h1 h2
        go_enter Tryz.func151, Tryz.ntmps151
        go_wp2_with fail
        go_ret
        exact ⟨ret_i Hq.out.symm, HB.out⟩

theorem elemV : (sizeOf (Tryz.prog.elem 101)).run Tryz.prog = fun W => .ok 4 W := by kernel_rfl
theorem sliceV (A : Option Addr) (m c k : Nat) (h : k ≤ c) (W : World) : (Instr.slice 101 (.slice A m c) none (some (.int .i64 (k : Int))) none).run Tryz.prog W = .ok (.slice A k c) W := by
  have hu : Tryz.prog.underlying 101 = some (.slice (Tryz.prog.elem 101)) := by kernel_rfl
  rw [run_slice_h W 101 A m c hu .i64 (k : Int) (by omega) (by omega), elemV]
  cases A <;> simp [Result.andThen, sliced, Addr.add]
theorem take_rds {w : World} {A : Option Addr} {l : List MovT} (h : Rds w A (l.flatMap MovT.vals)) (j : Nat) : Rds w A ((l.take j).flatMap MovT.vals) := by
  have e : (l.take j).flatMap MovT.vals = (l.flatMap MovT.vals).take (j * 4) := by
    have hn : ∀ x : MovT, x.vals.length = 4 := fun _ => rfl
    clear h
    induction l generalizing j with
    | nil => simp
    | cons x r ih =>
      cases j with
      | zero => simp
      | succ j =>
        simp only [List.take_succ_cons, List.flatMap_cons, ih]
        rw [List.take_append, hn, List.take_of_length_le (l := x.vals) (by rw [hn]; omega), show (j + 1) * 4 - 4 = j * 4 by omega]
  rw [e]
  exact h.take _

set_option maxRecDepth 100000 in
set_option maxHeartbeats 8000000 in
theorem moves_any (x : TrnT) (w : World) (hL : Laid w) (hx : x.is w) (hl : TrnT.lt x) :
    Calls Tryz.prog 115 #[x.V] w fun e w' => e = .returned (.int .i64 (movsE x.moves x.consts)) ∧ Below w.heap.size w w' := by
  have Hknd := Lib.hid (fun (y : MovT) (hy : y ∈ x.moves) (W : World) (hb : Below w.heap.size w W) => kind_any y x.kA x.km x.kc x.consts W (hL.below hb hL.1) ((hx.moves.each y hy).below hb) (hl.moves y hy) (hx.consts.below hb))
  have H := Lib.hid (show IsMovs w x.vA x.vm x.vc x.moves from hx.moves)
  have hml : x.moves.length ≤ x.vm := Nat.le_of_eq hx.moves.len.symm
  have hml2 : x.vm ≤ x.moves.length := Nat.le_of_eq hx.moves.len
  have hmc : x.vm ≤ x.vc := hx.moves.le
  have hmx : x.vm ≤ maxLen := Nat.le_trans hx.moves.le hx.moves.max
  have HL := Lib.hid hl.moves
  unfold maxLen at hmx
  clear hx hl hL
  have HB := Lib.hid ((Below.refl w.heap.size w).alloc (Nat.le_refl _) (.cells #[.string ⟨x.cls.toArray⟩, .slice x.kA x.km x.kc, .slice x.vA x.vm x.vc] 103))
  have R0 := Lib.hid (Row.new w #[.string ⟨x.cls.toArray⟩, .slice x.kA x.km x.kc, .slice x.vA x.vm x.vc] 103)
  obtain ⟨n, kA, km, kc, vA, vm, vc, ks, vs⟩ := x
  simp only [TrnT.V] at *
  by_cases hs : 16 < vm
  · have HH := Lib.hid (show movsE vs ks = 6 by unfold movsE; rw [if_pos (by omega)])
    go_enter Tryz.func115, Tryz.ntmps115
    go_wp2_with fail
    go_ret
    exact ⟨ret_i HH.out.symm, HB.out⟩
  · have HH := Lib.hid (show movsE vs ks = firstI (movE vs ks) vs by unfold movsE; rw [if_neg (by omega)])
    go_enter Tryz.func115, Tryz.ntmps115
    go_wp2_with fail
    generalize w.alloc (.cells #[.string ⟨n.toArray⟩, .slice kA km kc, .slice vA vm vc] 103) = W0 at *
    go_loopw [3, 4, 13] (fun _ _ i wr => ∃ j : Nat, j ≤ vm ∧ i = .int .i64 j ∧ (∀ k (hk : k < vs.length), k < j → movE vs ks k vs[k] = 0) ∧ Below W0.heap.size W0 wr) (fun _ _ i _ => vm - (intOf i).toNat)
    case atStart => exact ⟨0, Nat.zero_le _, rfl, by intro k _ h; omega, Below.refl _ _⟩
    case round =>
      obtain ⟨j, hj, rfl, hall, hbel⟩ := hrel
      have Hall := Lib.hid hall
      have Hbel := Lib.hid hbel
      have B1 := Lib.hid (HB.out.trans (hbel.mono HB.out.size))
      have R1 := Lib.hid (R0.out.after hbel)
      clear hall hbel
      by_cases hlt : j < vm
      · have hja : j < vs.length := by omega
        obtain ⟨b1, o1, rfl, hb1, hc0, hc1, hc2, hc3⟩ := mov_at (H.out.rds.below B1.out) hja
        have hj1 : (j : Int) < (vm : Int) := by omega
        have hj0 : (0 : Int) ≤ (j : Int) := by omega
        have hsl := sliceV (some ⟨b1, o1, none⟩) vm vc j (by omega)
        have hlx := HL.out _ (List.getElem_mem hja)
        have Hhit := Lib.hid (fun hne => firstI_hit hja Hall.out hne)
        have Hnext := Lib.hid (fun h0 => firstI_next Hall.out hja h0)
        have Ha := Lib.hid (fun (h : nameB (vs[j]'hja).field = false) => mov_name (vs := vs) (ks := ks) (i := j) h)
        have Hb := Lib.hid (fun (h : nameB (vs[j]'hja).field = true) h2 => mov_twice (vs := vs) (ks := ks) (i := j) h h2)
        have Hc := Lib.hid (fun (h : nameB (vs[j]'hja).field = true) h2 => mov_kind (vs := vs) (ks := ks) (i := j) h h2)
        have hknd := Hknd.out _ (List.getElem_mem hja)
        generalize vs[j] = x at *
        generalize movE vs ks j x = E at *
        generalize kndE x ks = C at *
        obtain ⟨x0, x1, x2, x3, x4, x5, x6⟩ := x
        simp only [MovT.V] at hc0 hc1 hc2 hc3 hknd
        have hl0 : x0.length ≤ 140737488351232 := hlx.field
        have Hk2 := Lib.hid hknd
        clear hknd hlx
        have HA := Lib.hid ((Below.refl wr.heap.size wr).alloc (Nat.le_refl _) (.cells #[.string ⟨x0.toArray⟩, .int .i64 x1, .string ⟨x2.toArray⟩, .slice x3 x4 x5] 105))
        have RM := Lib.hid (Row.new wr #[.string ⟨x0.toArray⟩, .int .i64 x1, .string ⟨x2.toArray⟩, .slice x3 x4 x5] 105)
        have BA := Lib.hid (B1.out.trans (HA.out.mono B1.out.size))
        have WA := Lib.hid (Hbel.out.trans (HA.out.mono Hbel.out.size))
        have RA := Lib.hid (R1.out.after HA.out)
        go_wp2_with fail
        refine Calls.mono (nm_any x0 _ (by omega)) ?_
        rintro e w3 ⟨rfl, rfl⟩
        cases hN : nameB x0
        · have Hq := Lib.hid (Ha.out hN)
          have Hf := Lib.hid (Hhit.out (by rw [Hq.out]; decide))
          clear hN
          go_wp2_with fail
          go_ret
          exact ⟨ret_i (by rw [HH.out, Hf.out, Hq.out]), BA.out⟩
        · have Hb2 := Lib.hid (fun h2 => Hb.out hN h2)
          have Hc2 := Lib.hid (fun h2 => Hc.out hN h2)
          clear hN
          have g1 := RA.out.cell 1
          have g2 := RA.out.cell 2
          have hcell : (wr.alloc (.cells #[.string ⟨x0.toArray⟩, .int .i64 x1, .string ⟨x2.toArray⟩, .slice x3 x4 x5] 105)).cell? ⟨wr.heap.size, 0, none⟩ = some (.string ⟨x0.toArray⟩) := RM.out.cell 0
          have Hcell := Lib.hid hcell
          go_wp2_with fail
          refine Calls.mono (hasV_any _ (vs.take j) j vc x0 wr.heap.size _ Hcell.out (by simp; omega) (by unfold maxLen; omega) (take_rds (H.out.rds.below BA.out) j)) ?_
          rintro e w4 ⟨rfl, hb4⟩
          have B4 := Lib.hid (BA.out.trans (hb4.mono BA.out.size))
          have W4 := Lib.hid (WA.out.trans (hb4.mono WA.out.size))
          have R4 := Lib.hid (RA.out.after hb4)
          have M4 := Lib.hid (RM.out.after hb4)
          clear hb4 g1 g2 hcell hsl
          by_cases hF : 0 ≤ findP (nameV x0) (vs.take j)
          · have Hq := Lib.hid (Hb2.out (by omega))
            have Hf := Lib.hid (Hhit.out (by rw [Hq.out]; decide))
            rw [decide_eq_true hF]
            clear hF
            go_wp2_with fail
            go_ret
            exact ⟨ret_i (by rw [HH.out, Hf.out, Hq.out]), B4.out⟩
          · have Hq := Lib.hid (Hc2.out (by omega))
            rw [decide_eq_false hF]
            clear hF
            have g1 := R4.out.cell 1
            have m0 := M4.out.cell 0
            have m1 := M4.out.cell 1
            have m2 := M4.out.cell 2
            have m3 := M4.out.cell 3
            go_wp2_with fail
            refine Calls.mono (Hk2.out _ B4.out) ?_
            rintro e w5 ⟨rfl, hb5⟩
            have B5 := Lib.hid (B4.out.trans (hb5.mono B4.out.size))
            have W5 := Lib.hid (W4.out.trans (hb5.mono W4.out.size))
            clear hb5 g1 m0 m1 m2 m3
            by_cases hC : C = 0
            · have Hf := Lib.hid (Hnext.out (by rw [Hq.out, hC]))
              subst hC
              go_wp2_with fail
              go_roundw
              case rel => exact ⟨j + 1, by omega, by go_num, Hf.out, W5.out⟩
              case measure => simp [intOf]; omega
            · have Hf := Lib.hid (Hhit.out (by rw [Hq.out]; exact hC))
              have hC2 : (C != 0) = true := by simp [hC]
              clear hC
              go_wp2_with fail
              go_ret
              exact ⟨ret_i (by rw [HH.out, Hf.out, Hq.out]), B5.out⟩
      · have Hfin := Lib.hid (show firstI (movE vs ks) vs = 0 from firstI_none (fun i hi => Hall.out i hi (by omega)))
        go_wp2_with fail
        go_ret
        exact ⟨ret_i (by rw [HH.out, Hfin.out]), B1.out⟩

end PckQ
end Go.Proofs.YthkkcecfenohjaaGreatDoor
