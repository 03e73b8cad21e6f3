/-
  What hier.New returns, of any classes.
-/
import Derived.Test.YtilakpbgpdbchaaDoorHierV
import Derived.Deep.RegionLaw
namespace Go.Proofs.YtilakpbgpdbchaaDoor
namespace HierW
open Go.RowKit BinM Base Stru DescM DescW DescX HierS HierT HierM HierC HierK HierN HierV
open BinName (ret_bool)

def nsk (F : List CE) (k : Nat) : List T := objN :: (F.take k).map CE.name
theorem nsk_succ {F : List CE} {k : Nat} (h : k < F.length) : nsk F (k + 1) = nsk F k ++ [F[k].name] := by
  unfold nsk
  rw [List.take_succ_eq_append_getElem h, List.map_append]; rfl
theorem nsk_all {F : List CE} {k : Nat} (h : F.length ≤ k) : nsk F k = nms (F.map CE.p2) := by
  unfold nsk nms
  rw [List.take_of_length_le h, List.map_map]; rfl
theorem drop_p2 {F : List CE} {k : Nat} (h : k < F.length) : (F.drop k).map CE.p2 = F[k].p2 :: (F.drop (k + 1)).map CE.p2 := by
  rw [List.drop_eq_getElem_cons h]; rfl
def fk (F : List CE) (NS : List T) (k : Nat) (c : T) : Option Nat := (((F.take k).map CE.p2).find? fun p => p.1 == c).map fun p => NS.idxOf p.2
theorem fk_zero (F : List CE) (NS : List T) : fk F NS 0 = fun _ => none := rfl
theorem fk_all {F : List CE} {k : Nat} (h : F.length ≤ k) : fk F (nms (F.map CE.p2)) k = abv (F.map CE.p2) := by
  unfold fk abv
  rw [List.take_of_length_le h]
theorem fk_succ {F : List CE} {NS : List T} {k : Nat} (h : k < F.length) (hn : ((F.map CE.p2).map (·.1)).Nodup) : fk F NS (k + 1) = fun c => if c = F[k].name then some (NS.idxOf F[k].sup) else fk F NS k c := by
  funext c
  unfold fk
  rw [List.take_succ_eq_append_getElem h, List.map_append, List.find?_append]
  by_cases e : c = F[k].name
  · subst e
    rw [if_pos rfl]
    have hno : ((F.take k).map CE.p2).find? (fun p => p.1 == F[k].name) = none := by
      rw [List.find?_eq_none]
      intro p hp he
      obtain ⟨x, hx, rfl⟩ := List.mem_map.1 hp
      obtain ⟨i, hi, hxi⟩ := List.mem_iff_getElem.1 hx
      rw [List.length_take] at hi
      rw [List.getElem_take] at hxi
      have he' : F[i].name = F[k].name := by rw [hxi]; exact eq_of_beq he
      have h3 := List.pairwise_iff_getElem.1 hn i k (by simp; omega) (by simpa using h) (by omega)
      apply h3
      simpa [CE.p2] using he'
    rw [hno]
    simp [CE.p2]
  · rw [if_neg e]
    have : ([F[k]].map CE.p2).find? (fun p => p.1 == c) = none := by
      have hne : ¬ F[k].name = c := fun h => e h.symm
      simp [CE.p2, hne]
    rw [this, Option.or_none]

set_option maxRecDepth 100000 in
set_option maxHeartbeats 12000000 in
theorem new_any (A : Option Addr) (l : List CE) (m c : Nat) (w : World) (hm : m = l.length) (hr : Rds w A (l.flatMap CE.vals)) (hlong : ∀ x ∈ l, x.name.length ≤ 140737488355000) :
    Calls Tryd.prog 21 #[.slice A m c] w (GivesH (l.map CE.p2) w) := by
  have h0 := Lib.hid (Below.refl w.heap.size w)
  obtain ⟨i0, hi0, hz0, hz1, hz2⟩ := info_parts infoS
  have I0 := Lib.hid hi0
  have I1 := Lib.hid hz0
  have I2 := Lib.hid hz1
  have I3 := Lib.hid hz2
  clear hi0 hz0 hz1 hz2
  by_cases h32 : 32 < m
  · have hw := Lib.hid (why_size (ps := l.map CE.p2) (by simp; omega))
    have h32' : (32 : Int) < (m : Int) := by omega
    clear hm hr hlong
    go_enter Tryd.func21, Tryd.ntmps21
    go_wp2_with fail
    go_ret3
    exact givesH_no (c := []) hw.out (by decide) h0.out
  · have h32' : ¬ (32 : Int) < (m : Int) := by omega
    have Hrd := Lib.hid hr
    have Hm := Lib.hid hm
    have hl32 : l.length ≤ 32 := by omega
    have hp32 : (l.map CE.p2).length ≤ 32 := by simp; omega
    generalize hF : alw.map bare ++ l = F
    have hFp : F.map CE.p2 = full (l.map CE.p2) := by rw [← hF, List.map_append, bare_p2]; rfl
    have hFl : F.length ≤ 40 ∧ 8 ≤ F.length := by rw [← hF]; simp [alw]; omega
    have hFlong : ∀ x ∈ F, x.name.length ≤ 140737488355000 := by
      rw [← hF]
      intro x hx
      rcases List.mem_append.1 hx with h | h
      · obtain ⟨p, hp, rfl⟩ := List.mem_map.1 h
        unfold alw at hp
        simp at hp
        rcases hp with rfl | rfl | rfl | rfl | rfl | rfl | rfl | rfl <;> decide
      · exact hlong x h
    have HF := Lib.hid hF
    have HFp := Lib.hid hFp
    have HFlong := Lib.hid hFlong
    have Hp32 := Lib.hid hp32
    obtain ⟨hF40, hF8⟩ := hFl
    generalize hps : l.map CE.p2 = ps at *
    clear hr hm hlong hF hFp hFlong hp32 hps
    have hmm := @run_makeMap Tryd.prog
    go_enter Tryd.func21, Tryd.ntmps21
    go_wp2_with fail
    clear hmm
    refine (always_any (W0 w)).mono ?_
    rw [W0_size]
    rintro e w2 ⟨v2, rfl, hown2, hb2⟩
    have hsz2 := hb2.size
    rw [W0_size] at hsz2
    have Hb2 := Lib.hid hb2
    have Hown2 := Lib.hid hown2
    have B2 := Lib.hid ((W0_below w).trans (hb2.mono (by omega)))
    clear hown2 hb2
    go_wp2_with (at_builtin
                 refine appC rfl (.tmp 20) (.tmp 21) rfl _ _ (alw.map bare) rfl Hown2.out A m c l rfl Hm.out (Hrd.out.below B2.out) (by simp [alw]; omega) (by omega) ?_
                 intro v3 w3 hown3 hg3
                 rw [HF.out] at hown3
                 obtain ⟨lb, cap, rfl, _, _⟩ := World.ownsRow.form hown3 (by omega)
                 have HM := Lib.hid (Mk.start Hb2.out Hown2.out hg3 hown3)
                 clear hown3 hg3)
    go_loopw [25] (fun i wr => ∃ k : Nat, k ≤ F.length ∧ i = .int .i64 k ∧ Mk w wr F lb 0 (nsk F k) (fun _ => none) ∧ twice [objN] (full ps) = twice (nsk F k) ((F.drop k).map CE.p2)) (fun i _ => F.length - (intOf i).toNat)
    case atStart => exact ⟨0, by omega, rfl, HM.out, by rw [List.drop_zero, HFp.out]; rfl⟩
    case round =>
      obtain ⟨k, hk, rfl, hmk, htw⟩ := hrel
      have Hmk := Lib.hid hmk
      by_cases hlt : k < F.length
      · have hns := nsk_succ hlt
        have hdr := drop_p2 hlt
        rw [hdr] at htw
        obtain ⟨b, o, hbo, hb, hc0, hc1, hc2, hc3, hc4⟩ := ce_at hmk.lst hlt
        injection hbo with hbo
        injection hbo with e1 e2
        subst e1; subst e2
        rw [Nat.zero_add] at hc0 hc1 hc2 hc3 hc4
        have hk1 : (k : Int) < (F.length : Int) := by omega
        have hk0 : (0 : Int) ≤ (k : Int) := by omega
        have hxl := HFlong.out _ (List.getElem_mem hlt)
        have hnl : (nsk F k).length ≤ 41 := by unfold nsk; simp; omega
        have hnlong : ∀ c ∈ nsk F k, c.length ≤ 140737488355000 := by
          intro c hc
          unfold nsk at hc
          rcases List.mem_cons.1 hc with rfl | hc
          · decide
          · obtain ⟨x, hx, rfl⟩ := List.mem_map.1 hc
            exact HFlong.out x (List.mem_of_mem_take hx)
        generalize F[k] = x at *
        obtain ⟨xn, xs, xkA, xkm, xkc, xfA, xfm, xfc, xmA, xmm, xmc⟩ := x
        simp only at hc0 hc1 hc2 hc3 hc4 hns htw hxl
        generalize hN : nsk F k = ns at *
        have W1 := Lib.hid (hmk.ext ((Below.refl wr.heap.size wr).alloc (Nat.le_refl _) (.cells #[.string ⟨xn.toArray⟩, .string ⟨xs.toArray⟩, .slice xkA xkm xkc, .slice xfA xfm xfc, .slice xmA xmm xmc] 60)))
        have HH := Lib.hid (W1.out.isH (fun c i h => by cases h) hnl hnlong (by omega))
        have HHas := Lib.hid (fun W H => has_any W.heap.size (w.heap.size + 2) ⟨ns, fun _ => none⟩ xn W H)
        have Hhas := Lib.hid (show Hr.has ⟨ns, fun _ => none⟩ xn = ns.contains xn from rfl)
        have Htw := Lib.hid htw
        have Hns := Lib.hid hns
        obtain ⟨A0, cc, hrow, hownN, hA0⟩ := hmk.row
        have cN : wr.cell? ⟨w.heap.size + 1 + 1, 0, none⟩ = some (.slice A0 ns.length cc) := cell_of_row _ _ _ _ _ (0, 0) hrow
        have hszw := hmk.bel.size
        have hgl : w.heap.size + 1 + 1 < wr.heap.size := by have := hmk.lo; have := hmk.hi; omega
        have HownN := Lib.hid hownN
        have hgl2 : w.heap.size + 1 + 1 < wr.heap.size + 1 := by omega
        have cN2 : ((wr.alloc (.cells #[.string ⟨xn.toArray⟩, .string ⟨xs.toArray⟩, .slice xkA xkm xkc, .slice xfA xfm xfc, .slice xmA xmm xmc] 60)).alloc (.cells #[.string ⟨xn.toArray⟩] 9)).cell? ⟨w.heap.size + 1 + 1, 0, none⟩ = some (.slice A0 ns.length cc) := (((Below.refl wr.heap.size wr).alloc (Nat.le_refl _) _).alloc (by simp) _).cell (p := ⟨w.heap.size + 1 + 1, 0, none⟩) hgl |>.trans cN
        have Hrow2 := Lib.hid (fun (W : World) (hb : Below wr.heap.size wr W) => (hb.block (w.heap.size + 2) hgl).trans hrow)
        have Hne := Lib.hid (show some (w.heap.size + 2) ≠ (Value.slice A0 ns.length cc).ownBlock by
          cases A0 with
          | none => simp [Value.ownBlock]
          | some a => have := (hA0 a rfl).1; simp [Value.ownBlock]; omega)
        have Hrow := Lib.hid hrow
        clear hrow hownN hA0
        cases hin : ns.contains xn
        · have Hin := Lib.hid hin
          have Htw2 := Lib.hid (show twice [objN] (full ps) = twice (ns ++ [xn]) ((F.drop (k + 1)).map CE.p2) by rw [Htw.out]; show (if ns.contains xn then _ else _) = _; rw [hin]; rfl)
          clear hmk htw hns hdr hin hN hnlong hxl
          go_wp2_with (go_at_call 15; refine (HHas.out _ HH.out).mono ?_; rw [Hhas.out, Hin.out]; rintro e w' ⟨rfl, rfl⟩)
          go_region_law ((refine step_append_lies _ (by rfl) _ _ _ (by rfl) w.heap.size 9 i0 _ 1 16 Tryd.underlying31 I0.out I1.out I2.out I3.out rfl (by omega) (.slice A0 ns.length cc) ns.length (ns.map sv) (by rfl) (((HownN.out.alloc _).alloc _).drew) ⟨wr.heap.size + 1, 0, none⟩ 1 1 [.string ⟨xn.toArray⟩] (by rfl) (by rfl) (World.news_of_block (cs := #[.string ⟨xn.toArray⟩]) (t := 9) (fr := (0, 0)) (heap_second wr _ _ _)) (by simp [Value.oneCell']) (by omega) (by unfold maxLen; omega) (by omega) (by simp; omega) (wr.heap.size + 1 + 1) (by simp) ?_; intro gg cap5 w5 hown5 hg5 hat5 hlt5; have hb5 := (hg5.block (w.heap.size + 2) (by simp; omega) Hne.out).trans (Hrow2.out _ (((Below.refl wr.heap.size wr).alloc (Nat.le_refl _) _).alloc (by simp) _).drew); have hs5 : w5.cell? ⟨w.heap.size + 1 + 1, 0, none⟩ = some (.slice A0 ns.length cc) := cell_of_row _ _ _ _ _ (0, 0) hb5; have hf5 : w5.frozen? ⟨w.heap.size + 1 + 1, 0, none⟩ = false := frozen_of_row w5 _ 0 _ _ hb5; clear hb5))
          all_goals
            have HM5 : Hid (Mk w (w5.setCell ⟨w.heap.size + 1 + 1, 0, none⟩ (.slice (some ⟨gg, 0, none⟩) (ns.length + 1) cap5)) F lb 0 (ns ++ [xn]) (fun _ => none)) := Lib.hid (by
              have e : (ns ++ [xn]).length = ns.length + 1 := by simp
              have h5 := Mk.app (x := xn) (w1 := w5) (cap := cap5) (gg := gg) (Hmk.out.ext (((Below.refl wr.heap.size wr).alloc (Nat.le_refl _) _).alloc (by simp) _).drew) (Hrow2.out _ (((Below.refl wr.heap.size wr).alloc (Nat.le_refl _) _).alloc (by simp) _).drew) (by unfold OwnT; rw [e, List.map_append]; exact hown5) hg5 (by
                rcases hat5 with h | h
                · exact .inl h
                · exact .inr (by simp; omega))
              rw [e] at h5
              exact h5)
            clear hown5 hg5 hat5 hs5 hf5
            go_wp2_with fail
            go_roundw
            case rel => exact ⟨k + 1, by omega, by go_num, by rw [Hns.out]; exact HM5.out, by rw [Hns.out]; exact Htw2.out⟩
            case measure => simp [intOf]; omega
        · have Hin := Lib.hid hin
          have Hwhy := Lib.hid (why_twice (c := xn) Hp32.out (by rw [Htw.out]; show (if ns.contains xn then _ else _) = _; rw [hin]; rfl))
          clear hmk htw hns hdr hin hN hnlong hxl
          go_wp2_with (go_at_call 15; refine (HHas.out _ HH.out).mono ?_; rw [Hhas.out, Hin.out]; rintro e w' ⟨rfl, rfl⟩)
          go_quiet (fail)
          go_wp2_with fail
          go_ret3
          exact givesH_no Hwhy.out (by decide) (drawn W1.out.bel _)
      · have hk2 : F.length ≤ k := by omega
        have hnsall := nsk_all hk2
        rw [HFp.out] at hnsall
        rw [hnsall] at hmk htw
        have htn : twice [objN] (full ps) = none := by rw [htw, List.drop_of_length_le hk2]; rfl
        have Hnd := Lib.hid (show ((F.map CE.p2).map (·.1)).Nodup by rw [HFp.out]; exact (twice_in _ _ htn).2)
        have Htn := Lib.hid htn
        have hNl : (nms (full ps)).length ≤ 41 := by rw [← hnsall]; unfold nsk; simp; omega
        have HNlong := Lib.hid (show ∀ c ∈ nms (full ps), c.length ≤ 140737488355000 by
          intro c hc
          rw [← hnsall] at hc
          unfold nsk at hc
          rcases List.mem_cons.1 hc with rfl | hc
          · decide
          · obtain ⟨x, hx, rfl⟩ := List.mem_map.1 hc
            exact HFlong.out x (List.mem_of_mem_take hx))
        have HM2 := Lib.hid hmk
        have Hmk0 := Lib.hid hmk.bel
        clear hmk htw htn hnsall Hmk
        go_wp2_with fail
        go_loopw [49] (fun i wr => ∃ j : Nat, j ≤ F.length ∧ i = .int .i64 j ∧ Mk w wr F lb j (nms (full ps)) (fk F (nms (full ps)) j) ∧ noSup (nms (full ps)) (full ps) = noSup (nms (full ps)) ((F.drop j).map CE.p2)) (fun i _ => F.length - (intOf i).toNat)
        case atStart => exact ⟨0, by omega, rfl, HM2.out, by rw [List.drop_zero, HFp.out]⟩
        case round =>
          obtain ⟨j, hj, rfl, hmk, hsu⟩ := hrel
          have Hmk := Lib.hid hmk
          by_cases hlt : j < F.length
          · have hdr := drop_p2 hlt
            rw [hdr] at hsu
            obtain ⟨b, o, hbo, hb, hc0, hc1, hc2, hc3, hc4⟩ := ce_at hmk.lst hlt
            injection hbo with hbo
            injection hbo with e1 e2
            subst e1; subst e2
            rw [Nat.zero_add] at hc0 hc1 hc2 hc3 hc4
            have hk1 : (j : Int) < (F.length : Int) := by omega
            have hk0 : (0 : Int) ≤ (j : Int) := by omega
            have Hxl := Lib.hid (HFlong.out _ (List.getElem_mem hlt))
            have Hfs := Lib.hid (fk_succ (NS := nms (full ps)) hlt Hnd.out)
            generalize F[j] = x at *
            obtain ⟨xn, xs, xkA, xkm, xkc, xfA, xfm, xfc, xmA, xmm, xmc⟩ := x
            simp only at hc0 hc1 hc2 hc3 hc4 hsu Hxl Hfs
            generalize hNS : nms (full ps) = NS at *
            generalize hfj : fk F NS j = fj at *
            obtain ⟨A0, cc, hrow, hownN, hA0⟩ := hmk.row
            have cN : wr.cell? ⟨w.heap.size + 1 + 1, 0, none⟩ = some (.slice A0 NS.length cc) := cell_of_row _ _ _ _ _ (0, 0) hrow
            have cM : wr.cell? ⟨w.heap.size + 1 + 1, 1, none⟩ = some (.map (some (w.heap.size + 1))) := cell_of_row _ _ _ _ _ (0, 0) hrow
            have hszw := hmk.bel.size
            have hgl : w.heap.size + 1 + 1 < wr.heap.size := by have := hmk.lo; have := hmk.hi; omega
            have hgl2 : w.heap.size + 1 + 1 < wr.heap.size + 1 := by omega
            have W1 := Lib.hid (hmk.ext ((Below.refl wr.heap.size wr).alloc (Nat.le_refl _) (.cells #[.string ⟨xn.toArray⟩, .string ⟨xs.toArray⟩, .slice xkA xkm xkc, .slice xfA xfm xfc, .slice xmA xmm xmc] 60)))
            obtain ⟨A1, c1, e1, k1, k2, hrd, hA1⟩ := hownN.slice
            cases e1
            have HIdx := Lib.hid (fun (n : Nat) => (index_l A0 NS.length cc NS xs (((wr.alloc (.cells #[.string ⟨xn.toArray⟩, .string ⟨xs.toArray⟩, .slice xkA xkm xkc, .slice xfA xfm xfc, .slice xmA xmm xmc] 60))).drewN n) rfl (by omega) ((hrd.below ((Below.refl wr.heap.size wr).alloc (Nat.le_refl _) _)).drewN n)).mono (R' := fun e w' => e = .returned (.int .i64 (if xs ∈ NS then ((NS.idxOf xs : Nat) : Int) else -1)) ∧ w' = _) fun e w' ⟨h1, h2⟩ => ⟨h1, h2.symm⟩)
            have Hsu := Lib.hid hsu
            by_cases hin : xs ∈ NS
            · have hil : NS.idxOf xs < NS.length := List.idxOf_lt_length_iff.2 hin
              rw [if_pos hin] at HIdx
              have Hsu2 := Lib.hid (show noSup NS (full ps) = noSup NS ((F.drop (j + 1)).map CE.p2) by rw [Hsu.out]; show (if NS.contains xs then _ else _) = _; rw [if_pos (by simpa using hin)])
              generalize NS.idxOf xs = ix at *
              have hix0 : (0 : Int) ≤ (ix : Int) := by omega
              have hix1 : ¬ (ix : Int) < 0 := by omega
              clear hmk hsu hdr hin hrow hownN hA0 hrd hA1 k1 k2 hNS hfj
              go_wp2_with fail
              go_quiet ((go_at_call 39; exact Calls.quiet_of_same (HIdx.out _)))
              go_wp2_with fail
              have dX : ((wr.alloc (.cells #[.string ⟨xn.toArray⟩, .string ⟨xs.toArray⟩, .slice xkA xkm xkc, .slice xfA xfm xfc, .slice xmA xmm xmc] 60)).drewN nq).cell? ⟨wr.heap.size, 0, none⟩ = some (.string ⟨xn.toArray⟩) := by go_simp
              generalize hW2 : ((wr.alloc (.cells #[.string ⟨xn.toArray⟩, .string ⟨xs.toArray⟩, .slice xkA xkm xkc, .slice xfA xfm xfc, .slice xmA xmm xmc] 60)).drewN nq) = W2 at *
              have hbW : Below wr.heap.size wr W2 := by rw [← hW2]; exact drawn ((Below.refl wr.heap.size wr).alloc (Nat.le_refl _) _) _
              have dM : W2.cell? ⟨w.heap.size + 1 + 1, 1, none⟩ = some (.map (some (w.heap.size + 1))) := (hbW.cell (p := ⟨w.heap.size + 1 + 1, 1, none⟩) hgl).trans cM
              have MkW := Hmk.out.ext hbW
              obtain ⟨w6, hrun, hg6, hm6⟩ := map_put (w := W2.drew) (MkW.map.block rfl) (by omega) xn ix (by have := Hxl.out; omega) (by omega)
              have HM6 := Lib.hid (Mk.upd (MkW.ext (Below.refl W2.heap.size W2).drew) hg6 hm6)
              clear cN cM hbW MkW hg6 hm6 hW2 hc0 hc1 hc2 hc3 hc4
              go_region
              go_wp2_with fail
              go_roundw
              case rel => exact ⟨j + 1, by omega, by go_num, by rw [Hfs.out]; exact HM6.out, Hsu2.out⟩
              case measure => simp [intOf]; omega
            · rw [if_neg hin] at HIdx
              have Hwhy := Lib.hid (why_sup (c := xn) Hp32.out Htn.out (by rw [hNS, Hsu.out]; show (if NS.contains xs then _ else _) = _; rw [if_neg (by simpa using hin)]; rfl))
              clear hmk hsu hdr hin hrow hownN hA0 hrd hA1 k1 k2 hNS hfj
              go_wp2_with fail
              go_quiet ((go_at_call 39; exact Calls.quiet_of_same (HIdx.out _)))
              go_wp2_with fail
              go_quiet (fail)
              go_wp2_with fail
              go_ret3
              exact givesH_no Hwhy.out (by decide) (drawn (drawn W1.out.bel _) _)
          · have hj2 : F.length ≤ j := by omega
            have hfa := fk_all hj2
            rw [HFp.out] at hfa
            rw [hfa] at hmk
            have hsn : noSup (nms (full ps)) (full ps) = none := by rw [hsu, List.drop_of_length_le hj2]; rfl
            have Hsn := Lib.hid hsn
            have Hinn := Lib.hid (show ∀ c i, abv (full ps) c = some i → i < (nms (full ps)).length by
              intro c i h
              unfold abv at h
              cases hf : (full ps).find? (fun p => p.1 == c) with
              | none => rw [hf] at h; cases h
              | some p =>
                rw [hf] at h
                simp only [Option.map_some, Option.some.injEq] at h
                subst h
                exact List.idxOf_lt_length_iff.2 (noSup_in _ _ hsn p (List.mem_of_find?_eq_some hf)))
            have HM3 := Lib.hid hmk
            clear hmk hsu hsn hfa Hmk
            go_wp2_with fail
            go_loopw [74] (fun i wr => ∃ q : Nat, q ≤ F.length ∧ i = .int .i64 q ∧ Mk w wr F lb j (nms (full ps)) (abv (full ps)) ∧ inLoop (mk ps) (full ps) = inLoop (mk ps) ((F.drop q).map CE.p2)) (fun i _ => F.length - (intOf i).toNat)
            case atStart => exact ⟨0, by omega, rfl, HM3.out, by rw [List.drop_zero, HFp.out]⟩
            case round =>
              obtain ⟨q, hq, rfl, hmk, hlo⟩ := hrel
              have Hmk := Lib.hid hmk
              by_cases hlt : q < F.length
              · have hdr := drop_p2 hlt
                rw [hdr] at hlo
                obtain ⟨b, o, hbo, hb, hc0, hc1, hc2, hc3, hc4⟩ := ce_at hmk.lst hlt
                injection hbo with hbo
                injection hbo with e1 e2
                subst e1; subst e2
                rw [Nat.zero_add] at hc0 hc1 hc2 hc3 hc4
                have hk1 : (q : Int) < (F.length : Int) := by omega
                have hk0 : (0 : Int) ≤ (q : Int) := by omega
                have Hxl := Lib.hid (HFlong.out _ (List.getElem_mem hlt))
                generalize F[q] = x at *
                obtain ⟨xn, xs, xkA, xkm, xkc, xfA, xfm, xfc, xmA, xmm, xmc⟩ := x
                simp only at hc0 hc1 hc2 hc3 hc4 hlo Hxl
                have W1 := Lib.hid (hmk.ext ((Below.refl wr.heap.size wr).alloc (Nat.le_refl _) (.cells #[.string ⟨xn.toArray⟩, .string ⟨xs.toArray⟩, .slice xkA xkm xkc, .slice xfA xfm xfc, .slice xmA xmm xmc] 60)))
                have HL := Lib.hid (loops_any _ _ (mk ps) xn _ (W1.out.isH Hinn.out hNl HNlong.out (by omega)) (by have := Hxl.out; omega))
                have Hlo := Lib.hid hlo
                cases hL : loopF (mk ps).up (mk ps).names.length ((mk ps).up xn) xn
                · rw [hL] at HL
                  have Hlo2 := Lib.hid (show inLoop (mk ps) (full ps) = inLoop (mk ps) ((F.drop (q + 1)).map CE.p2) by rw [Hlo.out]; show (if loopF (mk ps).up (mk ps).names.length ((mk ps).up xn) xn = true then _ else _) = _; rw [hL]; rfl)
                  clear hmk hlo hdr hL
                  go_wp2_with (go_at_call 40; refine HL.out.mono ?_; rintro e w' ⟨rfl, rfl⟩)
                  go_roundw
                  case rel => exact ⟨q + 1, by omega, by go_num, W1.out, Hlo2.out⟩
                  case measure => simp [intOf]; omega
                · rw [hL] at HL
                  have Hwhy := Lib.hid (why_loop (c := xn) Hp32.out Htn.out Hsn.out (by rw [Hlo.out]; show (if loopF (mk ps).up (mk ps).names.length ((mk ps).up xn) xn = true then _ else _) = _; rw [hL]; rfl))
                  clear hmk hlo hdr hL
                  go_wp2_with (go_at_call 40; refine HL.out.mono ?_; rintro e w' ⟨rfl, rfl⟩)
                  go_quiet (fail)
                  go_wp2_with fail
                  go_ret3
                  exact givesH_no Hwhy.out (by decide) (drawn W1.out.bel _)
              · have hln : inLoop (mk ps) (full ps) = none := by rw [hlo, List.drop_of_length_le (by omega)]; rfl
                have Hwhy := Lib.hid (why_ok Hp32.out Htn.out Hsn.out hln)
                have HIs := Lib.hid (hmk.isH Hinn.out hNl HNlong.out (by omega))
                clear hmk hlo hln
                go_wp2_with fail
                go_ret3
                exact givesH_yes Hwhy.out Hmk.out.bel HIs.out
end HierW
end Go.Proofs.YtilakpbgpdbchaaDoor
