/-
  The document's tables: New.
-/
import Derived.Test.YtdebambmcjcopaaGreatDoorTabJ
namespace Go.Proofs.YtdebambmcjcopaaGreatDoor
namespace TabL
open Go.RowKit Base BinM Stru DescM DescW DescX DescR DescS DescG DescP DescQ HierS HierT HierM HierC HierD HierN HierV HierR HierU HierQ HierY Kls KlsP KlsQ OpenK TabC TabM TabK TabP TabE TabB TabG TabH TabT TabU TabV TabX TabW TabF TabN TabO TabY TabI TabR TabQ TabD TabJ

theorem alw_up : ∀ p ∈ alw, p.2 = objN ∨ ∃ q ∈ alw, q.1 = p.2 := by decide
theorem none_above {L : List ClsT} (hT : (whyT (pairs L)).2 = 0) {c s : T} (hf : L.find? (named c) = none) (hu : (mk (pairs L)).up c = some s) : L.find? (named s) = none := by
  cases hk : L.find? (named s) with
  | none => rfl
  | some k =>
    obtain ⟨hkm, hkn⟩ := named_of hk
    obtain ⟨h1, h2⟩ := alw_not hT hkm
    exfalso
    have hu' : ((abv (full (pairs L)) c).bind fun i => (nms (full (pairs L)))[i]?) = some s := hu
    unfold abv at hu'
    cases hfa : (full (pairs L)).find? (fun p => p.1 == c) with
    | none => rw [hfa] at hu'; cases hu'
    | some p =>
      rw [hfa] at hu'
      have hpm := List.mem_of_find?_eq_some hfa
      have hpc := List.find?_some hfa
      obtain ⟨_, _, h3⟩ := why_parts hT
      have hin := noSup_in _ _ h3 p hpm
      have hu2 : (nms (full (pairs L)))[(nms (full (pairs L))).idxOf p.2]? = some s := hu'
      rw [idx_get hin] at hu2
      injection hu2 with hu2
      have hpa : p ∈ alw := by
        unfold full at hpm
        rcases List.mem_append.1 hpm with hp | hp
        · exact hp
        · exfalso
          obtain ⟨x, hx, rfl⟩ := List.mem_map.1 hp
          rw [List.find?_eq_none] at hf
          exact hf x hx (by unfold named; exact hpc)
      rcases alw_up p hpa with e | ⟨q, hq, e⟩
      · exact h2 (by rw [hkn, ← hu2, e])
      · exact h1 q hq (by rw [e, hu2, hkn])
theorem alw_short : ∀ p ∈ alw, p.1.length ≤ 140737488351232 := by decide
theorem ups_of {L : List ClsT} (hT : (whyT (pairs L)).2 = 0) (hC : ∀ x ∈ L, clsE x = 0) : Ups (pairs L) L := by
  refine ⟨fun c k hf => up_kept hT hf, fun k hk => cls_few (hC k hk), ?_, fun c hc => ?_, fun c d hf hu => none_above hT hf hu, fun c hc => ?_⟩
  · have := (why_parts hT).1
    unfold pairs at this
    simpa using this
  · cases hk : L.find? (named c) with
    | none => exact absurd hk hc
    | some k =>
      obtain ⟨h1, h2⟩ := named_of hk
      obtain ⟨l, h3, h4⟩ := TabV.ways hT h1
      exact ⟨l, h2 ▸ h3, h4⟩
  · cases hk : L.find? (named c) with
    | none => exact absurd hk hc
    | some k =>
      obtain ⟨h1, h2⟩ := named_of hk
      exact h2 ▸ names_of h1
theorem can_of {L : List ClsT} (hT : (whyT (pairs L)).2 = 0) (hl : ∀ k ∈ L, k.name.length ≤ 140737488351232) : HierQ.Can (pairs L) := by
  obtain ⟨h1, h2, h3⟩ := why_parts hT
  refine ⟨(why_good hT).1, h2, h3, h1, fun c hc => ?_⟩
  have hm : c ∈ nms (full (pairs L)) := hc
  unfold nms full at hm
  rcases List.mem_cons.1 hm with rfl | hm
  · decide
  · obtain ⟨p, hp, rfl⟩ := List.mem_map.1 hm
    rcases List.mem_append.1 hp with hp | hp
    · have := alw_short p hp; omega
    · obtain ⟨k, hk, rfl⟩ := List.mem_map.1 hp
      have := hl k hk
      show k.name.length ≤ _
      omega
/-- what the document's New hands back -/
def GivesRN (L : List ClsT) (w : World) (e : Ending) (w' : World) : Prop :=
  Below w.heap.size w w' ∧ (((whyC L).2 = 0 ∧ ∃ (lo r g : Nat) (A : Option Addr) (c : Nat), e = .returned (.tuple #[.pointer (some ⟨r, 0, none⟩), .string ⟨#[]⟩, .int .i64 0]) ∧ RT lo w' r g A c (pairs L) L) ∨
    ((whyC L).2 ≠ 0 ∧ e = .returned (.tuple #[.pointer none, .string ⟨(whyC L).1.toArray⟩, .int .i64 (whyC L).2])))
theorem givesRN_no {L : List ClsT} {w w' : World} {c : T} {n : Int} (h : whyC L = (c, n)) (hn : n ≠ 0) (hb : Below w.heap.size w w') : GivesRN L w (.returned (.tuple #[.pointer none, .string ⟨c.toArray⟩, .int .i64 n])) w' :=
  ⟨hb, .inr ⟨by rw [h]; exact hn, by rw [h]⟩⟩

set_option maxRecDepth 100000 in
set_option maxHeartbeats 16000000 in
theorem newR_any (A : Option Addr) (l : List ClsT) (m c : Nat) (w : World) (hm : m = l.length) (hr : Rds w A (l.flatMap valsC)) (his : ∀ x ∈ l, x.is w ∧ ClsT.lt x) :
    Calls Tryz.prog 28 #[.slice A m c] w (GivesRN l w) := by
  have HN := HierY.newR_any A (l.map ceOf) m c w (by simpa using hm) (by rw [rows_ce]; exact hr) (by
    intro x hx
    obtain ⟨y, hy, rfl⟩ := List.mem_map.1 hx
    have := (his y hy).2.name
    show y.name.length ≤ _
    omega)
  rw [pairs_ce] at HN
  have HN0 := Lib.hid HN
  have Hr := Lib.hid hr
  have His := Lib.hid his
  clear HN hr his
  subst hm
  go_enter Tryz.func28, Tryz.ntmps28
  go_wp2_with fail
  refine HN0.out.mono ?_
  rintro e w1 ⟨hb1, hor⟩
  have B1 := Lib.hid hb1
  clear hb1
  rcases hor with ⟨hz, g, rfl, hH⟩ | ⟨hne, rfl⟩
  · have HZ := Lib.hid hz
    have HH := Lib.hid hH
    have hl32 : l.length ≤ 32 := by have := (why_parts hz).1; unfold pairs at this; simpa using this
    clear hz hH
    go_wp2_with fail
    have Z1 := Lib.hid (Below.refl w1.heap.size w1)
    go_loopw [8] (fun i wr => ∃ j : Nat, j ≤ l.length ∧ i = .int .i64 j ∧ Below w1.heap.size w1 wr ∧ ∀ x ∈ l.take j, clsE x = 0) (fun i _ => l.length - (intOf i).toNat)
    case atStart => exact ⟨0, Nat.zero_le _, rfl, Z1.out, by simp⟩
    case round =>
      obtain ⟨j, hj, rfl, hbel, hz0⟩ := hrel
      have HZ0 := Lib.hid hz0
      have Hbel := Lib.hid hbel
      have hbw := B1.out.trans (hbel.mono B1.out.size)
      have Hbw := Lib.hid hbw
      clear hz0
      by_cases hlt : j < l.length
      · obtain ⟨b1, o1, hA, hb1, hc0, hc1, hc2, hc3, hc4⟩ := cls_at (Hr.out.below hbw) hlt
        subst hA
        have hj1 : (j : Int) < (l.length : Int) := by omega
        have hj0 : (0 : Int) ≤ (j : Int) := by omega
        have Hwhy := Lib.hid (fun hne => why_cls (L := l) HZ.out hlt HZ0.out hne)
        have Hnext := Lib.hid (fun h0 => zero_next (e := clsE) hlt HZ0.out h0)
        have HRt := Lib.hid (KlsX.refRight_any l[j] wr ((His.out _ (List.getElem_mem hlt)).1.below hbw) (His.out _ (List.getElem_mem hlt)).2)
        clear hbw hbel
        generalize hE : clsE l[j] = E at *
        clear hE
        generalize l[j] = x at *
        simp only [ClsT.V] at HRt
        go_wp2_with fail
        refine HRt.out.mono ?_
        rintro e w5 ⟨rfl, hb5⟩
        have B5 := Lib.hid (Hbw.out.trans (hb5.mono Hbw.out.size))
        have Z5 := Lib.hid (Hbel.out.trans (hb5.mono Hbel.out.size))
        have n0 := (hb5.cell (p := ⟨b1, o1 + j * 5, none⟩) hb1).trans hc0
        clear hb5 hc0 hc1 hc2 hc3 hc4
        by_cases h0 : E = 0
        · subst h0
          go_wp2_with fail
          go_roundw
          case rel => exact ⟨j + 1, by omega, by go_num, Z5.out, Hnext.out trivial⟩
          case measure => simp [intOf]; omega
        · have Hne := Lib.hid h0
          have HW := Lib.hid (by have := Hwhy.out h0; exact this)
          go_wp2_with fail
          go_quiet (fail)
          go_wp2_with fail
          go_ret3
          exact givesRN_no HW.out Hne.out (Stru.drawn B5.out _)
      · have htk : l.take j = l := List.take_of_length_le (by omega)
        rw [htk] at HZ0
        have HU := Lib.hid (ups_of HZ.out HZ0.out)
        have HCan := Lib.hid (can_of HZ.out (fun k hk => (His.out k hk).2.name))
        have hR1 := Hr.out.below hbw
        have hR2 := hR1.below ((Below.refl wr.heap.size wr).alloc (Nat.le_refl _) (.cells #[.pointer (some ⟨g, 0, none⟩), .slice none 0 0] 106))
        have HR2 := Lib.hid (show Rds (wr.alloc (.cells #[.pointer (some ⟨g, 0, none⟩), .slice none 0 0] 106)) A ((l.map ceOf).flatMap CE.vals) from by rw [rows_ce]; exact hR2)
        have TB := Lib.hid (Bx.new wr #[.pointer (some ⟨g, 0, none⟩), .slice none 0 0] 106)
        have B2 := Lib.hid (Hbel.out.alloc Hbel.out.size (.cells #[.pointer (some ⟨g, 0, none⟩), .slice none 0 0] 106))
        have hs1 := hbel.size
        clear htk hbel hbw hR1 hR2
        go_wp2_with (at_builtin
                     refine HierN.appC rfl (.tmp 49) (.tmp 50) rfl (wr.heap.size + 1) (.slice none 0 0) [] rfl (OwnC.nil _ _) A l.length c (l.map ceOf) rfl (by simp) HR2.out (by simp; omega) (by simp) ?_
                     intro v4 w4 ho4 hg4
                     rw [List.nil_append] at ho4
                     obtain ⟨A4, c4, rfl, _, _, _, _⟩ := ho4.slice
                     rw [List.length_map]
                     have TB4 := Lib.hid ((hg4.block wr.heap.size TB.out.lt (by simp [Value.ownBlock])).trans TB.out)
                     have B4 := Lib.hid (below_own B2.out (OwnC.nil _ (wr.heap.size + 1)) (by omega) B2.out.size hg4)
                     have HO4 := Lib.hid ho4
                     have HO4b := Lib.hid (own_slice ho4)
                     have t1 := (show Bx w4 wr.heap.size #[.pointer (some ⟨g, 0, none⟩), .slice none 0 0] 106 from TB4.out).cell 1
                     have tf := (show Bx w4 wr.heap.size #[.pointer (some ⟨g, 0, none⟩), .slice none 0 0] 106 from TB4.out).free 1
                     clear ho4 hg4)
        have Hrt := Lib.hid (show RT w1.heap.size (w4.setCell ⟨wr.heap.size, 1, none⟩ (.slice A4 l.length c4)) wr.heap.size g A4 c4 (pairs l) l from by
          have hB : Below w1.heap.size w1 (w4.setCell ⟨wr.heap.size, 1, none⟩ (.slice A4 l.length c4)) := B4.out.setCell (p := ⟨wr.heap.size, 1, none⟩) hs1 _
          have hset := TabM.own_set HO4.out (Nat.lt_succ_self wr.heap.size) 1 (.slice A4 l.length c4)
          have hset2 := Rds.ownN hset
          rw [rows_ce] at hset2
          refine ⟨?_, HH.out.below hB, hB.size, hset2, fun x hx => (His.out x hx).1.below (B1.out.trans (hB.mono B1.out.size))⟩
          exact (show Bx w4 wr.heap.size #[.pointer (some ⟨g, 0, none⟩), .slice none 0 0] 106 from TB4.out).set 1 (.slice A4 l.length c4))
        have HBW := Lib.hid (show Below w.heap.size w (w4.setCell ⟨wr.heap.size, 1, none⟩ (.slice A4 l.length c4)) from
          B1.out.trans ((B4.out.setCell (p := ⟨wr.heap.size, 1, none⟩) hs1 (.slice A4 l.length c4)).mono B1.out.size))
        clear t1 tf TB4 B4 HO4 HO4b TB B2 HR2 hs1
        generalize hW : w4.setCell ⟨wr.heap.size, 1, none⟩ (.slice A4 l.length c4) = W at *
        clear hW
        have Z2 := Lib.hid (Below.refl W.heap.size W)
        go_loopw [11] (fun i wq => ∃ j : Nat, j ≤ l.length ∧ i = .int .i64 j ∧ Below W.heap.size W wq ∧ ∀ x ∈ l.take j, fitE (mk (pairs l)) l x = 0) (fun i _ => l.length - (intOf i).toNat)
        case atStart => exact ⟨0, Nat.zero_le _, rfl, Z2.out, by simp⟩
        case round =>
          obtain ⟨k, hk, rfl, hbel, hz0⟩ := hrel
          have HF0 := Lib.hid hz0
          have Hbe := Lib.hid hbel
          have hbw := HBW.out.trans (hbel.mono HBW.out.size)
          have Hbq := Lib.hid hbw
          clear hz0
          by_cases hlt : k < l.length
          · obtain ⟨b1, o1, hA, hb1, hc0, hc1, hc2, hc3, hc4⟩ := cls_at (Hr.out.below hbw) hlt
            subst hA
            have hk1 : (k : Int) < (l.length : Int) := by omega
            have hk0 : (0 : Int) ≤ (k : Int) := by omega
            have Hwhy := Lib.hid (fun hne => why_fit (L := l) HZ.out HZ0.out hlt HF0.out hne)
            have Hnext := Lib.hid (fun h0 => zero_next (e := fitE (mk (pairs l)) l) hlt HF0.out h0)
            have HRt := Lib.hid (rightR_any (Hrt.out.ext hbel) HU.out HCan.out l[k] ((His.out _ (List.getElem_mem hlt)).1.below hbw) (His.out _ (List.getElem_mem hlt)).2)
            clear hbw hbel
            generalize hE : fitE (mk (pairs l)) l l[k] = E at *
            clear hE
            generalize l[k] = x at *
            simp only [ClsT.V] at HRt
            go_wp2_with fail
            refine HRt.out.mono ?_
            rintro e w5 ⟨rfl, hb5⟩
            have B5 := Lib.hid (Hbq.out.trans (hb5.mono Hbq.out.size))
            have Z5 := Lib.hid (Hbe.out.trans (hb5.mono Hbe.out.size))
            have n0 := (hb5.cell (p := ⟨b1, o1 + k * 5, none⟩) hb1).trans hc0
            clear hb5 hc0 hc1 hc2 hc3 hc4
            by_cases h0 : E = 0
            · subst h0
              go_wp2_with fail
              go_roundw
              case rel => exact ⟨k + 1, by omega, by go_num, Z5.out, Hnext.out trivial⟩
              case measure => simp [intOf]; omega
            · have Hne := Lib.hid h0
              have HW := Lib.hid (by have := Hwhy.out h0; exact this)
              go_wp2_with fail
              go_quiet (fail)
              go_wp2_with fail
              go_ret3
              exact givesRN_no HW.out Hne.out (Stru.drawn B5.out _)
          · have htk : l.take k = l := List.take_of_length_le (by omega)
            rw [htk] at HF0
            have HY := Lib.hid (why_yes HZ.out HZ0.out HF0.out)
            have HE := Lib.hid (Hrt.out.ext hbel)
            clear htk hbel hbw
            go_wp2_with fail
            go_ret3
            exact ⟨Hbq.out, .inl ⟨by rw [HY.out], w1.heap.size, _, g, A4, c4, rfl, HE.out⟩⟩
  · have Hne := Lib.hid hne
    have HW := Lib.hid (why_hier hne)
    generalize whyT (pairs l) = WW at *
    obtain ⟨nm, en⟩ := WW
    simp only at hne
    go_wp2_with fail
    go_ret3
    exact givesRN_no HW.out Hne.out B1.out
end TabL
end Go.Proofs.YtdebambmcjcopaaGreatDoor
