/-
  delta.Merge: a table's classes with others in their places.
-/
import Derived.Test.YtiagjnimafdbhaaGreatDoorG44
namespace Go.Proofs.YtiagjnimafdbhaaGreatDoor
namespace DlM
open Go.RowKit Base BinM Stru DescM DescW DescX HierS HierT HierM HierC HierD HierN Kls KlsP KlsQ OpenK TabC TabM TabK TabP TabE TabB TabG TabH TabT TabU TabV TabW TabN TabO TabY TabI TabCs TabCl DlP DlN
open TabZ (bx_al bx_at rds_bx few_of)

theorem n0_shape {w0 wr : World} {A : Option Addr} {cap : Nat} {cs L : List ClsT} (h : N0 w0 wr A cap cs L) (hk : 0 < cs.length) : ∃ b, A = some ⟨b, 0, none⟩ := by
  obtain ⟨h1, h2⟩ := h.own
  rcases h2 with ⟨e, he⟩ | ⟨g, cap, cur, e, _⟩
  · obtain ⟨x, r, rfl⟩ := List.exists_cons_of_length_pos hk
    first
      | (cases e; simp [valsC] at he)
      | (simp at he)
      | (cases he)
  · cases e; exact ⟨_, rfl⟩
set_option maxRecDepth 100000 in
set_option maxHeartbeats 16000000 in
theorem merge_any {lo : Nat} {w : World} {t g mb n : Nat} {A : Option Addr} {c : Nat} {h : Hr} {L : List ClsT} {f : T → Option HavT} (H : Ta lo w t g mb n A c h L f) (hml : L.length ≤ 1000) (hsh : Short L) (hnd : (L.map ClsT.name).Nodup)
    (A2 : Option Addr) (c2 : Nat) (X : List ClsT) (hX : X.length ≤ 1000) (hr : Rds w A2 (X.flatMap valsC)) (his : ∀ x ∈ X, x.is w ∧ ClsT.lt x) (hsX : Short X) (hlL : ∀ x ∈ L, x.name.length ≤ 140737488351232) :
    Calls Tryz.prog 9 #[.pointer (some ⟨t, 0, none⟩), .agg #[.slice A2 X.length c2, .slice none 0 0]] w (GivesM L X w) := by
  have HT := Lib.hid H
  have HS := Lib.hid hsh
  have HSX := Lib.hid hsX
  have HX := Lib.hid (And.intro hr his)
  have HND := Lib.hid hnd
  have HlL := Lib.hid hlL
  have hb3 := Lib.hid ((Below.refl w.heap.size w).alloc (Nat.le_refl _) (.cells #[.slice A2 X.length c2, .slice none 0 0] 36))
  have X3 := Lib.hid (Bx.new w #[.slice A2 X.length c2, .slice none 0 0] 36)
  have htl := H.box.lt
  have hXn : ∀ x ∈ X, x.name.length ≤ 140737488351232 := fun x hx => by have := (his x hx).2.name; omega
  have HXn := Lib.hid hXn
  clear H hsh hsX hr his hnd hlL hXn
  go_enter Tryz.func9, Tryz.ntmps9
  have e0 := X3.out.cell 0
  go_wp2_with fail
  clear e0 htl
  obtain ⟨w1, hw1⟩ : ∃ w1, w1 = w.alloc (.cells #[.slice A2 X.length c2, .slice none 0 0] 36) := ⟨_, rfl⟩
  rw [← hw1] at hb3 X3 ⊢
  clear hw1
  have Z1 := Lib.hid (Below.refl w1.heap.size w1)
  go_loopw [26] (fun i wr => ∃ j : Nat, j ≤ X.length ∧ i = .int .i64 j ∧ (∀ x ∈ X.take j, badS L x = false) ∧ Below w1.heap.size w1 wr) (fun i _ => X.length - (intOf i).toNat)
  case atStart => exact ⟨0, Nat.zero_le _, rfl, by simp, Z1.out⟩
  case round =>
    obtain ⟨j, hj, rfl, hno, hbel⟩ := hrel
    have Hno := Lib.hid hno
    have Hbel := Lib.hid hbel
    have hbw := hb3.out.trans (hbel.mono hb3.out.size)
    have Hbw := Lib.hid hbw
    clear hno
    by_cases hlt : j < X.length
    · obtain ⟨b, o, hA, hb1, hc0, hc1, hc2, hc3, hc4⟩ := cls_at (HX.out.1.below hbw) hlt
      subst hA
      have hj1 : (j : Int) < (X.length : Int) := by omega
      have hj0 : (0 : Int) ≤ (j : Int) := by omega
      have Hnext := Lib.hid (fun he => find_next (badS L) hlt Hno.out he)
      have Hat := Lib.hid (fun he => find_at (badS L) hlt Hno.out he)
      generalize X[j] = x at *
      have hbw2 : Below w.heap.size w (wr.alloc (.cells #[.string ⟨x.name.toArray⟩, .string ⟨x.sup.toArray⟩, .slice x.kA x.km x.kc, .slice x.fA x.fm x.fc, .slice x.mA x.mm x.mc] 43)) := hbw.alloc hbw.size _
      have HCl := Lib.hid (class_any (HT.out.ext hbw2) (by omega) HS.out x.name)
      have XB := Lib.hid (Bx.new wr #[.string ⟨x.name.toArray⟩, .string ⟨x.sup.toArray⟩, .slice x.kA x.km x.kc, .slice x.fA x.fm x.fc, .slice x.mA x.mm x.mc] 43)
      clear hbel hbw hbw2
      go_wp2_with fail
      refine HCl.out.mono ?_
      rintro e w5 ⟨y, rfl, hy, hyk, hb5⟩
      simp only [clsV]
      have XB5 := XB.out.after hb5
      have q0 := XB5.cell 0
      have q1 := XB5.cell 1
      have hl5 := XB5.lt
      clear XB5
      have YB5 := Lib.hid (Bx.new w5 #[.string ⟨y.name.toArray⟩, .string ⟨y.sup.toArray⟩, .slice y.kA y.km y.kc, .slice y.fA y.fm y.fc, .slice y.mA y.mm y.mc] 43)
      have hb15 : Below w1.heap.size w1 w5 := Hbel.out.trans (((Below.refl _ _).alloc (Nat.le_refl _) _ |>.trans (hb5.mono (by simp))).mono Hbel.out.size)
      have B15 := Lib.hid hb15
      have HSup := Lib.hid (show y.sup = (keptC x.name L).sup by have e := congrArg ClsT.sup hyk; exact e)
      clear hb5 hb15 hy hyk
      cases hf : L.find? (named x.name) with
      | none =>
        have Hq := Lib.hid (Hnext.out (show badS L x = false by unfold badS; rw [hf]))
        go_wp2_with fail
        go_roundw
        case rel => exact ⟨j + 1, by omega, by go_num, Hq.out, B15.out.alloc B15.out.size _⟩
        case measure => simp [intOf]; omega
      | some k =>
        have hks : keptC x.name L = k := by unfold keptC; rw [hf]; rfl
        rw [hks] at HSup
        have d1 := YB5.out.cell 1
        cases hq : (y.sup == x.sup)
        · have Hq := Lib.hid (Hat.out (show badS L x = true by unfold badS; rw [hf]; show (!(k.sup == x.sup)) = true; rw [← HSup.out, hq]; rfl))
          go_wp2_with fail
          go_quiet (fail)
          go_wp2_with fail
          go_ret3
          exact ⟨hb3.out.trans ((drawn (B15.out.alloc B15.out.size _) _).mono hb3.out.size), .inl ⟨x, Hq.out, rfl⟩⟩
        · have Hq := Lib.hid (Hnext.out (show badS L x = false by unfold badS; rw [hf]; show (!(k.sup == x.sup)) = false; rw [← HSup.out, hq]; rfl))
          go_wp2_with fail
          go_roundw
          case rel => exact ⟨j + 1, by omega, by go_num, Hq.out, B15.out.alloc B15.out.size _⟩
          case measure => simp [intOf]; omega
    · obtain ⟨wA, hwA⟩ : ∃ x, x = wr := ⟨_, rfl⟩
      subst hwA
      have Hnone := Lib.hid (find_not (badS L) (X := X) (by have := Hno.out; rwa [List.take_of_length_le (by omega)] at this))
      have HCs := Lib.hid (classes_own (HT.out.ext hbw) (by omega) HS.out)
      clear hbel hbw
      go_wp2_with fail
      refine HCs.out.mono ?_
      rintro e w6 ⟨A6, c6, C6, rfl, hN6⟩
      have N6 := Lib.hid hN6
      have B16 := Lib.hid (Hbel.out.trans (hN6.bel.mono Hbel.out.size))
      have hb6 := Hbw.out.trans (hN6.bel.mono Hbw.out.size)
      have HNm := Lib.hid (named_any A2 c2 X (by omega) HXn.out w6 (HX.out.1.below hb6))
      have e0 := (X3.out.after B16.out).cell 0
      clear hN6 hb6
      go_wp2_with fail
      refine HNm.out.mono ?_
      rintro e w7 ⟨mq, m7, rfl, hM7, rfl, hmq, hb7⟩
      have N7 := Lib.hid (N6.out.ext hb7)
      have M7 := Lib.hid (hM7.same (fAt_zero L X).symm)
      have B17 := Lib.hid (B16.out.trans (hb7.mono B16.out.size))
      have hC6 : C6.length = L.length := by have := congrArg List.length N6.out.bare; simpa using this
      have HC6 := Lib.hid hC6
      have hrow : ∀ q, (Value.slice A6 C6.length c6).ownBlock = some q → q ≠ mq := fun q hq => by have := (N6.out.own.lt q hq).2; omega
      have Hrow := Lib.hid hrow
      clear hb7 hM7 e0 hrow
      have hmq1 : w1.heap.size ≤ mq := by have := B16.out.size; omega
      have hmqr : wA.heap.size ≤ mq := by have := N6.out.bel.size; omega
      have Hnd := Lib.hid (fun k (hk : k < L.length) => fAt_look (X := X) HND.out hk)
      clear HCs HNm
      go_wp2_with fail
      go_loopw [55] (fun i wx => ∃ (k : Nat) (cs : List ClsT), k ≤ L.length ∧ i = .int .i64 k ∧ cs.length = C6.length ∧ N0 wA wx A6 c6 cs (LLf L X k) ∧ MapC wx mq X.length (fAt L X k) ∧ Below w1.heap.size w1 wx) (fun i _ => L.length - (intOf i).toNat)
      case atStart => exact ⟨0, C6, Nat.zero_le _, rfl, rfl, by rw [ll_zero]; exact N7.out, M7.out, B17.out⟩
      case round =>
        obtain ⟨k, cs, hk, rfl, hcl, hN, hM, hB⟩ := hrel
        have HN := Lib.hid hN
        have HM := Lib.hid hM
        have HB := Lib.hid hB
        have HCl := Lib.hid hcl
        clear hN hM hB
        by_cases hlk : k < L.length
        · have hkc : k < cs.length := by rw [hcl, HC6.out]; exact hlk
          obtain ⟨b6, rfl⟩ := n0_shape HN.out (by omega)
          obtain ⟨b, o, hA, hbl, hc0, hc1, hc2, hc3, hc4⟩ := cls_at (Rds.ownN HN.out.own) hkc
          cases hA
          rw [Nat.zero_add] at hc0 hc1 hc2 hc3 hc4
          have hk1 : (k : Int) < (C6.length : Int) := by have := HC6.out; omega
          have hk0 : (0 : Int) ≤ (k : Int) := by omega
          have hzn : (cs[k]).name = L[k].name := by
            have h1 := bare_get HN.out.bare hkc (by rw [ll_len L X (by omega)]; exact hlk)
            rw [ll_get hlk] at h1
            have e := congrArg ClsT.name h1
            exact e
          have hlook := Hnd.out k hlk
          have hzl := HlL.out _ (List.getElem_mem hlk)
          have Hsame := Lib.hid (fun h => ll_same (X := X) hlk h)
          have Hnext := Lib.hid (ll_next (X := X) hlk)
          have Hdel := Lib.hid (fAt_del (X := X) hlk)
          have Hnone2 := Lib.hid (fun h => fAt_none (X := X) hlk h)
          rw [← hzn] at hlook hzl Hsame Hdel Hnone2
          have Hrep := Lib.hid (show rep X L[k] = (X.find? (named L[k].name)).getD L[k] from rfl)
          rw [← hzn] at Hrep
          generalize hz : cs[k] = z at *
          generalize L[k] = lk at *
          clear hz hzn
          have ZB := Lib.hid (Bx.new wr #[.string ⟨z.name.toArray⟩, .string ⟨z.sup.toArray⟩, .slice z.kA z.km z.kc, .slice z.fA z.fm z.fc, .slice z.mA z.mm z.mc] 43)
          have hbA := (Below.refl wr.heap.size wr).alloc (Nat.le_refl _) (.cells #[.string ⟨z.name.toArray⟩, .string ⟨z.sup.toArray⟩, .slice z.kA z.km z.kc, .slice z.fA z.fm z.fc, .slice z.mA z.mm z.mc] 43)
          have HMA := Lib.hid (HM.out.ext hbA)
          have HbA := Lib.hid hbA
          cases hf : X.find? (named z.name) with
          | none =>
            have HS1 := Lib.hid (Hsame.out hf)
            have HF1 := Lib.hid (Hnone2.out hf)
            rw [hf] at hlook
            go_wp2_with (at_lookup; refine look_C0 _ rfl _ _ rfl mq X.length (fAt L X k) rfl HMA.out z.name hzl rfl hlook ?_)
            go_roundw
            case rel =>
              have hbB := HbA.out.alloc HbA.out.size (.cells #[.string ⟨#[]⟩, .string ⟨#[]⟩, .slice none 0 0, .slice none 0 0, .slice none 0 0] 43)
              exact ⟨k + 1, cs, by omega, by go_num, HCl.out, by rw [HS1.out]; exact HN.out.ext hbB, (HM.out.ext hbB).same HF1.out, HB.out.trans (hbB.mono HB.out.size)⟩
            case measure => simp [intOf]; omega
          | some x =>
            have hxm := List.mem_of_find?_eq_some hf
            rw [hf] at hlook Hrep
            have Hrep2 := Lib.hid (show rep X lk = x from Hrep.out)
            have hbB := HbA.out.alloc HbA.out.size (.cells #[.string ⟨x.name.toArray⟩, .string ⟨x.sup.toArray⟩, .slice x.kA x.km x.kc, .slice x.fA x.fm x.fc, .slice x.mA x.mm x.mc] 43)
            have HbB := Lib.hid hbB
            have hbW := hb3.out.trans ((HB.out.trans (hbB.mono HB.out.size)).mono hb3.out.size)
            have hxis := (HX.out.2 x hxm).1.below hbW
            have hxs := HSX.out x hxm
            have HCC := Lib.hid (cloneClass_any x _ hxis hxs.1 hxs.2.1 hxs.2.2.1 hxs.2.2.2)
            simp only [ClsT.V] at HCC
            have hb6l := HN.out.own.lt b6 rfl
            clear hbA hbB hbW hxis hxs
            go_wp2_with (at_lookup; refine look_C1 _ rfl _ _ rfl mq X.length (fAt L X k) rfl HMA.out z.name hzl rfl x hlook ?_)
            refine HCC.out.mono ?_
            rintro e w8 ⟨y, rfl, hy, hyx, hb8⟩
            have hb08 : Below wr.heap.size wr w8 := HbB.out.trans (hb8.mono HbB.out.size)
            have N8 := Lib.hid (HN.out.ext hb08)
            have hyo := own_of hy
            have hyf : ∀ q, OnC y q → q ≠ b6 := fun q hq e => by have h1 := (hyo.on q hq).1; have h2 := hb6l.2; simp at h1; omega
            have OW : OwnK wA.heap.size w8 y := hyo.mono (by have := HN.out.bel.size; simp; omega)
            have NP := Lib.hid (N0.put N8.out hkc OW hyf (bare_of hyx))
            have hmb : mq ≠ b6 := fun e => Hrow.out b6 (by rw [← e]; rw [← HCl.out]; rw [e]; rfl) e.symm
            have MP := Lib.hid (((HM.out.ext hb08).block (put5C_block w8 b6 k y mq hmb)))
            have hz9 : (put5C w8 b6 k y).cell? ⟨wr.heap.size, 0, none⟩ = some (.string ⟨z.name.toArray⟩) := Bx.cell (C := #[.string ⟨z.name.toArray⟩, .string ⟨z.sup.toArray⟩, .slice z.kA z.km z.kc, .slice z.fA z.fm z.fc, .slice z.mA z.mm z.mc]) (ty := 43) ((put5C_block w8 b6 k y wr.heap.size (by omega)).trans (ZB.out.after (((Below.refl _ _).alloc (Nat.le_refl _) _).trans (hb8.mono (by simp))))) 0
            have BP := Lib.hid (put5C_below (HB.out.trans (hb08.mono HB.out.size)) b6 k y (by have := Hbel.out.size; omega))
            obtain ⟨_, _, hA9, _, d0, d1, d2, d3, d4⟩ := cls_at (Rds.ownN N8.out.own) hkc
            cases hA9
            rw [Nat.zero_add] at d0 d1 d2 d3 d4
            have n0 := N8.out.own.frozenAt (k * 5)
            have n1 := N8.out.own.frozenAt (k * 5 + 1)
            have n2 := N8.out.own.frozenAt (k * 5 + 2)
            have n3 := N8.out.own.frozenAt (k * 5 + 3)
            have n4 := N8.out.own.frozenAt (k * 5 + 4)
            unfold put5C at NP MP hz9 BP
            clear hb08 hyo hyf OW hy hyx hb8 HCC
            go_wp2_with (at_delete; refine del_C _ rfl _ _ rfl mq X.length (fAt L X k) rfl MP.out z.name hzl rfl ?_; intro w10 hM10 hg10)
            go_roundw
            case rel => exact ⟨k + 1, cs.set k y, by omega, by go_num, by rw [List.length_set]; exact HCl.out, by rw [Hnext.out, Hrep2.out]; exact N0.turn NP.out MP.out hg10 (by rw [List.length_set, HCl.out]; exact Hrow.out) hmqr, hM10.same Hdel.out, BP.out.grown hg10 BP.out.size (fun q e => by cases e; exact hmq1)⟩
            case measure => simp [intOf]; omega
        · obtain ⟨wB, hwB⟩ : ∃ x, x = wr := ⟨_, rfl⟩
          subst hwB
          obtain rfl : k = L.length := by omega
          have N11 := Lib.hid (show N0 wA wB A6 c6 cs (L.map (rep X)) by have := HN.out; rwa [ll_all] at this)
          have e0 := (X3.out.after HB.out).cell 0
          have Hrow2 := Lib.hid (show ∀ q, (Value.slice A6 cs.length c6).ownBlock = some q → q ≠ mq by rw [HCl.out]; exact Hrow.out)
          go_wp2_with fail
          clear e0
          go_loopw [11, 80] (fun v i wy => ∃ (j2 : Nat) (A' : Option Addr) (cap' : Nat) (ds : List ClsT), j2 ≤ X.length ∧ v = .slice A' ds.length cap' ∧ i = .int .i64 j2 ∧ N0 wA wy A' cap' ds (L.map (rep X) ++ (X.take j2).filter (newC L)) ∧ MapC wy mq X.length (fAt L X L.length) ∧ (∀ q, (Value.slice A' ds.length cap').ownBlock = some q → q ≠ mq) ∧ ds.length ≤ L.length + j2 ∧ Below w1.heap.size w1 wy) (fun _ i _ => X.length - (intOf i).toNat)
          case atStart => exact ⟨0, A6, c6, cs, Nat.zero_le _, by rw [HCl.out, HC6.out], rfl, by simpa using N11.out, HM.out, Hrow2.out, by have := HCl.out; have := HC6.out; omega, HB.out⟩
          case round =>
            obtain ⟨j2, A', cap', ds, hj2, rfl, rfl, hN2, hM2, hrow2, hdl, hB2⟩ := hrel
            have N2 := Lib.hid hN2
            have M2 := Lib.hid hM2
            have HR2 := Lib.hid hrow2
            have B2 := Lib.hid hB2
            have hbW2 := hb3.out.trans (hB2.mono hb3.out.size)
            have HbW2 := Lib.hid hbW2
            have hs2 := hN2.bel.size
            clear hN2 hM2 hrow2 hB2
            by_cases hlt2 : j2 < X.length
            · obtain ⟨b2, o2, hA2, hbl2, hc0, hc1, hc2, hc3, hc4⟩ := cls_at (HX.out.1.below hbW2) hlt2
              subst hA2
              have hj1 : (j2 : Int) < (X.length : Int) := by omega
              have hj0 : (0 : Int) ≤ (j2 : Int) := by omega
              have hxm := List.getElem_mem hlt2
              have Htk := Lib.hid (filter_next (newC L) hlt2)
              have hxl := HXn.out _ hxm
              have hxis := (HX.out.2 _ hxm).1.below hbW2
              have HXis := Lib.hid hxis
              have hxs := Lib.hid (HSX.out _ hxm)
              have hnew := fAt_new (L := L) hxm
              clear hbW2 hxm hxis
              generalize X[j2] = x at *
              have hbA := (Below.refl wr.heap.size wr).alloc (Nat.le_refl _) (.cells #[.string ⟨x.name.toArray⟩, .string ⟨x.sup.toArray⟩, .slice x.kA x.km x.kc, .slice x.fA x.fm x.fc, .slice x.mA x.mm x.mc] 43)
              have XB := Lib.hid (Bx.new wr #[.string ⟨x.name.toArray⟩, .string ⟨x.sup.toArray⟩, .slice x.kA x.km x.kc, .slice x.fA x.fm x.fc, .slice x.mA x.mm x.mc] 43)
              have HbA := Lib.hid hbA
              have MA := Lib.hid (M2.out.ext hbA)
              cases hf : fAt L X L.length x.name with
              | none =>
                have hno : newC L x = false := hnew.1 hf
                have HT1 := Lib.hid (show (X.take (j2 + 1)).filter (newC L) = (X.take j2).filter (newC L) by rw [Htk.out, hno]; simp)
                clear hbA
                go_wp2_with (at_lookup; refine look_C0 _ rfl _ _ rfl mq X.length (fAt L X L.length) rfl MA.out x.name hxl rfl hf ?_)
                go_roundw
                case rel =>
                  have hbB := HbA.out.alloc HbA.out.size (.cells #[.string ⟨#[]⟩, .string ⟨#[]⟩, .slice none 0 0, .slice none 0 0, .slice none 0 0] 43)
                  exact ⟨j2 + 1, A', cap', ds, by omega, rfl, by go_num, by rw [HT1.out]; exact N2.out.ext hbB, M2.out.ext hbB, HR2.out, by omega, B2.out.trans (hbB.mono B2.out.size)⟩
                case measure => simp [intOf]; omega
              | some r =>
                have hyes : newC L x = true := by
                  cases e : newC L x with
                  | true => rfl
                  | false => rw [hnew.2 e] at hf; cases hf
                have HT1 := Lib.hid (show (X.take (j2 + 1)).filter (newC L) = (X.take j2).filter (newC L) ++ [x] by rw [Htk.out, hyes]; simp)
                have hbB := hbA.alloc hbA.size (.cells #[.string ⟨r.name.toArray⟩, .string ⟨r.sup.toArray⟩, .slice r.kA r.km r.kc, .slice r.fA r.fm r.fc, .slice r.mA r.mm r.mc] 43)
                have HbB := Lib.hid hbB
                have HCC := Lib.hid (cloneClass_any x _ (HXis.out.below hbB) hxs.out.1 hxs.out.2.1 hxs.out.2.2.1 hxs.out.2.2.2)
                simp only [ClsT.V] at HCC
                have q0 := (bx_al XB.out (.cells #[.string ⟨r.name.toArray⟩, .string ⟨r.sup.toArray⟩, .slice r.kA r.km r.kc, .slice r.fA r.fm r.fc, .slice r.mA r.mm r.mc] 43)).cell 0
                have q1 := (bx_al XB.out (.cells #[.string ⟨r.name.toArray⟩, .string ⟨r.sup.toArray⟩, .slice r.kA r.km r.kc, .slice r.fA r.fm r.fc, .slice r.mA r.mm r.mc] 43)).cell 1
                have q2 := (bx_al XB.out (.cells #[.string ⟨r.name.toArray⟩, .string ⟨r.sup.toArray⟩, .slice r.kA r.km r.kc, .slice r.fA r.fm r.fc, .slice r.mA r.mm r.mc] 43)).cell 2
                have q3 := (bx_al XB.out (.cells #[.string ⟨r.name.toArray⟩, .string ⟨r.sup.toArray⟩, .slice r.kA r.km r.kc, .slice r.fA r.fm r.fc, .slice r.mA r.mm r.mc] 43)).cell 3
                have q4 := (bx_al XB.out (.cells #[.string ⟨r.name.toArray⟩, .string ⟨r.sup.toArray⟩, .slice r.kA r.km r.kc, .slice r.fA r.fm r.fc, .slice r.mA r.mm r.mc] 43)).cell 4
                clear hbA hbB
                go_wp2_with (at_lookup; refine look_C1 _ rfl _ _ rfl mq X.length (fAt L X L.length) rfl MA.out x.name hxl rfl r hf ?_)
                refine HCC.out.mono ?_
                rintro e w8 ⟨y, rfl, hy, hyx, hb8⟩
                have hb08 : Below wr.heap.size wr w8 := HbB.out.trans (hb8.mono HbB.out.size)
                have hb09 : Below wr.heap.size wr (w8.alloc (.cells #[.string ⟨y.name.toArray⟩, .string ⟨y.sup.toArray⟩, .slice y.kA y.km y.kc, .slice y.fA y.fm y.fc, .slice y.mA y.mm y.mc] 43)) := hb08.alloc hb08.size _
                have N8 := Lib.hid (N2.out.ext hb09)
                have hyo := own_of hy
                have HY := Lib.hid (show OwnK wA.heap.size (w8.alloc (.cells #[.string ⟨y.name.toArray⟩, .string ⟨y.sup.toArray⟩, .slice y.kA y.km y.kc, .slice y.fA y.fm y.fc, .slice y.mA y.mm y.mc] 43)) y from (hyo.mono (by simp; omega)).below ((Below.refl _ _).alloc (Nat.le_refl _) _))
                have HF := Lib.hid (show ∀ b, OnC y b → some b ≠ (Value.slice A' ds.length cap').ownBlock from fun b hb e => by
                  have h1 := (hyo.on b hb).1
                  have h2 := (N2.out.own.lt b e.symm).2
                  simp at h1
                  omega)
                have HXY := Lib.hid (bare_of hyx)
                have B8 := Lib.hid (B2.out.trans (hb09.mono B2.out.size))
                have M8 := Lib.hid (M2.out.ext hb09)
                have hs8 := hb08.size
                clear hy hyx hb8 hb08 hb09 hyo q0 q1 q2 q3 q4 hc0 hc1 hc2 hc3 hc4
                go_wp2_with (at_builtin
                             refine appCl rfl (.tmp 92) (.tmp 95) rfl wA.heap.size (.slice A' ds.length cap') ds rfl N8.out.own w8.heap.size 1 y rfl (Base.rds_new w8 _ _) (by omega) (by simp; omega) ?_
                             intro v9 w9 hF9 hg9 hat9
                             obtain ⟨A9, c9, rfl, hN9⟩ := N8.out.push HY.out HF.out HXY.out v9 hF9 hg9 hat9
                             have N9 := Lib.hid hN9
                             have M9 := Lib.hid (M8.out.block (hg9.block mq M8.out.lt (fun e => HR2.out mq e.symm rfl)))
                             have R9 := Lib.hid (show ∀ q, (Value.slice A9 (ds ++ [y]).length c9).ownBlock = some q → q ≠ mq from fun q hq e => by
                               rcases hat9 with h | h
                               · exact HR2.out q (h ▸ hq) e
                               · have h3 := h.symm.trans hq
                                 injection h3 with h3
                                 have := M8.out.lt
                                 omega)
                             have B9 := Lib.hid (B8.out.grown hg9 B8.out.size (fun q hq => by have := (N8.out.own.lt q hq).1; have := Hbel.out.size; omega))
                             clear hF9 hg9 hat9 hN9)
                go_roundw
                case rel => exact ⟨j2 + 1, A9, c9, ds ++ [y], by omega, by simp, by go_num, by rw [HT1.out, ← List.append_assoc]; exact N9.out, M9.out, R9.out, by simp; omega, B9.out⟩
                case measure => simp [intOf]; omega
            · have htk : X.take j2 = X := List.take_of_length_le (by omega)
              rw [htk] at N2
              clear hbW2 htk
              go_wp2_with fail
              go_ret3
              exact ⟨HbW2.out, .inr ⟨Hnone.out, A', cap', ds, rfl, Rds.ownN N2.out.own, fun x hx => (N2.out.each x hx).is, N2.out.bare⟩⟩
end DlM
end Go.Proofs.YtiagjnimafdbhaaGreatDoor
