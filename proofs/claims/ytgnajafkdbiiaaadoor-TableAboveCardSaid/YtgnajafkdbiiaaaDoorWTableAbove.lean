/-
  The law TableAbove, walked: for all classes and every name it returns true, and nothing that was there is written.
-/
import Derived.Test.YtgnajafkdbiiaaaDoorTabS
import Derived.Test.YtgnajafkdbiiaaaDoorTabA
import Derived.Test.YtgnajafkdbiiaaaDoorOpenC
import Derived.Test.YtgnajafkdbiiaaaDoorLaidM
namespace Go.Proofs.YtgnajafkdbiiaaaDoor
namespace WTableAbove
open Go.RowKit Base BinM Stru DescM DescW DescX DescS DescG DescP DescQ HierS HierT HierM HierC HierD HierN HierV Kls KlsP KlsQ OpenK TabC TabM TabK TabP TabE TabB TabG TabH TabT TabU TabV TabX TabW TabF TabN TabO TabY TabS TabA

theorem rds_front {w : World} {A : Option Addr} {xs ys : List Value} (h : Rds w A (xs ++ ys)) : Rds w A xs := by
  rcases h with h | ⟨b, o, hA, hb, hc⟩
  · exact .inl (List.append_eq_nil_iff.1 h).1
  · refine .inr ⟨b, o, hA, hb, fun j u hu => hc j u ?_⟩
    rw [List.getElem?_append_left (List.getElem?_eq_some_iff.1 hu).1]
    exact hu
theorem alw_short : ∀ p ∈ alw, p.1.length ≤ 140737488351232 := by decide
theorem sup_short {L : List ClsT} {c s : T} (hu : (mk (pairs L)).up c = some s) (hl : ∀ k ∈ L, k.name.length ≤ 140737488351232) : s.length ≤ 140737488351232 := by
  have hu' : ((abv (full (pairs L)) c).bind fun i => (nms (full (pairs L)))[i]?) = some s := hu
  cases ha : abv (full (pairs L)) c with
  | none => rw [ha] at hu'; cases hu'
  | some i =>
    rw [ha] at hu'
    have hm : s ∈ nms (full (pairs L)) := List.mem_of_getElem? hu'
    unfold nms full at hm
    rcases List.mem_cons.1 hm with rfl | hm
    · decide
    · obtain ⟨p, hp, rfl⟩ := List.mem_map.1 hm
      rcases List.mem_append.1 hp with hp | hp
      · exact alw_short p hp
      · obtain ⟨k, hk, rfl⟩ := List.mem_map.1 hp
        exact hl k hk
theorem few_of {C L : List ClsT} (hb : C.map bareC = L.map bareC) (hz : ∀ x ∈ L, clsE x = 0) : ∀ k ∈ C, k.fields.length ≤ 16 ∧ k.meths.length ≤ 32 := fun k hk => by
  obtain ⟨k', h1, h2⟩ := bare_mem hb hk
  exact (alk_of h2).few (cls_few (hz k' h1))

set_option maxRecDepth 100000 in
theorem hier_any {lo : Nat} {w : World} {t g mb n : Nat} {A : Option Addr} {c : Nat} {h : Hr} {L : List ClsT} {f : T → Option HavT} (H : Ta lo w t g mb n A c h L f) :
    Calls Tryd.prog 7 #[.pointer (some ⟨t, 0, none⟩)] w fun e w' => e = .returned (.pointer (some ⟨g, 0, none⟩)) ∧ w = w' := by
  have b0 := H.box.cell 0
  have hgl := H.box.lt
  clear H
  go_enter Tryd.func7, Tryd.ntmps7
  go_wp2_with fail
  go_ret
  exact ⟨rfl, rfl⟩

set_option maxRecDepth 100000 in
set_option maxHeartbeats 16000000 in
theorem walk (a0 : Option Addr) (m0 c0 : Nat) (l0 : List Kls.ClsT) (a1 : ByteArray) (w : World) (hl : InsA.Laid w) (wm0 : m0 = l0.length) (wc0 : m0 ≤ c0) (wx0 : c0 ≤ maxLen) (wr0 : Rds w a0 (l0.flatMap OpenK.ClsT.vals)) (b0 : ∀ x ∈ l0, x.is w ∧ OpenK.ClsT.lt x) (b1 : a1.size ≤ 140737488351232) :
    Calls Tryd.prog 3 #[.slice a0 m0 c0, .string a1] w fun e w' => e = .returned (.bool true) ∧ Below w.heap.size w w' := by
  obtain ⟨q, rfl⟩ : ∃ l : List UInt8, a1 = ⟨l.toArray⟩ := ⟨a1.data.toList, (Lib.mk_data a1).symm⟩
  have hq : q.length ≤ 140737488351232 := by rw [size_mk] at b1; exact b1
  have Hq := Lib.hid hq
  have HSm := Lib.hid (small_any a0 l0 m0 c0 w wm0 (Nat.le_trans wc0 wx0) wr0 (fun x hx => (b0 x hx).1))
  have HNw := Lib.hid (fun W (hb : Below w.heap.size w W) => TabO.new_any a0 l0 m0 c0 W wm0 (Rds.below (xs := l0.flatMap valsC) wr0 hb) (fun x hx => ⟨(b0 x hx).1.below hb, (b0 x hx).2⟩) (hl.below hb hl.1))
  have HK := Lib.hid (fun W (hb : Below w.heap.size w W) => TabZ.known_any W (hl.below hb hl.1))
  have Hnm := Lib.hid (show ∀ k ∈ l0, k.name.length ≤ 140737488351232 from fun k hk => (b0 k hk).2.name)
  clear hl wm0 wc0 wx0 wr0 b0 b1 hq
  go_enter Tryd.func3, Tryd.ntmps3
  go_wp2_with fail
  refine HSm.out.mono ?_
  rintro e w1 ⟨b, rfl, hb1⟩
  have B1 := Lib.hid hb1
  clear hb1
  cases b
  · go_wp2_with fail
    refine (HK.out _ B1.out).mono ?_
    rintro e w2 ⟨rfl, hb2⟩
    have B2 := Lib.hid (B1.out.trans (hb2.mono B1.out.size))
    clear hb2
    go_wp2_with fail
    go_ret
    exact ⟨rfl, B2.out⟩
  · go_wp2_with fail
    refine (HNw.out _ B1.out).mono ?_
    rintro e w2 ⟨hb2, hor⟩
    have B2 := Lib.hid (B1.out.trans (hb2.mono B1.out.size))
    clear hb2
    rcases hor with ⟨hz, lo, t, g, mb, n, A, c, C, f, rfl, _, hTa, hTot, hbare, _, hzc⟩ | ⟨hne, rfl⟩
    · have HTa := Lib.hid (fun W (hb : Below w2.heap.size w2 W) => hTa.ext hb)
      have HTot := Lib.hid hTot
      have HFew := Lib.hid (few_of hbare hzc)
      have HH := Lib.hid (show hav C = hav l0 from hav_alike hbare)
      have HAb := Lib.hid (fun (c s : T) (hu : (mk (pairs l0)).up c = some s) => above hz hu)
      have HSs := Lib.hid (fun (c s : T) (hu : (mk (pairs l0)).up c = some s) => sup_short hu Hnm.out)
      have Z2 := Lib.hid (Below.refl w2.heap.size w2)
      have HHi := Lib.hid (hier_any hTa)
      have HSu := Lib.hid (super_any lo g (mk (pairs l0)) q w2 hTa.hier (by have := Hq.out; omega))
      clear hz hTa hTot hbare hzc
      go_wp2_with fail
      refine HHi.out.mono ?_
      rintro e w' ⟨rfl, rfl⟩
      go_wp2_with fail
      refine HSu.out.mono ?_
      rintro e w' ⟨rfl, rfl⟩
      unfold twoB superT
      cases hu : (mk (pairs l0)).up q with
      | none =>
        simp only
        clear hu
        go_wp2_with fail
        refine (HK.out _ B2.out).mono ?_
        rintro e w3 ⟨rfl, hb3⟩
        have B3 := Lib.hid (B2.out.trans (hb3.mono B2.out.size))
        clear hb3
        go_wp2_with fail
        go_ret
        exact ⟨rfl, B3.out⟩
      | some s =>
        simp only
        obtain ⟨⟨rs, hrs⟩, hkp⟩ := HAb.out _ _ hu
        have hss := HSs.out _ _ hu
        have HLs := Lib.hid (layout_any (HTa.out _ Z2.out) HTot.out s hss HFew.out)
        have hf1 := (hav_len HFew.out s).1
        have hf2 := (hav_len HFew.out q).1
        have hm1 := (hav_len HFew.out s).2
        have hm2 := (hav_len HFew.out q).2
        have HMs := Lib.hid (fun W hb => methods_any (HTa.out W hb) HTot.out s hss HFew.out)
        have HLq := Lib.hid (fun W hb => layout_any (HTa.out W hb) HTot.out q Hq.out HFew.out)
        have HMq := Lib.hid (fun W hb => methods_any (HTa.out W hb) HTot.out q Hq.out HFew.out)
        rw [HH.out] at HLs HMs HLq HMq hf1 hf2 hm1 hm2
        rw [hrs, List.map_append] at HLq
        rw [hrs] at hf2
        clear hu hrs hss
        have hlm : ((hav l0 s).1.map fldOf).length ≤ 5000 := by simpa using hf1
        have hl3 : ((hav l0 s).1.map fldOf).length ≤ ((hav l0 s).1.map fldOf ++ rs.map fldOf).length := by simp
        have hfl : ∀ (W : World) (B : Option Addr), Rds W B (((hav l0 s).1.map fldOf ++ rs.map fldOf).flatMap FldT.vals) → Rds W B (((hav l0 s).1.map fldOf).flatMap FldT.vals) := fun W B h => by
          rw [List.flatMap_append] at h
          exact rds_front h
        have HFl := Lib.hid hfl
        clear hf1 hf2 hfl
        generalize (hav l0 s).1.map fldOf = L1 at *
        generalize L1 ++ rs.map fldOf = L2 at *
        generalize (hav l0 s).2 = M1 at *
        generalize (hav l0 q).2 = M2 at *
        obtain ⟨hkl, hke⟩ := hkp
        have HKe := Lib.hid hke
        clear hke
        go_wp2_with fail
        refine HLs.out.mono ?_
        rintro e w3 ⟨v3, rfl, ho3, hb3⟩
        obtain ⟨A3, c3, rfl, _, _, _, _⟩ := own_slice ho3
        have R3 := Lib.hid (Rds.ownN ho3)
        have G3 := Lib.hid hb3
        clear ho3 hb3
        go_wp2_with fail
        refine (HLq.out _ G3.out).mono ?_
        rintro e w4 ⟨v4, rfl, ho4, hb4⟩
        obtain ⟨A4, c4, rfl, hc4, _, _, _⟩ := own_slice ho4
        have R4 := Lib.hid (Rds.ownN ho4)
        have R34 := Lib.hid (R3.out.below hb4)
        have G4 := Lib.hid (G3.out.trans (hb4.mono G3.out.size))
        have R44 := Lib.hid (HFl.out _ _ R4.out)
        clear ho4 hb4 R4
        have hcl : L1.length ≤ c4 := Nat.le_trans hl3 hc4
        have hl4 : decide (L2.length < L1.length) = false := by simpa using hl3
        have HSf := Lib.hid (sameF_any A4 A3 L1 L1.length L1.length c4 c3 w4 rfl rfl (by omega) R44.out R34.out)
        have hcl2 : (L1.length : Int) ≤ (c4 : Int) := by omega
        have hl5 : ¬ (L2.length : Int) < (L1.length : Int) := by omega
        go_wp2_with fail
        refine HSf.out.mono ?_
        rintro e w5 ⟨rfl, hb5⟩
        have G5 := Lib.hid (G4.out.trans (hb5.mono G4.out.size))
        clear hb5
        go_wp2_with fail
        refine (HMs.out _ G5.out).mono ?_
        rintro e w6 ⟨v6, rfl, ho6, hb6⟩
        obtain ⟨A6, c6, rfl, _, _, _, _⟩ := own_slice ho6
        have R6 := Lib.hid (Rds.ownN ho6)
        have G6 := Lib.hid (G5.out.trans (hb6.mono G5.out.size))
        clear ho6 hb6
        go_wp2_with fail
        refine (HMq.out _ G6.out).mono ?_
        rintro e w7 ⟨v7, rfl, ho7, hb7⟩
        obtain ⟨A7, c7, rfl, _, _, _, _⟩ := own_slice ho7
        have R7 := Lib.hid (Rds.ownN ho7)
        have R67 := Lib.hid (R6.out.below hb7)
        have G7 := Lib.hid (G6.out.trans (hb7.mono G6.out.size))
        have hm3 : ¬ (M2.length : Int) < (M1.length : Int) := by omega
        have hm4 : decide (M2.length < M1.length) = false := by simpa using hkl
        clear ho7 hb7 hl3 hlm hcl hl4 hc4 hcl2 hl5
        go_wp2_with fail
        have Z7 := Lib.hid (Below.refl w7.heap.size w7)
        go_loopw [14] (fun i wr => ∃ j : Nat, j ≤ M1.length ∧ i = .int .i64 j ∧ Below w7.heap.size w7 wr) (fun i _ => M1.length - (intOf i).toNat)
        case atStart => exact ⟨0, Nat.zero_le _, rfl, Z7.out⟩
        case round =>
          obtain ⟨j, hj, rfl, hbw⟩ := hrel
          have Hbw := Lib.hid hbw
          by_cases hlt : j < M1.length
          · have hlt2 : j < M2.length := by omega
            obtain ⟨b1, o1, hA1, hb1, d0, d1, _⟩ := ent_at (R67.out.below hbw) hlt
            obtain ⟨b2, o2, hA2, hb2, e0, e1, _⟩ := ent_at (R7.out.below hbw) hlt2
            obtain ⟨k1, k2⟩ := HKe.out j hlt hlt2
            subst hA1
            subst hA2
            rw [k1] at e0
            rw [k2] at e1
            have hj1 : (j : Int) < (M1.length : Int) := by omega
            have hj2 : (j : Int) < (M2.length : Int) := by omega
            have hj0 : (0 : Int) ≤ (j : Int) := by omega
            clear hbw k1 k2
            generalize M1[j] = x at *
            obtain ⟨x0, x1, x2⟩ := x
            simp only at d0 d1 e0 e1
            have hs0 : (x0 == x0) = true := by simp
            have hs1 : (x1 == x1) = true := by simp
            go_wp2_with fail
            go_quiet (fail)
            go_wp2_with fail
            go_roundw
            case rel => exact ⟨j + 1, by omega, by go_num, Stru.drawn Hbw.out _⟩
            case measure => simp [intOf]; omega
          · have E7 := Lib.hid (B2.out.trans ((G7.out.trans (hbw.mono G7.out.size)).mono B2.out.size))
            clear hbw
            go_wp2_with fail
            refine (HK.out _ E7.out).mono ?_
            rintro e w8 ⟨rfl, hb8⟩
            have B8 := Lib.hid (E7.out.trans (hb8.mono E7.out.size))
            clear hb8
            go_wp2_with fail
            go_ret
            exact ⟨rfl, B8.out⟩
    · generalize whyC l0 = WW at *
      obtain ⟨nm, en⟩ := WW
      simp only at hne
      go_wp2_with fail
      refine (HK.out _ B2.out).mono ?_
      rintro e w3 ⟨rfl, hb3⟩
      have B3 := Lib.hid (B2.out.trans (hb3.mono B2.out.size))
      clear hb3
      go_wp2_with fail
      go_ret
      exact ⟨rfl, B3.out⟩
end WTableAbove
end Go.Proofs.YtgnajafkdbiiaaaDoor
