/-
  Law CollectKeeps: the new heap has just what can be come to, and each word of a thing leads to the copy.
-/
import Derived.Test.YtmkdhdmkdcankaaGreatDoorG52
import Derived.StillTailTactics
import Derived.Deep.RegionHeld3
namespace Go.Proofs.YtmkdhdmkdcankaaGreatDoor
namespace WCollectKeeps
open Go.RowKit Base BinM HpM HpA HpB HpG HpP HpT HpZ HpR HpQ HpW ClA ClC ClM ClX ClY ClZ ClI ClJ ClP ClQ ClL ClO ClG ClH

theorem roots_fit {w wr : World} {x g r p u : Nat} {ts : List Th} (P : Play w wr x g r p u ts) {l : List Int} (hl : ∀ y ∈ l, fitI y) (raw : Bool) : ∀ y ∈ rootsT ts l raw, fitI y := by
  obtain ⟨⟨w1, h1, S, h2⟩, h3⟩ := P
  intro y hy
  obtain ⟨z, hz, rfl⟩ := List.mem_map.1 hy
  have hz' := hl z (List.mem_of_mem_take hz)
  unfold rootV
  split
  · exact hz'
  · split
    · unfold fitI; omega
    · split
      · exact adr_fit S _
      · exact hz'
theorem roots_len (ts : List Th) (l : List Int) (raw : Bool) : (rootsT ts l raw).length ≤ 20 := by
  unfold rootsT
  rw [List.length_map, List.length_take]
  omega

set_option maxRecDepth 100000 in
set_option maxHeartbeats 16000000 in
theorem walk (a0 : Option Addr) (m0 c0 : Nat) (l0 : List OpenMk.MkT) (a1 : Option Addr) (m1 c1 : Nat) (l1 : List OpenMk.StT) (a2 : Option Addr) (m2 c2 : Nat) (l2 : List Int) (w : World) (hl : InsA.Laid w) (wm0 : m0 = l0.length) (_ : m0 ≤ c0) (_ : c0 ≤ maxLen) (wr0 : Rds w a0 (l0.flatMap OpenMk.mkV)) (b0 : ∀ x ∈ l0, OpenMk.mkOk x) (wm1 : m1 = l1.length) (_ : m1 ≤ c1) (_ : c1 ≤ maxLen) (wr1 : Rds w a1 (l1.flatMap OpenMk.stV)) (b1 : ∀ x ∈ l1, OpenMk.stOk x) (w2 : IsInts w a2 m2 c2 l2) (_ : c2 * 8 ≤ 140737488351232) :
    Calls Tryz.prog 5 #[.slice a0 m0 c0, .slice a1 m1 c1, .slice a2 m2 c2] w fun e w' => e = .returned (.bool true) ∧ Below w.heap.size w w' := by
  subst wm0
  subst wm1
  obtain ⟨rfl, _, _, hr2, hf2⟩ := w2
  have HBg := Lib.hid (ClK.begin_any a0 a1 c0 c1 l0 l1 w wr0 b0 wr1 b1 hl)
  have HK := Lib.hid (fun v (hv : Below w.heap.size w v) => (ClO.known_any v (hl.below hv hl.1)).mono fun e w' (h : e = .returned (.bool true) ∧ Below v.heap.size v w') => (⟨h.1, hv.trans (h.2.mono hv.size)⟩ : e = .returned (.bool true) ∧ Below w.heap.size w w'))
  have R2 := Lib.hid hr2
  have F2 := Lib.hid hf2
  clear hl wr0 b0 wr1 b1 hr2 hf2
  go_enter Tryz.func5, Tryz.ntmps5
  go_wp2_with fail
  refine HBg.out.mono ?_
  rintro e w4 ⟨x, rfl, g, r, p, u, hP⟩
  have HP := Lib.hid hP
  have B4 := Lib.hid (ClP.Play.low hP)
  have HF2 := Lib.hid (roots_fit hP F2.out false)
  have HL2 := Lib.hid (roots_len (playT l0 l1) l2 false)
  clear hP HBg
  go_wp2_with fail
  refine (roots_any HP.out a2 c2 l2 (R2.out.below B4.out) false).mono ?_
  rintro e w5 ⟨v5, rfl, ho5, hb5⟩
  have C5 := Lib.hid hb5
  have O5 := Lib.hid ho5
  generalize rootsT (playT l0 l1) l2 false = ra at *
  obtain ⟨A5, d5, rfl, _, _, hA5, _⟩ := own_slice ho5
  have HA5 := Lib.hid hA5
  have P5 := Lib.hid (ClP.Play.later HP.out hb5)
  have hx5 := ClP.Play.box P5.out
  have c0' : w5.cell? ⟨x, 0, none⟩ = some (.pointer (some ⟨g, 0, none⟩)) := hx5.cell 0
  have c1' : w5.cell? ⟨x, 2, none⟩ = some (.pointer (some ⟨p, 0, none⟩)) := hx5.cell 2
  have HX5 := Lib.hid hx5
  have R5 := Lib.hid (Rds.own ho5)
  generalize playT l0 l1 = ts at *
  have HRe := Lib.hid (play_reach (cr := d5) (ClP.Play.later P5.out (Below.refl _ _).drew) (R5.out.below (Below.refl _ _).drew) (by have := HL2.out; omega) HF2.out)
  have HRu := Lib.hid (fun (v : World) (hv : Below w5.heap.size w5 v) => play_run3 (cr := d5) HP.out (C5.out.trans (hv.mono C5.out.size)) (R5.out.below hv) (fun a ha => (HA5.out a ha).1) (by have := HL2.out; omega) HF2.out)
  clear hb5 ho5 hA5 hx5
  go_wp2_with fail
  have hD5 : Below w5.heap.size w5 w5.drew := (Below.refl _ _).drew
  cases hr : reachE ts ra with
  | mk er out =>
  rw [hr] at HRe HRu
  have HR := Lib.hid hr
  clear hr
  go_region_held3 (fun w' => w'.cell? ⟨x, 0, none⟩ = some (.pointer (some ⟨g, 0, none⟩)) ∧ w'.cell? ⟨x, 2, none⟩ = some (.pointer (some ⟨p, 0, none⟩)))
    (first | go_keep)
    (first
      | (go_at_call 10
         refine HRe.out.mono ?_
         rintro e v6 ⟨A6, d6, rfl, hr6, hb6, ha6⟩
         have hE6 := Below.trans hD5 (hb6.mono hD5.size)
         have d0' : v6.cell? ⟨x, 0, none⟩ = some (.pointer (some ⟨g, 0, none⟩)) := (HX5.out.after hE6).cell 0
         have d1' : v6.cell? ⟨x, 2, none⟩ = some (.pointer (some ⟨p, 0, none⟩)) := (HX5.out.after hE6).cell 2
         have R6 := Lib.hid hr6
         have HA6 := Lib.hid ha6
         clear hb6 hr6 ha6))
  have hE6' := hE6
  clear hD5
  go_wp2_with fail
  have hD6 : Below w5.heap.size w5 v6.drew := hE6.drew
  by_cases he : er = 0
  · subst he
    have HRu2 := Lib.hid (show Calls Tryz.prog 21 #[.pointer (some ⟨g, 0, none⟩), .pointer (some ⟨p, 0, none⟩), .slice A5 ra.length d5] v6.drew fun e w' => ∃ g2 b, e = .returned (.tuple #[.pointer (some ⟨g2, 0, none⟩), .slice (some ⟨b, 0, none⟩) ra.length ra.length, .int .i64 0]) ∧ Below w.heap.size w w' ∧ Bx w' x (bx x g r p u).2.1 (bx x g r p u).2.2 ∧ Rds w' A6 (out.map (Value.int .i64)) ∧ Kept w' g g2 p ts out from (HRu.out v6.drew hD6).mono (by
      rintro e w' (⟨h1, _⟩ | ⟨_, g2, b, h2, h3, h4, h5, h6⟩)
      · exact absurd rfl h1
      · exact ⟨g2, b, h2, h3, h4, h5 A6 _ (R6.out.below (Below.refl _ _).drew) (fun a ha => Nat.le_trans C5.out.size (HA6.out a ha)), h6⟩))
    clear hE6 hD6 HRu HRe
    go_region_held3 (fun w' => w'.cell? ⟨x, 0, none⟩ = some (.pointer (some ⟨g, 0, none⟩)) ∧ w'.cell? ⟨x, 2, none⟩ = some (.pointer (some ⟨p, 0, none⟩)))
      (first | go_keep)
      (first
        | (go_at_call 21
           refine HRu2.out.mono ?_
           rintro e v7 ⟨g2, b, rfl, hB7, hX7, hR7, hK7⟩
           have e0' : v7.cell? ⟨x, 0, none⟩ = some (.pointer (some ⟨g, 0, none⟩)) := hX7.cell 0
           have e1' : v7.cell? ⟨x, 2, none⟩ = some (.pointer (some ⟨p, 0, none⟩)) := hX7.cell 2
           have B7 := Lib.hid hB7
           have X7 := Lib.hid hX7
           have R7 := Lib.hid hR7
           have K7 := Lib.hid hK7
           clear hB7 hX7 hR7 hK7))
    clear HRu2
    go_wp2_with fail
    refine (K7.out.all v7 (Below.refl _ _)).mono ?_
    rintro e w8 ⟨v8, rfl, ho8, hb8⟩
    have hN : (adr 0 (news ts out)).length = out.length := by rw [adr_len]; unfold news; rw [List.length_map]
    obtain ⟨A8, d8, rfl, _, _, _, _⟩ := own_slice ho8
    have R8 := Lib.hid (Rds.own ho8)
    have B8 := Lib.hid (B7.out.trans (hb8.mono B7.out.size))
    have X8 := Lib.hid (X7.out.after hb8)
    have Q8 := Lib.hid (R7.out.below hb8)
    have HB8 := Lib.hid hb8
    have hfew := K7.out.few
    rw [hN]
    clear ho8 hb8 R7 X7
    go_wp2_with fail
    go_loopw [15] (fun i wr => ∃ k : Nat, k ≤ out.length ∧ i = .int .i64 (k : Int) ∧ Below w8.heap.size w8 wr) (fun i _ => out.length - (intOf i).toNat)
    case atStart => exact ⟨0, Nat.zero_le _, rfl, Below.refl _ _⟩
    case round =>
      obtain ⟨k, hk, rfl, hbr⟩ := hrel
      have Hbr := Lib.hid hbr
      clear hbr
      by_cases hlt : k < out.length
      · obtain ⟨t, cp, ps, y, ht, ⟨hl8, hy⟩, hcp, hid, hsz, hrf, hpl, hwd⟩ := keep_at HR.out hlt
        obtain ⟨q1, o1, rfl, hq1, hc1⟩ := Q8.out.at_ (k := k) (by rw [List.length_map]; exact hlt)
        obtain ⟨q2, o2, rfl, hq2, hc2⟩ := R8.out.at_ (k := k) (by rw [List.length_map]; exact hl8)
        rw [List.getElem_map] at hc1 hc2
        rw [hy] at hc2
        have HC := Lib.hid (fun (v : World) (hv : Below w8.heap.size w8 v) => (⟨(X8.out.after hv).cell 0, (X8.out.after hv).cell 2, (hv.cell (p := ⟨q1, o1 + k, none⟩) hq1).trans hc1, (hv.cell (p := ⟨q2, o2 + k, none⟩) hq2).trans hc2⟩ : v.cell? ⟨x, 0, none⟩ = some (.pointer (some ⟨g, 0, none⟩)) ∧ v.cell? ⟨x, 2, none⟩ = some (.pointer (some ⟨p, 0, none⟩)) ∧ v.cell? ⟨q1, o1 + k, none⟩ = some (.int .i64 out[k]) ∧ v.cell? ⟨q2, o2 + k, none⟩ = some (.int .i64 y)))
        have hup : ∀ v, Below w8.heap.size w8 v → Below v7.heap.size v7 v := fun v hv => HB8.out.trans (hv.mono HB8.out.size)
        have T1 := Lib.hid (fun (v : World) (hv : Below w8.heap.size w8 v) => K7.out.old.type_ v (hup v hv) _ t ht)
        have T2 := Lib.hid (fun (v : World) (hv : Below w8.heap.size w8 v) => K7.out.new.type_ v (hup v hv) y cp hcp)
        have S1 := Lib.hid (fun (v : World) (hv : Below w8.heap.size w8 v) => K7.out.old.size_ v (hup v hv) _ t ht)
        have S2 := Lib.hid (fun (v : World) (hv : Below w8.heap.size w8 v) => K7.out.new.size_ v (hup v hv) y cp hcp)
        have RF := Lib.hid (fun (v : World) (hv : Below w8.heap.size w8 v) => K7.out.refs v (hup v hv) y)
        have G1 := Lib.hid (fun (v : World) (hv : Below w8.heap.size w8 v) => K7.out.old.get_ v (hup v hv) _ t ht)
        have G2 := Lib.hid (fun (v : World) (hv : Below w8.heap.size w8 v) => K7.out.new.get_ v (hup v hv) y cp hcp)
        have SE := Lib.hid (fun (v : World) (hv : Below w8.heap.size w8 v) => K7.out.sent v (hup v hv))
        have FT := Lib.hid (K7.out.fits t (thAt_mem ht))
        have hsh := K7.out.short _ t ht
        rw [hid] at T2
        rw [hsz] at S2 G2
        unfold GivesRefs at RF
        rw [hrf] at RF
        have HW := Lib.hid hwd
        have hD := Hbr.out.drew
        obtain ⟨f0, f1, f2, f3⟩ := HC.out _ hD
        clear hwd hup ht hcp hrf hc1 hc2 hy
        generalize out[k] = m1 at *
        go_wp2_with fail
        go_region_held3 (fun w' => w'.cell? ⟨x, 0, none⟩ = some (.pointer (some ⟨g, 0, none⟩)) ∧ w'.cell? ⟨q1, o1 + k, none⟩ = some (.int .i64 m1))
          (first | go_keep)
          (first
            | (go_at_call 27
               refine (T1.out _ hD).mono ?_
               rintro e v9 ⟨rfl, hb9⟩
               have hE9 := hD.trans (hb9.mono hD.size)
               obtain ⟨g0, g1, g2', g3⟩ := HC.out _ hE9
               clear hb9))
        clear hD f0 f1 f2 f3
        go_wp2_with fail
        refine (T2.out _ hE9).mono ?_
        rintro e v10 ⟨rfl, hb10⟩
        have hE10 := hE9.trans (hb10.mono hE9.size)
        have hD10 := hE10.drew
        clear hb10 hE9 g0 g1 g2' g3
        obtain ⟨g0, g1, g2', g3⟩ := HC.out _ hD10
        go_wp2_with fail
        go_region_held3 (fun w' => w'.cell? ⟨x, 0, none⟩ = some (.pointer (some ⟨g, 0, none⟩)) ∧ w'.cell? ⟨q1, o1 + k, none⟩ = some (.int .i64 m1))
          (first | go_keep)
          (first
            | (go_at_call 28
               refine (S1.out _ hD10).mono ?_
               rintro e v11 ⟨rfl, hb11⟩
               have hE11 := hD10.trans (hb11.mono hD10.size)
               obtain ⟨f0, f1, f2, f3⟩ := HC.out _ hE11
               clear hb11))
        clear hD10 hE10 g0 g1 g2' g3
        go_wp2_with fail
        refine (S2.out _ hE11).mono ?_
        rintro e v12 ⟨rfl, hb12⟩
        have hE12 := hE11.trans (hb12.mono hE11.size)
        have hD12 := hE12.drew
        clear hb12 hE11 f0 f1 f2 f3
        obtain ⟨g0, g1, g2', g3⟩ := HC.out _ hD12
        go_wp2_with fail
        go_region_held3 (fun w' => w'.cell? ⟨x, 2, none⟩ = some (.pointer (some ⟨p, 0, none⟩)) ∧ w'.cell? ⟨q2, o2 + k, none⟩ = some (.int .i64 y))
          (first | go_keep)
          (first
            | (go_at_call 16
               refine (RF.out _ hD12).mono ?_
               rintro e v13 ⟨A13, d13, rfl, hr13, hc13, hb13, ha13⟩
               have hE13 := hD12.trans (hb13.mono hD12.size)
               obtain ⟨f0, f1, f2, f3⟩ := HC.out _ hE13
               have R13 := Lib.hid hr13
               clear hb13 hr13 ha13))
        have E13 := Lib.hid hE13
        clear hD12 hE12 hE13 g0 g1 g2' g3 f0 f1 f2 f3
        go_wp2_with fail
        go_loopw [26] (fun i wr => ∃ j : Nat, j ≤ t.W.length ∧ i = .int .i64 (j : Int) ∧ Below v13.heap.size v13 wr) (fun i _ => t.W.length - (intOf i).toNat)
        case atStart => exact ⟨0, Nat.zero_le _, rfl, Below.refl _ _⟩
        case round =>
          obtain ⟨j, hj, rfl, hbr2⟩ := hrel
          have Hbr2 := Lib.hid hbr2
          have E14 := Lib.hid (E13.out.trans (hbr2.mono E13.out.size))
          clear hbr2
          by_cases hjl : j < t.W.length
          · have G1j := Lib.hid (fun v hv => G1.out v hv j hjl)
            have G2j := Lib.hid (fun v hv => G2.out v hv j hjl)
            have hv0 : fitI (t.W.getD j 0) := by
              rw [List.getD_eq_getElem?_getD, List.getElem?_eq_getElem hjl]
              exact FT.out _ (List.getElem_mem hjl)
            have SEj := Lib.hid (fun v hv => SE.out v hv _ hv0)
            have hw := HW.out j hjl
            clear hv0
            generalize t.W.getD j 0 = v1 at *
            generalize cp.W.getD j 0 = u1 at *
            have hD := E14.out.drew
            obtain ⟨f0, f1, f2, f3⟩ := HC.out _ hD
            go_wp2_with fail
            go_region_held3 (fun w' => w'.cell? ⟨x, 0, none⟩ = some (.pointer (some ⟨g, 0, none⟩)) ∧ w'.cell? ⟨q1, o1 + k, none⟩ = some (.int .i64 m1))
              (first | go_keep)
              (first
                | (go_at_call 29
                   refine (G1j.out _ hD).mono ?_
                   rintro e v15 ⟨rfl, hb15⟩
                   have hE15 := hD.trans (hb15.mono hD.size)
                   have h15 := Hbr2.out.drew.trans (hb15.mono Hbr2.out.drew.size)
                   obtain ⟨g0, g1, g2', g3⟩ := HC.out _ hE15
                   clear hb15))
            clear hD f0 f1 f2 f3
            go_wp2_with fail
            refine (G2j.out _ hE15).mono ?_
            rintro e v16 ⟨rfl, hb16⟩
            have hE16 := hE15.trans (hb16.mono hE15.size)
            have E16 := Lib.hid (h15.trans (hb16.mono h15.size))
            have hR16 := R13.out.below E16.out
            clear hb16 hE15 h15 g0 g1 g2' g3
            go_wp2_with fail
            refine (in_any A13 d13 ps (j : Int) v16 hR16 (by omega)).mono ?_
            rintro e v17 ⟨rfl, hb17⟩
            have hE17 := hE16.trans (hb17.mono hE16.size)
            have E17 := Lib.hid (E16.out.trans (hb17.mono E16.out.size))
            clear hb17 hE16 hR16
            obtain ⟨f0, f1, f2, f3⟩ := HC.out _ hE17
            rcases hw with ⟨hin, hv, hs⟩ | ⟨hno, huv⟩
            · have hdec : decide ((j : Int) ∈ ps) = true := decide_eq_true hin
              rw [hdec]
              go_wp2_with fail
              refine (SEj.out _ hE17).mono ?_
              rw [hs]
              rintro e v18 ⟨rfl, rfl⟩
              go_wp2_with fail
              exact ⟨⟨j + 1, by omega, by go_num, E17.out⟩, by simp [intOf]; omega⟩
            · subst huv
              by_cases hin : (j : Int) ∈ ps
              · have hv : u1 = 0 := Classical.byContradiction fun h => hno ⟨hin, h⟩
                subst hv
                have hdec : decide ((j : Int) ∈ ps) = true := decide_eq_true hin
                rw [hdec]
                go_wp2_with fail
                exact ⟨⟨j + 1, by omega, by go_num, E17.out⟩, by simp [intOf]; omega⟩
              · have hdec : decide ((j : Int) ∈ ps) = false := decide_eq_false hin
                rw [hdec]
                go_wp2_with fail
                exact ⟨⟨j + 1, by omega, by go_num, E17.out⟩, by simp [intOf]; omega⟩
          · have hge : ¬ ((j : Nat) : Int) < ((t.W.length : Nat) : Int) := by omega
            go_wp2_with fail
            exact ⟨⟨k + 1, by omega, by go_num, E14.out⟩, by simp [intOf]; omega⟩
      · have hge : ¬ ((k : Nat) : Int) < ((out.length : Nat) : Int) := by omega
        have Bk := Lib.hid (B8.out.trans (Hbr.out.mono B8.out.size))
        go_wp2_with fail
        refine (HK.out _ Bk.out).mono ?_
        rintro e w11 ⟨rfl, hb11⟩
        have B11 := Lib.hid hb11
        clear hb11
        go_wp2_with fail
        go_ret
        exact ⟨rfl, B11.out⟩
  · have HRu2 := Lib.hid (show Calls Tryz.prog 21 #[.pointer (some ⟨g, 0, none⟩), .pointer (some ⟨p, 0, none⟩), .slice A5 ra.length d5] v6.drew fun e w' => e = .returned (.tuple #[.pointer none, .slice none 0 0, .int .i64 er]) ∧ Below v6.drew.heap.size v6.drew w' from (HRu.out v6.drew hD6).mono (by
      rintro e w' (⟨_, h1, h2⟩ | ⟨h1, _⟩)
      · exact ⟨h1, h2⟩
      · exact absurd h1 he))
    clear hE6 HRu HRe
    go_region_held3 (fun w' => w'.cell? ⟨x, 0, none⟩ = some (.pointer (some ⟨g, 0, none⟩)) ∧ w'.cell? ⟨x, 2, none⟩ = some (.pointer (some ⟨p, 0, none⟩)))
      (first | go_keep)
      (first
        | (go_at_call 21
           refine HRu2.out.mono ?_
           rintro e v7 ⟨rfl, hb7⟩
           have hE7 := hD6.trans (hb7.mono hD6.size)
           have e0' : v7.cell? ⟨x, 0, none⟩ = some (.pointer (some ⟨g, 0, none⟩)) := (HX5.out.after hE7).cell 0
           have e1' : v7.cell? ⟨x, 2, none⟩ = some (.pointer (some ⟨p, 0, none⟩)) := (HX5.out.after hE7).cell 2
           clear hb7))
    have B5 := Lib.hid (B4.out.trans (C5.out.mono B4.out.size))
    have B7 := Lib.hid (B5.out.trans (hE7.mono B5.out.size))
    clear hE7 hD6 HRu2
    go_wp2_with fail
    refine (HK.out _ B7.out).mono ?_
    rintro e w11 ⟨rfl, hb11⟩
    have B11 := Lib.hid hb11
    clear hb11
    go_wp2_with fail
    go_ret
    exact ⟨rfl, B11.out⟩
end WCollectKeeps
end Go.Proofs.YtmkdhdmkdcankaaGreatDoor
