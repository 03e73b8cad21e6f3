/- pieces -/
import Derived.Test.YtmkdhdmkdcankaaGreatDoorK1
import Derived.Test.YtmkdhdmkdcankaaGreatDoorKcA
namespace Go.Proofs.YtmkdhdmkdcankaaGreatDoor
namespace WCollectReaches
open Go.RowKit Base BinM HpM HpA HpB HpG HpR ClM ClA ClC ClX ClY ClZ ClI ClJ ClP ClQ ClL ClO CeB CeC CeR CeL
theorem roots_fit {w wr : World} {x g r p u : Nat} {ts : List Th} (P : Play w wr x g r p u ts) {l : List Int} (hl : ∀ y ∈ l, fitI y) (raw : Bool) : ∀ y ∈ rootsT ts l raw, fitI y := by
 obtain ⟨⟨w1, h1, S, h2⟩, h3⟩ := P
 intro y hy
 obtain ⟨z, hz, rfl⟩ := List.mem_map.1 hy
 have hz' := hl z (List.mem_of_mem_take hz)
 unfold rootV
 split
 · exact hz'
 · split
   · unfold fitI; omega
   · split
     · exact adr_fit S _
     · exact hz'
theorem roots_len (ts : List Th) (l : List Int) (raw : Bool) : (rootsT ts l raw).length ≤ 20 := by
 unfold rootsT
 rw [List.length_map, List.length_take]
 omega
theorem live_fact (ts : List Th) (roots : List Int) : (liveE ts roots).2 ≠ 0 → (liveE ts roots).1 = 0 := by
 unfold liveE
 split
 · intro h; exact absurd rfl h
 · intro _; rfl
theorem refs_len {w wr : World} {x g r p u : Nat} {ts : List Th} (P : Play w wr x g r p u ts) (y : Int) : (refsX ts y).2.length ≤ 5000 := by
 obtain ⟨⟨w1, h1, S, h2⟩, h3⟩ := P
 obtain ⟨a1, a2, a3, a4, a5, AL, cL, ms, a9, S, rfl, h5, h6⟩ := S
 have hf := S.fits
 unfold refsX
 cases ht : thAt (things ms) y with
 | none => simp
 | some t =>
   simp only
   cases hq : refsE t with
   | none => simp
   | some ps =>
     have h7 := refsE_len hq
     have h8 := word_len hf (thAt_mem ht)
     simp only [List.length_map]
     omega
theorem reach_len {w wr : World} {x g r p u : Nat} {ts : List Th} (P : Play w wr x g r p u ts) (rs : List Int) : (reachE ts rs).2.length ≤ 5000 := by
 by_cases h : (reachE ts rs).1 = 0
 · have hg := reachE_good (show reachE ts rs = (0, (reachE ts rs).2) from Prod.ext h rfl)
   have h2 := hg.len
   rw [ClM.adr_len] at h2
   have := P.few
   omega
 · rw [reachE_err h]
   simp
theorem own_al {w w' : World} {base : Nat} {v : Value} {l : List Int} (h : OwnI w base v l) (hb : Below w.heap.size w w') : OwnI w' base v l := own_same h (fun k hk => hb.block k (h.lt k hk).2)
set_option maxRecDepth 100000 in
set_option maxHeartbeats 16000000 in
theorem walk (a0 : Option Addr) (m0 c0 : Nat) (l0 : List OpenMk.MkT) (a1 : Option Addr) (m1 c1 : Nat) (l1 : List OpenMk.StT) (a2 : Option Addr) (m2 c2 : Nat) (l2 : List Int) (a3 : Bool) (w : World) (hl : InsA.Laid w) (wm0 : m0 = l0.length) (_ : m0 ≤ c0) (_ : c0 ≤ maxLen) (wr0 : Rds w a0 (l0.flatMap OpenMk.mkV)) (b0 : ∀ x ∈ l0, OpenMk.mkOk x) (wm1 : m1 = l1.length) (_ : m1 ≤ c1) (_ : c1 ≤ maxLen) (wr1 : Rds w a1 (l1.flatMap OpenMk.stV)) (b1 : ∀ x ∈ l1, OpenMk.stOk x) (w2 : IsInts w a2 m2 c2 l2) (_ : c2 * 8 ≤ 140737488351232) :
   Calls Tryz.prog 3 #[.slice a0 m0 c0, .slice a1 m1 c1, .slice a2 m2 c2, .bool a3] w fun e w' => e = .returned (.bool true) ∧ Below w.heap.size w w' := by
 subst wm0
 subst wm1
 obtain ⟨rfl, _, _, hr2, hf2⟩ := w2
 have HBg := zH (ClK.begin_any a0 a1 c0 c1 l0 l1 w wr0 b0 wr1 b1 hl)
 have HK := zH (fun v (hv : Below w.heap.size w v) => (ClO.known_any v (hl.below hv hl.1)).mono fun e w' (h : e = .returned (.bool true) ∧ Below v.heap.size v w') => (⟨h.1, hv.trans (h.2.mono hv.size)⟩ : e = .returned (.bool true) ∧ Below w.heap.size w w'))
 have R2 := zH hr2
 have F2 := zH hf2
 clear hl wr0 b0 wr1 b1 hr2 hf2
 go_enter Tryz.func3, Tryz.ntmps3
 go_wp2_with fail
 refine HBg.out.mono ?_
 rintro e w4 ⟨x, rfl, g, r, p, u, hP⟩
 have HP := zH hP
 have B4 := zH (ClP.Play.low hP)
 have HF2 := zH (roots_fit hP F2.out a3)
 have HL2 := zH (roots_len (playT l0 l1) l2 a3)
 have HLF := zH (live_fact (playT l0 l1) (rootsT (playT l0 l1) l2 a3))
 clear hP HBg
 go_wp2_with fail
 refine (roots_any HP.out a2 c2 l2 (R2.out.below B4.out) a3).mono ?_
 rintro e w5 ⟨v5, rfl, ho5, hb5⟩
 have B5 := zH (B4.out.trans (hb5.mono B4.out.size))
 have HP5 := zH (fun v (hv : Below w5.heap.size w5 v) => ClP.Play.later HP.out (hb5.trans (hv.mono hb5.size)))
 generalize rootsT (playT l0 l1) l2 a3 = rs at *
 generalize playT l0 l1 = ts at *
 obtain ⟨A5, d5, rfl, _, _, _, _⟩ := own_slice ho5
 have O5 := zH ho5
 have HR5 : Hid (∀ v, Below w5.heap.size w5 v → Rds v A5 (rs.map (Value.int .i64))) := zH (fun v hv => (Rds.own O5.out).below hv)
 have HX5 := zH (ClP.Play.box (HP5.out w5 (Below.refl _ _)))
 have hrl := HL2.out
 have HC1 : Hid (∀ v, Below w5.heap.size w5 v → Calls Tryz.prog 10 #[.pointer (some ⟨g, 0, none⟩), .pointer (some ⟨p, 0, none⟩), .slice A5 rs.length d5] v (GivesReach v (reachE ts rs))) := zH (fun v hv => play_reach (HP5.out v hv) (HR5.out v hv) (by omega) HF2.out)
 have HC2 : Hid (∀ v, Below w5.heap.size w5 v → ∀ kN, Rds v (some ⟨kN, 0, none⟩) (tyn.map HierM.sv) → Calls Tryz.prog 11 #[.pointer (some ⟨r, 0, none⟩), .pointer (some ⟨u, 0, none⟩), .slice (some ⟨kN, 0, none⟩) 6 6, .slice A5 rs.length d5] v (GivesReach v (reachE ts rs))) := zH (fun v hv kN hn => dreach_any (doc_of (HP5.out v hv) hn) 6 (HR5.out v hv) (by omega))
 have HC3 : Hid (∀ v, Below w5.heap.size w5 v → Calls Tryz.prog 13 #[.pointer (some ⟨g, 0, none⟩), .pointer (some ⟨p, 0, none⟩), .slice A5 rs.length d5] v fun e w' => e = .returned (.tuple #[.int .i64 (liveE ts rs).1, .int .i64 (liveE ts rs).2]) ∧ Below v.heap.size v w') := zH (fun v hv => play_live (HP5.out v hv) (HR5.out v hv) (by omega) HF2.out)
 have HC4 : Hid (∀ v, Below w5.heap.size w5 v → ∀ kN, Rds v (some ⟨kN, 0, none⟩) (tyn.map HierM.sv) → Calls Tryz.prog 14 #[.pointer (some ⟨r, 0, none⟩), .pointer (some ⟨u, 0, none⟩), .slice (some ⟨kN, 0, none⟩) 6 6, .slice A5 rs.length d5] v fun e w' => e = .returned (.tuple #[.int .i64 (liveE ts rs).1, .int .i64 (liveE ts rs).2]) ∧ Below v.heap.size v w') := zH (fun v hv kN hn => dlive_any (doc_of (HP5.out v hv) hn) 6 (HR5.out v hv) (by omega))
 have HC5 : Hid (∀ v, Below w5.heap.size w5 v → ∀ y, Calls Tryz.prog 16 #[.pointer (some ⟨g, 0, none⟩), .pointer (some ⟨p, 0, none⟩), .int .i64 y] v (GivesRefs v (refsX ts y))) := zH (fun v hv y => play_refs (HP5.out v hv) y)
 have HC6 : Hid (∀ v, Below w5.heap.size w5 v → ∀ kN, Rds v (some ⟨kN, 0, none⟩) (tyn.map HierM.sv) → ∀ y, Calls Tryz.prog 17 #[.pointer (some ⟨r, 0, none⟩), .pointer (some ⟨u, 0, none⟩), .slice (some ⟨kN, 0, none⟩) 6 6, .int .i64 y] v (GivesRefs v (refsX ts y))) := zH (fun v hv kN hn y => drefs_any (doc_of (HP5.out v hv) hn) 6 y)
 have HRfl : Hid (∀ y, (refsX ts y).2.length ≤ 5000) := zH (fun y => refs_len (HP5.out w5 (Below.refl _ _)) y)
 have HRel : Hid ((reachE ts rs).2.length ≤ 5000) := zH (reach_len (HP5.out w5 (Below.refl _ _)) rs)
 have HXv : Hid (∀ v, Below w5.heap.size w5 v → v.cell? ⟨x, 0, none⟩ = some (.pointer (some ⟨g, 0, none⟩)) ∧ v.cell? ⟨x, 1, none⟩ = some (.pointer (some ⟨r, 0, none⟩)) ∧ v.cell? ⟨x, 2, none⟩ = some (.pointer (some ⟨p, 0, none⟩)) ∧ v.cell? ⟨x, 3, none⟩ = some (.pointer (some ⟨u, 0, none⟩))) := zH (fun v hv => ⟨(HX5.out.after hv).cell 0, (HX5.out.after hv).cell 1, (HX5.out.after hv).cell 2, (HX5.out.after hv).cell 3⟩)
 clear ho5 hb5 HP
 generalize hre : reachE ts rs = RE at *
 obtain ⟨er, L⟩ := RE
 generalize liveE ts rs = LE at *
 obtain ⟨lv1, lv2⟩ := LE
 simp only at HLF HC3 HC4 HRel
 obtain ⟨i0, i1, i2, i3⟩ := HXv.out _ (Below.refl w5.heap.size w5)
 have hD : Below w5.heap.size w5 w5.drew := ((Below.refl w5.heap.size w5)).drew
 go_wp2_with fail
 go_region_held3 (fun w' => w'.cell? ⟨x, 0, none⟩ = some (.pointer (some ⟨g, 0, none⟩)) ∧ w'.cell? ⟨x, 2, none⟩ = some (.pointer (some ⟨p, 0, none⟩)))
   (first | go_keep)
   (first
     | (go_at_call 10
        refine (HC1.out _ hD).mono ?_
        rintro e v6 ⟨A6, c6, rfl, hr, hb, _⟩
        have hF : Below w5.heap.size w5 v6 := Below.trans hD (hb.mono hD.size)
        have j0 : v6.cell? ⟨x, 0, none⟩ = some (.pointer (some ⟨g, 0, none⟩)) := (HXv.out _ hF).1
        have j2 : v6.cell? ⟨x, 2, none⟩ = some (.pointer (some ⟨p, 0, none⟩)) := (HXv.out _ hF).2.2.1
        have R6 := zH hr
        clear hr
        clear hb))
 have E6 := zH hF
 clear hF hD j0 j2
 clear i0 i1 i2 i3
 obtain ⟨i0, i1, i2, i3⟩ := HXv.out _ E6.out
 have hD : Below w5.heap.size w5 v6.drew := (E6.out).drew
 go_wp2_with fail
 go_region_held3 (fun w' => w'.cell? ⟨x, 1, none⟩ = some (.pointer (some ⟨r, 0, none⟩)) ∧ w'.cell? ⟨x, 3, none⟩ = some (.pointer (some ⟨u, 0, none⟩)))
   (first | go_keep)
   (first
     | (have hG := hN
        clear hG
        go_at_call 11
        refine (HC2.out _ hF kN hN.out).mono ?_
        rintro e v7 ⟨A7, c7, rfl, hr, hb, _⟩
        have hF2 : Below w5.heap.size w5 v7 := Below.trans hF (hb.mono hF.size)
        have j1 : v7.cell? ⟨x, 1, none⟩ = some (.pointer (some ⟨r, 0, none⟩)) := (HXv.out _ hF2).2.1
        have j3 : v7.cell? ⟨x, 3, none⟩ = some (.pointer (some ⟨u, 0, none⟩)) := (HXv.out _ hF2).2.2.2
        have R7 := zH hr
        have T7 := zH (Below.trans ((Below.refl v6.heap.size v6).drew) (Below.trans hFN.out (hb.mono hFN.out.size)))
        clear hr
        clear hb)
     | (go_at_call 12
        refine (names_any _).mono ?_
        rintro e vN7 ⟨kN, rfl, hk, hrn, hbn⟩
        have hF : Below w5.heap.size w5 vN7 := Below.trans hD (hbn.mono hD.size)
        have y1 : vN7.cell? ⟨x, 1, none⟩ = some (.pointer (some ⟨r, 0, none⟩)) := (HXv.out _ hF).2.1
        have y3 : vN7.cell? ⟨x, 3, none⟩ = some (.pointer (some ⟨u, 0, none⟩)) := (HXv.out _ hF).2.2.2
        have hN := zH hrn
        have hFN := zH hbn
        clear hrn hbn))
 have E7 := zH hF2
 clear hF2 hF hD hN j1 j3 y1 y3
 clear i0 i1 i2 i3 hFN
 obtain ⟨i0, i1, i2, i3⟩ := HXv.out _ E7.out
 have hD : Below w5.heap.size w5 v7.drew := (E7.out).drew
 go_wp2_with fail
 go_region_held3 (fun w' => w'.cell? ⟨x, 0, none⟩ = some (.pointer (some ⟨g, 0, none⟩)) ∧ w'.cell? ⟨x, 2, none⟩ = some (.pointer (some ⟨p, 0, none⟩)))
   (first | go_keep)
   (first
     | (go_at_call 13
        refine (HC3.out _ hD).mono ?_
        rintro e v8 ⟨rfl, hb⟩
        have hF : Below w5.heap.size w5 v8 := Below.trans hD (hb.mono hD.size)
        have j0 : v8.cell? ⟨x, 0, none⟩ = some (.pointer (some ⟨g, 0, none⟩)) := (HXv.out _ hF).1
        have j2 : v8.cell? ⟨x, 2, none⟩ = some (.pointer (some ⟨p, 0, none⟩)) := (HXv.out _ hF).2.2.1
        have T8 := zH (Below.trans ((Below.refl v7.heap.size v7).drew) hb)
        clear hb))
 have E8 := zH hF
 clear hF hD j0 j2
 clear i0 i1 i2 i3
 obtain ⟨i0, i1, i2, i3⟩ := HXv.out _ E8.out
 have hD : Below w5.heap.size w5 v8.drew := (E8.out).drew
 go_wp2_with fail
 go_region_held3 (fun w' => w'.cell? ⟨x, 1, none⟩ = some (.pointer (some ⟨r, 0, none⟩)) ∧ w'.cell? ⟨x, 3, none⟩ = some (.pointer (some ⟨u, 0, none⟩)))
   (first | go_keep)
   (first
     | (have hG := hN
        clear hG
        go_at_call 14
        refine (HC4.out _ hF kN hN.out).mono ?_
        rintro e v9 ⟨rfl, hb⟩
        have hF2 : Below w5.heap.size w5 v9 := Below.trans hF (hb.mono hF.size)
        have j1 : v9.cell? ⟨x, 1, none⟩ = some (.pointer (some ⟨r, 0, none⟩)) := (HXv.out _ hF2).2.1
        have j3 : v9.cell? ⟨x, 3, none⟩ = some (.pointer (some ⟨u, 0, none⟩)) := (HXv.out _ hF2).2.2.2
        have T9 := zH (Below.trans ((Below.refl v8.heap.size v8).drew) (Below.trans hFN.out (hb.mono hFN.out.size)))
        clear hb)
     | (go_at_call 12
        refine (names_any _).mono ?_
        rintro e vN9 ⟨kN, rfl, hk, hrn, hbn⟩
        have hF : Below w5.heap.size w5 vN9 := Below.trans hD (hbn.mono hD.size)
        have y1 : vN9.cell? ⟨x, 1, none⟩ = some (.pointer (some ⟨r, 0, none⟩)) := (HXv.out _ hF).2.1
        have y3 : vN9.cell? ⟨x, 3, none⟩ = some (.pointer (some ⟨u, 0, none⟩)) := (HXv.out _ hF).2.2.2
        have hN := zH hrn
        have hFN := zH hbn
        clear hrn hbn))
 have E9 := zH hF2
 clear hF2 hF hD hN j1 j3 y1 y3
 clear i0 i1 i2 i3 hFN
 have T79 := zH (Below.trans T8.out (T9.out.mono T8.out.size))
 have T69 := zH (Below.trans T7.out (T79.out.mono T7.out.size))
 have hLl : L.length ≤ 5000 := HRel.out
 have HSm := zH ((HpS.same_any A6 A7 L.length L.length c6 c7 L L v9 rfl rfl (by omega) (by omega) (R6.out.below T69.out) (R7.out.below T79.out)).mono (R' := fun e w' => e = .returned (.bool true) ∧ ∃ q, w' = v9.drewN q) (fun e w' h => ⟨h.1.trans (by rw [decide_eq_true (rfl : L = L)]), h.2⟩))
 have he : (er != er) = false := by simp
 have h2 : (lv2 != lv2) = false := by simp
 have h1 : (lv1 != lv1) = false := by simp
 have HDn : Hid (∀ q, Below w5.heap.size w5 (v9.drewN q)) := zH (fun q => E9.out.trans ((HpE.drewN_below v9 q).mono E9.out.size))
 clear R6 R7 T79 T69 T7 T8 T9 HC1 HC2 HC3 HC4 E6 E7 E8
 have hlf := HLF.out
 have H9 : Hid (∀ (vv : World), Below w5.heap.size w5 vv → True) := zH (fun _ _ => trivial)
 have hlv : (lv2 = 0) ∨ (lv2 ≠ 0 ∧ lv1 = 0) := by
   by_cases h : lv2 = 0
   · exact .inl h
   · exact .inr ⟨h, hlf h⟩
 clear hlf H9
 rcases hlv with hz | ⟨hz, hz1⟩
 · have hz' : (lv2 == 0) = true := by simpa using hz
   have hz2 : (lv2 != 0) = false := by simpa using hz
   clear hz
   go_wp2_with (go_at_call 15; refine HSm.out.mono ?_; rintro e v10 ⟨rfl, q, rfl⟩; have HF10 := zH (HDn.out q))
   go_loopw [19] (fun i wr => ∃ k : Nat, k ≤ rs.length ∧ i = .int .i64 (k : Int) ∧ Below w5.heap.size w5 wr) (fun i _ => rs.length - (intOf i).toNat)
   case atStart => exact ⟨0, Nat.zero_le _, rfl, HF10.out⟩
   case round =>
     obtain ⟨i, hi, rfl, hbel⟩ := hrel
     have HB := zH hbel
     by_cases hlt : i < rs.length
     · obtain ⟨g5, hA5, hg5⟩ := HpB.own_head O5.out (by omega)
       subst hA5
       have hy : Hid (∀ v, Below w5.heap.size w5 v → v.cell? ⟨g5, i, none⟩ = some (.int .i64 rs[i])) := zH (fun v hv => (hv.cell (p := ⟨g5, i, none⟩) hg5).trans (HpB.own_cell O5.out (List.getElem?_eq_getElem hlt)))
       have hi1 : (i : Int) < (rs.length : Int) := by omega
       have HXw := zH (HXv.out wr hbel)
       have HYw := zH (hy.out wr hbel)
       have hD : Below w5.heap.size w5 wr.drew := hbel.drew
       have HFl := HRfl.out rs[i]
       clear hbel
       generalize rs[i] = y at *
       have i0 := HXw.out.1
       have i2 := HXw.out.2.2.1
       have iy := HYw.out
       generalize hrf : refsX ts y = RF at *
       obtain ⟨re, ls⟩ := RF
       simp only at HFl
       have HC5y : Hid (∀ v, Below w5.heap.size w5 v → Calls Tryz.prog 16 #[.pointer (some ⟨g, 0, none⟩), .pointer (some ⟨p, 0, none⟩), .int .i64 y] v (GivesRefs v (re, ls))) := zH (fun v hv => by have := HC5.out v hv y; rw [hrf] at this; exact this)
       have HC6y : Hid (∀ v, Below w5.heap.size w5 v → ∀ kN, Rds v (some ⟨kN, 0, none⟩) (tyn.map HierM.sv) → Calls Tryz.prog 17 #[.pointer (some ⟨r, 0, none⟩), .pointer (some ⟨u, 0, none⟩), .slice (some ⟨kN, 0, none⟩) 6 6, .int .i64 y] v (GivesRefs v (re, ls))) := zH (fun v hv kN hn => by have := HC6.out v hv kN hn y; rw [hrf] at this; exact this)
       clear hrf
       go_wp2_with fail
       go_region_held3 (fun w' => w'.cell? ⟨x, 0, none⟩ = some (.pointer (some ⟨g, 0, none⟩)) ∧ w'.cell? ⟨x, 2, none⟩ = some (.pointer (some ⟨p, 0, none⟩)) ∧ w'.cell? ⟨g5, i, none⟩ = some (.int .i64 y))
         (first | go_keep)
         (first
           | (go_at_call 16
              refine (HC5y.out _ hD).mono ?_
              rintro e v11 ⟨A8, c8, rfl, hr, hc8, hb, _⟩
              have hF : Below w5.heap.size w5 v11 := Below.trans hD (hb.mono hD.size)
              have j0 : v11.cell? ⟨x, 0, none⟩ = some (.pointer (some ⟨g, 0, none⟩)) := (HXv.out _ hF).1
              have j2 : v11.cell? ⟨x, 2, none⟩ = some (.pointer (some ⟨p, 0, none⟩)) := (HXv.out _ hF).2.2.1
              have jy : v11.cell? ⟨g5, i, none⟩ = some (.int .i64 y) := hy.out _ hF
              have R8 := zH hr
              clear hb hr))
       have E11 := zH hF
       clear hF hD j0 j2 jy i0 i2 iy
       have i1 := (HXv.out _ E11.out).2.1
       have i3 := (HXv.out _ E11.out).2.2.2
       have iy := hy.out _ E11.out
       have hD : Below w5.heap.size w5 v11.drew := E11.out.drew
       go_wp2_with fail
       go_region_held3 (fun w' => w'.cell? ⟨x, 1, none⟩ = some (.pointer (some ⟨r, 0, none⟩)) ∧ w'.cell? ⟨x, 3, none⟩ = some (.pointer (some ⟨u, 0, none⟩)) ∧ w'.cell? ⟨g5, i, none⟩ = some (.int .i64 y))
         (first | go_keep)
         (first
           | (have hG := hN
              clear hG
              go_at_call 17
              refine (HC6y.out _ hF kN hN.out).mono ?_
              rintro e v12 ⟨A9, c9, rfl, hr, hc9, hb, _⟩
              have hF2 : Below w5.heap.size w5 v12 := Below.trans hF (hb.mono hF.size)
              have j1 : v12.cell? ⟨x, 1, none⟩ = some (.pointer (some ⟨r, 0, none⟩)) := (HXv.out _ hF2).2.1
              have j3 : v12.cell? ⟨x, 3, none⟩ = some (.pointer (some ⟨u, 0, none⟩)) := (HXv.out _ hF2).2.2.2
              have jy : v12.cell? ⟨g5, i, none⟩ = some (.int .i64 y) := hy.out _ hF2
              have R9 := zH hr
              have T9 := zH (Below.trans ((Below.refl v11.heap.size v11).drew) (Below.trans hFN.out (hb.mono hFN.out.size)))
              clear hb hr)
           | (go_at_call 12
              refine (names_any _).mono ?_
              rintro e vN ⟨kN, rfl, hk, hrn, hbn⟩
              have hF : Below w5.heap.size w5 vN := Below.trans hD (hbn.mono hD.size)
              have y1 : vN.cell? ⟨x, 1, none⟩ = some (.pointer (some ⟨r, 0, none⟩)) := (HXv.out _ hF).2.1
              have y3 : vN.cell? ⟨x, 3, none⟩ = some (.pointer (some ⟨u, 0, none⟩)) := (HXv.out _ hF).2.2.2
              have yy : vN.cell? ⟨g5, i, none⟩ = some (.int .i64 y) := hy.out _ hF
              have hN := zH hrn
              have hFN := zH hbn
              clear hrn hbn))
       have E12 := zH hF2
       have HI := zH ((CeI.ints_any A8 A9 ls ls ls.length ls.length c8 c9 v12 rfl rfl (by unfold maxLen; omega) (R8.out.below T9.out) R9.out).mono (R' := fun e w' => e = .returned (.bool true) ∧ Below v12.heap.size v12 w') (fun e w' h => ⟨h.1.trans (by rw [decide_eq_true (rfl : ls = ls)]), h.2⟩))
       have hre2 : (re != re) = false := by simp
       clear hF2 hF hD hN j1 j3 jy y1 y3 yy i1 i3 iy hFN
       go_wp2_with (go_at_call 18; refine HI.out.mono ?_; rintro e v13 ⟨rfl, hb13⟩; have E13 := zH (E12.out.trans (hb13.mono E12.out.size)); clear hb13)
       go_roundw
       case rel => exact ⟨i + 1, by omega, by go_num, E13.out⟩
       case measure => simp [intOf]; omega
     · have hi1 : ¬ (i : Int) < (rs.length : Int) := by omega
       have BF := zH (B5.out.trans (hbel.mono B5.out.size))
       clear hbel
       go_wp2_with (go_at_call 19; refine (HK.out _ BF.out).mono ?_; rintro e v14 ⟨rfl, hb14⟩; have E14 := zH hb14; clear hb14)
       go_ret
       exact ⟨rfl, E14.out⟩
 · have hz' : (lv2 == 0) = false := by simpa using hz
   have hz2 : (lv2 != 0) = true := by simpa using hz
   have hz3 : (lv1 != 0) = false := by simpa using hz1
   clear hz hz1
   go_wp2_with (go_at_call 15; refine HSm.out.mono ?_; rintro e v10 ⟨rfl, q, rfl⟩; have HF10 := zH (HDn.out q))
   go_loopw [19] (fun i wr => ∃ k : Nat, k ≤ rs.length ∧ i = .int .i64 (k : Int) ∧ Below w5.heap.size w5 wr) (fun i _ => rs.length - (intOf i).toNat)
   case atStart => exact ⟨0, Nat.zero_le _, rfl, HF10.out⟩
   case round =>
     obtain ⟨i, hi, rfl, hbel⟩ := hrel
     have HB := zH hbel
     by_cases hlt : i < rs.length
     · obtain ⟨g5, hA5, hg5⟩ := HpB.own_head O5.out (by omega)
       subst hA5
       have hy : Hid (∀ v, Below w5.heap.size w5 v → v.cell? ⟨g5, i, none⟩ = some (.int .i64 rs[i])) := zH (fun v hv => (hv.cell (p := ⟨g5, i, none⟩) hg5).trans (HpB.own_cell O5.out (List.getElem?_eq_getElem hlt)))
       have hi1 : (i : Int) < (rs.length : Int) := by omega
       have HXw := zH (HXv.out wr hbel)
       have HYw := zH (hy.out wr hbel)
       have hD : Below w5.heap.size w5 wr.drew := hbel.drew
       have HFl := HRfl.out rs[i]
       clear hbel
       generalize rs[i] = y at *
       have i0 := HXw.out.1
       have i2 := HXw.out.2.2.1
       have iy := HYw.out
       generalize hrf : refsX ts y = RF at *
       obtain ⟨re, ls⟩ := RF
       simp only at HFl
       have HC5y : Hid (∀ v, Below w5.heap.size w5 v → Calls Tryz.prog 16 #[.pointer (some ⟨g, 0, none⟩), .pointer (some ⟨p, 0, none⟩), .int .i64 y] v (GivesRefs v (re, ls))) := zH (fun v hv => by have := HC5.out v hv y; rw [hrf] at this; exact this)
       have HC6y : Hid (∀ v, Below w5.heap.size w5 v → ∀ kN, Rds v (some ⟨kN, 0, none⟩) (tyn.map HierM.sv) → Calls Tryz.prog 17 #[.pointer (some ⟨r, 0, none⟩), .pointer (some ⟨u, 0, none⟩), .slice (some ⟨kN, 0, none⟩) 6 6, .int .i64 y] v (GivesRefs v (re, ls))) := zH (fun v hv kN hn => by have := HC6.out v hv kN hn y; rw [hrf] at this; exact this)
       clear hrf
       go_wp2_with fail
       go_region_held3 (fun w' => w'.cell? ⟨x, 0, none⟩ = some (.pointer (some ⟨g, 0, none⟩)) ∧ w'.cell? ⟨x, 2, none⟩ = some (.pointer (some ⟨p, 0, none⟩)) ∧ w'.cell? ⟨g5, i, none⟩ = some (.int .i64 y))
         (first | go_keep)
         (first
           | (go_at_call 16
              refine (HC5y.out _ hD).mono ?_
              rintro e v11 ⟨A8, c8, rfl, hr, hc8, hb, _⟩
              have hF : Below w5.heap.size w5 v11 := Below.trans hD (hb.mono hD.size)
              have j0 : v11.cell? ⟨x, 0, none⟩ = some (.pointer (some ⟨g, 0, none⟩)) := (HXv.out _ hF).1
              have j2 : v11.cell? ⟨x, 2, none⟩ = some (.pointer (some ⟨p, 0, none⟩)) := (HXv.out _ hF).2.2.1
              have jy : v11.cell? ⟨g5, i, none⟩ = some (.int .i64 y) := hy.out _ hF
              have R8 := zH hr
              clear hb hr))
       have E11 := zH hF
       clear hF hD j0 j2 jy i0 i2 iy
       have i1 := (HXv.out _ E11.out).2.1
       have i3 := (HXv.out _ E11.out).2.2.2
       have iy := hy.out _ E11.out
       have hD : Below w5.heap.size w5 v11.drew := E11.out.drew
       go_wp2_with fail
       go_region_held3 (fun w' => w'.cell? ⟨x, 1, none⟩ = some (.pointer (some ⟨r, 0, none⟩)) ∧ w'.cell? ⟨x, 3, none⟩ = some (.pointer (some ⟨u, 0, none⟩)) ∧ w'.cell? ⟨g5, i, none⟩ = some (.int .i64 y))
         (first | go_keep)
         (first
           | (have hG := hN
              clear hG
              go_at_call 17
              refine (HC6y.out _ hF kN hN.out).mono ?_
              rintro e v12 ⟨A9, c9, rfl, hr, hc9, hb, _⟩
              have hF2 : Below w5.heap.size w5 v12 := Below.trans hF (hb.mono hF.size)
              have j1 : v12.cell? ⟨x, 1, none⟩ = some (.pointer (some ⟨r, 0, none⟩)) := (HXv.out _ hF2).2.1
              have j3 : v12.cell? ⟨x, 3, none⟩ = some (.pointer (some ⟨u, 0, none⟩)) := (HXv.out _ hF2).2.2.2
              have jy : v12.cell? ⟨g5, i, none⟩ = some (.int .i64 y) := hy.out _ hF2
              have R9 := zH hr
              have T9 := zH (Below.trans ((Below.refl v11.heap.size v11).drew) (Below.trans hFN.out (hb.mono hFN.out.size)))
              clear hb hr)
           | (go_at_call 12
              refine (names_any _).mono ?_
              rintro e vN ⟨kN, rfl, hk, hrn, hbn⟩
              have hF : Below w5.heap.size w5 vN := Below.trans hD (hbn.mono hD.size)
              have y1 : vN.cell? ⟨x, 1, none⟩ = some (.pointer (some ⟨r, 0, none⟩)) := (HXv.out _ hF).2.1
              have y3 : vN.cell? ⟨x, 3, none⟩ = some (.pointer (some ⟨u, 0, none⟩)) := (HXv.out _ hF).2.2.2
              have yy : vN.cell? ⟨g5, i, none⟩ = some (.int .i64 y) := hy.out _ hF
              have hN := zH hrn
              have hFN := zH hbn
              clear hrn hbn))
       have E12 := zH hF2
       have HI := zH ((CeI.ints_any A8 A9 ls ls ls.length ls.length c8 c9 v12 rfl rfl (by unfold maxLen; omega) (R8.out.below T9.out) R9.out).mono (R' := fun e w' => e = .returned (.bool true) ∧ Below v12.heap.size v12 w') (fun e w' h => ⟨h.1.trans (by rw [decide_eq_true (rfl : ls = ls)]), h.2⟩))
       have hre2 : (re != re) = false := by simp
       clear hF2 hF hD hN j1 j3 jy y1 y3 yy i1 i3 iy hFN
       go_wp2_with (go_at_call 18; refine HI.out.mono ?_; rintro e v13 ⟨rfl, hb13⟩; have E13 := zH (E12.out.trans (hb13.mono E12.out.size)); clear hb13)
       go_roundw
       case rel => exact ⟨i + 1, by omega, by go_num, E13.out⟩
       case measure => simp [intOf]; omega
     · have hi1 : ¬ (i : Int) < (rs.length : Int) := by omega
       have BF := zH (B5.out.trans (hbel.mono B5.out.size))
       clear hbel
       go_wp2_with (go_at_call 19; refine (HK.out _ BF.out).mono ?_; rintro e v14 ⟨rfl, hb14⟩; have E14 := zH hb14; clear hb14)
       go_ret
       exact ⟨rfl, E14.out⟩
end WCollectReaches
end Go.Proofs.YtmkdhdmkdcankaaGreatDoor
