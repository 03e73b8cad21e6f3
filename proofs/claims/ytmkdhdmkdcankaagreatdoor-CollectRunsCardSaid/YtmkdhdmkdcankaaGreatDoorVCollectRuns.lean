/- pieces -/
import Derived.Test.YtmkdhdmkdcankaaGreatDoorKcA
namespace Go.Proofs.YtmkdhdmkdcankaaGreatDoor
namespace WCollectRuns
open Go.RowKit Base BinM HpM HpA HpB HpG HpR ClM ClA ClC ClX ClY ClZ ClI ClJ ClP ClQ ClL ClO ClS ClH CeB CeC CeR CeL CeS CeN CeT
theorem roots_fit {w wr : World} {x g r p u : Nat} {ts : List Th} (P : Qb w wr x g r p u ts) {l : List Int} (hl : ∀ y ∈ l, zo y) (raw : Bool) : ∀ y ∈ Y5 ts l raw, zo y := by
 obtain ⟨⟨w1, h1, S, h2⟩, h3⟩ := P
 intro y hy
 obtain ⟨z, hz, rfl⟩ := List.mem_map.1 hy
 have hz' := hl z (List.mem_of_mem_take hz)
 unfold Qp
 split
 · exact hz'
 · split
   · unfold zo; omega
   · split
     · exact kD S _
     · exact hz'
theorem roots_len (ts : List Th) (l : List Int) (raw : Bool) : (Y5 ts l raw).length ≤ 20 := by
 unfold Y5
 rw [List.length_map, List.length_take]
 omega
theorem Jp {w w' : World} {base : Nat} {v : Value} {l : List Int} (h : zT w base v l) (hb : Below w.heap.size w w') : zT w' base v l := ze h (fun k hk => hb.block k (h.lt k hk).2)
set_option maxRecDepth 100000 in
set_option maxHeartbeats 16000000 in
theorem walk (a0 : Option Addr) (m0 c0 : Nat) (l0 : List OpenMk.MkT) (a1 : Option Addr) (m1 c1 : Nat) (l1 : List OpenMk.StT) (a2 : Option Addr) (m2 c2 : Nat) (l2 : List Int) (a3 : Bool) (w : World) (hl : InsA.Laid w) (wm0 : m0 = l0.length) (_ : m0 ≤ c0) (_ : c0 ≤ maxLen) (wr0 : Rds w a0 (l0.flatMap OpenMk.mkV)) (b0 : ∀ x ∈ l0, OpenMk.mkOk x) (wm1 : m1 = l1.length) (_ : m1 ≤ c1) (_ : c1 ≤ maxLen) (wr1 : Rds w a1 (l1.flatMap OpenMk.stV)) (b1 : ∀ x ∈ l1, OpenMk.stOk x) (w2 : Uq w a2 m2 c2 l2) (_ : c2 * 8 ≤ 140737488351232) :
 Calls Tryz.prog 4 #[.slice a0 m0 c0, .slice a1 m1 c1, .slice a2 m2 c2, .bool a3] w fun e w' => e = .returned (.bool true) ∧ Below w.heap.size w w' := by
 subst wm0
 subst wm1
 obtain ⟨rfl, _, _, hr2, hf2⟩ := w2
 have HBg := zH (ClK.Vj a0 a1 c0 c1 l0 l1 w wr0 b0 wr1 b1 hl)
 have HK := zH (fun v (hv : Below w.heap.size w v) => (ClO.J9 v (hl.below hv hl.1)).mono fun e w' (h : e = .returned (.bool true) ∧ Below v.heap.size v w') => (⟨h.1, hv.trans (h.2.mono hv.size)⟩ : e = .returned (.bool true) ∧ Below w.heap.size w w'))
 have R2 := zH hr2
 have F2 := zH hf2
 clear hl wr0 b0 wr1 b1 hr2 hf2
 go_enter Tryz.func4, Tryz.ntmps4
 go_wp2_with fail
 refine HBg.out.mono ?_
 rintro e w4 ⟨x, rfl, g, r, p, u, hP⟩
 have HP := zH hP
 have B4 := zH (ClP.Qb.low hP)
 have HF2 := zH (roots_fit hP F2.out a3)
 have HL2 := zH (roots_len (JB l0 l1) l2 a3)
 clear hP HBg
 go_wp2_with fail
 refine (roots_any HP.out a2 c2 l2 (R2.out.below B4.out) a3).mono ?_
 rintro e w5 ⟨v5, rfl, ho5, hb5⟩
 have C5 := zH hb5
 have B5 := zH (B4.out.trans (hb5.mono B4.out.size))
 have HP5 := zH (fun v (hv : Below w5.heap.size w5 v) => ClP.Qb.later HP.out (hb5.trans (hv.mono hb5.size)))
 generalize Y5 (JB l0 l1) l2 a3 = rs at *
 generalize JB l0 l1 = ts at *
 obtain ⟨A5, d5, rfl, _, _, hA5, _⟩ := zi ho5
 have HA5 := zH hA5
 have R5 := zH (Rds.own ho5)
 have hrl := HL2.out
 obtain ⟨hs0, hraw, hfits⟩ := play_s (HP5.out w5 (Below.refl _ _))
 have HS0 := zH hs0
 have HFts := zH hfits
 have HX5 := zH (ClP.Qb.box (HP5.out w5 (Below.refl _ _)))
 have HXv : Hid (∀ v, Below w5.heap.size w5 v → v.cell? ⟨x, 0, none⟩ = some (.pointer (some ⟨g, 0, none⟩)) ∧ v.cell? ⟨x, 1, none⟩ = some (.pointer (some ⟨r, 0, none⟩)) ∧ v.cell? ⟨x, 2, none⟩ = some (.pointer (some ⟨p, 0, none⟩)) ∧ v.cell? ⟨x, 3, none⟩ = some (.pointer (some ⟨u, 0, none⟩))) := zH (fun v hv => ⟨(HX5.out.after hv).cell 0, (HX5.out.after hv).cell 1, (HX5.out.after hv).cell 2, (HX5.out.after hv).cell 3⟩)
 have HRu := zH (fun v (hv : Below w5.heap.size w5 v) => play_run4 (cr := d5) HP.out (C5.out.trans (hv.mono C5.out.size)) (R5.out.below hv) (fun a ha => (HA5.out a ha).1) (by omega) HF2.out)
 have HRw0 := zH (Km (HP5.out w5 (Below.refl _ _)))
 clear ho5 hb5 hA5 hs0 hfits
 cases hr : zn ts rs with
 | mk er out =>
 rw [hr] at HRu
 have HR := zH hr
 clear hr
 obtain ⟨i0, i1, i2, i3⟩ := HXv.out _ (Below.refl w5.heap.size w5)
 go_wp2_with fail
 refine HRw0.out.mono ?_
 rintro e v6 ⟨x6, rfl, ho6, hb6⟩
 obtain ⟨A6, d6, rfl, _, _, hA6, _⟩ := zi ho6
 have HA6 := zH hA6
 have R6 := zH (Rds.own ho6)
 have E6 := zH hb6
 clear ho6 hb6 hA6 i0 i1 i2 i3 HRw0
 obtain ⟨i0, i1, i2, i3⟩ := HXv.out _ E6.out
 have hD : Below w5.heap.size w5 v6.drew := (E6.out).drew
 by_cases he : er = 0
 · subst he
   have HRu2 := zH (show Calls Tryz.prog 21 #[.pointer (some ⟨g, 0, none⟩), .pointer (some ⟨p, 0, none⟩), .slice A5 rs.length d5] v6.drew fun e w' => ∃ g2 b, e = .returned (.tuple #[.pointer (some ⟨g2, 0, none⟩), .slice (some ⟨b, 0, none⟩) rs.length rs.length, .int .i64 0]) ∧ Af w w4 v6.drew w' x g r p u g2 b ts rs out from (HRu.out v6.drew hD).mono (by
    rintro e w' (⟨h1, _⟩ | ⟨_, h2⟩)
    · exact absurd rfl h1
    · exact h2))
   clear hD HRu
   go_wp2_with fail
   go_region_held3 (fun w' => w'.cell? ⟨x, 0, none⟩ = some (.pointer (some ⟨g, 0, none⟩)) ∧ w'.cell? ⟨x, 2, none⟩ = some (.pointer (some ⟨p, 0, none⟩)))
    (first | go_keep)
    (first
     | (go_at_call 21
        refine HRu2.out.mono ?_
        rintro e v7 ⟨g2, b, rfl, hAf⟩
        have j0 : v7.cell? ⟨x, 0, none⟩ = some (.pointer (some ⟨g, 0, none⟩)) := hAf.box.cell 0
        have j2 : v7.cell? ⟨x, 2, none⟩ = some (.pointer (some ⟨p, 0, none⟩)) := hAf.box.cell 2
        have AF := zH hAf
        clear hAf))
   clear HRu2 j0 j2 i0 i1 i2 i3
   obtain ⟨hfn, hol⟩ := news_fits HFts.out HR.out
   have HFn := zH hfn
   have X7 : Hid (∀ v, Below v7.heap.size v7 v → v.cell? ⟨x, 0, none⟩ = some (.pointer (some ⟨g, 0, none⟩)) ∧ v.cell? ⟨x, 1, none⟩ = some (.pointer (some ⟨r, 0, none⟩)) ∧ v.cell? ⟨x, 2, none⟩ = some (.pointer (some ⟨p, 0, none⟩)) ∧ v.cell? ⟨x, 3, none⟩ = some (.pointer (some ⟨u, 0, none⟩))) := zH (fun v hv => ⟨(AF.out.box.after hv).cell 0, (AF.out.box.after hv).cell 1, (AF.out.box.after hv).cell 2, (AF.out.box.after hv).cell 3⟩)
   have R57 := zH (AF.out.rows A5 _ (R5.out.below E6.out.drew) (fun a ha => (HA5.out a ha).1))
   have R67 := zH (AF.out.rows A6 _ (R6.out.below (Below.refl _ _).drew) (fun a ha => Nat.le_trans C5.out.size (HA6.out a ha).1))
   have HDR := zH (fun v (hv : Below v7.heap.size v7 v) kN (hn : Rds v (some ⟨kN, 0, none⟩) (tyn.map HierM.sv)) => (gP (AF.out.doc v hv _ hn) HS0.out 6 (cr := d5) (R57.out.below hv) (by omega)).mono (R' := fun e w' => ∃ r2 A8 c8, e = .returned (.tuple #[.pointer (some ⟨r2, 0, none⟩), .slice A8 rs.length c8, .int .i64 0]) ∧ Below v.heap.size v w' ∧ Rds w' A8 ((rs.map (sF ts out)).map (Value.int .i64)) ∧ ∃ AL cL ms, RfX w' r2 AL cL 400 ms ∧ things ms = news ts out) (fun e w' h => by
    obtain ⟨h1, (⟨h2, _⟩ | ⟨_, r2, A8, c8, h3, h4, AL, cL, ms, h5, h6, _⟩)⟩ := h
    · rw [HR.out] at h2
      exact absurd rfl h2
    · rw [HR.out] at h4 h6
      exact ⟨r2, A8, c8, h3, h1, h4, AL, cL, ms, h5, h6⟩))
   have HDe := zH (fun v (hv : Below v7.heap.size v7 v) kN (hn : Rds v (some ⟨kN, 0, none⟩) (tyn.map HierM.sv)) => by have := Ud (AF.out.doc v hv _ hn) 6 (cr := d5) (R57.out.below hv) (by omega); rw [HR.out] at this; exact this)
   clear HP5 HXv HX5 R5 R6 HA5 HA6 E6 hfn
   obtain ⟨i0, i1, i2, i3⟩ := X7.out _ (Below.refl v7.heap.size v7)
   have hD : Below v7.heap.size v7 v7.drew := ((Below.refl v7.heap.size v7)).drew
   go_wp2_with fail
   go_region_held3 (fun w' => w'.cell? ⟨x, 1, none⟩ = some (.pointer (some ⟨r, 0, none⟩)) ∧ w'.cell? ⟨x, 3, none⟩ = some (.pointer (some ⟨u, 0, none⟩)))
    (first | go_keep)
    (first
     | (have hG := hN
        clear hG
        go_at_call 22
        refine (HDR.out _ hF kN hN.out).mono ?_
        rintro e v8 ⟨r2, A8, c8, rfl, hb, hr8, hx8⟩
        have hF2 : Below v7.heap.size v7 v8 := Below.trans hF (hb.mono hF.size)
        have j1 : v8.cell? ⟨x, 1, none⟩ = some (.pointer (some ⟨r, 0, none⟩)) := (X7.out _ hF2).2.1
        have j3 : v8.cell? ⟨x, 3, none⟩ = some (.pointer (some ⟨u, 0, none⟩)) := (X7.out _ hF2).2.2.2
        have R8 := zH hr8
        have N8 := zH hx8
        clear hb hr8 hx8)
     | (go_at_call 12
        refine (Qe _).mono ?_
        rintro e vN8 ⟨kN, rfl, hk, hrn, hbn⟩
        have hF : Below v7.heap.size v7 vN8 := Below.trans hD (hbn.mono hD.size)
        have y1 : vN8.cell? ⟨x, 1, none⟩ = some (.pointer (some ⟨r, 0, none⟩)) := (X7.out _ hF).2.1
        have y3 : vN8.cell? ⟨x, 3, none⟩ = some (.pointer (some ⟨u, 0, none⟩)) := (X7.out _ hF).2.2.2
        have hN := zH hrn
        clear hrn hbn))
   have E8 := zH hF2
   clear hF2 hF hD hN j1 j3 y1 y3
   clear i0 i1 i2 i3 HDR
   obtain ⟨AL, cL, ms, hX8, hms⟩ := N8.out
   have HX8 := zH hX8
   have HMs := zH hms
   clear hX8 hms N8
   obtain ⟨i0, i1, i2, i3⟩ := X7.out _ E8.out
   go_wp2_with fail
   refine (AF.out.rawG v8 E8.out).mono ?_
   rintro e v9 ⟨x9, rfl, ho9, hb9⟩
   obtain ⟨A9, d9, rfl, _⟩ := zi ho9
   have R9 := zH (Rds.own ho9)
   have E9 := zH (E8.out.trans (hb9.mono E8.out.size))
   have T9 := zH hb9
   have HS9 := zH ((HpS.j6 A9 A6 (raw ts).length (raw ts).length d9 d6 (raw ts) (raw ts) v9 rfl rfl (by omega) (by omega) R9.out (R67.out.below E9.out)).mono (R' := fun e w' => e = .returned (.bool true) ∧ ∃ q, w' = v9.drewN q) (fun e w' h => ⟨h.1.trans (by rw [decide_eq_true (rfl : raw ts = raw ts)]), h.2⟩))
   clear ho9 hb9 i0 i1 i2 i3 R67 R9
   have HE := zH (fun v (hv : Below v8.heap.size v8 v) => E8.out.trans (hv.mono E8.out.size))
   have X8 := zH (fun v (hv : Below v8.heap.size v8 v) => X7.out v (HE.out v hv))
   have hml : ms.length = out.length := by
    have := congrArg List.length HMs.out
    unfold things at this
    rw [List.length_map, ji] at this
    exact this
   have hrn : (raw (news ts out)).length ≤ 400 := HFn.out.len
   go_wp2_with fail
   refine HS9.out.mono ?_
   rintro e v10 ⟨rfl, q, rfl⟩
   have T10 := zH (T9.out.trans ((HpE.zf v9 q).mono T9.out.size))
   clear HS9 E9 T9
   generalize v9.drewN q = v10 at *
   have SAB : Hid (∀ v, Below v8.heap.size v8 v → Calls Tryz.prog 15 #[.slice (some ⟨b, 0, none⟩) rs.length rs.length, .slice A8 rs.length c8] v fun e w' => e = .returned (.bool true) ∧ Below v.heap.size v w') := zH (fun v hv => (HpS.j6 (some ⟨b, 0, none⟩) A8 rs.length rs.length rs.length c8 (rs.map (sF ts out)) (rs.map (sF ts out)) v (by rw [List.length_map]) (by rw [List.length_map]) (by omega) (by omega) (AF.out.res.below (HE.out _ hv)) (R8.out.below hv)).mono (fun e w' h => ⟨h.1.trans (by rw [decide_eq_true rfl]), by obtain ⟨_, q, rfl⟩ := h; exact HpE.zf v q⟩))
   have SRR : Hid (∀ v, Below v8.heap.size v8 v → ∀ A12 d12 A13 d13, Rds v A12 ((raw (news ts out)).map (Value.int .i64)) → Rds v A13 ((raw (news ts out)).map (Value.int .i64)) → Calls Tryz.prog 15 #[.slice A12 (raw (news ts out)).length d12, .slice A13 (raw (news ts out)).length d13] v fun e w' => e = .returned (.bool true) ∧ Below v.heap.size v w') := zH (fun v hv A12 d12 A13 d13 h12 h13 => (HpS.j6 A12 A13 (raw (news ts out)).length (raw (news ts out)).length d12 d13 (raw (news ts out)) (raw (news ts out)) v rfl rfl (by omega) (by omega) h12 h13).mono (fun e w' h => ⟨h.1.trans (by rw [decide_eq_true rfl]), by obtain ⟨_, q, rfl⟩ := h; exact HpE.zf v q⟩))
   have HRR : Hid (∀ v, Below v8.heap.size v8 v → Calls Tryz.prog 23 #[.pointer (some ⟨r2, 0, none⟩)] v (jy v (raw (news ts out)))) := zH (fun v hv => by
    have hrr := CeU.rraw_any (HX8.out.beside hv) (by omega) (by rw [HMs.out]; omega) (fun m hm => HFn.out.ids m.t (by rw [← HMs.out]; exact List.mem_map.2 ⟨m, hm, rfl⟩))
    rw [HMs.out] at hrr
    exact hrr)
   obtain ⟨i0, i1, i2, i3⟩ := X8.out _ T10.out
   have hD : Below v8.heap.size v8 v10.drew := (T10.out).drew
   go_wp2_with fail
   go_region_held3 (fun w' => w'.cell? ⟨x, 0, none⟩ = some (.pointer (some ⟨g, 0, none⟩)))
    (first | go_keep)
    (first
     | (have hG := M3
        clear hG
        go_at_call 15
        refine (SRR.out _ h13 _ _ _ _ (R12.out.below B13.out) R13.out).mono ?_
        rintro e v14 ⟨rfl, hb⟩
        have h14 : Below v8.heap.size v8 v14 := Below.trans h13 (hb.mono h13.size)
        have y14 : v14.cell? ⟨x, 0, none⟩ = some (.pointer (some ⟨g, 0, none⟩)) := (X8.out _ h14).1
        clear hb)
     | (go_at_call 15
        refine (SAB.out _ hD).mono ?_
        rintro e v11 ⟨rfl, hb⟩
        have h11 : Below v8.heap.size v8 v11 := Below.trans hD (hb.mono hD.size)
        have y11 : v11.cell? ⟨x, 0, none⟩ = some (.pointer (some ⟨g, 0, none⟩)) := (X8.out _ h11).1
        clear hb)
     | (go_at_call 20
        refine (AF.out.rawN _ (HE.out _ h11)).mono ?_
        rintro e v12 ⟨x12, rfl, ho12, hb⟩
        obtain ⟨A12, d12, rfl, _⟩ := zi ho12
        have R12 := zH (Rds.own ho12)
        have h12 : Below v8.heap.size v8 v12 := Below.trans h11 (hb.mono h11.size)
        have y12 : v12.cell? ⟨x, 0, none⟩ = some (.pointer (some ⟨g, 0, none⟩)) := (X8.out _ h12).1
        clear hb ho12)
     | (go_at_call 23
        refine (HRR.out _ h12).mono ?_
        rintro e v13 ⟨x13, rfl, ho13, hb⟩
        obtain ⟨A13, d13, rfl, _⟩ := zi ho13
        have R13 := zH (Rds.own ho13)
        have B13 := zH hb
        have h13 : Below v8.heap.size v8 v13 := Below.trans h12 (hb.mono h12.size)
        have y13 : v13.cell? ⟨x, 0, none⟩ = some (.pointer (some ⟨g, 0, none⟩)) := (X8.out _ h13).1
        have M3 : Hid True := zH trivial
        clear hb ho13)
     | (have hG := hC
        clear hG
        go_at_call 24
        refine (AF.out.capG _ (HE.out _ h15)).mono ?_
        rintro e v16 ⟨rfl, hb⟩
        have h16 : Below v8.heap.size v8 v16 := by rw [← hb]; exact h15
        have y16 : v16.cell? ⟨x, 0, none⟩ = some (.pointer (some ⟨g, 0, none⟩)) := (X8.out _ h16).1
        clear hb)
     | (go_at_call 24
        refine (AF.out.capN _ (HE.out _ h14)).mono ?_
        rintro e v15 ⟨rfl, hb⟩
        have h15 : Below v8.heap.size v8 v15 := by rw [← hb]; exact h14
        have y15 : v15.cell? ⟨x, 0, none⟩ = some (.pointer (some ⟨g, 0, none⟩)) := (X8.out _ h15).1
        have hC : Hid True := zH trivial
        clear hb))
   have T16 := zH h16
   clear h11 h12 h13 h14 h15 h16 hD hC M3 y11 y12 y13 y14 y15 y16 i0 i1 i2 i3 T10 R12 R13 B13 SAB SRR HRR
   obtain ⟨i0, i1, i2, i3⟩ := X8.out _ T16.out
   have hD : Below v8.heap.size v8 v16.drew := (T16.out).drew
   go_wp2_with fail
   go_region_held3 (fun w' => w'.cell? ⟨x, 1, none⟩ = some (.pointer (some ⟨r, 0, none⟩)) ∧ w'.cell? ⟨x, 3, none⟩ = some (.pointer (some ⟨u, 0, none⟩)))
    (first | go_keep)
    (first
     | (have hG := hN
        clear hG
        go_at_call 11
        refine (HDe.out _ (HE.out _ hF) kN hN.out).mono ?_
        rintro e v17 ⟨A17, c17, rfl, hr, hb, _⟩
        have hF2 : Below v8.heap.size v8 v17 := Below.trans hF (hb.mono hF.size)
        have j1 : v17.cell? ⟨x, 1, none⟩ = some (.pointer (some ⟨r, 0, none⟩)) := (X8.out _ hF2).2.1
        have j3 : v17.cell? ⟨x, 3, none⟩ = some (.pointer (some ⟨u, 0, none⟩)) := (X8.out _ hF2).2.2.2
        have R17 := zH hr
        clear hr hb)
     | (go_at_call 12
        refine (Qe _).mono ?_
        rintro e vN17 ⟨kN, rfl, hk, hrn, hbn⟩
        have hF : Below v8.heap.size v8 vN17 := Below.trans hD (hbn.mono hD.size)
        have y1 : vN17.cell? ⟨x, 1, none⟩ = some (.pointer (some ⟨r, 0, none⟩)) := (X8.out _ hF).2.1
        have y3 : vN17.cell? ⟨x, 3, none⟩ = some (.pointer (some ⟨u, 0, none⟩)) := (X8.out _ hF).2.2.2
        have hN := zH hrn
        clear hrn hbn))
   have T17 := zH hF2
   clear hF2 hF hD hN j1 j3 y1 y3
   clear i0 i1 i2 i3 HDe T16
   go_wp2_with fail
   go_loopw [20] (fun i wr => ∃ k : Nat, k ≤ out.length ∧ i = .int .i64 (k : Int) ∧ Below v17.heap.size v17 wr) (fun i _ => out.length - (intOf i).toNat)
   case atStart => exact ⟨0, Nat.zero_le _, rfl, Below.refl _ _⟩
   case round =>
    obtain ⟨k, hk, rfl, hbr⟩ := hrel
    have Tw := zH (T17.out.trans (hbr.mono T17.out.size))
    by_cases hlt : k < out.length
    · obtain ⟨q1, o1, rfl, hq1, hc1⟩ := (R17.out.below hbr).at_ (k := k) (by rw [List.length_map]; exact hlt)
      rw [List.getElem_map] at hc1
      have hkm : k < ms.length := by omega
      obtain ⟨bL, oL, rfl, hbL, _⟩ := HX8.out.cells (p := ms.take k) (m := ms[k]) (q := ms.drop (k + 1)) (by rw [← List.drop_eq_getElem_cons hkm, List.take_append_drop])
      have hat : (ms[k]).at_ = sF ts out out[k] := by
       have h1 := HX8.out.ats
       rw [HMs.out, ← jm (Zu HR.out).nodup] at h1
       have h2 : (ms.map ThM.at_)[k]? = (out.map (sF ts out))[k]? := by rw [h1]
       rw [List.getElem?_map, List.getElem?_map, List.getElem?_eq_getElem hkm, List.getElem?_eq_getElem hlt] at h2
       injection h2
      have HL : Hid (∀ v, Below v8.heap.size v8 v → v.cell? ⟨r2, 1, none⟩ = some (.slice (some ⟨bL, oL, none⟩) ms.length cL) ∧ v.cell? ⟨bL, oL + k * 4, none⟩ = some (.int .i64 (sF ts out out[k]))) := zH (fun v hv => by
       have X := HX8.out.beside hv
       refine ⟨X.box.cell 1, ?_⟩
       obtain ⟨b', o', e', hc, _⟩ := X.cells (p := ms.take k) (m := ms[k]) (q := ms.drop (k + 1)) (by rw [← List.drop_eq_getElem_cons hkm, List.take_append_drop])
       injection e' with e'
       injection e' with e1 e2
       subst e1
       subst e2
       rw [List.length_take, Nat.min_eq_left (by omega), hat] at hc
       exact hc)
      have hfx : zo out[k] := by
       have h1 := QO ts 0 _ ((Zu HR.out).sub _ (List.getElem_mem hlt))
       have h2 := HFts.out.len
       unfold zo
       omega
      have hsm : (zh ts (fun _ => none) out out[k]).isSome = true := by
       unfold zh
       rw [if_pos (List.getElem_mem hlt)]
       rfl
      have HSe : Hid (∀ v, Below v8.heap.size v8 v → Calls Tryz.prog 25 #[.pointer (some ⟨g, 0, none⟩), .int .i64 out[k]] v fun e w'' => e = .returned (.tuple #[.int .i64 (sF ts out out[k]), .bool true]) ∧ v = w'') := zH (fun v hv => by
       have := AF.out.sent v (HE.out v hv) out[k] hfx
       rw [hsm] at this
       exact this)
      have hC1 : Hid (∀ v, Below wr.heap.size wr v → v.cell? ⟨q1, o1 + k, none⟩ = some (.int .i64 out[k])) := zH (fun v hv => (hv.cell (p := ⟨q1, o1 + k, none⟩) hq1).trans hc1)
      have hk1 : (k : Int) < (out.length : Int) := by omega
      have hk2 : (k : Int) < (ms.length : Int) := by omega
      have Tb := zH hbr
      clear hat hfx hsm hbL hc1 hbr
      generalize sF ts out out[k] = sv at *
      generalize out[k] = mk at *
      obtain ⟨i0, i1, i2, i3⟩ := X8.out _ Tw.out
      have iy := hC1.out wr (Below.refl _ _)
      have hD : Below v8.heap.size v8 wr.drew := Tw.out.drew
      have hDw : Below wr.heap.size wr wr.drew := (Below.refl wr.heap.size wr).drew
      go_wp2_with fail
      go_region_held3 (fun w' => w'.cell? ⟨x, 0, none⟩ = some (.pointer (some ⟨g, 0, none⟩)) ∧ w'.cell? ⟨q1, o1 + k, none⟩ = some (.int .i64 mk))
       (first | go_keep)
       (first
        | (go_at_call 25
           refine (HSe.out _ hD).mono ?_
           rintro e v18 ⟨rfl, hb⟩
           have h18 : Below v8.heap.size v8 v18 := by rw [← hb]; exact hD
           have hw18 : Below wr.heap.size wr v18 := by rw [← hb]; exact hDw
           have y18 : v18.cell? ⟨x, 0, none⟩ = some (.pointer (some ⟨g, 0, none⟩)) := (X8.out _ h18).1
           have z18 : v18.cell? ⟨q1, o1 + k, none⟩ = some (.int .i64 mk) := hC1.out _ hw18
           clear hb))
      have T18 := zH h18
      have Tv := zH (Tb.out.trans (hw18.mono Tb.out.size))
      clear hD hDw h18 hw18 y18 z18 i0 i1 i2 i3 iy
      obtain ⟨l0', l1'⟩ := HL.out _ T18.out
      have hsv : (sv != sv) = false := by simp
      go_wp2_with fail
      go_roundw
      case rel => exact ⟨k + 1, by omega, by go_num, Tv.out⟩
      case measure => simp [intOf]; omega
    · have hk1 : ¬ (k : Int) < (out.length : Int) := by omega
      have HAg := zH (AF.out.again wr (HE.out _ Tw.out))
      obtain ⟨i0, i1, i2, i3⟩ := X8.out _ Tw.out
      clear hbr
      go_wp2_with fail
      refine HAg.out.mono ?_
      rintro e v19 ⟨g3, b3, rfl, hlow, hRb, hRb3, hRaw3, hRaw2⟩
      have L19 := zH hlow
      have HSc := zH ((HpS.j6 (some ⟨b3, 0, none⟩) (some ⟨b, 0, none⟩) rs.length rs.length rs.length rs.length (rs.map (sF ts out)) (rs.map (sF ts out)) v19 (by rw [List.length_map]) (by rw [List.length_map]) (by omega) (by omega) hRb3 hRb).mono (R' := fun e w' => e = .returned (.bool true) ∧ ∃ q, w' = v19.drewN q) (fun e w' h => ⟨h.1.trans (by rw [decide_eq_true rfl]), h.2⟩))
      have W3 := zH hRaw3
      have W2 := zH hRaw2
      clear hlow hRb hRb3 hRaw3 hRaw2 HAg i0 i1 i2 i3
      go_wp2_with fail
      refine HSc.out.mono ?_
      rintro e v20 ⟨rfl, q, rfl⟩
      have h20 := HpE.zf v19 q
      generalize v19.drewN q = v20 at *
      go_wp2_with fail
      refine (W3.out v20 h20).mono ?_
      rintro e v21 ⟨x21, rfl, ho21, hb21⟩
      obtain ⟨A21, d21, rfl, _⟩ := zi ho21
      have R21 := zH (Rds.own ho21)
      have h21 := h20.trans (hb21.mono h20.size)
      clear ho21 hb21
      go_wp2_with fail
      refine (W2.out v21 h21).mono ?_
      rintro e v22 ⟨x22, rfl, ho22, hb22⟩
      obtain ⟨A22, d22, rfl, _⟩ := zi ho22
      have R22 := zH (Rds.own ho22)
      have h22 := h21.trans (hb22.mono h21.size)
      have HSd := zH ((HpS.j6 A21 A22 (raw (news ts out)).length (raw (news ts out)).length d21 d22 (raw (news ts out)) (raw (news ts out)) v22 rfl rfl (by omega) (by omega) (R21.out.below hb22) R22.out).mono (R' := fun e w' => e = .returned (.bool true) ∧ ∃ q, w' = v22.drewN q) (fun e w' h => ⟨h.1.trans (by rw [decide_eq_true rfl]), h.2⟩))
      clear ho22 hb22
      go_wp2_with fail
      refine HSd.out.mono ?_
      rintro e v23 ⟨rfl, q2, rfl⟩
      have h23 := h22.trans ((HpE.zf v22 q2).mono h22.size)
      have BF := zH (L19.out.trans (h23.mono L19.out.size))
      clear h20 h21 h22 h23
      generalize v22.drewN q2 = v23 at *
      go_wp2_with (go_at_call 19; refine (HK.out _ BF.out).mono ?_; rintro e v24 ⟨rfl, hb24⟩; have E24 := zH hb24; clear hb24)
      go_ret
      exact ⟨rfl, E24.out⟩
 · have he2 : (er != er) = false := by simp
   have he3 : (er != 0) = true := by simpa using he
   have HRu2 := zH (show Calls Tryz.prog 21 #[.pointer (some ⟨g, 0, none⟩), .pointer (some ⟨p, 0, none⟩), .slice A5 rs.length d5] v6.drew fun e w' => e = .returned (.tuple #[.pointer none, .slice none 0 0, .int .i64 er]) ∧ Below v6.drew.heap.size v6.drew w' from (HRu.out v6.drew hD).mono (by
    rintro e w' (⟨_, h2⟩ | ⟨h1, _⟩)
    · exact h2
    · exact absurd h1 he))
   have HDR := zH (fun v (hv : Below w5.heap.size w5 v) kN (hn : Rds v (some ⟨kN, 0, none⟩) (tyn.map HierM.sv)) => (gP (doc_of (HP5.out v hv) hn) HS0.out 6 (cr := d5) (R5.out.below hv) (by omega)).mono (R' := fun e w' => e = .returned (.tuple #[.pointer none, .slice none 0 0, .int .i64 er]) ∧ Below v.heap.size v w') (fun e w' h => by
    obtain ⟨h1, (⟨_, h2⟩ | ⟨h2, _⟩)⟩ := h
    · rw [HR.out] at h2
      exact ⟨h2, h1⟩
    · rw [HR.out] at h2
      exact absurd h2 he))
   clear HRu he
   go_wp2_with fail
   go_region_held3 (fun w' => w'.cell? ⟨x, 0, none⟩ = some (.pointer (some ⟨g, 0, none⟩)) ∧ w'.cell? ⟨x, 2, none⟩ = some (.pointer (some ⟨p, 0, none⟩)))
    (first | go_keep)
    (first
     | (go_at_call 21
        refine HRu2.out.mono ?_
        rintro e v7 ⟨rfl, hb⟩
        have hF : Below w5.heap.size w5 v7 := Below.trans hD (hb.mono hD.size)
        have j0 : v7.cell? ⟨x, 0, none⟩ = some (.pointer (some ⟨g, 0, none⟩)) := (HXv.out _ hF).1
        have j2 : v7.cell? ⟨x, 2, none⟩ = some (.pointer (some ⟨p, 0, none⟩)) := (HXv.out _ hF).2.2.1
        have T7 := zH (Below.trans ((Below.refl v6.heap.size v6).drew) hb)
        clear hb))
   have E7 := zH hF
   clear hF hD j0 j2 i0 i1 i2 i3 HRu2
   obtain ⟨i0, i1, i2, i3⟩ := HXv.out _ E7.out
   have hD : Below w5.heap.size w5 v7.drew := (E7.out).drew
   go_wp2_with fail
   go_region_held3 (fun w' => w'.cell? ⟨x, 1, none⟩ = some (.pointer (some ⟨r, 0, none⟩)) ∧ w'.cell? ⟨x, 3, none⟩ = some (.pointer (some ⟨u, 0, none⟩)))
    (first | go_keep)
    (first
     | (have hG := hN
        clear hG
        go_at_call 22
        refine (HDR.out _ hF kN hN.out).mono ?_
        rintro e v8 ⟨rfl, hb⟩
        have hF2 : Below w5.heap.size w5 v8 := Below.trans hF (hb.mono hF.size)
        have j1 : v8.cell? ⟨x, 1, none⟩ = some (.pointer (some ⟨r, 0, none⟩)) := (HXv.out _ hF2).2.1
        have j3 : v8.cell? ⟨x, 3, none⟩ = some (.pointer (some ⟨u, 0, none⟩)) := (HXv.out _ hF2).2.2.2
        have T8 := zH (Below.trans ((Below.refl v7.heap.size v7).drew) (Below.trans hFN.out (hb.mono hFN.out.size)))
        clear hb)
     | (go_at_call 12
        refine (Qe _).mono ?_
        rintro e vN8 ⟨kN, rfl, hk, hrn, hbn⟩
        have hF : Below w5.heap.size w5 vN8 := Below.trans hD (hbn.mono hD.size)
        have y1 : vN8.cell? ⟨x, 1, none⟩ = some (.pointer (some ⟨r, 0, none⟩)) := (HXv.out _ hF).2.1
        have y3 : vN8.cell? ⟨x, 3, none⟩ = some (.pointer (some ⟨u, 0, none⟩)) := (HXv.out _ hF).2.2.2
        have hN := zH hrn
        have hFN := zH hbn
        clear hrn hbn))
   have E8 := zH hF2
   clear hF2 hF hD hN j1 j3 y1 y3
   clear i0 i1 i2 i3 HDR hFN
   obtain ⟨i0, i1, i2, i3⟩ := HXv.out _ E8.out
   have T78 := zH (T7.out.trans (T8.out.mono T7.out.size))
   go_wp2_with fail
   refine (Km (HP5.out v8 E8.out)).mono ?_
   rintro e v9 ⟨x9, rfl, ho9, hb9⟩
   obtain ⟨A9, d9, rfl, _⟩ := zi ho9
   have R9 := zH (Rds.own ho9)
   have E9 := zH (E8.out.trans (hb9.mono E8.out.size))
   have T9 := zH (T78.out.trans (hb9.mono T78.out.size))
   have HS9 := zH ((HpS.j6 A9 A6 (raw ts).length (raw ts).length d9 d6 (raw ts) (raw ts) v9 rfl rfl (by omega) (by omega) R9.out (R6.out.below T9.out)).mono (R' := fun e w' => e = .returned (.bool true) ∧ ∃ q, w' = v9.drewN q) (fun e w' h => ⟨h.1.trans (by rw [decide_eq_true (rfl : raw ts = raw ts)]), h.2⟩))
   clear ho9 hb9 i0 i1 i2 i3
   go_wp2_with fail
   refine HS9.out.mono ?_
   rintro e v10 ⟨rfl, q, rfl⟩
   have BF := zH (B5.out.trans ((E9.out.trans ((HpE.zf v9 q).mono E9.out.size)).mono B5.out.size))
   generalize v9.drewN q = v10 at *
   go_wp2_with (go_at_call 19; refine (HK.out _ BF.out).mono ?_; rintro e v24 ⟨rfl, hb24⟩; have E24 := zH hb24; clear hb24)
   go_ret
   exact ⟨rfl, E24.out⟩
end WCollectRuns
end Go.Proofs.YtmkdhdmkdcankaaGreatDoor
