/-
  Law CollectMore: with more roots there are not fewer words.
-/
import Derived.Test.YtmkdhdmkdcankaaGreatDoorG48
import Derived.Test.YtmkdhdmkdcankaaGreatDoorG50
import Derived.StillTailTactics
namespace Go.Proofs.YtmkdhdmkdcankaaGreatDoor
namespace WCollectMore
open Go.RowKit Base BinM HpM HpA HpB HpG HpP HpT HpZ HpR HpQ HpW ClM ClX ClY ClZ ClI ClJ ClP ClQ ClL ClO ClG

theorem roots_fit {w wr : World} {x g r p u : Nat} {ts : List Th} (P : Play w wr x g r p u ts) {l : List Int} (hl : ∀ y ∈ l, fitI y) (raw : Bool) : ∀ y ∈ rootsT ts l raw, fitI y := by
  obtain ⟨⟨w1, h1, S, h2⟩, h3⟩ := P
  intro y hy
  obtain ⟨z, hz, rfl⟩ := List.mem_map.1 hy
  have hz' := hl z (List.mem_of_mem_take hz)
  unfold rootV
  split
  · exact hz'
  · split
    · unfold fitI; omega
    · split
      · exact adr_fit S _
      · exact hz'
theorem roots_len (ts : List Th) (l : List Int) (raw : Bool) : (rootsT ts l raw).length ≤ 20 := by
  unfold rootsT
  rw [List.length_map, List.length_take]
  omega

set_option maxRecDepth 100000 in
set_option maxHeartbeats 16000000 in
theorem walk (a0 : Option Addr) (m0 c0 : Nat) (l0 : List OpenMk.MkT) (a1 : Option Addr) (m1 c1 : Nat) (l1 : List OpenMk.StT) (a2 : Option Addr) (m2 c2 : Nat) (l2 : List Int) (a3 : Option Addr) (m3 c3 : Nat) (l3 : List Int) (w : World) (hl : InsA.Laid w) (wm0 : m0 = l0.length) (_ : m0 ≤ c0) (_ : c0 ≤ maxLen) (wr0 : Rds w a0 (l0.flatMap OpenMk.mkV)) (b0 : ∀ x ∈ l0, OpenMk.mkOk x) (wm1 : m1 = l1.length) (_ : m1 ≤ c1) (_ : c1 ≤ maxLen) (wr1 : Rds w a1 (l1.flatMap OpenMk.stV)) (b1 : ∀ x ∈ l1, OpenMk.stOk x) (w2 : IsInts w a2 m2 c2 l2) (_ : c2 * 8 ≤ 140737488351232) (w3 : IsInts w a3 m3 c3 l3) (_ : c3 * 8 ≤ 140737488351232) :
    Calls Tryz.prog 6 #[.slice a0 m0 c0, .slice a1 m1 c1, .slice a2 m2 c2, .slice a3 m3 c3] w fun e w' => e = .returned (.bool true) ∧ Below w.heap.size w w' := by
  subst wm0
  subst wm1
  obtain ⟨rfl, _, _, hr2, hf2⟩ := w2
  obtain ⟨rfl, _, _, hr3, hf3⟩ := w3
  have HBg := Lib.hid (ClK.begin_any a0 a1 c0 c1 l0 l1 w wr0 b0 wr1 b1 hl)
  have HK := Lib.hid (fun v (hv : Below w.heap.size w v) => (ClO.known_any v (hl.below hv hl.1)).mono fun e w' (h : e = .returned (.bool true) ∧ Below v.heap.size v w') => (⟨h.1, hv.trans (h.2.mono hv.size)⟩ : e = .returned (.bool true) ∧ Below w.heap.size w w'))
  have R2 := Lib.hid hr2
  have R3 := Lib.hid hr3
  have F2 := Lib.hid hf2
  have F3 := Lib.hid hf3
  obtain ⟨i0, hi, hz, hz1, hz2⟩ := info_parts info64
  have I0 := Lib.hid hi
  have I1 := Lib.hid hz
  have I2 := Lib.hid hz1
  have I3 := Lib.hid hz2
  clear hl wr0 b0 wr1 b1 hr2 hf2 hr3 hf3 hi hz hz1 hz2
  go_enter Tryz.func6, Tryz.ntmps6
  go_wp2_with fail
  refine HBg.out.mono ?_
  rintro e w4 ⟨x, rfl, g, r, p, u, hP⟩
  have HP := Lib.hid hP
  have B4 := Lib.hid (ClP.Play.low hP)
  have HF2 := Lib.hid (roots_fit hP F2.out false)
  have HF3 := Lib.hid (roots_fit hP F3.out false)
  have HL2 := Lib.hid (roots_len (playT l0 l1) l2 false)
  have HL3 := Lib.hid (roots_len (playT l0 l1) l3 false)
  have HMore := Lib.hid (live_more (playT l0 l1) (rootsT (playT l0 l1) l2 false) (rootsT (playT l0 l1) l3 false))
  clear hP HBg
  go_wp2_with fail
  refine (roots_any HP.out a2 c2 l2 (R2.out.below B4.out) false).mono ?_
  rintro e w5 ⟨v5, rfl, ho5, hb5⟩
  have B5 := Lib.hid (B4.out.trans (hb5.mono B4.out.size))
  have O5 := Lib.hid ho5
  have C5 := Lib.hid hb5
  clear ho5 hb5
  go_wp2_with fail
  refine (roots_any (ClP.Play.later HP.out C5.out) a2 c2 l2 (R2.out.below B5.out) false).mono ?_
  rintro e w6 ⟨v6, rfl, ho6, hb6⟩
  have B6 := Lib.hid (B5.out.trans (hb6.mono B5.out.size))
  have C6 := Lib.hid (C5.out.trans (hb6.mono C5.out.size))
  have D6 := Lib.hid hb6
  have O6 := Lib.hid ho6
  clear ho6 hb6
  go_wp2_with fail
  refine (roots_any (ClP.Play.later HP.out C6.out) a3 c3 l3 (R3.out.below B6.out) false).mono ?_
  rintro e w7 ⟨v7, rfl, ho7, hb7⟩
  have B7 := Lib.hid (B6.out.trans (hb7.mono B6.out.size))
  have C7 := Lib.hid (C6.out.trans (hb7.mono C6.out.size))
  have O67 := own_al O6.out hb7
  have O57 := own_al (own_al O5.out D6.out) hb7
  generalize rootsT (playT l0 l1) l2 false = ra at *
  generalize rootsT (playT l0 l1) l3 false = rb at *
  obtain ⟨A5, d5, rfl, _, _, hA5, _⟩ := own_slice O57
  obtain ⟨A6, d6, rfl, _, _, hA6, _⟩ := own_slice O67
  obtain ⟨A7, d7, rfl, _, _, _, _⟩ := own_slice ho7
  have O67' := Lib.hid O67
  have O7 := Lib.hid ho7
  have HA6 := Lib.hid hA6
  have D57 := Lib.hid (D6.out.trans (hb7.mono D6.out.size))
  have hbase : w5.heap.size ≤ w7.heap.size := D57.out.size
  have HR20 := HL2.out
  have HR30 := HL3.out
  clear O57 O67 ho7 hb7 hA5 hA6 O6
  go_wp2_with (at_builtin; refine wpList_append_rds rfl (.tmp 26) (.tmp 29) 27 rfl w5.heap.size 2 i0 _ 8 Tryz.underlying27 I0.out I1.out I2.out I3.out rfl (.slice A6 ra.length d6) ra.length (ra.map (Value.int .i64)) rfl O67'.out A7 rb.length d7 (rb.map (Value.int .i64)) rfl (by simp) (Rds.own O7.out) (oneI rb) (by unfold maxLen; omega) (by omega) hbase ?_; intro v8 w8 hown8 hg8; have hgb : ∀ k, (Value.slice A6 ra.length d6).ownBlock = some k → w5.heap.size ≤ k := (fun k hk => (O67'.out.lt k hk).1); have E58 := Lib.hid (D57.out.grown hg8 hbase (fun k hk => hgb k hk)); obtain ⟨A8, d8, rfl, _, _, _, _⟩ := own_slice hown8; have R8 := Lib.hid (Rds.own hown8); clear hown8 hg8 hgb)
  have C8 := Lib.hid (C5.out.trans (E58.out.mono C5.out.size))
  have B8 := Lib.hid (B4.out.trans (C8.out.mono B4.out.size))
  have P8 := Lib.hid (ClP.Play.later HP.out C8.out)
  have hx8 := ClP.Play.box P8.out
  have a0' : w8.cell? ⟨x, 0, none⟩ = some (.pointer (some ⟨g, 0, none⟩)) := hx8.cell 0
  have a1' : w8.cell? ⟨x, 2, none⟩ = some (.pointer (some ⟨p, 0, none⟩)) := hx8.cell 2
  have HX8 := Lib.hid hx8
  have R58 := Lib.hid (Rds.own (own_al O5.out E58.out))
  have hR8 : Rds w8 A8 ((ra ++ rb).map (Value.int .i64)) := by rw [List.map_append]; exact R8.out
  have HR8 := Lib.hid hR8
  have HLa := Lib.hid (play_live (ClP.Play.later P8.out (Below.refl _ _).drew) (R58.out.below (Below.refl _ _).drew) (cr := d5) (by omega) HF2.out)
  have HLb := Lib.hid (fun (v : World) (hv : Below w8.heap.size w8 v) => play_live (ClP.Play.later P8.out hv) (HR8.out.below hv) (cr := d8) (by rw [List.length_append]; omega) (fun y hy => (List.mem_append.1 hy).elim (HF2.out y) (HF3.out y)))
  have hlen : (ra ++ rb).length = ra.length + rb.length := List.length_append
  rw [hlen] at HLb
  clear hx8 hR8 hlen
  generalize liveE (playT l0 l1) (ra ++ rb) = LB at *
  generalize liveE (playT l0 l1) ra = LA at *
  obtain ⟨m, em⟩ := LA
  obtain ⟨n, en⟩ := LB
  simp only at HMore
  go_wp2_with fail
  have hD8 : Below w8.heap.size w8 w8.drew := (Below.refl _ _).drew
  go_region_held3 (fun w' => w'.cell? ⟨x, 0, none⟩ = some (.pointer (some ⟨g, 0, none⟩)) ∧ w'.cell? ⟨x, 2, none⟩ = some (.pointer (some ⟨p, 0, none⟩)))
    (first | go_keep)
    (first
      | (go_at_call 13
         refine HLa.out.mono ?_
         rintro e v9 ⟨rfl, hb9⟩
         have hE9 := Below.trans hD8 (hb9.mono hD8.size)
         have c0' : v9.cell? ⟨x, 0, none⟩ = some (.pointer (some ⟨g, 0, none⟩)) := (HX8.out.after hE9).cell 0
         have c1' : v9.cell? ⟨x, 2, none⟩ = some (.pointer (some ⟨p, 0, none⟩)) := (HX8.out.after hE9).cell 2
         clear hb9))
  have E9 := Lib.hid hE9
  have HX9 := Lib.hid (HX8.out.after hE9)
  have hD9 : Below w8.heap.size w8 v9.drew := hE9.drew
  clear hE9 hD8
  go_wp2_with fail
  go_region_held3 (fun w' => w'.cell? ⟨x, 0, none⟩ = some (.pointer (some ⟨g, 0, none⟩)) ∧ w'.cell? ⟨x, 2, none⟩ = some (.pointer (some ⟨p, 0, none⟩)))
    (first | go_keep)
    (first
      | (go_at_call 13
         refine (HLb.out _ hD9).mono ?_
         rintro e v10 ⟨rfl, hb10⟩
         have hE10 := Below.trans hD9 (hb10.mono hD9.size)
         have d0' : v10.cell? ⟨x, 0, none⟩ = some (.pointer (some ⟨g, 0, none⟩)) := (HX8.out.after hE10).cell 0
         have d1' : v10.cell? ⟨x, 2, none⟩ = some (.pointer (some ⟨p, 0, none⟩)) := (HX8.out.after hE10).cell 2
         clear hb10))
  have B10 := Lib.hid (B8.out.trans (hE10.mono B8.out.size))
  clear hE10 hD9
  by_cases hen : en = 0
  · obtain ⟨hem, hle⟩ := HMore.out hen
    subst hen
    subst hem
    go_wp2_with fail
    refine (HK.out _ B10.out).mono ?_
    rintro e w11 ⟨rfl, hb11⟩
    have B11 := Lib.hid hb11
    clear hb11
    go_wp2_with fail
    go_ret
    exact ⟨rfl, B11.out⟩
  · go_wp2_with fail
    all_goals
      refine (HK.out _ B10.out).mono ?_
      rintro e w11 ⟨rfl, hb11⟩
      have B11 := Lib.hid hb11
      clear hb11
      go_wp2_with fail
      go_ret
      exact ⟨rfl, B11.out⟩
end WCollectMore
end Go.Proofs.YtmkdhdmkdcankaaGreatDoor
