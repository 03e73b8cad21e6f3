/-
  The document's own reading of a number: what it returns, for all bytes and every place.
-/
import Derived.Test.YtnkkeifjggcncaaDoorBin8
import Derived.RegionTactic
import Derived.Deep.RegionWith
import Derived.Outline
import Derived.IntWalk
namespace Go.Proofs.YtnkkeifjggcncaaDoor
namespace RefGet
open Go.RowKit BinM BinNum Base BinE BinPut BinGet Bin8 RefPut

/-- what the document's reading has put together behind j rounds, from the last byte on -/
def back (p : List UInt8) (j : Nat) : Nat := val (p.drop (p.length - j)) % 18446744073709551616

theorem back_step (p : List UInt8) (j : Nat) (h : j < p.length) : back p (j + 1) = (back p j * 128 + p[p.length - (j + 1)].toNat % 128) % 18446744073709551616 := by
  unfold back
  have e : p.length - j = p.length - (j + 1) + 1 := by omega
  have hd : p.drop (p.length - (j + 1)) = p[p.length - (j + 1)] :: p.drop (p.length - j) := by
    rw [e]; exact List.drop_eq_getElem_cons (by omega)
  rw [hd, val]
  omega

theorem back_all (p : List UInt8) (h : val p < 18446744073709551616) : back p p.length = val p := by
  unfold back
  rw [Nat.sub_self, List.drop_zero]
  exact Nat.mod_eq_of_lt h

theorem step_facts {w : World} {b o p k j : Nat} {q : List UInt8} (hql : q.length = k + 1) (hcells : ∀ j (hj : j < q.length), w.cell? ⟨b, o + (p + j), none⟩ = some (.int .u8 ((q[j].toNat : Nat) : Int))) (hj : j < k + 1) :
    ∃ d B' : Int, 0 ≤ d ∧ d ≤ 255 ∧ w.cell? ⟨b, o + (p + k - j), none⟩ = some (.int .u8 d) ∧ IntKind.u64.wrap (IntKind.u64.wrap (((back q j : Nat) : Int) * 128) + d % 128) = B' ∧ B' = ((back q (j + 1) : Nat) : Int) := by
  have hkj : k - j < q.length := by omega
  have hcell2 := hcells (k - j) hkj
  have hstep := back_step q j (by omega)
  have eidx : q[q.length - (j + 1)]'(by omega) = q[k - j] := by congr 1; omega
  rw [eidx] at hstep
  have ep : p + (k - j) = p + k - j := by omega
  rw [ep] at hcell2
  refine ⟨(q[k - j].toNat : Int), _, by omega, by have := q[k - j].toNat_lt; omega, hcell2, rfl, ?_⟩
  have hw : ∀ x : Int, IntKind.u64.wrap x = x % 18446744073709551616 := fun x => by simp [IntKind.wrap, IntKind.bits, IntKind.signed]
  rw [hw, hw, hstep]
  omega

theorem rds_q {w : World} {b o p : Nat} {q : List UInt8} (hb : b < w.heap.size) (hcells : ∀ j (hj : j < q.length), w.cell? ⟨b, o + (p + j), none⟩ = some (.int .u8 ((q[j].toNat : Nat) : Int))) : Rds w (some ⟨b, o + p, none⟩) (cells8 q) := by
  refine .inr ⟨b, o + p, rfl, hb, fun j u hu => ?_⟩
  obtain ⟨hj, rfl⟩ := List.getElem?_eq_some_iff.1 hu
  rw [cells8_length] at hj
  rw [Nat.add_assoc, hcells j hj]
  simp [cells8, cell8]

theorem sl_q {b o n cap p k : Nat} (hp : p < cap) (h : p + k + 1 ≤ cap) (W : World) :
    (Instr.slice 22 (.slice (some ⟨b, o, none⟩) n cap) (some (.int .i64 (p : Int))) (some (.int .i64 ((p : Int) + (k : Int) + 1))) none).run Tryd.prog W = .ok (.slice (some ⟨b, o + p, none⟩) (k + 1) (cap - p)) W := by
  rw [cut8 W _ n cap (p : Int) ((p : Int) + (k : Int) + 1) (by omega) (by omega) (by omega)]
  have e1 : ((p : Int)).toNat = p := by omega
  have e2 : ((p : Int) + (k : Int) + 1).toNat = p + k + 1 := by omega
  rw [e1, e2, if_neg (by omega)]
  simp only [Option.map_some, Addr.add_mid]
  congr 2
  omega

theorem text_q (W : World) {A : Option Addr} {q : List UInt8} {m : Nat} (hq : q.length = m) (hr : Rds W A (cells8 q)) (c : Nat) :
    (convert 22 9 (.slice A m c)).run Tryd.prog W = .ok (.string ⟨q.toArray⟩) W :=
  run_text (P := Tryd.prog) 22 9 5 m c Tryd.underlying22 Tryd.underlying5 Tryd.underlying9 hq.symm hr

/-- the two ways in which a number's bytes can end -/
theorem cases_q {l : List UInt8} {p : Nat} (hpl : p ≤ l.length) (h10 : lead (l.drop p) < 10) (hlt : lead (l.drop p) < (l.drop p).length) {q : List UInt8} (hq : q = (l.drop p).take (lead (l.drop p) + 1)) :
    (val q < 18446744073709551616 ∧ num (unfoldI ((val q : Nat) : Int)) = q ∧ getS l (p : Int) = (unfoldI ((val q : Nat) : Int), (p : Int) + (lead (l.drop p) : Int) + 1, 0)) ∨
    ((∀ u, u < 18446744073709551616 → enc u ≠ q) ∧ getS l (p : Int) = (0, 0, 5)) := by
  have hg : (l.drop p).getD (lead (l.drop p)) 0 = (l.drop p)[lead (l.drop p)] := by rw [List.getD_eq_getElem?_getD, List.getElem?_eq_getElem hlt]; rfl
  cases hL : lastI (((l.drop p)[lead (l.drop p)]).toNat : Int) (lead (l.drop p) : Int)
  · right
    exact ⟨fun u hu => by rw [hq]; exact not_num h10 hlt (by rw [hg]; exact hL) hu, getS_bad hpl h10 hlt hL⟩
  · left
    have := num_getL h10 hlt (by rw [hg]; exact hL)
    rw [← hq] at this
    refine ⟨this.1, this.2, ?_⟩
    rw [getS_good hpl h10 hlt hL, ← hq]

set_option maxRecDepth 100000 in
set_option maxHeartbeats 4000000 in
theorem refGet_any (A : Option Addr) (l : List UInt8) (n cap : Nat) (a : Int) (w : World) (hn : n = l.length) (hnc : n ≤ cap) (hm : cap ≤ maxLen) (ha0 : -9223372036854775808 ≤ a) (ha1 : a ≤ 9223372036854775807) (hr : Rds w A (cells8 l)) :
    Calls Tryd.prog 39 #[.slice A n cap, .int .i64 a] w fun e w' => e = .returned (three (getS l a)) ∧ Below w.heap.size w w' := by
  unfold maxLen at hm
  by_cases hout : a < 0 ∨ (n : Int) < a
  · have Hg := Lib.hid (getS_out (l := l) (a := a) (by rw [← hn]; exact hout))
    have Hn := Lib.hid hn
    clear hn
    rcases hout with h | h
    · go_enter Tryd.func39, Tryd.ntmps39
      go_wp2
      go_ret3
      exact ⟨ret3 Hg.out, Below.refl _ _⟩
    · have h' : ¬ a < 0 := by omega
      go_enter Tryd.func39, Tryd.ntmps39
      go_wp2
      go_ret3
      exact ⟨ret3 Hg.out, Below.refl _ _⟩
  · obtain ⟨p, rfl⟩ : ∃ p : Nat, a = (p : Int) := ⟨a.toNat, by omega⟩
    have hp : p ≤ n := by omega
    clear hout ha0 ha1
    have h0 : ¬ (p : Int) < 0 := by omega
    have h1 : ¬ (n : Int) < (p : Int) := by omega
    have hpl : p ≤ l.length := by omega
    have Hn := Lib.hid hn
    clear hn
    go_enter Tryd.func39, Tryd.ntmps39
    go_wp2
    go_loop [7] (fun i => ∃ k : Nat, k ≤ 10 ∧ k ≤ lead (l.drop p) ∧ i = .int .i64 ((p : Int) + (k : Int))) (fun i => 10 - (intOf i - (p : Int)).toNat)
    case atStart => exact ⟨0, by omega, by omega, by simp⟩
    case round =>
      obtain ⟨k, hk, hkl, rfl⟩ := hrel
      have hle := lead_le (l.drop p)
      have hlen : (l.drop p).length = l.length - p := by simp
      have hkn : p + k ≤ n := by have := Hn.out; omega
      by_cases hlt : k < 10
      · by_cases hin : p + k < n
        · have hin' : k < (l.drop p).length := by have := Hn.out; omega
          have hin2 : p + k < l.length := by have := Hn.out; omega
          obtain ⟨b, o, rfl, hb, hcell⟩ := hr.at_ (k := p + k) (by rw [cells8_length]; exact hin2)
          have hcv : (cells8 l)[p + k]'(by rw [cells8_length]; exact hin2) = .int .u8 (((l.drop p)[k].toNat : Nat) : Int) := by simp [cells8, cell8]
          rw [hcv] at hcell
          have hc0 : (0 : Int) ≤ ((l.drop p)[k].toNat : Int) := by omega
          have hc1 : ((l.drop p)[k].toNat : Int) ≤ 255 := by have := (l.drop p)[k].toNat_lt; omega
          by_cases hbig : 128 ≤ ((l.drop p)[k].toNat : Int)
          · have hk2 : k + 1 ≤ lead (l.drop p) := by
              rcases Nat.lt_or_ge k (lead (l.drop p)) with h | h
              · exact h
              · have e : lead (l.drop p) = k := by omega
                have := lead_lt (l.drop p) (by omega)
                simp only [e] at this
                omega
            clear hlen hle
            generalize hci : ((l.drop p)[k].toNat : Int) = c at *
            clear hci hcv hin' hkl
            go_wp2_with fail
            go_round
            case rel => exact ⟨k + 1, by omega, hk2, by go_num⟩
            case measure => simp [intOf]; omega
          · have e : lead (l.drop p) = k := lead_eq (m := k) (fun j hj hjk => lead_ge _ j hj (by omega)) (by omega) (.inr ⟨hin', by omega⟩)
            obtain ⟨q, hq⟩ : ∃ q : List UInt8, q = (l.drop p).take (k + 1) := ⟨_, rfl⟩
            have hql : q.length = k + 1 := by rw [hq]; simp; omega
            have hcells : ∀ j (hj : j < q.length), w.cell? ⟨b, o + (p + j), none⟩ = some (.int .u8 ((q[j].toNat : Nat) : Int)) := by
              intro j hj
              obtain ⟨b', o', hA, _, hc⟩ := hr.at_ (k := p + j) (by rw [cells8_length]; omega)
              injection hA with hA
              injection hA with hb' ho' _
              subst hb' ho'
              rw [hc]
              congr 1
              simp [cells8, cell8, hq]
            have hcase := cases_q (l := l) (p := p) hpl (by omega) (by omega) (q := q) (by rw [hq, e])
            have Hcase := Lib.hid hcase
            clear hcase
            have Hq := Lib.hid hq
            have Hql := Lib.hid hql
            have Hcells := Lib.hid hcells
            have He := Lib.hid e
            have Hin := Lib.hid hin'
            have Hlt : Hid (((l.drop p)[k].toNat : Int) < 128) := Lib.hid (by omega)
            clear hcv hlen hle hkl hq hcells hql e
            generalize hci : ((l.drop p)[k].toNat : Int) = c at *
            clear hci hin'
            go_wp2_with fail
            go_loop [8, 9] (fun u i => ∃ (j : Nat) (B : Int), j ≤ k + 1 ∧ i = .int .i64 ((p : Int) + (k : Int) - (j : Int)) ∧ u = .int .u64 B ∧ 0 ≤ B ∧ B ≤ 18446744073709551615 ∧ B = ((back q j : Nat) : Int)) (fun _ i => (intOf i - (p : Int) + 1).toNat)
            case atStart => exact ⟨0, 0, by omega, by simp, rfl, by omega, by omega, by simp [back, val]⟩
            case round =>
              obtain ⟨j, B, hj, rfl, rfl, hB0, hB1, hB⟩ := hrel
              have HB := Lib.hid hB
              clear hB
              by_cases hjk : j < k + 1
              · obtain ⟨d, B', hd0, hd1, hcell2, hE, hB'⟩ := step_facts Hql.out Hcells.out (j := j) (by omega)
                rw [← HB.out] at hE
                have HB' := Lib.hid hB'
                clear hB'
                go_wp2_with fail
                go_round
                case rel => exact ⟨j + 1, B', by omega, by congr 1; omega, rfl, by rw [HB'.out]; unfold back; omega, by rw [HB'.out]; unfold back; omega, HB'.out⟩
                case measure => simp [intOf]; omega
              · obtain rfl : j = k + 1 := by omega
                have hx : (p : Int) + (k : Int) - ((k + 1 : Nat) : Int) < (p : Int) := by omega
                have hB : B = ((val q : Nat) : Int) % 18446744073709551616 := by
                  have h := HB.out
                  unfold back at h
                  rw [h, Hql.out, Nat.sub_self, List.drop_zero]
                  omega
                have HB2 := Lib.hid hB
                clear hB
                have hrq : Rds w (some ⟨b, o + p, none⟩) (cells8 q) := rds_q hb Hcells.out
                have hsl : ∀ W, (Instr.slice 22 (.slice (some ⟨b, o, none⟩) n cap) (some (.int .i64 (p : Int))) (some (.int .i64 ((p : Int) + (k : Int) + 1))) none).run Tryd.prog W = .ok (.slice (some ⟨b, o + p, none⟩) (k + 1) (cap - p)) W := sl_q (by omega) (by omega)
                have hcw := text_q w Hql.out hrq (cap - p)
                have hcd := text_q w.drew Hql.out hrq (cap - p)
                have Hrq := Lib.hid hrq
                clear hrq
                have hsum : IntKind.i64.wrap ((p : Int) + (k : Int) + 1) = (p : Int) + (k : Int) + 1 := IntWalk.i64_in _ (by omega)
                by_cases hodd : B % 2 = 1
                · have hb1 : (B % 2 == 1) = true := by simp [hodd]
                  have Hun : Hid (unfoldI B = -(B / 2) - 1) := Lib.hid (by unfold unfoldI; rw [if_pos hodd])
                  clear hodd
                  rcases Hcase.out with ⟨hv, hnum, hfin⟩ | ⟨hno, hfin⟩
                  · have Hxq := Lib.hid (show num (-(B / 2) - 1) = q by rw [← Hun.out, HB2.out, Int.emod_eq_of_lt (by omega) (by omega), hnum])
                    have Hval := Lib.hid (show -(B / 2) - 1 = unfoldI ((val q : Nat) : Int) by rw [← Hun.out, HB2.out, Int.emod_eq_of_lt (by omega) (by omega)])
                    have Hfin := Lib.hid hfin
                    clear hv hnum hfin
                    go_wp2_with fail
                    go_region_with (go_at_call 24; refine (refPut_any none [] 0 0 _ _ rfl (by omega) (by omega) (by omega) (Rds.none_ _ _)).mono ?_; rintro e w1 ⟨v, rfl, hown, hb⟩; rw [List.nil_append, Hxq.out] at hown; obtain ⟨A1, d1, rfl, hd1, hd2, hr1, hA1⟩ := Own8.slice hown; clear hown hA1 hd2; have hc1 := text_q w1 (m := q.length) rfl hr1 d1; have hc2 := text_q w1 Hql.out (Rds.below (w := w.drew) Hrq.out hb) (cap - p))
                    all_goals
                      go_wp2_with fail
                      go_ret3
                      exact ⟨ret3 (by rw [Hfin.out, ← Hval.out, He.out]), (Below.refl w.heap.size w).drew.trans hb⟩
                  · obtain ⟨X, hX⟩ : ∃ X, X = num (-(B / 2) - 1) := ⟨_, rfl⟩
                    have hne : (X == q) = false := by
                      rw [beq_eq_false_iff_ne]
                      intro h
                      refine hno B.toNat (by omega) ?_
                      rw [← h, hX, ← Hun.out]
                      unfold num
                      rw [fold_unfold _ hB0]
                    have HX := Lib.hid hX
                    have Hfin := Lib.hid hfin
                    clear hno hfin hX
                    go_wp2_with fail
                    go_region_with (go_at_call 24; refine (refPut_any none [] 0 0 _ _ rfl (by omega) (by omega) (by omega) (Rds.none_ _ _)).mono ?_; rintro e w1 ⟨v, rfl, hown, hb⟩; rw [List.nil_append, ← HX.out] at hown; obtain ⟨A1, d1, rfl, hd1, hd2, hr1, hA1⟩ := Own8.slice hown; clear hown hA1 hd2; have hc1 := text_q w1 (m := X.length) rfl hr1 d1; have hc2 := text_q w1 Hql.out (Rds.below (w := w.drew) Hrq.out hb) (cap - p))
                    all_goals
                      go_wp2_with fail
                      go_ret3
                      exact ⟨ret3 Hfin.out, (Below.refl w.heap.size w).drew.trans hb⟩
                · have hb1 : (B % 2 == 1) = false := by simp [hodd]
                  have Hun : Hid (unfoldI B = B / 2) := Lib.hid (by unfold unfoldI; rw [if_neg hodd])
                  clear hodd
                  rcases Hcase.out with ⟨hv, hnum, hfin⟩ | ⟨hno, hfin⟩
                  · have Hxq := Lib.hid (show num (B / 2) = q by rw [← Hun.out, HB2.out, Int.emod_eq_of_lt (by omega) (by omega), hnum])
                    have Hval := Lib.hid (show B / 2 = unfoldI ((val q : Nat) : Int) by rw [← Hun.out, HB2.out, Int.emod_eq_of_lt (by omega) (by omega)])
                    have Hfin := Lib.hid hfin
                    clear hv hnum hfin
                    go_wp2_with fail
                    go_region_with (go_at_call 24; refine (refPut_any none [] 0 0 _ _ rfl (by omega) (by omega) (by omega) (Rds.none_ _ _)).mono ?_; rintro e w1 ⟨v, rfl, hown, hb⟩; rw [List.nil_append, Hxq.out] at hown; obtain ⟨A1, d1, rfl, hd1, hd2, hr1, hA1⟩ := Own8.slice hown; clear hown hA1 hd2; have hc1 := text_q w1 (m := q.length) rfl hr1 d1; have hc2 := text_q w1 Hql.out (Rds.below (w := w.drew) Hrq.out hb) (cap - p))
                    all_goals
                      go_wp2_with fail
                      go_ret3
                      exact ⟨ret3 (by rw [Hfin.out, ← Hval.out, He.out]), (Below.refl w.heap.size w).drew.trans hb⟩
                  · obtain ⟨X, hX⟩ : ∃ X, X = num (B / 2) := ⟨_, rfl⟩
                    have hne : (X == q) = false := by
                      rw [beq_eq_false_iff_ne]
                      intro h
                      refine hno B.toNat (by omega) ?_
                      rw [← h, hX, ← Hun.out]
                      unfold num
                      rw [fold_unfold _ hB0]
                    have HX := Lib.hid hX
                    have Hfin := Lib.hid hfin
                    clear hno hfin hX
                    go_wp2_with fail
                    go_region_with (go_at_call 24; refine (refPut_any none [] 0 0 _ _ rfl (by omega) (by omega) (by omega) (Rds.none_ _ _)).mono ?_; rintro e w1 ⟨v, rfl, hown, hb⟩; rw [List.nil_append, ← HX.out] at hown; obtain ⟨A1, d1, rfl, hd1, hd2, hr1, hA1⟩ := Own8.slice hown; clear hown hA1 hd2; have hc1 := text_q w1 (m := X.length) rfl hr1 d1; have hc2 := text_q w1 Hql.out (Rds.below (w := w.drew) Hrq.out hb) (cap - p))
                    all_goals
                      go_wp2_with fail
                      go_ret3
                      exact ⟨ret3 Hfin.out, (Below.refl w.heap.size w).drew.trans hb⟩
        · have hfin := getS_short (l := l) (a := p) hpl (by have := Hn.out; omega) (by have := Hn.out; omega)
          have Hfin := Lib.hid hfin
          clear hfin hlen hle hkl
          have hd : decide (p + k < n) = false := by simp; omega
          have hd2 : decide ((p : Int) + (k : Int) < (n : Int)) = false := by simp; omega
          go_wp2_with fail
          go_ret3
          exact ⟨ret3 Hfin.out, Below.refl _ _⟩
      · have hfin := getS_long (l := l) (a := p) hpl (by omega)
        have Hfin := Lib.hid hfin
        obtain rfl : k = 10 := by omega
        by_cases hin : p + 10 < n
        · have hin' : 10 < (l.drop p).length := by have := Hn.out; omega
          have hin2 : p + 10 < l.length := by have := Hn.out; omega
          obtain ⟨b, o, rfl, hb, hcell⟩ := hr.at_ (k := p + 10) (by rw [cells8_length]; exact hin2)
          have hcv : (cells8 l)[p + 10]'(by rw [cells8_length]; exact hin2) = .int .u8 (((l.drop p)[10].toNat : Nat) : Int) := by simp [cells8, cell8]
          rw [hcv] at hcell
          have hc0 : (0 : Int) ≤ ((l.drop p)[10].toNat : Int) := by omega
          have hc1 : ((l.drop p)[10].toNat : Int) ≤ 255 := by have := (l.drop p)[10].toNat_lt; omega
          clear hfin hlen hle hkl
          generalize hci : ((l.drop p)[10].toNat : Int) = c at *
          clear hci hcv hin'
          by_cases hbig : 128 ≤ c
          all_goals
            go_wp2_with fail
            go_ret3
            exact ⟨ret3 Hfin.out, Below.refl _ _⟩
        · clear hfin hlen hle hkl
          go_wp2_with fail
          go_ret3
          exact ⟨ret3 Hfin.out, Below.refl _ _⟩

end RefGet
end Go.Proofs.YtnkkeifjggcncaaDoor
