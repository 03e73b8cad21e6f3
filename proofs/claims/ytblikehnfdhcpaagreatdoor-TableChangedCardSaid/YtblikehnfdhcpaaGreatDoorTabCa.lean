/-
  The document's alike: whether a class has the same in two tables.
-/
import Derived.Test.YtblikehnfdhcpaaGreatDoorTabCg
namespace Go.Proofs.YtblikehnfdhcpaaGreatDoor
namespace TabCa
open Go.RowKit Base BinM Stru DescM DescW DescX HierS HierT HierM HierC HierD HierN HierR HierU Kls KlsP KlsQ TabC TabM TabK TabP TabE TabB TabG TabH TabT TabU TabV TabW TabN TabO TabY TabR TabQ TabEq TabCg


set_option maxRecDepth 100000 in
set_option maxHeartbeats 8000000 in
/-- the document's alike -/
theorem alikeR_any {lo : Nat} {w : World} {r g : Nat} {A : Option Addr} {c : Nat} {ps : List P2} {L : List ClsT} (H : RT lo w r g A c ps L) (U : Ups ps L)
    {lo2 r2 g2 : Nat} {A2 : Option Addr} {c2 : Nat} {ps2 : List P2} {M : List ClsT} (H2 : RT lo2 w r2 g2 A2 c2 ps2 M) (U2 : Ups ps2 M) (q : T) :
    Calls Tryz.prog 33 #[.pointer (some ⟨r, 0, none⟩), .pointer (some ⟨r2, 0, none⟩), .string ⟨q.toArray⟩] w fun e w' => e = .returned (.bool (chg L M q)) ∧ Below w.heap.size w w' := by
  have ha5 : ((hav L q).1.map fldOf).length ≤ 5000 := by rw [List.length_map]; exact (hav_len U.few q).1
  have hb5 : ((hav M q).1.map fldOf).length ≤ 5000 := by rw [List.length_map]; exact (hav_len U2.few q).1
  have hx5 := (hav_len U.few q).2
  have hy5 := (hav_len U2.few q).2
  have HL1 : Hid (∀ W, Below w.heap.size w W → Calls Tryz.prog 65 #[.pointer (some ⟨r, 0, none⟩), .string ⟨q.toArray⟩] W fun e w' => ∃ A c, e = .returned (.slice A ((hav L q).1.map fldOf).length c) ∧ Rds w' A (((hav L q).1.map fldOf).flatMap FldT.vals) ∧ Below W.heap.size W w') := Lib.hid (fun W hb => (layoutR_any (H.ext hb) U q).mono (fun e w' ⟨v, h1, h2, h3⟩ => by
    obtain ⟨A, c, rfl, _, _, _, _⟩ := own_slice h2
    exact ⟨A, c, h1, Rds.ownN h2, h3⟩))
  have HL2 : Hid (∀ W, Below w.heap.size w W → Calls Tryz.prog 65 #[.pointer (some ⟨r2, 0, none⟩), .string ⟨q.toArray⟩] W fun e w' => ∃ A c, e = .returned (.slice A ((hav M q).1.map fldOf).length c) ∧ Rds w' A (((hav M q).1.map fldOf).flatMap FldT.vals) ∧ Below W.heap.size W w') := Lib.hid (fun W hb => (layoutR_any (H2.ext hb) U2 q).mono (fun e w' ⟨v, h1, h2, h3⟩ => by
    obtain ⟨A, c, rfl, _, _, _, _⟩ := own_slice h2
    exact ⟨A, c, h1, Rds.ownN h2, h3⟩))
  have HM1 : Hid (∀ W, Below w.heap.size w W → Calls Tryz.prog 66 #[.pointer (some ⟨r, 0, none⟩), .string ⟨q.toArray⟩] W fun e w' => ∃ A c, e = .returned (.slice A (hav L q).2.length c) ∧ Rds w' A ((hav L q).2.flatMap EntT.vals) ∧ Below W.heap.size W w') := Lib.hid (fun W hb => (methodsR_any (H.ext hb) U q).mono (fun e w' ⟨v, h1, h2, h3⟩ => by
    obtain ⟨A, c, rfl, _, _, _, _⟩ := own_slice h2
    exact ⟨A, c, h1, Rds.ownN h2, h3⟩))
  have HM2 : Hid (∀ W, Below w.heap.size w W → Calls Tryz.prog 66 #[.pointer (some ⟨r2, 0, none⟩), .string ⟨q.toArray⟩] W fun e w' => ∃ A c, e = .returned (.slice A (hav M q).2.length c) ∧ Rds w' A ((hav M q).2.flatMap EntT.vals) ∧ Below W.heap.size W w') := Lib.hid (fun W hb => (methodsR_any (H2.ext hb) U2 q).mono (fun e w' ⟨v, h1, h2, h3⟩ => by
    obtain ⟨A, c, rfl, _, _, _, _⟩ := own_slice h2
    exact ⟨A, c, h1, Rds.ownN h2, h3⟩))
  have Z := Lib.hid (Below.refl w.heap.size w)
  clear H U H2 U2
  unfold chg
  generalize (hav L q).1.map fldOf = a at *
  generalize (hav M q).1.map fldOf = b at *
  generalize (hav L q).2 = x at *
  generalize (hav M q).2 = y at *
  go_enter Tryz.func33, Tryz.ntmps33
  go_wp2_with fail
  refine (HL1.out _ Z.out).mono ?_
  rintro e w1 ⟨A1, c1, rfl, r1, hb1⟩
  have B1 := Lib.hid hb1
  have R1 := Lib.hid r1
  clear r1 hb1
  go_wp2_with fail
  refine (HL2.out _ B1.out).mono ?_
  rintro e w2 ⟨A2, c2, rfl, r2, hb2⟩
  have B2 := Lib.hid (B1.out.trans (hb2.mono B1.out.size))
  have R2 := Lib.hid (And.intro (R1.out.below hb2) r2)
  clear r2 hb2 R1
  go_wp2_with fail
  refine (HM1.out _ B2.out).mono ?_
  rintro e w3 ⟨A3, c3, rfl, r3, hb3⟩
  have B3 := Lib.hid (B2.out.trans (hb3.mono B2.out.size))
  have R3 := Lib.hid (And.intro (R2.out.1.below hb3) (And.intro (R2.out.2.below hb3) r3))
  clear r3 hb3 R2
  go_wp2_with fail
  refine (HM2.out _ B3.out).mono ?_
  rintro e w4 ⟨A4, c4, rfl, r4, hb4⟩
  have B4 := Lib.hid (B3.out.trans (hb4.mono B3.out.size))
  have R4 := Lib.hid (And.intro (R3.out.1.below hb4) (And.intro (R3.out.2.1.below hb4) (And.intro (R3.out.2.2.below hb4) r4)))
  have Z4 := Lib.hid (Below.refl w4.heap.size w4)
  clear r4 hb4 R3 HL1 HL2 HM1 HM2
  by_cases hab : a.length = b.length
  · by_cases hxy : x.length = y.length
    · have hn1 : ((a.length : Int) != (b.length : Int)) = false := by rw [hab]; simp
      have hn2 : ((x.length : Int) != (y.length : Int)) = false := by rw [hxy]; simp
      have hab1 : a.length ≤ b.length := by omega
      have hxy1 : x.length ≤ y.length := by omega
      have hab2 : b.length ≤ a.length := by omega
      have hxy2 : y.length ≤ x.length := by omega
      have Hab := Lib.hid hab
      have Hxy := Lib.hid hxy
      clear hab hxy
      go_wp2_with fail
      go_loopw [11] (fun i wr => ∃ j : Nat, j ≤ a.length ∧ i = .int .i64 j ∧ Hid (a.take j = b.take j) ∧ Below w4.heap.size w4 wr) (fun i _ => a.length - (intOf i).toNat)
      case atStart => exact ⟨0, Nat.zero_le _, rfl, Lib.hid (by simp only [List.take_zero]), Z4.out⟩
      case round =>
        obtain ⟨j, hj, rfl, Hs, hbw⟩ := hrel
        have Hbw := Lib.hid hbw
        by_cases hlt : j < a.length
        · have hlb : j < b.length := by omega
          obtain ⟨b1, o1, hA1, hb1, d0, d1⟩ := fld_at (R4.out.1.below hbw) hlt
          obtain ⟨b2, o2, hA2, hb2, e0, e1⟩ := fld_at (R4.out.2.1.below hbw) hlb
          subst hA1
          subst hA2
          have hj1 : (j : Int) < (a.length : Int) := by omega
          have hj2 : (j : Int) < (b.length : Int) := by omega
          have hj0 : (0 : Int) ≤ (j : Int) := by omega
          have Hyes := Lib.hid (fun he : a[j] = b[j] => (show a.take (j + 1) = b.take (j + 1) by rw [List.take_succ_eq_append_getElem hlt, List.take_succ_eq_append_getElem hlb, Hs.out, he]))
          have Hno := Lib.hid (fun he : a[j] ≠ b[j] => (show ¬ a = b from fun h => he (by subst h; rfl)))
          have hne := neq_fld a[j].name a[j].desc b[j].name b[j].desc
          clear hbw
          generalize a[j] = xx at *
          generalize b[j] = yy at *
          obtain ⟨x0, x1⟩ := xx
          obtain ⟨y0, y1⟩ := yy
          simp only at d0 d1 e0 e1 hne
          by_cases he : (⟨x0, x1⟩ : FldT) = ⟨y0, y1⟩
          · have Hq := Lib.hid (Hyes.out he)
            rw [show FldT.eqb ⟨x0, x1⟩ ⟨y0, y1⟩ = true from (FldT.iff _ _).2 he] at hne
            simp only [Bool.not_true] at hne
            clear he
            go_wp2_with fail
            go_quiet (fail)
            go_wp2_with fail
            go_roundw
            case rel => exact ⟨j + 1, by omega, by go_num, Hq, Stru.drawn Hbw.out _⟩
            case measure => simp [intOf]; omega
          · have Hq := Lib.hid (Hno.out he)
            rw [show FldT.eqb ⟨x0, x1⟩ ⟨y0, y1⟩ = false from by cases hh : FldT.eqb ⟨x0, x1⟩ ⟨y0, y1⟩ with | false => rfl | true => exact absurd ((FldT.iff _ _).1 hh) he] at hne
            simp only [Bool.not_false] at hne
            clear he
            go_wp2_with fail
            go_quiet (fail)
            go_wp2_with fail
            go_ret
            exact ⟨by rw [decide_eq_false Hq.out]; rfl, B4.out.trans ((Stru.drawn Hbw.out _).mono B4.out.size)⟩
        · have HAB := Lib.hid (show a = b by
            have h := Hs.out
            rw [List.take_of_length_le (by omega), List.take_of_length_le (by omega)] at h
            exact h)
          obtain ⟨wA, hwA⟩ : ∃ x, x = wr := ⟨_, rfl⟩
          subst hwA
          have R5 := Lib.hid (And.intro (R4.out.2.2.1.below hbw) (R4.out.2.2.2.below hbw))
          have B5 := Lib.hid (B4.out.trans (hbw.mono B4.out.size))
          have Z5 := Lib.hid (Below.refl wA.heap.size wA)
          clear hbw
          go_wp2_with fail
          go_loopw [12] (fun i wr => ∃ j : Nat, j ≤ x.length ∧ i = .int .i64 j ∧ Hid ((x.take j).map nsE = (y.take j).map nsE) ∧ Below wA.heap.size wA wr) (fun i _ => x.length - (intOf i).toNat)
          case atStart => exact ⟨0, Nat.zero_le _, rfl, Lib.hid (by simp only [List.take_zero]), Z5.out⟩
          case round =>
            obtain ⟨k, hk, rfl, Hs2, hbx⟩ := hrel
            have Hbx := Lib.hid hbx
            by_cases hlk : k < x.length
            · have hlky : k < y.length := by omega
              obtain ⟨b1, o1, hA1, hb1, d0, d1, _⟩ := ent_at (R5.out.1.below hbx) hlk
              obtain ⟨b2, o2, hA2, hb2, e0, e1, _⟩ := ent_at (R5.out.2.below hbx) hlky
              subst hA1
              subst hA2
              have hj1 : (k : Int) < (x.length : Int) := by omega
              have hj2 : (k : Int) < (y.length : Int) := by omega
              have hj0 : (0 : Int) ≤ (k : Int) := by omega
              have Hyes := Lib.hid (fun he => map_step nsE hlk hlky Hs2.out he)
              have Hno := Lib.hid (fun he => map_ne nsE hlk hlky he)
              clear hbx
              generalize x[k] = xx at *
              generalize y[k] = yy at *
              obtain ⟨x0, x1, x2⟩ := xx
              obtain ⟨y0, y1, y2⟩ := yy
              simp only at d0 d1 e0 e1
              cases h0 : (x0 == y0)
              · have Hq := Lib.hid (Hno.out (by unfold nsE; intro h; simp only [Prod.mk.injEq] at h; rw [h.1] at h0; simp at h0))
                have hv0 : (x0 != y0) = true := by simp [bne, h0]
                go_wp2_with fail
                go_quiet (fail)
                go_wp2_with fail
                go_ret
                exact ⟨by rw [decide_eq_false Hq.out]; simp, B5.out.trans ((Stru.drawn Hbx.out _).mono B5.out.size)⟩
              · have hv0 : (x0 != y0) = false := by simp [bne, h0]
                cases h1 : (x1 == y1)
                · have Hq := Lib.hid (Hno.out (by unfold nsE; intro h; simp only [Prod.mk.injEq] at h; rw [h.2] at h1; simp at h1))
                  have hv1 : (x1 != y1) = true := by simp [bne, h1]
                  go_wp2_with fail
                  go_quiet (fail)
                  go_wp2_with fail
                  go_ret
                  exact ⟨by rw [decide_eq_false Hq.out]; simp, B5.out.trans ((Stru.drawn Hbx.out _).mono B5.out.size)⟩
                · have Hq := Lib.hid (Hyes.out (by unfold nsE; rw [eq_of_beq h0, eq_of_beq h1]))
                  have hv1 : (x1 != y1) = false := by simp [bne, h1]
                  go_wp2_with fail
                  go_quiet (fail)
                  go_wp2_with fail
                  go_roundw
                  case rel => exact ⟨k + 1, by omega, by go_num, Hq, Stru.drawn Hbx.out _⟩
                  case measure => simp [intOf]; omega
            · have HXY := Lib.hid (show x.map nsE = y.map nsE by
                have h := Hs2.out
                rw [List.take_of_length_le (by omega), List.take_of_length_le (by omega)] at h
                exact h)
              clear hbx
              go_wp2_with fail
              go_ret
              exact ⟨by rw [decide_eq_true HAB.out, decide_eq_true HXY.out]; rfl, B5.out.trans (Hbx.out.mono B5.out.size)⟩
    · have hn1 : ((a.length : Int) != (b.length : Int)) = false := by rw [hab]; simp
      have hn2 : ((x.length : Int) != (y.length : Int)) = true := by simp; omega
      have Hfin := Lib.hid (decide_eq_false (map_len nsE hxy))
      clear hab hxy
      go_wp2_with fail
      go_ret
      exact ⟨by rw [Hfin.out]; simp, B4.out⟩
  · have hn1 : ((a.length : Int) != (b.length : Int)) = true := by simp; omega
    have Hfin := Lib.hid (decide_eq_false (fun h : a = b => hab (by rw [h])))
    clear hab
    go_wp2_with fail
    go_ret
    exact ⟨by rw [Hfin.out]; rfl, B4.out⟩
end TabCa
end Go.Proofs.YtblikehnfdhcpaaGreatDoor
