/-
  The document's own Types; pool.Names: what each call returns.
-/
import Derived.Test.YtnkkeifjggcncaaDoorPoolP
namespace Go.Proofs.YtnkkeifjggcncaaDoor
namespace PoolQ
open Go.RowKit Base BinM DescM DescW DescX DescR DescP DescQ DescG Stru PoolM PoolA PoolB PoolC PoolN PoolO PoolP

theorem put_one (l : List (List UInt8)) (t : List UInt8) : putR l t false = addOne l t := rfl

/-- the loop's way -/
def RelT (w : World) (names ts : List (List UInt8)) (v i : Value) (wr : World) : Prop :=
  ∃ (k : Nat) (A : Option Addr) (c : Nat), k ≤ ts.length ∧ i = .int .i64 k ∧ v = .slice A (addAll names (ts.take k)).length c ∧ (addAll names (ts.take k)).length ≤ c ∧ c ≤ maxLen ∧ Rds wr A ((addAll names (ts.take k)).map str) ∧ (A = none → c = 0) ∧ Below w.heap.size w wr

set_option maxRecDepth 100000 in
set_option maxHeartbeats 2000000 in
theorem types_any (A : Option Addr) (names : List (List UInt8)) (c : Nat) (B : Option Addr) (ts : List (List UInt8)) (mt ct : Nat) (w : World) (hle : names.length ≤ c) (hmx : c ≤ maxLen) (hn1 : names.length ≤ 100) (hr : Rds w A (names.map str)) (hnone : A = none → c = 0)
    (hm : mt = ts.length) (hm1 : mt ≤ 100) (hrt : Rds w B (ts.map str)) (hts : ∀ t ∈ ts, t.length ≤ 1048576) :
    Calls Tryd.prog 35 #[.slice A names.length c, .slice B mt ct] w (GivesT w (addAll names ts)) := by
  have hml : ts.length ≤ mt := Nat.le_of_eq hm.symm
  have hml2 : mt ≤ ts.length := Nat.le_of_eq hm
  have Hr := Lib.hid hr
  have Hrt := Lib.hid hrt
  have Hnone := Lib.hid hnone
  have Hts := Lib.hid hts
  clear hm hr hrt hnone hts
  go_enter Tryd.func35, Tryd.ntmps35
  go_wp2_with fail
  go_loopw [0, 5] (fun v i wr => RelT w names ts v i wr) (fun _ i _ => mt - (intOf i).toNat)
  case atStart => exact ⟨0, A, c, Nat.zero_le _, rfl, rfl, hle, hmx, Hr.out, Hnone.out, Below.refl _ _⟩
  case round =>
    obtain ⟨k, A2, c2, hk, rfl, rfl, hle2, hmx2, hr2, hnone2, hbel⟩ := hrel
    have Hbel := Lib.hid hbel
    have hsz := hbel.size
    have Hr2 := Lib.hid hr2
    have Hnone2 := Lib.hid hnone2
    by_cases hlt : k < ts.length
    · obtain ⟨b, o, rfl, hb, hcell'⟩ := (Hrt.out.below hbel).at_ (k := k) (by simpa using hlt)
      have hcell : wr.cell? ⟨b, o + k, none⟩ = some (.string ⟨ts[k].toArray⟩) := by rw [hcell']; simp [str]
      have htl := Hts.out ts[k] (List.getElem_mem hlt)
      have Hnext := Lib.hid (show putR (addAll names (ts.take k)) ts[k] false = addAll names (ts.take (k + 1)) from (add_take hlt).symm)
      have hal : (addAll names (ts.take k)).length ≤ 1000 := by
        have h1 := all_len (ts.take k) names
        have h2 : (ts.take k).length ≤ k := by simp; omega
        omega
      clear hcell' hbel hr2 hnone2
      generalize hx : ts[k] = x at *
      have Hx := Lib.hid hx
      clear hx
      have hput := put_more A2 (addAll names (ts.take k)) (addAll names (ts.take k)).length c2 x wr rfl hle2 hmx2 hal Hr2.out Hnone2.out htl
      rw [Hnext.out] at hput
      generalize addAll names (ts.take k) = p at *
      have Hput := Lib.hid hput
      clear hput
      go_wp2_with fail
      refine Calls.mono Hput.out ?_
      rintro e w2 ⟨A3, c3, rfl, h31, h32, h33, h34, hb2⟩
      have Hb2 := Lib.hid (Hbel.out.trans (hb2.mono hsz))
      have H33 := Lib.hid h33
      have H34 := Lib.hid h34
      clear hb2 h33 h34
      go_wp2_with fail
      go_roundw
      case rel => exact ⟨k + 1, A3, c3, by omega, by go_num, rfl, h31, h32, H33.out, H34.out, Hb2.out⟩
      case measure => simp [intOf]; omega
    · have e : ts.take k = ts := List.take_of_length_le (by omega)
      have Hfin := Lib.hid (show addAll names ts = addAll names (ts.take k) by rw [e])
      clear hbel hr2 hnone2 e
      go_wp2_with fail
      go_ret
      exact ⟨A2, c2, by rw [Hfin.out]; rfl, by rw [Hfin.out]; exact hle2, hmx2, by rw [Hfin.out]; exact Hr2.out, Hnone2.out, Hbel.out⟩

/-! what a right text of a method is -/
theorem parse_ok : ∀ (n : Nat) (l : List UInt8) (ts : List (List UInt8)) (g : List UInt8), parse n l = some (ts, g) → (∀ t ∈ ts, rightB t = true ∧ t.length ≤ l.length) ∧ ts.length ≤ n ∧ g.length ≤ l.length
  | 0, l, ts, g, h => by
    by_cases h41 : l.head? = some 41
    · rw [parse_41 0 h41] at h
      injection h with h
      injection h with h1 h2
      subst h1; subst h2
      exact ⟨by simp, by simp, by simp⟩
    · rw [parse_zero h41] at h; cases h
  | n + 1, l, ts, g, h => by
    by_cases h41 : l.head? = some 41
    · rw [parse_41 (n + 1) h41] at h
      injection h with h
      injection h with h1 h2
      subst h1; subst h2
      exact ⟨by simp, by simp, by simp⟩
    · cases hl : leadT l with
      | none => rw [parse_none (n + 1) h41 hl] at h; cases h
      | some k =>
        rw [parse_some n h41 hl] at h
        obtain ⟨r, hr, e⟩ := Option.map_eq_some_iff.1 h
        obtain ⟨ts', g'⟩ := r
        injection e with e1 e2
        subst e1; subst e2
        obtain ⟨i1, i2, i3⟩ := parse_ok n (l.drop k) ts' g' hr
        have hle := lead_le hl
        rw [List.length_drop] at i1 i3
        refine ⟨fun t ht => ?_, by simp; omega, by simp only; omega⟩
        rcases List.mem_cons.1 ht with rfl | ht
        · exact ⟨(right_take hle.2.1).2 hl, by simp; omega⟩
        · have := i1 t ht
          exact ⟨this.1, by omega⟩

theorem split_ok {u : List UInt8} (h : (splitT u).2.2 = 0) : (∀ t ∈ (splitT u).2.1, okT t ∧ t.length ≤ u.length) ∧ (splitT u).2.1.length ≤ 6 ∧ okT (splitT u).1 ∧ (splitT u).1.length ≤ u.length := by
  unfold splitT at h ⊢
  by_cases h40 : u.head? = some 40
  · rw [if_pos h40] at h ⊢
    cases hp : parse 6 (u.drop 1) with
    | none => rw [hp] at h; simp at h
    | some r =>
      obtain ⟨ts, g⟩ := r
      rw [hp] at h
      simp only at h ⊢
      obtain ⟨i1, i2, i3⟩ := parse_ok 6 _ ts g hp
      rw [List.length_drop] at i1 i3
      cases hg : givenB g
      · rw [hg] at h; simp at h
      · simp only [if_true]
        refine ⟨fun t ht => ⟨.inl (i1 t ht).1, by have := (i1 t ht).2; omega⟩, i2, ?_, by omega⟩
        rw [given_or] at hg
        simp only [Bool.or_eq_true, beq_iff_eq] at hg
        rcases hg with hg | hg
        · exact .inr hg
        · exact .inl hg
  · rw [if_neg h40] at h; simp at h

end PoolQ
end Go.Proofs.YtnkkeifjggcncaaDoor
