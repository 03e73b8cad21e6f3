/-
  A class that can be has bounded bytes; klass.Put.
-/
import Derived.Test.YthkkcecfenohjaaGreatDoorKlsD
import Derived.Test.YthkkcecfenohjaaGreatDoorKlsX
namespace Go.Proofs.YthkkcecfenohjaaGreatDoor
namespace KlsI
open Go.RowKit Base BinM DescM DescW DescX DescR DescP DescQ Stru PoolM InsM InsA InsC InsD InsE InsP BinE BinPut BinText Bin8 Kls KlsK KlsP KlsQ KlsC KlsD PutN OpenK
open Part (Row)

theorem firstI_zero {α : Type} {f : Nat → α → Int} {l : List α} (h : firstI f l = 0) : ∀ i (hi : i < l.length), f i l[i] = 0 := by
  intro i hi
  unfold firstI at h
  split at h
  · rename_i k hk
    have h1 := List.find?_some hk
    have h2 := List.mem_of_find?_eq_some hk
    rw [List.mem_range] at h2
    rw [List.getElem?_eq_getElem h2] at h h1
    simp only [Option.elim] at h h1
    rw [h] at h1
    simp at h1
  · rename_i hk
    rw [List.find?_eq_none] at hk
    have := hk i (List.mem_range.2 hi)
    rw [List.getElem?_eq_getElem hi] at this
    simpa using this
theorem chk_put {cd : List InsT} {ks : List Cst} {lo : Int} (h : (checkI cd ks lo).2 = 0) : (putI [] cd).2 = 0 := by
  unfold checkI at h
  split at h
  · cases h
  · rename_i h1
    split at h
    · cases h
    · rename_i hk
      rw [List.find?_eq_none] at hk
      unfold putI
      rw [if_neg (by omega), if_pos]
      rw [List.all_eq_true]
      intro x hx
      obtain ⟨i, hi, rfl⟩ := List.getElem_of_mem hx
      have h2 := hk i (List.mem_range.2 hi)
      rw [List.getD_eq_getElem?_getD, List.getElem?_eq_getElem hi, Option.getD_some] at h2
      generalize cd[i] = x at h2
      unfold canB at h2
      unfold putOk
      split at h2
      · simp at h2
      · rename_i a1
        split at h2
        · rename_i a2
          simp at h2
          simp [a2, h2]
        · rename_i a2
          have h3 : 0 ≤ x.2 := by
            split at h2
            · unfold inB at h2; simp at h2; omega
            · split at h2
              · unfold inB at h2; simp at h2; omega
              · split at h2
                · simp at h2; omega
                · simp at h2
          simp [a1, a2, h3]
theorem parse_len : ∀ (n : Nat) {l : List UInt8} {ts : List (List UInt8)} {g : List UInt8}, parse n l = some (ts, g) → l.length ≤ 30 * n + 1 + g.length
  | 0, l, ts, g, h => by
    unfold parse at h
    split at h
    · injection h with h
      injection h with h1 h2
      rw [← h2, List.length_drop]
      omega
    · cases h
  | n + 1, l, ts, g, h => by
    unfold parse at h
    split at h
    · injection h with h
      injection h with h1 h2
      rw [← h2, List.length_drop]
      omega
    · split at h
      · cases h
      · rename_i k hk
        have h1 := lead_le hk
        cases hp : parse n (l.drop k) with
        | none => rw [hp] at h; cases h
        | some r =>
          rw [hp] at h
          obtain ⟨r1, r2⟩ := r
          have h2 := parse_len n hp
          rw [List.length_drop] at h2
          injection h with h
          injection h with h3 h4
          subst h4
          show l.length ≤ 30 * (n + 1) + 1 + r2.length
          omega
theorem right_le {l : List UInt8} (h : rightB l = true) : l.length ≤ 30 := by
  unfold rightB at h
  have h2 : leadT l = some l.length := by simpa using h
  exact (lead_le h2).2.2.1
theorem sig_len {l : List UInt8} (h : (splitT l).2.2 = 0) : l.length ≤ 1000 := by
  unfold splitT at h
  split at h
  · split at h
    · rename_i ts g hp
      have h1 := parse_len 6 hp
      rw [List.length_drop] at h1
      split at h
      · rename_i hg
        unfold givenB at hg
        rw [Bool.or_eq_true] at hg
        rcases hg with hg | hg
        · have : g = [86] := by simpa using hg
          subst this
          simp at h1
          omega
        · have := right_le hg
          omega
      · cases h
    · cases h
  · cases h
theorem tame_of {x : ClsT} (hl : ClsT.lt x) (h : clsE x = 0) : TameC x := by
  unfold clsE at h
  split at h
  · cases h
  · rename_i h1
    have hn : nameB x.name = true := by exact Classical.byContradiction fun hq => h1 (.inl (by simpa using hq))
    have hs : nameB x.sup = true := by exact Classical.byContradiction fun hq => h1 (.inr (by simpa using hq))
    split at h
    · rename_i h2; exact (h2 h).elim
    · rename_i h2
      split at h
      · rename_i h3; exact (h3 h).elim
      · rename_i h3
        have h2' : (allC [] x.consts).2 = 0 := Classical.byContradiction h2
        have h3' : fldsE x.fields = 0 := Classical.byContradiction h3
        unfold fldsE at h3'
        unfold mthsE at h
        split at h3'
        · cases h3'
        · rename_i h4
          split at h
          · cases h
          · rename_i h5
            have hF := firstI_zero h3'
            have hM := firstI_zero h
            refine ⟨by have := (name_ok hn).2.2; omega, by have := (name_ok hs).2.2; omega, h2', hl.consts, by omega, ?_, by omega, ?_⟩
            · intro y hy
              obtain ⟨i, hi, rfl⟩ := List.getElem_of_mem hy
              have h6 := hF i hi
              unfold fldE at h6
              split at h6
              · cases h6
              · rename_i a1
                split at h6
                · cases h6
                · rename_i a2
                  have b1 : nameB x.fields[i].name = true := by simpa using a1
                  have b2 : rightB x.fields[i].desc = true := by simpa using a2
                  have := (name_ok b1).2.2
                  have := right_le b2
                  omega
            · intro y hy
              obtain ⟨i, hi, rfl⟩ := List.getElem_of_mem hy
              have h6 := hM i hi
              unfold mthE at h6
              split at h6
              · cases h6
              · rename_i a1
                split at h6
                · cases h6
                · rename_i a2
                  split at h6
                  · cases h6
                  · split at h6
                    · cases h6
                    · have b1 : nameB x.meths[i].name = true := by simpa using a1
                      have b2 : (splitT x.meths[i].sig).2.2 = 0 := Classical.byContradiction a2
                      unfold codeE at h6
                      split at h6
                      · rename_i a3; exact (a3 h6).elim
                      · rename_i a3
                        split at h6
                        · cases h6
                        · unfold hndsE at h6
                          split at h6
                          · cases h6
                          · rename_i a4
                            have hH := firstI_zero h6
                            refine ⟨by have := (name_ok b1).2.2; omega, sig_len b2, chk_put (Classical.byContradiction a3), by omega, ?_⟩
                            intro z hz
                            obtain ⟨k, hk, rfl⟩ := List.getElem_of_mem hz
                            have h7 := hH k hk
                            unfold hndE at h7
                            split at h7
                            · cases h7
                            · split at h7
                              · cases h7
                              · rename_i a5
                                have b3 : nameB x.meths[i].hand[k].cls = true := by simpa using a5
                                have := (name_ok b3).2.2
                                omega

/-- the bytes of a class, the error's number -/
def putK (x : ClsT) : List UInt8 × Int := if clsE x ≠ 0 then ([], clsE x) else if 65536 < (clsB x).length then ([], 6) else (clsB x, 0)
theorem putK_bad {x : ClsT} (h : clsE x ≠ 0) : putK x = ([], clsE x) := by unfold putK; rw [if_pos h]
theorem putK_long {x : ClsT} (h : clsE x = 0) (h2 : 65536 < (clsB x).length) : putK x = ([], 6) := by unfold putK; rw [if_neg (by simp [h]), if_pos h2]
theorem putK_ok {x : ClsT} (h : clsE x = 0) (h2 : ¬ 65536 < (clsB x).length) : putK x = (clsB x, 0) := by unfold putK; rw [if_neg (by simp [h]), if_neg h2]
def Gives8K (w : World) (r : List UInt8 × Int) (e : Ending) (w' : World) : Prop :=
  ∃ v, e = .returned (.tuple #[v, .int .i64 r.2]) ∧ Own8 w' w.heap.size v r.1 ∧ Below w.heap.size w w'
theorem gives8K {w w' : World} {r : List UInt8 × Int} {v : Value} {t : List UInt8} {n : Int} (h : r = (t, n)) (ho : Own8 w' w.heap.size v t) (hb : Below w.heap.size w w') : Gives8K w r (.returned (.tuple #[v, .int .i64 n])) w' := by
  subst h
  exact ⟨v, rfl, ho, hb⟩

set_option maxRecDepth 100000 in
set_option maxHeartbeats 4000000 in
theorem put_any (x : ClsT) (w : World) (hL : Laid w) (hx : x.is w) (hl : ClsT.lt x) :
    Calls Tryz.prog 19 #[x.V] w (Gives8K w (putK x)) := by
  have Hr := Lib.hid (fun (W : World) (hb : Below w.heap.size w W) => KlsX.right_any x W (hL.below hb hL.1) (hx.below hb) hl)
  have Hb := Lib.hid (fun (h : clsE x = 0) (W : World) (hb : Below w.heap.size w W) => bytesOf_any x W (hL.below hb hL.1) (hx.below hb) (tame_of hl h))
  have P1 := Lib.hid (putK_bad (x := x))
  have P2 := Lib.hid (putK_long (x := x))
  have P3 := Lib.hid (putK_ok (x := x))
  clear hL hx hl
  generalize putK x = R at *
  generalize clsE x = E at *
  generalize clsB x = X at *
  obtain ⟨n, s, kA, km, kc, fA, fm, fc, mA, mm, mc, ks, fs, ms⟩ := x
  simp only [ClsT.V] at *
  have HB := Lib.hid ((Below.refl w.heap.size w).alloc (Nat.le_refl _) (.cells #[.string ⟨n.toArray⟩, .string ⟨s.toArray⟩, .slice kA km kc, .slice fA fm fc, .slice mA mm mc] 26))
  have H1 := Lib.hid (Box5.new w (.string ⟨n.toArray⟩) (.string ⟨s.toArray⟩) (.slice kA km kc) (.slice fA fm fc) (.slice mA mm mc) 26)
  obtain ⟨hc0, hc1, hc2, hc3, hc4⟩ := H1.out
  go_enter Tryz.func19, Tryz.ntmps19
  go_wp2_with fail
  refine Calls.mono (Hr.out _ HB.out) ?_
  rintro e w1 ⟨rfl, hb1⟩
  clear hc0 hc1 hc2 hc3 hc4
  have B1 := Lib.hid (HB.out.trans (hb1.mono HB.out.size))
  have H2 := Lib.hid (H1.out.after hb1)
  clear hb1
  by_cases hE : E = 0
  · subst hE
    obtain ⟨hc0, hc1, hc2, hc3, hc4⟩ := H2.out
    go_wp2_with fail
    refine Calls.mono (Hb.out trivial _ B1.out) ?_
    rintro e w2 ⟨v2, rfl, hown2, hb2⟩
    replace hown2 : Own8 w2 w1.heap.size v2 X := hown2
    have O2 : Hid (Own8 w2 w.heap.size v2 X) := Lib.hid (own_mono hown2 B1.out.size)
    obtain ⟨A2, c2, rfl, hq2, hq2', hr2, _⟩ := Own8.slice hown2
    have B2 := Lib.hid (B1.out.trans (hb2.mono B1.out.size))
    clear hb2 hown2 hr2
    by_cases h6 : 65536 < X.length
    · have Hq := Lib.hid (P2.out trivial h6)
      have h6' : (65536 : Int) < (X.length : Int) := by omega
      have d1 : decide ((65536 : Int) < (X.length : Int)) = true := by simp; omega
      clear h6
      go_wp2_with fail
      go_ret2
      exact gives8K Hq.out (Own8.nil _ _) B2.out
    · have Hq := Lib.hid (P3.out trivial h6)
      have h6' : ¬ (65536 : Int) < (X.length : Int) := by omega
      have d1 : decide ((65536 : Int) < (X.length : Int)) = false := by simp; omega
      clear h6
      go_wp2_with fail
      go_ret2
      exact gives8K Hq.out O2.out B2.out
  · have Hq := Lib.hid (P1.out hE)
    have hE2 : (E != 0) = true := by simp [hE]
    clear hE
    go_wp2_with fail
    go_ret2
    exact gives8K Hq.out (Own8.nil _ _) B1.out

end KlsI
end Go.Proofs.YthkkcecfenohjaaGreatDoor
