/-
  Which constants code uses: ins.Uses and the document's own; two lists of numbers held against each other: what each call returns.
-/
import Derived.Test.YtaekdgbbopcpbaaDoorInsW
namespace Go.Proofs.YtaekdgbbopcpbaaDoor
namespace InsX
open Go.RowKit Base InsM InsA InsB Stru InsC InsT InsU InsV InsW
open InsJ (drawn)

def usedB (x : InsT) : Bool := decide (1 ≤ kindI x.1) && decide (kindI x.1 ≤ 5)
def usesL (l : List InsT) : List Int := (l.filter usedB).map (·.2)
theorem uses_len (l : List InsT) : (usesL l).length ≤ l.length := by unfold usesL; rw [List.length_map]; exact List.length_filter_le _ _
theorem uses_take {l : List InsT} {k : Nat} (h : k < l.length) : usesL (l.take (k + 1)) = usesL (l.take k) ++ (if usedB l[k] then [l[k].2] else []) := by
  rw [List.take_succ_eq_append_getElem h]
  unfold usesL
  rw [List.filter_append, List.map_append]
  congr 1
  cases hu : usedB l[k] <;> simp [hu]

def RelU (w : World) (l : List InsT) (f : List Int → List Int) (o i : Value) (wr : World) : Prop :=
  ∃ k : Nat, k ≤ l.length ∧ i = .int .i64 k ∧ OwnJ wr w.heap.size o (f (usesL (l.take k))) ∧ Below w.heap.size w wr

theorem rds_new2 (w : World) (o : Obj) (cs : Array Value) (t : TypeId) : Rds ((w.alloc o).alloc (.cells cs t)) (some ⟨w.heap.size + 1, 0, none⟩) cs.toList := by
  have := rds_new (w.alloc o) cs t
  simpa using this

set_option maxRecDepth 100000 in
set_option maxHeartbeats 2000000 in
theorem uses_any (A : Option Addr) (m c : Nat) (l : List InsT) (w : World) (hl : Laid w) (h : IsCode w A m c l) (h6 : m ≤ 600) :
    Calls Tryd.prog 46 #[.slice A m c] w (GivesJ w (rise (usesL l))) := by
  obtain ⟨hm, hle, hmx, hr, _⟩ := h
  have hml : l.length ≤ m := Nat.le_of_eq hm.symm
  have hml2 : m ≤ l.length := Nat.le_of_eq hm
  have Hl := Lib.hid hl
  have Hr := Lib.hid hr
  clear hm hr hl hmx
  go_enter Tryd.func46, Tryd.ntmps46
  go_wp2
  go_loopw [3, 5, 6, 9] (fun o _ _ i wr => RelU w l id o i wr) (fun _ _ _ i _ => m - (intOf i).toNat)
  case atStart => exact ⟨0, Nat.zero_le _, rfl, OwnJ.nil _ _, Below.refl _ _⟩
  case round =>
    obtain ⟨k, hk, rfl, hown, hbel⟩ := hrel
    have Hown : Hid (OwnJ wr w.heap.size _ (usesL (l.take k))) := Lib.hid hown
    have Hbel := Lib.hid hbel
    have hsz := hbel.size
    by_cases hlt : k < l.length
    · obtain ⟨b, o, rfl, hb, hc0, hc1⟩ := code_at (Hr.out.below hbel) hlt
      have ht := uses_take hlt
      have hul : (usesL (l.take k)).length ≤ k := by
        have := uses_len (l.take k)
        have h2 : (l.take k).length ≤ k := by simp; omega
        omega
      clear hown hbel
      generalize hx : l[k] = x at *
      obtain ⟨op, a⟩ := x
      simp only at hc0 hc1
      clear hx
      generalize hpp : usesL (l.take k) = p at *
      have Hl2 := Lib.hid (Hl.out.below (Hbel.out.alloc hsz (.cells #[.int .i64 op, .int .i64 a] 90)) Hl.out.1)
      have Hb2 := Lib.hid (Hbel.out.alloc hsz (.cells #[.int .i64 op, .int .i64 a] 90))
      have Hk2 := Lib.hid (ownJ_kept Hown.out ((Below.refl wr.heap.size wr).alloc (Nat.le_refl _) (.cells #[.int .i64 op, .int .i64 a] 90)))
      have hub : usedB (op, a) = (decide (1 ≤ kindI op) && decide (kindI op ≤ 5)) := rfl
      rw [hub] at ht
      clear hub
      obtain ⟨K, hK⟩ : ∃ K, K = kindI op := ⟨_, rfl⟩
      rw [← hK] at ht
      have HK := Lib.hid hK
      clear hK hpp
      by_cases h1 : 1 ≤ K
      · by_cases h2 : K ≤ 5
        · have e1 : (decide (1 ≤ K) && decide (K ≤ 5)) = true := by simp [h1, h2]
          rw [e1, if_pos rfl] at ht
          have Ht := Lib.hid ht
          clear ht e1
          go_wp2_with (first
            | (go_at_call 32; refine (kind_any _ _ Hl2.out).mono ?_; rw [← HK.out]; rintro e w' ⟨rfl, rfl⟩)
            | (at_builtin
               refine appJ rfl (.tmp 22) (.tmp 25) rfl w.heap.size _ p rfl (ownJ_kept Hk2.out ((Below.refl _ _).alloc (Nat.le_refl _) _)) (some ⟨wr.heap.size + 1, 0, none⟩) 1 1 [a] rfl rfl (rds_new2 _ _ _ _) (by simp; omega) (by simp; omega) ?_
               intro v2 w2 hown2 hg2
               have Hb3 := Lib.hid (ownJ_below (ownJ_kept Hk2.out ((Below.refl _ _).alloc (Nat.le_refl _) _)) (Hb2.out.alloc (by simp; omega) _) (Nat.le_refl _) (by simp; omega) hg2)
               have Hown2 := Lib.hid hown2
               clear hown2 hg2))
          go_roundw
          case rel => exact ⟨k + 1, by omega, by go_num, by show OwnJ _ _ _ (usesL _); rw [Ht.out]; exact Hown2.out, Hb3.out⟩
          case measure => simp [intOf]; omega
        · have e1 : (decide (1 ≤ K) && decide (K ≤ 5)) = false := by simp [h2]
          have h2' : decide (K ≤ 5) = false := decide_eq_false h2
          rw [e1, if_neg (by simp), List.append_nil] at ht
          have Ht := Lib.hid ht
          clear ht e1
          go_wp2_with (go_at_call 32; refine (kind_any _ _ Hl2.out).mono ?_; rw [← HK.out]; rintro e w' ⟨rfl, rfl⟩)
          go_roundw
          case rel => exact ⟨k + 1, by omega, by go_num, by show OwnJ _ _ _ (usesL _); rw [Ht.out]; exact Hk2.out, Hb2.out⟩
          case measure => simp [intOf]; omega
      · have e1 : (decide (1 ≤ K) && decide (K ≤ 5)) = false := by simp [h1]
        rw [e1, if_neg (by simp), List.append_nil] at ht
        have Ht := Lib.hid ht
        clear ht e1
        go_wp2_with (go_at_call 32; refine (kind_any _ _ Hl2.out).mono ?_; rw [← HK.out]; rintro e w' ⟨rfl, rfl⟩)
        go_roundw
        case rel => exact ⟨k + 1, by omega, by go_num, by show OwnJ _ _ _ (usesL _); rw [Ht.out]; exact Hk2.out, Hb2.out⟩
        case measure => simp [intOf]; omega
    · have e : l.take k = l := List.take_of_length_le (by omega)
      have hul := uses_len l
      have Hown3 : Hid (OwnJ wr w.heap.size _ (usesL l)) := Lib.hid (by have := Hown.out; rwa [e] at this)
      clear hown hbel Hown e
      go_wp2_with fail
      refine (rising_any _ _ _ _ Hown3.out (by omega)).mono ?_
      rintro e w2 ⟨v, rfl, hown2, hbel2⟩
      have Hown2 := Lib.hid hown2
      have Hb2 := Lib.hid (hbel2 w.heap.size w (Nat.le_refl _) hsz Hbel.out)
      clear hown2 hbel2
      go_wp2_with fail
      go_ret
      exact ⟨_, rfl, Hown2.out, Hb2.out⟩

theorem ups_take {l : List InsT} {k : Nat} (h : k < l.length) : upsI (usesL (l.take (k + 1))) = if usedB l[k] then insI (upsI (usesL (l.take k))) l[k].2 else upsI (usesL (l.take k)) := by
  rw [uses_take h]
  cases hu : usedB l[k]
  · simp
  · simp [upsI, List.foldl_append]
theorem ups_len (l : List Int) : (upsI l).length ≤ l.length := by
  have key : ∀ (l acc : List Int), (l.foldl insI acc).length ≤ acc.length + l.length := by
    intro l
    induction l with
    | nil => intro acc; simp
    | cons x t ih =>
      intro acc
      have h1 := ih (insI acc x)
      have h2 : (insI acc x).length ≤ acc.length + 1 := by
        unfold insI
        split
        · omega
        · rw [insB_len]
          exact Nat.le_refl _
      simp only [List.foldl_cons, List.length_cons]
      omega
  have := key l []
  simpa [upsI] using this

set_option maxRecDepth 100000 in
set_option maxHeartbeats 2000000 in
theorem refUses_any (A : Option Addr) (m c : Nat) (l : List InsT) (w : World) (h : IsCode w A m c l) (h6 : m ≤ 600) :
    Calls Tryd.prog 47 #[.slice A m c] w (GivesJ w (upsI (usesL l))) := by
  obtain ⟨hm, hle, hmx, hr, _⟩ := h
  have hml : l.length ≤ m := Nat.le_of_eq hm.symm
  have hml2 : m ≤ l.length := Nat.le_of_eq hm
  have Hr := Lib.hid hr
  clear hm hr hmx
  go_enter Tryd.func47, Tryd.ntmps47
  go_wp2
  go_loopw [3, 4, 5] (fun o i _ wr => RelU w l upsI o i wr) (fun _ i _ _ => m - (intOf i).toNat)
  case atStart => exact ⟨0, Nat.zero_le _, rfl, OwnJ.nil _ _, Below.refl _ _⟩
  case round =>
    obtain ⟨k, hk, rfl, hown, hbel⟩ := hrel
    have Hown := Lib.hid hown
    have Hbel := Lib.hid hbel
    have hsz := hbel.size
    by_cases hlt : k < l.length
    · obtain ⟨b, o, rfl, hb, hc0', hc1'⟩ := code_at (Hr.out.below hbel) hlt
      have ht := ups_take hlt
      have hul : (upsI (usesL (l.take k))).length ≤ k := by
        have h0 := ups_len (usesL (l.take k))
        have := uses_len (l.take k)
        have h2 : (l.take k).length ≤ k := by simp; omega
        omega
      clear hown hbel
      generalize hx : l[k] = x at *
      obtain ⟨op, a⟩ := x
      simp only at hc0' hc1' ht
      clear hx
      generalize hpp : upsI (usesL (l.take k)) = p at *
      have hub : usedB (op, a) = (decide (1 ≤ kindI op) && decide (kindI op ≤ 5)) := rfl
      rw [hub] at ht
      clear hub
      obtain ⟨K, hK⟩ : ∃ K, K = kindI op := ⟨_, rfl⟩
      rw [← hK] at ht
      have HK := Lib.hid hK
      have Ht0 := Lib.hid ht
      clear hK hpp ht
      go_wp2_with fail
      refine (refKind_any _ _).mono ?_
      rw [← HK.out]
      rintro e w1 ⟨rfl, hb1⟩
      have hc0 : w1.cell? ⟨b, o + k * 2, none⟩ = some (.int .i64 op) := (hb1.cell (p := ⟨b, o + k * 2, none⟩) hb).trans hc0'
      have hc1 : w1.cell? ⟨b, o + k * 2 + 1, none⟩ = some (.int .i64 a) := (hb1.cell (p := ⟨b, o + k * 2 + 1, none⟩) hb).trans hc1'
      have Hb1 := Lib.hid (Hbel.out.trans (hb1.mono hsz))
      have hsz1 := Hb1.out.size
      have Hown1 := Lib.hid (ownJ_kept Hown.out hb1)
      clear hb1 hc0' hc1'
      by_cases h1 : 1 ≤ K
      · by_cases h2 : K ≤ 5
        · have e1 : (decide (1 ≤ K) && decide (K ≤ 5)) = true := by simp [h1, h2]
          have ht := Ht0.out
          rw [e1, if_pos rfl] at ht
          have Ht := Lib.hid ht
          clear ht e1 Ht0
          go_wp2_with fail
          refine (place_any _ _ p a w1 Hown1.out hsz1 (by omega)).mono ?_
          rintro e w2 ⟨v2, rfl, hown2, hb2⟩
          have Hown2 := Lib.hid hown2
          have Hb2 := Lib.hid (Hb1.out.trans (hb2.mono hsz1))
          clear hown2 hb2
          go_wp2_with fail
          go_roundw
          case rel => exact ⟨k + 1, by omega, by go_num, by rw [Ht.out]; exact Hown2.out, Hb2.out⟩
          case measure => simp [intOf]; omega
        · have e1 : (decide (1 ≤ K) && decide (K ≤ 5)) = false := by simp [h2]
          have h2' : decide (K ≤ 5) = false := decide_eq_false h2
          have ht := Ht0.out
          rw [e1, if_neg (by simp)] at ht
          have Ht := Lib.hid ht
          clear ht e1 Ht0
          go_wp2_with fail
          go_roundw
          case rel => exact ⟨k + 1, by omega, by go_num, by rw [Ht.out]; exact Hown1.out, Hb1.out⟩
          case measure => simp [intOf]; omega
      · have e1 : (decide (1 ≤ K) && decide (K ≤ 5)) = false := by simp [h1]
        have ht := Ht0.out
        rw [e1, if_neg (by simp)] at ht
        have Ht := Lib.hid ht
        clear ht e1 Ht0
        go_wp2_with fail
        go_roundw
        case rel => exact ⟨k + 1, by omega, by go_num, by rw [Ht.out]; exact Hown1.out, Hb1.out⟩
        case measure => simp [intOf]; omega
    · have e : l.take k = l := List.take_of_length_le (by omega)
      rw [e] at hown
      have Hown3 := Lib.hid hown
      clear hown hbel Hown e
      go_wp2_with fail
      go_ret
      exact ⟨_, rfl, Hown3.out, Hbel.out⟩

set_option maxRecDepth 100000 in
set_option maxHeartbeats 1000000 in
/-- two lists of numbers, held against each other -/
theorem ints_any (A B : Option Addr) (a b : List Int) (m k c d : Nat) (w : World) (hm : m = a.length) (hk : k = b.length) (hmx : m ≤ maxLen) (hr : Rds w A (a.map (Value.int .i64))) (hr2 : Rds w B (b.map (Value.int .i64))) :
    Calls Tryd.prog 41 #[.slice A m c, .slice B k d] w fun e w' => e = .returned (.bool (decide (a = b))) ∧ Below w.heap.size w w' := by
  have hml : a.length ≤ m := Nat.le_of_eq hm.symm
  have hml2 : m ≤ a.length := Nat.le_of_eq hm
  have hkl : b.length ≤ k := Nat.le_of_eq hk.symm
  have hkl2 : k ≤ b.length := Nat.le_of_eq hk
  have Hr := Lib.hid hr
  have Hr2 := Lib.hid hr2
  unfold maxLen at hmx
  clear hm hk hr hr2
  by_cases hmk : m = k
  · have hb : ((m : Int) != (k : Int)) = false := by rw [hmk]; simp
    have hkm : k ≤ m := by omega
    have hmk' : m ≤ k := by omega
    clear hmk
    go_enter Tryd.func41, Tryd.ntmps41
    go_wp2_with fail
    go_loopw [5] (fun i wr => ∃ j : Nat, j ≤ m ∧ i = .int .i64 j ∧ a.take j = b.take j ∧ Below w.heap.size w wr) (fun i _ => m - (intOf i).toNat)
    case atStart => exact ⟨0, Nat.zero_le _, rfl, rfl, Below.refl _ _⟩
    case round =>
      obtain ⟨j, hj, rfl, hsame, hbel⟩ := hrel
      have Hsame := Lib.hid hsame
      have Hbel := Lib.hid hbel
      clear hsame
      by_cases hlt : j < m
      · have hja : j < a.length := by omega
        have hjb : j < b.length := by omega
        obtain ⟨b1, o1, rfl, hb1, hcell1⟩ := (Hr.out.below hbel).at_ (k := j) (by simp; omega)
        obtain ⟨b2, o2, rfl, hb2, hcell2⟩ := (Hr2.out.below hbel).at_ (k := j) (by simp; omega)
        have hc1 : wr.cell? ⟨b1, o1 + j, none⟩ = some (.int .i64 a[j]) := by rw [hcell1]; simp
        have hc2 : wr.cell? ⟨b2, o2 + j, none⟩ = some (.int .i64 b[j]) := by rw [hcell2]; simp
        have e1 : a.take (j + 1) = a.take j ++ [a[j]] := List.take_succ_eq_append_getElem hja
        have e2 : b.take (j + 1) = b.take j ++ [b[j]] := List.take_succ_eq_append_getElem hjb
        have hj1 : (j : Int) < (m : Int) := by omega
        have hj2 : (j : Int) < (k : Int) := by omega
        have hj0 : (0 : Int) ≤ (j : Int) := by omega
        clear hbel hcell1 hcell2
        cases hx : (a[j] == b[j])
        · have Hfin := Lib.hid (show decide (a = b) = false by
            rw [decide_eq_false_iff_not]
            intro h
            have : a[j] = b[j] := by subst h; rfl
            rw [this] at hx
            simp at hx)
          have hx' : (a[j] != b[j]) = true := by rw [bne, hx]; rfl
          clear e1 e2
          generalize a[j] = x at *
          generalize b[j] = y at *
          go_wp2_with fail
          go_quiet (fail)
          go_wp2_with fail
          go_ret
          exact ⟨by rw [Hfin.out]; rfl, drawn Hbel.out _⟩
        · have Hnext := Lib.hid (show a.take (j + 1) = b.take (j + 1) by rw [e1, e2, Hsame.out, eq_of_beq hx])
          have hx' : (a[j] != b[j]) = false := by rw [bne, hx]; rfl
          clear e1 e2
          generalize a[j] = x at *
          generalize b[j] = y at *
          go_wp2_with fail
          go_quiet (fail)
          go_wp2_with fail
          go_roundw
          case rel => exact ⟨j + 1, by omega, by go_num, Hnext.out, drawn Hbel.out _⟩
          case measure => simp [intOf]; omega
      · have Hfin := Lib.hid (show decide (a = b) = true by
          have h := Hsame.out
          rw [List.take_of_length_le (by omega), List.take_of_length_le (by omega)] at h
          simp [h])
        go_wp2_with fail
        go_ret
        exact ⟨by rw [Hfin.out]; rfl, hbel⟩
  · have hb : ((m : Int) != (k : Int)) = true := by simp; omega
    have Hfin := Lib.hid (show decide (a = b) = false by
      rw [decide_eq_false_iff_not]
      rintro rfl
      omega)
    clear hmk
    go_enter Tryd.func41, Tryd.ntmps41
    go_wp2_with fail
    go_ret
    exact ⟨by rw [Hfin.out]; rfl, Below.refl _ _⟩

end InsX
end Go.Proofs.YtaekdgbbopcpbaaDoor
