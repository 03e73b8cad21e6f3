/-
  slices.BinarySearch and slices.Clone at numbers of 64 bits, and what compares two lists: what each of them returns.
-/
import Derived.Test.YtfmodaelpldpfaaHpA
import Derived.Deep.LoopGhost
import Derived.Deep.Draws
import Derived.Lib.Walk
import Derived.Lib.SlicesSearch
import Derived.Deep.QuietTactic
import Derived.BigQuiet
namespace Go.Proofs.Ytfmodaelpldpfaa
namespace HpS
open Go.RowKit Base BinM HpM HpA

theorem nan1 (x : Int) (w : World) : Calls Try.prog 50 #[.int .i64 x] w fun e w' => e = .returned (.bool false) ∧ w' = w := by
  go_enter Try.func50, Try.ntmps50
  go_wp2
  go_ret
  exact ⟨by simp, rfl⟩
theorem nan2 (x : Int) (w : World) : Calls Try.prog 49 #[.int .i64 x] w fun e w' => e = .returned (.bool false) ∧ w' = w := by
  go_enter Try.func49, Try.ntmps49
  go_wp2
  go_ret
  exact ⟨by simp, rfl⟩
theorem less_any (x y : Int) (w : World) : Calls Try.prog 48 #[.int .i64 x, .int .i64 y] w fun e w' => e = .returned (.bool (decide (x < y))) ∧ w' = w := by
  go_enter Try.func48, Try.ntmps48
  go_wp2_with (go_at_call 50; refine (nan1 _ _).mono ?_; rintro e w' ⟨rfl, rfl⟩)
  go_ret
  exact ⟨rfl, rfl⟩

theorem rds_getD {w : World} {A : Option Addr} {zs : List Int} (h : Rds w A (zs.map (Value.int .i64))) {k : Nat} (hk : k < zs.length) : ∃ b o, A = some ⟨b, o, none⟩ ∧ b < w.heap.size ∧ w.cell? ⟨b, o + k, none⟩ = some (.int .i64 (zs.getD k 0)) := by
  obtain ⟨b, o, h1, h2, h3⟩ := h.at_ (k := k) (by simpa using hk)
  refine ⟨b, o, h1, h2, ?_⟩
  rw [h3, List.getElem_map, List.getD_eq_getElem?_getD, List.getElem?_eq_getElem hk]
  rfl

set_option maxHeartbeats 4000000 in
set_option maxRecDepth 1000000 in
theorem search_any (A : Option Addr) (n c : Nat) (zs : List Int) (x : Int) (w : World) (hn0 : n = zs.length) (hbig : n ≤ 100000) (hr : Rds w A (zs.map (Value.int .i64))) (hs : zs.Pairwise (· ≤ ·)) :
    Calls Try.prog 47 #[.slice A n c, .int .i64 x] w fun e w' => (∃ i : Int, e = .returned (.tuple #[.int .i64 i, .bool (decide (x ∈ zs))])) ∧ ∃ q, w' = w.drewN q := by
  have S : Hid (∀ a b, a ≤ b → b < n → zs.getD a 0 ≤ zs.getD b 0) := Lib.hid (Lib.sorted_at zs n (by omega) (by rw [hn0, List.take_length]; exact hs))
  have HR := Lib.hid hr
  have HE : Hid (∀ lo, lo ≤ n → (∀ t, t < lo → zs.getD t 0 < x) → (∀ t, lo ≤ t → t < n → x ≤ zs.getD t 0) → decide (x ∈ zs) = decide (lo < n ∧ zs.getD lo 0 = x)) := Lib.hid (fun lo h0 h1 h2 => by
    obtain ⟨_, e2⟩ := Lib.search_end zs n lo x (by omega) h0 h1 h2 S.out
    rw [hn0, List.take_length] at e2
    rw [hn0, ← e2]
    simp)
  have HN := Lib.hid hn0
  clear hs hr hn0
  go_enter Try.func47, Try.ntmps47
  go_wp2
  go_loopg [7, 8] n (fun g s7 s8 wr => ∃ lo hi q : Nat, s7 = .int .i64 lo ∧ s8 = .int .i64 hi ∧ lo ≤ hi ∧ hi ≤ n ∧ hi - lo ≤ g ∧ wr = w.drewN q ∧ (∀ t, t < lo → zs.getD t 0 < x) ∧ (∀ t, hi ≤ t → t < n → x ≤ zs.getD t 0))
  case atStart => exact ⟨0, n, 0, rfl, rfl, Nat.zero_le _, Nat.le_refl _, by omega, rfl, fun t ht => absurd ht (Nat.not_lt_zero _), fun t h1 h2 => by omega⟩
  case round =>
    obtain ⟨lo, hi, q, rfl, rfl, hlh, hin, hg, rfl, h1, h2⟩ := hrel
    have I := Lib.hid (And.intro h1 h2)
    clear h1 h2
    by_cases hlt : lo < hi
    · obtain ⟨b, off, rfl, _, cm⟩ := rds_getD HR.out (k := (lo + hi) / 2) (by have := HN.out; omega)
      generalize hy : zs.getD ((lo + hi) / 2) 0 = y at cm
      have Y := Lib.hid hy
      clear hy
      by_cases hyx : y < x
      · go_wp2_with (first | (go_at_call 48; refine (less_any _ _ _).mono ?_; rintro e w' ⟨rfl, rfl⟩) | (go_at_call 49; refine (nan2 _ _).mono ?_; rintro e w' ⟨rfl, rfl⟩))
        go_roundg (hi - ((lo + hi) / 2 + 1))
        case measure => omega
        case rel =>
          refine ⟨(lo + hi) / 2 + 1, hi, _, by rw [show ((lo : Int) + (hi : Int)) / 2 + 1 = (((lo + hi) / 2 + 1 : Nat) : Int) by omega], rfl, by omega, hin, Nat.le_refl _, rfl, fun t ht => ?_, I.out.2⟩
          have := S.out t ((lo + hi) / 2) (by omega) (by omega)
          rw [Y.out] at this
          omega
      · go_wp2_with (first | (go_at_call 48; refine (less_any _ _ _).mono ?_; rintro e w' ⟨rfl, rfl⟩) | (go_at_call 49; refine (nan2 _ _).mono ?_; rintro e w' ⟨rfl, rfl⟩))
        go_roundg ((lo + hi) / 2 - lo)
        case measure => omega
        case rel =>
          refine ⟨lo, (lo + hi) / 2, _, rfl, by rw [show ((lo : Int) + (hi : Int)) / 2 = (((lo + hi) / 2 : Nat) : Int) by omega], by omega, by omega, Nat.le_refl _, rfl, I.out.1, fun t ht htn => ?_⟩
          have := S.out ((lo + hi) / 2) t ht htn
          rw [Y.out] at this
          omega
    · have : hi = lo := by omega
      subst this
      have E := Lib.hid (HE.out hi hin I.out.1 I.out.2)
      by_cases hn : hi < n
      · obtain ⟨b, off, rfl, _, cl⟩ := rds_getD HR.out (k := hi) (by have := HN.out; omega)
        generalize hy : zs.getD hi 0 = y at cl E
        by_cases hyx : y = x
        · have E' := Lib.hid (E.out.trans (decide_eq_true ⟨hn, hyx⟩))
          go_wp2_with (first | (go_at_call 48; refine (less_any _ _ _).mono ?_; rintro e w' ⟨rfl, rfl⟩) | (go_at_call 49; refine (nan2 _ _).mono ?_; rintro e w' ⟨rfl, rfl⟩))
          go_ret2
          exact ⟨⟨(hi : Int), by rw [E'.out]; first | rfl | simp [*]⟩, _, rfl⟩
        · have E' := Lib.hid (E.out.trans (decide_eq_false (fun h => hyx h.2)))
          go_wp2_with (first | (go_at_call 48; refine (less_any _ _ _).mono ?_; rintro e w' ⟨rfl, rfl⟩) | (go_at_call 49; refine (nan2 _ _).mono ?_; rintro e w' ⟨rfl, rfl⟩))
          go_ret2
          exact ⟨⟨(hi : Int), by rw [E'.out]; first | rfl | simp [*]⟩, _, rfl⟩
      · have E' := Lib.hid (E.out.trans (decide_eq_false (fun h => hn h.1)))
        go_wp2_with (first | (go_at_call 48; refine (less_any _ _ _).mono ?_; rintro e w' ⟨rfl, rfl⟩) | (go_at_call 49; refine (nan2 _ _).mono ?_; rintro e w' ⟨rfl, rfl⟩))
        go_ret2
        exact ⟨⟨(hi : Int), by rw [E'.out]; first | rfl | simp [*]⟩, _, rfl⟩

theorem clone_any (A : Option Addr) (n c : Nat) (l : List Int) (w : World) (hn : n = l.length) (hbig : n ≤ 100000) (hr : Rds w A (l.map (Value.int .i64))) :
    Calls Try.prog 41 #[.slice A n c] w fun e w' => ∃ v, e = .returned v ∧ OwnI w' w.heap.size v l ∧ Below w.heap.size w w' := by
  subst hn
  cases A with
  | none =>
    have hl : l = [] := by
      rcases hr with h | ⟨b, o, h, _⟩
      · simpa using h
      · cases h
    subst hl
    clear hr
    have q22 : ∀ (w : World) (a : Option Addr) (n c n' c' : Nat), (binOp .eql 38 (.slice a n c) (.slice none n' c')).run Try.prog w = .ok (.bool a.isNone) w := fun w a n c n' c' => Lib.run_eql_slice_nil w _ _ a n c n' c' Try.underlying38
    go_enter Try.func41, Try.ntmps41
    go_wp2
    go_ret
    exact ⟨_, rfl, World.ownsRow_nil _ _ _ _, Below.refl _ _⟩
  | some ad =>
    obtain ⟨i0, hi, hz, hz1, hz2⟩ := info_parts info64
    have I0 := Lib.hid hi
    have I1 := Lib.hid hz
    have I2 := Lib.hid hz1
    have I3 := Lib.hid hz2
    have HR := Lib.hid hr
    clear hi hz hz1 hz2 hr
    have q22 : ∀ (w : World) (a : Option Addr) (n c n' c' : Nat), (binOp .eql 38 (.slice a n c) (.slice none n' c')).run Try.prog w = .ok (.bool a.isNone) w := fun w a n c n' c' => Lib.run_eql_slice_nil w _ _ a n c n' c' Try.underlying38
    go_enter Try.func41, Try.ntmps41
    go_wp2_with (at_builtin
                 refine wpList_append_rds rfl _ _ 38 rfl w.heap.size 2 i0 _ 8 Try.underlying38 I0.out I1.out I2.out I3.out rfl _ 0 [] rfl (World.ownsRow_made w #[] 0 (Nat.le_refl _) (Nat.zero_le _) rfl) (some ad) l.length c (l.map (Value.int .i64)) rfl (by simp) (HR.out.below ((Below.refl _ _).alloc (Nat.le_refl _) _)) (oneI l) (by unfold maxLen; omega) (by omega) (by simp) ?_
                 intro v1 w1 hown1 hg1
                 have O1 := Lib.hid hown1
                 have G1 := Lib.hid hg1
                 clear hown1 hg1)
    go_ret
    refine ⟨v1, rfl, by have h := O1.out; rw [Nat.zero_add, List.nil_append] at h; exact h, ((Below.refl _ w).alloc (Nat.le_refl _) _).grown G1.out (by simp) (by intro k hk; injection hk with hk; rw [← hk]; exact Nat.le_refl _)⟩

set_option maxRecDepth 100000 in
theorem same_any (A B : Option Addr) (n m c d : Nat) (k l : List Int) (w : World) (hn : n = k.length) (hm : m = l.length) (hbig : n ≤ 100000) (hbig' : m ≤ 100000) (hr : Rds w A (k.map (Value.int .i64))) (hs : Rds w B (l.map (Value.int .i64))) :
    Calls Try.prog 16 #[.slice A n c, .slice B m d] w fun e w' => e = .returned (.bool (decide (k = l))) ∧ ∃ q, w' = w.drewN q := by
  subst hn
  subst hm
  by_cases hlen : k.length = l.length
  · have hle : ((k.length : Int) == (l.length : Int)) = true := by rw [hlen]; simp
    have HR := Lib.hid hr
    have HS := Lib.hid hs
    have HL := Lib.hid hlen
    clear hr hs
    go_enter Try.func16, Try.ntmps16
    go_wp2
    go_loopw [5] (fun i wr => ∃ j q : Nat, j ≤ k.length ∧ i = .int .i64 j ∧ wr = w.drewN q ∧ k.take j = l.take j) (fun i _ => k.length - (intOf i).toNat)
    case atStart => exact ⟨0, 0, Nat.zero_le _, rfl, rfl, by simp⟩
    case round =>
      obtain ⟨j, q, hj, rfl, rfl, hpre⟩ := hrel
      have HP := Lib.hid hpre
      clear hpre
      by_cases hlt : j < k.length
      · have hlt2 : j < l.length := by have := HL.out; omega
        obtain ⟨b, o, rfl, _, c1⟩ := rds_getD HR.out hlt
        obtain ⟨b', o', rfl, _, c2⟩ := rds_getD HS.out hlt2
        have hx : k.getD j 0 = k[j] := by rw [List.getD_eq_getElem?_getD, List.getElem?_eq_getElem hlt]; rfl
        have hy : l.getD j 0 = l[j] := by rw [List.getD_eq_getElem?_getD, List.getElem?_eq_getElem hlt2]; rfl
        rw [hx] at c1
        rw [hy] at c2
        have hj1 : (j : Int) < (k.length : Int) := by omega
        have hj2 : (j : Int) < (l.length : Int) := by omega
        have HX : Hid (k[j] = l[j] → k.take (j + 1) = l.take (j + 1)) := Lib.hid (fun h => by
          rw [List.take_succ_eq_append_getElem hlt, List.take_succ_eq_append_getElem hlt2, HP.out, h])
        have HY : Hid (k[j] ≠ l[j] → k ≠ l) := Lib.hid (fun h e => h (by subst e; rfl))
        generalize k[j] = x at *
        generalize l[j] = y at *
        clear hx hy
        by_cases hxy : x = y
        · have hq : (x == y) = true := by rw [hxy]; simp
          have HZ := Lib.hid (HX.out hxy)
          go_wp2_with fail
          go_region
          go_wp2_with fail
          go_roundw
          case rel => exact ⟨j + 1, _, by omega, by go_num, rfl, HZ.out⟩
          case measure => simp [intOf]; omega
        · have hq : (x == y) = false := by simpa using hxy
          have HZ := Lib.hid (HY.out hxy)
          go_wp2_with fail
          go_region
          go_wp2_with fail
          go_ret
          exact ⟨by rw [decide_eq_false HZ.out]; rfl, _, rfl⟩
      · have hj1 : ¬ (j : Int) < (k.length : Int) := by omega
        have hkl : k = l := by
          have h := HP.out
          rw [List.take_of_length_le (by omega), List.take_of_length_le (by have := HL.out; omega)] at h
          exact h
        have HZ := Lib.hid hkl
        clear hkl
        go_wp2_with fail
        go_ret
        exact ⟨by rw [decide_eq_true HZ.out]; rfl, _, rfl⟩
  · have hle : ((k.length : Int) == (l.length : Int)) = false := by simp; omega
    have HZ := Lib.hid (show k ≠ l from fun e => hlen (by rw [e]))
    clear hr hs
    go_enter Try.func16, Try.ntmps16
    go_wp2
    go_ret
    exact ⟨by rw [decide_eq_false HZ.out]; rfl, 0, rfl⟩

end HpS
end Go.Proofs.Ytfmodaelpldpfaa
