/-
  Numbers in digits: the program's text of a number, put into an array from behind, and the document's.
-/
import Derived.Test.YtlboafmofhkacaaChecked
import Derived.Test.YtlboafmofhkacaaArM
import Derived.Test.YtlboafmofhkacaaBinM
import Derived.WalkKit
import Derived.Outline
import Derived.LoopTactic
import Derived.OwnWalk
import Derived.Laws.Rows
namespace Go.Proofs.Ytlboafmofhkacaa
namespace ArT
open Go.RowKit BinM Base ArM

theorem arr20 : (Try.prog.info? 35).map (·.size) = some 20 := by kernel_rfl

/-- the last k digits stand, and the rest is to come of v -/
def Come (u k v : Nat) (cs : Array Value) : Prop := cells8 (dec u) = cells8 (decF (18 - k) v) ++ cs.toList.drop (20 - k) ∧ v < 10 ^ (19 - k) ∧ cs.size = 20

theorem Come.start (u : Nat) (h : u < 10000000000000000000) (cs : Array Value) (hs : cs.size = 20) : Come u 0 u cs := by
  refine ⟨?_, by simpa using h, hs⟩
  rw [List.drop_of_length_le (by simp; omega), List.append_nil]; rfl

theorem drop_set (cs : Array Value) (k : Nat) (u : Value) (hk : k < cs.size) : (cs.setIfInBounds k u).toList.drop k = u :: cs.toList.drop (k + 1) := by
  rw [Array.toList_setIfInBounds, List.drop_eq_getElem_cons (by simpa using hk), List.getElem_set_self, List.drop_set_of_lt (by omega)]

theorem cell_dig (x : Nat) (h : x < 10) : cells8 [UInt8.ofNat (48 + x)] = [.int .u8 (48 + (x : Int))] := by
  simp only [cells8, List.map_cons, List.map_nil, cell8]
  rw [toNat_dig _ h]; rfl

theorem Come.step {u k v : Nat} {cs : Array Value} (h : Come u k v cs) (hv : ¬ v < 10) : k < 18 ∧ Come u (k + 1) (v / 10) (cs.setIfInBounds (19 - k) (.int .u8 (48 + ((v : Int) % 10)))) := by
  obtain ⟨h1, h2, h3⟩ := h
  have hk : k < 18 := by
    rcases Nat.lt_or_ge k 18 with h | h
    · exact h
    · have : 10 ^ (19 - k) ≤ 10 ^ 1 := Nat.pow_le_pow_right (by omega) (by omega)
      omega
  refine ⟨hk, ?_, ?_, by simpa using h3⟩
  · obtain ⟨f, hf⟩ : ∃ f, 18 - k = f + 1 := ⟨17 - k, by omega⟩
    rw [h1, hf, decF_big _ _ hv, show 18 - (k + 1) = f by omega, show 20 - (k + 1) = 19 - k by omega, drop_set _ _ _ (by omega), show 19 - k + 1 = 20 - k by omega, cells8_append, cell_dig _ (Nat.mod_lt _ (by omega)), List.append_assoc]
    rfl
  · have e : 19 - k = (19 - (k + 1)) + 1 := by omega
    rw [e, Nat.pow_succ] at h2
    exact Nat.div_lt_of_lt_mul (by rw [Nat.mul_comm]; exact h2)

theorem Come.last {u k v : Nat} {cs : Array Value} (h : Come u k v cs) (hv : v < 10) (hk : k ≤ 18) : (cs.setIfInBounds (19 - k) (.int .u8 (48 + ((v : Int) % 10)))).toList.drop (19 - k) = cells8 (dec u) ∧ (dec u).length = k + 1 := by
  obtain ⟨h1, h2, h3⟩ := h
  have e : (cs.setIfInBounds (19 - k) (.int .u8 (48 + ((v : Int) % 10)))).toList.drop (19 - k) = cells8 (dec u) := by
    rw [h1, decF_small _ _ hv, drop_set _ _ _ (by omega), show 19 - k + 1 = 20 - k by omega, cell_dig _ hv, show ((v : Int) % 10) = (v : Int) by omega]
    rfl
  refine ⟨e, ?_⟩
  have := congrArg List.length e
  rw [cells8_length, List.length_drop] at this
  simp at this; omega

/-- what holds of the world at the head of a round -/
structure Mid (w wr : World) (cs : Array Value) : Prop where
  row : wr.heap[w.heap.size]? = some (.cells cs 35 (0, 0))
  below : Below w.heap.size w wr
theorem Mid.step {w wr : World} {cs : Array Value} (h : Mid w wr cs) (k : Nat) (u : Value) : Mid w (wr.setCell ⟨w.heap.size, k, none⟩ u) (cs.setIfInBounds k u) :=
  ⟨heap_setCell_same wr _ k cs _ u h.row, h.below.setCell (by simp) u⟩
theorem Mid.cell {w wr : World} {cs : Array Value} (h : Mid w wr cs) (k : Nat) (hk : k < cs.size) : ∃ u, wr.cell? ⟨w.heap.size, k, none⟩ = some u :=
  ⟨cs[k], by rw [cell_of_row wr _ k cs _ _ h.row]; exact Array.getElem?_eq_getElem (by omega)⟩
theorem Mid.free {w wr : World} {cs : Array Value} (h : Mid w wr cs) (k : Nat) : wr.frozen? ⟨w.heap.size, k, none⟩ = false := frozen_of_row wr _ k cs _ h.row

theorem slice_low (X : World) (g k : Nat) (hk : k < 20) :
    (Instr.sliceAt 35 (.pointer (some ⟨g, 0, none⟩)) (some (.int .i64 (k : Int))) none none).run Try.prog X = .ok (.slice (some ⟨g, k, none⟩) (20 - k) (20 - k)) X := by
  have e : Try.prog.arrayLen 35 = 20 := by kernel_rfl
  rw [run_sliceAt_array_l X 35 ⟨g, 0, none⟩ (by kernel_rfl) .i64 (k : Int) (by omega) (by rw [e]; omega)]
  have hsz : (sizeOf (Try.prog.elem 35)).run Try.prog X = .ok 1 X := by kernel_rfl
  rw [hsz, e]
  simp [Result.andThen, slicedAt, Addr.add]
  rw [if_neg (by omega)]
  split
  · subst_vars; rfl
  · rfl

/-- what a call hands back: this text, in memory of its own -/
def GivesT (w : World) (l : List UInt8) (e : Ending) (w' : World) : Prop := e = .returned (.string ⟨l.toArray⟩) ∧ Below w.heap.size w w'

theorem txt_neg (n : Int) (h : n < 0) (u : Nat) (hu : (u : Int) = -n) : txt n = 45 :: dec u := by unfold txt; rw [if_pos h, show (-n).toNat = u by omega]
theorem txt_pos (n : Int) (h : ¬ n < 0) (u : Nat) (hu : (u : Int) = n) : txt n = dec u := by unfold txt; rw [if_neg h, show n.toNat = u by omega]

theorem rds_drop {w : World} {g k : Nat} {cs : Array Value} (hr : w.heap[g]? = some (.cells cs 35 (0, 0))) {l : List UInt8} (h : cs.toList.drop k = cells8 l) : Rds w (some ⟨g, k, none⟩) (cells8 l) := by
  have hlt : g < w.heap.size := by
    rcases Nat.lt_or_ge g w.heap.size with h | h
    · exact h
    · rw [Array.getElem?_eq_none (by omega)] at hr; cases hr
  refine .inr ⟨g, k, rfl, hlt, fun j u hu => ?_⟩
  rw [cell_of_row w _ (k + j) cs _ _ hr]
  rw [← h, List.getElem?_drop] at hu
  simpa using hu

set_option maxHeartbeats 1000000 in
theorem text_any (n : Int) (w : World) (h0 : -9223372036854775808 ≤ n) (h1 : n ≤ 9223372036854775807) : Calls Try.prog 12 #[.int .i64 n] w (GivesT w (txt n)) := by
  by_cases hn : n < 0
  · obtain ⟨u, hu⟩ : ∃ u : Nat, (u : Int) = -n := ⟨(-n).toNat, by omega⟩
    have HT := Lib.hid (txt_neg n hn u hu)
    have hub : u < 10000000000000000000 := by omega
    have hS := Lib.hid (fun cs hs => Come.start u hub cs hs)
    have hx : IntKind.u64.wrap (-(IntKind.u64.wrap n)) = (u : Int) := by rw [IntKind.wrap_u64, IntKind.wrap_u64]; omega
    have Hx := Lib.hid hx
    clear hx
    go_enter Try.func12, Try.ntmps12
    go_wp2
    go_loopw [3, 5] (fun l i wr => ∃ (k m v : Nat) (cs : Array Value), m + k = 19 ∧ k ≤ 18 ∧ i = .int .i64 ((m : Int) + 1) ∧ l = .int .u64 v ∧ Come u k v cs ∧ Mid w wr cs) (fun _ i _ => (intOf i).toNat)
    case atStart => exact ⟨0, 19, u, _, by omega, by omega, rfl, by rw [Hx.out], hS.out _ rfl, ⟨heap_alloc_last w _, (Below.refl _ _).alloc (Nat.le_refl _) _⟩⟩
    case round =>
      obtain ⟨k, m, v, cs, hmk, hk, rfl, rfl, hcome, hmid⟩ := hrel
      obtain ⟨u0, hcell⟩ := hmid.cell m (by rw [hcome.2.2]; omega)
      have hfree := hmid.free m
      have hvb : (v : Int) ≤ 18446744073709551615 := by
        have h2 := hcome.2.1
        have : (10 : Nat) ^ (19 - k) ≤ 10 ^ 19 := Nat.pow_le_pow_right (by omega) (by omega)
        omega
      by_cases hv : v < 10
      · have hlast := hcome.last hv hk
        have hmid2 := hmid.step m (.int .u8 (48 + ((v : Int) % 10)))
        rw [show 19 - k = m by omega] at hlast
        have hmid3 := hmid2.step (m - 1) (.int .u8 45)
        obtain ⟨p, rfl⟩ : ∃ p, m = p + 1 := ⟨m - 1, by omega⟩
        rw [Nat.add_sub_cancel] at hmid3
        obtain ⟨u2, hcell2⟩ := hmid2.cell p (by simp; rw [hcome.2.2]; omega)
        have hfree2 := hmid2.free p
        have hl2 : ((cs.setIfInBounds (p + 1) (.int .u8 (48 + ((v : Int) % 10)))).setIfInBounds p (.int .u8 45)).toList.drop p = cells8 (45 :: dec u) := by
          rw [drop_set _ _ _ (by simp; rw [hcome.2.2]; omega), hlast.1]; rfl
        have htx := run_text (P := Try.prog) 36 9 5 (20 - p) (20 - p) Try.underlying36 Try.underlying5 Try.underlying9 (by rw [List.length_cons, hlast.2]; omega) (rds_drop hmid3.row hl2)
        have hsl := fun X => slice_low X w.heap.size p (by omega)
        have Hmid3 := Lib.hid hmid3
        have hq : ((v : Int) / 10 == 0) = true := by rw [beq_iff_eq]; omega
        have hpb : (p : Int) ≤ 18 := by omega
        have hkc : Hid (k ≤ 18) := Lib.hid hk
        clear hlast hmid2 hcome hmid hmid3 hl2 hub hmk hv hk
        go_wp2
        go_ret
        exact ⟨by rw [HT.out]; rfl, Hmid3.out.below⟩
      · obtain ⟨hk18, hstep⟩ := hcome.step hv
        have hmid2 := hmid.step m (.int .u8 (48 + ((v : Int) % 10)))
        rw [show 19 - k = m by omega] at hstep
        have Hstep := Lib.hid hstep
        have Hmid2 := Lib.hid hmid2
        have hq : (((v / 10 : Nat) : Int) == 0) = false := by rw [beq_eq_false_iff_ne]; omega
        have hv10 : ((v : Int) / 10 == 0) = false := by rw [beq_eq_false_iff_ne]; omega
        clear hstep hmid2 hcome hmid
        go_wp2
        go_roundw
        case rel => exact ⟨k + 1, m - 1, v / 10, _, by omega, by omega, congrArg (Value.int .i64) (by omega), by go_num, Hstep.out, Hmid2.out⟩
        case measure => simp [intOf]
  · obtain ⟨u, hu⟩ : ∃ u : Nat, (u : Int) = n := ⟨n.toNat, by omega⟩
    have HT := Lib.hid (txt_pos n hn u hu)
    have hub : u < 10000000000000000000 := by omega
    have hS := Lib.hid (fun cs hs => Come.start u hub cs hs)
    have hnd : decide (n < 0) = false := by simpa using hn
    go_enter Try.func12, Try.ntmps12
    go_wp2
    go_loopw [3, 5] (fun l i wr => ∃ (k m v : Nat) (cs : Array Value), m + k = 19 ∧ k ≤ 18 ∧ i = .int .i64 ((m : Int) + 1) ∧ l = .int .u64 v ∧ Come u k v cs ∧ Mid w wr cs) (fun _ i _ => (intOf i).toNat)
    case atStart => exact ⟨0, 19, u, _, by omega, by omega, rfl, by rw [hu], hS.out _ rfl, ⟨heap_alloc_last w _, (Below.refl _ _).alloc (Nat.le_refl _) _⟩⟩
    case round =>
      obtain ⟨k, m, v, cs, hmk, hk, rfl, rfl, hcome, hmid⟩ := hrel
      obtain ⟨u0, hcell⟩ := hmid.cell m (by rw [hcome.2.2]; omega)
      have hfree := hmid.free m
      have hvb : (v : Int) ≤ 18446744073709551615 := by
        have h2 := hcome.2.1
        have : (10 : Nat) ^ (19 - k) ≤ 10 ^ 19 := Nat.pow_le_pow_right (by omega) (by omega)
        omega
      by_cases hv : v < 10
      · have hlast := hcome.last hv hk
        have hmid2 := hmid.step m (.int .u8 (48 + ((v : Int) % 10)))
        rw [show 19 - k = m by omega] at hlast
        have htx := run_text (P := Try.prog) 36 9 5 (20 - m) (20 - m) Try.underlying36 Try.underlying5 Try.underlying9 (by rw [hlast.2]; omega) (rds_drop hmid2.row hlast.1)
        have hsl := fun X => slice_low X w.heap.size m (by omega)
        have Hmid2 := Lib.hid hmid2
        have hq : ((v : Int) / 10 == 0) = true := by rw [beq_iff_eq]; omega
        have hpb : (m : Int) ≤ 19 := by omega
        have hkc : Hid (k ≤ 18) := Lib.hid hk
        clear hlast hmid2 hcome hmid hub hmk hv hk
        go_wp2
        go_ret
        exact ⟨by rw [HT.out]; rfl, Hmid2.out.below⟩
      · obtain ⟨hk18, hstep⟩ := hcome.step hv
        have hmid2 := hmid.step m (.int .u8 (48 + ((v : Int) % 10)))
        rw [show 19 - k = m by omega] at hstep
        have Hstep := Lib.hid hstep
        have Hmid2 := Lib.hid hmid2
        have hq : (((v / 10 : Nat) : Int) == 0) = false := by rw [beq_eq_false_iff_ne]; omega
        have hv10 : ((v : Int) / 10 == 0) = false := by rw [beq_eq_false_iff_ne]; omega
        clear hstep hmid2 hcome hmid
        go_wp2
        go_roundw
        case rel => exact ⟨k + 1, m - 1, v / 10, _, by omega, by omega, congrArg (Value.int .i64) (by omega), by go_num, Hstep.out, Hmid2.out⟩
        case measure => simp [intOf]

theorem ref_small (x : Nat) (hx : x < 10) (w : World) : Calls Try.prog 13 #[.int .i64 (x : Int)] w fun e w' => e = .returned (.string ⟨(decF 0 x).toArray⟩) ∧ w = w' := by
  have hx' : x = 0 ∨ x = 1 ∨ x = 2 ∨ x = 3 ∨ x = 4 ∨ x = 5 ∨ x = 6 ∨ x = 7 ∨ x = 8 ∨ x = 9 := by omega
  rcases hx' with rfl | rfl | rfl | rfl | rfl | rfl | rfl | rfl | rfl | rfl
  all_goals
    go_enter Try.func13, Try.ntmps13
    go_wp2
    go_ret
    exact ⟨rfl, rfl⟩

set_option maxHeartbeats 1000000 in
theorem ref_dec : ∀ (f x : Nat), x < 10 ^ (f + 1) → f ≤ 18 → x < 9223372036854775808 → ∀ (w : World), Calls Try.prog 13 #[.int .i64 (x : Int)] w fun e w' => e = .returned (.string ⟨(decF f x).toArray⟩) ∧ w = w'
  | 0, x, h, _, _, w => ref_small x (by simpa using h) w
  | f + 1, x, h, hf, hb, w => by
    by_cases hx : x < 10
    · rw [decF_small _ _ hx, ← decF_small 0 _ hx]
      exact ref_small x hx w
    · have hq : x / 10 < 10 ^ (f + 1) := by rw [Nat.pow_succ] at h; exact Nat.div_lt_of_lt_mul (by rw [Nat.mul_comm]; exact h)
      have HA := Lib.hid (show ∀ w, Calls Try.prog 13 #[.int .i64 ((x : Int) / 10)] w fun e w' => e = .returned (.string ⟨(decF f (x / 10)).toArray⟩) ∧ w = w' from fun w => by
        rw [show (x : Int) / 10 = ((x / 10 : Nat) : Int) by omega]; exact ref_dec f (x / 10) hq (by omega) (by omega) w)
      have HB := Lib.hid (show ∀ w, Calls Try.prog 13 #[.int .i64 ((x : Int) % 10)] w fun e w' => e = .returned (.string ⟨(decF 0 (x % 10)).toArray⟩) ∧ w = w' from fun w => by
        rw [show (x : Int) % 10 = ((x % 10 : Nat) : Int) by omega]; exact ref_small (x % 10) (Nat.mod_lt _ (by omega)) w)
      have HE := Lib.hid (show decF (f + 1) x = decF f (x / 10) ++ decF 0 (x % 10) by rw [decF_big _ _ hx, decF_small 0 _ (Nat.mod_lt _ (by omega))])
      have hlen : ¬ 9223372036854775807 < (decF f (x / 10)).length + (decF 0 (x % 10)).length := by
        have h1 := decF_length f (x / 10)
        have h2 := decF_length 0 (x % 10)
        omega
      have hxb : (x : Int) ≤ 9223372036854775807 := by omega
      have hx0 : ¬ ((x : Int) < 10) := by omega
      have hxd : decide ((x : Int) < 10) = false := by simpa using hx0
      have hm : ((x : Int) == -9223372036854775808) = false := by rw [beq_eq_false_iff_ne]; omega
      clear h hf hb hx hq
      go_enter Try.func13, Try.ntmps13
      go_wp2_with (first
        | (go_at_call 13; ((with_reducible refine (HA.out _).mono ?_); rintro e w' ⟨rfl, rfl⟩))
        | (go_at_call 13; ((with_reducible refine (HB.out _).mono ?_); rintro e w' ⟨rfl, rfl⟩)))
      go_ret
      exact ⟨by rw [HE.out]; congr 2, rfl⟩

theorem txt_of (x : Nat) (h : x < 9223372036854775808) : txt (x : Int) = decF 18 x := by unfold txt; rw [if_neg (by omega), show (x : Int).toNat = x by omega]; rfl

set_option maxHeartbeats 1000000 in
theorem refText_any (n : Int) (w : World) (h0 : -9223372036854775808 ≤ n) (h1 : n ≤ 9223372036854775807) : Calls Try.prog 13 #[.int .i64 n] w fun e w' => e = .returned (.string ⟨(txt n).toArray⟩) ∧ w = w' := by
  by_cases hn : n < 0
  · by_cases hm : n = -9223372036854775808
    · subst hm
      go_enter Try.func13, Try.ntmps13
      go_wp2
      go_ret
      exact ⟨rfl, rfl⟩
    · obtain ⟨x, hx⟩ : ∃ x : Nat, (x : Int) = -n := ⟨(-n).toNat, by omega⟩
      have HA := Lib.hid (show ∀ w, Calls Try.prog 13 #[.int .i64 (-n)] w fun e w' => e = .returned (.string ⟨(dec x).toArray⟩) ∧ w = w' from fun w => by
        rw [← hx]; exact ref_dec 18 x (by omega) (by omega) (by omega) w)
      have HT := Lib.hid (txt_neg n hn x hx)
      have hmb : (n == -9223372036854775808) = false := by simpa using hm
      have hlen : ¬ 9223372036854775807 < 1 + (dec x).length := by
        have h1 := decF_length 18 x
        unfold dec
        omega
      have hn1 : -n ≤ 9223372036854775807 := by omega
      clear hx hm
      go_enter Try.func13, Try.ntmps13
      go_wp2_with (go_at_call 13; ((with_reducible refine (HA.out _).mono ?_); rintro e w' ⟨rfl, rfl⟩))
      go_ret
      exact ⟨by rw [HT.out]; congr 2, rfl⟩
  · obtain ⟨x, rfl⟩ : ∃ x : Nat, n = (x : Int) := ⟨n.toNat, by omega⟩
    rw [txt_of x (by omega)]
    exact ref_dec 18 x (by omega) (by omega) (by omega) w

end ArT
end Go.Proofs.Ytlboafmofhkacaa
