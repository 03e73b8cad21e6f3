/-
  bin.cut: the bytes of a number, in an array: what it returns, for every number.
-/
import Derived.Test.YthkkcecfenohjaaGreatDoorBinNum
import Derived.Test.YthkkcecfenohjaaGreatDoorBinE
import Derived.Test.YthkkcecfenohjaaGreatDoorBase
import Derived.Laws.BitsAllLaws
import Derived.Laws.Rows
import Derived.Laws.Tables
import Derived.Outline
namespace Go.Proofs.YthkkcecfenohjaaGreatDoor
namespace BinCut
open Go.RowKit BinM BinNum Base BinE

theorem arr10 : (Tryz.prog.info? 145).map (·.size) = some 10 := by kernel_rfl

theorem up7 (v : Nat) : bits .or .u8 ((v : Int) % 128) 128 = (v : Int) % 128 + 128 := by
  have h := u8_or_nat (v % 128) 128 (by omega) (by omega)
  rw [Nat.or_comm, nat_join 7 128 (v % 128) (by decide) (by have : v % 128 < 128 := Nat.mod_lt _ (by omega)
                                                            omega)] at h
  rw [show (v : Int) % 128 = ((v % 128 : Nat) : Int) by omega, show ((128 : Int)) = ((128 : Nat) : Int) from rfl, h]
  omega

/-- what holds of the world at the head of a round: the block of pieces is known whole, the block of the result too, and all older blocks are as they were -/
structure Mid (w wr : World) (cs : Array Value) : Prop where
  pieces : wr.heap[w.heap.size + 1]? = some (.cells cs 145 (0, 0))
  result : ∃ rs : Array Value, wr.heap[w.heap.size]? = some (.cells rs 145 (0, 0)) ∧ rs.size = 10
  ten : cs.size = 10
  small : cs.all (·.oneCell') = true
  below : Below w.heap.size w wr

theorem Mid.start (w : World) (a b : Array Value) (ha : a.size = 10) (hb : b.size = 10) (h1 : b.all (·.oneCell') = true) :
    Mid w ((w.alloc (.cells a 145)).alloc (.cells b 145)) b :=
  ⟨heap_alloc2_new _ _ _, ⟨a, heap_alloc2_old _ _ _, ha⟩, hb, h1, ((Below.refl _ _).alloc (Nat.le_refl _) _).alloc (by simp) _⟩

theorem Mid.step {w wr : World} {cs : Array Value} (h : Mid w wr cs) (k : Nat) (u : Value) (hu : u.oneCell' = true) :
    Mid w (wr.setCell ⟨w.heap.size + 1, k, none⟩ u) (cs.setIfInBounds k u) := by
  obtain ⟨h1, ⟨rs, h2, h3⟩, h4, h5, h6⟩ := h
  refine ⟨heap_setCell_same wr _ k cs _ u h1, ⟨rs, ?_, h3⟩, by simpa using h4, ?_, h6.setCell (by simp) u⟩
  · rw [heap_setCell_other _ _ _ _ (by simp)]; exact h2
  · rw [Array.all_eq_true_iff_forall_mem] at h5 ⊢
    intro x hx
    rcases Array.mem_or_eq_of_mem_setIfInBounds hx with h | h
    · exact h5 x h
    · rw [h]; exact hu

theorem Mid.cell {w wr : World} {cs : Array Value} (h : Mid w wr cs) (k : Nat) (hk : k < 10) : ∃ u, wr.cell? ⟨w.heap.size + 1, k, none⟩ = some u := by
  have := h.ten
  exact ⟨cs[k], by rw [cell_of_row wr _ k cs _ _ h.pieces]; exact Array.getElem?_eq_getElem (by omega)⟩
theorem Mid.free {w wr : World} {cs : Array Value} (h : Mid w wr cs) (k : Nat) : wr.frozen? ⟨w.heap.size + 1, k, none⟩ = false := frozen_of_row wr _ k cs _ h.pieces

theorem heap_setRow_same (w : World) (g : Nat) (old cs : Array Value) (t : TypeId) (hg : w.heap[g]? = some (.cells old t (0, 0))) : (w.setRow g cs).heap[g]? = some (.cells cs t (0, 0)) := by
  simp [World.setRow, Array.getElem?_modify, hg]

/-- the result stored: it is read back whole, and what was there before the call is as it was -/
theorem Mid.finish {w wr : World} {cs : Array Value} (h : Mid w wr cs) :
    (loadVar 145 ⟨w.heap.size, 0, none⟩).run Tryz.prog (wr.setRow w.heap.size cs) = .ok (.agg cs) (wr.setRow w.heap.size cs) ∧ Below w.heap.size w (wr.setRow w.heap.size cs) := by
  obtain ⟨h1, ⟨rs, h2, h3⟩, h4, h5, h6⟩ := h
  refine ⟨run_loadVar_row _ _ _ _ cs (0, 0) _ (heap_setRow_same wr _ rs cs _ h2) Tryz.underlying145 rfl (by rw [arr10, h4]), ?_⟩
  refine h6.trans ⟨rfl, rfl, rfl, by simp, fun k hk => ?_⟩
  simp only [World.setRow, Array.getElem?_modify]
  rw [if_neg (by omega)]

/-- a call that hands back an array out of memory, and beside it a number -/
theorem results_cell_tmp {P : Program} {fn : Func} {p t : Tmp} {ty : TypeId} (h : fn.results = #[.cell p ty, .tmp t]) (tmps : Array Value) (w : World) (a : Addr) (x : Value)
    (hp : tmps.getD p undef = .pointer (some a)) (hl : (loadVar ty a).run P w = .ok x w) : (results fn tmps).run P w = .ok (.tuple #[x, tmps.getD t undef]) w := by
  have hp' : tmps[p]?.getD undef = .pointer (some a) := by simpa using hp
  simp [results, h, hp', asAddr, hl]

/-- the first k pieces stand, and the rest is to come of v -/
def Come (n : Int) (k v : Nat) (cs : Array Value) : Prop := cells8 (num n) = cs.toList.take k ++ cells8 (encF (9 - k) v) ∧ v < 2 ^ (64 - 7 * k)

theorem Come.start (n : Int) (h0 : -9223372036854775808 ≤ n) (h1 : n ≤ 9223372036854775807) (cs : Array Value) : Come n 0 (foldI n).toNat cs := by
  have := fold_lt h0 h1
  refine ⟨by simp [num, enc], ?_⟩
  have e : (2 : Nat) ^ (64 - 7 * 0) = 18446744073709551616 := by decide
  rw [e]; omega

theorem take_set (cs : Array Value) (k : Nat) (u : Value) (hk : k < cs.size) : (cs.setIfInBounds k u).toList.take (k + 1) = cs.toList.take k ++ [u] := by
  rw [Array.toList_setIfInBounds, List.take_succ_eq_append_getElem (by simpa using hk), List.take_set, List.set_eq_of_length_le (by simp; omega)]
  simp

theorem Come.more {n : Int} {k v : Nat} {cs : Array Value} (h : Come n k v cs) (hk : k ≤ 9) (hv : 128 ≤ v) : k ≤ 8 := by
  have h2 := h.2
  rcases (by omega : k ≤ 8 ∨ k = 9) with h | h
  · exact h
  · subst h
    have e : (2 : Nat) ^ (64 - 7 * 9) = 2 := by decide
    rw [e] at h2; omega

theorem Come.step {n : Int} {k v : Nat} {cs : Array Value} (h : Come n k v cs) (hk : k ≤ 8) (hv : 128 ≤ v) (hs : cs.size = 10) :
    Come n (k + 1) (v / 128) (cs.setIfInBounds k (.int .u8 ((v : Int) % 128 + 128))) := by
  obtain ⟨h1, h2⟩ := h
  refine ⟨?_, ?_⟩
  · rw [h1, take_set _ _ _ (by omega)]
    obtain ⟨f, hf⟩ : ∃ f, 9 - k = f + 1 := ⟨8 - k, by omega⟩
    have hf' : 9 - (k + 1) = f := by omega
    rw [hf, hf']
    conv => lhs; unfold encF
    rw [if_neg (by omega)]
    simp only [cells8, List.map_cons, List.append_assoc, List.singleton_append, cell8]
    rw [toNat_ofNat _ (by omega), show ((v % 128 + 128 : Nat) : Int) = (v : Int) % 128 + 128 by omega]
  · have e : 64 - 7 * k = (64 - 7 * (k + 1)) + 7 := by omega
    rw [e, Nat.pow_add] at h2
    exact Nat.div_lt_of_lt_mul (by rw [Nat.mul_comm]; exact h2)

theorem Come.last {n : Int} {k v : Nat} {cs : Array Value} (h : Come n k v cs) (hk : k ≤ 9) (hv : v < 128) (hs : cs.size = 10) :
    (num n).length = k + 1 ∧ (cs.setIfInBounds k (.int .u8 (v : Int))).toList.take (k + 1) = cells8 (num n) := by
  have e : encF (9 - k) v = [UInt8.ofNat v] := by
    cases hf : 9 - k with
    | zero => rfl
    | succ f => unfold encF; rw [if_pos hv]
  have h1 := h.1
  rw [e] at h1
  have h3 : cells8 [UInt8.ofNat v] = [.int .u8 (v : Int)] := by simp only [cells8, List.map_cons, List.map_nil, cell8]; rw [toNat_ofNat _ (by omega)]
  rw [h3] at h1
  refine ⟨?_, by rw [take_set _ _ _ (by omega), h1]⟩
  have := congrArg List.length h1
  rw [cells8_length] at this
  simp at this; omega

set_option maxRecDepth 100000 in
set_option maxHeartbeats 1000000 in
theorem cut_any (n : Int) (w : World) (h0 : -9223372036854775808 ≤ n) (h1 : n ≤ 9223372036854775807) :
    Calls Tryz.prog 117 #[.int .i64 n] w fun e w' => ∃ cs : Array Value, e = .returned (.tuple #[.agg cs, .int .i64 ((num n).length : Int)]) ∧ cs.size = 10 ∧ cs.all (·.oneCell') = true ∧ cs.toList.take (num n).length = cells8 (num n) ∧ Below w.heap.size w w' := by
  have hf0 := fold_pos n
  have hf1 := fold_lt h0 h1
  have hst := Come.start n h0 h1
  have Hst := Lib.hid hst
  clear hst
  go_enter Tryz.func117, Tryz.ntmps117
  go_wp2_with (go_at_call 152; refine (fold_any _ _ (by omega) (by omega)).mono ?_; rintro e w' ⟨rfl, rfl⟩)
  go_loopw [5, 6] (fun u i wr => ∃ (k v : Nat) (cs : Array Value), k ≤ 9 ∧ i = .int .i64 k ∧ u = .int .u64 v ∧ Come n k v cs ∧ Mid w wr cs) (fun _ i _ => 10 - (intOf i).toNat)
  case atStart =>
    have e : (((foldI n).toNat : Nat) : Int) = foldI n := by omega
    exact ⟨0, (foldI n).toNat, _, by omega, rfl, by rw [e], Hst.out _, Mid.start w _ _ rfl rfl (by simp [Value.oneCell'])⟩
  case round =>
    obtain ⟨k, v, cs, hk, rfl, rfl, hcome, hmid⟩ := hrel
    have hten := hmid.ten
    obtain ⟨u0, hcell⟩ := hmid.cell k (by omega)
    have hfree := hmid.free k
    have hvb : (v : Int) ≤ 18446744073709551615 := by
      have h2 := hcome.2
      have : (2 : Nat) ^ (64 - 7 * k) ≤ 2 ^ 64 := Nat.pow_le_pow_right (by omega) (by omega)
      omega
    by_cases hv : 128 ≤ v
    · have hk8 := hcome.more hk hv
      have hup := up7 v
      have hstep := hcome.step hk8 hv hten
      have hmid2 := hmid.step k (.int .u8 ((v : Int) % 128 + 128)) rfl
      have Hstep := Lib.hid hstep
      have Hmid2 := Lib.hid hmid2
      have Hten := Lib.hid hten
      clear hstep hmid2 hcome hmid hten
      go_wp2_with fail
      go_roundw
      case rel => exact ⟨k + 1, v / 128, _, by omega, by go_num, by go_num, Hstep.out, Hmid2.out⟩
      case measure => simp [intOf]; omega
    · have hlt : v < 128 := by omega
      have hlast := hcome.last hk hlt hten
      have hmid2 := hmid.step k (.int .u8 (v : Int)) rfl
      have Hlast := Lib.hid hlast
      have Hmid2 := Lib.hid hmid2
      have Hten := Lib.hid hten
      have hfin := hmid2.finish
      have Hfin := Lib.hid hfin
      clear hlast hmid2 hcome hmid hten hfin
      obtain ⟨rs, hrs, hrs10⟩ := Hmid2.out.result
      have Hrs := Lib.hid hrs
      have Hrs10 := Lib.hid hrs10
      clear hrs hrs10
      go_wp2_with (first | (refine wpList_load_row rfl 145 (.tmp 4) rfl (w.heap.size + 1) rfl 145 (cs.setIfInBounds k (.int .u8 (v : Int))) (0, 0) _ Hmid2.out.pieces Tryz.underlying145 rfl (by rw [arr10, Hmid2.out.ten]) ?_) | (refine wpList_store_row rfl 145 (.tmp 2) (.tmp 25) rfl w.heap.size (cs.setIfInBounds k (.int .u8 (v : Int))) rfl rfl 145 rs Hrs.out (by rw [arr10, Hmid2.out.ten]) (by rw [Hrs10.out, Hmid2.out.ten]) Hmid2.out.small ?_))
      refine bodyPost_ret (v := .tuple #[.agg (cs.setIfInBounds k (.int .u8 (v : Int))), .int .i64 ((k : Int) + 1)]) (results_cell_tmp Tryz.results117 _ _ _ _ rfl Hfin.out.1) rfl ⟨_, ?_, Hmid2.out.ten, Hmid2.out.small, ?_, Hfin.out.2⟩
      · rw [Hlast.out.1]; rfl
      · rw [Hlast.out.1]; exact Hlast.out.2

end BinCut
end Go.Proofs.YthkkcecfenohjaaGreatDoor
