/-
  bin.cut: the bytes of a number, in an array: what it returns, for every number.
  bin.Put: bytes, and a number's bytes behind them, in new memory: what it returns, for all bytes and every number.
  The document's own writing of a number behind bytes: what it returns, for all bytes and every number.
  bin.Get: what it returns, for all cells8 and every place.
  Bytes of the call's own, and small functions on bytes: what each of them returns.
-/
import Derived.Test.YtiagjnimafdbhaaGreatDoorBinNum
import Derived.Test.YtiagjnimafdbhaaGreatDoorBinM
import Derived.Laws.BitsAllLaws
import Derived.Laws.Rows
import Derived.Laws.Tables
import Derived.Outline
import Derived.OwnWalk
import Derived.WalkKit
import Derived.Lib.AppendStr
import Derived.Deep.DeepAppendWide
import Derived.Deep.WholeRow
namespace Go.Proofs.YtiagjnimafdbhaaGreatDoor
namespace BinCut
open Go.RowKit BinM BinNum Base BinE

theorem arr10 : (Tryz.prog.info? 231).map (·.size) = some 10 := by kernel_rfl

theorem up7 (v : Nat) : bits .or .u8 ((v : Int) % 128) 128 = (v : Int) % 128 + 128 := by
  have h := u8_or_nat (v % 128) 128 (by omega) (by omega)
  rw [Nat.or_comm, nat_join 7 128 (v % 128) (by decide) (by have : v % 128 < 128 := Nat.mod_lt _ (by omega)
                                                            omega)] at h
  rw [show (v : Int) % 128 = ((v % 128 : Nat) : Int) by omega, show ((128 : Int)) = ((128 : Nat) : Int) from rfl, h]
  omega

/-- what holds of the world at the head of a round: the block of pieces is known whole, the block of the result too, and all older blocks are as they were -/
structure Mid (w wr : World) (cs : Array Value) : Prop where
  pieces : wr.heap[w.heap.size + 1]? = some (.cells cs 231 (0, 0))
  result : ∃ rs : Array Value, wr.heap[w.heap.size]? = some (.cells rs 231 (0, 0)) ∧ rs.size = 10
  ten : cs.size = 10
  small : cs.all (·.oneCell') = true
  below : Below w.heap.size w wr

theorem Mid.start (w : World) (a b : Array Value) (ha : a.size = 10) (hb : b.size = 10) (h1 : b.all (·.oneCell') = true) :
    Mid w ((w.alloc (.cells a 231)).alloc (.cells b 231)) b :=
  ⟨heap_alloc2_new _ _ _, ⟨a, heap_alloc2_old _ _ _, ha⟩, hb, h1, ((Below.refl _ _).alloc (Nat.le_refl _) _).alloc (by simp) _⟩

theorem Mid.step {w wr : World} {cs : Array Value} (h : Mid w wr cs) (k : Nat) (u : Value) (hu : u.oneCell' = true) :
    Mid w (wr.setCell ⟨w.heap.size + 1, k, none⟩ u) (cs.setIfInBounds k u) := by
  obtain ⟨h1, ⟨rs, h2, h3⟩, h4, h5, h6⟩ := h
  refine ⟨heap_setCell_same wr _ k cs _ u h1, ⟨rs, ?_, h3⟩, by simpa using h4, ?_, h6.setCell (by simp) u⟩
  · rw [heap_setCell_other _ _ _ _ (by simp)]; exact h2
  · rw [Array.all_eq_true_iff_forall_mem] at h5 ⊢
    intro x hx
    rcases Array.mem_or_eq_of_mem_setIfInBounds hx with h | h
    · exact h5 x h
    · rw [h]; exact hu

theorem Mid.cell {w wr : World} {cs : Array Value} (h : Mid w wr cs) (k : Nat) (hk : k < 10) : ∃ u, wr.cell? ⟨w.heap.size + 1, k, none⟩ = some u := by
  have := h.ten
  exact ⟨cs[k], by rw [cell_of_row wr _ k cs _ _ h.pieces]; exact Array.getElem?_eq_getElem (by omega)⟩
theorem Mid.free {w wr : World} {cs : Array Value} (h : Mid w wr cs) (k : Nat) : wr.frozen? ⟨w.heap.size + 1, k, none⟩ = false := frozen_of_row wr _ k cs _ h.pieces

theorem heap_setRow_same (w : World) (g : Nat) (old cs : Array Value) (t : TypeId) (hg : w.heap[g]? = some (.cells old t (0, 0))) : (w.setRow g cs).heap[g]? = some (.cells cs t (0, 0)) := by
  simp [World.setRow, Array.getElem?_modify, hg]

/-- the result stored: it is read back whole, and what was there before the call is as it was -/
theorem Mid.finish {w wr : World} {cs : Array Value} (h : Mid w wr cs) :
    (loadVar 231 ⟨w.heap.size, 0, none⟩).run Tryz.prog (wr.setRow w.heap.size cs) = .ok (.agg cs) (wr.setRow w.heap.size cs) ∧ Below w.heap.size w (wr.setRow w.heap.size cs) := by
  obtain ⟨h1, ⟨rs, h2, h3⟩, h4, h5, h6⟩ := h
  refine ⟨run_loadVar_row _ _ _ _ cs (0, 0) _ (heap_setRow_same wr _ rs cs _ h2) Tryz.underlying231 rfl (by rw [arr10, h4]), ?_⟩
  refine h6.trans ⟨rfl, rfl, rfl, by simp, fun k hk => ?_⟩
  simp only [World.setRow, Array.getElem?_modify]
  rw [if_neg (by omega)]

/-- a call that hands back an array out of memory, and beside it a number -/
theorem results_cell_tmp {P : Program} {fn : Func} {p t : Tmp} {ty : TypeId} (h : fn.results = #[.cell p ty, .tmp t]) (tmps : Array Value) (w : World) (a : Addr) (x : Value)
    (hp : tmps.getD p undef = .pointer (some a)) (hl : (loadVar ty a).run P w = .ok x w) : (results fn tmps).run P w = .ok (.tuple #[x, tmps.getD t undef]) w := by
  have hp' : tmps[p]?.getD undef = .pointer (some a) := by simpa using hp
  simp [results, h, hp', asAddr, hl]

/-- the first k pieces stand, and the rest is to come of v -/
def Come (n : Int) (k v : Nat) (cs : Array Value) : Prop := cells8 (num n) = cs.toList.take k ++ cells8 (encF (9 - k) v) ∧ v < 2 ^ (64 - 7 * k)

theorem Come.start (n : Int) (h0 : -9223372036854775808 ≤ n) (h1 : n ≤ 9223372036854775807) (cs : Array Value) : Come n 0 (foldI n).toNat cs := by
  have := fold_lt h0 h1
  refine ⟨by simp [num, enc], ?_⟩
  have e : (2 : Nat) ^ (64 - 7 * 0) = 18446744073709551616 := by decide
  rw [e]; omega

theorem take_set (cs : Array Value) (k : Nat) (u : Value) (hk : k < cs.size) : (cs.setIfInBounds k u).toList.take (k + 1) = cs.toList.take k ++ [u] := by
  rw [Array.toList_setIfInBounds, List.take_succ_eq_append_getElem (by simpa using hk), List.take_set, List.set_eq_of_length_le (by simp; omega)]
  simp

theorem Come.more {n : Int} {k v : Nat} {cs : Array Value} (h : Come n k v cs) (hk : k ≤ 9) (hv : 128 ≤ v) : k ≤ 8 := by
  have h2 := h.2
  rcases (by omega : k ≤ 8 ∨ k = 9) with h | h
  · exact h
  · subst h
    have e : (2 : Nat) ^ (64 - 7 * 9) = 2 := by decide
    rw [e] at h2; omega

theorem Come.step {n : Int} {k v : Nat} {cs : Array Value} (h : Come n k v cs) (hk : k ≤ 8) (hv : 128 ≤ v) (hs : cs.size = 10) :
    Come n (k + 1) (v / 128) (cs.setIfInBounds k (.int .u8 ((v : Int) % 128 + 128))) := by
  obtain ⟨h1, h2⟩ := h
  refine ⟨?_, ?_⟩
  · rw [h1, take_set _ _ _ (by omega)]
    obtain ⟨f, hf⟩ : ∃ f, 9 - k = f + 1 := ⟨8 - k, by omega⟩
    have hf' : 9 - (k + 1) = f := by omega
    rw [hf, hf']
    conv => lhs; unfold encF
    rw [if_neg (by omega)]
    simp only [cells8, List.map_cons, List.append_assoc, List.singleton_append, cell8]
    rw [toNat_ofNat _ (by omega), show ((v % 128 + 128 : Nat) : Int) = (v : Int) % 128 + 128 by omega]
  · have e : 64 - 7 * k = (64 - 7 * (k + 1)) + 7 := by omega
    rw [e, Nat.pow_add] at h2
    exact Nat.div_lt_of_lt_mul (by rw [Nat.mul_comm]; exact h2)

theorem Come.last {n : Int} {k v : Nat} {cs : Array Value} (h : Come n k v cs) (hk : k ≤ 9) (hv : v < 128) (hs : cs.size = 10) :
    (num n).length = k + 1 ∧ (cs.setIfInBounds k (.int .u8 (v : Int))).toList.take (k + 1) = cells8 (num n) := by
  have e : encF (9 - k) v = [UInt8.ofNat v] := by
    cases hf : 9 - k with
    | zero => rfl
    | succ f => unfold encF; rw [if_pos hv]
  have h1 := h.1
  rw [e] at h1
  have h3 : cells8 [UInt8.ofNat v] = [.int .u8 (v : Int)] := by simp only [cells8, List.map_cons, List.map_nil, cell8]; rw [toNat_ofNat _ (by omega)]
  rw [h3] at h1
  refine ⟨?_, by rw [take_set _ _ _ (by omega), h1]⟩
  have := congrArg List.length h1
  rw [cells8_length] at this
  simp at this; omega

set_option maxRecDepth 100000 in
set_option maxHeartbeats 1000000 in
theorem cut_any (n : Int) (w : World) (h0 : -9223372036854775808 ≤ n) (h1 : n ≤ 9223372036854775807) :
    Calls Tryz.prog 153 #[.int .i64 n] w fun e w' => ∃ cs : Array Value, e = .returned (.tuple #[.agg cs, .int .i64 ((num n).length : Int)]) ∧ cs.size = 10 ∧ cs.all (·.oneCell') = true ∧ cs.toList.take (num n).length = cells8 (num n) ∧ Below w.heap.size w w' := by
  have hf0 := fold_pos n
  have hf1 := fold_lt h0 h1
  have hst := Come.start n h0 h1
  have Hst := Lib.hid hst
  clear hst
  go_enter Tryz.func153, Tryz.ntmps153
  go_wp2_with (go_at_call 186; refine (fold_any _ _ (by omega) (by omega)).mono ?_; rintro e w' ⟨rfl, rfl⟩)
  go_loopw [5, 6] (fun u i wr => ∃ (k v : Nat) (cs : Array Value), k ≤ 9 ∧ i = .int .i64 k ∧ u = .int .u64 v ∧ Come n k v cs ∧ Mid w wr cs) (fun _ i _ => 10 - (intOf i).toNat)
  case atStart =>
    have e : (((foldI n).toNat : Nat) : Int) = foldI n := by omega
    exact ⟨0, (foldI n).toNat, _, by omega, rfl, by rw [e], Hst.out _, Mid.start w _ _ rfl rfl (by simp [Value.oneCell'])⟩
  case round =>
    obtain ⟨k, v, cs, hk, rfl, rfl, hcome, hmid⟩ := hrel
    have hten := hmid.ten
    obtain ⟨u0, hcell⟩ := hmid.cell k (by omega)
    have hfree := hmid.free k
    have hvb : (v : Int) ≤ 18446744073709551615 := by
      have h2 := hcome.2
      have : (2 : Nat) ^ (64 - 7 * k) ≤ 2 ^ 64 := Nat.pow_le_pow_right (by omega) (by omega)
      omega
    by_cases hv : 128 ≤ v
    · have hk8 := hcome.more hk hv
      have hup := up7 v
      have hstep := hcome.step hk8 hv hten
      have hmid2 := hmid.step k (.int .u8 ((v : Int) % 128 + 128)) rfl
      have Hstep := Lib.hid hstep
      have Hmid2 := Lib.hid hmid2
      have Hten := Lib.hid hten
      clear hstep hmid2 hcome hmid hten
      go_wp2_with fail
      go_roundw
      case rel => exact ⟨k + 1, v / 128, _, by omega, by go_num, by go_num, Hstep.out, Hmid2.out⟩
      case measure => simp [intOf]; omega
    · have hlt : v < 128 := by omega
      have hlast := hcome.last hk hlt hten
      have hmid2 := hmid.step k (.int .u8 (v : Int)) rfl
      have Hlast := Lib.hid hlast
      have Hmid2 := Lib.hid hmid2
      have Hten := Lib.hid hten
      have hfin := hmid2.finish
      have Hfin := Lib.hid hfin
      clear hlast hmid2 hcome hmid hten hfin
      obtain ⟨rs, hrs, hrs10⟩ := Hmid2.out.result
      have Hrs := Lib.hid hrs
      have Hrs10 := Lib.hid hrs10
      clear hrs hrs10
      go_wp2_with (first | (refine wpList_load_row rfl 231 (.tmp 4) rfl (w.heap.size + 1) rfl 231 (cs.setIfInBounds k (.int .u8 (v : Int))) (0, 0) _ Hmid2.out.pieces Tryz.underlying231 rfl (by rw [arr10, Hmid2.out.ten]) ?_) | (refine wpList_store_row rfl 231 (.tmp 2) (.tmp 25) rfl w.heap.size (cs.setIfInBounds k (.int .u8 (v : Int))) rfl rfl 231 rs Hrs.out (by rw [arr10, Hmid2.out.ten]) (by rw [Hrs10.out, Hmid2.out.ten]) Hmid2.out.small ?_))
      refine bodyPost_ret (v := .tuple #[.agg (cs.setIfInBounds k (.int .u8 (v : Int))), .int .i64 ((k : Int) + 1)]) (results_cell_tmp Tryz.results153 _ _ _ _ rfl Hfin.out.1) rfl ⟨_, ?_, Hmid2.out.ten, Hmid2.out.small, ?_, Hfin.out.2⟩
      · rw [Hlast.out.1]; rfl
      · rw [Hlast.out.1]; exact Hlast.out.2

end BinCut
end Go.Proofs.YtiagjnimafdbhaaGreatDoor

namespace Go.Proofs.YtiagjnimafdbhaaGreatDoor
namespace BinPut
open Go.RowKit BinM BinNum Base BinE BinCut

theorem info8 : (Tryz.prog.info? 5).map (fun i => (i.zero, i.size, i.bytes)) = some (some (.int .u8 0), 1, 1) := by kernel_rfl

/-- a call hands back these bytes in new memory; what was there is as it was -/
def Gives8 (w : World) (l : List UInt8) (e : Ending) (w' : World) : Prop :=
  ∃ v, e = .returned v ∧ w'.ownsRow w.heap.size 5 1 v l.length (cells8 l) ∧ Below w.heap.size w w'

theorem slice_pieces (W : World) (g k : Nat) (hk : k ≤ 10) :
    (Instr.sliceAt 231 (.pointer (some ⟨g, 0, none⟩)) none (some (.int .i64 (k : Int))) none).run Tryz.prog W = .ok (.slice (some ⟨g, 0, none⟩) k 10) W := by
  have e : Tryz.prog.arrayLen 231 = 10 := by kernel_rfl
  rw [run_sliceAt_array_h W 231 ⟨g, 0, none⟩ (by kernel_rfl) .i64 (k : Int) (by omega) (by rw [e]; omega)]
  have hsz : (sizeOf (Tryz.prog.elem 231)).run Tryz.prog W = .ok 1 W := by kernel_rfl
  rw [hsz, e]
  simp [Result.andThen, slicedAt, Addr.add]

set_option maxRecDepth 100000 in
set_option maxHeartbeats 1000000 in
theorem put_any (A : Option Addr) (l : List UInt8) (m cap : Nat) (n : Int) (w : World) (hm : m = l.length) (hlen : m ≤ 140737489403894) (h0 : -9223372036854775808 ≤ n) (h1 : n ≤ 9223372036854775807) (hr : Rds w A (cells8 l)) :
    Calls Tryz.prog 113 #[.slice A m cap, .int .i64 n] w (Gives8 w (l ++ num n)) := by
  have hk := (num_can h0 h1).2.2
  have hk1 := num_pos h0 h1
  have Hm := Lib.hid hm
  clear hm
  obtain ⟨i0, hi, hz, hs1, hb1⟩ := info_parts info8
  have Hi := Lib.hid hi
  have Hz := Lib.hid hz
  have Hs1 := Lib.hid hs1
  have Hb1 := Lib.hid hb1
  clear hi hz hs1 hb1
  go_enter Tryz.func113, Tryz.ntmps113
  go_wp2_with (first
    | (go_at_call 153; refine (cut_any _ _ h0 h1).mono ?_; rintro e w1 ⟨cs, rfl, hcs10, hcs1, hcst, hb1⟩; generalize hkk : (num n).length = k at *; have Hkk := Lib.hid hkk; have Hcs10 := Lib.hid hcs10; have Hcs1 := Lib.hid hcs1; have Hcst := Lib.hid hcst; have Hb1' := Lib.hid hb1; clear hkk hcs10 hcs1 hcst hb1)
    | (refine wpList_store_row rfl 231 (.tmp 5) (.tmp 11) rfl w1.heap.size cs rfl rfl 231 _ (heap_alloc_last w1 _) (by rw [arr10, Hcs10.out]) (by rw [Hcs10.out]; rfl) Hcs1.out ?_; rw [World.setRow_alloc_new])
    | (at_make
       refine wpList_make_own _ rfl (.const (.int .i64 0)) (.tmp 16) 130 rfl (w1.heap.size + 1) 5 i0 _ 1 Tryz.underlying130 Hi.out Hz.out Hs1.out .i64 .i64 _ (m + k) rfl rfl (by omega) (by rw [Hb1.out]; omega) (by unfold maxLen; omega) (by simp) ?_
       intro w2 hown2 hg2
       simp only [World.size_alloc] at hown2
       have hb2 : Below w.heap.size w w2 := ((Hb1'.out).alloc (Hb1'.out.size) (.cells cs 231)).grown hg2 (by have := Hb1'.out.size; simp; omega) (by intro k hk; cases hk)
       have hz2 : w1.heap.size + 1 ≤ w2.heap.size := by have := hg2.size; simpa using this
       have hp2 : w2.heap[w1.heap.size]? = some (.cells cs 231 (0, 0)) := by rw [hg2.block w1.heap.size (by simp) (by simp)]; exact heap_alloc_last w1 _
       have Hown2 := Lib.hid hown2
       have Hb2 := Lib.hid hb2
       have Hp2 := Lib.hid hp2
       clear hown2 hg2 hb2 hp2)
    | (at_builtin
       refine wpList_append_rds rfl (.tmp 21) (.tmp 23) 130 rfl (w1.heap.size + 1) 5 i0 _ 1 Tryz.underlying130 Hi.out Hz.out Hs1.out Hb1.out rfl v3 (0 + m) ([] ++ cells8 l) rfl Hown3.out (some ⟨w1.heap.size, 0, none⟩) k 10 (cells8 (num n)) rfl (by rw [cells8_length, Hkk.out]) hrds (cells8_one _) (by unfold maxLen; omega) (by omega) hz3 ?_
       intro v4 w4 hown4 hg4
       have hb4 : Below w.heap.size w w4 := below_own Hb3.out Hown3.out (by have := Hb1'.out.size; omega) Hb3.out.size hg4
       have Hown4 := Lib.hid hown4
       have Hb4 := Lib.hid hb4
       clear hown4 hg4 hb4)
    | (at_builtin
       refine wpList_append_rds rfl (.tmp 18) (.tmp 19) 130 rfl (w1.heap.size + 1) 5 i0 _ 1 Tryz.underlying130 Hi.out Hz.out Hs1.out Hb1.out rfl (.slice (some ⟨w1.heap.size + 1, 0, none⟩) 0 (m + k)) 0 [] rfl Hown2.out A m cap (cells8 l) rfl (by rw [cells8_length, Hm.out]) (hr.below Hb2.out) (cells8_one l) (by unfold maxLen; omega) (by omega) hz2 ?_
       intro v3 w3 hown3 hg3
       have hb3 : Below w.heap.size w w3 := below_own Hb2.out Hown2.out (by have := Hb1'.out.size; omega) Hb2.out.size hg3
       have hp3 : w3.heap[w1.heap.size]? = some (.cells cs 231 (0, 0)) := by
         rw [hg3.block w1.heap.size (by omega) (by simp [Value.ownBlock])]; exact Hp2.out
       have hz3 : w1.heap.size + 1 ≤ w3.heap.size := Nat.le_trans hz2 hg3.size
       have Hown3 := Lib.hid hown3
       have Hb3 := Lib.hid hb3
       have Hp3 := Lib.hid hp3
       clear hown3 hg3 hb3 hp3
       have hrds : Rds w3 (some ⟨w1.heap.size, 0, none⟩) (cells8 (num n)) := by
         refine .inr ⟨w1.heap.size, 0, rfl, by omega, fun j u hu => ?_⟩
         rw [cell_of_row w3 _ (0 + j) cs _ _ Hp3.out, Nat.zero_add]
         rw [← Hcst.out, List.getElem?_take] at hu
         by_cases hj : j < k
         · rw [if_pos hj] at hu; simpa using hu
         · rw [if_neg hj] at hu; cases hu
       have hsl := fun W => slice_pieces W w1.heap.size k hk))
  go_ret
  refine ⟨v4, rfl, own_mono ?_ (by have := Hb1'.out.size; omega : w.heap.size ≤ w1.heap.size + 1), Hb4.out⟩
  have hl : (l ++ num n).length = 0 + m + k := by rw [List.length_append, Hkk.out, Hm.out]; omega
  rw [hl, cells8_append]
  exact Hown4.out

end BinPut
end Go.Proofs.YtiagjnimafdbhaaGreatDoor

namespace Go.Proofs.YtiagjnimafdbhaaGreatDoor
namespace RefPut
open Go.RowKit BinM BinNum Base BinE BinPut

/-- the pieces p stand, and the rest is to come of v -/
def ComeL (n : Int) (k v : Nat) (p : List UInt8) : Prop := num n = p ++ encF (9 - k) v ∧ p.length = k ∧ v < 2 ^ (64 - 7 * k)

theorem ComeL.start (n : Int) (h0 : -9223372036854775808 ≤ n) (h1 : n ≤ 9223372036854775807) : ComeL n 0 (foldI n).toNat [] := by
  have := fold_lt h0 h1
  refine ⟨by simp [num, enc], rfl, ?_⟩
  have e : (2 : Nat) ^ (64 - 7 * 0) = 18446744073709551616 := by decide
  rw [e]; omega

theorem ComeL.more {n : Int} {k v : Nat} {p : List UInt8} (h : ComeL n k v p) (hk : k ≤ 9) (hv : 128 ≤ v) : k ≤ 8 := by
  have h2 := h.2.2
  rcases (by omega : k ≤ 8 ∨ k = 9) with h | h
  · exact h
  · subst h
    have e : (2 : Nat) ^ (64 - 7 * 9) = 2 := by decide
    rw [e] at h2; omega

theorem ComeL.step {n : Int} {k v : Nat} {p : List UInt8} (h : ComeL n k v p) (hk : k ≤ 8) (hv : 128 ≤ v) : ComeL n (k + 1) (v / 128) (p ++ [UInt8.ofNat (v % 128 + 128)]) := by
  obtain ⟨h1, h2, h3⟩ := h
  refine ⟨?_, by simp [h2], ?_⟩
  · obtain ⟨f, hf⟩ : ∃ f, 9 - k = f + 1 := ⟨8 - k, by omega⟩
    have hf' : 9 - (k + 1) = f := by omega
    rw [h1, hf, hf']
    conv => lhs; unfold encF
    rw [if_neg (by omega)]
    simp
  · have e : 64 - 7 * k = (64 - 7 * (k + 1)) + 7 := by omega
    rw [e, Nat.pow_add] at h3
    exact Nat.div_lt_of_lt_mul (by rw [Nat.mul_comm]; exact h3)

theorem ComeL.last {n : Int} {k v : Nat} {p : List UInt8} (h : ComeL n k v p) (hv : v < 128) : num n = p ++ [UInt8.ofNat v] := by
  have e : encF (9 - k) v = [UInt8.ofNat v] := by
    cases hf : 9 - k with
    | zero => rfl
    | succ f => unfold encF; rw [if_pos hv]
  rw [h.1, e]

theorem ComeL.big {n : Int} {k v : Nat} {p : List UInt8} (h : ComeL n k v p) : (v : Int) ≤ 18446744073709551615 := by
  have h2 := h.2.2
  have : (2 : Nat) ^ (64 - 7 * k) ≤ 2 ^ 64 := Nat.pow_le_pow_right (by omega) (by omega)
  omega

theorem one8 (x : Nat) (h : x < 256) : [Value.int .u8 (x : Int)] = cells8 [UInt8.ofNat x] := by
  simp only [cells8, List.map_cons, List.map_nil, cell8]; rw [toNat_ofNat _ h]

/-- a block of one cell, just made, as a slice -/
theorem rds_one (w : World) (x : Value) (t : TypeId) : Rds (w.alloc (.cells #[x] t)) (some ⟨w.heap.size, 0, none⟩) [x] := by
  refine .inr ⟨w.heap.size, 0, rfl, by simp, fun j u hu => ?_⟩
  match j, hu with
  | 0, hu =>
    simp at hu
    subst hu
    simp

/-- the loop's way, from any number that is to come -/
def Rel (w : World) (l : List UInt8) (n : Int) (o u : Value) (wr : World) : Prop :=
  ∃ (k v : Nat) (p : List UInt8), k ≤ 9 ∧ u = .int .u64 v ∧ ComeL n k v p ∧ wr.ownsRow w.heap.size 5 1 o (l.length + k) (cells8 (l ++ p)) ∧ Below w.heap.size w wr

set_option maxRecDepth 100000 in
set_option maxHeartbeats 1000000 in
theorem refPut_any (A : Option Addr) (l : List UInt8) (m cap : Nat) (n : Int) (w : World) (hm : m = l.length) (hlen : m ≤ 140737489403894) (h0 : -9223372036854775808 ≤ n) (h1 : n ≤ 9223372036854775807) (hr : Rds w A (cells8 l)) :
    Calls Tryz.prog 171 #[.slice A m cap, .int .i64 n] w (Gives8 w (l ++ num n)) := by
  have hf0 := fold_pos n
  have hf1 := fold_lt h0 h1
  have Hst := Lib.hid (ComeL.start n h0 h1)
  have Hm := Lib.hid hm
  clear hm
  obtain ⟨i0, hi, hz, hs1, hb1⟩ := info_parts info8
  have Hi := Lib.hid hi
  have Hz := Lib.hid hz
  have Hs1 := Lib.hid hs1
  have Hb1 := Lib.hid hb1
  clear hi hz hs1 hb1
  have Hf : Hid (foldI n = if n < 0 then -2 * n - 1 else 2 * n) := rfl
  by_cases hneg : n < 0
  all_goals
    go_enter Tryz.func171, Tryz.ntmps171
    go_wp2_with (at_builtin
                 refine wpList_append_rds rfl (.tmp 7) (.tmp 8) 130 rfl w.heap.size 5 i0 _ 1 Tryz.underlying130 Hi.out Hz.out Hs1.out Hb1.out rfl (.slice none 0 0) 0 [] rfl (World.ownsRow_nil _ _ _ _) A m cap (cells8 l) rfl (by rw [cells8_length, Hm.out]) hr (cells8_one l) (by unfold maxLen; omega) (by omega) (Nat.le_refl _) ?_
                 intro v1 w1 hown1 hg1
                 have hb1 : Below w.heap.size w w1 := below_own (Below.refl _ _) (World.ownsRow_nil w w.heap.size 5 1) (Nat.le_refl _) (Nat.le_refl _) hg1
                 have Hown1 := Lib.hid hown1
                 have Hb1' := Lib.hid hb1
                 clear hown1 hg1 hb1)
    go_loopw [5, 6] (fun o u wr => Rel w l n o u wr) (fun _ u _ => (intOf u).toNat)
    case atStart =>
      have hf := Hf.out
      first | rw [if_pos hneg] at hf | rw [if_neg (by omega)] at hf
      refine ⟨0, (foldI n).toNat, [], by omega, ?_, Hst.out, by simpa [Hm.out] using Hown1.out, Hb1'.out⟩
      congr 1
      omega
    case round =>
      obtain ⟨k, v, p, hk, rfl, hc, hown, hbel⟩ := hrel
      have hvb := hc.big
      have Hown := Lib.hid hown
      have hsz := hbel.size
      have Hbel := Lib.hid hbel
      have hml : l.length ≤ m := Nat.le_of_eq Hm.out.symm
      by_cases hv : 128 ≤ v
      · have hk8 := hc.more hk hv
        have Hstep := Lib.hid (hc.step hk8 hv)
        clear hc hown hbel
        go_wp2_with (at_builtin
                     refine wpList_append_rds rfl (.tmp 23) (.tmp 28) 130 rfl w.heap.size 5 i0 _ 1 Tryz.underlying130 Hi.out Hz.out Hs1.out Hb1.out rfl _ (l.length + k) (cells8 (l ++ p)) rfl (Hown.out.alloc _) (some ⟨wr.heap.size, 0, none⟩) 1 1 [.int .u8 ((v : Int) % 128 + 128)] rfl rfl (rds_one _ _ _) (by simp [Value.oneCell']) (by unfold maxLen; omega) (by omega) (by simp; omega) ?_
                     intro v2 w2 hown2 hg2
                     have hb2 : Below w.heap.size w w2 := below_own (Hbel.out.alloc hsz _) (Hown.out.alloc _) (Nat.le_refl _) (by simp; omega) hg2
                     have Hown2 := Lib.hid hown2
                     have Hb2 := Lib.hid hb2
                     clear hown2 hg2 hb2)
        go_roundw
        case rel =>
          refine ⟨k + 1, v / 128, p ++ [UInt8.ofNat (v % 128 + 128)], by omega, by go_num, Hstep.out, ?_, Hb2.out⟩
          have h := Hown2.out
          have e : (v : Int) % 128 + 128 = ((v % 128 + 128 : Nat) : Int) := by omega
          rw [e, one8 _ (by omega), ← cells8_append, List.append_assoc] at h
          exact h
        case measure => simp [intOf]; omega
      · have Hlast := Lib.hid (hc.last (by omega))
        have hlen2 := Lib.hid hc.2.1
        clear hc hown hbel
        have hlt : v < 128 := by omega
        go_wp2_with (at_builtin
                     refine wpList_append_rds rfl (.tmp 32) (.tmp 35) 130 rfl w.heap.size 5 i0 _ 1 Tryz.underlying130 Hi.out Hz.out Hs1.out Hb1.out rfl _ (l.length + k) (cells8 (l ++ p)) rfl (Hown.out.alloc _) (some ⟨wr.heap.size, 0, none⟩) 1 1 [.int .u8 (v : Int)] rfl rfl (rds_one _ _ _) (by simp [Value.oneCell']) (by unfold maxLen; omega) (by omega) (by simp; omega) ?_
                     intro v2 w2 hown2 hg2
                     have hb2 : Below w.heap.size w w2 := below_own (Hbel.out.alloc hsz _) (Hown.out.alloc _) (Nat.le_refl _) (by simp; omega) hg2
                     have Hown2 := Lib.hid hown2
                     have Hb2 := Lib.hid hb2
                     clear hown2 hg2 hb2)
        go_ret
        refine ⟨v2, rfl, ?_, Hb2.out⟩
        have h := Hown2.out
        rw [one8 _ (by omega), ← cells8_append, List.append_assoc] at h
        have e : (l ++ num n).length = l.length + k + 1 := by rw [Hlast.out]; simp [hlen2.out, Nat.add_assoc]
        rw [e, Hlast.out]
        exact h

end RefPut
end Go.Proofs.YtiagjnimafdbhaaGreatDoor

namespace Go.Proofs.YtiagjnimafdbhaaGreatDoor
namespace BinGet
open Go.RowKit BinM BinNum Base BinE

/-- three numbers as a call hands them back -/
def three (r : Int × Int × Int) : Value := .tuple #[.int .i64 r.1, .int .i64 r.2.1, .int .i64 r.2.2]

theorem ret3 {r : Int × Int × Int} {a b c : Int} (h : r = (a, b, c)) : Ending.returned (.tuple #[.int .i64 a, .int .i64 b, .int .i64 c]) = .returned (three r) := by subst h; rfl

theorem low7 (c : Int) (h0 : 0 ≤ c) (h1 : c ≤ 255) : bits .andNot .u8 c 128 = c % 128 := by
  rw [u8_andNot c 128 h0 (by omega) (by omega) (by omega)]
  show ((c.toNat &&& 127 : Nat) : Int) = _
  rw [nat_mask7]; omega
theorem top_t (c : Int) (h0 : 128 ≤ c) (h1 : c ≤ 255) : (bits .and .u8 c 128 == 0) = false := by
  rw [u8_and c 128 (by omega) (by omega) (by omega) (by omega)]
  show (((c.toNat &&& 2 ^ 7 : Nat) : Int) == 0) = false
  rw [nat_bit]; simp; omega
theorem top_f (c : Int) (h0 : 0 ≤ c) (h1 : c < 128) : (bits .and .u8 c 128 == 0) = true := by
  rw [u8_and c 128 (by omega) (by omega) (by omega) (by omega)]
  show (((c.toNat &&& 2 ^ 7 : Nat) : Int) == 0) = true
  rw [nat_bit]; simp; omega

/-- one more piece put on: what the slot holds -/
def onto (v c : Int) (k : Nat) : Int := bits BinOp.or IntKind.u64 v (IntKind.u64.wrap (IntKind.u64.wrap (bits BinOp.andNot IntKind.u8 c 128) * 2 ^ (7 * k)))

theorem onto_in (v c : Int) (k : Nat) (h0 : 0 ≤ v) (h1 : v ≤ 18446744073709551615) : 0 ≤ onto v c k ∧ onto v c k ≤ 18446744073709551615 := by
  unfold onto
  generalize IntKind.u64.wrap (bits BinOp.andNot IntKind.u8 c 128) * 2 ^ (7 * k) = x
  have hw : 0 ≤ IntKind.u64.wrap x ∧ IntKind.u64.wrap x < 18446744073709551616 := by
    have : IntKind.u64.wrap x = x % 18446744073709551616 := by simp [IntKind.wrap, IntKind.bits, IntKind.signed]
    rw [this]; omega
  rw [u64_or v _ h0 (by omega) hw.1 hw.2]
  have h2 : v.toNat < 2 ^ 64 := by omega
  have h3 : (IntKind.u64.wrap x).toNat < 2 ^ 64 := by omega
  have := Nat.or_lt_two_pow h2 h3
  omega

theorem onto_val (l : List UInt8) (c : UInt8) (hk : l.length ≤ 8 ∨ (l.length = 9 ∧ c.toNat ≤ 1)) : onto (val l : Int) (c.toNat : Int) l.length = (val (l ++ [c]) : Int) := by
  have hc : c.toNat < 256 := c.toNat_lt
  have hv := val_lt l
  have e7 : (128 : Nat) ^ l.length = 2 ^ (7 * l.length) := by rw [show (128 : Nat) = 2 ^ 7 by decide, ← Nat.pow_mul]
  have hp : (128 : Nat) ^ l.length ≤ 128 ^ 9 := Nat.pow_le_pow_right (by omega) (by omega)
  have e63 : (128 : Nat) ^ 9 = 9223372036854775808 := by decide
  have hm : c.toNat % 128 * 128 ^ l.length + 128 ^ l.length ≤ 18446744073709551616 := by
    rcases hk with h8 | ⟨h9, h1⟩
    · have h8' : (128 : Nat) ^ l.length ≤ 128 ^ 8 := Nat.pow_le_pow_right (by omega) h8
      have e56 : (128 : Nat) ^ 8 = 72057594037927936 := by decide
      have : c.toNat % 128 * 128 ^ l.length ≤ 127 * 128 ^ l.length := Nat.mul_le_mul_right _ (by omega)
      omega
    · have : c.toNat % 128 * 128 ^ l.length ≤ 1 * 128 ^ l.length := Nat.mul_le_mul_right _ (by omega)
      omega
  unfold onto
  rw [low7 _ (by omega) (by omega)]
  have wr : ∀ x : Int, 0 ≤ x → x < 18446744073709551616 → IntKind.u64.wrap x = x := by
    intro x a b
    have : IntKind.u64.wrap x = x % 18446744073709551616 := by simp [IntKind.wrap, IntKind.bits, IntKind.signed]
    rw [this]; omega
  rw [wr ((c.toNat : Int) % 128) (by omega) (by omega)]
  have ec : ((c.toNat : Int) % 128) * 2 ^ (7 * l.length) = ((c.toNat % 128 * 128 ^ l.length : Nat) : Int) := by rw [e7]; simp
  rw [ec, wr _ (by omega) (by omega), u64_or_nat _ _ (by omega) (by omega)]
  rw [Nat.or_comm, nat_join (7 * l.length) (c.toNat % 128 * 128 ^ l.length) (val l) (by rw [e7]; exact Nat.mul_mod_left _ _) (by rw [← e7]; exact hv)]
  rw [val_snoc]
  omega

theorem getS_out {l : List UInt8} {a : Int} (h : a < 0 ∨ (l.length : Int) < a) : getS l a = (0, 0, 3) := by unfold getS; rw [if_pos h]
theorem getS_in {l : List UInt8} {a : Nat} (h : a ≤ l.length) : getS l a = if (getL (l.drop a)).2.2 = 0 then ((getL (l.drop a)).1, (a : Int) + ((getL (l.drop a)).2.1 : Int), 0) else (0, 0, (getL (l.drop a)).2.2) := by
  unfold getS; rw [if_neg (by omega)]; simp
theorem getS_short {l : List UInt8} {a : Nat} (h : a ≤ l.length) (h1 : lead (l.drop a) < 10) (h2 : (l.drop a).length ≤ lead (l.drop a)) : getS l a = (0, 0, 4) := by
  rw [getS_in h]
  have : getL (l.drop a) = (0, 0, 4) := by unfold getL; rw [if_neg (by omega), if_pos h2]
  rw [this]; simp
theorem getS_long {l : List UInt8} {a : Nat} (h : a ≤ l.length) (h1 : 10 ≤ lead (l.drop a)) : getS l a = (0, 0, 5) := by
  rw [getS_in h]
  have : getL (l.drop a) = (0, 0, 5) := by unfold getL; rw [if_pos h1]
  rw [this]; simp
theorem getS_bad {l : List UInt8} {a : Nat} (h : a ≤ l.length) (h1 : lead (l.drop a) < 10) (h2 : lead (l.drop a) < (l.drop a).length)
    (h3 : lastI (((l.drop a)[lead (l.drop a)]).toNat : Int) (lead (l.drop a) : Int) = false) : getS l a = (0, 0, 5) := by
  rw [getS_in h]
  have hg : (l.drop a).getD (lead (l.drop a)) 0 = (l.drop a)[lead (l.drop a)] := by rw [List.getD_eq_getElem?_getD, List.getElem?_eq_getElem h2]; rfl
  have : getL (l.drop a) = (0, 0, 5) := by unfold getL; rw [if_neg (by omega), if_neg (by omega), hg, if_neg (by rw [h3]; decide)]
  rw [this]; simp
theorem getS_good {l : List UInt8} {a : Nat} (h : a ≤ l.length) (h1 : lead (l.drop a) < 10) (h2 : lead (l.drop a) < (l.drop a).length)
    (h3 : lastI (((l.drop a)[lead (l.drop a)]).toNat : Int) (lead (l.drop a) : Int) = true) : getS l a = (unfoldI (val ((l.drop a).take (lead (l.drop a) + 1)) : Int), (a : Int) + (lead (l.drop a) : Int) + 1, 0) := by
  rw [getS_in h]
  have hg : (l.drop a).getD (lead (l.drop a)) 0 = (l.drop a)[lead (l.drop a)] := by rw [List.getD_eq_getElem?_getD, List.getElem?_eq_getElem h2]; rfl
  have : getL (l.drop a) = (unfoldI (val ((l.drop a).take (lead (l.drop a) + 1)) : Int), lead (l.drop a) + 1, 0) := by unfold getL; rw [if_neg (by omega), if_neg (by omega), hg, if_pos h3]
  rw [this]; simp; omega


end BinGet
end Go.Proofs.YtiagjnimafdbhaaGreatDoor

namespace Go.Proofs.YtiagjnimafdbhaaGreatDoor
namespace Bin8
open Go.RowKit BinM BinNum Base BinE BinPut BinGet

theorem elem8 : (sizeOf (Tryz.prog.elem 130)).run Tryz.prog = fun W => .ok 1 W := by kernel_rfl

/-- a cut of a slice of bytes, as the walk meets it -/
theorem cut8 (W : World) (A : Option Addr) (n cap : Nat) (lo hi : Int) (h0 : 0 ≤ lo) (h1 : lo ≤ hi) (h2 : hi ≤ cap) :
    (Instr.slice 130 (.slice A n cap) (some (.int .i64 lo)) (some (.int .i64 hi)) none).run Tryz.prog W = .ok (.slice (if cap = lo.toNat then A else A.map (·.add lo.toNat)) (hi.toNat - lo.toNat) (cap - lo.toNat)) W := by
  have hu : Tryz.prog.underlying 130 = some (.slice (Tryz.prog.elem 130)) := by kernel_rfl
  rw [run_slice_lh W 130 A n cap hu .i64 .i64 lo hi h0 h1 h2, elem8]
  simp [Result.andThen, sliced]

/-- these bytes stand in a row of the call's own -/
def Own8 (w : World) (base : Nat) (v : Value) (p : List UInt8) : Prop := w.ownsRow base 5 1 v p.length (cells8 p)

theorem Own8.nil (w : World) (base : Nat) : Own8 w base (.slice none 0 0) [] := World.ownsRow_nil _ _ _ _

theorem app8 {ops : Array Oper} {rest : List Oper} {o : Oper} {a : Act} {w : World} {Q : Exit → Act → World → Prop} (hgd : o.guard = none) (s x : Operand)
    (ho : o.op = .call { callee := .builtin .append, args := #[s, x], argTypes := #[130, 130] })
    (base : Nat) (v : Value) (p : List UInt8) (hs : a.eval s = v) (hown : Own8 w base v p) (A : Option Addr) (m c : Nat) (l : List UInt8) (hx : a.eval x = .slice A m c)
    (hm : m = l.length) (hr : Rds w A (cells8 l)) (hlen : p.length + l.length ≤ 140737489403904) (hbase : base ≤ w.heap.size)
    (h : ∀ v' w', Own8 w' base v' (p ++ l) → w.grownBy w' v.ownBlock → wpList Tryz.prog ops Q rest (a.put o.dst v') w') : wpList Tryz.prog ops Q (o :: rest) a w := by
  obtain ⟨i0, hi, hz, hs1, hb1⟩ := info_parts info8
  refine wpList_append_rds hgd s x 130 ho base 5 i0 _ 1 Tryz.underlying130 hi hz hs1 hb1 rfl v p.length (cells8 p) hs hown A m c (cells8 l) hx (by rw [cells8_length, hm]) hr (cells8_one l) (by unfold maxLen; omega) (by omega) hbase ?_
  intro v' w' h1 h2
  refine h v' w' ?_ h2
  unfold Own8
  rw [cells8_append, List.length_append, ← hm]
  exact h1

theorem app8s {ops : Array Oper} {rest : List Oper} {o : Oper} {a : Act} {w : World} {Q : Exit → Act → World → Prop} (hgd : o.guard = none) (s x : Operand)
    (ho : o.op = .call { callee := .builtin .append, args := #[s, x], argTypes := #[130, 9] })
    (base : Nat) (v : Value) (p : List UInt8) (hs : a.eval s = v) (hown : Own8 w base v p) (t : ByteArray) (hx : a.eval x = .string t)
    (hlen : p.length + t.size ≤ 140737488355328) (hbase : base ≤ w.heap.size)
    (h : ∀ v' w', Own8 w' base v' (p ++ t.data.toList) → w.grownBy w' v.ownBlock → wpList Tryz.prog ops Q rest (a.put o.dst v') w') : wpList Tryz.prog ops Q (o :: rest) a w := by
  obtain ⟨i0, hi, hz, hs1, hb1⟩ := info_parts info8
  refine Lib.wpList_append_own_string w hgd s x 130 9 ho base 5 i0 Tryz.underlying130 Tryz.underlying9 hi hz hs1 hb1 v p.length (cells8 p) hs hown t hx (by unfold maxLen; omega) hlen hbase ?_
  intro v' w' h1 h2 _
  refine h v' w' ?_ h2
  unfold Own8
  have e : (p ++ t.data.toList).length = p.length + t.size := by simp
  rw [cells8_append, e]
  exact h1

/-- bytes of the call's own, as a slice -/
theorem Own8.slice {w : World} {base : Nat} {v : Value} {p : List UInt8} (h : Own8 w base v p) :
    ∃ A c, v = .slice A p.length c ∧ p.length ≤ c ∧ c ≤ maxLen ∧ Rds w A (cells8 p) ∧ ∀ a, A = some a → base ≤ a.block ∧ a.block < w.heap.size := by
  obtain ⟨A, c, rfl, h1, h2, h3, _⟩ := own_slice h
  exact ⟨A, c, rfl, h1, h2, Rds.own h, fun a ha => ⟨(h3 a ha).1, (h3 a ha).2.1⟩⟩

theorem own_below {w : World} {base : Nat} {v : Value} {p : List UInt8} (h : Own8 w base v p) {B : Nat} {w0 w' : World} (hb : Below B w0 w) (hB : B ≤ base) (hs : B ≤ w.heap.size) (hg : w.grownBy w' v.ownBlock) : Below B w0 w' :=
  below_own hb h hB hs hg

theorem own_kept {w w' : World} {base : Nat} {v : Value} {p : List UInt8} (h : Own8 w base v p) (hb : Below w.heap.size w w') : Own8 w' base v p := by
  obtain ⟨h1, h2⟩ := h
  refine ⟨h1, ?_⟩
  rcases h2 with h2 | ⟨g, cap, cur, a, b, c, d⟩
  · exact .inl h2
  · have hlt : g < w.heap.size := by
      rcases Nat.lt_or_ge g w.heap.size with hl | hl
      · exact hl
      · rw [Array.getElem?_eq_none hl] at c; cases c
    exact .inr ⟨g, cap, cur, a, b, by rw [hb.block g hlt]; exact c, d⟩



end Bin8
end Go.Proofs.YtiagjnimafdbhaaGreatDoor
