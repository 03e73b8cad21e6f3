/-
  bin.cut: the bytes of a number, in an array: what it returns, for every number.
  bin.Put: bytes, and a number's bytes behind them, in new memory: what it returns, for all bytes and every number.
  The document's own writing of a number behind bytes: what it returns, for all bytes and every number.
  bin.Get: what it returns, for all cells8 and every place.
  Bytes of the call's own, and small functions on bytes: what each of them returns.
-/
import Derived.Test.YtehainbhoflpnaaGreatDoorG1
import Derived.Laws.BitsAllLaws
import Derived.Laws.Rows
import Derived.Laws.Tables
import Derived.Outline
import Derived.OwnWalk
import Derived.WalkKit
import Derived.Lib.AppendStr
import Derived.Deep.DeepAppendWide
import Derived.Deep.WholeRow
namespace Go.Proofs.YtehainbhoflpnaaGreatDoor
namespace BinCut
open Go.RowKit BinM BinNum Base BinE

theorem arr10 : (Tryz.prog.info? 229).map (·.size) = some 10 := by kernel_rfl

theorem up7 (v : Nat) : bits .or .u8 ((v : Int) % 128) 128 = (v : Int) % 128 + 128 := by
  have h := u8_or_nat (v % 128) 128 (by omega) (by omega)
  rw [Nat.or_comm, nat_join 7 128 (v % 128) (by decide) (by have : v % 128 < 128 := Nat.mod_lt _ (by omega)
                                                            omega)] at h
  rw [show (v : Int) % 128 = ((v % 128 : Nat) : Int) by omega, show ((128 : Int)) = ((128 : Nat) : Int) from rfl, h]
  omega

/-- what holds of the world at the head of a round: the block of pieces is known whole, the block of the result too, and all older blocks are as they were -/
structure Mid (w wr : World) (cs : Array Value) : Prop where
  pieces : wr.heap[w.heap.size + 1]? = some (.cells cs 229 (0, 0))
  result : ∃ rs : Array Value, wr.heap[w.heap.size]? = some (.cells rs 229 (0, 0)) ∧ rs.size = 10
  ten : cs.size = 10
  small : cs.all (·.oneCell') = true
  below : Below w.heap.size w wr

theorem Mid.start (w : World) (a b : Array Value) (ha : a.size = 10) (hb : b.size = 10) (h1 : b.all (·.oneCell') = true) :
    Mid w ((w.alloc (.cells a 229)).alloc (.cells b 229)) b :=
  ⟨heap_alloc2_new _ _ _, ⟨a, heap_alloc2_old _ _ _, ha⟩, hb, h1, ((Below.refl _ _).alloc (Nat.le_refl _) _).alloc (by simp) _⟩

theorem Mid.step {w wr : World} {cs : Array Value} (h : Mid w wr cs) (k : Nat) (u : Value) (hu : u.oneCell' = true) :
    Mid w (wr.setCell ⟨w.heap.size + 1, k, none⟩ u) (cs.setIfInBounds k u) := by
  obtain ⟨h1, ⟨rs, h2, h3⟩, h4, h5, h6⟩ := h
  refine ⟨heap_setCell_same wr _ k cs _ u h1, ⟨rs, ?_, h3⟩, by simpa using h4, ?_, h6.setCell (by simp) u⟩
  · rw [heap_setCell_other _ _ _ _ (by simp)]; exact h2
  · rw [Array.all_eq_true_iff_forall_mem] at h5 ⊢
    intro x hx
    rcases Array.mem_or_eq_of_mem_setIfInBounds hx with h | h
    · exact h5 x h
    · rw [h]; exact hu

theorem Mid.cell {w wr : World} {cs : Array Value} (h : Mid w wr cs) (k : Nat) (hk : k < 10) : ∃ u, wr.cell? ⟨w.heap.size + 1, k, none⟩ = some u := by
  have := h.ten
  exact ⟨cs[k], by rw [cell_of_row wr _ k cs _ _ h.pieces]; exact Array.getElem?_eq_getElem (by omega)⟩
theorem Mid.free {w wr : World} {cs : Array Value} (h : Mid w wr cs) (k : Nat) : wr.frozen? ⟨w.heap.size + 1, k, none⟩ = false := frozen_of_row wr _ k cs _ h.pieces

theorem heap_setRow_same (w : World) (g : Nat) (old cs : Array Value) (t : TypeId) (hg : w.heap[g]? = some (.cells old t (0, 0))) : (w.setRow g cs).heap[g]? = some (.cells cs t (0, 0)) := by
  simp [World.setRow, Array.getElem?_modify, hg]

/-- the result stored: it is read back whole, and what was there before the call is as it was -/
theorem Mid.finish {w wr : World} {cs : Array Value} (h : Mid w wr cs) :
    (loadVar 229 ⟨w.heap.size, 0, none⟩).run Tryz.prog (wr.setRow w.heap.size cs) = .ok (.agg cs) (wr.setRow w.heap.size cs) ∧ Below w.heap.size w (wr.setRow w.heap.size cs) := by
  obtain ⟨h1, ⟨rs, h2, h3⟩, h4, h5, h6⟩ := h
  refine ⟨run_loadVar_row _ _ _ _ cs (0, 0) _ (heap_setRow_same wr _ rs cs _ h2) Tryz.underlying229 rfl (by rw [arr10, h4]), ?_⟩
  refine h6.trans ⟨rfl, rfl, rfl, by simp, fun k hk => ?_⟩
  simp only [World.setRow, Array.getElem?_modify]
  rw [if_neg (by omega)]

/-- a call that hands back an array out of memory, and beside it a number -/
theorem results_cell_tmp {P : Program} {fn : Func} {p t : Tmp} {ty : TypeId} (h : fn.results = #[.cell p ty, .tmp t]) (tmps : Array Value) (w : World) (a : Addr) (x : Value)
    (hp : tmps.getD p undef = .pointer (some a)) (hl : (loadVar ty a).run P w = .ok x w) : (results fn tmps).run P w = .ok (.tuple #[x, tmps.getD t undef]) w := by
  have hp' : tmps[p]?.getD undef = .pointer (some a) := by simpa using hp
  simp [results, h, hp', asAddr, hl]

/-- the first k pieces stand, and the rest is to come of v -/
def Come (n : Int) (k v : Nat) (cs : Array Value) : Prop := cells8 (num n) = cs.toList.take k ++ cells8 (encF (9 - k) v) ∧ v < 2 ^ (64 - 7 * k)

theorem Come.start (n : Int) (h0 : -9223372036854775808 ≤ n) (h1 : n ≤ 9223372036854775807) (cs : Array Value) : Come n 0 (foldI n).toNat cs := by
  have := fold_lt h0 h1
  refine ⟨by simp [num, enc], ?_⟩
  have e : (2 : Nat) ^ (64 - 7 * 0) = 18446744073709551616 := by decide
  rw [e]; omega

theorem take_set (cs : Array Value) (k : Nat) (u : Value) (hk : k < cs.size) : (cs.setIfInBounds k u).toList.take (k + 1) = cs.toList.take k ++ [u] := by
  rw [Array.toList_setIfInBounds, List.take_succ_eq_append_getElem (by simpa using hk), List.take_set, List.set_eq_of_length_le (by simp; omega)]
  simp

theorem Come.more {n : Int} {k v : Nat} {cs : Array Value} (h : Come n k v cs) (hk : k ≤ 9) (hv : 128 ≤ v) : k ≤ 8 := by
  have h2 := h.2
  rcases (by omega : k ≤ 8 ∨ k = 9) with h | h
  · exact h
  · subst h
    have e : (2 : Nat) ^ (64 - 7 * 9) = 2 := by decide
    rw [e] at h2; omega

theorem Come.step {n : Int} {k v : Nat} {cs : Array Value} (h : Come n k v cs) (hk : k ≤ 8) (hv : 128 ≤ v) (hs : cs.size = 10) :
    Come n (k + 1) (v / 128) (cs.setIfInBounds k (.int .u8 ((v : Int) % 128 + 128))) := by
  obtain ⟨h1, h2⟩ := h
  refine ⟨?_, ?_⟩
  · rw [h1, take_set _ _ _ (by omega)]
    obtain ⟨f, hf⟩ : ∃ f, 9 - k = f + 1 := ⟨8 - k, by omega⟩
    have hf' : 9 - (k + 1) = f := by omega
    rw [hf, hf']
    conv => lhs; unfold encF
    rw [if_neg (by omega)]
    simp only [cells8, List.map_cons, List.append_assoc, List.singleton_append, cell8]
    rw [toNat_ofNat _ (by omega), show ((v % 128 + 128 : Nat) : Int) = (v : Int) % 128 + 128 by omega]
  · have e : 64 - 7 * k = (64 - 7 * (k + 1)) + 7 := by omega
    rw [e, Nat.pow_add] at h2
    exact Nat.div_lt_of_lt_mul (by rw [Nat.mul_comm]; exact h2)

theorem Come.last {n : Int} {k v : Nat} {cs : Array Value} (h : Come n k v cs) (hk : k ≤ 9) (hv : v < 128) (hs : cs.size = 10) :
    (num n).length = k + 1 ∧ (cs.setIfInBounds k (.int .u8 (v : Int))).toList.take (k + 1) = cells8 (num n) := by
  have e : encF (9 - k) v = [UInt8.ofNat v] := by
    cases hf : 9 - k with
    | zero => rfl
    | succ f => unfold encF; rw [if_pos hv]
  have h1 := h.1
  rw [e] at h1
  have h3 : cells8 [UInt8.ofNat v] = [.int .u8 (v : Int)] := by simp only [cells8, List.map_cons, List.map_nil, cell8]; rw [toNat_ofNat _ (by omega)]
  rw [h3] at h1
  refine ⟨?_, by rw [take_set _ _ _ (by omega), h1]⟩
  have := congrArg List.length h1
  rw [cells8_length] at this
  simp at this; omega

set_option maxRecDepth 100000 in
set_option maxHeartbeats 1000000 in
theorem cut_any (n : Int) (w : World) (h0 : -9223372036854775808 ≤ n) (h1 : n ≤ 9223372036854775807) :
    Calls Tryz.prog 168 #[.int .i64 n] w fun e w' => ∃ cs : Array Value, e = .returned (.tuple #[.agg cs, .int .i64 ((num n).length : Int)]) ∧ cs.size = 10 ∧ cs.all (·.oneCell') = true ∧ cs.toList.take (num n).length = cells8 (num n) ∧ Below w.heap.size w w' := by
  have hf0 := fold_pos n
  have hf1 := fold_lt h0 h1
  have hst := Come.start n h0 h1
  have Hst := Lib.hid hst
  clear hst
  go_enter Tryz.func168, Tryz.ntmps168
  go_wp2_with (go_at_call 199; refine (fold_any _ _ (by omega) (by omega)).mono ?_; rintro e w' ⟨rfl, rfl⟩)
  go_loopw [5, 6] (fun u i wr => ∃ (k v : Nat) (cs : Array Value), k ≤ 9 ∧ i = .int .i64 k ∧ u = .int .u64 v ∧ Come n k v cs ∧ Mid w wr cs) (fun _ i _ => 10 - (intOf i).toNat)
  case atStart =>
    have e : (((foldI n).toNat : Nat) : Int) = foldI n := by omega
    exact ⟨0, (foldI n).toNat, _, by omega, rfl, by rw [e], Hst.out _, Mid.start w _ _ rfl rfl (by simp [Value.oneCell'])⟩
  case round =>
    obtain ⟨k, v, cs, hk, rfl, rfl, hcome, hmid⟩ := hrel
    have hten := hmid.ten
    obtain ⟨u0, hcell⟩ := hmid.cell k (by omega)
    have hfree := hmid.free k
    have hvb : (v : Int) ≤ 18446744073709551615 := by
      have h2 := hcome.2
      have : (2 : Nat) ^ (64 - 7 * k) ≤ 2 ^ 64 := Nat.pow_le_pow_right (by omega) (by omega)
      omega
    by_cases hv : 128 ≤ v
    · have hk8 := hcome.more hk hv
      have hup := up7 v
      have hstep := hcome.step hk8 hv hten
      have hmid2 := hmid.step k (.int .u8 ((v : Int) % 128 + 128)) rfl
      have Hstep := Lib.hid hstep
      have Hmid2 := Lib.hid hmid2
      have Hten := Lib.hid hten
      clear hstep hmid2 hcome hmid hten
      go_wp2_with fail
      go_roundw
      case rel => exact ⟨k + 1, v / 128, _, by omega, by go_num, by go_num, Hstep.out, Hmid2.out⟩
      case measure => simp [intOf]; omega
    · have hlt : v < 128 := by omega
      have hlast := hcome.last hk hlt hten
      have hmid2 := hmid.step k (.int .u8 (v : Int)) rfl
      have Hlast := Lib.hid hlast
      have Hmid2 := Lib.hid hmid2
      have Hten := Lib.hid hten
      have hfin := hmid2.finish
      have Hfin := Lib.hid hfin
      clear hlast hmid2 hcome hmid hten hfin
      obtain ⟨rs, hrs, hrs10⟩ := Hmid2.out.result
      have Hrs := Lib.hid hrs
      have Hrs10 := Lib.hid hrs10
      clear hrs hrs10
      go_wp2_with (first | (refine wpList_load_row rfl 229 (.tmp 4) rfl (w.heap.size + 1) rfl 229 (cs.setIfInBounds k (.int .u8 (v : Int))) (0, 0) _ Hmid2.out.pieces Tryz.underlying229 rfl (by rw [arr10, Hmid2.out.ten]) ?_) | (refine wpList_store_row rfl 229 (.tmp 2) (.tmp 25) rfl w.heap.size (cs.setIfInBounds k (.int .u8 (v : Int))) rfl rfl 229 rs Hrs.out (by rw [arr10, Hmid2.out.ten]) (by rw [Hrs10.out, Hmid2.out.ten]) Hmid2.out.small ?_))
      refine bodyPost_ret (v := .tuple #[.agg (cs.setIfInBounds k (.int .u8 (v : Int))), .int .i64 ((k : Int) + 1)]) (results_cell_tmp Tryz.results168 _ _ _ _ rfl Hfin.out.1) rfl ⟨_, ?_, Hmid2.out.ten, Hmid2.out.small, ?_, Hfin.out.2⟩
      · rw [Hlast.out.1]; rfl
      · rw [Hlast.out.1]; exact Hlast.out.2

end BinCut
end Go.Proofs.YtehainbhoflpnaaGreatDoor

namespace Go.Proofs.YtehainbhoflpnaaGreatDoor
namespace BinPut
open Go.RowKit BinM BinNum Base BinE BinCut

theorem info8 : (Tryz.prog.info? 5).map (fun i => (i.zero, i.size, i.bytes)) = some (some (.int .u8 0), 1, 1) := by kernel_rfl

/-- a call hands back these bytes in new memory; what was there is as it was -/
def Gives8 (w : World) (l : List UInt8) (e : Ending) (w' : World) : Prop :=
  ∃ v, e = .returned v ∧ w'.ownsRow w.heap.size 5 1 v l.length (cells8 l) ∧ Below w.heap.size w w'

theorem slice_pieces (W : World) (g k : Nat) (hk : k ≤ 10) :
    (Instr.sliceAt 229 (.pointer (some ⟨g, 0, none⟩)) none (some (.int .i64 (k : Int))) none).run Tryz.prog W = .ok (.slice (some ⟨g, 0, none⟩) k 10) W := by
  have e : Tryz.prog.arrayLen 229 = 10 := by kernel_rfl
  rw [run_sliceAt_array_h W 229 ⟨g, 0, none⟩ (by kernel_rfl) .i64 (k : Int) (by omega) (by rw [e]; omega)]
  have hsz : (sizeOf (Tryz.prog.elem 229)).run Tryz.prog W = .ok 1 W := by kernel_rfl
  rw [hsz, e]
  simp [Result.andThen, slicedAt, Addr.add]

set_option maxRecDepth 100000 in
set_option maxHeartbeats 1000000 in
theorem put_any (A : Option Addr) (l : List UInt8) (m cap : Nat) (n : Int) (w : World) (hm : m = l.length) (hlen : m ≤ 140737489403894) (h0 : -9223372036854775808 ≤ n) (h1 : n ≤ 9223372036854775807) (hr : Rds w A (cells8 l)) :
    Calls Tryz.prog 131 #[.slice A m cap, .int .i64 n] w (Gives8 w (l ++ num n)) := by
  have hk := (num_can h0 h1).2.2
  have hk1 := num_pos h0 h1
  have Hm := Lib.hid hm
  clear hm
  obtain ⟨i0, hi, hz, hs1, hb1⟩ := info_parts info8
  have Hi := Lib.hid hi
  have Hz := Lib.hid hz
  have Hs1 := Lib.hid hs1
  have Hb1 := Lib.hid hb1
  clear hi hz hs1 hb1
  go_enter Tryz.func131, Tryz.ntmps131
  go_wp2_with (first
    | (go_at_call 168; refine (cut_any _ _ h0 h1).mono ?_; rintro e w1 ⟨cs, rfl, hcs10, hcs1, hcst, hb1⟩; generalize hkk : (num n).length = k at *; have Hkk := Lib.hid hkk; have Hcs10 := Lib.hid hcs10; have Hcs1 := Lib.hid hcs1; have Hcst := Lib.hid hcst; have Hb1' := Lib.hid hb1; clear hkk hcs10 hcs1 hcst hb1)
    | (refine wpList_store_row rfl 229 (.tmp 5) (.tmp 11) rfl w1.heap.size cs rfl rfl 229 _ (heap_alloc_last w1 _) (by rw [arr10, Hcs10.out]) (by rw [Hcs10.out]; rfl) Hcs1.out ?_; rw [World.setRow_alloc_new])
    | (at_make
       refine wpList_make_own _ rfl (.const (.int .i64 0)) (.tmp 16) 151 rfl (w1.heap.size + 1) 5 i0 _ 1 Tryz.underlying151 Hi.out Hz.out Hs1.out .i64 .i64 _ (m + k) rfl rfl (by omega) (by rw [Hb1.out]; omega) (by unfold maxLen; omega) (by simp) ?_
       intro w2 hown2 hg2
       simp only [World.size_alloc] at hown2
       have hb2 : Below w.heap.size w w2 := ((Hb1'.out).alloc (Hb1'.out.size) (.cells cs 229)).grown hg2 (by have := Hb1'.out.size; simp; omega) (by intro k hk; cases hk)
       have hz2 : w1.heap.size + 1 ≤ w2.heap.size := by have := hg2.size; simpa using this
       have hp2 : w2.heap[w1.heap.size]? = some (.cells cs 229 (0, 0)) := by rw [hg2.block w1.heap.size (by simp) (by simp)]; exact heap_alloc_last w1 _
       have Hown2 := Lib.hid hown2
       have Hb2 := Lib.hid hb2
       have Hp2 := Lib.hid hp2
       clear hown2 hg2 hb2 hp2)
    | (at_builtin
       refine wpList_append_rds rfl (.tmp 21) (.tmp 23) 151 rfl (w1.heap.size + 1) 5 i0 _ 1 Tryz.underlying151 Hi.out Hz.out Hs1.out Hb1.out rfl v3 (0 + m) ([] ++ cells8 l) rfl Hown3.out (some ⟨w1.heap.size, 0, none⟩) k 10 (cells8 (num n)) rfl (by rw [cells8_length, Hkk.out]) hrds (cells8_one _) (by unfold maxLen; omega) (by omega) hz3 ?_
       intro v4 w4 hown4 hg4
       have hb4 : Below w.heap.size w w4 := below_own Hb3.out Hown3.out (by have := Hb1'.out.size; omega) Hb3.out.size hg4
       have Hown4 := Lib.hid hown4
       have Hb4 := Lib.hid hb4
       clear hown4 hg4 hb4)
    | (at_builtin
       refine wpList_append_rds rfl (.tmp 18) (.tmp 19) 151 rfl (w1.heap.size + 1) 5 i0 _ 1 Tryz.underlying151 Hi.out Hz.out Hs1.out Hb1.out rfl (.slice (some ⟨w1.heap.size + 1, 0, none⟩) 0 (m + k)) 0 [] rfl Hown2.out A m cap (cells8 l) rfl (by rw [cells8_length, Hm.out]) (hr.below Hb2.out) (cells8_one l) (by unfold maxLen; omega) (by omega) hz2 ?_
       intro v3 w3 hown3 hg3
       have hb3 : Below w.heap.size w w3 := below_own Hb2.out Hown2.out (by have := Hb1'.out.size; omega) Hb2.out.size hg3
       have hp3 : w3.heap[w1.heap.size]? = some (.cells cs 229 (0, 0)) := by
         rw [hg3.block w1.heap.size (by omega) (by simp [Value.ownBlock])]; exact Hp2.out
       have hz3 : w1.heap.size + 1 ≤ w3.heap.size := Nat.le_trans hz2 hg3.size
       have Hown3 := Lib.hid hown3
       have Hb3 := Lib.hid hb3
       have Hp3 := Lib.hid hp3
       clear hown3 hg3 hb3 hp3
       have hrds : Rds w3 (some ⟨w1.heap.size, 0, none⟩) (cells8 (num n)) := by
         refine .inr ⟨w1.heap.size, 0, rfl, by omega, fun j u hu => ?_⟩
         rw [cell_of_row w3 _ (0 + j) cs _ _ Hp3.out, Nat.zero_add]
         rw [← Hcst.out, List.getElem?_take] at hu
         by_cases hj : j < k
         · rw [if_pos hj] at hu; simpa using hu
         · rw [if_neg hj] at hu; cases hu
       have hsl := fun W => slice_pieces W w1.heap.size k hk))
  go_ret
  refine ⟨v4, rfl, own_mono ?_ (by have := Hb1'.out.size; omega : w.heap.size ≤ w1.heap.size + 1), Hb4.out⟩
  have hl : (l ++ num n).length = 0 + m + k := by rw [List.length_append, Hkk.out, Hm.out]; omega
  rw [hl, cells8_append]
  exact Hown4.out

end BinPut
end Go.Proofs.YtehainbhoflpnaaGreatDoor

namespace Go.Proofs.YtehainbhoflpnaaGreatDoor
namespace RefPut
open Go.RowKit BinM BinNum Base BinE BinPut

/-- the pieces p stand, and the rest is to come of v -/
def ComeL (n : Int) (k v : Nat) (p : List UInt8) : Prop := num n = p ++ encF (9 - k) v ∧ p.length = k ∧ v < 2 ^ (64 - 7 * k)

theorem ComeL.start (n : Int) (h0 : -9223372036854775808 ≤ n) (h1 : n ≤ 9223372036854775807) : ComeL n 0 (foldI n).toNat [] := by
  have := fold_lt h0 h1
  refine ⟨by simp [num, enc], rfl, ?_⟩
  have e : (2 : Nat) ^ (64 - 7 * 0) = 18446744073709551616 := by decide
  rw [e]; omega

theorem ComeL.more {n : Int} {k v : Nat} {p : List UInt8} (h : ComeL n k v p) (hk : k ≤ 9) (hv : 128 ≤ v) : k ≤ 8 := by
  have h2 := h.2.2
  rcases (by omega : k ≤ 8 ∨ k = 9) with h | h
  · exact h
  · subst h
    have e : (2 : Nat) ^ (64 - 7 * 9) = 2 := by decide
    rw [e] at h2; omega

theorem ComeL.step {n : Int} {k v : Nat} {p : List UInt8} (h : ComeL n k v p) (hk : k ≤ 8) (hv : 128 ≤ v) : ComeL n (k + 1) (v / 128) (p ++ [UInt8.ofNat (v % 128 + 128)]) := by
  obtain ⟨h1, h2, h3⟩ := h
  refine ⟨?_, by simp [h2], ?_⟩
  · obtain ⟨f, hf⟩ : ∃ f, 9 - k = f + 1 := ⟨8 - k, by omega⟩
    have hf' : 9 - (k + 1) = f := by omega
    rw [h1, hf, hf']
    conv => lhs; unfold encF
    rw [if_neg (by omega)]
    simp
  · have e : 64 - 7 * k = (64 - 7 * (k + 1)) + 7 := by omega
    rw [e, Nat.pow_add] at h3
    exact Nat.div_lt_of_lt_mul (by rw [Nat.mul_comm]; exact h3)

theorem ComeL.last {n : Int} {k v : Nat} {p : List UInt8} (h : ComeL n k v p) (hv : v < 128) : num n = p ++ [UInt8.ofNat v] := by
  have e : encF (9 - k) v = [UInt8.ofNat v] := by
    cases hf : 9 - k with
    | zero => rfl
    | succ f => unfold encF; rw [if_pos hv]
  rw [h.1, e]

theorem ComeL.big {n : Int} {k v : Nat} {p : List UInt8} (h : ComeL n k v p) : (v : Int) ≤ 18446744073709551615 := by
  have h2 := h.2.2
  have : (2 : Nat) ^ (64 - 7 * k) ≤ 2 ^ 64 := Nat.pow_le_pow_right (by omega) (by omega)
  omega

theorem one8 (x : Nat) (h : x < 256) : [Value.int .u8 (x : Int)] = cells8 [UInt8.ofNat x] := by
  simp only [cells8, List.map_cons, List.map_nil, cell8]; rw [toNat_ofNat _ h]

/-- a block of one cell, just made, as a slice -/
theorem rds_one (w : World) (x : Value) (t : TypeId) : Rds (w.alloc (.cells #[x] t)) (some ⟨w.heap.size, 0, none⟩) [x] := by
  refine .inr ⟨w.heap.size, 0, rfl, by simp, fun j u hu => ?_⟩
  match j, hu with
  | 0, hu =>
    simp at hu
    subst hu
    simp

/-- the loop's way, from any number that is to come -/
def Rel (w : World) (l : List UInt8) (n : Int) (o u : Value) (wr : World) : Prop :=
  ∃ (k v : Nat) (p : List UInt8), k ≤ 9 ∧ u = .int .u64 v ∧ ComeL n k v p ∧ wr.ownsRow w.heap.size 5 1 o (l.length + k) (cells8 (l ++ p)) ∧ Below w.heap.size w wr

set_option maxRecDepth 100000 in
set_option maxHeartbeats 1000000 in
theorem refPut_any (A : Option Addr) (l : List UInt8) (m cap : Nat) (n : Int) (w : World) (hm : m = l.length) (hlen : m ≤ 140737489403894) (h0 : -9223372036854775808 ≤ n) (h1 : n ≤ 9223372036854775807) (hr : Rds w A (cells8 l)) :
    Calls Tryz.prog 160 #[.slice A m cap, .int .i64 n] w (Gives8 w (l ++ num n)) := by
  have hf0 := fold_pos n
  have hf1 := fold_lt h0 h1
  have Hst := Lib.hid (ComeL.start n h0 h1)
  have Hm := Lib.hid hm
  clear hm
  obtain ⟨i0, hi, hz, hs1, hb1⟩ := info_parts info8
  have Hi := Lib.hid hi
  have Hz := Lib.hid hz
  have Hs1 := Lib.hid hs1
  have Hb1 := Lib.hid hb1
  clear hi hz hs1 hb1
  have Hf : Hid (foldI n = if n < 0 then -2 * n - 1 else 2 * n) := rfl
  by_cases hneg : n < 0
  all_goals
    go_enter Tryz.func160, Tryz.ntmps160
    go_wp2_with (at_builtin
                 refine wpList_append_rds rfl (.tmp 7) (.tmp 8) 151 rfl w.heap.size 5 i0 _ 1 Tryz.underlying151 Hi.out Hz.out Hs1.out Hb1.out rfl (.slice none 0 0) 0 [] rfl (World.ownsRow_nil _ _ _ _) A m cap (cells8 l) rfl (by rw [cells8_length, Hm.out]) hr (cells8_one l) (by unfold maxLen; omega) (by omega) (Nat.le_refl _) ?_
                 intro v1 w1 hown1 hg1
                 have hb1 : Below w.heap.size w w1 := below_own (Below.refl _ _) (World.ownsRow_nil w w.heap.size 5 1) (Nat.le_refl _) (Nat.le_refl _) hg1
                 have Hown1 := Lib.hid hown1
                 have Hb1' := Lib.hid hb1
                 clear hown1 hg1 hb1)
    go_loopw [5, 6] (fun o u wr => Rel w l n o u wr) (fun _ u _ => (intOf u).toNat)
    case atStart =>
      have hf := Hf.out
      first | rw [if_pos hneg] at hf | rw [if_neg (by omega)] at hf
      refine ⟨0, (foldI n).toNat, [], by omega, ?_, Hst.out, by simpa [Hm.out] using Hown1.out, Hb1'.out⟩
      congr 1
      omega
    case round =>
      obtain ⟨k, v, p, hk, rfl, hc, hown, hbel⟩ := hrel
      have hvb := hc.big
      have Hown := Lib.hid hown
      have hsz := hbel.size
      have Hbel := Lib.hid hbel
      have hml : l.length ≤ m := Nat.le_of_eq Hm.out.symm
      by_cases hv : 128 ≤ v
      · have hk8 := hc.more hk hv
        have Hstep := Lib.hid (hc.step hk8 hv)
        clear hc hown hbel
        go_wp2_with (at_builtin
                     refine wpList_append_rds rfl (.tmp 23) (.tmp 28) 151 rfl w.heap.size 5 i0 _ 1 Tryz.underlying151 Hi.out Hz.out Hs1.out Hb1.out rfl _ (l.length + k) (cells8 (l ++ p)) rfl (Hown.out.alloc _) (some ⟨wr.heap.size, 0, none⟩) 1 1 [.int .u8 ((v : Int) % 128 + 128)] rfl rfl (rds_one _ _ _) (by simp [Value.oneCell']) (by unfold maxLen; omega) (by omega) (by simp; omega) ?_
                     intro v2 w2 hown2 hg2
                     have hb2 : Below w.heap.size w w2 := below_own (Hbel.out.alloc hsz _) (Hown.out.alloc _) (Nat.le_refl _) (by simp; omega) hg2
                     have Hown2 := Lib.hid hown2
                     have Hb2 := Lib.hid hb2
                     clear hown2 hg2 hb2)
        go_roundw
        case rel =>
          refine ⟨k + 1, v / 128, p ++ [UInt8.ofNat (v % 128 + 128)], by omega, by go_num, Hstep.out, ?_, Hb2.out⟩
          have h := Hown2.out
          have e : (v : Int) % 128 + 128 = ((v % 128 + 128 : Nat) : Int) := by omega
          rw [e, one8 _ (by omega), ← cells8_append, List.append_assoc] at h
          exact h
        case measure => simp [intOf]; omega
      · have Hlast := Lib.hid (hc.last (by omega))
        have hlen2 := Lib.hid hc.2.1
        clear hc hown hbel
        have hlt : v < 128 := by omega
        go_wp2_with (at_builtin
                     refine wpList_append_rds rfl (.tmp 32) (.tmp 35) 151 rfl w.heap.size 5 i0 _ 1 Tryz.underlying151 Hi.out Hz.out Hs1.out Hb1.out rfl _ (l.length + k) (cells8 (l ++ p)) rfl (Hown.out.alloc _) (some ⟨wr.heap.size, 0, none⟩) 1 1 [.int .u8 (v : Int)] rfl rfl (rds_one _ _ _) (by simp [Value.oneCell']) (by unfold maxLen; omega) (by omega) (by simp; omega) ?_
                     intro v2 w2 hown2 hg2
                     have hb2 : Below w.heap.size w w2 := below_own (Hbel.out.alloc hsz _) (Hown.out.alloc _) (Nat.le_refl _) (by simp; omega) hg2
                     have Hown2 := Lib.hid hown2
                     have Hb2 := Lib.hid hb2
                     clear hown2 hg2 hb2)
        go_ret
        refine ⟨v2, rfl, ?_, Hb2.out⟩
        have h := Hown2.out
        rw [one8 _ (by omega), ← cells8_append, List.append_assoc] at h
        have e : (l ++ num n).length = l.length + k + 1 := by rw [Hlast.out]; simp [hlen2.out, Nat.add_assoc]
        rw [e, Hlast.out]
        exact h

end RefPut
end Go.Proofs.YtehainbhoflpnaaGreatDoor

namespace Go.Proofs.YtehainbhoflpnaaGreatDoor
namespace BinGet
open Go.RowKit BinM BinNum Base BinE

end BinGet
end Go.Proofs.YtehainbhoflpnaaGreatDoor

namespace Go.Proofs.YtehainbhoflpnaaGreatDoor
namespace Bin8
open Go.RowKit BinM BinNum Base BinE BinPut BinGet

/-- these bytes stand in a row of the call's own -/
def Own8 (w : World) (base : Nat) (v : Value) (p : List UInt8) : Prop := w.ownsRow base 5 1 v p.length (cells8 p)

theorem Own8.nil (w : World) (base : Nat) : Own8 w base (.slice none 0 0) [] := World.ownsRow_nil _ _ _ _

theorem app8 {ops : Array Oper} {rest : List Oper} {o : Oper} {a : Act} {w : World} {Q : Exit → Act → World → Prop} (hgd : o.guard = none) (s x : Operand)
    (ho : o.op = .call { callee := .builtin .append, args := #[s, x], argTypes := #[151, 151] })
    (base : Nat) (v : Value) (p : List UInt8) (hs : a.eval s = v) (hown : Own8 w base v p) (A : Option Addr) (m c : Nat) (l : List UInt8) (hx : a.eval x = .slice A m c)
    (hm : m = l.length) (hr : Rds w A (cells8 l)) (hlen : p.length + l.length ≤ 140737489403904) (hbase : base ≤ w.heap.size)
    (h : ∀ v' w', Own8 w' base v' (p ++ l) → w.grownBy w' v.ownBlock → wpList Tryz.prog ops Q rest (a.put o.dst v') w') : wpList Tryz.prog ops Q (o :: rest) a w := by
  obtain ⟨i0, hi, hz, hs1, hb1⟩ := info_parts info8
  refine wpList_append_rds hgd s x 151 ho base 5 i0 _ 1 Tryz.underlying151 hi hz hs1 hb1 rfl v p.length (cells8 p) hs hown A m c (cells8 l) hx (by rw [cells8_length, hm]) hr (cells8_one l) (by unfold maxLen; omega) (by omega) hbase ?_
  intro v' w' h1 h2
  refine h v' w' ?_ h2
  unfold Own8
  rw [cells8_append, List.length_append, ← hm]
  exact h1

theorem app8s {ops : Array Oper} {rest : List Oper} {o : Oper} {a : Act} {w : World} {Q : Exit → Act → World → Prop} (hgd : o.guard = none) (s x : Operand)
    (ho : o.op = .call { callee := .builtin .append, args := #[s, x], argTypes := #[151, 9] })
    (base : Nat) (v : Value) (p : List UInt8) (hs : a.eval s = v) (hown : Own8 w base v p) (t : ByteArray) (hx : a.eval x = .string t)
    (hlen : p.length + t.size ≤ 140737488355328) (hbase : base ≤ w.heap.size)
    (h : ∀ v' w', Own8 w' base v' (p ++ t.data.toList) → w.grownBy w' v.ownBlock → wpList Tryz.prog ops Q rest (a.put o.dst v') w') : wpList Tryz.prog ops Q (o :: rest) a w := by
  obtain ⟨i0, hi, hz, hs1, hb1⟩ := info_parts info8
  refine Lib.wpList_append_own_string w hgd s x 151 9 ho base 5 i0 Tryz.underlying151 Tryz.underlying9 hi hz hs1 hb1 v p.length (cells8 p) hs hown t hx (by unfold maxLen; omega) hlen hbase ?_
  intro v' w' h1 h2 _
  refine h v' w' ?_ h2
  unfold Own8
  have e : (p ++ t.data.toList).length = p.length + t.size := by simp
  rw [cells8_append, e]
  exact h1

/-- bytes of the call's own, as a slice -/
theorem Own8.slice {w : World} {base : Nat} {v : Value} {p : List UInt8} (h : Own8 w base v p) :
    ∃ A c, v = .slice A p.length c ∧ p.length ≤ c ∧ c ≤ maxLen ∧ Rds w A (cells8 p) ∧ ∀ a, A = some a → base ≤ a.block ∧ a.block < w.heap.size := by
  obtain ⟨A, c, rfl, h1, h2, h3, _⟩ := own_slice h
  exact ⟨A, c, rfl, h1, h2, Rds.own h, fun a ha => ⟨(h3 a ha).1, (h3 a ha).2.1⟩⟩

theorem own_below {w : World} {base : Nat} {v : Value} {p : List UInt8} (h : Own8 w base v p) {B : Nat} {w0 w' : World} (hb : Below B w0 w) (hB : B ≤ base) (hs : B ≤ w.heap.size) (hg : w.grownBy w' v.ownBlock) : Below B w0 w' :=
  below_own hb h hB hs hg

theorem own_kept {w w' : World} {base : Nat} {v : Value} {p : List UInt8} (h : Own8 w base v p) (hb : Below w.heap.size w w') : Own8 w' base v p := by
  obtain ⟨h1, h2⟩ := h
  refine ⟨h1, ?_⟩
  rcases h2 with h2 | ⟨g, cap, cur, a, b, c, d⟩
  · exact .inl h2
  · have hlt : g < w.heap.size := by
      rcases Nat.lt_or_ge g w.heap.size with hl | hl
      · exact hl
      · rw [Array.getElem?_eq_none hl] at c; cases c
    exact .inr ⟨g, cap, cur, a, b, by rw [hb.block g hlt]; exact c, d⟩



end Bin8
end Go.Proofs.YtehainbhoflpnaaGreatDoor
/-
  Slices of structs, as the walks of this seat meet them: cells in order, so many an element; instructions and constants as such.
-/
namespace Go.Proofs.YtehainbhoflpnaaGreatDoor
namespace Stru
open Go.RowKit Base

theorem flat_get {α : Type} (f : α → List Value) (n : Nat) (hn : ∀ x, (f x).length = n) : ∀ (l : List α) (k j : Nat) (hk : k < l.length), j < n → (l.flatMap f)[k * n + j]? = (f l[k])[j]?
  | [], _, _, h, _ => by simp at h
  | x :: t, 0, j, _, hj => by
    simp only [List.flatMap_cons, List.getElem_cons_zero, Nat.zero_mul, Nat.zero_add]
    rw [List.getElem?_append_left (by rw [hn]; exact hj)]
  | x :: t, k + 1, j, h, hj => by
    simp only [List.flatMap_cons, List.getElem_cons_succ]
    rw [List.getElem?_append_right (by rw [hn, Nat.add_mul]; omega), hn]
    have e : (k + 1) * n + j - n = k * n + j := by rw [Nat.add_mul]; omega
    rw [e]
    exact flat_get f n hn t k j (by simpa using h) hj

theorem flat_len {α : Type} (f : α → List Value) (n : Nat) (hn : ∀ x, (f x).length = n) (l : List α) : (l.flatMap f).length = l.length * n := by
  induction l with
  | nil => simp
  | cons x t ih => simp [ih, hn, Nat.add_mul, Nat.add_comm]

theorem flat_at {α : Type} {w : World} {A : Option Addr} {f : α → List Value} {n : Nat} (hn : ∀ x, (f x).length = n) (h0 : 0 < n) {l : List α} {k : Nat} (h : Rds w A (l.flatMap f)) (hk : k < l.length) :
    ∃ b o, A = some ⟨b, o, none⟩ ∧ b < w.heap.size ∧ ∀ j u, (f l[k])[j]? = some u → w.cell? ⟨b, o + (k * n + j), none⟩ = some u := by
  rcases h with h | ⟨b, o, hA, hb, hc⟩
  · have := flat_len f n hn l
    rw [h] at this
    have h2 : 0 < l.length * n := Nat.mul_pos (by omega) h0
    simp only [List.length_nil] at this
    omega
  · refine ⟨b, o, hA, hb, fun j u hu => hc _ u ?_⟩
    have hj : j < n := by
      have := (List.getElem?_eq_some_iff.1 hu).1
      rw [hn] at this; exact this
    rw [flat_get f n hn l k j hk hj, hu]

/-! append, elements of several cells -/
section
variable {P : Program} {w : World}
theorem run_append_rdsN (base : Nat) (t ty e : TypeId) (i : TypeInfo) (z : Value) (size bytes : Nat) (ht : P.underlying t = some (.slice e)) (hi : P.info? e = some i) (hz : i.zero = some z)
    (hsize : i.size = size) (hby : i.bytes = bytes) (hzs : z.cells.size = size) (h0 : 0 < size)
    {v : Value} {n : Nat} {xs : List Value} (hown : w.ownsRow base e size v n xs) {A : Option Addr} {m c : Nat} {news : List Value} (hm : news.length = m * size) (hr : Rds w A news) (h1 : ∀ u ∈ news, u.oneCell' = true)
    (h63 : n + m ≤ maxLen) (hbytes : (n + m) * bytes ≤ 140737488355328) (hbase : base ≤ w.heap.size) :
    ∃ v' w', (Builtin.append_ #[t, t] ty #[v, .slice A m c]).run P w = .ok v' w' ∧ w'.ownsRow base e size v' (n + m) (xs ++ news) ∧ w.grownBy w' v.ownBlock := by
  cases A with
  | none =>
    have hnil : news = [] := by
      rcases hr with h | ⟨b, o, h, _⟩
      · exact h
      · cases h
    subst hnil
    have hm0 : m = 0 := by
      rcases Nat.eq_zero_or_pos m with h | h
      · exact h
      · have := Nat.mul_pos h h0
        simp only [List.length_nil] at hm
        omega
    subst hm0
    exact ⟨v, w, run_append_nothing base t ty e i size ht hi hown c, by simpa using hown, World.grownBy.refl w _⟩
  | some ad =>
    have hcells : ∀ j u, news[j]? = some u → w.cell? (ad.add j) = some u := by
      intro j u hu
      rcases hr with h | ⟨b, o, h, _, hc⟩
      · rw [h] at hu; simp at hu
      · injection h with h
        rw [h, Addr.add_mid]
        exact hc j u hu
    obtain ⟨v', w', hrun, h2, h3, _⟩ := run_append_own (P := P) w base t ty e i z size bytes ht hi hz hsize hby hzs h0 v n xs hown ad m c news hm hcells h1 h63 hbytes hbase
    exact ⟨v', w', hrun, h2, h3⟩

theorem wp_append_rdsN {o : Oper} {a : Act} {K : Act → World → Prop} {Q : Exit → Act → World → Prop} (s x : Operand) (t : TypeId)
    (ho : o.op = .call { callee := .builtin .append, args := #[s, x], argTypes := #[t, t] })
    (base : Nat) (e : TypeId) (i : TypeInfo) (z : Value) (size bytes : Nat) (ht : P.underlying t = some (.slice e)) (hi : P.info? e = some i) (hz : i.zero = some z)
    (hsize : i.size = size) (hby : i.bytes = bytes) (hzs : z.cells.size = size) (h0 : 0 < size)
    (v : Value) (n : Nat) (xs : List Value) (hs : a.eval s = v) (hown : w.ownsRow base e size v n xs) (A : Option Addr) (m c : Nat) (news : List Value) (hx : a.eval x = .slice A m c)
    (hm : news.length = m * size) (hr : Rds w A news) (h1 : ∀ u ∈ news, u.oneCell' = true)
    (h63 : n + m ≤ maxLen) (hbytes : (n + m) * bytes ≤ 140737488355328) (hbase : base ≤ w.heap.size)
    (h : ∀ v' w', w'.ownsRow base e size v' (n + m) (xs ++ news) → w.grownBy w' v.ownBlock → K (a.put o.dst v') w') : o.wp P a w K Q := by
  obtain ⟨v', w', hrun, h2, h3⟩ := run_append_rdsN (P := P) base t o.type e i z size bytes ht hi hz hsize hby hzs h0 hown (c := c) hm hr h1 h63 hbytes hbase
  unfold Oper.wp execOp
  simp only [ho, resolve, invoke, builtin, Sem.run_bind, Sem.run_pure, Result.andThen_ok, List.map_toArray, List.map_cons, List.map_nil, hs, hx, hrun]
  exact h v' w' h2 h3

theorem wpList_append_rdsN {ops : Array Oper} {rest : List Oper} {o : Oper} {a : Act} {Q : Exit → Act → World → Prop} (hgd : o.guard = none) (s x : Operand) (t : TypeId)
    (ho : o.op = .call { callee := .builtin .append, args := #[s, x], argTypes := #[t, t] })
    (base : Nat) (e : TypeId) (i : TypeInfo) (z : Value) (size bytes : Nat) (ht : P.underlying t = some (.slice e)) (hi : P.info? e = some i) (hz : i.zero = some z)
    (hsize : i.size = size) (hby : i.bytes = bytes) (hzs : z.cells.size = size) (h0 : 0 < size)
    (v : Value) (n : Nat) (xs : List Value) (hs : a.eval s = v) (hown : w.ownsRow base e size v n xs) (A : Option Addr) (m c : Nat) (news : List Value) (hx : a.eval x = .slice A m c)
    (hm : news.length = m * size) (hr : Rds w A news) (h1 : ∀ u ∈ news, u.oneCell' = true)
    (h63 : n + m ≤ maxLen) (hbytes : (n + m) * bytes ≤ 140737488355328) (hbase : base ≤ w.heap.size)
    (h : ∀ v' w', w'.ownsRow base e size v' (n + m) (xs ++ news) → w.grownBy w' v.ownBlock → wpList P ops Q rest (a.put o.dst v') w') : wpList P ops Q (o :: rest) a w :=
  wpList_plain hgd fun _ hK => wp_append_rdsN s x t ho base e i z size bytes ht hi hz hsize hby hzs h0 v n xs hs hown A m c news hx hm hr h1 h63 hbytes hbase fun v' w' h2 h3 => hK _ _ (h v' w' h2 h3)
end

/-- a row of the call's own, as a slice of elements of several cells -/
theorem Rds.ownN {w : World} {base : Nat} {e : TypeId} {size n c : Nat} {A : Option Addr} {xs : List Value} (h : w.ownsRow base e size (.slice A n c) n xs) : Rds w A xs := by
  rcases h.2 with ⟨hv, hn⟩ | ⟨g, cap, cur, hv, hb, hh, hn, hm, hs, hx⟩
  · have h1 := h.1
    rw [hn, Nat.zero_mul] at h1
    exact .inl (List.eq_nil_of_length_eq_zero h1)
  · have hA : A = some ⟨g, 0, none⟩ := by injection hv
    subst hA
    have hlt : g < w.heap.size := (h.lt g rfl).2
    refine .inr ⟨g, 0, rfl, hlt, fun j u hu => ?_⟩
    have := h.cells (g := g) rfl j u hu
    rwa [Addr.add_mid] at this

/-! instructions -/
abbrev InsT := Int × Int
def insV (x : InsT) : List Value := [.int .i64 x.1, .int .i64 x.2]
def fitI (x : Int) : Prop := -9223372036854775808 ≤ x ∧ x ≤ 9223372036854775807

/-- a slice of instructions that came in -/
structure IsCode (w : World) (A : Option Addr) (m c : Nat) (l : List InsT) : Prop where
  len : m = l.length
  le : m ≤ c
  max : c ≤ maxLen
  rds : Rds w A (l.flatMap insV)
  fit : ∀ x ∈ l, fitI x.1 ∧ fitI x.2

theorem code_at {w : World} {A : Option Addr} {l : List InsT} {k : Nat} (h : Rds w A (l.flatMap insV)) (hk : k < l.length) :
    ∃ b o, A = some ⟨b, o, none⟩ ∧ b < w.heap.size ∧ w.cell? ⟨b, o + k * 2, none⟩ = some (.int .i64 l[k].1) ∧ w.cell? ⟨b, o + k * 2 + 1, none⟩ = some (.int .i64 l[k].2) := by
  obtain ⟨b, o, hA, hb, hc⟩ := flat_at (n := 2) (fun _ => rfl) (by omega) h hk
  exact ⟨b, o, hA, hb, hc 0 _ rfl, hc 1 _ rfl⟩

theorem IsCode.below {w w' : World} {A : Option Addr} {m c : Nat} {l : List InsT} (h : IsCode w A m c l) (hb : Below w.heap.size w w') : IsCode w' A m c l := ⟨h.len, h.le, h.max, h.rds.below hb, h.fit⟩

/-! constants -/
structure Cst where
  kind : Int
  n : Int
  s : List UInt8
  t : List UInt8
  u : List UInt8
def Cst.vals (c : Cst) : List Value := [.int .i64 c.kind, .int .i64 c.n, .string ⟨c.s.toArray⟩, .string ⟨c.t.toArray⟩, .string ⟨c.u.toArray⟩]

/-- a slice of constants that came in -/
structure IsCsts (w : World) (A : Option Addr) (m c : Nat) (l : List Cst) : Prop where
  len : m = l.length
  le : m ≤ c
  max : c ≤ maxLen
  rds : Rds w A (l.flatMap Cst.vals)
  fit : ∀ x ∈ l, fitI x.kind ∧ fitI x.n

theorem csts_at {w : World} {A : Option Addr} {l : List Cst} {k : Nat} (h : Rds w A (l.flatMap Cst.vals)) (hk : k < l.length) :
    ∃ b o, A = some ⟨b, o, none⟩ ∧ b < w.heap.size ∧ w.cell? ⟨b, o + k * 5, none⟩ = some (.int .i64 l[k].kind) ∧ w.cell? ⟨b, o + k * 5 + 1, none⟩ = some (.int .i64 l[k].n) ∧
      w.cell? ⟨b, o + k * 5 + 2, none⟩ = some (.string ⟨l[k].s.toArray⟩) ∧ w.cell? ⟨b, o + k * 5 + 3, none⟩ = some (.string ⟨l[k].t.toArray⟩) ∧ w.cell? ⟨b, o + k * 5 + 4, none⟩ = some (.string ⟨l[k].u.toArray⟩) := by
  obtain ⟨b, o, hA, hb, hc⟩ := flat_at (n := 5) (fun _ => rfl) (by omega) h hk
  exact ⟨b, o, hA, hb, hc 0 _ rfl, hc 1 _ rfl, hc 2 _ rfl, hc 3 _ rfl, hc 4 _ rfl⟩

theorem IsCsts.below {w w' : World} {A : Option Addr} {m c : Nat} {l : List Cst} (h : IsCsts w A m c l) (hb : Below w.heap.size w w') : IsCsts w' A m c l := ⟨h.len, h.le, h.max, h.rds.below hb, h.fit⟩

theorem drawn {B : Nat} {a w : World} (h : Below B a w) (n : Nat) : Below B a (w.drewN n) := ⟨h.os, h.tape, h.output, h.size, h.block⟩
end Stru
end Go.Proofs.YtehainbhoflpnaaGreatDoor
