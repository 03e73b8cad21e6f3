/- pieces -/
import Derived.Test.YtehainbhoflpnaaGreatDoorK1
import Derived.Laws.BitsAllLaws
import Derived.Laws.Tables
import Derived.Outline
namespace Go.Proofs.YtehainbhoflpnaaGreatDoor
namespace BinCut
open Go.RowKit BinM BinNum Base BinE
theorem V5 : (Tryz.prog.info? 229).map (·.size) = some 10 := by kernel_rfl
theorem up7 (v : Nat) : bits .or .u8 ((v : Int) % 128) 128 = (v : Int) % 128 + 128 := by
 have h := u8_or_nat (v % 128) 128 (by omega) (by omega)
 rw [Nat.or_comm, nat_join 7 128 (v % 128) (by decide) (by have : v % 128 < 128 := Nat.mod_lt _ (by omega)
                                                           omega)] at h
 rw [show (v : Int) % 128 = ((v % 128 : Nat) : Int) by omega, show ((128 : Int)) = ((128 : Nat) : Int) from rfl, h]
 omega
structure Mid (w wr : World) (cs : Array Value) : Prop where
 pieces : wr.heap[w.heap.size + 1]? = some (.cells cs 229 (0, 0))
 result : ∃ rs : Array Value, wr.heap[w.heap.size]? = some (.cells rs 229 (0, 0)) ∧ rs.size = 10
 ten : cs.size = 10
 small : cs.all (·.oneCell') = true
 below : Below w.heap.size w wr
theorem Mid.start (w : World) (a b : Array Value) (ha : a.size = 10) (hb : b.size = 10) (h1 : b.all (·.oneCell') = true) :
 Mid w ((w.alloc (.cells a 229)).alloc (.cells b 229)) b :=
 ⟨heap_alloc2_new _ _ _, ⟨a, heap_alloc2_old _ _ _, ha⟩, hb, h1, ((Below.refl _ _).alloc (Nat.le_refl _) _).alloc (by simp) _⟩
theorem Mid.step {w wr : World} {cs : Array Value} (h : Mid w wr cs) (k : Nat) (u : Value) (hu : u.oneCell' = true) :
 Mid w (wr.setCell ⟨w.heap.size + 1, k, none⟩ u) (cs.setIfInBounds k u) := by
 obtain ⟨h1, ⟨rs, h2, h3⟩, h4, h5, h6⟩ := h
 refine ⟨heap_setCell_same wr _ k cs _ u h1, ⟨rs, ?_, h3⟩, by simpa using h4, ?_, h6.setCell (by simp) u⟩
 · rw [heap_setCell_other _ _ _ _ (by simp)]; exact h2
 · rw [Array.all_eq_true_iff_forall_mem] at h5 ⊢
   intro x hx
   rcases Array.mem_or_eq_of_mem_setIfInBounds hx with h | h
   · exact h5 x h
   · rw [h]; exact hu
theorem Mid.cell {w wr : World} {cs : Array Value} (h : Mid w wr cs) (k : Nat) (hk : k < 10) : ∃ u, wr.cell? ⟨w.heap.size + 1, k, none⟩ = some u := by
 have := h.ten
 exact ⟨cs[k], by rw [cell_of_row wr _ k cs _ _ h.pieces]; exact Array.getElem?_eq_getElem (by omega)⟩
theorem Mid.free {w wr : World} {cs : Array Value} (h : Mid w wr cs) (k : Nat) : wr.frozen? ⟨w.heap.size + 1, k, none⟩ = false := frozen_of_row wr _ k cs _ h.pieces
theorem xP (w : World) (g : Nat) (old cs : Array Value) (t : TypeId) (hg : w.heap[g]? = some (.cells old t (0, 0))) : (w.setRow g cs).heap[g]? = some (.cells cs t (0, 0)) := by
 simp [World.setRow, Array.getElem?_modify, hg]
theorem Mid.finish {w wr : World} {cs : Array Value} (h : Mid w wr cs) :
 (loadVar 229 ⟨w.heap.size, 0, none⟩).run Tryz.prog (wr.setRow w.heap.size cs) = .ok (.agg cs) (wr.setRow w.heap.size cs) ∧ Below w.heap.size w (wr.setRow w.heap.size cs) := by
 obtain ⟨h1, ⟨rs, h2, h3⟩, h4, h5, h6⟩ := h
 refine ⟨run_loadVar_row _ _ _ _ cs (0, 0) _ (xP wr _ rs cs _ h2) Tryz.underlying229 rfl (by rw [V5, h4]), ?_⟩
 refine h6.trans ⟨rfl, rfl, rfl, by simp, fun k hk => ?_⟩
 simp only [World.setRow, Array.getElem?_modify]
 rw [if_neg (by omega)]
theorem results_cell_tmp {P : Program} {fn : Func} {p t : Tmp} {ty : TypeId} (h : fn.results = #[.cell p ty, .tmp t]) (tmps : Array Value) (w : World) (a : Addr) (x : Value)
 (hp : tmps.getD p undef = .pointer (some a)) (hl : (loadVar ty a).run P w = .ok x w) : (results fn tmps).run P w = .ok (.tuple #[x, tmps.getD t undef]) w := by
 have hp' : tmps[p]?.getD undef = .pointer (some a) := by simpa using hp
 simp [results, h, hp', asAddr, hl]
def Uw (n : Int) (k v : Nat) (cs : Array Value) : Prop := zW (num n) = cs.toList.take k ++ zW (Jr (9 - k) v) ∧ v < 2 ^ (64 - 7 * k)
theorem Uw.start (n : Int) (h0 : -9223372036854775808 ≤ n) (h1 : n ≤ 9223372036854775807) (cs : Array Value) : Uw n 0 (foldI n).toNat cs := by
 have := YU h0 h1
 refine ⟨by simp [num, enc], ?_⟩
 have e : (2 : Nat) ^ (64 - 7 * 0) = 18446744073709551616 := by decide
 rw [e]; omega
theorem take_set (cs : Array Value) (k : Nat) (u : Value) (hk : k < cs.size) : (cs.setIfInBounds k u).toList.take (k + 1) = cs.toList.take k ++ [u] := by
 rw [Array.toList_setIfInBounds, List.take_succ_eq_append_getElem (by simpa using hk), List.take_set, List.set_eq_of_length_le (by simp; omega)]
 simp
theorem Uw.more {n : Int} {k v : Nat} {cs : Array Value} (h : Uw n k v cs) (hk : k ≤ 9) (hv : 128 ≤ v) : k ≤ 8 := by
 have h2 := h.2
 rcases (by omega : k ≤ 8 ∨ k = 9) with h | h
 · exact h
 · subst h
   have e : (2 : Nat) ^ (64 - 7 * 9) = 2 := by decide
   rw [e] at h2; omega
theorem Uw.step {n : Int} {k v : Nat} {cs : Array Value} (h : Uw n k v cs) (hk : k ≤ 8) (hv : 128 ≤ v) (hs : cs.size = 10) :
 Uw n (k + 1) (v / 128) (cs.setIfInBounds k (.int .u8 ((v : Int) % 128 + 128))) := by
 obtain ⟨h1, h2⟩ := h
 refine ⟨?_, ?_⟩
 · rw [h1, take_set _ _ _ (by omega)]
   obtain ⟨f, hf⟩ : ∃ f, 9 - k = f + 1 := ⟨8 - k, by omega⟩
   have hf' : 9 - (k + 1) = f := by omega
   rw [hf, hf']
   conv => lhs; unfold Jr
   rw [if_neg (by omega)]
   simp only [zW, List.map_cons, List.append_assoc, List.singleton_append, gD]
   rw [toNat_ofNat _ (by omega), show ((v % 128 + 128 : Nat) : Int) = (v : Int) % 128 + 128 by omega]
 · have e : 64 - 7 * k = (64 - 7 * (k + 1)) + 7 := by omega
   rw [e, Nat.pow_add] at h2
   exact Nat.div_lt_of_lt_mul (by rw [Nat.mul_comm]; exact h2)
theorem Uw.last {n : Int} {k v : Nat} {cs : Array Value} (h : Uw n k v cs) (hk : k ≤ 9) (hv : v < 128) (hs : cs.size = 10) :
 (num n).length = k + 1 ∧ (cs.setIfInBounds k (.int .u8 (v : Int))).toList.take (k + 1) = zW (num n) := by
 have e : Jr (9 - k) v = [UInt8.ofNat v] := by
  cases hf : 9 - k with
  | zero => rfl
  | succ f => unfold Jr; rw [if_pos hv]
 have h1 := h.1
 rw [e] at h1
 have h3 : zW [UInt8.ofNat v] = [.int .u8 (v : Int)] := by simp only [zW, List.map_cons, List.map_nil, gD]; rw [toNat_ofNat _ (by omega)]
 rw [h3] at h1
 refine ⟨?_, by rw [take_set _ _ _ (by omega), h1]⟩
 have := congrArg List.length h1
 rw [qK] at this
 simp at this; omega
set_option maxRecDepth 100000 in
set_option maxHeartbeats 1000000 in
theorem VD (n : Int) (w : World) (h0 : -9223372036854775808 ≤ n) (h1 : n ≤ 9223372036854775807) :
 Calls Tryz.prog 168 #[.int .i64 n] w fun e w' => ∃ cs : Array Value, e = .returned (.tuple #[.agg cs, .int .i64 ((num n).length : Int)]) ∧ cs.size = 10 ∧ cs.all (·.oneCell') = true ∧ cs.toList.take (num n).length = zW (num n) ∧ Below w.heap.size w w' := by
 have hf0 := KI n
 have hf1 := YU h0 h1
 have hst := Uw.start n h0 h1
 have Hst := zH hst
 clear hst
 go_enter Tryz.func168, Tryz.ntmps168
 go_wp2_with (go_at_call 199; refine (zt1 _ _ (by omega) (by omega)).mono ?_; rintro e w' ⟨rfl, rfl⟩)
 go_loopw [5, 6] (fun u i wr => ∃ (k v : Nat) (cs : Array Value), k ≤ 9 ∧ i = .int .i64 k ∧ u = .int .u64 v ∧ Uw n k v cs ∧ Mid w wr cs) (fun _ i _ => 10 - (intOf i).toNat)
 case atStart =>
  have e : (((foldI n).toNat : Nat) : Int) = foldI n := by omega
  exact ⟨0, (foldI n).toNat, _, by omega, rfl, by rw [e], Hst.out _, Mid.start w _ _ rfl rfl (by simp [Value.oneCell'])⟩
 case round =>
  obtain ⟨k, v, cs, hk, rfl, rfl, hcome, hmid⟩ := hrel
  have hten := hmid.ten
  obtain ⟨u0, hcell⟩ := hmid.cell k (by omega)
  have hfree := hmid.free k
  have hvb : (v : Int) ≤ 18446744073709551615 := by
   have h2 := hcome.2
   have : (2 : Nat) ^ (64 - 7 * k) ≤ 2 ^ 64 := Nat.pow_le_pow_right (by omega) (by omega)
   omega
  by_cases hv : 128 ≤ v
  · have hk8 := hcome.more hk hv
    have hup := up7 v
    have hstep := hcome.step hk8 hv hten
    have hmid2 := hmid.step k (.int .u8 ((v : Int) % 128 + 128)) rfl
    have Hstep := zH hstep
    have Hmid2 := zH hmid2
    have Hten := zH hten
    clear hstep hmid2 hcome hmid hten
    go_wp2_with fail
    go_roundw
    case rel => exact ⟨k + 1, v / 128, _, by omega, by go_num, by go_num, Hstep.out, Hmid2.out⟩
    case measure => simp [intOf]; omega
  · have hlt : v < 128 := by omega
    have hlast := hcome.last hk hlt hten
    have hmid2 := hmid.step k (.int .u8 (v : Int)) rfl
    have Hlast := zH hlast
    have Hmid2 := zH hmid2
    have Hten := zH hten
    have hfin := hmid2.finish
    have Hfin := zH hfin
    clear hlast hmid2 hcome hmid hten hfin
    obtain ⟨rs, hrs, hrs10⟩ := Hmid2.out.result
    have Hrs := zH hrs
    have Hrs10 := zH hrs10
    clear hrs hrs10
    go_wp2_with (first | (refine wpList_load_row rfl 229 (.tmp 4) rfl (w.heap.size + 1) rfl 229 (cs.setIfInBounds k (.int .u8 (v : Int))) (0, 0) _ Hmid2.out.pieces Tryz.underlying229 rfl (by rw [V5, Hmid2.out.ten]) ?_) | (refine wpList_store_row rfl 229 (.tmp 2) (.tmp 25) rfl w.heap.size (cs.setIfInBounds k (.int .u8 (v : Int))) rfl rfl 229 rs Hrs.out (by rw [V5, Hmid2.out.ten]) (by rw [Hrs10.out, Hmid2.out.ten]) Hmid2.out.small ?_))
    refine bodyPost_ret (v := .tuple #[.agg (cs.setIfInBounds k (.int .u8 (v : Int))), .int .i64 ((k : Int) + 1)]) (results_cell_tmp Tryz.results168 _ _ _ _ rfl Hfin.out.1) rfl ⟨_, ?_, Hmid2.out.ten, Hmid2.out.small, ?_, Hfin.out.2⟩
    · rw [Hlast.out.1]; rfl
    · rw [Hlast.out.1]; exact Hlast.out.2
end BinCut
namespace BinPut
open Go.RowKit BinM BinNum Base BinE BinCut
theorem ze2 : (Tryz.prog.info? 5).map (fun i => (i.zero, i.size, i.bytes)) = some (some (.int .u8 0), 1, 1) := by kernel_rfl
def Xe (w : World) (l : List UInt8) (e : Ending) (w' : World) : Prop :=
 ∃ v, e = .returned v ∧ w'.ownsRow w.heap.size 5 1 v l.length (zW l) ∧ Below w.heap.size w w'
theorem YD (W : World) (g k : Nat) (hk : k ≤ 10) :
 (Instr.sliceAt 229 (.pointer (some ⟨g, 0, none⟩)) none (some (.int .i64 (k : Int))) none).run Tryz.prog W = .ok (.slice (some ⟨g, 0, none⟩) k 10) W := by
 have e : Tryz.prog.arrayLen 229 = 10 := by kernel_rfl
 rw [run_sliceAt_array_h W 229 ⟨g, 0, none⟩ (by kernel_rfl) .i64 (k : Int) (by omega) (by rw [e]; omega)]
 have hsz : (sizeOf (Tryz.prog.elem 229)).run Tryz.prog W = .ok 1 W := by kernel_rfl
 rw [hsz, e]
 simp [Result.andThen, slicedAt, Addr.add]
set_option maxRecDepth 100000 in
set_option maxHeartbeats 1000000 in
theorem Vm (A : Option Addr) (l : List UInt8) (m cap : Nat) (n : Int) (w : World) (hm : m = l.length) (hlen : m ≤ 140737489403894) (h0 : -9223372036854775808 ≤ n) (h1 : n ≤ 9223372036854775807) (hr : Rds w A (zW l)) :
 Calls Tryz.prog 131 #[.slice A m cap, .int .i64 n] w (Xe w (l ++ num n)) := by
 have hk := (qF h0 h1).2.2
 have hk1 := Za1 h0 h1
 have Hm := zH hm
 clear hm
 obtain ⟨i0, hi, hz, hs1, hb1⟩ := info_parts ze2
 have Hi := zH hi
 have Hz := zH hz
 have Hs1 := zH hs1
 have Hb1 := zH hb1
 clear hi hz hs1 hb1
 go_enter Tryz.func131, Tryz.ntmps131
 go_wp2_with (first
  | (go_at_call 168; refine (VD _ _ h0 h1).mono ?_; rintro e w1 ⟨cs, rfl, hcs10, hcs1, hcst, hb1⟩; generalize hkk : (num n).length = k at *; have Hkk := zH hkk; have Hcs10 := zH hcs10; have Hcs1 := zH hcs1; have Hcst := zH hcst; have Hb1' := zH hb1; clear hkk hcs10 hcs1 hcst hb1)
  | (refine wpList_store_row rfl 229 (.tmp 5) (.tmp 11) rfl w1.heap.size cs rfl rfl 229 _ (heap_alloc_last w1 _) (by rw [V5, Hcs10.out]) (by rw [Hcs10.out]; rfl) Hcs1.out ?_; rw [World.setRow_alloc_new])
  | (at_make
     refine wpList_make_own _ rfl (.const (.int .i64 0)) (.tmp 16) 151 rfl (w1.heap.size + 1) 5 i0 _ 1 Tryz.underlying151 Hi.out Hz.out Hs1.out .i64 .i64 _ (m + k) rfl rfl (by omega) (by rw [Hb1.out]; omega) (by unfold maxLen; omega) (by simp) ?_
     intro w2 hown2 hg2
     simp only [World.size_alloc] at hown2
     have hb2 : Below w.heap.size w w2 := ((Hb1'.out).alloc (Hb1'.out.size) (.cells cs 229)).grown hg2 (by have := Hb1'.out.size; simp; omega) (by intro k hk; cases hk)
     have hz2 : w1.heap.size + 1 ≤ w2.heap.size := by have := hg2.size; simpa using this
     have hp2 : w2.heap[w1.heap.size]? = some (.cells cs 229 (0, 0)) := by rw [hg2.block w1.heap.size (by simp) (by simp)]; exact heap_alloc_last w1 _
     have Hown2 := zH hown2
     have Hb2 := zH hb2
     have Hp2 := zH hp2
     clear hown2 hg2 hb2 hp2)
  | (at_builtin
     refine Zk rfl (.tmp 21) (.tmp 23) 151 rfl (w1.heap.size + 1) 5 i0 _ 1 Tryz.underlying151 Hi.out Hz.out Hs1.out Hb1.out rfl v3 (0 + m) ([] ++ zW l) rfl Hown3.out (some ⟨w1.heap.size, 0, none⟩) k 10 (zW (num n)) rfl (by rw [qK, Hkk.out]) hrds (JL _) (by unfold maxLen; omega) (by omega) hz3 ?_
     intro v4 w4 hown4 hg4
     have hb4 : Below w.heap.size w w4 := zV Hb3.out Hown3.out (by have := Hb1'.out.size; omega) Hb3.out.size hg4
     have Hown4 := zH hown4
     have Hb4 := zH hb4
     clear hown4 hg4 hb4)
  | (at_builtin
     refine Zk rfl (.tmp 18) (.tmp 19) 151 rfl (w1.heap.size + 1) 5 i0 _ 1 Tryz.underlying151 Hi.out Hz.out Hs1.out Hb1.out rfl (.slice (some ⟨w1.heap.size + 1, 0, none⟩) 0 (m + k)) 0 [] rfl Hown2.out A m cap (zW l) rfl (by rw [qK, Hm.out]) (hr.below Hb2.out) (JL l) (by unfold maxLen; omega) (by omega) hz2 ?_
     intro v3 w3 hown3 hg3
     have hb3 : Below w.heap.size w w3 := zV Hb2.out Hown2.out (by have := Hb1'.out.size; omega) Hb2.out.size hg3
     have hp3 : w3.heap[w1.heap.size]? = some (.cells cs 229 (0, 0)) := by
      rw [hg3.block w1.heap.size (by omega) (by simp [Value.ownBlock])]; exact Hp2.out
     have hz3 : w1.heap.size + 1 ≤ w3.heap.size := Nat.le_trans hz2 hg3.size
     have Hown3 := zH hown3
     have Hb3 := zH hb3
     have Hp3 := zH hp3
     clear hown3 hg3 hb3 hp3
     have hrds : Rds w3 (some ⟨w1.heap.size, 0, none⟩) (zW (num n)) := by
      refine .inr ⟨w1.heap.size, 0, rfl, by omega, fun j u hu => ?_⟩
      rw [cell_of_row w3 _ (0 + j) cs _ _ Hp3.out, Nat.zero_add]
      rw [← Hcst.out, List.getElem?_take] at hu
      by_cases hj : j < k
      · rw [if_pos hj] at hu; simpa using hu
      · rw [if_neg hj] at hu; cases hu
     have hsl := fun W => YD W w1.heap.size k hk))
 go_ret
 refine ⟨v4, rfl, Z6 ?_ (by have := Hb1'.out.size; omega : w.heap.size ≤ w1.heap.size + 1), Hb4.out⟩
 have hl : (l ++ num n).length = 0 + m + k := by rw [List.length_append, Hkk.out, Hm.out]; omega
 rw [hl, Qc]
 exact Hown4.out
end BinPut
namespace RefPut
open Go.RowKit BinM BinNum Base BinE BinPut
def Jy (n : Int) (k v : Nat) (p : List UInt8) : Prop := num n = p ++ Jr (9 - k) v ∧ p.length = k ∧ v < 2 ^ (64 - 7 * k)
theorem Jy.start (n : Int) (h0 : -9223372036854775808 ≤ n) (h1 : n ≤ 9223372036854775807) : Jy n 0 (foldI n).toNat [] := by
 have := YU h0 h1
 refine ⟨by simp [num, enc], rfl, ?_⟩
 have e : (2 : Nat) ^ (64 - 7 * 0) = 18446744073709551616 := by decide
 rw [e]; omega
theorem Jy.more {n : Int} {k v : Nat} {p : List UInt8} (h : Jy n k v p) (hk : k ≤ 9) (hv : 128 ≤ v) : k ≤ 8 := by
 have h2 := h.2.2
 rcases (by omega : k ≤ 8 ∨ k = 9) with h | h
 · exact h
 · subst h
   have e : (2 : Nat) ^ (64 - 7 * 9) = 2 := by decide
   rw [e] at h2; omega
theorem Jy.step {n : Int} {k v : Nat} {p : List UInt8} (h : Jy n k v p) (hk : k ≤ 8) (hv : 128 ≤ v) : Jy n (k + 1) (v / 128) (p ++ [UInt8.ofNat (v % 128 + 128)]) := by
 obtain ⟨h1, h2, h3⟩ := h
 refine ⟨?_, by simp [h2], ?_⟩
 · obtain ⟨f, hf⟩ : ∃ f, 9 - k = f + 1 := ⟨8 - k, by omega⟩
   have hf' : 9 - (k + 1) = f := by omega
   rw [h1, hf, hf']
   conv => lhs; unfold Jr
   rw [if_neg (by omega)]
   simp
 · have e : 64 - 7 * k = (64 - 7 * (k + 1)) + 7 := by omega
   rw [e, Nat.pow_add] at h3
   exact Nat.div_lt_of_lt_mul (by rw [Nat.mul_comm]; exact h3)
theorem Jy.last {n : Int} {k v : Nat} {p : List UInt8} (h : Jy n k v p) (hv : v < 128) : num n = p ++ [UInt8.ofNat v] := by
 have e : Jr (9 - k) v = [UInt8.ofNat v] := by
  cases hf : 9 - k with
  | zero => rfl
  | succ f => unfold Jr; rw [if_pos hv]
 rw [h.1, e]
theorem Jy.big {n : Int} {k v : Nat} {p : List UInt8} (h : Jy n k v p) : (v : Int) ≤ 18446744073709551615 := by
 have h2 := h.2.2
 have : (2 : Nat) ^ (64 - 7 * k) ≤ 2 ^ 64 := Nat.pow_le_pow_right (by omega) (by omega)
 omega
theorem Zo4 (x : Nat) (h : x < 256) : [Value.int .u8 (x : Int)] = zW [UInt8.ofNat x] := by
 simp only [zW, List.map_cons, List.map_nil, gD]; rw [toNat_ofNat _ h]
theorem Vl (w : World) (x : Value) (t : TypeId) : Rds (w.alloc (.cells #[x] t)) (some ⟨w.heap.size, 0, none⟩) [x] := by
 refine .inr ⟨w.heap.size, 0, rfl, by simp, fun j u hu => ?_⟩
 match j, hu with
 | 0, hu =>
   simp at hu
   subst hu
   simp
def Rel (w : World) (l : List UInt8) (n : Int) (o u : Value) (wr : World) : Prop :=
 ∃ (k v : Nat) (p : List UInt8), k ≤ 9 ∧ u = .int .u64 v ∧ Jy n k v p ∧ wr.ownsRow w.heap.size 5 1 o (l.length + k) (zW (l ++ p)) ∧ Below w.heap.size w wr
set_option maxRecDepth 100000 in
set_option maxHeartbeats 1000000 in
theorem QJ (A : Option Addr) (l : List UInt8) (m cap : Nat) (n : Int) (w : World) (hm : m = l.length) (hlen : m ≤ 140737489403894) (h0 : -9223372036854775808 ≤ n) (h1 : n ≤ 9223372036854775807) (hr : Rds w A (zW l)) :
 Calls Tryz.prog 160 #[.slice A m cap, .int .i64 n] w (Xe w (l ++ num n)) := by
 have hf0 := KI n
 have hf1 := YU h0 h1
 have Hst := zH (Jy.start n h0 h1)
 have Hm := zH hm
 clear hm
 obtain ⟨i0, hi, hz, hs1, hb1⟩ := info_parts ze2
 have Hi := zH hi
 have Hz := zH hz
 have Hs1 := zH hs1
 have Hb1 := zH hb1
 clear hi hz hs1 hb1
 have Hf : Hid (foldI n = if n < 0 then -2 * n - 1 else 2 * n) := rfl
 by_cases hneg : n < 0
 all_goals
  go_enter Tryz.func160, Tryz.ntmps160
  go_wp2_with (at_builtin
               refine Zk rfl (.tmp 7) (.tmp 8) 151 rfl w.heap.size 5 i0 _ 1 Tryz.underlying151 Hi.out Hz.out Hs1.out Hb1.out rfl (.slice none 0 0) 0 [] rfl (World.ownsRow_nil _ _ _ _) A m cap (zW l) rfl (by rw [qK, Hm.out]) hr (JL l) (by unfold maxLen; omega) (by omega) (Nat.le_refl _) ?_
               intro v1 w1 hown1 hg1
               have hb1 : Below w.heap.size w w1 := zV (Below.refl _ _) (World.ownsRow_nil w w.heap.size 5 1) (Nat.le_refl _) (Nat.le_refl _) hg1
               have Hown1 := zH hown1
               have Hb1' := zH hb1
               clear hown1 hg1 hb1)
  go_loopw [5, 6] (fun o u wr => Rel w l n o u wr) (fun _ u _ => (intOf u).toNat)
  case atStart =>
   have hf := Hf.out
   first | rw [if_pos hneg] at hf | rw [if_neg (by omega)] at hf
   refine ⟨0, (foldI n).toNat, [], by omega, ?_, Hst.out, by simpa [Hm.out] using Hown1.out, Hb1'.out⟩
   congr 1
   omega
  case round =>
   obtain ⟨k, v, p, hk, rfl, hc, hown, hbel⟩ := hrel
   have hvb := hc.big
   have Hown := zH hown
   have hsz := hbel.size
   have Hbel := zH hbel
   have hml : l.length ≤ m := Nat.le_of_eq Hm.out.symm
   by_cases hv : 128 ≤ v
   · have hk8 := hc.more hk hv
     have Hstep := zH (hc.step hk8 hv)
     clear hc hown hbel
     go_wp2_with (at_builtin
                  refine Zk rfl (.tmp 23) (.tmp 28) 151 rfl w.heap.size 5 i0 _ 1 Tryz.underlying151 Hi.out Hz.out Hs1.out Hb1.out rfl _ (l.length + k) (zW (l ++ p)) rfl (Hown.out.alloc _) (some ⟨wr.heap.size, 0, none⟩) 1 1 [.int .u8 ((v : Int) % 128 + 128)] rfl rfl (Vl _ _ _) (by simp [Value.oneCell']) (by unfold maxLen; omega) (by omega) (by simp; omega) ?_
                  intro v2 w2 hown2 hg2
                  have hb2 : Below w.heap.size w w2 := zV (Hbel.out.alloc hsz _) (Hown.out.alloc _) (Nat.le_refl _) (by simp; omega) hg2
                  have Hown2 := zH hown2
                  have Hb2 := zH hb2
                  clear hown2 hg2 hb2)
     go_roundw
     case rel =>
      refine ⟨k + 1, v / 128, p ++ [UInt8.ofNat (v % 128 + 128)], by omega, by go_num, Hstep.out, ?_, Hb2.out⟩
      have h := Hown2.out
      have e : (v : Int) % 128 + 128 = ((v % 128 + 128 : Nat) : Int) := by omega
      rw [e, Zo4 _ (by omega), ← Qc, List.append_assoc] at h
      exact h
     case measure => simp [intOf]; omega
   · have Hlast := zH (hc.last (by omega))
     have hlen2 := zH hc.2.1
     clear hc hown hbel
     have hlt : v < 128 := by omega
     go_wp2_with (at_builtin
                  refine Zk rfl (.tmp 32) (.tmp 35) 151 rfl w.heap.size 5 i0 _ 1 Tryz.underlying151 Hi.out Hz.out Hs1.out Hb1.out rfl _ (l.length + k) (zW (l ++ p)) rfl (Hown.out.alloc _) (some ⟨wr.heap.size, 0, none⟩) 1 1 [.int .u8 (v : Int)] rfl rfl (Vl _ _ _) (by simp [Value.oneCell']) (by unfold maxLen; omega) (by omega) (by simp; omega) ?_
                  intro v2 w2 hown2 hg2
                  have hb2 : Below w.heap.size w w2 := zV (Hbel.out.alloc hsz _) (Hown.out.alloc _) (Nat.le_refl _) (by simp; omega) hg2
                  have Hown2 := zH hown2
                  have Hb2 := zH hb2
                  clear hown2 hg2 hb2)
     go_ret
     refine ⟨v2, rfl, ?_, Hb2.out⟩
     have h := Hown2.out
     rw [Zo4 _ (by omega), ← Qc, List.append_assoc] at h
     have e : (l ++ num n).length = l.length + k + 1 := by rw [Hlast.out]; simp [hlen2.out, Nat.add_assoc]
     rw [e, Hlast.out]
     exact h
end RefPut
namespace BinGet
open Go.RowKit BinM BinNum Base BinE
end BinGet
namespace Bin8
open Go.RowKit BinM BinNum Base BinE BinPut BinGet
def qD (w : World) (base : Nat) (v : Value) (p : List UInt8) : Prop := w.ownsRow base 5 1 v p.length (zW p)
theorem qD.nil (w : World) (base : Nat) : qD w base (.slice none 0 0) [] := World.ownsRow_nil _ _ _ _
theorem Zq0 {ops : Array Oper} {rest : List Oper} {o : Oper} {a : Act} {w : World} {Q : Exit → Act → World → Prop} (hgd : o.guard = none) (s x : Operand)
 (ho : o.op = .call { callee := .builtin .append, args := #[s, x], argTypes := #[151, 151] })
 (base : Nat) (v : Value) (p : List UInt8) (hs : a.eval s = v) (hown : qD w base v p) (A : Option Addr) (m c : Nat) (l : List UInt8) (hx : a.eval x = .slice A m c)
 (hm : m = l.length) (hr : Rds w A (zW l)) (hlen : p.length + l.length ≤ 140737489403904) (hbase : base ≤ w.heap.size)
 (h : ∀ v' w', qD w' base v' (p ++ l) → w.grownBy w' v.ownBlock → wpList Tryz.prog ops Q rest (a.put o.dst v') w') : wpList Tryz.prog ops Q (o :: rest) a w := by
 obtain ⟨i0, hi, hz, hs1, hb1⟩ := info_parts ze2
 refine Zk hgd s x 151 ho base 5 i0 _ 1 Tryz.underlying151 hi hz hs1 hb1 rfl v p.length (zW p) hs hown A m c (zW l) hx (by rw [qK, hm]) hr (JL l) (by unfold maxLen; omega) (by omega) hbase ?_
 intro v' w' h1 h2
 refine h v' w' ?_ h2
 unfold qD
 rw [Qc, List.length_append, ← hm]
 exact h1
theorem Zi2 {ops : Array Oper} {rest : List Oper} {o : Oper} {a : Act} {w : World} {Q : Exit → Act → World → Prop} (hgd : o.guard = none) (s x : Operand)
 (ho : o.op = .call { callee := .builtin .append, args := #[s, x], argTypes := #[151, 9] })
 (base : Nat) (v : Value) (p : List UInt8) (hs : a.eval s = v) (hown : qD w base v p) (t : ByteArray) (hx : a.eval x = .string t)
 (hlen : p.length + t.size ≤ 140737488355328) (hbase : base ≤ w.heap.size)
 (h : ∀ v' w', qD w' base v' (p ++ t.data.toList) → w.grownBy w' v.ownBlock → wpList Tryz.prog ops Q rest (a.put o.dst v') w') : wpList Tryz.prog ops Q (o :: rest) a w := by
 obtain ⟨i0, hi, hz, hs1, hb1⟩ := info_parts ze2
 refine Lib.wpList_append_own_string w hgd s x 151 9 ho base 5 i0 Tryz.underlying151 Tryz.underlying9 hi hz hs1 hb1 v p.length (zW p) hs hown t hx (by unfold maxLen; omega) hlen hbase ?_
 intro v' w' h1 h2 _
 refine h v' w' ?_ h2
 unfold qD
 have e : (p ++ t.data.toList).length = p.length + t.size := by simp
 rw [Qc, e]
 exact h1
theorem qD.slice {w : World} {base : Nat} {v : Value} {p : List UInt8} (h : qD w base v p) :
 ∃ A c, v = .slice A p.length c ∧ p.length ≤ c ∧ c ≤ maxLen ∧ Rds w A (zW p) ∧ ∀ a, A = some a → base ≤ a.block ∧ a.block < w.heap.size := by
 obtain ⟨A, c, rfl, h1, h2, h3, _⟩ := zS h
 exact ⟨A, c, rfl, h1, h2, Rds.own h, fun a ha => ⟨(h3 a ha).1, (h3 a ha).2.1⟩⟩
theorem own_below {w : World} {base : Nat} {v : Value} {p : List UInt8} (h : qD w base v p) {B : Nat} {w0 w' : World} (hb : Below B w0 w) (hB : B ≤ base) (hs : B ≤ w.heap.size) (hg : w.grownBy w' v.ownBlock) : Below B w0 w' :=
 zV hb h hB hs hg
theorem Zw3 {w w' : World} {base : Nat} {v : Value} {p : List UInt8} (h : qD w base v p) (hb : Below w.heap.size w w') : qD w' base v p := by
 obtain ⟨h1, h2⟩ := h
 refine ⟨h1, ?_⟩
 rcases h2 with h2 | ⟨g, cap, cur, a, b, c, d⟩
 · exact .inl h2
 · have hlt : g < w.heap.size := by
    rcases Nat.lt_or_ge g w.heap.size with hl | hl
    · exact hl
    · rw [Array.getElem?_eq_none hl] at c; cases c
   exact .inr ⟨g, cap, cur, a, b, by rw [hb.block g hlt]; exact c, d⟩
end Bin8
namespace Stru
open Go.RowKit Base
theorem flat_get {α : Type} (f : α → List Value) (n : Nat) (hn : ∀ x, (f x).length = n) : ∀ (l : List α) (k j : Nat) (hk : k < l.length), j < n → (l.flatMap f)[k * n + j]? = (f l[k])[j]?
 | [], _, _, h, _ => by simp at h
 | x :: t, 0, j, _, hj => by
   simp only [List.flatMap_cons, List.getElem_cons_zero, Nat.zero_mul, Nat.zero_add]
   rw [List.getElem?_append_left (by rw [hn]; exact hj)]
 | x :: t, k + 1, j, h, hj => by
   simp only [List.flatMap_cons, List.getElem_cons_succ]
   rw [List.getElem?_append_right (by rw [hn, Nat.add_mul]; omega), hn]
   have e : (k + 1) * n + j - n = k * n + j := by rw [Nat.add_mul]; omega
   rw [e]
   exact flat_get f n hn t k j (by simpa using h) hj
theorem Z7 {α : Type} (f : α → List Value) (n : Nat) (hn : ∀ x, (f x).length = n) (l : List α) : (l.flatMap f).length = l.length * n := by
 induction l with
 | nil => simp
 | cons x t ih => simp [ih, hn, Nat.add_mul, Nat.add_comm]
theorem QU {α : Type} {w : World} {A : Option Addr} {f : α → List Value} {n : Nat} (hn : ∀ x, (f x).length = n) (h0 : 0 < n) {l : List α} {k : Nat} (h : Rds w A (l.flatMap f)) (hk : k < l.length) :
 ∃ b o, A = some ⟨b, o, none⟩ ∧ b < w.heap.size ∧ ∀ j u, (f l[k])[j]? = some u → w.cell? ⟨b, o + (k * n + j), none⟩ = some u := by
 rcases h with h | ⟨b, o, hA, hb, hc⟩
 · have := Z7 f n hn l
   rw [h] at this
   have h2 : 0 < l.length * n := Nat.mul_pos (by omega) h0
   simp only [List.length_nil] at this
   omega
 · refine ⟨b, o, hA, hb, fun j u hu => hc _ u ?_⟩
   have hj : j < n := by
    have := (List.getElem?_eq_some_iff.1 hu).1
    rw [hn] at this; exact this
   rw [flat_get f n hn l k j hk hj, hu]
section
variable {P : Program} {w : World}
theorem Xp (base : Nat) (t ty e : TypeId) (i : TypeInfo) (z : Value) (size bytes : Nat) (ht : P.underlying t = some (.slice e)) (hi : P.info? e = some i) (hz : i.zero = some z)
 (hsize : i.size = size) (hby : i.bytes = bytes) (hzs : z.cells.size = size) (h0 : 0 < size)
 {v : Value} {n : Nat} {xs : List Value} (hown : w.ownsRow base e size v n xs) {A : Option Addr} {m c : Nat} {news : List Value} (hm : news.length = m * size) (hr : Rds w A news) (h1 : ∀ u ∈ news, u.oneCell' = true)
 (h63 : n + m ≤ maxLen) (hbytes : (n + m) * bytes ≤ 140737488355328) (hbase : base ≤ w.heap.size) :
 ∃ v' w', (Builtin.append_ #[t, t] ty #[v, .slice A m c]).run P w = .ok v' w' ∧ w'.ownsRow base e size v' (n + m) (xs ++ news) ∧ w.grownBy w' v.ownBlock := by
 cases A with
 | none =>
   have hnil : news = [] := by
    rcases hr with h | ⟨b, o, h, _⟩
    · exact h
    · cases h
   subst hnil
   have hm0 : m = 0 := by
    rcases Nat.eq_zero_or_pos m with h | h
    · exact h
    · have := Nat.mul_pos h h0
      simp only [List.length_nil] at hm
      omega
   subst hm0
   exact ⟨v, w, run_append_nothing base t ty e i size ht hi hown c, by simpa using hown, World.grownBy.refl w _⟩
 | some ad =>
   have hcells : ∀ j u, news[j]? = some u → w.cell? (ad.add j) = some u := by
    intro j u hu
    rcases hr with h | ⟨b, o, h, _, hc⟩
    · rw [h] at hu; simp at hu
    · injection h with h
      rw [h, Addr.add_mid]
      exact hc j u hu
   obtain ⟨v', w', hrun, h2, h3, _⟩ := run_append_own (P := P) w base t ty e i z size bytes ht hi hz hsize hby hzs h0 v n xs hown ad m c news hm hcells h1 h63 hbytes hbase
   exact ⟨v', w', hrun, h2, h3⟩
theorem XL {o : Oper} {a : Act} {K : Act → World → Prop} {Q : Exit → Act → World → Prop} (s x : Operand) (t : TypeId)
 (ho : o.op = .call { callee := .builtin .append, args := #[s, x], argTypes := #[t, t] })
 (base : Nat) (e : TypeId) (i : TypeInfo) (z : Value) (size bytes : Nat) (ht : P.underlying t = some (.slice e)) (hi : P.info? e = some i) (hz : i.zero = some z)
 (hsize : i.size = size) (hby : i.bytes = bytes) (hzs : z.cells.size = size) (h0 : 0 < size)
 (v : Value) (n : Nat) (xs : List Value) (hs : a.eval s = v) (hown : w.ownsRow base e size v n xs) (A : Option Addr) (m c : Nat) (news : List Value) (hx : a.eval x = .slice A m c)
 (hm : news.length = m * size) (hr : Rds w A news) (h1 : ∀ u ∈ news, u.oneCell' = true)
 (h63 : n + m ≤ maxLen) (hbytes : (n + m) * bytes ≤ 140737488355328) (hbase : base ≤ w.heap.size)
 (h : ∀ v' w', w'.ownsRow base e size v' (n + m) (xs ++ news) → w.grownBy w' v.ownBlock → K (a.put o.dst v') w') : o.wp P a w K Q := by
 obtain ⟨v', w', hrun, h2, h3⟩ := Xp (P := P) base t o.type e i z size bytes ht hi hz hsize hby hzs h0 hown (c := c) hm hr h1 h63 hbytes hbase
 unfold Oper.wp execOp
 simp only [ho, resolve, invoke, builtin, Sem.run_bind, Sem.run_pure, Result.andThen_ok, List.map_toArray, List.map_cons, List.map_nil, hs, hx, hrun]
 exact h v' w' h2 h3
theorem zZ {ops : Array Oper} {rest : List Oper} {o : Oper} {a : Act} {Q : Exit → Act → World → Prop} (hgd : o.guard = none) (s x : Operand) (t : TypeId)
 (ho : o.op = .call { callee := .builtin .append, args := #[s, x], argTypes := #[t, t] })
 (base : Nat) (e : TypeId) (i : TypeInfo) (z : Value) (size bytes : Nat) (ht : P.underlying t = some (.slice e)) (hi : P.info? e = some i) (hz : i.zero = some z)
 (hsize : i.size = size) (hby : i.bytes = bytes) (hzs : z.cells.size = size) (h0 : 0 < size)
 (v : Value) (n : Nat) (xs : List Value) (hs : a.eval s = v) (hown : w.ownsRow base e size v n xs) (A : Option Addr) (m c : Nat) (news : List Value) (hx : a.eval x = .slice A m c)
 (hm : news.length = m * size) (hr : Rds w A news) (h1 : ∀ u ∈ news, u.oneCell' = true)
 (h63 : n + m ≤ maxLen) (hbytes : (n + m) * bytes ≤ 140737488355328) (hbase : base ≤ w.heap.size)
 (h : ∀ v' w', w'.ownsRow base e size v' (n + m) (xs ++ news) → w.grownBy w' v.ownBlock → wpList P ops Q rest (a.put o.dst v') w') : wpList P ops Q (o :: rest) a w :=
 wpList_plain hgd fun _ hK => XL s x t ho base e i z size bytes ht hi hz hsize hby hzs h0 v n xs hs hown A m c news hx hm hr h1 h63 hbytes hbase fun v' w' h2 h3 => hK _ _ (h v' w' h2 h3)
end
theorem Rds.qU {w : World} {base : Nat} {e : TypeId} {size n c : Nat} {A : Option Addr} {xs : List Value} (h : w.ownsRow base e size (.slice A n c) n xs) : Rds w A xs := by
 rcases h.2 with ⟨hv, hn⟩ | ⟨g, cap, cur, hv, hb, hh, hn, hm, hs, hx⟩
 · have h1 := h.1
   rw [hn, Nat.zero_mul] at h1
   exact .inl (List.eq_nil_of_length_eq_zero h1)
 · have hA : A = some ⟨g, 0, none⟩ := by injection hv
   subst hA
   have hlt : g < w.heap.size := (h.lt g rfl).2
   refine .inr ⟨g, 0, rfl, hlt, fun j u hu => ?_⟩
   have := h.cells (g := g) rfl j u hu
   rwa [Addr.add_mid] at this
abbrev InsT := Int × Int
def JG (x : InsT) : List Value := [.int .i64 x.1, .int .i64 x.2]
def ZI (x : Int) : Prop := -9223372036854775808 ≤ x ∧ x ≤ 9223372036854775807
structure JR (w : World) (A : Option Addr) (m c : Nat) (l : List InsT) : Prop where
 len : m = l.length
 le : m ≤ c
 max : c ≤ maxLen
 rds : Rds w A (l.flatMap JG)
 fit : ∀ x ∈ l, ZI x.1 ∧ ZI x.2
theorem XJ {w : World} {A : Option Addr} {l : List InsT} {k : Nat} (h : Rds w A (l.flatMap JG)) (hk : k < l.length) :
 ∃ b o, A = some ⟨b, o, none⟩ ∧ b < w.heap.size ∧ w.cell? ⟨b, o + k * 2, none⟩ = some (.int .i64 l[k].1) ∧ w.cell? ⟨b, o + k * 2 + 1, none⟩ = some (.int .i64 l[k].2) := by
 obtain ⟨b, o, hA, hb, hc⟩ := QU (n := 2) (fun _ => rfl) (by omega) h hk
 exact ⟨b, o, hA, hb, hc 0 _ rfl, hc 1 _ rfl⟩
theorem JR.below {w w' : World} {A : Option Addr} {m c : Nat} {l : List InsT} (h : JR w A m c l) (hb : Below w.heap.size w w') : JR w' A m c l := ⟨h.len, h.le, h.max, h.rds.below hb, h.fit⟩
structure Cst where
 kind : Int
 n : Int
 s : List UInt8
 t : List UInt8
 u : List UInt8
def Cst.vals (c : Cst) : List Value := [.int .i64 c.kind, .int .i64 c.n, .string ⟨c.s.toArray⟩, .string ⟨c.t.toArray⟩, .string ⟨c.u.toArray⟩]
structure Zq (w : World) (A : Option Addr) (m c : Nat) (l : List Cst) : Prop where
 len : m = l.length
 le : m ≤ c
 max : c ≤ maxLen
 rds : Rds w A (l.flatMap Cst.vals)
 fit : ∀ x ∈ l, ZI x.kind ∧ ZI x.n
theorem Qy {w : World} {A : Option Addr} {l : List Cst} {k : Nat} (h : Rds w A (l.flatMap Cst.vals)) (hk : k < l.length) :
 ∃ b o, A = some ⟨b, o, none⟩ ∧ b < w.heap.size ∧ w.cell? ⟨b, o + k * 5, none⟩ = some (.int .i64 l[k].kind) ∧ w.cell? ⟨b, o + k * 5 + 1, none⟩ = some (.int .i64 l[k].n) ∧
   w.cell? ⟨b, o + k * 5 + 2, none⟩ = some (.string ⟨l[k].s.toArray⟩) ∧ w.cell? ⟨b, o + k * 5 + 3, none⟩ = some (.string ⟨l[k].t.toArray⟩) ∧ w.cell? ⟨b, o + k * 5 + 4, none⟩ = some (.string ⟨l[k].u.toArray⟩) := by
 obtain ⟨b, o, hA, hb, hc⟩ := QU (n := 5) (fun _ => rfl) (by omega) h hk
 exact ⟨b, o, hA, hb, hc 0 _ rfl, hc 1 _ rfl, hc 2 _ rfl, hc 3 _ rfl, hc 4 _ rfl⟩
theorem Zq.below {w w' : World} {A : Option Addr} {m c : Nat} {l : List Cst} (h : Zq w A m c l) (hb : Below w.heap.size w w') : Zq w' A m c l := ⟨h.len, h.le, h.max, h.rds.below hb, h.fit⟩
theorem drawn {B : Nat} {a w : World} (h : Below B a w) (n : Nat) : Below B a (w.drewN n) := ⟨h.os, h.tape, h.output, h.size, h.block⟩
end Stru
end Go.Proofs.YtehainbhoflpnaaGreatDoor
