/-
  bin.Put: bytes, and a number's bytes behind them, in new memory: what it returns, for all bytes and every number.
-/
import Derived.Test.YthkkcecfenohjaaGreatDoorBinCut
import Derived.Test.YthkkcecfenohjaaGreatDoorBaseApp
import Derived.Deep.WholeRow
import Derived.Outline
namespace Go.Proofs.YthkkcecfenohjaaGreatDoor
namespace BinPut
open Go.RowKit BinM BinNum Base BinE BinCut

theorem info8 : (Tryz.prog.info? 5).map (fun i => (i.zero, i.size, i.bytes)) = some (some (.int .u8 0), 1, 1) := by kernel_rfl

/-- a call hands back these bytes in new memory; what was there is as it was -/
def Gives8 (w : World) (l : List UInt8) (e : Ending) (w' : World) : Prop :=
  ∃ v, e = .returned v ∧ w'.ownsRow w.heap.size 5 1 v l.length (cells8 l) ∧ Below w.heap.size w w'

theorem slice_pieces (W : World) (g k : Nat) (hk : k ≤ 10) :
    (Instr.sliceAt 145 (.pointer (some ⟨g, 0, none⟩)) none (some (.int .i64 (k : Int))) none).run Tryz.prog W = .ok (.slice (some ⟨g, 0, none⟩) k 10) W := by
  have e : Tryz.prog.arrayLen 145 = 10 := by kernel_rfl
  rw [run_sliceAt_array_h W 145 ⟨g, 0, none⟩ (by kernel_rfl) .i64 (k : Int) (by omega) (by rw [e]; omega)]
  have hsz : (sizeOf (Tryz.prog.elem 145)).run Tryz.prog W = .ok 1 W := by kernel_rfl
  rw [hsz, e]
  simp [Result.andThen, slicedAt, Addr.add]

set_option maxRecDepth 100000 in
set_option maxHeartbeats 1000000 in
theorem put_any (A : Option Addr) (l : List UInt8) (m cap : Nat) (n : Int) (w : World) (hm : m = l.length) (hlen : m ≤ 140737489403894) (h0 : -9223372036854775808 ≤ n) (h1 : n ≤ 9223372036854775807) (hr : Rds w A (cells8 l)) :
    Calls Tryz.prog 81 #[.slice A m cap, .int .i64 n] w (Gives8 w (l ++ num n)) := by
  have hk := (num_can h0 h1).2.2
  have hk1 := num_pos h0 h1
  have Hm := Lib.hid hm
  clear hm
  obtain ⟨i0, hi, hz, hs1, hb1⟩ := info_parts info8
  have Hi := Lib.hid hi
  have Hz := Lib.hid hz
  have Hs1 := Lib.hid hs1
  have Hb1 := Lib.hid hb1
  clear hi hz hs1 hb1
  go_enter Tryz.func81, Tryz.ntmps81
  go_wp2_with (first
    | (go_at_call 117; refine (cut_any _ _ h0 h1).mono ?_; rintro e w1 ⟨cs, rfl, hcs10, hcs1, hcst, hb1⟩; generalize hkk : (num n).length = k at *; have Hkk := Lib.hid hkk; have Hcs10 := Lib.hid hcs10; have Hcs1 := Lib.hid hcs1; have Hcst := Lib.hid hcst; have Hb1' := Lib.hid hb1; clear hkk hcs10 hcs1 hcst hb1)
    | (refine wpList_store_row rfl 145 (.tmp 5) (.tmp 11) rfl w1.heap.size cs rfl rfl 145 _ (heap_alloc_last w1 _) (by rw [arr10, Hcs10.out]) (by rw [Hcs10.out]; rfl) Hcs1.out ?_; rw [World.setRow_alloc_new])
    | (at_make
       refine wpList_make_own _ rfl (.const (.int .i64 0)) (.tmp 16) 33 rfl (w1.heap.size + 1) 5 i0 _ 1 Tryz.underlying33 Hi.out Hz.out Hs1.out .i64 .i64 _ (m + k) rfl rfl (by omega) (by rw [Hb1.out]; omega) (by unfold maxLen; omega) (by simp) ?_
       intro w2 hown2 hg2
       simp only [World.size_alloc] at hown2
       have hb2 : Below w.heap.size w w2 := ((Hb1'.out).alloc (Hb1'.out.size) (.cells cs 145)).grown hg2 (by have := Hb1'.out.size; simp; omega) (by intro k hk; cases hk)
       have hz2 : w1.heap.size + 1 ≤ w2.heap.size := by have := hg2.size; simpa using this
       have hp2 : w2.heap[w1.heap.size]? = some (.cells cs 145 (0, 0)) := by rw [hg2.block w1.heap.size (by simp) (by simp)]; exact heap_alloc_last w1 _
       have Hown2 := Lib.hid hown2
       have Hb2 := Lib.hid hb2
       have Hp2 := Lib.hid hp2
       clear hown2 hg2 hb2 hp2)
    | (at_builtin
       refine wpList_append_rds rfl (.tmp 21) (.tmp 23) 33 rfl (w1.heap.size + 1) 5 i0 _ 1 Tryz.underlying33 Hi.out Hz.out Hs1.out Hb1.out rfl v3 (0 + m) ([] ++ cells8 l) rfl Hown3.out (some ⟨w1.heap.size, 0, none⟩) k 10 (cells8 (num n)) rfl (by rw [cells8_length, Hkk.out]) hrds (cells8_one _) (by unfold maxLen; omega) (by omega) hz3 ?_
       intro v4 w4 hown4 hg4
       have hb4 : Below w.heap.size w w4 := below_own Hb3.out Hown3.out (by have := Hb1'.out.size; omega) Hb3.out.size hg4
       have Hown4 := Lib.hid hown4
       have Hb4 := Lib.hid hb4
       clear hown4 hg4 hb4)
    | (at_builtin
       refine wpList_append_rds rfl (.tmp 18) (.tmp 19) 33 rfl (w1.heap.size + 1) 5 i0 _ 1 Tryz.underlying33 Hi.out Hz.out Hs1.out Hb1.out rfl (.slice (some ⟨w1.heap.size + 1, 0, none⟩) 0 (m + k)) 0 [] rfl Hown2.out A m cap (cells8 l) rfl (by rw [cells8_length, Hm.out]) (hr.below Hb2.out) (cells8_one l) (by unfold maxLen; omega) (by omega) hz2 ?_
       intro v3 w3 hown3 hg3
       have hb3 : Below w.heap.size w w3 := below_own Hb2.out Hown2.out (by have := Hb1'.out.size; omega) Hb2.out.size hg3
       have hp3 : w3.heap[w1.heap.size]? = some (.cells cs 145 (0, 0)) := by
         rw [hg3.block w1.heap.size (by omega) (by simp [Value.ownBlock])]; exact Hp2.out
       have hz3 : w1.heap.size + 1 ≤ w3.heap.size := Nat.le_trans hz2 hg3.size
       have Hown3 := Lib.hid hown3
       have Hb3 := Lib.hid hb3
       have Hp3 := Lib.hid hp3
       clear hown3 hg3 hb3 hp3
       have hrds : Rds w3 (some ⟨w1.heap.size, 0, none⟩) (cells8 (num n)) := by
         refine .inr ⟨w1.heap.size, 0, rfl, by omega, fun j u hu => ?_⟩
         rw [cell_of_row w3 _ (0 + j) cs _ _ Hp3.out, Nat.zero_add]
         rw [← Hcst.out, List.getElem?_take] at hu
         by_cases hj : j < k
         · rw [if_pos hj] at hu; simpa using hu
         · rw [if_neg hj] at hu; cases hu
       have hsl := fun W => slice_pieces W w1.heap.size k hk))
  go_ret
  refine ⟨v4, rfl, own_mono ?_ (by have := Hb1'.out.size; omega : w.heap.size ≤ w1.heap.size + 1), Hb4.out⟩
  have hl : (l ++ num n).length = 0 + m + k := by rw [List.length_append, Hkk.out, Hm.out]; omega
  rw [hl, cells8_append]
  exact Hown4.out

end BinPut
end Go.Proofs.YthkkcecfenohjaaGreatDoor
