/-
  slices.Concat of two slices of bytes, and the slices.Grow in it: what each call returns.
-/
import Derived.Test.YtnkkeifjggcncaaDoorBin8
import Derived.Lib.AppendZerosOnto
import Derived.Lib.SliceRun
namespace Go.Proofs.YtnkkeifjggcncaaDoor
namespace Cat
open Go.RowKit BinM Base BinE BinPut Bin8

/-- Grow, of no slice: room for so many, nothing in it -/
def GivesRoom (w : World) (e : Ending) (w' : World) : Prop := ∃ v, e = .returned v ∧ Own8 w' w.heap.size v [] ∧ Below w.heap.size w w'

set_option maxRecDepth 100000 in
set_option maxHeartbeats 1000000 in
theorem grow_any (n : Nat) (w : World) (hn : n ≤ 140737489403904) :
    Calls Tryd.prog 43 #[.slice none 0 0, .int .i64 (n : Int)] w (GivesRoom w) := by
  by_cases h0 : n = 0
  · subst h0
    go_enter Tryd.func43, Tryd.ntmps43
    go_wp2
    go_ret
    exact ⟨_, rfl, Own8.nil _ _, Below.refl _ _⟩
  · obtain ⟨i0, hi, hz, hs1, hb1⟩ := info_parts info8
    have hrz : ∀ ty, (Builtin.append_ #[22, 3] ty #[.slice none 0 0, .int .i64 (n : Int)]).run Tryd.prog w =
        .ok (.slice (some ⟨w.heap.size, 0, none⟩) (0 + n) (grownCap w (0 + n) 0 5)) (w.drew.alloc (.cells ((([] : List Value).toArray) ++ Builtin.zeroCells (Value.int .u8 0).cells n ++ Builtin.zeroCells (Value.int .u8 0).cells (grownCap w (0 + n) 0 5 - (0 + n))) 5)) := fun ty =>
      Lib.run_append_grow_zeros w 22 3 ty 5 i0 _ .i64 .i64 Tryd.underlying22 Tryd.underlying3 hi hz none 0 0 [] (run_firstCells_none _ _ _ _ _) n (by omega) (by omega) (by omega) (by omega)
        (by rw [hb1]; omega) (growslice_fits_wide (by omega) (by rw [hb1]; omega))
    have hge : 0 + n ≤ grownCap w (0 + n) 0 5 := grownCap_ge w _ _ _
    have hle : grownCap w (0 + n) 0 5 ≤ maxLen := grownCap_le_maxLen w (0 + n) 0 5 (by unfold maxLen; omega)
    obtain ⟨G, hG⟩ : ∃ G, G = grownCap w (0 + n) 0 5 := ⟨_, rfl⟩
    rw [← hG] at hrz hge hle
    have hmx := hle
    unfold maxLen at hle
    obtain ⟨cs, hcs⟩ : ∃ cs, cs = ((([] : List Value).toArray) ++ Builtin.zeroCells (Value.int .u8 0).cells n ++ Builtin.zeroCells (Value.int .u8 0).cells (G - (0 + n))) := ⟨_, rfl⟩
    have hsz : cs.size = G := by
      rw [hcs]
      simp [size_zeroCells, Value.cells]
      omega
    rw [← hcs] at hrz
    have Hsz := Lib.hid hsz
    have Hmx := Lib.hid hmx
    have h3 : (0 : Int) < (n : Int) := by omega
    clear hcs hG hi hz hs1 hb1 hsz hmx h0
    have hsl : ∀ W : World, (Instr.slice 22 (.slice none 0 0) none (some (.int .i64 0)) none).run Tryd.prog W = .ok (.slice none 0 0) W := fun W => by
      have := run_slice_h W 22 none 0 0 Tryd.underlying22 .i64 0 (by omega) (by omega)
      rw [this, elem8]
      simp [Result.andThen, sliced]
    go_enter Tryd.func43, Tryd.ntmps43
    go_wp2_with (at_builtin; refine Lib.wpList_append_run _ rfl _ _ _ _ rfl _ _ rfl rfl _ _ (hrz _) ?_)
    go_ret
    refine ⟨_, rfl, ⟨rfl, .inr ⟨w.heap.size, G, cs, rfl, Nat.le_refl _, heap_alloc_new w.drew _, Nat.zero_le _, Hmx.out, by rw [Hsz.out]; simp, by simp [cells8]⟩⟩, (Below.refl w.heap.size w).drew.alloc (Nat.le_refl _) _⟩

/-- the loops' ways -/
def lenK (m0 m1 k : Nat) : Nat := if k = 0 then 0 else if k = 1 then m0 else m0 + m1
def bytesK (l0 l1 : List UInt8) (k : Nat) : List UInt8 := if k = 0 then [] else if k = 1 then l0 else l0 ++ l1
def Rel1 (m0 m1 : Nat) (s i : Value) : Prop := ∃ k : Nat, k ≤ 2 ∧ i = .int .i64 k ∧ s = .int .i64 (lenK m0 m1 k : Int)
def Rel2 (w w1 : World) (l0 l1 : List UInt8) (o i : Value) (wr : World) : Prop := ∃ k : Nat, k ≤ 2 ∧ i = .int .i64 k ∧ Own8 wr w.heap.size o (bytesK l0 l1 k) ∧ Below w.heap.size w wr ∧ w1.heap.size ≤ wr.heap.size

set_option maxRecDepth 100000 in
set_option maxHeartbeats 2000000 in
theorem concat_any (g : Nat) (A0 A1 : Option Addr) (m0 c0 m1 c1 : Nat) (l0 l1 : List UInt8) (cc : Nat) (w : World) (hg : g < w.heap.size)
    (h0 : w.cell? ⟨g, 0, none⟩ = some (.slice A0 m0 c0)) (h1 : w.cell? ⟨g, 1, none⟩ = some (.slice A1 m1 c1))
    (hm0 : m0 = l0.length) (hm1 : m1 = l1.length) (hr0 : Rds w A0 (cells8 l0)) (hr1 : Rds w A1 (cells8 l1)) (hlen : m0 + m1 ≤ 140737489403904) :
    Calls Tryd.prog 22 #[.slice (some ⟨g, 0, none⟩) 2 cc] w (Gives8 w (l0 ++ l1)) := by
  have Hm0 := Lib.hid hm0
  have Hm1 := Lib.hid hm1
  have Hr0 := Lib.hid hr0
  have Hr1 := Lib.hid hr1
  have Hc0 := Lib.hid h0
  have Hc1 := Lib.hid h1
  clear hm0 hm1 hr0 hr1
  go_enter Tryd.func22, Tryd.ntmps22
  go_wp2
  go_loop [3, 5, 11] (fun s _ i => Rel1 m0 m1 s i) (fun _ _ i => 2 - (intOf i).toNat)
  case atStart => exact ⟨0, by omega, rfl, rfl⟩
  case round =>
    obtain ⟨k, hk, rfl, rfl⟩ := hrel
    rcases (by omega : k = 0 ∨ k = 1 ∨ k = 2) with rfl | rfl | rfl
    · have e : ((lenK m0 m1 0 : Nat) : Int) = 0 := rfl
      rw [e]
      clear e
      go_wp2
      go_round
      case rel => exact ⟨1, by omega, rfl, rfl⟩
      case measure => simp [intOf]
    · have e : ((lenK m0 m1 1 : Nat) : Int) = (m0 : Int) := rfl
      rw [e]
      clear e
      go_wp2
      go_round
      case rel => exact ⟨2, by omega, rfl, by simp [lenK]⟩
      case measure => simp [intOf]
    · have e : ((lenK m0 m1 2 : Nat) : Int) = ((m0 + m1 : Nat) : Int) := rfl
      rw [e]
      clear e h0 h1
      go_wp2_with fail
      refine (grow_any (m0 + m1) w hlen).mono ?_
      rintro e w1 ⟨v, rfl, hown, hb⟩
      have hc0' : w1.cell? ⟨g, 0, none⟩ = some (.slice A0 m0 c0) := (hb.cell (p := ⟨g, 0, none⟩) hg).trans Hc0.out
      have hc1' : w1.cell? ⟨g, 1, none⟩ = some (.slice A1 m1 c1) := (hb.cell (p := ⟨g, 1, none⟩) hg).trans Hc1.out
      have Hown := Lib.hid hown
      have Hb := Lib.hid hb
      have hsz := hb.size
      clear hown hb
      go_wp2_with fail
      go_loopw [6, 8, 27] (fun o _ i wr => Rel2 w w1 l0 l1 o i wr) (fun _ _ i _ => 2 - (intOf i).toNat)
      case atStart => exact ⟨0, by omega, rfl, Hown.out, Hb.out, Nat.le_refl _⟩
      case round =>
        obtain ⟨k, hk, rfl, hown2, hb2, hsz2⟩ := hrel
        have Hown2 := Lib.hid hown2
        have Hb2 := Lib.hid hb2
        have hsz3 := hb2.size
        clear hown2 hb2
        rcases (by omega : k = 0 ∨ k = 1 ∨ k = 2) with rfl | rfl | rfl
        · have hc0' : wr.cell? ⟨g, 0, none⟩ = some (.slice A0 m0 c0) := (Hb2.out.cell (p := ⟨g, 0, none⟩) hg).trans Hc0.out
          go_wp2_with (at_builtin
                       refine app8 rfl (.tmp 31) (.tmp 32) rfl w.heap.size _ [] rfl Hown2.out A0 m0 c0 l0 rfl Hm0.out (Hr0.out.below Hb2.out) (by have := Hm0.out; simp; omega) hsz3 ?_
                       intro v4 w4 hown4 hg4
                       have Hb4 := Lib.hid (own_below Hown2.out Hb2.out (Nat.le_refl _) hsz3 hg4)
                       have Hown4 := Lib.hid hown4
                       have hsz4 := hg4.size
                       clear hown4 hg4)
          go_roundw
          case rel => exact ⟨1, by omega, rfl, Hown4.out, Hb4.out, by omega⟩
          case measure => simp [intOf]
        · have hc1' : wr.cell? ⟨g, 1, none⟩ = some (.slice A1 m1 c1) := (Hb2.out.cell (p := ⟨g, 1, none⟩) hg).trans Hc1.out
          go_wp2_with (at_builtin
                       refine app8 rfl (.tmp 31) (.tmp 32) rfl w.heap.size _ l0 rfl Hown2.out A1 m1 c1 l1 rfl Hm1.out (Hr1.out.below Hb2.out) (by have := Hm0.out; have := Hm1.out; omega) hsz3 ?_
                       intro v4 w4 hown4 hg4
                       have Hb4 := Lib.hid (own_below Hown2.out Hb2.out (Nat.le_refl _) hsz3 hg4)
                       have Hown4 := Lib.hid hown4
                       have hsz4 := hg4.size
                       clear hown4 hg4)
          go_roundw
          case rel => exact ⟨2, by omega, rfl, Hown4.out, Hb4.out, by omega⟩
          case measure => simp [intOf]
        · go_wp2
          go_ret
          exact ⟨_, rfl, Hown2.out, Hb2.out⟩

end Cat
end Go.Proofs.YtnkkeifjggcncaaDoor
