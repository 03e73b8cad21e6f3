/-
  The document's heap: Thing, Array: what each of them hands back, and the things that there are then.
-/
import Derived.Test.YtfmodaelpldpfaaHpI
namespace Go.Proofs.Ytfmodaelpldpfaa
namespace HpJ
open Go.RowKit Base BinM HpM HpA HpS HpB HpG HpP HpT HpZ HpR HpQ HpE HpF HpI

section
variable {w w1 : World} {r : Nat} {AL : Option Addr} {cL most : Nat} {ms : List ThM}

theorem GivesRTh.pre {F : Nat → Prop} {E : Int} {t : Th} {e : Ending} {w' : World} (hb : Below w.heap.size w w1) (h : GivesRTh w1 F r most ms E t e w') : GivesRTh w F r most ms E t e w' := by
  rcases h with ⟨h1, h2, h3⟩ | ⟨h1, h2, m, h3, AL', cL', h4, h5, h6⟩
  · exact .inl ⟨h1, h2, hb.trans (h3.mono hb.size)⟩
  · exact .inr ⟨h1, h2, m, h3, AL', cL', h4, (Turned.of_below hb).trans h5 (fun j h => .inl h), fun k hk => (h6 k hk).imp (fun h => h) (fun h => Nat.le_trans hb.size h)⟩
theorem made64 (k : Nat) : madeCells (Value.int .i64 0).cells k = Array.replicate k (Value.int .i64 0) := by
  unfold madeCells
  apply Array.ext_getElem?
  intro j
  by_cases h : j < k
  · simp [h, Value.cells, Nat.mod_one]
  · simp [h]
theorem make64 (n : Nat) (hn : n ≤ 100000) (W : World) : (Instr.makeSlice 38 (.int .i64 (n : Int)) (.int .i64 (n : Int))).run Try.prog W = .ok (.slice (some ⟨W.heap.size, 0, none⟩) n n) (W.alloc (.cells (Array.replicate n (Value.int .i64 0)) 2)) := by
  obtain ⟨i0, hi, hz, hz1, hz2⟩ := info_parts info64
  have h := run_makeSlice (P := Try.prog) W 38 2 i0 _ Try.underlying38 hi hz .i64 .i64 (n : Int) (n : Int) (by omega) (Int.le_refl _) (by rw [hz1]; simp; omega) (by rw [hz2]; omega) (by omega)
  rw [hz1, Int.toNat_natCast, Nat.mul_one, made64] at h
  exact h

set_option maxRecDepth 100000 in
theorem rthing_any (H : RfX w r AL cL most ms) (hb : (raw (things ms)).length ≤ most) (hm : most ≤ 4096) (hn : ms.length ≤ 4000) (id size : Int) :
    Calls Try.prog 32 #[.pointer (some ⟨r, 0, none⟩), .int .i64 id, .int .i64 size] w (GivesRTh w (rfeet r AL ms) r most ms (thingE most (raw (things ms)).length id size) ⟨id.toNat, List.replicate size.toNat 0, 0⟩) := by
  by_cases hbad : id < 0 ∨ 65535 < id ∨ size < 0 ∨ 4096 < size
  · have hE := Lib.hid (fun (_ : True) => show thingE most (raw (things ms)).length id size = 2 by
      unfold thingE addE
      split
      · rfl
      · rw [if_pos (by omega)])
    clear H
    have hfin : Hid (GivesRTh w (rfeet r AL ms) r most ms (thingE most (raw (things ms)).length id size) ⟨id.toNat, List.replicate size.toNat 0, 0⟩ (.returned (.tuple #[.int .i64 0, .int .i64 2])) w) := Lib.hid (.inl ⟨by rw [hE.out trivial]; omega, by rw [hE.out trivial], Below.refl _ _⟩)
    clear hE
    by_cases h1 : id < 0
    · go_enter Try.func32, Try.ntmps32
      go_wp2
      go_ret2
      exact hfin.out
    · by_cases h2 : 65535 < id
      · go_enter Try.func32, Try.ntmps32
        go_wp2
        go_ret2
        exact hfin.out
      · by_cases h3 : size < 0
        · go_enter Try.func32, Try.ntmps32
          go_wp2
          go_ret2
          exact hfin.out
        · have h4 : 4096 < size := by omega
          go_enter Try.func32, Try.ntmps32
          go_wp2
          go_ret2
          exact hfin.out
  · obtain ⟨n, rfl⟩ : ∃ n : Nat, size = (n : Int) := ⟨size.toNat, by omega⟩
    rw [Int.toNat_natCast]
    have h1 : ¬ id < 0 := by omega
    have h2 : ¬ 65535 < id := by omega
    have h4 : ¬ 4096 < (n : Int) := by omega
    have hal : Below w.heap.size w (w.alloc (.cells (Array.replicate n (Value.int .i64 0)) 2)) := (Below.refl _ _).alloc (Nat.le_refl _) _
    have hrd : Rds (w.alloc (.cells (Array.replicate n (Value.int .i64 0)) 2)) (some ⟨w.heap.size, 0, none⟩) ((List.replicate n (0 : Int)).map (Value.int .i64)) := by
      have h := rds_new w (Array.replicate n (Value.int .i64 0)) 2
      rw [List.map_replicate]
      simpa using h
    have HP := rput_any (c := n) (H.beside hal) hb hm hn id (List.replicate n 0) hrd (by simp; omega)
    rw [List.length_replicate] at HP
    have hE : thingE most (raw (things ms)).length id (n : Int) = addE most (raw (things ms)).length id (n : Int) := by unfold thingE; rw [if_neg (by omega)]
    rw [hE]
    have HP1 := Lib.hid (HP.mono (R' := GivesRTh w (rfeet r AL ms) r most ms (addE most (raw (things ms)).length id (n : Int)) ⟨id.toNat, List.replicate n 0, 0⟩) (fun e w' h => GivesRTh.pre hal h))
    have hmk := make64 n (by omega)
    clear H HP hE hal hrd hbad
    go_enter Try.func32, Try.ntmps32
    go_wp2_with fail
    refine HP1.out.mono ?_
    intro e w' h
    have H := Lib.hid h
    rcases h with ⟨_, rfl, _⟩ | ⟨_, rfl, _⟩
    all_goals
      go_wp2_with fail
      go_ret2
      exact H.out

/-- the document's Array -/
theorem rarray_any (H : RfX w r AL cL most ms) (hb : (raw (things ms)).length ≤ most) (hm : most ≤ 4096) (hn : ms.length ≤ 4000) (id k : Int) :
    Calls Try.prog 33 #[.pointer (some ⟨r, 0, none⟩), .int .i64 id, .int .i64 k] w (GivesRTh w (rfeet r AL ms) r most ms (arrayE most (raw (things ms)).length id k) ⟨id.toNat, k :: List.replicate k.toNat 0, 0⟩) := by
  by_cases hbad : id < 0 ∨ 65535 < id ∨ k < 0 ∨ 4095 < k
  · have hE := Lib.hid (fun (_ : True) => show arrayE most (raw (things ms)).length id k = 2 by
      unfold arrayE addE
      split
      · rfl
      · rw [if_pos (by omega)])
    clear H
    have hfin : Hid (GivesRTh w (rfeet r AL ms) r most ms (arrayE most (raw (things ms)).length id k) ⟨id.toNat, k :: List.replicate k.toNat 0, 0⟩ (.returned (.tuple #[.int .i64 0, .int .i64 2])) w) := Lib.hid (.inl ⟨by rw [hE.out trivial]; omega, by rw [hE.out trivial], Below.refl _ _⟩)
    clear hE
    by_cases h1 : id < 0
    · go_enter Try.func33, Try.ntmps33
      go_wp2
      go_ret2
      exact hfin.out
    · by_cases h2 : 65535 < id
      · go_enter Try.func33, Try.ntmps33
        go_wp2
        go_ret2
        exact hfin.out
      · by_cases h3 : k < 0
        · go_enter Try.func33, Try.ntmps33
          go_wp2
          go_ret2
          exact hfin.out
        · have h4 : 4095 < k := by omega
          go_enter Try.func33, Try.ntmps33
          go_wp2
          go_ret2
          exact hfin.out
  · obtain ⟨n, rfl⟩ : ∃ n : Nat, k = (n : Int) := ⟨k.toNat, by omega⟩
    rw [Int.toNat_natCast]
    have h1 : ¬ id < 0 := by omega
    have h2 : ¬ 65535 < id := by omega
    have h4 : ¬ 4095 < (n : Int) := by omega
    have hmk : (Instr.makeSlice 38 (.int .i64 ((n : Int) + 1)) (.int .i64 ((n : Int) + 1))).run Try.prog w = .ok (.slice (some ⟨w.heap.size, 0, none⟩) (n + 1) (n + 1)) (w.alloc (.cells (Array.replicate (n + 1) (Value.int .i64 0)) 2)) := make64 (n + 1) (by omega) w
    have X := Bx.new w (Array.replicate (n + 1) (Value.int .i64 0)) 2
    have hx0 : (w.alloc (.cells (Array.replicate (n + 1) (Value.int .i64 0)) 2)).cell? ⟨w.heap.size, 0, none⟩ = some (.int .i64 0) := by rw [X.cell]; simp
    have hxf := X.free 0
    have hal : Below w.heap.size w (w.alloc (.cells ((Array.replicate (n + 1) (Value.int .i64 0)).setIfInBounds 0 (.int .i64 (n : Int))) 2)) := (Below.refl _ _).alloc (Nat.le_refl _) _
    have hrd : Rds (w.alloc (.cells ((Array.replicate (n + 1) (Value.int .i64 0)).setIfInBounds 0 (.int .i64 (n : Int))) 2)) (some ⟨w.heap.size, 0, none⟩) (((n : Int) :: List.replicate n (0 : Int)).map (Value.int .i64)) := by
      have h := rds_new w ((Array.replicate (n + 1) (Value.int .i64 0)).setIfInBounds 0 (.int .i64 (n : Int))) 2
      rw [Array.toList_setIfInBounds, Array.toList_replicate, List.replicate_succ, List.set_cons_zero] at h
      rw [List.map_cons, List.map_replicate]
      exact h
    have HP := rput_any (c := n + 1) (H.beside hal) hb hm hn id ((n : Int) :: List.replicate n 0) hrd (by simp; omega)
    rw [List.length_cons, List.length_replicate] at HP
    have hE : arrayE most (raw (things ms)).length id (n : Int) = addE most (raw (things ms)).length id ((n + 1 : Nat) : Int) := by unfold arrayE; rw [if_neg (by omega)]; congr 1; omega
    rw [hE]
    have HP1 := Lib.hid (HP.mono (R' := GivesRTh w (rfeet r AL ms) r most ms (addE most (raw (things ms)).length id ((n + 1 : Nat) : Int)) ⟨id.toNat, (n : Int) :: List.replicate n 0, 0⟩) (fun e w' h => GivesRTh.pre hal h))
    clear H HP hE hal hrd hbad X
    generalize hEE : addE most (raw (things ms)).length id ((n + 1 : Nat) : Int) = E at *
    clear hEE
    go_enter Try.func33, Try.ntmps33
    go_wp2_with fail
    refine HP1.out.mono ?_
    intro e w' h
    have H := Lib.hid h
    rcases h with ⟨_, rfl, _⟩ | ⟨_, rfl, _⟩
    all_goals
      go_wp2_with fail
      go_ret2
      exact H.out
end

end HpJ
end Go.Proofs.Ytfmodaelpldpfaa
