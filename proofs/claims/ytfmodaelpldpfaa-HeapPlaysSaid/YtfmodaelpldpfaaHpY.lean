/-
  Heap.Bytes: what it hands back of a heap of known things.
-/
import Derived.Test.YtfmodaelpldpfaaHpT
import Derived.Laws.MakeOwn
namespace Go.Proofs.Ytfmodaelpldpfaa
namespace HpY
open Go.RowKit Base BinM HpM HpA HpS HpB HpG HpP HpT

section
variable {w : World} {g mb : Nat} {Aw : Option Addr} {cw : Nat} {Aa : Option Addr} {ca most : Nat} {ws al : List Int} {n : Nat} {f : Int → Option Int}

theorem bytes_no {ts : List Th} (H : HpX w g mb Aw cw Aa ca most (raw ts) (adr 0 ts) n f) (F : Fits most ts) (x : Int) (hx : x ∉ adr 0 ts) :
    Calls Try.prog 27 #[.pointer (some ⟨g, 0, none⟩), .int .i64 x] w fun e w' => e = .returned (.tuple #[.string ⟨#[]⟩, .int .i64 3]) ∧ ∃ q, w' = w.drewN q := by
  have HB := Lib.hid (len_no H F x hx)
  clear H F hx
  go_enter Try.func27, Try.ntmps27
  go_wp2_with (go_at_call 28; refine HB.out.mono ?_; rintro e w' ⟨rfl, q, rfl⟩)
  go_ret2
  exact ⟨rfl, q, rfl⟩

theorem drawnN {B : Nat} {w w' : World} (h : Below B w w') (q : Nat) : Below B w (w'.drewN q) := ⟨h.os, h.tape, h.output, h.size, h.block⟩
theorem info8 : (Try.prog.info? 5).map (fun i => (i.zero, i.size, i.bytes)) = some (some (.int .u8 0), 1, 1) := by kernel_rfl
theorem made8 (k : Nat) : madeCells (Value.int .u8 0).cells k = Array.replicate k (cell8 0) := by
  unfold madeCells
  apply Array.ext_getElem?
  intro j
  by_cases h : j < k
  · simp [h, cell8, Value.cells, Nat.mod_one]
  · simp [h]
theorem shr_byte (V : List Int) (i : Nat) : IntKind.u8.wrap (V.getD (i / 8) 0 / 2 ^ (i % 8 * 8)) = ((byteAt V i).toNat : Int) := by
  unfold byteAt
  rw [IntKind.wrap_u8', show ((256 ^ (i % 8) : Nat) : Int) = 2 ^ (i % 8 * 8) by rw [show (256 : Nat) = 2 ^ 8 by decide, ← Nat.pow_mul, Nat.mul_comm 8]; simp]
  generalize V.getD (i / 8) 0 / 2 ^ (i % 8 * 8) = z
  simp
  omega

set_option maxRecDepth 100000 in
set_option maxHeartbeats 4000000 in
theorem bytes_yes {p : List Th} {t : Th} {r : List Th} (H : HpX w g mb Aw cw Aa ca most (raw (p ++ t :: r)) (adr 0 (p ++ t :: r)) n f) (F : Fits most (p ++ t :: r)) :
    Calls Try.prog 27 #[.pointer (some ⟨g, 0, none⟩), .int .i64 (((raw p).length + 1 : Nat) : Int)] w fun e w' => e = .returned (.tuple #[.string ⟨(bytesE t.W).1.toArray⟩, .int .i64 (bytesE t.W).2]) ∧ Below w.heap.size w w' := by
  have HL := Lib.hid (len_yes H F)
  have HB := Lib.hid (fun q => behind_yes (w := w.drewN q) (H.aside (fun _ _ => rfl)) F)
  have HC : Hid (∀ (b k : Nat) (x : Int), Aw = some ⟨b, 0, none⟩ → t.W[k]? = some x → w.cell? ⟨b, (raw p).length + 1 + k, none⟩ = some (.int .i64 x)) := Lib.hid (fun b k x e hx => word H e hx)
  have hl := raw_mid_len p t r
  have hb := F.len
  have ht := F.top
  have hwl : t.W.length ≤ 4096 := by omega
  have hfit : ∀ x ∈ t.W, fitI x := F.fit t (by simp)
  clear H F hl hb ht
  generalize (raw p).length = P at *
  generalize t.W = W at *
  cases W with
  | nil =>
    simp only [lenE, List.length_nil] at *
    go_enter Try.func27, Try.ntmps27
    go_wp2_with (go_at_call 28; refine HL.out.mono ?_; rintro e w' ⟨rfl, q, rfl⟩)
    go_ret2
    exact ⟨rfl, drawnN (Below.refl _ _) _⟩
  | cons x V =>
    have hx := hfit x (by simp)
    unfold fitI at hx
    simp only [lenE, List.length_cons] at HL HB hwl
    by_cases h0 : x < 0
    · have hE := Lib.hid (show bytesE (x :: V) = ([], 5) by unfold bytesE; simp only; rw [if_pos (.inl h0)])
      clear hfit
      go_enter Try.func27, Try.ntmps27
      go_wp2_with (first
                    | (go_at_call 28; refine HL.out.mono ?_; rintro e w' ⟨rfl, q, rfl⟩)
                    | (go_at_call 43; refine (HB.out q).mono ?_; rintro e w' ⟨⟨B, c, rfl, _⟩, q', rfl⟩))
      go_ret2
      exact ⟨by rw [hE.out]; rfl, drawnN (Below.refl _ _) _⟩
    · obtain ⟨m, rfl⟩ : ∃ m : Nat, x = (m : Int) := ⟨x.toNat, by omega⟩
      have HP := Lib.hid (fun w => packed_any m w (by omega))
      have hmk := Lib.hid (show m = m from rfl)
      by_cases h1 : (m + 7) / 8 = V.length
      · have hE := Lib.hid (show bytesE ((m : Int) :: V) = (bytesN m V, 0) by unfold bytesE; simp only; rw [if_neg (by omega), Int.toNat_natCast])
        have hmb : m ≤ 40000 := by omega
        generalize hK : (m + 7) / 8 = K at *
        obtain ⟨i0, hi, hz, hz1, hz2⟩ := info_parts info8
        have hmake : ∀ W : World, (Instr.makeSlice 70 (.int .i64 (m : Int)) (.int .i64 (m : Int))).run Try.prog W = .ok (.slice (some ⟨W.heap.size, 0, none⟩) m m) (W.alloc (.cells (Array.replicate m (cell8 0)) 5)) := fun W => by
          have h := run_makeSlice (P := Try.prog) W 70 5 i0 _ Try.underlying70 hi hz .i64 .i64 (m : Int) (m : Int) (by omega) (Int.le_refl _) (by rw [hz1]; simp; omega) (by rw [hz2]; simp; omega) (by omega)
          rw [hz1, Int.toNat_natCast, Nat.mul_one, made8] at h
          exact h
        clear hi hz hz1 hz2 hfit
        go_enter Try.func27, Try.ntmps27
        go_wp2_with (first
                      | (go_at_call 28; refine HL.out.mono ?_; rintro e w' ⟨rfl, q, rfl⟩)
                      | (go_at_call 43; refine (HB.out q).mono ?_; rintro e w' ⟨⟨B, c, rfl, _, _, hB⟩, q', rfl⟩; obtain ⟨b, hb, rfl⟩ := hB (by omega); clear hB)
                      | (go_at_call 44; refine (HP.out _).mono ?_; rintro e w' ⟨rfl, rfl⟩))
        generalize hW : (w.drewN (q + q')) = W at *
        have HW := Lib.hid hW
        have hsz : W.heap.size = w.heap.size := by rw [← hW]; rfl
        have hB0 : Below w.heap.size w W := by rw [← hW]; exact drawnN (Below.refl _ _) _
        have hcl : ∀ (W' : World), Below w.heap.size w W' → ∀ k x, ((m : Int) :: V)[k]? = some x → W'.cell? ⟨b, P + 1 + k, none⟩ = some (.int .i64 x) := fun W' hb' k x hk => by
          have h := HC.out b k x hb hk
          exact (World.cell?_of_block (hb'.block b (World.block_lt_of_cell? _ _ h))).trans h
        have HCL := Lib.hid hcl
        clear hcl hW
        have X0 := Bx.new W (Array.replicate m (cell8 0)) 5
        rw [hsz] at X0
        have HX0 := Lib.hid X0
        have HB1 := Lib.hid (hB0.alloc (by omega) (.cells (Array.replicate m (cell8 0)) 5))
        clear X0 hB0
        go_loopw [40] (fun i wr => ∃ j : Nat, j ≤ m ∧ i = .int .i64 j ∧ Bx wr w.heap.size ((bytesN j V ++ List.replicate (m - j) (0 : UInt8)).map cell8).toArray 5 ∧ Below w.heap.size w wr) (fun i _ => m - (intOf i).toNat)
        case atStart => exact ⟨0, Nat.zero_le _, rfl, by rw [show ((bytesN 0 V ++ List.replicate (m - 0) (0 : UInt8)).map cell8).toArray = Array.replicate m (cell8 0) by simp [bytesN]]; exact HX0.out, HB1.out⟩
        case round =>
          obtain ⟨j, hj, rfl, hX, hT⟩ := hrel
          have HX := Lib.hid hX
          have HT := Lib.hid hT
          clear hX hT
          by_cases hlt : j < m
          · have hq8 : j / 8 < V.length := by omega
            have hbyte := shr_byte V j
            have hc := HCL.out wr HT.out (1 + j / 8) (V.getD (j / 8) 0) (by rw [Nat.add_comm, List.getElem?_cons_succ, List.getD_eq_getElem?_getD, List.getElem?_eq_getElem hq8]; rfl)
            generalize V.getD (j / 8) 0 = y at hc hbyte
            rw [IntKind.wrap_u8'] at hbyte
            have HY := Lib.hid hbyte
            clear hbyte
            have hf := HX.out.free j
            have hlx := HX.out.lt
            have hbl : (bytesN j V ++ List.replicate (m - j) (0 : UInt8))[j]? = some 0 := by
              rw [List.getElem?_append_right (by rw [bytesN_length]; exact Nat.le_refl _), bytesN_length, Nat.sub_self, List.getElem?_replicate, if_pos (by omega)]
            have hcj : wr.cell? ⟨w.heap.size, j, none⟩ = some (.int .u8 0) := by
              rw [HX.out.cell j, List.getElem?_toArray, List.getElem?_map, hbl]
              rfl
            have HS : Hid ((((bytesN j V ++ List.replicate (m - j) (0 : UInt8)).map cell8).toArray).setIfInBounds j (cell8 (byteAt V j)) = ((bytesN (j + 1) V ++ List.replicate (m - (j + 1)) (0 : UInt8)).map cell8).toArray) := Lib.hid (by
              rw [List.setIfInBounds_toArray, ← List.map_set, List.set_append_right _ _ (by rw [bytesN_length]; exact Nat.le_refl _), bytesN_length, Nat.sub_self, bytesN_succ, show m - j = (m - (j + 1)) + 1 by omega, List.replicate_succ, List.append_assoc]
              rfl)
            clear hbl
            have hj1 : (j : Int) < (m : Int) := by omega
            go_wp2_with fail
            go_roundw
            case rel =>
              refine ⟨j + 1, by omega, by go_num, ?_, HT.out.setCell (Nat.le_refl _) _⟩
              have h := HX.out.set j (cell8 (byteAt V j))
              rw [HS.out] at h
              rw [HY.out]
              exact h
            case measure => simp [intOf]; omega
          · have hj1 : ¬ (j : Int) < (m : Int) := by omega
            obtain rfl : j = m := by omega
            have hX := HX.out
            rw [Nat.sub_self, List.replicate_zero, List.append_nil] at hX
            have htx := run_text (P := Try.prog) (w := wr) (A := some ⟨w.heap.size, 0, none⟩) (l := bytesN j V) 70 9 5 j j Try.underlying70 Try.underlying5 Try.underlying9 (bytesN_length _ _).symm (.inr ⟨w.heap.size, 0, rfl, hX.lt, fun k u hk => by
              rw [hX.cell, Nat.zero_add, List.getElem?_toArray]
              exact hk⟩)
            clear hX
            go_wp2_with fail
            go_ret2
            exact ⟨by rw [hE.out]; rfl, HT.out⟩
      · have hE := Lib.hid (show bytesE ((m : Int) :: V) = ([], 5) by unfold bytesE; simp only; rw [if_pos (.inr (by omega))])
        have hne : ((((m + 7) / 8 : Nat) : Int) == (V.length : Int)) = false := by simp; omega
        have hne2 : ((((m + 7) / 8 : Nat) : Int) != (V.length : Int)) = true := by simp; omega
        generalize (m + 7) / 8 = K at *
        generalize V.length = L at *
        clear hfit
        go_enter Try.func27, Try.ntmps27
        go_wp2_with (first
                      | (go_at_call 28; refine HL.out.mono ?_; rintro e w' ⟨rfl, q, rfl⟩)
                      | (go_at_call 43; refine (HB.out q).mono ?_; rintro e w' ⟨⟨B, c, rfl, _⟩, q', rfl⟩)
                      | (go_at_call 44; refine (HP.out _).mono ?_; rintro e w' ⟨rfl, rfl⟩))
        go_ret2
        exact ⟨by rw [hE.out]; rfl, drawnN (Below.refl _ _) _⟩
end

end HpY
end Go.Proofs.Ytfmodaelpldpfaa
