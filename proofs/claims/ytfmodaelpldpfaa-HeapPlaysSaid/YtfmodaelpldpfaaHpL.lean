/-
  The document's words of a text, and Text: what each of them hands back.
-/
import Derived.Test.YtfmodaelpldpfaaHpJ
namespace Go.Proofs.Ytfmodaelpldpfaa
namespace HpL
open Go.RowKit Base BinM HpM HpA HpS HpB HpG HpP HpT HpZ HpR HpQ HpE HpF HpI HpJ

theorem packK_more (K : Nat) (s : List UInt8) (h : s.length ≤ 8 * K) : packK (K + 1) s = packK K s ++ [0] := by
  unfold packK
  rw [List.range_succ, List.map_append]
  congr 1
  simp only [List.map_cons, List.map_nil]
  rw [List.drop_of_length_le h]
  simp [leN, sg, IntKind.wrap_i64]
theorem get_one (a : Int) (V : List Int) (i : Nat) : (a :: V)[1 + i]? = V[i]? := by rw [Nat.add_comm, List.getElem?_cons_succ]
theorem set_one (a : Int) (V : List Int) (i : Nat) (x : Int) : (a :: V).set (1 + i) x = a :: V.set i x := by rw [Nat.add_comm, List.set_cons_succ]
theorem shl_sg2 (c k : Nat) (hc : c < 256) : wrap64 (wrap64 (c : Int) * 2 ^ (8 * k)) = sg (c * 256 ^ k) := by rw [Nat.mul_comm 8 k]; exact shl_sg c k hc

section
variable {w : World}

/-- a row so far -/
structure Wd (w wr : World) (b c : Nat) (l : List Int) : Prop where
  row : OwnI wr w.heap.size (.slice (some ⟨b, 0, none⟩) l.length c) l
  bel : Below w.heap.size w wr
theorem Wd.set {wr : World} {b c : Nat} {l : List Int} (h : Wd w wr b c l) (k : Nat) (x : Int) : Wd w (wr.setCell ⟨b, k, none⟩ (.int .i64 x)).drew b c (l.set k x) := by
  obtain ⟨h1, h2⟩ := h
  have hb := (h1.lt b rfl).1
  have h := HpF.own_setI h1 k x
  exact ⟨own_same h (fun _ _ => rfl), (h2.setCell (by show w.heap.size ≤ b; omega) _).drew⟩

set_option maxRecDepth 100000 in
set_option maxHeartbeats 4000000 in
theorem words_any (s : List UInt8) (hs : s.length ≤ 100000) : Calls Try.prog 46 #[.string ⟨s.toArray⟩] w fun e w' => ∃ b c, e = .returned (.slice (some ⟨b, 0, none⟩) ((s.length + 7) / 8 + 1) c) ∧ Wd w w' b c ((s.length : Int) :: pack s) := by
  have hss : (⟨s.toArray⟩ : ByteArray).size = s.length := by show s.toArray.size = _; simp
  obtain ⟨i0, hi, hz, hz1, hz2⟩ := info_parts info64
  have I0 := Lib.hid hi
  have I1 := Lib.hid hz
  have I2 := Lib.hid hz1
  have I3 := Lib.hid hz2
  clear hi hz hz1 hz2
  have W0 := Lib.hid (show Wd w (w.alloc (.cells #[.int .i64 (s.length : Int)] 2)) w.heap.size 1 ((s.length : Int) :: packK ((0 + 7) / 8) (s.take 0)) from ⟨by
    unfold OwnI
    exact ⟨rfl, .inr ⟨w.heap.size, 1, #[.int .i64 (s.length : Int)], rfl, Nat.le_refl _, heap_alloc_new w _, Nat.le_refl _, by simp [maxLen], rfl, rfl⟩⟩, (Below.refl _ _).alloc (Nat.le_refl _) _⟩)
  go_enter Try.func46, Try.ntmps46
  go_wp2
  go_loopw [3, 4] (fun v i wr => ∃ j b c : Nat, j ≤ s.length ∧ i = .int .i64 j ∧ v = .slice (some ⟨b, 0, none⟩) ((j + 7) / 8 + 1) c ∧ Wd w wr b c ((s.length : Int) :: packK ((j + 7) / 8) (s.take j))) (fun _ i _ => s.length - (intOf i).toNat)
  case atStart => exact ⟨0, w.heap.size, 1, Nat.zero_le _, rfl, rfl, W0.out⟩
  case round =>
    obtain ⟨j, b, c, hj, rfl, rfl, hW⟩ := hrel
    have HW := Lib.hid hW
    have hlen : ((s.length : Int) :: packK ((j + 7) / 8) (s.take j)).length = (j + 7) / 8 + 1 := by rw [List.length_cons, packK_length]
    have HL := Lib.hid hlen
    by_cases hlt : j < s.length
    · have hj1 : (j : Int) < (s.length : Int) := by omega
      obtain ⟨old, ho, hstep⟩ := pack_step (j / 8 + 1) s j hlt (by omega)
      have HO := Lib.hid ho
      have HST := Lib.hid hstep
      have hK' := Lib.hid (show (j + 1 + 7) / 8 = j / 8 + 1 by omega)
      clear ho hstep hlen
      by_cases h8 : j % 8 = 0
      · have h8i : ((j : Int) % 8) = 0 := by omega
        have hq : (j + 7) / 8 = j / 8 := by omega
        rw [hq] at hW HL HW ⊢
        have hmore := packK_more (j / 8) (s.take j) (by simp; omega)
        have HM := Lib.hid hmore
        have hsz := hW.bel.size
        clear hW hmore
        go_wp2_with (at_builtin
                     refine wpList_append_lies _ rfl (.tmp 17) (.tmp 18) 38 rfl w.heap.size 2 i0 _ 1 8 Try.underlying38 I0.out I1.out I2.out I3.out rfl (by omega) (.slice (some ⟨b, 0, none⟩) (j / 8 + 1) c) (j / 8 + 1) (((s.length : Int) :: packK (j / 8) (s.take j)).map (Value.int .i64)) rfl (by have h := World.ownsRow.alloc HW.out.row (.cells #[.int .i64 0] 2); rw [HL.out] at h; exact h) ⟨wr.heap.size, 0, none⟩ 1 1 [.int .i64 0] rfl rfl (World.news_of_block (cs := #[.int .i64 0]) (t := 2) (fr := (0, 0)) (alloc_at _ _ rfl)) (by simp [Value.oneCell']) (by omega) (by unfold maxLen; omega) (by omega) (by simp; omega) _ rfl ?_
                     intro b5 c5 w5 hown5 hg5 hat5 hlt5
                     have hb5 : Below w.heap.size w w5 := below_own (HW.out.bel.alloc hsz (.cells #[.int .i64 0] 2)) (World.ownsRow.alloc HW.out.row (.cells #[.int .i64 0] 2)) (Nat.le_refl _) (by simp; omega) hg5
                     have W5 := Lib.hid (show Wd w w5 b5 c5 ((s.length : Int) :: packK (j / 8 + 1) (s.take j)) from ⟨by rw [HM.out]; unfold OwnI; rw [← List.cons_append, List.length_append, List.map_append, HL.out]; exact hown5, hb5⟩)
                     clear hown5 hg5 hat5 hb5)
        have hcl := own_cell W5.out.row ((get_one (s.length : Int) (packK (j / 8 + 1) (s.take j)) (j / 8)).trans HO.out)
        have hfr := own_free W5.out.row (1 + j / 8)
        rw [Nat.add_comm] at hcl hfr
        have hat := fun h' => at_mk j hlt h'
        go_region
        go_wp2_with fail
        go_roundw
        case rel =>
          have h := W5.out.set (1 + j / 8) (bits .or .i64 old (sg (s[j].toNat * 256 ^ (j % 8))))
          rw [set_one, ← HST.out, Nat.add_comm 1] at h
          have hv : wrap64 (wrap64 (s[j].toNat : Int)) = sg (s[j].toNat * 256 ^ (j % 8)) := by
            have h9 := shl_sg2 s[j].toNat 0 s[j].toNat_lt
            rw [h8]
            simpa using h9
          refine ⟨j + 1, b5, c5, by omega, by go_num, by rw [hK'.out], ?_⟩
          rw [hK'.out, hv]
          exact h
        case measure => simp [intOf]; omega
      · have h8i : ¬ ((j : Int) % 8) = 0 := by omega
        have h8b : (((j : Int) % 8) == 0) = false := by simpa using h8i
        have hq : (j + 7) / 8 = j / 8 + 1 := by omega
        rw [hq] at hW HL HW ⊢
        have hcl := own_cell HW.out.row ((get_one (s.length : Int) (packK (j / 8 + 1) (s.take j)) (j / 8)).trans HO.out)
        have hfr := own_free HW.out.row (1 + j / 8)
        rw [Nat.add_comm] at hcl hfr
        have hat := fun h' => at_mk j hlt h'
        clear hW
        go_wp2_with fail
        go_region
        go_wp2_with fail
        go_roundw
        case rel =>
          have h := HW.out.set (1 + j / 8) (bits .or .i64 old (sg (s[j].toNat * 256 ^ (j % 8))))
          rw [set_one, ← HST.out, Nat.add_comm 1] at h
          have hv : wrap64 (wrap64 (s[j].toNat : Int) * 2 ^ (8 * (j % 8))) = sg (s[j].toNat * 256 ^ (j % 8)) := shl_sg2 _ _ s[j].toNat_lt
          refine ⟨j + 1, b, c, by omega, by go_num, by rw [hK'.out], ?_⟩
          rw [hK'.out]
          rw [← hv] at h
          exact h
        case measure => simp [intOf]; omega
    · have hj1 : ¬ (j : Int) < (s.length : Int) := by omega
      obtain rfl : j = s.length := by omega
      rw [List.take_length] at HW
      clear hW hlen
      go_wp2_with fail
      go_ret
      exact ⟨b, c, rfl, HW.out⟩

set_option maxRecDepth 100000 in
theorem rtext_any {r : Nat} {AL : Option Addr} {cL most : Nat} {ms : List ThM} (H : RfX w r AL cL most ms) (hb : (raw (things ms)).length ≤ most) (hm : most ≤ 4096) (hn : ms.length ≤ 4000) (id : Int) (s : List UInt8) (hs : s.length ≤ 140737488355328) :
    Calls Try.prog 34 #[.pointer (some ⟨r, 0, none⟩), .int .i64 id, .string ⟨s.toArray⟩] w (GivesRTh w (rfeet r AL ms) r most ms (addE most (raw (things ms)).length id (1 + (((s.length + 7) / 8 : Nat) : Int))) ⟨id.toNat, (s.length : Int) :: pack s, 0⟩) := by
  have hss : (⟨s.toArray⟩ : ByteArray).size = s.length := by show s.toArray.size = _; simp
  by_cases hid : id < 0 ∨ 65535 < id
  · have hE : addE most (raw (things ms)).length id (1 + (((s.length + 7) / 8 : Nat) : Int)) = 2 := by unfold addE; rw [if_pos (by omega)]
    rw [hE]
    have hfin : Hid (GivesRTh w (rfeet r AL ms) r most ms 2 ⟨id.toNat, (s.length : Int) :: pack s, 0⟩ (.returned (.tuple #[.int .i64 0, .int .i64 2])) w) := Lib.hid (.inl ⟨by omega, rfl, Below.refl _ _⟩)
    clear H hE
    by_cases h1 : id < 0
    · go_enter Try.func34, Try.ntmps34
      go_wp2
      go_ret2
      exact hfin.out
    · have h2 : 65535 < id := by omega
      go_enter Try.func34, Try.ntmps34
      go_wp2
      go_ret2
      exact hfin.out
  · have h1 : ¬ id < 0 := by omega
    have h2 : ¬ 65535 < id := by omega
    by_cases hl : 32768 < s.length
    · have hE : addE most (raw (things ms)).length id (1 + (((s.length + 7) / 8 : Nat) : Int)) = 17 := by unfold addE; rw [if_neg (by omega), if_pos (by omega)]
      rw [hE]
      have hfin : Hid (GivesRTh w (rfeet r AL ms) r most ms 17 ⟨id.toNat, (s.length : Int) :: pack s, 0⟩ (.returned (.tuple #[.int .i64 0, .int .i64 17])) w) := Lib.hid (.inl ⟨by omega, rfl, Below.refl _ _⟩)
      have hl1 : (32768 : Int) < (s.length : Int) := by omega
      clear H hE hid
      go_enter Try.func34, Try.ntmps34
      go_wp2
      go_ret2
      exact hfin.out
    · have hl1 : ¬ (32768 : Int) < (s.length : Int) := by omega
      have HW := Lib.hid (words_any (w := w) s (by omega))
      have hpl : ((s.length : Int) :: pack s).length = (s.length + 7) / 8 + 1 := by rw [List.length_cons, pack_length]
      have HP := Lib.hid (fun (w1 : World) (b c : Nat) (h : Wd w w1 b c ((s.length : Int) :: pack s)) => by
        have h9 := rput_any (A := some ⟨b, 0, none⟩) (c := c) (H.beside h.bel) hb hm hn id ((s.length : Int) :: pack s) (own_rds h.row) (by rw [hpl]; omega)
        rw [hpl, show (((s.length + 7) / 8 + 1 : Nat) : Int) = 1 + (((s.length + 7) / 8 : Nat) : Int) by omega] at h9
        exact h9.mono (R' := GivesRTh w (rfeet r AL ms) r most ms (addE most (raw (things ms)).length id (1 + (((s.length + 7) / 8 : Nat) : Int))) ⟨id.toNat, (s.length : Int) :: pack s, 0⟩) (fun e w' h' => GivesRTh.pre h.bel h'))
      clear H hpl hid
      generalize hEE : addE most (raw (things ms)).length id (1 + (((s.length + 7) / 8 : Nat) : Int)) = E at *
      clear hEE
      go_enter Try.func34, Try.ntmps34
      go_wp2_with fail
      refine HW.out.mono ?_
      rintro e w1 ⟨b, c, rfl, hw⟩
      have HP1 := Lib.hid (HP.out w1 b c hw)
      clear hw
      go_wp2_with fail
      refine HP1.out.mono ?_
      intro e w' h
      have H := Lib.hid h
      rcases h with ⟨_, rfl, _⟩ | ⟨_, rfl, _⟩
      all_goals
        go_wp2_with fail
        go_ret2
        exact H.out
end

end HpL
end Go.Proofs.Ytfmodaelpldpfaa
