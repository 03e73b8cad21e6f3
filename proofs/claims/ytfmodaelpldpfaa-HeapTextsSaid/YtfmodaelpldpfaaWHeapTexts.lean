/-
  Law HeapTexts: whatever the number, the bytes and the words: any bytes that have room are told as they were.
-/
import Derived.Test.YtfmodaelpldpfaaHpK
namespace Go.Proofs.Ytfmodaelpldpfaa
namespace WHeapTexts
open Go.RowKit Base BinM HpM HpA HpS HpB HpG HpP HpT HpY HpK

set_option maxRecDepth 100000 in
set_option maxHeartbeats 8000000 in
theorem walk (a0 : Int) (a1 : ByteArray) (a2 : Int) (w : World) (w0 : (Lit.int .i64 a0).wf = true) (b1 : a1.size ≤ 140737488351232) (_w2 : (Lit.int .i64 a2).wf = true) :
    Calls Try.prog 5 #[.int .i64 a0, .string a1, .int .i64 a2] w fun e w' => e = .returned (.bool true) ∧ Below w.heap.size w w' := by
  have hf0 : fitI a0 := by
    unfold fitI
    simp [Lit.wf, IntKind.min, IntKind.max, IntKind.bits, IntKind.signed] at w0
    omega
  obtain ⟨s, rfl⟩ : ∃ s : List UInt8, a1 = ⟨s.toArray⟩ := ⟨a1.data.toList, by simp⟩
  have hss : (⟨s.toArray⟩ : ByteArray).size = s.length := by show s.toArray.size = _; simp
  rw [hss] at b1
  have HK := Lib.hid (fun w => HpK.known_any w)
  unfold fitI at hf0
  clear w0
  go_enter Try.func5, Try.ntmps5
  go_wp2_with fail
  refine (new_any a2 w).mono ?_
  rintro e w1 ⟨hb1, ⟨h16, h4096, g, mb, rfl, hg, hmb, H1⟩ | ⟨h, rfl⟩⟩
  · have B1 := Lib.hid hb1
    have HF1 : Hid (∀ k, feet g mb none none k → w.heap.size ≤ k) := Lib.hid (fun k hk => by
      rcases hk with rfl | rfl | ⟨a, h, _⟩ | ⟨a, h, _⟩
      · exact hg
      · exact hmb
      · cases h
      · cases h)
    by_cases hlen : 70000 < s.length
    · have hl1 : (70000 : Int) < (s.length : Int) := by omega
      clear H1 hb1 hg hmb
      go_wp2_with fail
      refine (HK.out _).mono ?_
      rintro e w2 ⟨rfl, hb2⟩
      have B2 := Lib.hid (B1.out.trans (hb2.mono B1.out.size))
      go_wp2_with fail
      go_ret
      exact ⟨rfl, B2.out⟩
    · have hl1 : ¬ (70000 : Int) < (s.length : Int) := by omega
      obtain ⟨most, rfl⟩ : ∃ m : Nat, a2 = (m : Int) := ⟨a2.toNat, by omega⟩
      rw [Int.toNat_natCast] at H1
      have F1 := fits_nil (most := most) (by omega)
      have HT := Lib.hid (text_any (ts := []) H1 F1 a0 s (by omega))
      clear H1 hb1 hg hmb F1
      go_wp2_with fail
      refine HT.out.mono ?_
      rintro e w2 (⟨k1, rfl, hb2⟩ | ⟨k1, rfl, ⟨Aw2, cw2, Aa2, ca2, H2, T2, S2⟩, F2⟩)
      · have B2 := Lib.hid (B1.out.trans (hb2.mono B1.out.size))
        clear hb2
        have h7 : (((s.length + 7) / 8 : Nat) : Int) = ((s.length : Int) + 7) / 8 := by omega
        by_cases hid : 0 ≤ a0 ∧ a0 < 65536
        · have hE : addE most (raw []).length a0 (1 + (((s.length + 7) / 8 : Nat) : Int)) = 17 := by
            unfold addE at k1 ⊢
            rw [if_neg (by omega)] at k1 ⊢
            split
            · rfl
            · rename_i hq
              rw [if_neg hq] at k1
              exact absurd rfl k1
          have hroom : (most : Int) < 2 + ((s.length : Int) + 7) / 8 := by
            unfold addE at hE
            rw [if_neg (by omega)] at hE
            split at hE
            · rename_i hq
              simp [raw] at hq
              omega
            · omega
          rw [hE]
          clear k1 hE h7
          go_wp2_with fail
          refine (HK.out _).mono ?_
          rintro e w3 ⟨rfl, hb3⟩
          have B3 := Lib.hid (B2.out.trans (hb3.mono B2.out.size))
          go_wp2_with fail
          go_ret
          exact ⟨rfl, B3.out⟩
        · have hE : addE most (raw []).length a0 (1 + (((s.length + 7) / 8 : Nat) : Int)) = 2 := by
            unfold addE
            rw [if_pos hid]
          rw [hE]
          clear k1 hE h7
          by_cases hneg : a0 < 0
          · go_wp2_with fail
            refine (HK.out _).mono ?_
            rintro e w3 ⟨rfl, hb3⟩
            have B3 := Lib.hid (B2.out.trans (hb3.mono B2.out.size))
            go_wp2_with fail
            go_ret
            exact ⟨rfl, B3.out⟩
          · have hbig : 65535 < a0 := by omega
            go_wp2_with fail
            refine (HK.out _).mono ?_
            rintro e w3 ⟨rfl, hb3⟩
            have B3 := Lib.hid (B2.out.trans (hb3.mono B2.out.size))
            go_wp2_with fail
            go_ret
            exact ⟨rfl, B3.out⟩
      · have B2 := Lib.hid (B1.out.trans (T2.below HF1.out B1.out.size))
        have HB := Lib.hid (bytes_yes (p := []) (t := ⟨a0.toNat, (s.length : Int) :: pack s, 0⟩) (r := []) H2 F2)
        have HH := Lib.hid H2
        have HF := Lib.hid F2
        have hlen2 : (raw ([] ++ [(⟨a0.toNat, (s.length : Int) :: pack s, 0⟩ : Th)])).length = 2 + (s.length + 7) / 8 := by
          simp only [List.nil_append, raw_one, row_length, List.length_cons, pack_length]
          omega
        have HL2 := Lib.hid hlen2
        have hbE : bytesE ((s.length : Int) :: pack s) = (s, 0) := bytesE_text s
        rw [hbE] at HB
        simp only at HB
        clear H2 F2 T2 S2 k1 hlen2 hbE
        go_wp2_with fail
        refine HB.out.mono ?_
        rintro e w3 ⟨rfl, hb3⟩
        have B3 := Lib.hid (B2.out.trans (hb3.mono B2.out.size))
        have HL := Lib.hid (len_yes (p := []) (t := ⟨a0.toNat, (s.length : Int) :: pack s, 0⟩) (r := []) (HH.out.beside hb3) HF.out)
        have H3 := Lib.hid (HH.out.beside hb3)
        clear hb3
        simp only [lenE] at HL
        go_wp2_with fail
        refine HL.out.mono ?_
        rintro e w4 ⟨rfl, q, rfl⟩
        have HU := Lib.hid (used_any (w := w3.drewN q) (H3.out.aside (fun _ _ => rfl)))
        rw [HL2.out] at HU
        have h7 : ((2 + (s.length + 7) / 8 : Nat) : Int) = 2 + ((s.length : Int) + 7) / 8 := by omega
        rw [h7] at HU
        go_wp2_with fail
        refine HU.out.mono ?_
        rintro e w4 ⟨rfl, rfl⟩
        clear h7
        go_wp2_with fail
        refine (HK.out _).mono ?_
        rintro e w5 ⟨rfl, hb5⟩
        have B5 := Lib.hid ((drawnN B3.out q).trans (hb5.mono B3.out.size))
        go_wp2_with fail
        go_ret
        exact ⟨rfl, B5.out⟩
  · have HB1 := Lib.hid hb1
    clear hb1
    go_wp2_with fail
    refine (HK.out _).mono ?_
    rintro e w2 ⟨rfl, hb2⟩
    have B2 := Lib.hid (HB1.out.trans (hb2.mono HB1.out.size))
    go_wp2_with fail
    go_ret
    exact ⟨rfl, B2.out⟩

end WHeapTexts
end Go.Proofs.Ytfmodaelpldpfaa
