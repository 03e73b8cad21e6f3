/-
  What law 12 asks of fixed calls: it is so.
-/
import Derived.Test.YtfmodaelpldpfaaHpY
namespace Go.Proofs.Ytfmodaelpldpfaa
namespace HpK
open Go.RowKit Base BinM HpM HpA HpS HpB HpG HpP HpT HpY

theorem fits_nil {most : Nat} (h : most ≤ 4096) : Fits most [] := ⟨h, by simp [raw], by simp, by simp⟩
def ts1 : List Th := [⟨2, [0], 0⟩]
def ts2 : List Th := [⟨2, [0], 0⟩, ⟨3, [2, 26984], 0⟩]
theorem pack_hi : pack [104, 105] = [26984] := by decide

theorem moved {F G : Nat → Prop} {a b c : World} (h : Turned F a b) (S : ∀ k, G k → F k ∨ a.heap.size ≤ k) (k : Below b.heap.size b c) : Turned F a c := h.trans (Turned.of_below (F := G) k) S

set_option maxRecDepth 100000 in
set_option maxHeartbeats 4000000 in
theorem known_any (w : World) : Calls Try.prog 9 #[] w fun e w' => e = .returned (.bool true) ∧ Below w.heap.size w w' := by
  go_enter Try.func9, Try.ntmps9
  go_wp2_with fail
  refine (new_any 16 w).mono ?_
  rintro e w1 ⟨hb1, ⟨_, _, g, mb, rfl, hg, hmb, H1⟩ | ⟨h, _⟩⟩
  · have B1 := Lib.hid hb1
    have F1 := Lib.hid (fits_nil (most := 16) (by omega))
    have HF1 : Hid (∀ k, feet g mb none none k → w.heap.size ≤ k) := Lib.hid (fun k hk => by
      rcases hk with rfl | rfl | ⟨a, h, _⟩ | ⟨a, h, _⟩
      · exact hg
      · exact hmb
      · cases h
      · cases h)
    have HT := Lib.hid (thing_any (ts := []) H1 F1.out 2 1)
    clear H1 hb1 hg hmb
    go_wp2_with fail
    refine HT.out.mono ?_
    rintro e w2 (⟨k1, _⟩ | ⟨_, rfl, ⟨Aw2, cw2, Aa2, ca2, H2, T2, S2⟩, F2⟩)
    · exact absurd (show thingE 16 (raw []).length 2 1 = 0 by decide) k1
    have HF2 : Hid (∀ k, feet g mb Aw2 Aa2 k → w.heap.size ≤ k) := Lib.hid (fun k hk => (S2 k hk).elim (HF1.out k) (fun h => Nat.le_trans B1.out.size h))
    have B2 := Lib.hid (B1.out.trans (T2.below HF1.out B1.out.size))
    have HT2 := Lib.hid (text_any (ts := ts1) H2 F2 3 [104, 105] (by simp))
    clear H2 F2 T2 S2
    go_wp2_with fail
    refine HT2.out.mono ?_
    rintro e w3 (⟨k1, _⟩ | ⟨_, rfl, ⟨Aw3, cw3, Aa3, ca3, H3, T3, S3⟩, F3⟩)
    · exact absurd (show addE 16 (raw ts1).length 3 (1 + ((([104, 105] : List UInt8).length + 7) / 8 : Nat)) = 0 by decide) k1
    rw [pack_hi] at H3 F3
    have H3' : HpX w3 g mb Aw3 cw3 Aa3 ca3 16 (raw ts2) (adr 0 ts2) 0 (fun _ => none) := H3
    have F3' : Fits 16 ts2 := F3
    have B3 := Lib.hid (B2.out.trans (T3.below HF2.out B2.out.size))
    have HB := Lib.hid (bytes_yes (p := ts1) (t := ⟨3, [2, 26984], 0⟩) (r := []) H3' F3')
    have HH := Lib.hid H3'
    clear H3 F3 H3' F3' T3 S3
    go_wp2_with fail
    refine HB.out.mono ?_
    rintro e w4 ⟨rfl, hb4⟩
    have B4 := Lib.hid (B3.out.trans (hb4.mono B3.out.size))
    have H4 := HH.out.beside hb4
    have HU := Lib.hid (used_any H4)
    have HR := Lib.hid (raw_any H4 (by decide))
    have e1 : bytesE [2, 26984] = ([104, 105], 0) := by decide
    have e2 : (raw ts2).length = 5 := by decide
    rw [e2] at HU
    clear H4 hb4
    go_wp2_with fail
    refine HU.out.mono ?_
    rintro e w5 ⟨rfl, rfl⟩
    go_wp2_with fail
    refine HR.out.mono ?_
    rintro e w5 ⟨v5, rfl, ho5, hb5⟩
    obtain ⟨A5, c5, rfl, _⟩ := own_slice ho5
    have B5 := Lib.hid (B4.out.trans (hb5.mono B4.out.size))
    have hal : Below w5.heap.size w5 (w5.alloc (.cells #[.int .i64 131073, .int .i64 0, .int .i64 196610, .int .i64 2, .int .i64 26984] 2)) := (Below.refl _ _).alloc (Nat.le_refl _) _
    have HS := Lib.hid (same_any A5 (some ⟨w5.heap.size, 0, none⟩) (raw ts2).length 5 c5 5 (raw ts2) [131073, 0, 196610, 2, 26984] (w5.alloc (.cells #[.int .i64 131073, .int .i64 0, .int .i64 196610, .int .i64 2, .int .i64 26984] 2)) rfl rfl (by decide) (by decide) ((own_rds ho5).below hal) (rds_new w5 #[.int .i64 131073, .int .i64 0, .int .i64 196610, .int .i64 2, .int .i64 26984] 2))
    rw [decide_eq_true (show raw ts2 = [131073, 0, 196610, 2, 26984] by decide), e2] at HS
    have B6 := Lib.hid (B5.out.trans (hal.mono B5.out.size))
    rw [e2]
    clear ho5 hb5 hal
    go_wp2_with fail
    refine HS.out.mono ?_
    rintro e w6 ⟨rfl, q, rfl⟩
    go_wp2_with fail
    go_ret
    exact ⟨rfl, drawnN B6.out q⟩
  · exact absurd ⟨by omega, by omega⟩ h

end HpK
end Go.Proofs.Ytfmodaelpldpfaa
