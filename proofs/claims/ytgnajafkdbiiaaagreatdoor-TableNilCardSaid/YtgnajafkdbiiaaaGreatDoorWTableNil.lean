/-
  The law TableNil, walked: for every two texts it returns true, and nothing that was there is written.
-/
import Derived.Test.YtgnajafkdbiiaaaGreatDoorTabO
import Derived.Test.YtgnajafkdbiiaaaGreatDoorTabI
import Derived.Test.YtgnajafkdbiiaaaGreatDoorInsX
import Derived.Test.YtgnajafkdbiiaaaGreatDoorLaidM
namespace Go.Proofs.YtgnajafkdbiiaaaGreatDoor
namespace WTableNil
open Go.RowKit BinM Base Stru Kls KlsP KlsQ TabC TabM TabK TabP TabE TabB TabG TabH TabT TabU TabI
open DescM DescW DescX

set_option maxRecDepth 100000 in
set_option maxHeartbeats 4000000 in
theorem deps_nil (q nm : List UInt8) (w : World) (hL : InsA.Laid w) :
    Calls Tryz.prog 36 #[.pointer none, .string ⟨q.toArray⟩, .string ⟨nm.toArray⟩] w fun e w' => e = .returned (.slice none 0 0) ∧ Below w.heap.size w w' := by
  have HO := Lib.hid (own_nil q nm w)
  have HU := Lib.hid (fun W (hb : Below w.heap.size w W) => InsX.uses_any none 0 0 [] W (hL.below hb hL.1) ⟨rfl, Nat.le_refl _, by unfold maxLen; omega, .inl rfl, by simp⟩ (by omega))
  clear hL
  go_enter Tryz.func36, Tryz.ntmps36
  go_wp2_with fail
  refine HO.out.mono ?_
  rintro e w1 ⟨rfl, hb1⟩
  simp only [clsV, mthV, noC, noM]
  have B1 := Lib.hid hb1
  have B3 := Lib.hid ((hb1.alloc hb1.size (.cells #[.string ⟨#[]⟩, .string ⟨#[]⟩, .slice none 0 0, .slice none 0 0, .slice none 0 0] 42)).alloc (by have := hb1.size; simp; omega) (.cells #[.string ⟨#[]⟩, .string ⟨#[]⟩, .int .i64 0, .slice none 0 0, .slice none 0 0] 60))
  have MB := Lib.hid (TabZ.bx_at (w1.alloc (.cells #[.string ⟨#[]⟩, .string ⟨#[]⟩, .slice none 0 0, .slice none 0 0, .slice none 0 0] 42)) #[.string ⟨#[]⟩, .string ⟨#[]⟩, .int .i64 0, .slice none 0 0, .slice none 0 0] 60 (w1.heap.size + 1) (by simp))
  clear hb1
  go_wp2_with fail
  refine (HU.out _ B3.out).mono ?_
  rintro e w4 ⟨v4, rfl, ho4, hb4⟩
  have B4 := Lib.hid (B3.out.trans (hb4.mono B3.out.size))
  have M4 := Lib.hid (MB.out.after hb4)
  have hz : (InsT.rise (InsX.usesL [])).length = 0 := by
    have h1 : InsX.usesL [] = [] := rfl
    rw [h1]
    unfold InsT.rise
    rw [List.mergeSort_nil]
    rfl
  obtain ⟨A4, c4, rfl, _, _, _, _⟩ := ho4.slice
  rw [hz]
  have e4 := M4.out.cell 4
  have lt4 := M4.out.lt
  clear hb4 ho4 hz
  go_wp2_with fail
  have Z4 := Lib.hid (Below.refl w4.heap.size w4)
  go_loopw [10, 27] (fun v i wr => v = .slice none 0 0 ∧ i = .int .i64 0 ∧ wr = w4) (fun _ i _ => 0)
  case atStart => exact ⟨rfl, rfl, rfl⟩
  case round =>
    obtain ⟨rfl, rfl, rfl⟩ := hrel
    go_wp2_with fail
    go_loopw [10, 43] (fun v i wr => v = .slice none 0 0 ∧ i = .int .i64 0 ∧ Below w.heap.size w wr) (fun _ i _ => 0)
    case atStart => exact ⟨rfl, rfl, B4.out⟩
    case round =>
      obtain ⟨rfl, rfl, hbel⟩ := hrel
      have HB := Lib.hid hbel
      clear hbel
      go_wp2_with fail
      go_ret
      exact ⟨rfl, HB.out⟩

set_option maxRecDepth 100000 in
set_option maxHeartbeats 8000000 in
theorem walk (a0 : ByteArray) (a1 : ByteArray) (w : World) (hl : InsA.Laid w) (b0 : a0.size ≤ 140737488351232) (b1 : a1.size ≤ 140737488351232) :
    Calls Tryz.prog 7 #[.string a0, .string a1] w fun e w' => e = .returned (.bool true) ∧ Below w.heap.size w w' := by
  obtain ⟨q, rfl⟩ : ∃ l : List UInt8, a0 = ⟨l.toArray⟩ := ⟨a0.data.toList, (Lib.mk_data a0).symm⟩
  obtain ⟨nm, rfl⟩ : ∃ l : List UInt8, a1 = ⟨l.toArray⟩ := ⟨a1.data.toList, (Lib.mk_data a1).symm⟩
  have Z := Lib.hid (Below.refl w.heap.size w)
  have HLw := Lib.hid (fun W (hb : Below w.heap.size w W) => hl.below hb hl.1)
  clear b0 b1 hl
  go_enter Tryz.func7, Tryz.ntmps7
  go_wp2_with fail
  refine (class_nil q w).mono ?_; rintro e w1 ⟨y1, rfl, hb1⟩
  simp only [clsV]
  have B1 := Lib.hid (hb1.alloc hb1.size (.cells #[.string ⟨y1.name.toArray⟩, .string ⟨y1.sup.toArray⟩, .slice y1.kA y1.km y1.kc, .slice y1.fA y1.fm y1.fc, .slice y1.mA y1.mm y1.mc] 42))
  clear hb1
  go_wp2_with fail
  refine (field_nil q nm _).mono ?_; rintro e w2 ⟨rfl, hb2⟩
  have B2a := B1.out.trans (hb2.mono B1.out.size)
  have B2 := Lib.hid (B2a.alloc B2a.size (.cells #[.string ⟨#[]⟩, .string ⟨#[]⟩] 47))
  clear hb2 B2a
  go_wp2_with fail
  refine (method_nil q nm _).mono ?_; rintro e w3 ⟨rfl, hb3⟩
  have B3a := B2.out.trans (hb3.mono B2.out.size)
  have B3 := Lib.hid (B3a.alloc B3a.size (.cells #[.string ⟨#[]⟩, .string ⟨#[]⟩, .string ⟨#[]⟩] 51))
  clear hb3 B3a
  go_wp2_with fail
  refine (code_nil q nm _).mono ?_; rintro e w4 ⟨y4, rfl, hb4⟩
  simp only [mthV]
  have B4a := B3.out.trans (hb4.mono B3.out.size)
  have B4 := Lib.hid (B4a.alloc B4a.size (.cells #[.string ⟨y4.name.toArray⟩, .string ⟨y4.sig.toArray⟩, .int .i64 y4.locals, .slice y4.cA y4.cm y4.cc, .slice y4.hA y4.hm y4.hc] 60))
  have HNw := Lib.hid (TabO.new_any none [] 0 0 (w4.alloc (.cells #[.string ⟨y4.name.toArray⟩, .string ⟨y4.sig.toArray⟩, .int .i64 y4.locals, .slice y4.cA y4.cm y4.cc, .slice y4.hA y4.hm y4.hc] 60)) rfl (.inl rfl) (by simp) (HLw.out _ B4.out))
  have HWy := Lib.hid (show TabV.whyC [] = ([], 0) by kernel_rfl)
  clear hb4 B4a
  go_wp2_with fail
  refine HNw.out.mono ?_; rintro e w5 ⟨hb5, hor⟩
  have B5 := Lib.hid (B4.out.trans (hb5.mono B4.out.size))
  clear hb5
  rcases hor with ⟨_, lo, t, g, mb, n, A, c, C, f, rfl, _, hTa, _, _, _, _⟩ | ⟨hne, _⟩
  · have HTa := Lib.hid hTa
    clear hTa
    go_wp2_with fail
    refine (hier_nil _).mono ?_; rintro e w6 ⟨rfl, hb6⟩
    have B6 := Lib.hid (B5.out.trans (hb6.mono B5.out.size))
    clear hb6
    go_wp2_with fail
    refine (classes_nil _).mono ?_; rintro e w7 ⟨rfl, hb7⟩
    have B7 := Lib.hid (B6.out.trans (hb7.mono B6.out.size))
    clear hb7
    go_wp2_with fail
    refine (layout_nil q _).mono ?_; rintro e w8 ⟨rfl, hb8⟩
    have B8 := Lib.hid (B7.out.trans (hb8.mono B7.out.size))
    clear hb8
    go_wp2_with fail
    refine (methods_nil q _).mono ?_; rintro e w9 ⟨A9, c9, rfl, hb9⟩
    have B9 := Lib.hid (B8.out.trans (hb9.mono B8.out.size))
    clear hb9
    go_wp2_with fail
    refine (deps_nil q nm _ (HLw.out _ B9.out)).mono ?_; rintro e w10 ⟨rfl, hb10⟩
    have B10 := Lib.hid (B9.out.trans (hb10.mono B9.out.size))
    clear hb10
    go_wp2_with fail
    refine (changed_nil _ _).mono ?_; rintro e w11 ⟨rfl, hb11⟩
    have B11 := Lib.hid (B10.out.trans (hb11.mono B10.out.size))
    clear hb11
    go_wp2_with fail
    refine (changed_by_nil _ _).mono ?_; rintro e w12 ⟨rfl, hb12⟩
    have B12 := Lib.hid (B11.out.trans (hb12.mono B11.out.size))
    clear hb12
    go_wp2_with fail
    refine (TabZ.known_any _ (HLw.out _ B12.out)).mono ?_; rintro e w13 ⟨rfl, hb13⟩
    have B13 := Lib.hid (B12.out.trans (hb13.mono B12.out.size))
    clear hb13
    go_wp2_with fail
    go_ret
    exact ⟨rfl, B13.out⟩
  · exact absurd (by rw [HWy.out]) hne
end WTableNil
end Go.Proofs.YtgnajafkdbiiaaaGreatDoor
