/-
  The law DescRights, walked: for every text it returns true, and nothing that was there is written.
-/
import Derived.Test.YtegcahgjilebbaaDoorDescK
namespace Go.Proofs.YtegcahgjilebbaaDoor
namespace WDescRights
open Go.RowKit BinM DescM DescW DescX DescR DescS
open DescK (known_any)

theorem walk (a0 : ByteArray) (w : World) (b0 : a0.size ≤ 140737488351232) :
    Calls Tryd.prog 3 #[.string a0] w fun e w' => e = .returned (.bool true) ∧ Below w.heap.size w w' := by
  obtain ⟨l, rfl⟩ : ∃ l : List UInt8, a0 = ⟨l.toArray⟩ := ⟨a0.data.toList, (Lib.mk_data a0).symm⟩
  rw [size_mk] at b0
  have happ : ByteArray.mk #[76] ++ ByteArray.mk l.toArray ++ ByteArray.mk #[59] = ⟨(ofT l).toArray⟩ := by
    rw [show (ByteArray.mk #[76]) = ByteArray.mk [76].toArray from rfl, show (ByteArray.mk #[59]) = ByteArray.mk [59].toArray from rfl, app_mk, app_mk]; rfl
  go_enter Tryd.func3, Tryd.ntmps3
  obtain ⟨C, hC⟩ : ∃ C, C = classT l := ⟨_, rfl⟩
  have HC := Lib.hid hC
  clear hC
  obtain ⟨O, hO⟩ : ∃ O, O = ofT l := ⟨_, rfl⟩
  rw [← hO] at happ
  have HO := Lib.hid hO
  clear hO
  have hS := showT_len l
  obtain ⟨T, hT⟩ : ∃ T, T = showT l := ⟨_, rfl⟩
  have HT := Lib.hid hT
  clear hT hS
  go_wp2_with (first
    | (go_at_call 8; refine (class_any l _ (by omega)).mono ?_; rw [← HC.out]; unfold twoB; rintro e w' ⟨rfl, rfl⟩)
    | (go_at_call 9; refine (refClass_any l _ (by omega)).mono ?_; rw [← HC.out]; unfold twoB; rintro e w' ⟨rfl, rfl⟩)
    | (go_at_call 10; refine (right_any l _ (by omega)).mono ?_; rintro e w' ⟨rfl, rfl⟩)
    | (go_at_call 11; refine (refRight_any l _ (by omega)).mono ?_; rintro e w' ⟨rfl, rfl⟩)
    | (go_at_call 12; refine (ref_any l _ (by omega)).mono ?_; rintro e w' ⟨rfl, rfl⟩)
    | (go_at_call 13; refine (refRef_any l _ (by omega)).mono ?_; rintro e w' ⟨rfl, rfl⟩)
    | (go_at_call 14; refine (of_any l _ (by omega)).mono ?_; rw [← HO.out]; rintro e w' ⟨rfl, rfl⟩)
    | (go_at_call 15; refine (show_any l _ (by omega)).mono ?_; rw [← HT.out]; rintro e w' ⟨rfl, rfl⟩)
    | (go_at_call 16; refine (refShow_any l _ (by omega)).mono ?_; rw [← HT.out]; rintro e w' ⟨rfl, rfl⟩)
    | (go_at_call 17; refine (known_any _).mono ?_; rintro e w' ⟨rfl, hb⟩))
  go_ret
  exact ⟨rfl, hb⟩

end WDescRights
end Go.Proofs.YtegcahgjilebbaaDoor
