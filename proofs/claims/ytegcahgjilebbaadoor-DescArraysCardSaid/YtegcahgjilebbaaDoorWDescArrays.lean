/-
  The law DescArrays, walked: for every text it returns true, and nothing that was there is written.
-/
import Derived.Test.YtegcahgjilebbaaDoorDescK
namespace Go.Proofs.YtegcahgjilebbaaDoor
namespace WDescArrays
open Go.RowKit BinM DescM DescW DescX DescR DescS
open DescK (known_any)

theorem elem_back {l : List UInt8} (hr : rightB l = true) (hb : brk l ≠ 4) : elemT (91 :: l) = (l, 0) := by
  unfold elemT elemB
  rw [right_cons hr]
  simp [hb]

set_option maxHeartbeats 2000000 in
theorem walk (a0 : ByteArray) (w : World) (b0 : a0.size ≤ 140737488351232) :
    Calls Tryd.prog 4 #[.string a0] w fun e w' => e = .returned (.bool true) ∧ Below w.heap.size w w' := by
  obtain ⟨l, rfl⟩ : ∃ l : List UInt8, a0 = ⟨l.toArray⟩ := ⟨a0.data.toList, (Lib.mk_data a0).symm⟩
  rw [size_mk] at b0
  obtain ⟨x, k, hE⟩ : ∃ x k, elemT l = (x, k) := ⟨_, _, rfl⟩
  have HE := Lib.hid hE
  clear hE
  have hcase : (∃ n : Int, arrayT l = ([], n) ∧ (n == 0) = false) ∨ (arrayT l = (91 :: l, 0) ∧ elemT (91 :: l) = (l, 0)) := by
    unfold arrayT
    cases hr : rightB l
    · exact .inl ⟨10, rfl, rfl⟩
    · by_cases hb : brk l = 4
      · exact .inl ⟨27, by simp [hb], rfl⟩
      · exact .inr ⟨by simp [hb], elem_back hr hb⟩
  rcases hcase with ⟨n, hA, hn⟩ | ⟨hA, hZ⟩
  · have HA := Lib.hid hA
    clear hA
    go_enter Tryd.func4, Tryd.ntmps4
    go_wp2_with (first
      | (go_at_call 18; refine (array_any l _ (by omega)).mono ?_; rw [HA.out]; unfold twoI; rintro e w' ⟨rfl, rfl⟩)
      | (go_at_call 19; refine (refArray_any l _ (by omega)).mono ?_; rw [HA.out]; unfold twoI; rintro e w' ⟨rfl, rfl⟩)
      | (go_at_call 20; refine (elem_any l _ (by omega)).mono ?_; rw [HE.out]; unfold twoI; rintro e w' ⟨rfl, rfl⟩)
      | (go_at_call 21; refine (refElem_any l _ (by omega)).mono ?_; rw [HE.out]; unfold twoI; rintro e w' ⟨rfl, rfl⟩)
      | (go_at_call 17; refine (known_any _).mono ?_; rintro e w' ⟨rfl, hb⟩))
    go_ret
    exact ⟨rfl, hb⟩
  · have HA := Lib.hid hA
    have HZ := Lib.hid hZ
    clear hA hZ
    go_enter Tryd.func4, Tryd.ntmps4
    go_wp2_with fail
    refine (array_any l _ (by omega)).mono ?_
    rw [HA.out]
    unfold twoI
    rintro e w' ⟨rfl, rfl⟩
    go_wp2_with fail
    refine (refArray_any l _ (by omega)).mono ?_
    rw [HA.out]
    unfold twoI
    rintro e w' ⟨rfl, rfl⟩
    go_wp2_with fail
    refine (elem_any l _ (by omega)).mono ?_
    rw [HE.out]
    unfold twoI
    rintro e w' ⟨rfl, rfl⟩
    go_wp2_with fail
    refine (refElem_any l _ (by omega)).mono ?_
    rw [HE.out]
    unfold twoI
    rintro e w' ⟨rfl, rfl⟩
    go_wp2_with fail
    refine (elem_any (91 :: l) _ (by rw [List.length_cons]; omega)).mono ?_
    rw [HZ.out]
    unfold twoI
    rintro e w' ⟨rfl, rfl⟩
    go_wp2_with fail
    refine (known_any _).mono ?_
    rintro e w' ⟨rfl, hb⟩
    go_wp2_with fail
    go_ret
    exact ⟨rfl, hb⟩

end WDescArrays
end Go.Proofs.YtegcahgjilebbaaDoor
