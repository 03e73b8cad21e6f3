/-
  The law DescShown, walked: for all texts it returns true, and nothing that was there is written.
-/
import Derived.Test.YtegcahgjilebbaaDoorDescZ
namespace Go.Proofs.YtegcahgjilebbaaDoor
namespace WDescShown
open Go.RowKit BinM DescM DescW DescX DescR DescS DescZ
open DescK (known_any)

theorem right_ge {t : List UInt8} (h : rightB t = true) : 1 ≤ t.length ∧ t.length ≤ 30 := by
  have := lead_le (eq_of_beq h)
  omega
def sizeV : Value → Nat | .string s => s.size | _ => 0

set_option maxHeartbeats 4000000 in
theorem walk (a0 : ByteArray) (a1 : ByteArray) (w : World) (b0 : a0.size ≤ 140737488351232) (b1 : a1.size ≤ 140737488351232) :
    Calls Tryd.prog 7 #[.string a0, .string a1] w fun e w' => e = .returned (.bool true) ∧ Below w.heap.size w w' := by
  obtain ⟨a, rfl⟩ : ∃ l : List UInt8, a0 = ⟨l.toArray⟩ := ⟨a0.data.toList, (Lib.mk_data a0).symm⟩
  obtain ⟨b, rfl⟩ : ∃ l : List UInt8, a1 = ⟨l.toArray⟩ := ⟨a1.data.toList, (Lib.mk_data a1).symm⟩
  rw [size_mk] at b0 b1
  cases hra : rightB a
  · have HA := Lib.hid hra
    clear hra
    go_enter Tryd.func7, Tryd.ntmps7
    go_wp2_with fail
    refine (right_any a _ (by omega)).mono ?_
    rw [HA.out]
    rintro e w' ⟨rfl, rfl⟩
    go_wp2_with fail
    refine (known_any _).mono ?_
    rintro e w' ⟨rfl, hb⟩
    go_wp2_with fail
    go_ret
    exact ⟨rfl, hb⟩
  cases hrb : rightB b
  · have HA := Lib.hid hra
    have HB := Lib.hid hrb
    clear hra hrb
    go_enter Tryd.func7, Tryd.ntmps7
    go_wp2_with fail
    refine (right_any a _ (by omega)).mono ?_
    rw [HA.out]
    rintro e w' ⟨rfl, rfl⟩
    go_wp2_with fail
    refine (right_any b _ (by omega)).mono ?_
    rw [HB.out]
    rintro e w' ⟨rfl, rfl⟩
    go_wp2_with fail
    refine (known_any _).mono ?_
    rintro e w' ⟨rfl, hb⟩
    go_wp2_with fail
    go_ret
    exact ⟨rfl, hb⟩
  cases hab : a == b
  case true =>
    have HA := Lib.hid hra
    have HB := Lib.hid hrb
    clear hra hrb
    go_enter Tryd.func7, Tryd.ntmps7
    go_wp2_with fail
    refine (right_any a _ (by omega)).mono ?_
    rw [HA.out]
    rintro e w' ⟨rfl, rfl⟩
    go_wp2_with fail
    refine (right_any b _ (by omega)).mono ?_
    rw [HB.out]
    rintro e w' ⟨rfl, rfl⟩
    go_wp2_with fail
    refine (known_any _).mono ?_
    rintro e w' ⟨rfl, hb⟩
    go_wp2_with fail
    go_ret
    exact ⟨rfl, hb⟩
  obtain ⟨T, hT⟩ : ∃ T, T = showT a := ⟨_, rfl⟩
  obtain ⟨U, hU⟩ : ∃ U, U = showT b := ⟨_, rfl⟩
  have HTa := Lib.hid hT.symm
  have HTb := Lib.hid hU.symm
  have HA := Lib.hid hra
  have HB := Lib.hid hrb
  cases hTU : T == U
  · clear hra hrb hT hU
    go_enter Tryd.func7, Tryd.ntmps7
    go_wp2_with fail
    refine (right_any a _ (by omega)).mono ?_
    rw [HA.out]
    rintro e w' ⟨rfl, rfl⟩
    go_wp2_with fail
    refine (right_any b _ (by omega)).mono ?_
    rw [HB.out]
    rintro e w' ⟨rfl, rfl⟩
    go_wp2_with fail
    refine (show_any a _ (by omega)).mono ?_
    rw [HTa.out]
    rintro e w' ⟨rfl, rfl⟩
    go_wp2_with fail
    refine (show_any b _ (by omega)).mono ?_
    rw [HTb.out]
    rintro e w' ⟨rfl, rfl⟩
    go_wp2_with fail
    refine (known_any _).mono ?_
    rintro e w' ⟨rfl, hb⟩
    go_wp2_with fail
    go_ret
    exact ⟨rfl, hb⟩
  have HK := Lib.hid (Kept.mk hra hrb (by simpa using hab) (by rw [← hT, ← hU]; exact eq_of_beq hTU))
  obtain rfl := eq_of_beq hTU
  clear hra hrb hT hU hTU
  go_enter Tryd.func7, Tryd.ntmps7
  go_wp2_with fail
  refine (right_any a _ (by omega)).mono ?_
  rw [HA.out]
  rintro e w' ⟨rfl, rfl⟩
  go_wp2_with fail
  refine (right_any b _ (by omega)).mono ?_
  rw [HB.out]
  rintro e w' ⟨rfl, rfl⟩
  go_wp2_with fail
  refine (show_any a _ (by omega)).mono ?_
  rw [HTa.out]
  rintro e w' ⟨rfl, rfl⟩
  go_wp2_with fail
  refine (show_any b _ (by omega)).mono ?_
  rw [HTb.out]
  rintro e w' ⟨rfl, rfl⟩
  go_wp2_with fail
  go_loopw [0, 1] (fun u v wr => wr = w ∧ ∃ x y : List UInt8, u = .string ⟨x.toArray⟩ ∧ v = .string ⟨y.toArray⟩ ∧ Kept x y) (fun u _ _ => sizeV u)
  case atStart => exact ⟨rfl, a, b, rfl, rfl, HK.out⟩
  case round =>
    obtain ⟨rfl, x, y, rfl, rfl, hkp⟩ := hrel
    have Kp := Lib.hid hkp
    have hx30 := right_ge hkp.ra
    have hy30 := right_ge hkp.rb
    have hx0 : 0 < x.length := by omega
    have hy0 : 0 < y.length := by omega
    clear hkp
    have hxa := head_at hx0 91
    have hxb := head_at hy0 91
    rw [show ((91 : UInt8).toNat : Int) = 91 from rfl] at hxa hxb
    have hi0 := fun h' => at_mk 0 hx0 h'
    have hj0 := fun h' => at_mk 0 hy0 h'
    cases ha91 : ((x[0].toNat : Int) == 91)
    · rw [ha91] at hxa
      have HE := Lib.hid (Kp.out.end_ (by intro h; rw [h.1] at hxa; simp at hxa))
      clear hxa hxb
      obtain ⟨nx, bx, hcx⟩ : ∃ n k, classT x = (n, k) := ⟨_, _, rfl⟩
      obtain ⟨ny, by_, hcy⟩ : ∃ n k, classT y = (n, k) := ⟨_, _, rfl⟩
      have HCX := Lib.hid hcx
      have HCY := Lib.hid hcy
      have he : plainB nx = !plainB ny := by have := HE.out; rw [hcx, hcy] at this; exact this
      obtain ⟨p, hp⟩ : ∃ p, p = plainB ny := ⟨_, rfl⟩
      have HPY := Lib.hid hp.symm
      have HPX := Lib.hid (he.trans (by rw [← hp]))
      clear hcx hcy he hp
      go_wp2_with fail
      refine (class_any x _ (by omega)).mono ?_
      rw [HCX.out]
      unfold twoB
      rintro e w' ⟨rfl, rfl⟩
      go_wp2_with fail
      refine (class_any y _ (by omega)).mono ?_
      rw [HCY.out]
      unfold twoB
      rintro e w' ⟨rfl, rfl⟩
      go_wp2_with fail
      refine (plain_any nx _).mono ?_
      rw [HPX.out]
      rintro e w' ⟨rfl, rfl⟩
      go_wp2_with fail
      refine (plain_any ny _).mono ?_
      rw [HPY.out]
      rintro e w' ⟨rfl, rfl⟩
      have hpp : ((!p) != p) = true := by cases p <;> rfl
      go_wp2_with fail
      refine (known_any _).mono ?_
      rintro e w' ⟨rfl, hb⟩
      go_wp2_with fail
      go_ret
      exact ⟨rfl, hb⟩
    · cases hb91 : ((y[0].toNat : Int) == 91)
      · rw [hb91] at hxb
        have HE := Lib.hid (Kp.out.end_ (by intro h; rw [h.2] at hxb; simp at hxb))
        clear hxa hxb
        obtain ⟨nx, bx, hcx⟩ : ∃ n k, classT x = (n, k) := ⟨_, _, rfl⟩
        obtain ⟨ny, by_, hcy⟩ : ∃ n k, classT y = (n, k) := ⟨_, _, rfl⟩
        have HCX := Lib.hid hcx
        have HCY := Lib.hid hcy
        have he : plainB nx = !plainB ny := by have := HE.out; rw [hcx, hcy] at this; exact this
        obtain ⟨p, hp⟩ : ∃ p, p = plainB ny := ⟨_, rfl⟩
        have HPY := Lib.hid hp.symm
        have HPX := Lib.hid (he.trans (by rw [← hp]))
        clear hcx hcy he hp
        go_wp2_with fail
        refine (class_any x _ (by omega)).mono ?_
        rw [HCX.out]
        unfold twoB
        rintro e w' ⟨rfl, rfl⟩
        go_wp2_with fail
        refine (class_any y _ (by omega)).mono ?_
        rw [HCY.out]
        unfold twoB
        rintro e w' ⟨rfl, rfl⟩
        go_wp2_with fail
        refine (plain_any nx _).mono ?_
        rw [HPX.out]
        rintro e w' ⟨rfl, rfl⟩
        go_wp2_with fail
        refine (plain_any ny _).mono ?_
        rw [HPY.out]
        rintro e w' ⟨rfl, rfl⟩
        have hpp : ((!p) != p) = true := by cases p <;> rfl
        go_wp2_with fail
        refine (known_any _).mono ?_
        rintro e w' ⟨rfl, hb⟩
        go_wp2_with fail
        go_ret
        exact ⟨rfl, hb⟩
      · rw [ha91] at hxa
        rw [hb91] at hxb
        have Hn := Lib.hid (show Kept (x.drop 1) (y.drop 1) by
          have e1 : x = 91 :: x.drop 1 := by cases x with
            | nil => simp at hx0
            | cons c t => simp at hxa; simp [hxa]
          have e2 : y = 91 :: y.drop 1 := by cases y with
            | nil => simp at hy0
            | cons c t => simp at hxb; simp [hxb]
          have := Kp.out
          rw [e1, e2] at this
          exact this.next)
        have hx1 : (ByteArray.mk x.toArray).extract 1 x.length = ⟨(x.drop 1).toArray⟩ := by rw [ext, List.take_of_length_le (by simp)]
        have hx2 : (ByteArray.mk y.toArray).extract 1 y.length = ⟨(y.drop 1).toArray⟩ := by rw [ext, List.take_of_length_le (by simp)]
        have hl1 : (x.drop 1).length < x.length := by rw [List.length_drop]; omega
        clear hxa hxb
        generalize x.drop 1 = x1 at *
        generalize y.drop 1 = y1 at *
        go_wp2_with fail
        go_roundw
        case rel => first | exact ⟨trivial, x1, y1, rfl, rfl, Hn.out⟩ | exact ⟨trivial, Hn.out⟩ | exact Hn.out
        case measure => show x1.length < x.length; omega

end WDescShown
end Go.Proofs.YtegcahgjilebbaaDoor
