/-
  More functions on types, in the program: what each of them returns, for every text.
-/
import Derived.Test.YtnkkeifjggcncaaDoorDescW
import Derived.Outline
namespace Go.Proofs.YtnkkeifjggcncaaDoor
namespace DescX
open Go.RowKit BinM DescM DescW
open BinName (ret_bool)

/-- what a method can give -/
def givenB (l : List UInt8) : Bool := l == [86] || rightB l
/-- a class's things -/
def classB (l : List UInt8) : Bool := rightB l && l.head? == some 76
def classT (l : List UInt8) : List UInt8 × Bool := if classB l then ((l.drop 1).take (l.length - 2), true) else ([], false)
def arrayT (l : List UInt8) : List UInt8 × Int := if rightB l then (if brk l = 4 then ([], 27) else (91 :: l, 0)) else ([], 10)
def elemB (l : List UInt8) : Bool := rightB l && l.head? == some 91
def elemT (l : List UInt8) : List UInt8 × Int := if elemB l then (l.drop 1, 0) else ([], 10)
def refB (l : List UInt8) : Bool := l == [78] || (rightB l && !(l == [73]) && !(l == [66]))
def ofT (l : List UInt8) : List UInt8 := 76 :: l ++ [59]

def twoB (r : List UInt8 × Bool) : Value := .tuple #[.string ⟨r.1.toArray⟩, .bool r.2]
def twoI (r : List UInt8 × Int) : Value := .tuple #[.string ⟨r.1.toArray⟩, .int .i64 r.2]
theorem ret2B {r : List UInt8 × Bool} {x : ByteArray} {t : List UInt8} {b : Bool} (h : r = (t, b)) (hx : x = ⟨t.toArray⟩) : Ending.returned (.tuple #[.string x, .bool b]) = .returned (twoB r) := by subst h; subst hx; rfl
theorem ret2I {r : List UInt8 × Int} {x : ByteArray} {t : List UInt8} {b : Int} (h : r = (t, b)) (hx : x = ⟨t.toArray⟩) : Ending.returned (.tuple #[.string x, .int .i64 b]) = .returned (twoI r) := by subst h; subst hx; rfl
theorem retS {x : ByteArray} {t : List UInt8} (hx : x = ⟨t.toArray⟩) : Ending.returned (.string x) = .returned (.string ⟨t.toArray⟩) := by subst hx; rfl

theorem right_pos {l : List UInt8} (h : rightB l = true) : 1 ≤ l.length := by
  have := lead_le (eq_of_beq h); omega

theorem head_at {l : List UInt8} (h : 0 < l.length) (c : UInt8) : (l.head? == some c) = ((l[0].toNat : Int) == (c.toNat : Int)) := by
  cases l with
  | nil => simp at h
  | cons a t =>
    rw [Bool.eq_iff_iff]
    simp only [List.head?_cons, beq_iff_eq, Option.some.injEq, List.getElem_cons_zero]
    constructor
    · rintro rfl; rfl
    · intro h; exact UInt8.toNat_inj.1 (by omega)

theorem given_any (l : List UInt8) (w : World) (hl : l.length ≤ 140737488355328) :
    Calls Tryd.prog 52 #[.string ⟨l.toArray⟩] w fun e w' => e = .returned (.bool (givenB l)) ∧ w = w' := by
  cases hV : l == [86]
  · have Hfin := Lib.hid (show givenB l = rightB l by unfold givenB; rw [hV]; rfl)
    go_enter Tryd.func52, Tryd.ntmps52
    go_wp2_with (go_at_call 27; refine (right_any l _ (by omega)).mono ?_; rintro e w' ⟨rfl, rfl⟩)
    go_ret
    exact ⟨ret_bool (by rw [Hfin.out]), rfl⟩
  · have Hfin := Lib.hid (show givenB l = true by unfold givenB; rw [hV]; rfl)
    go_enter Tryd.func52, Tryd.ntmps52
    go_wp2
    go_ret
    exact ⟨ret_bool (by rw [Hfin.out]), rfl⟩

theorem app_mk (a b : List UInt8) : ByteArray.mk a.toArray ++ ByteArray.mk b.toArray = ⟨(a ++ b).toArray⟩ := by
  apply ByteArray.ext
  rw [ByteArray.data_append]
  simp


theorem at0 {l : List UInt8} (_h : 0 < l.length) (h' : 0 < (ByteArray.mk l.toArray).size) : (ByteArray.mk l.toArray)[0]'h' = l[0]'_h := rfl

/-- a type with a bracket, or a class's, is longer than a byte -/
theorem class_len {l : List UInt8} (h : rightB l = true) (h0 : 0 < l.length) (hc : l[0] = 76) : 3 ≤ l.length := by
  have hT := eq_of_beq h
  cases l with
  | nil => simp at h0
  | cons c t =>
    simp at hc
    subst hc
    have hb : brk (76 :: t) = 0 := by simp [brk]
    unfold leadT at hT
    rw [hb, if_neg (by omega), List.drop_zero, core_cons, if_neg (by decide), if_pos rfl] at hT
    by_cases h3 : semi t < t.length ∧ nameB (t.take (semi t)) = true
    · rw [if_pos h3] at hT
      simp at hT
      have := (name_ok h3.2).2.1
      have hl : (t.take (semi t)).length = semi t := by simp; omega
      simp; omega
    · rw [if_neg h3] at hT
      cases hT

theorem elem_len {l : List UInt8} (h : rightB l = true) (h0 : 0 < l.length) (hc : l[0] = 91) : 2 ≤ l.length := by
  have hT := eq_of_beq h
  have := lead_le hT
  cases l with
  | nil => simp at h0
  | cons c t =>
    simp at hc
    subst hc
    have hb : brk (91 :: t) = brk t + 1 := by simp [brk]
    simp at *
    omega

theorem class_any (l : List UInt8) (w : World) (hl : l.length ≤ 140737488355328) :
    Calls Tryd.prog 55 #[.string ⟨l.toArray⟩] w fun e w' => e = .returned (twoB (classT l)) ∧ w = w' := by
  cases hR : rightB l
  · have Hfin := Lib.hid (show classT l = ([], false) by unfold classT classB; rw [hR]; rfl)
    have HR := Lib.hid hR
    clear hR
    go_enter Tryd.func55, Tryd.ntmps55
    go_wp2_with (go_at_call 27; refine (right_any l _ (by omega)).mono ?_; rw [HR.out]; rintro e w' ⟨rfl, rfl⟩)
    go_ret2
    exact ⟨ret2B Hfin.out rfl, rfl⟩
  · have hp := right_pos hR
    have hp0 : 0 < l.length := by omega
    have hh := head_at hp0 76
    have hx0 := fun h' => at0 hp0 h'
    have HR := Lib.hid hR
    cases hc : ((l[0].toNat : Int) == 76)
    · have hc2 : ((l[0].toNat : Int) != 76) = true := by rw [bne, hc]; rfl
      have Hfin := Lib.hid (show classT l = ([], false) by unfold classT classB; rw [hR, hh]; rw [show ((76 : UInt8).toNat : Int) = 76 from rfl, hc]; rfl)
      clear hR hh
      go_enter Tryd.func55, Tryd.ntmps55
      go_wp2_with (go_at_call 27; refine (right_any l _ (by omega)).mono ?_; rw [HR.out]; rintro e w' ⟨rfl, rfl⟩)
      go_ret2
      exact ⟨ret2B Hfin.out rfl, rfl⟩
    · have hc2 : ((l[0].toNat : Int) != 76) = false := by rw [bne, hc]; rfl
      have h3 := class_len hR hp0 (by have := eq_of_beq hc; exact UInt8.toNat_inj.1 (by show l[0].toNat = 76; omega))
      have Hfin := Lib.hid (show classT l = ((l.drop 1).take (l.length - 2), true) by unfold classT classB; rw [hR, hh]; rw [show ((76 : UInt8).toNat : Int) = 76 from rfl, hc]; rfl)
      clear hR hh
      go_enter Tryd.func55, Tryd.ntmps55
      go_wp2_with (go_at_call 27; refine (right_any l _ (by omega)).mono ?_; rw [HR.out]; rintro e w' ⟨rfl, rfl⟩)
      go_ret2
      exact ⟨ret2B Hfin.out (by rw [ext]; congr 3), rfl⟩

theorem elem_any (l : List UInt8) (w : World) (hl : l.length ≤ 140737488355328) :
    Calls Tryd.prog 66 #[.string ⟨l.toArray⟩] w fun e w' => e = .returned (twoI (elemT l)) ∧ w = w' := by
  cases hR : rightB l
  · have Hfin := Lib.hid (show elemT l = ([], 10) by unfold elemT elemB; rw [hR]; rfl)
    have HR := Lib.hid hR
    clear hR
    go_enter Tryd.func66, Tryd.ntmps66
    go_wp2_with (go_at_call 27; refine (right_any l _ (by omega)).mono ?_; rw [HR.out]; rintro e w' ⟨rfl, rfl⟩)
    go_ret2
    exact ⟨ret2I Hfin.out rfl, rfl⟩
  · have hp := right_pos hR
    have hp0 : 0 < l.length := by omega
    have hh := head_at hp0 91
    have hx0 := fun h' => at0 hp0 h'
    have HR := Lib.hid hR
    cases hc : ((l[0].toNat : Int) == 91)
    · have hc2 : ((l[0].toNat : Int) != 91) = true := by rw [bne, hc]; rfl
      have Hfin := Lib.hid (show elemT l = ([], 10) by unfold elemT elemB; rw [hR, hh]; rw [show ((91 : UInt8).toNat : Int) = 91 from rfl, hc]; rfl)
      clear hR hh
      go_enter Tryd.func66, Tryd.ntmps66
      go_wp2_with (go_at_call 27; refine (right_any l _ (by omega)).mono ?_; rw [HR.out]; rintro e w' ⟨rfl, rfl⟩)
      go_ret2
      exact ⟨ret2I Hfin.out rfl, rfl⟩
    · have hc2 : ((l[0].toNat : Int) != 91) = false := by rw [bne, hc]; rfl
      have Hfin := Lib.hid (show elemT l = (l.drop 1, 0) by unfold elemT elemB; rw [hR, hh]; rw [show ((91 : UInt8).toNat : Int) = 91 from rfl, hc]; rfl)
      clear hR hh
      go_enter Tryd.func66, Tryd.ntmps66
      go_wp2_with (go_at_call 27; refine (right_any l _ (by omega)).mono ?_; rw [HR.out]; rintro e w' ⟨rfl, rfl⟩)
      go_ret2
      exact ⟨ret2I Hfin.out (by rw [ext, List.take_of_length_le (by simp)]), rfl⟩



end DescX
end Go.Proofs.YtnkkeifjggcncaaDoor
