/-
  More functions on types, in the program: what each of them returns, for every text.
-/
import Derived.Test.YthkkcecfenohjaaGreatDoorDescW
import Derived.Outline
namespace Go.Proofs.YthkkcecfenohjaaGreatDoor
namespace DescX
open Go.RowKit BinM DescM DescW
open BinName (ret_bool)

/-- what a method can give -/
def givenB (l : List UInt8) : Bool := l == [86] || rightB l
/-- a class's things -/
def classB (l : List UInt8) : Bool := rightB l && l.head? == some 76
def classT (l : List UInt8) : List UInt8 × Bool := if classB l then ((l.drop 1).take (l.length - 2), true) else ([], false)
def arrayT (l : List UInt8) : List UInt8 × Int := if rightB l then (if brk l = 4 then ([], 27) else (91 :: l, 0)) else ([], 10)
def elemB (l : List UInt8) : Bool := rightB l && l.head? == some 91
def elemT (l : List UInt8) : List UInt8 × Int := if elemB l then (l.drop 1, 0) else ([], 10)
def refB (l : List UInt8) : Bool := l == [78] || (rightB l && !(l == [73]) && !(l == [66]))
def ofT (l : List UInt8) : List UInt8 := 76 :: l ++ [59]

def twoB (r : List UInt8 × Bool) : Value := .tuple #[.string ⟨r.1.toArray⟩, .bool r.2]
def twoI (r : List UInt8 × Int) : Value := .tuple #[.string ⟨r.1.toArray⟩, .int .i64 r.2]
theorem ret2B {r : List UInt8 × Bool} {x : ByteArray} {t : List UInt8} {b : Bool} (h : r = (t, b)) (hx : x = ⟨t.toArray⟩) : Ending.returned (.tuple #[.string x, .bool b]) = .returned (twoB r) := by subst h; subst hx; rfl
theorem ret2I {r : List UInt8 × Int} {x : ByteArray} {t : List UInt8} {b : Int} (h : r = (t, b)) (hx : x = ⟨t.toArray⟩) : Ending.returned (.tuple #[.string x, .int .i64 b]) = .returned (twoI r) := by subst h; subst hx; rfl
theorem retS {x : ByteArray} {t : List UInt8} (hx : x = ⟨t.toArray⟩) : Ending.returned (.string x) = .returned (.string ⟨t.toArray⟩) := by subst hx; rfl

theorem right_pos {l : List UInt8} (h : rightB l = true) : 1 ≤ l.length := by
  have := lead_le (eq_of_beq h); omega

theorem head_at {l : List UInt8} (h : 0 < l.length) (c : UInt8) : (l.head? == some c) = ((l[0].toNat : Int) == (c.toNat : Int)) := by
  cases l with
  | nil => simp at h
  | cons a t =>
    rw [Bool.eq_iff_iff]
    simp only [List.head?_cons, beq_iff_eq, Option.some.injEq, List.getElem_cons_zero]
    constructor
    · rintro rfl; rfl
    · intro h; exact UInt8.toNat_inj.1 (by omega)

theorem given_any (l : List UInt8) (w : World) (hl : l.length ≤ 140737488355328) :
    Calls Tryz.prog 131 #[.string ⟨l.toArray⟩] w fun e w' => e = .returned (.bool (givenB l)) ∧ w = w' := by
  cases hV : l == [86]
  · have Hfin := Lib.hid (show givenB l = rightB l by unfold givenB; rw [hV]; rfl)
    go_enter Tryz.func131, Tryz.ntmps131
    go_wp2_with (go_at_call 94; refine (right_any l _ (by omega)).mono ?_; rintro e w' ⟨rfl, rfl⟩)
    go_ret
    exact ⟨ret_bool (by rw [Hfin.out]), rfl⟩
  · have Hfin := Lib.hid (show givenB l = true by unfold givenB; rw [hV]; rfl)
    go_enter Tryz.func131, Tryz.ntmps131
    go_wp2
    go_ret
    exact ⟨ret_bool (by rw [Hfin.out]), rfl⟩

theorem app_mk (a b : List UInt8) : ByteArray.mk a.toArray ++ ByteArray.mk b.toArray = ⟨(a ++ b).toArray⟩ := by
  apply ByteArray.ext
  rw [ByteArray.data_append]
  simp


theorem at0 {l : List UInt8} (_h : 0 < l.length) (h' : 0 < (ByteArray.mk l.toArray).size) : (ByteArray.mk l.toArray)[0]'h' = l[0]'_h := rfl

/-- a type with a bracket, or a class's, is longer than a byte -/
theorem class_len {l : List UInt8} (h : rightB l = true) (h0 : 0 < l.length) (hc : l[0] = 76) : 3 ≤ l.length := by
  have hT := eq_of_beq h
  cases l with
  | nil => simp at h0
  | cons c t =>
    simp at hc
    subst hc
    have hb : brk (76 :: t) = 0 := by simp [brk]
    unfold leadT at hT
    rw [hb, if_neg (by omega), List.drop_zero, core_cons, if_neg (by decide), if_pos rfl] at hT
    by_cases h3 : semi t < t.length ∧ nameB (t.take (semi t)) = true
    · rw [if_pos h3] at hT
      simp at hT
      have := (name_ok h3.2).2.1
      have hl : (t.take (semi t)).length = semi t := by simp; omega
      simp; omega
    · rw [if_neg h3] at hT
      cases hT

theorem elem_len {l : List UInt8} (h : rightB l = true) (h0 : 0 < l.length) (hc : l[0] = 91) : 2 ≤ l.length := by
  have hT := eq_of_beq h
  have := lead_le hT
  cases l with
  | nil => simp at h0
  | cons c t =>
    simp at hc
    subst hc
    have hb : brk (91 :: t) = brk t + 1 := by simp [brk]
    simp at *
    omega





end DescX
end Go.Proofs.YthkkcecfenohjaaGreatDoor
