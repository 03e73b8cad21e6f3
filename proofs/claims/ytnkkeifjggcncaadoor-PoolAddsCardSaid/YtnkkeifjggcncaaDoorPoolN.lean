/-
  The classes that types name: the type within an array's brackets, and whether a name is among others: what pool.innermost and the library's Contains return.
-/
import Derived.Test.YtnkkeifjggcncaaDoorPoolE
namespace Go.Proofs.YtnkkeifjggcncaaDoor
namespace PoolN
open Go.RowKit Base BinM DescM DescW DescX DescR DescP DescG Stru PoolM PoolA

/-- a type without its brackets -/
def coreD (t : List UInt8) : List UInt8 := t.drop (brk t)
def addT (l : List (List UInt8)) (x : List UInt8) : List (List UInt8) := if l.contains x then l else l ++ [x]
def addOne (l : List (List UInt8)) (t : List UInt8) : List (List UInt8) := if (classT (coreD t)).2 then addT l (classT (coreD t)).1 else l
def addAll (l ts : List (List UInt8)) : List (List UInt8) := ts.foldl addOne l
/-- the classes that a constant names -/
def namesC (c : Cst) : List (List UInt8) :=
  if rightC c then (if c.kind = 3 then addOne [] c.s else if c.kind = 4 then addOne [c.s] c.u else if c.kind = 5 then addAll [c.s] ((splitT c.u).2.1 ++ [(splitT c.u).1]) else []) else []

/-- a type of a value, or what gives none -/
def okT (t : List UInt8) : Prop := rightB t = true ∨ t = [86]

theorem brk_drop_le : ∀ (l : List UInt8) (j : Nat), j ≤ brk l → brk (l.drop j) = brk l - j
  | _, 0, _ => by simp
  | [], j + 1, h => by simp [brk] at h
  | c :: t, j + 1, h => by
    by_cases hc : c = 91
    · have e : brk (c :: t) = brk t + 1 := by simp [brk, hc]
      rw [e] at h ⊢
      rw [List.drop_succ_cons, brk_drop_le t j (by omega)]
      omega
    · have e : brk (c :: t) = 0 := by simp [brk, hc]
      rw [e] at h; omega

theorem right_drop {l : List UInt8} (h : rightB l = true) {j : Nat} (hj : j ≤ brk l) : rightB (l.drop j) = true := by
  rw [right_tail] at h ⊢
  rw [brk_drop_le l j hj, List.drop_drop, show j + (brk l - j) = brk l by omega]
  simp only [Bool.and_eq_true, decide_eq_true_eq] at h ⊢
  exact ⟨by omega, h.2⟩

theorem elem_more {l : List UInt8} (h : okT l) {j : Nat} (hj : j < brk l) : elemT (l.drop j) = (l.drop (j + 1), 0) := by
  have hb := brk_le l
  rcases h with h | rfl
  · have hr := right_drop h (j := j) (by omega)
    have hh : (l.drop j).head? = some 91 := by
      rw [List.head?_drop, List.getElem?_eq_getElem (by omega), brk_at l j (by omega) hj]
    unfold elemT elemB
    rw [hr, hh]
    simp
  · simp [brk] at hj
theorem elem_end {l : List UInt8} : elemT (l.drop (brk l)) = ([], 10) := by
  unfold elemT elemB
  have hh : ¬ (l.drop (brk l)).head? = some 91 := by
    rw [List.head?_drop]
    intro h
    have hlt : brk l < l.length := (List.getElem?_eq_some_iff.1 h).1
    rw [List.getElem?_eq_getElem hlt] at h
    exact brk_stop l hlt (by injection h)
  have : ((l.drop (brk l)).head? == some 91) = false := by simpa using hh
  rw [this, Bool.and_false]; rfl

theorem ret_str {x : ByteArray} {t : List UInt8} (h : x = ⟨t.toArray⟩) : Ending.returned (.string x) = .returned (.string ⟨t.toArray⟩) := by rw [h]

/-- the loop's way -/
def RelI (l : List UInt8) (d el e : Value) : Prop := ∃ j : Nat, j ≤ brk l ∧ d = .string ⟨(l.drop j).toArray⟩ ∧ el = .string ⟨(elemT (l.drop j)).1.toArray⟩ ∧ e = .int .i64 (elemT (l.drop j)).2

set_option maxRecDepth 100000 in
theorem innermost_any (l : List UInt8) (w : World) (h : okT l) (hl : l.length ≤ 140737488355327) :
    Calls Tryd.prog 56 #[.string ⟨l.toArray⟩] w fun e w' => e = .returned (.string ⟨(coreD l).toArray⟩) ∧ w = w' := by
  have hb := brk_le l
  have Hmore := Lib.hid (fun j (hj : j < brk l) => elem_more h hj)
  have Hend := Lib.hid (elem_end (l := l))
  have h0 := elem_any l w (by omega)
  obtain ⟨b, hbk⟩ : ∃ b, b = brk l := ⟨_, rfl⟩
  have Hbk := Lib.hid hbk
  have H0 := Lib.hid h0
  rw [← hbk] at hb
  clear h h0 hbk
  go_enter Tryd.func56, Tryd.ntmps56
  go_wp2_with fail
  refine Calls.mono H0.out ?_
  unfold twoI
  rintro e w' ⟨rfl, rfl⟩
  go_wp2_with fail
  go_loop [0, 3, 4] (fun d el e => RelI l d el e) (fun d _ _ => sizeV d)
  case atStart => exact ⟨0, Nat.zero_le _, rfl, rfl, rfl⟩
  case round =>
    obtain ⟨j, hj, rfl, rfl, rfl⟩ := hrel
    by_cases hlt : j < b
    · have e1 := Hmore.out j (by rw [← Hbk.out]; exact hlt)
      have hln : (l.drop (j + 1)).length ≤ l.length := by rw [List.length_drop]; omega
      have hlen : (l.drop (j + 1)).length < (l.drop j).length := by rw [List.length_drop, List.length_drop]; omega
      have Hlen := Lib.hid hlen
      rw [e1]
      have h1 := elem_any (l.drop (j + 1)) w (by omega)
      unfold twoI at h1
      have Hb2 := Lib.hid (show j + 1 ≤ brk l by rw [← Hbk.out]; omega)
      generalize hE : elemT (l.drop (j + 1)) = E at *
      obtain ⟨e2, e3⟩ := E
      have HE := Lib.hid hE
      have H1 := Lib.hid h1
      clear h1 e1 hE hj
      go_wp2_with fail
      refine Calls.mono H1.out ?_
      rintro e w' ⟨rfl, rfl⟩
      go_wp2_with fail
      go_round
      case rel => exact ⟨j + 1, Hb2.out, rfl, by rw [HE.out], by rw [HE.out]⟩
      case measure => exact Hlen.out
    · have hjb : j = brk l := by rw [← Hbk.out] at hj; have := Hbk.out; omega
      subst hjb
      have e1 := Hend.out
      rw [e1]
      clear e1 hj
      go_wp2_with fail
      go_ret
      exact ⟨rfl, rfl⟩

theorem contains_any (A : Option Addr) (ts : List (List UInt8)) (m c : Nat) (x : List UInt8) (w : World) (hm : m = ts.length) (hmx : m ≤ maxLen) (hr : Rds w A (ts.map str)) :
    Calls Tryd.prog 57 #[.slice A m c, .string ⟨x.toArray⟩] w fun e w' => e = .returned (.bool (ts.contains x)) ∧ w = w' := by
  subst hm
  rcases Nat.eq_zero_or_pos ts.length with h0 | h0
  · have : ts = [] := List.eq_nil_of_length_eq_zero h0
    subst this
    exact (Tryd.slices_Contains_string_empty A c ⟨x.toArray⟩ w).mono fun _ _ ⟨h1, h2⟩ => ⟨by rw [h1]; rfl, h2.symm⟩
  · rcases hr with hr | ⟨b, o, rfl, hb, hc⟩
    · have : ts.length = 0 := by simpa using congrArg List.length hr
      omega
    · refine (Tryd.slices_Contains_string b o ts.length c (ts.map fun t => ⟨t.toArray⟩) ⟨x.toArray⟩ w (by simp) (by unfold maxLen at hmx; omega) ?_).mono fun _ _ ⟨h1, h2⟩ => ⟨?_, h2.symm⟩
      · intro j hj
        have hj' : j < ts.length := by simpa using hj
        rw [hc j (str ts[j]) (by simp [hj'])]
        simp [str, List.getD_eq_getElem?_getD, hj']
      · rw [h1]
        congr 2
        rw [Bool.eq_iff_iff, Lib.containsS_iff, List.take_of_length_le (by simp), List.contains_iff_mem]
        simp only [List.mem_map]
        constructor
        · rintro ⟨t, ht, e⟩
          have : t = x := by
            have := congrArg (fun b : ByteArray => b.data.toList) e
            simpa using this
          subst this
          exact ht
        · intro hx
          exact ⟨x, hx, rfl⟩

end PoolN
end Go.Proofs.YtnkkeifjggcncaaDoor
