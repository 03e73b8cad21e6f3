/-
  ins.Check and the document's own: what each call returns, for all code, constants and locals.
-/
import Derived.Test.YtaekdgbbopcpbaaDoorInsC
namespace Go.Proofs.YtaekdgbbopcpbaaDoor
namespace InsD
open Go.RowKit InsM Base InsA InsB Stru InsC

/-- the first place that can not be; the error's number -/
def checkI (l : List InsT) (cs : List Cst) (locals : Int) : Int × Int :=
  if l.length < 1 ∨ 512 < l.length then (0, 6)
  else match (List.range l.length).find? (fun k => !canB (l.getD k (0, 0)) cs (l.length : Int) locals) with
    | some k => ((k : Int), 12)
    | none => (0, 0)

def twoN (r : Int × Int) : Value := .tuple #[.int .i64 r.1, .int .i64 r.2]
theorem ret2N {r : Int × Int} {a b : Int} (h : r = (a, b)) : Ending.returned (.tuple #[.int .i64 a, .int .i64 b]) = .returned (twoN r) := by subst h; rfl

theorem find_first {p : Nat → Bool} {k : Nat} : ∀ n, k < n → (∀ j, j < k → p j = false) → p k = true → (List.range n).find? p = some k := by
  intro n hn hb hk
  rw [List.find?_eq_some_iff_getElem]
  refine ⟨hk, k, by simpa using hn, by simp, ?_⟩
  intro j hj
  simpa using hb j hj
theorem find_no {p : Nat → Bool} (n : Nat) (h : ∀ j, j < n → p j = false) : (List.range n).find? p = none := by
  rw [List.find?_eq_none]
  intro k hk
  simpa using h k (List.mem_range.1 hk)

theorem check_size {l : List InsT} {cs : List Cst} {locals : Int} (h : l.length < 1 ∨ 512 < l.length) : checkI l cs locals = (0, 6) := by unfold checkI; rw [if_pos h]
theorem check_at {l : List InsT} {cs : List Cst} {locals : Int} (h : ¬ (l.length < 1 ∨ 512 < l.length)) {k : Nat} (hk : k < l.length) (hb : ∀ j (hj : j < l.length), j < k → canB l[j] cs (l.length : Int) locals = true) (h2 : canB l[k] cs (l.length : Int) locals = false) : checkI l cs locals = ((k : Int), 12) := by
  have e := find_first (p := fun k => !canB (l.getD k (0, 0)) cs (l.length : Int) locals) (k := k) l.length hk (fun j hj => by
    have : j < l.length := by omega
    rw [List.getD_eq_getElem?_getD, List.getElem?_eq_getElem this]
    simp [hb j this hj]) (by
    rw [List.getD_eq_getElem?_getD, List.getElem?_eq_getElem hk]
    simp [h2])
  unfold checkI
  rw [if_neg h, e]
theorem check_ok {l : List InsT} {cs : List Cst} {locals : Int} (h : ¬ (l.length < 1 ∨ 512 < l.length)) (hb : ∀ j (hj : j < l.length), canB l[j] cs (l.length : Int) locals = true) : checkI l cs locals = (0, 0) := by
  have e := find_no (p := fun k => !canB (l.getD k (0, 0)) cs (l.length : Int) locals) l.length (fun j hj => by
    rw [List.getD_eq_getElem?_getD, List.getElem?_eq_getElem hj]
    simp [hb j hj])
  unfold checkI
  rw [if_neg h, e]

/-- the loop's way -/
def Rel (w : World) (l : List InsT) (cs : List Cst) (locals : Int) (i : Value) (wr : World) : Prop :=
  ∃ k : Nat, k ≤ l.length ∧ i = .int .i64 k ∧ (∀ j (hj : j < l.length), j < k → canB l[j] cs (l.length : Int) locals = true) ∧ Below w.heap.size w wr

set_option maxRecDepth 100000 in
set_option maxHeartbeats 1000000 in
theorem check_any (A : Option Addr) (m c : Nat) (l : List InsT) (B : Option Addr) (mb cb : Nat) (cs : List Cst) (locals : Int) (w : World) (hl : Laid w) (h : IsCode w A m c l) (hcs : IsCsts w B mb cb cs) :
    Calls Tryd.prog 39 #[.slice A m c, .slice B mb cb, .int .i64 locals] w (GivesB w (twoN (checkI l cs locals))) := by
  obtain ⟨hm, hle, hmx, hr, _⟩ := h
  have hml : l.length ≤ m := Nat.le_of_eq hm.symm
  have hml2 : m ≤ l.length := Nat.le_of_eq hm
  unfold maxLen at hmx
  have Hl := Lib.hid hl
  have Hcs : Hid (IsCsts w B mb cb cs) := hcs
  have Hr := Lib.hid hr
  have Hm := Lib.hid hm
  clear hm hr hcs hl
  by_cases hs : l.length < 1 ∨ 512 < l.length
  · have H := Lib.hid (check_size (cs := cs) (locals := locals) hs)
    rcases hs with hs | hs
    all_goals
      go_enter Tryd.func39, Tryd.ntmps39
      go_wp2
      go_ret2
      exact ⟨ret2N H.out, Below.refl _ _⟩
  · have h1 : ¬ m < 1 := by omega
    have h2 : ¬ 512 < m := by omega
    go_enter Tryd.func39, Tryd.ntmps39
    go_wp2
    go_loopw [8, 9, 20] (fun _ _ i wr => Rel w l cs locals i wr) (fun _ _ i _ => m - (intOf i).toNat)
    case atStart => exact ⟨0, Nat.zero_le _, rfl, fun j _ hj => absurd hj (by omega), Below.refl _ _⟩
    case round =>
      obtain ⟨k, hk, rfl, hb, hbel⟩ := hrel
      have Hb := Lib.hid hb
      have Hbel := Lib.hid hbel
      have hsz := hbel.size
      clear hb hbel
      by_cases hlt : k < l.length
      · obtain ⟨b, o, rfl, hbk, hc0, hc1⟩ := code_at (Hr.out.below Hbel.out) hlt
        cases hcan : canB l[k] cs (l.length : Int) locals
        · have H := Lib.hid (check_at hs hlt Hb.out hcan)
          have Hcan := Lib.hid (show canB l[k] cs (m : Int) locals = false by rw [Hm.out]; exact hcan)
          clear hcan hs
          generalize hx : l[k] = x at *
          obtain ⟨op, a⟩ := x
          have Hx := Lib.hid hx
          clear hx
          go_wp2_with fail
          refine (can_any op a B mb cb cs _ _ _ (Hl.out.below (Hbel.out.alloc hsz _) Hl.out.1) (Hcs.out.below (Hbel.out.alloc hsz _))).mono ?_
          rw [Hcan.out]
          rintro e w1 ⟨rfl, hb1⟩
          have Hb1 := Lib.hid ((Hbel.out.alloc hsz _).trans (hb1.mono (by simp; omega)))
          clear hb1
          go_wp2_with fail
          go_ret2
          exact ⟨ret2N H.out, Hb1.out⟩
        · have Hcan := Lib.hid (show canB l[k] cs (m : Int) locals = true by rw [Hm.out]; exact hcan)
          have Hb2 : Hid (∀ j (hj : j < l.length), j < k + 1 → canB l[j] cs (l.length : Int) locals = true) := Lib.hid (fun j hj hjk => by
            rcases Nat.lt_succ_iff_lt_or_eq.1 hjk with h | h
            · exact Hb.out j hj h
            · subst h; exact hcan)
          clear hcan
          generalize hx : l[k] = x at *
          obtain ⟨op, a⟩ := x
          have Hx := Lib.hid hx
          clear hx
          go_wp2_with fail
          refine (can_any op a B mb cb cs _ _ _ (Hl.out.below (Hbel.out.alloc hsz _) Hl.out.1) (Hcs.out.below (Hbel.out.alloc hsz _))).mono ?_
          rw [Hcan.out]
          rintro e w1 ⟨rfl, hb1⟩
          have Hb1 := Lib.hid ((Hbel.out.alloc hsz _).trans (hb1.mono (by simp; omega)))
          clear hb1
          go_wp2_with fail
          go_roundw
          case rel => exact ⟨k + 1, by omega, by go_num, Hb2.out, Hb1.out⟩
          case measure => simp [intOf]; omega
      · have H := Lib.hid (check_ok hs (fun j hj => Hb.out j hj (by omega)))
        go_wp2
        go_ret2
        exact ⟨ret2N H.out, Hbel.out⟩

end InsD
end Go.Proofs.YtaekdgbbopcpbaaDoor
