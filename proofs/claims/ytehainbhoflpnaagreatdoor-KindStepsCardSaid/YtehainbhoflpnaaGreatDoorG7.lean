/-
  Plain facts on instructions: names, kinds, and what a search for a name gives: no program is loaded here.
  ins.Kind, Name, Find and the document's own answers to them: what each call returns, where the table lies as the program's text lays it.
  The document's own answers on names and kinds of instructions: what each call returns.
  Whether code can be: ins.Check and the document's own answer: what each call returns.
  ins.Check and the document's own: what each call returns, for all code, constants and locals.
  The document's own Check: what it returns, for all code, constants and locals.
  Two codes held against each other: what the document's Same returns.
-/
import Derived.Below
import Derived.Test.YtehainbhoflpnaaGreatDoorProg
import Derived.Test.YtehainbhoflpnaaGreatDoorG1
import Derived.WalkKit
import Derived.LoopTactic
import Derived.WalkSpells
import Derived.Lib.Hide
import Derived.Test.YtehainbhoflpnaaGreatDoorG2
import Derived.Outline
import Derived.Deep.QuietTactic
import Derived.BigQuiet
import Derived.Laws.StructEq
namespace Go.Proofs.YtehainbhoflpnaaGreatDoor
namespace InsM

/-- name and kind of each instruction, by number -/
def rowsL : List (List UInt8 × Int) := [([110, 111, 112], 0), ([105, 110, 116], 1), ([115, 116, 114], 2), ([116, 114, 117, 101], 0), ([102, 97, 108, 115, 101], 0), ([110, 117, 108, 108], 0), ([108, 111, 97, 100], 6), ([115, 116, 111, 114, 101], 6), ([112, 111, 112], 0), ([100, 117, 112], 0), ([97, 100, 100], 0), ([115, 117, 98], 0), ([109, 117, 108], 0), ([100, 105, 118], 0), ([114, 101, 109], 0), ([110, 101, 103], 0), ([110, 111, 116], 0), ([108, 116], 0), ([108, 101], 0), ([101, 113, 105], 0), ([101, 113, 98], 0), ([101, 113, 114], 0), ([106, 117, 109, 112], 7), ([106, 117, 109, 112, 116], 7), ([106, 117, 109, 112, 102], 7), ([110, 101, 119], 3), ([103, 101, 116, 102], 4), ([112, 117, 116, 102], 4), ([97, 114, 114], 3), ([97, 108, 111, 97, 100], 0), ([97, 115, 116, 111, 114, 101], 0), ([97, 108, 101, 110], 0), ([99, 97, 108, 108], 5), ([114, 101, 116], 0), ([114, 101, 116, 118], 0), ([116, 104, 114, 111, 119], 0), ([101, 110, 116, 101, 114], 0), ([101, 120, 105, 116], 0), ([99, 97, 115, 116], 3), ([105, 115], 3), ([112, 114, 105, 110, 116], 0), ([114, 101, 97, 100], 0), ([106, 111, 105, 110], 0), ([115, 108, 101, 110], 0), ([115, 112, 97, 119, 110], 0), ([111, 108, 100], 4)]
def nameN (k : Nat) : List UInt8 := (rowsL.getD k ([], -1)).1
def kindN (k : Nat) : Int := (rowsL.getD k ([], -1)).2
def kindI (op : Int) : Int := if 0 ≤ op ∧ op < 46 then kindN op.toNat else -1
def nameI (op : Int) : List UInt8 := if 0 ≤ op ∧ op < 46 then nameN op.toNat else []
/-- which instruction has a name -/
def findI (s : List UInt8) : Int := match (List.range 46).find? (fun k => nameN k == s) with
  | some k => (k : Int)
  | none => -1

theorem kind_out {op : Int} (h : ¬ (0 ≤ op ∧ op < 46)) : kindI op = -1 := by unfold kindI; rw [if_neg h]
theorem kind_in {k : Nat} (h : k < 46) : kindI (k : Int) = kindN k := by unfold kindI; rw [if_pos (by omega)]; simp
theorem name_out {op : Int} (h : ¬ (0 ≤ op ∧ op < 46)) : nameI op = [] := by unfold nameI; rw [if_neg h]
theorem name_in {k : Nat} (h : k < 46) : nameI (k : Int) = nameN k := by unfold nameI; rw [if_pos (by omega)]; simp

theorem find_none {s : List UInt8} (h : ∀ j, j < 46 → nameN j ≠ s) : findI s = -1 := by
  unfold findI
  have : (List.range 46).find? (fun k => nameN k == s) = none := by
    rw [List.find?_eq_none]
    intro k hk
    have := h k (List.mem_range.1 hk)
    simpa using this
  rw [this]
theorem find_range {s : List UInt8} {k : Nat} : ∀ n, k < n → (∀ j, j < k → nameN j ≠ s) → nameN k = s → (List.range n).find? (fun k => nameN k == s) = some k := by
  intro n hn hb hk
  rw [List.find?_eq_some_iff_getElem]
  refine ⟨by simpa using hk, k, by simpa using hn, by simp, ?_⟩
  intro j hj
  simpa using hb j hj
theorem find_at {s : List UInt8} {k : Nat} (hk : k < 46) (hb : ∀ j, j < k → nameN j ≠ s) (h : nameN k = s) : findI s = (k : Int) := by
  unfold findI
  rw [find_range 46 hk hb h]

theorem kindN_range : ∀ k, k < 46 → 0 ≤ kindN k ∧ kindN k ≤ 7 := by decide
theorem kind_range (op : Int) : -1 ≤ kindI op ∧ kindI op ≤ 7 := by
  unfold kindI
  split
  · rename_i h
    have := kindN_range op.toNat (by omega)
    omega
  · omega
theorem name_ne : ∀ k, k < 46 → nameN k ≠ [] := by decide
/-- the kinds, as a switch has them -/
theorem kinds_listed : ∀ k, k < 46 → (k = 1 ∨ k = 2 ∨ k = 25 ∨ k = 28 ∨ k = 38 ∨ k = 39 ∨ k = 26 ∨ k = 27 ∨ k = 45 ∨ k = 32 ∨ k = 6 ∨ k = 7 ∨ k = 22 ∨ k = 23 ∨ k = 24) ∨ kindN k = 0 := by decide
end InsM
end Go.Proofs.YtehainbhoflpnaaGreatDoor

namespace Go.Proofs.YtehainbhoflpnaaGreatDoor
namespace InsA
open Go.RowKit InsM Base

/-- a text from its bytes -/
def str (l : List UInt8) : Value := .string ⟨l.toArray⟩

/-- the table lies as the text lays it -/
def Laid (w : World) : Prop := 0 < w.heap.size ∧ ∀ k, k < 46 → w.cell? ⟨0, k * 2, none⟩ = some (.string ⟨(nameN k).toArray⟩) ∧ w.cell? ⟨0, k * 2 + 1, none⟩ = some (.int .i64 (kindN k))

theorem Laid.below {w w' : World} {B : Nat} (h : Laid w) (hb : Below B w w') (hB : 0 < B) : Laid w' :=
  ⟨Nat.lt_of_lt_of_le h.1 hb.size, fun k hk => ⟨(hb.cell (p := ⟨0, k * 2, none⟩) hB).trans (h.2 k hk).1, (hb.cell (p := ⟨0, k * 2 + 1, none⟩) hB).trans (h.2 k hk).2⟩⟩

theorem ret_int {k : IntKind} {a b : Int} (h : a = b) : Ending.returned (.int k a) = .returned (.int k b) := by rw [h]
theorem ret_bool {a b : Bool} (h : a = b) : Ending.returned (.bool a) = .returned (.bool b) := by rw [h]
theorem ret_str {a b : List UInt8} (h : a = b) : Ending.returned (.string ⟨a.toArray⟩) = .returned (.string ⟨b.toArray⟩) := by rw [h]

def inB (n m : Int) : Bool := decide (0 ≤ n ∧ n < m)

theorem within_any (n m : Int) (w : World) :
    Calls Tryz.prog 209 #[.int .i64 n, .int .i64 m] w fun e w' => e = .returned (.bool (inB n m)) ∧ w = w' := by
  by_cases h : 0 ≤ n
  · by_cases h2 : n < m
    all_goals
      go_enter Tryz.func209, Tryz.ntmps209
      go_wp2
      go_ret
      exact ⟨ret_bool (by rw [Bool.eq_iff_iff]; simp [inB]; omega), rfl⟩
  · go_enter Tryz.func209, Tryz.ntmps209
    go_wp2
    go_ret
    exact ⟨ret_bool (by rw [Bool.eq_iff_iff]; simp [inB]; omega), rfl⟩

theorem in_t {n m : Int} (h : 0 ≤ n ∧ n < m) : inB n m = true := decide_eq_true h
theorem in_f {n m : Int} (h : ¬ (0 ≤ n ∧ n < m)) : inB n m = false := decide_eq_false h

theorem kind_any (op : Int) (w : World) (hl : Laid w) :
    Calls Tryz.prog 208 #[.int .i64 op] w fun e w' => e = .returned (.int .i64 (kindI op)) ∧ w = w' := by
  by_cases h : 0 ≤ op ∧ op < 46
  · obtain ⟨k, rfl⟩ : ∃ k : Nat, op = (k : Int) := ⟨op.toNat, by omega⟩
    have hk : k < 46 := by omega
    have hc := (hl.2 k hk).2
    have hi := in_t h
    have H := Lib.hid (kind_in hk)
    clear h hl
    go_enter Tryz.func208, Tryz.ntmps208
    go_wp2_with (go_at_call 209; refine (within_any _ _ _).mono ?_; rw [hi]; rintro e w' ⟨rfl, rfl⟩)
    go_ret
    exact ⟨ret_int H.out.symm, rfl⟩
  · have hi := in_f h
    have H := Lib.hid (kind_out h)
    clear h hl
    go_enter Tryz.func208, Tryz.ntmps208
    go_wp2_with (go_at_call 209; refine (within_any _ _ _).mono ?_; rw [hi]; rintro e w' ⟨rfl, rfl⟩)
    go_ret
    exact ⟨ret_int H.out.symm, rfl⟩


end InsA
end Go.Proofs.YtehainbhoflpnaaGreatDoor

namespace Go.Proofs.YtehainbhoflpnaaGreatDoor
namespace InsB
open Go.RowKit InsM Base InsA

def namesV : List Value := (List.range 46).map fun k => str (nameN k)

/-- names(): a slice of all names, in new memory -/
def GivesNames (w : World) (e : Ending) (w' : World) : Prop :=
  ∃ b, e = .returned (.slice (some ⟨b, 0, none⟩) 46 46) ∧ b < w'.heap.size ∧ (∀ k, k < 46 → w'.cell? ⟨b, k, none⟩ = some (.string ⟨(nameN k).toArray⟩)) ∧ Below w.heap.size w w'

set_option maxRecDepth 100000 in
theorem names_any (w : World) : Calls Tryz.prog 116 #[] w (GivesNames w) := by
  go_enter Tryz.func116, Tryz.ntmps116
  go_wp2
  go_ret
  refine ⟨w.heap.size, rfl, by simp, fun k hk => ?_, (Below.refl _ _).alloc (Nat.le_refl _) _⟩
  show ((w.alloc (.cells namesV.toArray 9)).cell? ⟨w.heap.size, k, none⟩) = _
  rw [cell_of_row _ _ k namesV.toArray 9 (0, 0) (heap_alloc_new w _)]
  simp [namesV, str, hk]

/-- a call hands back a value; it makes memory -/
def GivesB (w : World) (v : Value) (e : Ending) (w' : World) : Prop := e = .returned v ∧ Below w.heap.size w w'

set_option maxRecDepth 100000 in
theorem refName_any (op : Int) (w : World) :
    Calls Tryz.prog 55 #[.int .i64 op] w (GivesB w (.string ⟨(nameI op).toArray⟩)) := by
  by_cases h0 : op < 0
  · have H := Lib.hid (name_out (op := op) (by omega))
    go_enter Tryz.func55, Tryz.ntmps55
    go_wp2
    go_ret
    exact ⟨ret_str H.out.symm, Below.refl _ _⟩
  · by_cases h1 : 46 ≤ op
    · have H := Lib.hid (name_out (op := op) (by omega))
      go_enter Tryz.func55, Tryz.ntmps55
      go_wp2_with (go_at_call 116; refine (names_any _).mono ?_; rintro e w1 ⟨b, rfl, hb, hc, hbel⟩; have Hbel := Lib.hid hbel; clear hc hbel)
      go_ret
      exact ⟨ret_str H.out.symm, Hbel.out⟩
    · obtain ⟨k, rfl⟩ : ∃ k : Nat, op = (k : Int) := ⟨op.toNat, by omega⟩
      have hk : k < 46 := by omega
      have H := Lib.hid (name_in hk)
      go_enter Tryz.func55, Tryz.ntmps55
      go_wp2_with fail
      refine (names_any _).mono ?_
      rintro e w1 ⟨b, rfl, hb, hc, hbel⟩
      have Hbel := Lib.hid hbel
      have hsz := hbel.size
      clear hc hbel
      go_wp2_with fail
      refine (names_any _).mono ?_
      rintro e w2 ⟨b2, rfl, hb2, hc2, hbel2⟩
      have Hbel2 := Lib.hid (Hbel.out.trans (hbel2.mono hsz))
      have hc3 := hc2 k hk
      clear hc2 hbel2
      go_wp2_with fail
      go_ret
      exact ⟨ret_str H.out.symm, Hbel2.out⟩


theorem listed {op : Int} (h : kindI op ≠ 0) (h2 : 0 ≤ op ∧ op < 46) : op = 1 ∨ op = 2 ∨ op = 25 ∨ op = 28 ∨ op = 38 ∨ op = 39 ∨ op = 26 ∨ op = 27 ∨ op = 45 ∨ op = 32 ∨ op = 6 ∨ op = 7 ∨ op = 22 ∨ op = 23 ∨ op = 24 := by
  have := kinds_listed op.toNat (by omega)
  unfold kindI at h
  rw [if_pos h2] at h
  rcases this with h' | h'
  · omega
  · exact absurd h' h

set_option maxRecDepth 100000 in
theorem refKind_any (op : Int) (w : World) :
    Calls Tryz.prog 26 #[.int .i64 op] w (GivesB w (.int .i64 (kindI op))) := by
  by_cases hin : 0 ≤ op ∧ op < 46
  · by_cases hk : kindI op = 0
    · have hne : (nameI op == []) = false := by
        obtain ⟨k, rfl⟩ : ∃ k : Nat, op = (k : Int) := ⟨op.toNat, by omega⟩
        rw [name_in (by omega)]
        simpa using name_ne k (by omega)
      have n1 : ∀ n : Int, kindI n ≠ 0 → (op == n) = false := fun n hn => by
        simp only [beq_eq_false_iff_ne]
        rintro rfl
        exact hn hk
      have a1 := n1 1 (by decide)
      have a2 := n1 2 (by decide)
      have a25 := n1 25 (by decide)
      have a28 := n1 28 (by decide)
      have a38 := n1 38 (by decide)
      have a39 := n1 39 (by decide)
      have a26 := n1 26 (by decide)
      have a27 := n1 27 (by decide)
      have a45 := n1 45 (by decide)
      have a32 := n1 32 (by decide)
      have a6 := n1 6 (by decide)
      have a7 := n1 7 (by decide)
      have a22 := n1 22 (by decide)
      have a23 := n1 23 (by decide)
      have a24 := n1 24 (by decide)
      have Hk := Lib.hid hk
      clear hk n1 hin
      generalize hN : nameI op = N at hne
      have HN := Lib.hid hN
      clear hN
      go_enter Tryz.func26, Tryz.ntmps26
      go_wp2_with (go_at_call 55; refine (refName_any _ _).mono ?_; rw [HN.out]; rintro e w1 ⟨rfl, hb⟩; have Hb := Lib.hid hb; clear hb)
      go_ret
      exact ⟨ret_int Hk.out.symm, Hb.out⟩
    · rcases listed hk hin with rfl | rfl | rfl | rfl | rfl | rfl | rfl | rfl | rfl | rfl | rfl | rfl | rfl | rfl | rfl
      all_goals
        clear hin hk
        go_enter Tryz.func26, Tryz.ntmps26
        go_wp2
        go_ret
        exact ⟨ret_int (by decide), Below.refl _ _⟩
  · have H := Lib.hid (kind_out hin)
    have hN := name_out hin
    have n1 : ∀ n : Int, 0 ≤ n ∧ n < 46 → (op == n) = false := fun n hn => by
      simp only [beq_eq_false_iff_ne]
      rintro rfl
      exact hin hn
    have a1 := n1 1 (by decide)
    have a2 := n1 2 (by decide)
    have a25 := n1 25 (by decide)
    have a28 := n1 28 (by decide)
    have a38 := n1 38 (by decide)
    have a39 := n1 39 (by decide)
    have a26 := n1 26 (by decide)
    have a27 := n1 27 (by decide)
    have a45 := n1 45 (by decide)
    have a32 := n1 32 (by decide)
    have a6 := n1 6 (by decide)
    have a7 := n1 7 (by decide)
    have a22 := n1 22 (by decide)
    have a23 := n1 23 (by decide)
    have a24 := n1 24 (by decide)
    have HN := Lib.hid hN
    clear n1 hin hN
    go_enter Tryz.func26, Tryz.ntmps26
    go_wp2_with (go_at_call 55; refine (refName_any _ _).mono ?_; rw [HN.out]; rintro e w1 ⟨rfl, hb⟩; have Hb := Lib.hid hb; clear hb)
    go_ret
    exact ⟨ret_int H.out.symm, Hb.out⟩

end InsB
end Go.Proofs.YtehainbhoflpnaaGreatDoor

namespace Go.Proofs.YtehainbhoflpnaaGreatDoor
namespace InsC
open Go.RowKit InsM Base InsA InsB Stru

/-- whether an instruction can be -/
def canB (x : InsT) (cs : List Cst) (many locals : Int) : Bool :=
  if kindI x.1 = -1 then false
  else if kindI x.1 = 0 then x.2 == 0
  else if kindI x.1 = 6 then inB x.2 locals
  else if kindI x.1 = 7 then inB x.2 many
  else match cs[x.2.toNat]? with
    | some c => decide (0 ≤ x.2) && (c.kind == kindI x.1)
    | none => false

theorem Laid.alloc {w : World} (h : Laid w) (o : Obj) : Laid (w.alloc o) := h.below ((Below.refl w.heap.size w).alloc (Nat.le_refl _) o) h.1

theorem can_any (op a : Int) (A : Option Addr) (m c : Nat) (cs : List Cst) (many locals : Int) (w : World) (hl : Laid w) (hcs : IsCsts w A m c cs) :
    Calls Tryz.prog 200 #[.agg #[.int .i64 op, .int .i64 a], .slice A m c, .int .i64 many, .int .i64 locals] w (GivesB w (.bool (canB (op, a) cs many locals))) := by
  have Hl := Lib.hid (Laid.alloc hl (.cells #[.int .i64 op, .int .i64 a] 24))
  have hr := kind_range op
  have Hcan := Lib.hid (show canB (op, a) cs many locals = canB (op, a) cs many locals from rfl)
  obtain ⟨K, hK⟩ : ∃ K, K = kindI op := ⟨_, rfl⟩
  rw [← hK] at hr
  have HK := Lib.hid hK
  have Hm := Lib.hid hcs.len
  have Hr := Lib.hid hcs.rds
  clear hK hl
  have hB := (Below.refl w.heap.size w).alloc (Nat.le_refl _) (.cells #[.int .i64 op, .int .i64 a] 24)
  have HB := Lib.hid hB
  clear hB hcs
  by_cases h1 : K = -1
  · subst h1
    have H : canB (op, a) cs many locals = false := by unfold canB; rw [← HK.out]; rfl
    have H := Lib.hid H
    go_enter Tryz.func200, Tryz.ntmps200
    go_wp2_with (go_at_call 208; refine (kind_any _ _ Hl.out).mono ?_; rw [← HK.out]; rintro e w' ⟨rfl, rfl⟩)
    go_ret
    exact ⟨ret_bool H.out.symm, HB.out⟩
  · by_cases h2 : K = 0
    · subst h2
      have H : canB (op, a) cs many locals = (a == 0) := by unfold canB; rw [← HK.out]; rfl
      have H := Lib.hid H
      go_enter Tryz.func200, Tryz.ntmps200
      go_wp2_with (go_at_call 208; refine (kind_any _ _ Hl.out).mono ?_; rw [← HK.out]; rintro e w' ⟨rfl, rfl⟩)
      go_ret
      exact ⟨ret_bool H.out.symm, HB.out⟩
    · by_cases h3 : K = 6
      · subst h3
        have H : canB (op, a) cs many locals = inB a locals := by unfold canB; rw [← HK.out]; rfl
        have H := Lib.hid H
        go_enter Tryz.func200, Tryz.ntmps200
        go_wp2_with (first
          | (go_at_call 208; refine (kind_any _ _ Hl.out).mono ?_; rw [← HK.out]; rintro e w' ⟨rfl, rfl⟩)
          | (go_at_call 209; refine (within_any _ _ _).mono ?_; rintro e w' ⟨rfl, rfl⟩))
        go_ret
        exact ⟨ret_bool H.out.symm, HB.out⟩
      · by_cases h4 : K = 7
        · subst h4
          have H : canB (op, a) cs many locals = inB a many := by unfold canB; rw [← HK.out]; rfl
          have H := Lib.hid H
          go_enter Tryz.func200, Tryz.ntmps200
          go_wp2_with (first
            | (go_at_call 208; refine (kind_any _ _ Hl.out).mono ?_; rw [← HK.out]; rintro e w' ⟨rfl, rfl⟩)
            | (go_at_call 209; refine (within_any _ _ _).mono ?_; rintro e w' ⟨rfl, rfl⟩))
          go_ret
          exact ⟨ret_bool H.out.symm, HB.out⟩
        · have g1 : (K == -1) = false := by simpa using h1
          have g2 : (K == 0) = false := by simpa using h2
          have g3 : (K == 6) = false := by simpa using h3
          have g4 : (K == 7) = false := by simpa using h4
          have H0 : canB (op, a) cs many locals = match cs[a.toNat]? with
            | some c => decide (0 ≤ a) && (c.kind == K)
            | none => false := by
            unfold canB
            rw [← HK.out, if_neg h1, if_neg h2, if_neg h3, if_neg h4]
          clear h1 h2 h3 h4
          by_cases hin : 0 ≤ a ∧ a < (m : Int)
          · obtain ⟨k, rfl⟩ : ∃ k : Nat, a = (k : Int) := ⟨a.toNat, by omega⟩
            have hk : k < cs.length := by have := Hm.out; omega
            have hkm : k < m := by omega
            obtain ⟨b, o, rfl, hb, hc, _, _, _, _⟩ := csts_at (Hr.out.below HB.out) hk
            have hi := in_t hin
            have H : canB (op, (k : Int)) cs many locals = (cs[k].kind == K) := by
              rw [H0]
              simp [hk]
            have H := Lib.hid H
            clear H0 hin
            generalize hq : cs[k].kind = q at *
            clear hq
            go_enter Tryz.func200, Tryz.ntmps200
            go_wp2_with (first
              | (go_at_call 208; refine (kind_any _ _ Hl.out).mono ?_; rw [← HK.out]; rintro e w' ⟨rfl, rfl⟩)
              | (go_at_call 209; refine (within_any _ _ _).mono ?_; rw [hi]; rintro e w' ⟨rfl, rfl⟩))
            go_ret
            exact ⟨ret_bool H.out.symm, HB.out⟩
          · have hi := in_f hin
            have H : canB (op, a) cs many locals = false := by
              rw [H0]
              by_cases h0 : 0 ≤ a
              · have : cs.length ≤ a.toNat := by have := Hm.out; omega
                rw [List.getElem?_eq_none this]
              · cases cs[a.toNat]? <;> simp [h0]
            have H := Lib.hid H
            clear H0 hin
            go_enter Tryz.func200, Tryz.ntmps200
            go_wp2_with (first
              | (go_at_call 208; refine (kind_any _ _ Hl.out).mono ?_; rw [← HK.out]; rintro e w' ⟨rfl, rfl⟩)
              | (go_at_call 209; refine (within_any _ _ _).mono ?_; rw [hi]; rintro e w' ⟨rfl, rfl⟩))
            go_ret
            exact ⟨ret_bool H.out.symm, HB.out⟩

end InsC
end Go.Proofs.YtehainbhoflpnaaGreatDoor

namespace Go.Proofs.YtehainbhoflpnaaGreatDoor
namespace InsD
open Go.RowKit InsM Base InsA InsB Stru InsC

/-- the first place that can not be; the error's number -/
def checkI (l : List InsT) (cs : List Cst) (locals : Int) : Int × Int :=
  if l.length < 1 ∨ 512 < l.length then (0, 6)
  else match (List.range l.length).find? (fun k => !canB (l.getD k (0, 0)) cs (l.length : Int) locals) with
    | some k => ((k : Int), 12)
    | none => (0, 0)

def twoN (r : Int × Int) : Value := .tuple #[.int .i64 r.1, .int .i64 r.2]
theorem ret2N {r : Int × Int} {a b : Int} (h : r = (a, b)) : Ending.returned (.tuple #[.int .i64 a, .int .i64 b]) = .returned (twoN r) := by subst h; rfl

theorem find_first {p : Nat → Bool} {k : Nat} : ∀ n, k < n → (∀ j, j < k → p j = false) → p k = true → (List.range n).find? p = some k := by
  intro n hn hb hk
  rw [List.find?_eq_some_iff_getElem]
  refine ⟨hk, k, by simpa using hn, by simp, ?_⟩
  intro j hj
  simpa using hb j hj
theorem find_no {p : Nat → Bool} (n : Nat) (h : ∀ j, j < n → p j = false) : (List.range n).find? p = none := by
  rw [List.find?_eq_none]
  intro k hk
  simpa using h k (List.mem_range.1 hk)

theorem check_size {l : List InsT} {cs : List Cst} {locals : Int} (h : l.length < 1 ∨ 512 < l.length) : checkI l cs locals = (0, 6) := by unfold checkI; rw [if_pos h]
theorem check_at {l : List InsT} {cs : List Cst} {locals : Int} (h : ¬ (l.length < 1 ∨ 512 < l.length)) {k : Nat} (hk : k < l.length) (hb : ∀ j (hj : j < l.length), j < k → canB l[j] cs (l.length : Int) locals = true) (h2 : canB l[k] cs (l.length : Int) locals = false) : checkI l cs locals = ((k : Int), 12) := by
  have e := find_first (p := fun k => !canB (l.getD k (0, 0)) cs (l.length : Int) locals) (k := k) l.length hk (fun j hj => by
    have : j < l.length := by omega
    rw [List.getD_eq_getElem?_getD, List.getElem?_eq_getElem this]
    simp [hb j this hj]) (by
    rw [List.getD_eq_getElem?_getD, List.getElem?_eq_getElem hk]
    simp [h2])
  unfold checkI
  rw [if_neg h, e]
theorem check_ok {l : List InsT} {cs : List Cst} {locals : Int} (h : ¬ (l.length < 1 ∨ 512 < l.length)) (hb : ∀ j (hj : j < l.length), canB l[j] cs (l.length : Int) locals = true) : checkI l cs locals = (0, 0) := by
  have e := find_no (p := fun k => !canB (l.getD k (0, 0)) cs (l.length : Int) locals) l.length (fun j hj => by
    rw [List.getD_eq_getElem?_getD, List.getElem?_eq_getElem hj]
    simp [hb j hj])
  unfold checkI
  rw [if_neg h, e]

/-- the loop's way -/
def Rel (w : World) (l : List InsT) (cs : List Cst) (locals : Int) (i : Value) (wr : World) : Prop :=
  ∃ k : Nat, k ≤ l.length ∧ i = .int .i64 k ∧ (∀ j (hj : j < l.length), j < k → canB l[j] cs (l.length : Int) locals = true) ∧ Below w.heap.size w wr

set_option maxRecDepth 100000 in
set_option maxHeartbeats 1000000 in
theorem check_any (A : Option Addr) (m c : Nat) (l : List InsT) (B : Option Addr) (mb cb : Nat) (cs : List Cst) (locals : Int) (w : World) (hl : Laid w) (h : IsCode w A m c l) (hcs : IsCsts w B mb cb cs) :
    Calls Tryz.prog 175 #[.slice A m c, .slice B mb cb, .int .i64 locals] w (GivesB w (twoN (checkI l cs locals))) := by
  obtain ⟨hm, hle, hmx, hr, _⟩ := h
  have hml : l.length ≤ m := Nat.le_of_eq hm.symm
  have hml2 : m ≤ l.length := Nat.le_of_eq hm
  unfold maxLen at hmx
  have Hl := Lib.hid hl
  have Hcs : Hid (IsCsts w B mb cb cs) := hcs
  have Hr := Lib.hid hr
  have Hm := Lib.hid hm
  clear hm hr hcs hl
  by_cases hs : l.length < 1 ∨ 512 < l.length
  · have H := Lib.hid (check_size (cs := cs) (locals := locals) hs)
    rcases hs with hs | hs
    all_goals
      go_enter Tryz.func175, Tryz.ntmps175
      go_wp2
      go_ret2
      exact ⟨ret2N H.out, Below.refl _ _⟩
  · have h1 : ¬ m < 1 := by omega
    have h2 : ¬ 512 < m := by omega
    go_enter Tryz.func175, Tryz.ntmps175
    go_wp2
    go_loopw [8, 9, 20] (fun _ _ i wr => Rel w l cs locals i wr) (fun _ _ i _ => m - (intOf i).toNat)
    case atStart => exact ⟨0, Nat.zero_le _, rfl, fun j _ hj => absurd hj (by omega), Below.refl _ _⟩
    case round =>
      obtain ⟨k, hk, rfl, hb, hbel⟩ := hrel
      have Hb := Lib.hid hb
      have Hbel := Lib.hid hbel
      have hsz := hbel.size
      clear hb hbel
      by_cases hlt : k < l.length
      · obtain ⟨b, o, rfl, hbk, hc0, hc1⟩ := code_at (Hr.out.below Hbel.out) hlt
        cases hcan : canB l[k] cs (l.length : Int) locals
        · have H := Lib.hid (check_at hs hlt Hb.out hcan)
          have Hcan := Lib.hid (show canB l[k] cs (m : Int) locals = false by rw [Hm.out]; exact hcan)
          clear hcan hs
          generalize hx : l[k] = x at *
          obtain ⟨op, a⟩ := x
          have Hx := Lib.hid hx
          clear hx
          go_wp2_with fail
          refine (can_any op a B mb cb cs _ _ _ (Hl.out.below (Hbel.out.alloc hsz _) Hl.out.1) (Hcs.out.below (Hbel.out.alloc hsz _))).mono ?_
          rw [Hcan.out]
          rintro e w1 ⟨rfl, hb1⟩
          have Hb1 := Lib.hid ((Hbel.out.alloc hsz _).trans (hb1.mono (by simp; omega)))
          clear hb1
          go_wp2_with fail
          go_ret2
          exact ⟨ret2N H.out, Hb1.out⟩
        · have Hcan := Lib.hid (show canB l[k] cs (m : Int) locals = true by rw [Hm.out]; exact hcan)
          have Hb2 : Hid (∀ j (hj : j < l.length), j < k + 1 → canB l[j] cs (l.length : Int) locals = true) := Lib.hid (fun j hj hjk => by
            rcases Nat.lt_succ_iff_lt_or_eq.1 hjk with h | h
            · exact Hb.out j hj h
            · subst h; exact hcan)
          clear hcan
          generalize hx : l[k] = x at *
          obtain ⟨op, a⟩ := x
          have Hx := Lib.hid hx
          clear hx
          go_wp2_with fail
          refine (can_any op a B mb cb cs _ _ _ (Hl.out.below (Hbel.out.alloc hsz _) Hl.out.1) (Hcs.out.below (Hbel.out.alloc hsz _))).mono ?_
          rw [Hcan.out]
          rintro e w1 ⟨rfl, hb1⟩
          have Hb1 := Lib.hid ((Hbel.out.alloc hsz _).trans (hb1.mono (by simp; omega)))
          clear hb1
          go_wp2_with fail
          go_roundw
          case rel => exact ⟨k + 1, by omega, by go_num, Hb2.out, Hb1.out⟩
          case measure => simp [intOf]; omega
      · have H := Lib.hid (check_ok hs (fun j hj => Hb.out j hj (by omega)))
        go_wp2
        go_ret2
        exact ⟨ret2N H.out, Hbel.out⟩

end InsD
end Go.Proofs.YtehainbhoflpnaaGreatDoor

namespace Go.Proofs.YtehainbhoflpnaaGreatDoor
namespace InsE
open Go.RowKit InsM Base InsA InsB Stru InsC InsD

/-- the walk of one instruction: its kind, and what it then comes to -/
theorem can_cases {op a : Int} {cs : List Cst} {many locals : Int} : 
    (kindI op = -1 ∧ canB (op, a) cs many locals = false) ∨
    (kindI op = 0 ∧ canB (op, a) cs many locals = (a == 0)) ∨
    ((kindI op = 1 ∨ kindI op = 2 ∨ kindI op = 3 ∨ kindI op = 4 ∨ kindI op = 5) ∧ ((¬ (0 ≤ a ∧ a < (cs.length : Int)) ∧ canB (op, a) cs many locals = false) ∨ ∃ (k : Nat) (h : k < cs.length), a = (k : Int) ∧ canB (op, a) cs many locals = (cs[k].kind == kindI op))) ∨
    (kindI op = 6 ∧ canB (op, a) cs many locals = inB a locals) ∨
    (kindI op = 7 ∧ canB (op, a) cs many locals = inB a many) := by
  have hr := kind_range op
  obtain ⟨K, hK⟩ : ∃ K, K = kindI op := ⟨_, rfl⟩
  unfold canB
  rw [← hK] at hr ⊢
  clear hK
  by_cases h1 : K = -1
  · exact .inl ⟨h1, by rw [if_pos h1]⟩
  · by_cases h2 : K = 0
    · exact .inr (.inl ⟨h2, by rw [if_neg h1, if_pos h2]⟩)
    · by_cases h3 : K = 6
      · exact .inr (.inr (.inr (.inl ⟨h3, by rw [if_neg h1, if_neg h2, if_pos h3]⟩)))
      · by_cases h4 : K = 7
        · exact .inr (.inr (.inr (.inr ⟨h4, by rw [if_neg h1, if_neg h2, if_neg h3, if_pos h4]⟩)))
        · refine .inr (.inr (.inl ⟨by omega, ?_⟩))
          rw [if_neg h1, if_neg h2, if_neg h3, if_neg h4]
          by_cases hin : 0 ≤ a ∧ a < (cs.length : Int)
          · refine .inr ⟨a.toNat, by omega, by omega, ?_⟩
            have : a.toNat < cs.length := by omega
            simp [this, hin.1]
          · refine .inl ⟨hin, ?_⟩
            by_cases h0 : 0 ≤ a
            · have : cs.length ≤ a.toNat := by omega
              rw [List.getElem?_eq_none this]
            · cases cs[a.toNat]? <;> simp [h0]

/-- a test that is false, and its fact -/
theorem eqf {a b : Int} (h : a ≠ b) : (a == b) = false := by simpa using h

set_option maxRecDepth 100000 in
set_option maxHeartbeats 4000000 in
theorem refCheck_any (A : Option Addr) (m c : Nat) (l : List InsT) (B : Option Addr) (mb cb : Nat) (cs : List Cst) (locals : Int) (w : World) (h : IsCode w A m c l) (hcs : IsCsts w B mb cb cs) :
    Calls Tryz.prog 122 #[.slice A m c, .slice B mb cb, .int .i64 locals] w (GivesB w (twoN (checkI l cs locals))) := by
  obtain ⟨hm, hle, hmx, hr, _⟩ := h
  have hml : l.length ≤ m := Nat.le_of_eq hm.symm
  have hml2 : m ≤ l.length := Nat.le_of_eq hm
  unfold maxLen at hmx
  have hmb : mb ≤ cs.length := Nat.le_of_eq hcs.len
  have hmb2 : cs.length ≤ mb := Nat.le_of_eq hcs.len.symm
  have Hcs : Hid (IsCsts w B mb cb cs) := hcs
  have Hr := Lib.hid hr
  have Hm := Lib.hid hm
  clear hm hr hcs
  by_cases hs : l.length < 1 ∨ 512 < l.length
  · have H := Lib.hid (check_size (cs := cs) (locals := locals) hs)
    rcases hs with hs | hs
    all_goals
      go_enter Tryz.func122, Tryz.ntmps122
      go_wp2
      go_ret2
      exact ⟨ret2N H.out, Below.refl _ _⟩
  · have h1 : ¬ m < 1 := by omega
    have h2 : ¬ 512 < m := by omega
    go_enter Tryz.func122, Tryz.ntmps122
    go_wp2
    go_loopw [8, 9, 10, 11] (fun i _ _ _ wr => Rel w l cs locals i wr) (fun i _ _ _ _ => m - (intOf i).toNat)
    case atStart => exact ⟨0, Nat.zero_le _, rfl, fun j _ hj => absurd hj (by omega), Below.refl _ _⟩
    case round =>
      obtain ⟨k, hk, rfl, hb, hbel⟩ := hrel
      have Hb := Lib.hid hb
      have Hbel := Lib.hid hbel
      have hsz := hbel.size
      clear hb hbel
      by_cases hlt : k < l.length
      · obtain ⟨b, o, rfl, hbk, hc0', hc1'⟩ := code_at (Hr.out.below Hbel.out) hlt
        have hfin : canB l[k] cs (l.length : Int) locals = false → Hid (checkI l cs locals = ((k : Int), 12)) := fun hcan => Lib.hid (check_at hs hlt Hb.out hcan)
        have hgo : canB l[k] cs (l.length : Int) locals = true → Hid (∀ j (hj : j < l.length), j < k + 1 → canB l[j] cs (l.length : Int) locals = true) := fun hcan => Lib.hid (fun j hj hjk => by
            rcases Nat.lt_succ_iff_lt_or_eq.1 hjk with h | h
            · exact Hb.out j hj h
            · subst h; exact hcan)
        clear hs
        generalize hx : l[k] = x at *
        obtain ⟨op, a⟩ := x
        clear hx
        have hcases := can_cases (op := op) (a := a) (cs := cs) (many := (l.length : Int)) (locals := locals)
        obtain ⟨C, hC⟩ : ∃ C, C = canB (op, a) cs (l.length : Int) locals := ⟨_, rfl⟩
        rw [← hC] at hfin hgo hcases
        have Hfin := Lib.hid hfin
        have Hgo := Lib.hid hgo
        have Hcases := Lib.hid hcases
        clear hC hfin hgo hcases
        go_wp2_with fail
        refine (refKind_any _ _).mono ?_
        rintro e w1 ⟨rfl, hb1⟩
        have hc0 : w1.cell? ⟨b, o + k * 2, none⟩ = some (.int .i64 op) := (hb1.cell (p := ⟨b, o + k * 2, none⟩) hbk).trans hc0'
        have hc1 : w1.cell? ⟨b, o + k * 2 + 1, none⟩ = some (.int .i64 a) := (hb1.cell (p := ⟨b, o + k * 2 + 1, none⟩) hbk).trans hc1'
        have Hb1 := Lib.hid (Hbel.out.trans (hb1.mono hsz))
        clear hb1 hc0' hc1'
        have hcases := Hcases.out
        generalize kindI op = K at *
        clear Hcases
        rcases hcases with ⟨rfl, rfl⟩ | ⟨rfl, rfl⟩ | ⟨hKs, hcc⟩ | ⟨rfl, rfl⟩ | ⟨rfl, rfl⟩
        · have H := Hfin.out rfl
          clear Hfin Hgo
          go_wp2_with fail
          go_ret2
          exact ⟨ret2N H.out, Hb1.out⟩
        · by_cases ha : a = 0
          · subst ha
            have H := Hgo.out rfl
            clear Hfin Hgo
            go_wp2_with fail
            go_roundw
            case rel => exact ⟨k + 1, by omega, by go_num, H.out, Hb1.out⟩
            case measure => simp [intOf]; omega
          · have ha' := eqf ha
            have H := Hfin.out ha'
            clear Hfin Hgo ha
            go_wp2_with fail
            go_ret2
            exact ⟨ret2N H.out, Hb1.out⟩
        · rcases hcc with ⟨hout, rfl⟩ | ⟨q, hq, rfl, rfl⟩
          · have H := Hfin.out rfl
            clear Hfin Hgo
            by_cases h0 : 0 ≤ a
            · have h3 : ¬ a < (mb : Int) := by omega
              clear hout
              rcases hKs with rfl | rfl | rfl | rfl | rfl
              all_goals
                go_wp2_with fail
                go_ret2
                exact ⟨ret2N H.out, Hb1.out⟩
            · clear hout
              rcases hKs with rfl | rfl | rfl | rfl | rfl
              all_goals
                go_wp2_with fail
                go_ret2
                exact ⟨ret2N H.out, Hb1.out⟩
          · obtain ⟨b2, o2, rfl, hbk2, hd, _, _, _, _⟩ := csts_at (Hcs.out.rds.below Hb1.out) hq
            have hqm : q < mb := by omega
            generalize hkd : cs[q].kind = kd at *
            have Hkd := Lib.hid hkd
            clear hkd
            cases hkk : (kd == K)
            · have H := Hfin.out hkk
              clear Hfin Hgo
              rcases hKs with rfl | rfl | rfl | rfl | rfl
              all_goals
                go_wp2_with fail
                go_ret2
                exact ⟨ret2N H.out, Hb1.out⟩
            · have H := Hgo.out hkk
              clear Hfin Hgo
              rcases hKs with rfl | rfl | rfl | rfl | rfl
              all_goals
                go_wp2_with fail
                go_roundw
                case rel => exact ⟨k + 1, by omega, by go_num, H.out, Hb1.out⟩
                case measure => simp [intOf]; omega
        · by_cases ha : 0 ≤ a
          · by_cases ha2 : a < locals
            · have H := Hgo.out (in_t ⟨ha, ha2⟩)
              clear Hfin Hgo
              go_wp2_with fail
              go_roundw
              case rel => exact ⟨k + 1, by omega, by go_num, H.out, Hb1.out⟩
              case measure => simp [intOf]; omega
            · have H := Hfin.out (in_f (by omega))
              have g5 : decide (a < locals) = false := decide_eq_false ha2
              clear Hfin Hgo
              go_wp2_with fail
              go_ret2
              exact ⟨ret2N H.out, Hb1.out⟩
          · have H := Hfin.out (in_f (by omega))
            clear Hfin Hgo
            go_wp2_with fail
            go_ret2
            exact ⟨ret2N H.out, Hb1.out⟩
        · by_cases ha : 0 ≤ a
          · by_cases ha2 : a < (l.length : Int)
            · have H := Hgo.out (in_t ⟨ha, ha2⟩)
              have ha3 : a < (m : Int) := by omega
              clear Hfin Hgo ha2
              go_wp2_with fail
              go_roundw
              case rel => exact ⟨k + 1, by omega, by go_num, H.out, Hb1.out⟩
              case measure => simp [intOf]; omega
            · have H := Hfin.out (in_f (by omega))
              have ha3 : ¬ a < (m : Int) := by omega
              have g5 : decide (a < (m : Int)) = false := decide_eq_false ha3
              clear Hfin Hgo ha2
              go_wp2_with fail
              go_ret2
              exact ⟨ret2N H.out, Hb1.out⟩
          · have H := Hfin.out (in_f (by omega))
            clear Hfin Hgo
            go_wp2_with fail
            go_ret2
            exact ⟨ret2N H.out, Hb1.out⟩
      · have H := Lib.hid (check_ok hs (fun j hj => Hb.out j hj (by omega)))
        go_wp2
        go_ret2
        exact ⟨ret2N H.out, Hbel.out⟩

end InsE
end Go.Proofs.YtehainbhoflpnaaGreatDoor

namespace Go.Proofs.YtehainbhoflpnaaGreatDoor
namespace InsJ
open Go.RowKit Base Stru InsA


end InsJ
end Go.Proofs.YtehainbhoflpnaaGreatDoor
