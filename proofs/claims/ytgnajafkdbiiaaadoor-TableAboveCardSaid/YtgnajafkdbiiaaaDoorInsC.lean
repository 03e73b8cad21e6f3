/-
  Plain facts on instructions: names, kinds, and what a search for a name gives: no program is loaded here.
  ins.Kind, Name, Find and the document's own answers to them: what each call returns, where the table lies as the program's text lays it.
  The document's own answers on names and kinds of instructions: what each call returns.
  Whether code can be: ins.Check and the document's own answer: what each call returns.
  ins.Check and the document's own: what each call returns, for all code, constants and locals.
  The document's own Check: what it returns, for all code, constants and locals.
  Two codes held against each other: what the document's Same returns.
-/
import Derived.Below
import Derived.Test.YtgnajafkdbiiaaaDoorProg
import Derived.Test.YtgnajafkdbiiaaaDoorBinM
import Derived.WalkKit
import Derived.LoopTactic
import Derived.WalkSpells
import Derived.Lib.Hide
import Derived.Test.YtgnajafkdbiiaaaDoorBinPut
import Derived.Outline
import Derived.Test.YtgnajafkdbiiaaaDoorStru
import Derived.Deep.QuietTactic
import Derived.BigQuiet
import Derived.Laws.StructEq
namespace Go.Proofs.YtgnajafkdbiiaaaDoor
namespace InsM

/-- name and kind of each instruction, by number -/
def rowsL : List (List UInt8 × Int) := [([110, 111, 112], 0), ([105, 110, 116], 1), ([115, 116, 114], 2), ([116, 114, 117, 101], 0), ([102, 97, 108, 115, 101], 0), ([110, 117, 108, 108], 0), ([108, 111, 97, 100], 6), ([115, 116, 111, 114, 101], 6), ([112, 111, 112], 0), ([100, 117, 112], 0), ([97, 100, 100], 0), ([115, 117, 98], 0), ([109, 117, 108], 0), ([100, 105, 118], 0), ([114, 101, 109], 0), ([110, 101, 103], 0), ([110, 111, 116], 0), ([108, 116], 0), ([108, 101], 0), ([101, 113, 105], 0), ([101, 113, 98], 0), ([101, 113, 114], 0), ([106, 117, 109, 112], 7), ([106, 117, 109, 112, 116], 7), ([106, 117, 109, 112, 102], 7), ([110, 101, 119], 3), ([103, 101, 116, 102], 4), ([112, 117, 116, 102], 4), ([97, 114, 114], 3), ([97, 108, 111, 97, 100], 0), ([97, 115, 116, 111, 114, 101], 0), ([97, 108, 101, 110], 0), ([99, 97, 108, 108], 5), ([114, 101, 116], 0), ([114, 101, 116, 118], 0), ([116, 104, 114, 111, 119], 0), ([101, 110, 116, 101, 114], 0), ([101, 120, 105, 116], 0), ([99, 97, 115, 116], 3), ([105, 115], 3), ([112, 114, 105, 110, 116], 0), ([114, 101, 97, 100], 0), ([106, 111, 105, 110], 0), ([115, 108, 101, 110], 0), ([115, 112, 97, 119, 110], 0), ([111, 108, 100], 4)]
def nameN (k : Nat) : List UInt8 := (rowsL.getD k ([], -1)).1
def kindN (k : Nat) : Int := (rowsL.getD k ([], -1)).2
def kindI (op : Int) : Int := if 0 ≤ op ∧ op < 46 then kindN op.toNat else -1
def nameI (op : Int) : List UInt8 := if 0 ≤ op ∧ op < 46 then nameN op.toNat else []
/-- which instruction has a name -/
def findI (s : List UInt8) : Int := match (List.range 46).find? (fun k => nameN k == s) with
  | some k => (k : Int)
  | none => -1

theorem kind_out {op : Int} (h : ¬ (0 ≤ op ∧ op < 46)) : kindI op = -1 := by unfold kindI; rw [if_neg h]
theorem kind_in {k : Nat} (h : k < 46) : kindI (k : Int) = kindN k := by unfold kindI; rw [if_pos (by omega)]; simp
theorem name_out {op : Int} (h : ¬ (0 ≤ op ∧ op < 46)) : nameI op = [] := by unfold nameI; rw [if_neg h]
theorem name_in {k : Nat} (h : k < 46) : nameI (k : Int) = nameN k := by unfold nameI; rw [if_pos (by omega)]; simp

theorem find_none {s : List UInt8} (h : ∀ j, j < 46 → nameN j ≠ s) : findI s = -1 := by
  unfold findI
  have : (List.range 46).find? (fun k => nameN k == s) = none := by
    rw [List.find?_eq_none]
    intro k hk
    have := h k (List.mem_range.1 hk)
    simpa using this
  rw [this]
theorem find_range {s : List UInt8} {k : Nat} : ∀ n, k < n → (∀ j, j < k → nameN j ≠ s) → nameN k = s → (List.range n).find? (fun k => nameN k == s) = some k := by
  intro n hn hb hk
  rw [List.find?_eq_some_iff_getElem]
  refine ⟨by simpa using hk, k, by simpa using hn, by simp, ?_⟩
  intro j hj
  simpa using hb j hj
theorem find_at {s : List UInt8} {k : Nat} (hk : k < 46) (hb : ∀ j, j < k → nameN j ≠ s) (h : nameN k = s) : findI s = (k : Int) := by
  unfold findI
  rw [find_range 46 hk hb h]

theorem kindN_range : ∀ k, k < 46 → 0 ≤ kindN k ∧ kindN k ≤ 7 := by decide
theorem kind_range (op : Int) : -1 ≤ kindI op ∧ kindI op ≤ 7 := by
  unfold kindI
  split
  · rename_i h
    have := kindN_range op.toNat (by omega)
    omega
  · omega
theorem kind_neg {op : Int} : kindI op = -1 ↔ ¬ (0 ≤ op ∧ op < 46) := by
  constructor
  · intro h hc
    have := kindN_range op.toNat (by omega)
    unfold kindI at h
    rw [if_pos hc] at h
    omega
  · exact kind_out
theorem name_ne : ∀ k, k < 46 → nameN k ≠ [] := by decide
/-- the kinds, as a switch has them -/
theorem kinds_listed : ∀ k, k < 46 → (k = 1 ∨ k = 2 ∨ k = 25 ∨ k = 28 ∨ k = 38 ∨ k = 39 ∨ k = 26 ∨ k = 27 ∨ k = 45 ∨ k = 32 ∨ k = 6 ∨ k = 7 ∨ k = 22 ∨ k = 23 ∨ k = 24) ∨ kindN k = 0 := by decide
theorem kind_other {op : Int} (h : 0 ≤ op ∧ op < 46) (h1 : op ≠ 1) (h2 : op ≠ 2) (h25 : op ≠ 25) (h28 : op ≠ 28) (h38 : op ≠ 38) (h39 : op ≠ 39) (h26 : op ≠ 26) (h27 : op ≠ 27) (h45 : op ≠ 45) (h32 : op ≠ 32) (h6 : op ≠ 6) (h7 : op ≠ 7) (h22 : op ≠ 22) (h23 : op ≠ 23) (h24 : op ≠ 24) : kindI op = 0 := by
  have := kinds_listed op.toNat (by omega)
  unfold kindI
  rw [if_pos h]
  rcases this with h' | h'
  · omega
  · exact h'

end InsM
end Go.Proofs.YtgnajafkdbiiaaaDoor

namespace Go.Proofs.YtgnajafkdbiiaaaDoor
namespace InsA
open Go.RowKit InsM Base

/-- a text from its bytes -/
def str (l : List UInt8) : Value := .string ⟨l.toArray⟩

/-- the table lies as the text lays it -/
def Laid (w : World) : Prop := 0 < w.heap.size ∧ ∀ k, k < 46 → w.cell? ⟨0, k * 2, none⟩ = some (.string ⟨(nameN k).toArray⟩) ∧ w.cell? ⟨0, k * 2 + 1, none⟩ = some (.int .i64 (kindN k))

theorem Laid.below {w w' : World} {B : Nat} (h : Laid w) (hb : Below B w w') (hB : 0 < B) : Laid w' :=
  ⟨Nat.lt_of_lt_of_le h.1 hb.size, fun k hk => ⟨(hb.cell (p := ⟨0, k * 2, none⟩) hB).trans (h.2 k hk).1, (hb.cell (p := ⟨0, k * 2 + 1, none⟩) hB).trans (h.2 k hk).2⟩⟩

theorem ret_int {k : IntKind} {a b : Int} (h : a = b) : Ending.returned (.int k a) = .returned (.int k b) := by rw [h]
theorem ret_bool {a b : Bool} (h : a = b) : Ending.returned (.bool a) = .returned (.bool b) := by rw [h]
theorem ret_str {a b : List UInt8} (h : a = b) : Ending.returned (.string ⟨a.toArray⟩) = .returned (.string ⟨b.toArray⟩) := by rw [h]

def inB (n m : Int) : Bool := decide (0 ≤ n ∧ n < m)

theorem within_any (n m : Int) (w : World) :
    Calls Tryd.prog 92 #[.int .i64 n, .int .i64 m] w fun e w' => e = .returned (.bool (inB n m)) ∧ w = w' := by
  by_cases h : 0 ≤ n
  · by_cases h2 : n < m
    all_goals
      go_enter Tryd.func92, Tryd.ntmps92
      go_wp2
      go_ret
      exact ⟨ret_bool (by rw [Bool.eq_iff_iff]; simp [inB]; omega), rfl⟩
  · go_enter Tryd.func92, Tryd.ntmps92
    go_wp2
    go_ret
    exact ⟨ret_bool (by rw [Bool.eq_iff_iff]; simp [inB]; omega), rfl⟩

theorem in_t {n m : Int} (h : 0 ≤ n ∧ n < m) : inB n m = true := decide_eq_true h
theorem in_f {n m : Int} (h : ¬ (0 ≤ n ∧ n < m)) : inB n m = false := decide_eq_false h

theorem kind_any (op : Int) (w : World) (hl : Laid w) :
    Calls Tryd.prog 91 #[.int .i64 op] w fun e w' => e = .returned (.int .i64 (kindI op)) ∧ w = w' := by
  by_cases h : 0 ≤ op ∧ op < 46
  · obtain ⟨k, rfl⟩ : ∃ k : Nat, op = (k : Int) := ⟨op.toNat, by omega⟩
    have hk : k < 46 := by omega
    have hc := (hl.2 k hk).2
    have hi := in_t h
    have H := Lib.hid (kind_in hk)
    clear h hl
    go_enter Tryd.func91, Tryd.ntmps91
    go_wp2_with (go_at_call 92; refine (within_any _ _ _).mono ?_; rw [hi]; rintro e w' ⟨rfl, rfl⟩)
    go_ret
    exact ⟨ret_int H.out.symm, rfl⟩
  · have hi := in_f h
    have H := Lib.hid (kind_out h)
    clear h hl
    go_enter Tryd.func91, Tryd.ntmps91
    go_wp2_with (go_at_call 92; refine (within_any _ _ _).mono ?_; rw [hi]; rintro e w' ⟨rfl, rfl⟩)
    go_ret
    exact ⟨ret_int H.out.symm, rfl⟩


theorem eq_mk (a b : List UInt8) : ((a == b) = true) ↔ a = b := by simp


end InsA
end Go.Proofs.YtgnajafkdbiiaaaDoor

namespace Go.Proofs.YtgnajafkdbiiaaaDoor
namespace InsB
open Go.RowKit InsM Base InsA

def namesV : List Value := (List.range 46).map fun k => str (nameN k)

/-- names(): a slice of all names, in new memory -/
def GivesNames (w : World) (e : Ending) (w' : World) : Prop :=
  ∃ b, e = .returned (.slice (some ⟨b, 0, none⟩) 46 46) ∧ b < w'.heap.size ∧ (∀ k, k < 46 → w'.cell? ⟨b, k, none⟩ = some (.string ⟨(nameN k).toArray⟩)) ∧ Below w.heap.size w w'

theorem all_names : ((List.range 46).map fun k => Value.string ⟨(nameN k).toArray⟩) = namesV := rfl


/-- a call hands back a value; it makes memory -/
def GivesB (w : World) (v : Value) (e : Ending) (w' : World) : Prop := e = .returned v ∧ Below w.heap.size w w'



theorem listed {op : Int} (h : kindI op ≠ 0) (h2 : 0 ≤ op ∧ op < 46) : op = 1 ∨ op = 2 ∨ op = 25 ∨ op = 28 ∨ op = 38 ∨ op = 39 ∨ op = 26 ∨ op = 27 ∨ op = 45 ∨ op = 32 ∨ op = 6 ∨ op = 7 ∨ op = 22 ∨ op = 23 ∨ op = 24 := by
  have := kinds_listed op.toNat (by omega)
  unfold kindI at h
  rw [if_pos h2] at h
  rcases this with h' | h'
  · omega
  · exact absurd h' h


end InsB
end Go.Proofs.YtgnajafkdbiiaaaDoor

namespace Go.Proofs.YtgnajafkdbiiaaaDoor
namespace InsC
open Go.RowKit InsM Base InsA InsB Stru

/-- whether an instruction can be -/
def canB (x : InsT) (cs : List Cst) (many locals : Int) : Bool :=
  if kindI x.1 = -1 then false
  else if kindI x.1 = 0 then x.2 == 0
  else if kindI x.1 = 6 then inB x.2 locals
  else if kindI x.1 = 7 then inB x.2 many
  else match cs[x.2.toNat]? with
    | some c => decide (0 ≤ x.2) && (c.kind == kindI x.1)
    | none => false

theorem Laid.alloc {w : World} (h : Laid w) (o : Obj) : Laid (w.alloc o) := h.below ((Below.refl w.heap.size w).alloc (Nat.le_refl _) o) h.1

theorem can_any (op a : Int) (A : Option Addr) (m c : Nat) (cs : List Cst) (many locals : Int) (w : World) (hl : Laid w) (hcs : IsCsts w A m c cs) :
    Calls Tryd.prog 85 #[.agg #[.int .i64 op, .int .i64 a], .slice A m c, .int .i64 many, .int .i64 locals] w (GivesB w (.bool (canB (op, a) cs many locals))) := by
  have Hl := Lib.hid (Laid.alloc hl (.cells #[.int .i64 op, .int .i64 a] 50))
  have hr := kind_range op
  have Hcan := Lib.hid (show canB (op, a) cs many locals = canB (op, a) cs many locals from rfl)
  obtain ⟨K, hK⟩ : ∃ K, K = kindI op := ⟨_, rfl⟩
  rw [← hK] at hr
  have HK := Lib.hid hK
  have Hm := Lib.hid hcs.len
  have Hr := Lib.hid hcs.rds
  clear hK hl
  have hB := (Below.refl w.heap.size w).alloc (Nat.le_refl _) (.cells #[.int .i64 op, .int .i64 a] 50)
  have HB := Lib.hid hB
  clear hB hcs
  by_cases h1 : K = -1
  · subst h1
    have H : canB (op, a) cs many locals = false := by unfold canB; rw [← HK.out]; rfl
    have H := Lib.hid H
    go_enter Tryd.func85, Tryd.ntmps85
    go_wp2_with (go_at_call 91; refine (kind_any _ _ Hl.out).mono ?_; rw [← HK.out]; rintro e w' ⟨rfl, rfl⟩)
    go_ret
    exact ⟨ret_bool H.out.symm, HB.out⟩
  · by_cases h2 : K = 0
    · subst h2
      have H : canB (op, a) cs many locals = (a == 0) := by unfold canB; rw [← HK.out]; rfl
      have H := Lib.hid H
      go_enter Tryd.func85, Tryd.ntmps85
      go_wp2_with (go_at_call 91; refine (kind_any _ _ Hl.out).mono ?_; rw [← HK.out]; rintro e w' ⟨rfl, rfl⟩)
      go_ret
      exact ⟨ret_bool H.out.symm, HB.out⟩
    · by_cases h3 : K = 6
      · subst h3
        have H : canB (op, a) cs many locals = inB a locals := by unfold canB; rw [← HK.out]; rfl
        have H := Lib.hid H
        go_enter Tryd.func85, Tryd.ntmps85
        go_wp2_with (first
          | (go_at_call 91; refine (kind_any _ _ Hl.out).mono ?_; rw [← HK.out]; rintro e w' ⟨rfl, rfl⟩)
          | (go_at_call 92; refine (within_any _ _ _).mono ?_; rintro e w' ⟨rfl, rfl⟩))
        go_ret
        exact ⟨ret_bool H.out.symm, HB.out⟩
      · by_cases h4 : K = 7
        · subst h4
          have H : canB (op, a) cs many locals = inB a many := by unfold canB; rw [← HK.out]; rfl
          have H := Lib.hid H
          go_enter Tryd.func85, Tryd.ntmps85
          go_wp2_with (first
            | (go_at_call 91; refine (kind_any _ _ Hl.out).mono ?_; rw [← HK.out]; rintro e w' ⟨rfl, rfl⟩)
            | (go_at_call 92; refine (within_any _ _ _).mono ?_; rintro e w' ⟨rfl, rfl⟩))
          go_ret
          exact ⟨ret_bool H.out.symm, HB.out⟩
        · have g1 : (K == -1) = false := by simpa using h1
          have g2 : (K == 0) = false := by simpa using h2
          have g3 : (K == 6) = false := by simpa using h3
          have g4 : (K == 7) = false := by simpa using h4
          have H0 : canB (op, a) cs many locals = match cs[a.toNat]? with
            | some c => decide (0 ≤ a) && (c.kind == K)
            | none => false := by
            unfold canB
            rw [← HK.out, if_neg h1, if_neg h2, if_neg h3, if_neg h4]
          clear h1 h2 h3 h4
          by_cases hin : 0 ≤ a ∧ a < (m : Int)
          · obtain ⟨k, rfl⟩ : ∃ k : Nat, a = (k : Int) := ⟨a.toNat, by omega⟩
            have hk : k < cs.length := by have := Hm.out; omega
            have hkm : k < m := by omega
            obtain ⟨b, o, rfl, hb, hc, _, _, _, _⟩ := csts_at (Hr.out.below HB.out) hk
            have hi := in_t hin
            have H : canB (op, (k : Int)) cs many locals = (cs[k].kind == K) := by
              rw [H0]
              simp [hk]
            have H := Lib.hid H
            clear H0 hin
            generalize hq : cs[k].kind = q at *
            clear hq
            go_enter Tryd.func85, Tryd.ntmps85
            go_wp2_with (first
              | (go_at_call 91; refine (kind_any _ _ Hl.out).mono ?_; rw [← HK.out]; rintro e w' ⟨rfl, rfl⟩)
              | (go_at_call 92; refine (within_any _ _ _).mono ?_; rw [hi]; rintro e w' ⟨rfl, rfl⟩))
            go_ret
            exact ⟨ret_bool H.out.symm, HB.out⟩
          · have hi := in_f hin
            have H : canB (op, a) cs many locals = false := by
              rw [H0]
              by_cases h0 : 0 ≤ a
              · have : cs.length ≤ a.toNat := by have := Hm.out; omega
                rw [List.getElem?_eq_none this]
              · cases cs[a.toNat]? <;> simp [h0]
            have H := Lib.hid H
            clear H0 hin
            go_enter Tryd.func85, Tryd.ntmps85
            go_wp2_with (first
              | (go_at_call 91; refine (kind_any _ _ Hl.out).mono ?_; rw [← HK.out]; rintro e w' ⟨rfl, rfl⟩)
              | (go_at_call 92; refine (within_any _ _ _).mono ?_; rw [hi]; rintro e w' ⟨rfl, rfl⟩))
            go_ret
            exact ⟨ret_bool H.out.symm, HB.out⟩

end InsC
end Go.Proofs.YtgnajafkdbiiaaaDoor

namespace Go.Proofs.YtgnajafkdbiiaaaDoor
namespace InsD
open Go.RowKit InsM Base InsA InsB Stru InsC

/-- the first place that can not be; the error's number -/
def checkI (l : List InsT) (cs : List Cst) (locals : Int) : Int × Int :=
  if l.length < 1 ∨ 512 < l.length then (0, 6)
  else match (List.range l.length).find? (fun k => !canB (l.getD k (0, 0)) cs (l.length : Int) locals) with
    | some k => ((k : Int), 12)
    | none => (0, 0)

def twoN (r : Int × Int) : Value := .tuple #[.int .i64 r.1, .int .i64 r.2]
theorem ret2N {r : Int × Int} {a b : Int} (h : r = (a, b)) : Ending.returned (.tuple #[.int .i64 a, .int .i64 b]) = .returned (twoN r) := by subst h; rfl

theorem find_first {p : Nat → Bool} {k : Nat} : ∀ n, k < n → (∀ j, j < k → p j = false) → p k = true → (List.range n).find? p = some k := by
  intro n hn hb hk
  rw [List.find?_eq_some_iff_getElem]
  refine ⟨hk, k, by simpa using hn, by simp, ?_⟩
  intro j hj
  simpa using hb j hj
theorem find_no {p : Nat → Bool} (n : Nat) (h : ∀ j, j < n → p j = false) : (List.range n).find? p = none := by
  rw [List.find?_eq_none]
  intro k hk
  simpa using h k (List.mem_range.1 hk)

theorem check_size {l : List InsT} {cs : List Cst} {locals : Int} (h : l.length < 1 ∨ 512 < l.length) : checkI l cs locals = (0, 6) := by unfold checkI; rw [if_pos h]
theorem check_at {l : List InsT} {cs : List Cst} {locals : Int} (h : ¬ (l.length < 1 ∨ 512 < l.length)) {k : Nat} (hk : k < l.length) (hb : ∀ j (hj : j < l.length), j < k → canB l[j] cs (l.length : Int) locals = true) (h2 : canB l[k] cs (l.length : Int) locals = false) : checkI l cs locals = ((k : Int), 12) := by
  have e := find_first (p := fun k => !canB (l.getD k (0, 0)) cs (l.length : Int) locals) (k := k) l.length hk (fun j hj => by
    have : j < l.length := by omega
    rw [List.getD_eq_getElem?_getD, List.getElem?_eq_getElem this]
    simp [hb j this hj]) (by
    rw [List.getD_eq_getElem?_getD, List.getElem?_eq_getElem hk]
    simp [h2])
  unfold checkI
  rw [if_neg h, e]
theorem check_ok {l : List InsT} {cs : List Cst} {locals : Int} (h : ¬ (l.length < 1 ∨ 512 < l.length)) (hb : ∀ j (hj : j < l.length), canB l[j] cs (l.length : Int) locals = true) : checkI l cs locals = (0, 0) := by
  have e := find_no (p := fun k => !canB (l.getD k (0, 0)) cs (l.length : Int) locals) l.length (fun j hj => by
    rw [List.getD_eq_getElem?_getD, List.getElem?_eq_getElem hj]
    simp [hb j hj])
  unfold checkI
  rw [if_neg h, e]

/-- the loop's way -/
def Rel (w : World) (l : List InsT) (cs : List Cst) (locals : Int) (i : Value) (wr : World) : Prop :=
  ∃ k : Nat, k ≤ l.length ∧ i = .int .i64 k ∧ (∀ j (hj : j < l.length), j < k → canB l[j] cs (l.length : Int) locals = true) ∧ Below w.heap.size w wr

set_option maxRecDepth 100000 in
set_option maxHeartbeats 1000000 in
theorem check_any (A : Option Addr) (m c : Nat) (l : List InsT) (B : Option Addr) (mb cb : Nat) (cs : List Cst) (locals : Int) (w : World) (hl : Laid w) (h : IsCode w A m c l) (hcs : IsCsts w B mb cb cs) :
    Calls Tryd.prog 70 #[.slice A m c, .slice B mb cb, .int .i64 locals] w (GivesB w (twoN (checkI l cs locals))) := by
  obtain ⟨hm, hle, hmx, hr, _⟩ := h
  have hml : l.length ≤ m := Nat.le_of_eq hm.symm
  have hml2 : m ≤ l.length := Nat.le_of_eq hm
  unfold maxLen at hmx
  have Hl := Lib.hid hl
  have Hcs : Hid (IsCsts w B mb cb cs) := hcs
  have Hr := Lib.hid hr
  have Hm := Lib.hid hm
  clear hm hr hcs hl
  by_cases hs : l.length < 1 ∨ 512 < l.length
  · have H := Lib.hid (check_size (cs := cs) (locals := locals) hs)
    rcases hs with hs | hs
    all_goals
      go_enter Tryd.func70, Tryd.ntmps70
      go_wp2
      go_ret2
      exact ⟨ret2N H.out, Below.refl _ _⟩
  · have h1 : ¬ m < 1 := by omega
    have h2 : ¬ 512 < m := by omega
    go_enter Tryd.func70, Tryd.ntmps70
    go_wp2
    go_loopw [8, 9, 20] (fun _ _ i wr => Rel w l cs locals i wr) (fun _ _ i _ => m - (intOf i).toNat)
    case atStart => exact ⟨0, Nat.zero_le _, rfl, fun j _ hj => absurd hj (by omega), Below.refl _ _⟩
    case round =>
      obtain ⟨k, hk, rfl, hb, hbel⟩ := hrel
      have Hb := Lib.hid hb
      have Hbel := Lib.hid hbel
      have hsz := hbel.size
      clear hb hbel
      by_cases hlt : k < l.length
      · obtain ⟨b, o, rfl, hbk, hc0, hc1⟩ := code_at (Hr.out.below Hbel.out) hlt
        cases hcan : canB l[k] cs (l.length : Int) locals
        · have H := Lib.hid (check_at hs hlt Hb.out hcan)
          have Hcan := Lib.hid (show canB l[k] cs (m : Int) locals = false by rw [Hm.out]; exact hcan)
          clear hcan hs
          generalize hx : l[k] = x at *
          obtain ⟨op, a⟩ := x
          have Hx := Lib.hid hx
          clear hx
          go_wp2_with fail
          refine (can_any op a B mb cb cs _ _ _ (Hl.out.below (Hbel.out.alloc hsz _) Hl.out.1) (Hcs.out.below (Hbel.out.alloc hsz _))).mono ?_
          rw [Hcan.out]
          rintro e w1 ⟨rfl, hb1⟩
          have Hb1 := Lib.hid ((Hbel.out.alloc hsz _).trans (hb1.mono (by simp; omega)))
          clear hb1
          go_wp2_with fail
          go_ret2
          exact ⟨ret2N H.out, Hb1.out⟩
        · have Hcan := Lib.hid (show canB l[k] cs (m : Int) locals = true by rw [Hm.out]; exact hcan)
          have Hb2 : Hid (∀ j (hj : j < l.length), j < k + 1 → canB l[j] cs (l.length : Int) locals = true) := Lib.hid (fun j hj hjk => by
            rcases Nat.lt_succ_iff_lt_or_eq.1 hjk with h | h
            · exact Hb.out j hj h
            · subst h; exact hcan)
          clear hcan
          generalize hx : l[k] = x at *
          obtain ⟨op, a⟩ := x
          have Hx := Lib.hid hx
          clear hx
          go_wp2_with fail
          refine (can_any op a B mb cb cs _ _ _ (Hl.out.below (Hbel.out.alloc hsz _) Hl.out.1) (Hcs.out.below (Hbel.out.alloc hsz _))).mono ?_
          rw [Hcan.out]
          rintro e w1 ⟨rfl, hb1⟩
          have Hb1 := Lib.hid ((Hbel.out.alloc hsz _).trans (hb1.mono (by simp; omega)))
          clear hb1
          go_wp2_with fail
          go_roundw
          case rel => exact ⟨k + 1, by omega, by go_num, Hb2.out, Hb1.out⟩
          case measure => simp [intOf]; omega
      · have H := Lib.hid (check_ok hs (fun j hj => Hb.out j hj (by omega)))
        go_wp2
        go_ret2
        exact ⟨ret2N H.out, Hbel.out⟩

end InsD
end Go.Proofs.YtgnajafkdbiiaaaDoor

namespace Go.Proofs.YtgnajafkdbiiaaaDoor
namespace InsE
open Go.RowKit InsM Base InsA InsB Stru InsC InsD

/-- the walk of one instruction: its kind, and what it then comes to -/
theorem can_cases {op a : Int} {cs : List Cst} {many locals : Int} : 
    (kindI op = -1 ∧ canB (op, a) cs many locals = false) ∨
    (kindI op = 0 ∧ canB (op, a) cs many locals = (a == 0)) ∨
    ((kindI op = 1 ∨ kindI op = 2 ∨ kindI op = 3 ∨ kindI op = 4 ∨ kindI op = 5) ∧ ((¬ (0 ≤ a ∧ a < (cs.length : Int)) ∧ canB (op, a) cs many locals = false) ∨ ∃ (k : Nat) (h : k < cs.length), a = (k : Int) ∧ canB (op, a) cs many locals = (cs[k].kind == kindI op))) ∨
    (kindI op = 6 ∧ canB (op, a) cs many locals = inB a locals) ∨
    (kindI op = 7 ∧ canB (op, a) cs many locals = inB a many) := by
  have hr := kind_range op
  obtain ⟨K, hK⟩ : ∃ K, K = kindI op := ⟨_, rfl⟩
  unfold canB
  rw [← hK] at hr ⊢
  clear hK
  by_cases h1 : K = -1
  · exact .inl ⟨h1, by rw [if_pos h1]⟩
  · by_cases h2 : K = 0
    · exact .inr (.inl ⟨h2, by rw [if_neg h1, if_pos h2]⟩)
    · by_cases h3 : K = 6
      · exact .inr (.inr (.inr (.inl ⟨h3, by rw [if_neg h1, if_neg h2, if_pos h3]⟩)))
      · by_cases h4 : K = 7
        · exact .inr (.inr (.inr (.inr ⟨h4, by rw [if_neg h1, if_neg h2, if_neg h3, if_pos h4]⟩)))
        · refine .inr (.inr (.inl ⟨by omega, ?_⟩))
          rw [if_neg h1, if_neg h2, if_neg h3, if_neg h4]
          by_cases hin : 0 ≤ a ∧ a < (cs.length : Int)
          · refine .inr ⟨a.toNat, by omega, by omega, ?_⟩
            have : a.toNat < cs.length := by omega
            simp [this, hin.1]
          · refine .inl ⟨hin, ?_⟩
            by_cases h0 : 0 ≤ a
            · have : cs.length ≤ a.toNat := by omega
              rw [List.getElem?_eq_none this]
            · cases cs[a.toNat]? <;> simp [h0]

/-- a test that is false, and its fact -/
theorem eqf {a b : Int} (h : a ≠ b) : (a == b) = false := by simpa using h


end InsE
end Go.Proofs.YtgnajafkdbiiaaaDoor

namespace Go.Proofs.YtgnajafkdbiiaaaDoor
namespace InsJ
open Go.RowKit Base Stru InsA


/-- two instructions, held against each other -/
theorem eq_ins (a b c d : Int) (W : World) : (Op.equalIn 10000 50 (.agg #[.int .i64 a, .int .i64 b]) (.agg #[.int .i64 c, .int .i64 d])).run Tryd.prog W = .ok (a == c && b == d) W := by
  have u3 := Tryd.underlying3
  have a3 := Tryd.isAgg3
  have z3 := Tryd.sizeOf3
  have hS : Tryd.prog.underlying 50 = some (.struct (Tryd.prog.fieldsOf 50)) := by kernel_rfl
  have hp : Tryd.prog.stoodInHeld 50 = false := by kernel_rfl
  rw [show (10000 : Nat) = 9999 + 1 from rfl, run_equalIn_agg W 9999 50 _ _ hS hp]
  simp only [Program.fieldsOf, Tryd.underlying50]
  go_simp
  by_cases h1 : a = c <;> by_cases h2 : b = d <;> simp [h1, h2]

theorem neq_ins (a b c d : Int) (W : World) : (binOp .neq 50 (.agg #[.int .i64 a, .int .i64 b]) (.agg #[.int .i64 c, .int .i64 d])).run Tryd.prog W = .ok (.bool (!(a == c && b == d))) W := by
  rw [run_neq_struct, eq_ins]; rfl
theorem guard_ins : Tryd.prog.eqGuardType Tryd.prog.depth 50 = false := by kernel_rfl


end InsJ
end Go.Proofs.YtgnajafkdbiiaaaDoor
