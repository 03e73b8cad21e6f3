/-
  pool.bare, pool.Right and the document's own Right: what each call returns.
-/
import Derived.Test.YthkkcecfenohjaaGreatDoorPoolM
import Derived.Laws.StructEq
import Derived.Deep.RegionHeld3
namespace Go.Proofs.YthkkcecfenohjaaGreatDoor
namespace PoolA
open Go.RowKit Base BinM DescM DescW DescX DescR DescP DescQ Stru PoolM

/-- a call hands back a value; it may make memory -/
def GivesB (w : World) (v : Value) (e : Ending) (w' : World) : Prop := e = .returned v ∧ Below w.heap.size w w'
theorem ret_bool {a b : Bool} (h : a = b) : Ending.returned (.bool a) = .returned (.bool b) := by rw [h]

def cstV (c : Cst) : Value := .agg #[.int .i64 c.kind, .int .i64 c.n, .string ⟨c.s.toArray⟩, .string ⟨c.t.toArray⟩, .string ⟨c.u.toArray⟩]
theorem retC {k n : Int} {s t u : List UInt8} {c : Cst} (h : c = ⟨k, n, s, t, u⟩) : Ending.returned (.agg #[.int .i64 k, .int .i64 n, .string ⟨s.toArray⟩, .string ⟨t.toArray⟩, .string ⟨u.toArray⟩]) = .returned (cstV c) := by subst h; rfl

theorem bare_any (k n : Int) (s t u : List UInt8) (w : World) :
    Calls Tryz.prog 125 #[.agg #[.int .i64 k, .int .i64 n, .string ⟨s.toArray⟩, .string ⟨t.toArray⟩, .string ⟨u.toArray⟩]] w (GivesB w (cstV (bareC ⟨k, n, s, t, u⟩))) := by
  by_cases h1 : k = 1
  · subst h1
    have H := Lib.hid (show bareC ⟨1, n, s, t, u⟩ = ⟨1, n, [], [], []⟩ from rfl)
    go_enter Tryz.func125, Tryz.ntmps125
    go_wp2
    refine bodyPost_ret (v := .agg #[.int .i64 1, .int .i64 n, .string ⟨#[]⟩, .string ⟨#[]⟩, .string ⟨#[]⟩]) (by simp [results, Tryz.results125, go_sem]) rfl ⟨retC (s := []) (t := []) (u := []) H.out, ((Below.refl _ _).alloc (Nat.le_refl _) _).alloc (by simp) _⟩
  · by_cases h2 : k = 2 ∨ k = 3
    · have H := Lib.hid (show bareC ⟨k, n, s, t, u⟩ = ⟨k, 0, s, [], []⟩ by unfold bareC; rw [if_neg h1, if_pos h2])
      clear h1
      rcases h2 with rfl | rfl
      all_goals
        go_enter Tryz.func125, Tryz.ntmps125
        go_wp2
      · refine bodyPost_ret (v := .agg #[.int .i64 2, .int .i64 0, .string ⟨s.toArray⟩, .string ⟨#[]⟩, .string ⟨#[]⟩]) (by simp [results, Tryz.results125, go_sem]) rfl ⟨retC (s := s) (t := []) (u := []) H.out, ((Below.refl _ _).alloc (Nat.le_refl _) _).alloc (by simp) _⟩
      · refine bodyPost_ret (v := .agg #[.int .i64 3, .int .i64 0, .string ⟨s.toArray⟩, .string ⟨#[]⟩, .string ⟨#[]⟩]) (by simp [results, Tryz.results125, go_sem]) rfl ⟨retC (s := s) (t := []) (u := []) H.out, ((Below.refl _ _).alloc (Nat.le_refl _) _).alloc (by simp) _⟩
    · have H := Lib.hid (show bareC ⟨k, n, s, t, u⟩ = ⟨k, 0, s, t, u⟩ by unfold bareC; rw [if_neg h1, if_neg h2])
      have g1 : (k == 1) = false := by simpa using h1
      have g2 : (k == 2) = false := by simp; omega
      have g3 : (k == 3) = false := by simp; omega
      clear h1 h2
      go_enter Tryz.func125, Tryz.ntmps125
      go_wp2
      refine bodyPost_ret (v := .agg #[.int .i64 k, .int .i64 0, .string ⟨s.toArray⟩, .string ⟨t.toArray⟩, .string ⟨u.toArray⟩]) (by simp [results, Tryz.results125, go_sem]) rfl ⟨retC (s := s) (t := t) (u := u) H.out, ((Below.refl _ _).alloc (Nat.le_refl _) _).alloc (by simp) _⟩

/-- two constants, held against each other -/
theorem eq_cst (k n k' n' : Int) (s t u s' t' u' : List UInt8) (W : World) :
    (Op.equalIn 10000 40 (.agg #[.int .i64 k, .int .i64 n, .string ⟨s.toArray⟩, .string ⟨t.toArray⟩, .string ⟨u.toArray⟩]) (.agg #[.int .i64 k', .int .i64 n', .string ⟨s'.toArray⟩, .string ⟨t'.toArray⟩, .string ⟨u'.toArray⟩])).run Tryz.prog W = .ok (sameC ⟨k, n, s, t, u⟩ ⟨k', n', s', t', u'⟩) W := by
  have u2 := Tryz.underlying2
  have a2 := Tryz.isAgg2
  have z2 := Tryz.sizeOf2
  have u3 := Tryz.underlying3
  have a3 := Tryz.isAgg3
  have z3 := Tryz.sizeOf3
  have u9 := Tryz.underlying9
  have a9 := Tryz.isAgg9
  have z9 := Tryz.sizeOf9
  have hS : Tryz.prog.underlying 40 = some (.struct (Tryz.prog.fieldsOf 40)) := by kernel_rfl
  have hp : Tryz.prog.stoodInHeld 40 = false := by kernel_rfl
  rw [show (10000 : Nat) = 9999 + 1 from rfl, run_equalIn_agg W 9999 40 _ _ hS hp]
  simp only [Program.fieldsOf, Tryz.underlying40]
  go_simp
  unfold sameC
  by_cases h1 : k = k' <;> by_cases h2 : n = n' <;> by_cases h3 : s = s' <;> by_cases h4 : t = t' <;> by_cases h5 : u = u' <;> simp [h1, h2, h3, h4, h5]

theorem neq_cst (k n k' n' : Int) (s t u s' t' u' : List UInt8) (W : World) :
    (binOp .neq 40 (.agg #[.int .i64 k, .int .i64 n, .string ⟨s.toArray⟩, .string ⟨t.toArray⟩, .string ⟨u.toArray⟩]) (.agg #[.int .i64 k', .int .i64 n', .string ⟨s'.toArray⟩, .string ⟨t'.toArray⟩, .string ⟨u'.toArray⟩])).run Tryz.prog W = .ok (.bool (!sameC ⟨k, n, s, t, u⟩ ⟨k', n', s', t', u'⟩)) W := by
  rw [run_neq_struct, eq_cst]; rfl
theorem eql_cst (k n k' n' : Int) (s t u s' t' u' : List UInt8) (W : World) :
    (binOp .eql 40 (.agg #[.int .i64 k, .int .i64 n, .string ⟨s.toArray⟩, .string ⟨t.toArray⟩, .string ⟨u.toArray⟩]) (.agg #[.int .i64 k', .int .i64 n', .string ⟨s'.toArray⟩, .string ⟨t'.toArray⟩, .string ⟨u'.toArray⟩])).run Tryz.prog W = .ok (.bool (sameC ⟨k, n, s, t, u⟩ ⟨k', n', s', t', u'⟩)) W := by
  rw [run_eql_struct, eq_cst]; rfl
theorem guard_cst : Tryz.prog.eqGuardType Tryz.prog.depth 40 = false := by kernel_rfl

end PoolA
end Go.Proofs.YthkkcecfenohjaaGreatDoor
