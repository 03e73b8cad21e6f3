/- pieces -/
import Derived.Test.YtehainbhoflpnaaGreatDoorK4
import Derived.Test.YtehainbhoflpnaaGreatDoorK5
import Derived.Laws.StructEq
import Derived.Deep.RegionHeld3
namespace Go.Proofs.YtehainbhoflpnaaGreatDoor
namespace PoolM
open Go.RowKit BinM BinE DescM DescP Stru BinText
def zR (c : Cst) : Cst := if c.kind = 1 then ⟨c.kind, c.n, [], [], []⟩ else if c.kind = 2 ∨ c.kind = 3 then ⟨c.kind, 0, c.s, [], []⟩ else ⟨c.kind, 0, c.s, c.t, c.u⟩
def QX (c : Cst) : Bool :=
 if c.kind = 1 then true else if c.kind = 2 then decide (c.s.length ≤ 64) else if c.kind = 3 then zI c.s
 else if c.kind = 4 then zF c.s && zF c.t && zI c.u else if c.kind = 5 then zF c.s && zF c.t && ((zy c.u).2.2 == 0) else false
def Qa (c d : Cst) : Bool := (c.kind == d.kind) && (c.n == d.n) && (c.s == d.s) && (c.t == d.t) && (c.u == d.u)
def Z8 (c : Cst) : Bool := Qa c (zR c) && QX c
theorem same_iff (c d : Cst) : Qa c d = true ↔ c = d := by
 obtain ⟨a1, a2, a3, a4, a5⟩ := c
 obtain ⟨b1, b2, b3, b4, b5⟩ := d
 simp [Qa, and_assoc]
theorem Je (c : Cst) : Qa c c = true := (same_iff c c).2 rfl
end PoolM
namespace PoolL
open BinM DescM DescX DescP Stru PoolM
theorem Zw4 {l : List UInt8} (h : zF l = true) : l.length ≤ 24 := by
 unfold zF at h
 simp only [Bool.and_eq_true, decide_eq_true_eq] at h
 exact h.1.2
theorem zu4 : ∀ {l : List UInt8} {k : Nat}, core l = some k → k ≤ 26
 | [], k, h => by simp [core] at h
 | c :: t, k, h => by
   rw [Qs] at h
   split at h
   · simp at h; omega
   · split at h
     · split at h
       · rename_i hc
         have := Zw4 hc.2
         rw [List.length_take] at this
         simp at h
         omega
       · cases h
     · cases h
theorem Kl {l : List UInt8} {k : Nat} (h : Zy l = some k) : k ≤ 30 := by
 unfold Zy at h
 split at h
 · cases h
 · cases hc : core (l.drop (brk l)) with
   | none => rw [hc] at h; cases h
   | some m =>
     rw [hc] at h
     simp at h
     have := zu4 hc
     omega
theorem Yb {l : List UInt8} (h : zI l = true) : l.length ≤ 30 := by
 unfold zI at h
 rw [beq_iff_eq] at h
 exact Kl h
theorem zk0 {l : List UInt8} (h : Qk l = true) : l.length ≤ 30 := by
 unfold Qk at h
 rw [Bool.or_eq_true] at h
 rcases h with h | h
 · rw [beq_iff_eq] at h; subst h; simp
 · exact Yb h
theorem Jl : ∀ (n : Nat) {l : List UInt8} {ts : List (List UInt8)} {g : List UInt8}, parse n l = some (ts, g) → l.length ≤ 30 * n + 1 + g.length := by
 intro n
 induction n with
 | zero =>
   intro l ts g h
   by_cases h41 : l.head? = some 41
   · rw [QZ 0 h41] at h
     simp at h
     obtain ⟨_, rfl⟩ := h
     simp; omega
   · rw [jI h41] at h; cases h
 | succ n ih =>
   intro l ts g h
   by_cases h41 : l.head? = some 41
   · rw [QZ _ h41] at h
     simp at h
     obtain ⟨_, rfl⟩ := h
     simp; omega
   · cases hl : Zy l with
     | none => rw [QK _ h41 hl] at h; cases h
     | some k =>
       rw [JB n h41 hl] at h
       have hk := Kl hl
       cases hp : parse n (l.drop k) with
       | none => rw [hp] at h; cases h
       | some r =>
         obtain ⟨ts', g'⟩ := r
         rw [hp] at h
         simp at h
         obtain ⟨_, rfl⟩ := h
         have := ih hp
         rw [List.length_drop] at this
         omega
theorem Jb {l : List UInt8} (h : (zy l).2.2 = 0) : l.length ≤ 300 := by
 unfold zy at h
 split at h
 · split at h
   · rename_i ts g hp
     split at h
     · rename_i hg
       have h1 := Jl 6 hp
       have h2 := zk0 hg
       rw [List.length_drop] at h1
       omega
     · simp at h
   · simp at h
 · simp at h
theorem xC {k n : Int} {s t u : List UInt8} (h : Z8 ⟨k, n, s, t, u⟩ = true) : s.length ≤ 300 ∧ t.length ≤ 300 ∧ u.length ≤ 300 := by
 unfold Z8 at h
 rw [Bool.and_eq_true, same_iff] at h
 obtain ⟨h1, h2⟩ := h
 unfold zR at h1
 unfold QX at h2
 simp only at h1 h2
 by_cases e1 : k = 1
 · rw [if_pos e1] at h1
   injection h1 with _ _ hs ht hu
   subst hs ht hu
   simp
 · rw [if_neg e1] at h1 h2
   by_cases e2 : k = 2
   · rw [if_pos (.inl e2)] at h1
     rw [if_pos e2] at h2
     injection h1 with _ _ _ ht hu
     subst ht hu
     simp at h2
     simp; omega
   · rw [if_neg e2] at h2
     by_cases e3 : k = 3
     · rw [if_pos (.inr e3)] at h1
       rw [if_pos e3] at h2
       injection h1 with _ _ _ ht hu
       subst ht hu
       have := Yb h2
       simp; omega
     · rw [if_neg e3] at h2
       by_cases e4 : k = 4
       · rw [if_pos e4] at h2
         simp only [Bool.and_eq_true] at h2
         have a1 := Zw4 h2.1.1
         have a2 := Zw4 h2.1.2
         have a3 := Yb h2.2
         omega
       · rw [if_neg e4] at h2
         by_cases e5 : k = 5
         · rw [if_pos e5] at h2
           simp only [Bool.and_eq_true, beq_iff_eq] at h2
           have a1 := Zw4 h2.1.1
           have a2 := Zw4 h2.1.2
           have a3 := Jb h2.2
           omega
         · rw [if_neg e5] at h2; cases h2
end PoolL
namespace PoolA
open Go.RowKit Base BinM DescM DescW DescX DescR DescP DescQ Stru PoolM
def Ql (w : World) (v : Value) (e : Ending) (w' : World) : Prop := e = .returned v ∧ Below w.heap.size w w'
theorem ze {a b : Bool} (h : a = b) : Ending.returned (.bool a) = .returned (.bool b) := by rw [h]
def jf (c : Cst) : Value := .agg #[.int .i64 c.kind, .int .i64 c.n, .string ⟨c.s.toArray⟩, .string ⟨c.t.toArray⟩, .string ⟨c.u.toArray⟩]
theorem zy5 {k n : Int} {s t u : List UInt8} {c : Cst} (h : c = ⟨k, n, s, t, u⟩) : Ending.returned (.agg #[.int .i64 k, .int .i64 n, .string ⟨s.toArray⟩, .string ⟨t.toArray⟩, .string ⟨u.toArray⟩]) = .returned (jf c) := by subst h; rfl
theorem gN (k n : Int) (s t u : List UInt8) (w : World) :
 Calls Tryz.prog 166 #[.agg #[.int .i64 k, .int .i64 n, .string ⟨s.toArray⟩, .string ⟨t.toArray⟩, .string ⟨u.toArray⟩]] w (Ql w (jf (zR ⟨k, n, s, t, u⟩))) := by
 by_cases h1 : k = 1
 · subst h1
   have H := zH (show zR ⟨1, n, s, t, u⟩ = ⟨1, n, [], [], []⟩ from rfl)
   go_enter Tryz.func166, Tryz.ntmps166
   go_wp2
   refine bodyPost_ret (v := .agg #[.int .i64 1, .int .i64 n, .string ⟨#[]⟩, .string ⟨#[]⟩, .string ⟨#[]⟩]) (by simp [results, Tryz.results166, go_sem]) rfl ⟨zy5 (s := []) (t := []) (u := []) H.out, ((Below.refl _ _).alloc (Nat.le_refl _) _).alloc (by simp) _⟩
 · by_cases h2 : k = 2 ∨ k = 3
   · have H := zH (show zR ⟨k, n, s, t, u⟩ = ⟨k, 0, s, [], []⟩ by unfold zR; rw [if_neg h1, if_pos h2])
     clear h1
     rcases h2 with rfl | rfl
     all_goals
      go_enter Tryz.func166, Tryz.ntmps166
      go_wp2
     · refine bodyPost_ret (v := .agg #[.int .i64 2, .int .i64 0, .string ⟨s.toArray⟩, .string ⟨#[]⟩, .string ⟨#[]⟩]) (by simp [results, Tryz.results166, go_sem]) rfl ⟨zy5 (s := s) (t := []) (u := []) H.out, ((Below.refl _ _).alloc (Nat.le_refl _) _).alloc (by simp) _⟩
     · refine bodyPost_ret (v := .agg #[.int .i64 3, .int .i64 0, .string ⟨s.toArray⟩, .string ⟨#[]⟩, .string ⟨#[]⟩]) (by simp [results, Tryz.results166, go_sem]) rfl ⟨zy5 (s := s) (t := []) (u := []) H.out, ((Below.refl _ _).alloc (Nat.le_refl _) _).alloc (by simp) _⟩
   · have H := zH (show zR ⟨k, n, s, t, u⟩ = ⟨k, 0, s, t, u⟩ by unfold zR; rw [if_neg h1, if_neg h2])
     have g1 : (k == 1) = false := by simpa using h1
     have g2 : (k == 2) = false := by simp; omega
     have g3 : (k == 3) = false := by simp; omega
     clear h1 h2
     go_enter Tryz.func166, Tryz.ntmps166
     go_wp2
     refine bodyPost_ret (v := .agg #[.int .i64 k, .int .i64 0, .string ⟨s.toArray⟩, .string ⟨t.toArray⟩, .string ⟨u.toArray⟩]) (by simp [results, Tryz.results166, go_sem]) rfl ⟨zy5 (s := s) (t := t) (u := u) H.out, ((Below.refl _ _).alloc (Nat.le_refl _) _).alloc (by simp) _⟩
theorem zu1 (k n k' n' : Int) (s t u s' t' u' : List UInt8) (W : World) :
 (Op.equalIn 10000 75 (.agg #[.int .i64 k, .int .i64 n, .string ⟨s.toArray⟩, .string ⟨t.toArray⟩, .string ⟨u.toArray⟩]) (.agg #[.int .i64 k', .int .i64 n', .string ⟨s'.toArray⟩, .string ⟨t'.toArray⟩, .string ⟨u'.toArray⟩])).run Tryz.prog W = .ok (Qa ⟨k, n, s, t, u⟩ ⟨k', n', s', t', u'⟩) W := by
 have u2 := Tryz.underlying2
 have a2 := Tryz.isAgg2
 have z2 := Tryz.sizeOf2
 have u3 := Tryz.underlying3
 have a3 := Tryz.isAgg3
 have z3 := Tryz.sizeOf3
 have u9 := Tryz.underlying9
 have a9 := Tryz.isAgg9
 have z9 := Tryz.sizeOf9
 have hS : Tryz.prog.underlying 75 = some (.struct (Tryz.prog.fieldsOf 75)) := by kernel_rfl
 have hp : Tryz.prog.stoodInHeld 75 = false := by kernel_rfl
 rw [show (10000 : Nat) = 9999 + 1 from rfl, run_equalIn_agg W 9999 75 _ _ hS hp]
 simp only [Program.fieldsOf, Tryz.underlying75]
 go_simp
 unfold Qa
 by_cases h1 : k = k' <;> by_cases h2 : n = n' <;> by_cases h3 : s = s' <;> by_cases h4 : t = t' <;> by_cases h5 : u = u' <;> simp [h1, h2, h3, h4, h5]
theorem Za3 (k n k' n' : Int) (s t u s' t' u' : List UInt8) (W : World) :
 (binOp .neq 75 (.agg #[.int .i64 k, .int .i64 n, .string ⟨s.toArray⟩, .string ⟨t.toArray⟩, .string ⟨u.toArray⟩]) (.agg #[.int .i64 k', .int .i64 n', .string ⟨s'.toArray⟩, .string ⟨t'.toArray⟩, .string ⟨u'.toArray⟩])).run Tryz.prog W = .ok (.bool (!Qa ⟨k, n, s, t, u⟩ ⟨k', n', s', t', u'⟩)) W := by
 rw [run_neq_struct, zu1]; rfl
theorem zf4 (k n k' n' : Int) (s t u s' t' u' : List UInt8) (W : World) :
 (binOp .eql 75 (.agg #[.int .i64 k, .int .i64 n, .string ⟨s.toArray⟩, .string ⟨t.toArray⟩, .string ⟨u.toArray⟩]) (.agg #[.int .i64 k', .int .i64 n', .string ⟨s'.toArray⟩, .string ⟨t'.toArray⟩, .string ⟨u'.toArray⟩])).run Tryz.prog W = .ok (.bool (Qa ⟨k, n, s, t, u⟩ ⟨k', n', s', t', u'⟩)) W := by
 rw [run_eql_struct, zu1]; rfl
theorem xQ : Tryz.prog.eqGuardType Tryz.prog.depth 75 = false := by kernel_rfl
end PoolA
namespace PoolJ
open Go.RowKit Base BinM Stru PoolM PoolA
instance : DecidableEq Cst := fun c d => decidable_of_iff (Qa c d = true) (same_iff c d)
end PoolJ
namespace PoolB
open Go.RowKit Base BinM DescM DescW DescX DescR DescP DescQ Stru PoolM PoolA
def Qe (w : World) (g : Nat) (k n : Int) (s t u : List UInt8) : Prop :=
 w.cell? ⟨g, 0, none⟩ = some (.int .i64 k) ∧ w.cell? ⟨g, 1, none⟩ = some (.int .i64 n) ∧ w.cell? ⟨g, 2, none⟩ = some (.string ⟨s.toArray⟩) ∧ w.cell? ⟨g, 3, none⟩ = some (.string ⟨t.toArray⟩) ∧ w.cell? ⟨g, 4, none⟩ = some (.string ⟨u.toArray⟩)
theorem Qe.new (w : World) (k n : Int) (s t u : List UInt8) (ty : TypeId) : Qe (w.alloc (.cells #[.int .i64 k, .int .i64 n, .string ⟨s.toArray⟩, .string ⟨t.toArray⟩, .string ⟨u.toArray⟩] ty)) w.heap.size k n s t u := by
 refine ⟨?_, ?_, ?_, ?_, ?_⟩
 all_goals (rw [cell_of_row _ _ _ _ ty (0, 0) (heap_alloc_new w _)]; rfl)
theorem Qe.below {w w' : World} {B g : Nat} {k n : Int} {s t u : List UInt8} (h : Qe w g k n s t u) (hb : Below B w w') (hg : g < B) : Qe w' g k n s t u :=
 ⟨(hb.cell (p := ⟨g, 0, none⟩) hg).trans h.1, (hb.cell (p := ⟨g, 1, none⟩) hg).trans h.2.1, (hb.cell (p := ⟨g, 2, none⟩) hg).trans h.2.2.1, (hb.cell (p := ⟨g, 3, none⟩) hg).trans h.2.2.2.1, (hb.cell (p := ⟨g, 4, none⟩) hg).trans h.2.2.2.2⟩
theorem Qe.after {w w' : World} {g : Nat} {k n : Int} {s t u : List UInt8} (h : Qe w g k n s t u) (hb : Below w.heap.size w w') : Qe w' g k n s t u :=
 h.below hb (World.block_lt_of_cell? w ⟨g, 0, none⟩ h.1)
set_option maxRecDepth 100000 in
set_option maxHeartbeats 4000000 in
theorem UF (k n : Int) (s t u : List UInt8) (w : World) (hs : s.length ≤ 140737488355327) (ht : t.length ≤ 140737488355327) (hu : u.length ≤ 140737488355327) :
 Calls Tryz.prog 129 #[.agg #[.int .i64 k, .int .i64 n, .string ⟨s.toArray⟩, .string ⟨t.toArray⟩, .string ⟨u.toArray⟩]] w (Ql w (.bool (Z8 ⟨k, n, s, t, u⟩))) := by
 obtain ⟨hc0, hc1, hc2, hc3, hc4⟩ := Qe.new w k n s t u 75
 have hg := xQ
 generalize hbc : zR ⟨k, n, s, t, u⟩ = bc at *
 obtain ⟨k', n', s', t', u'⟩ := bc
 have hne := Za3 k n k' n' s t u s' t' u'
 have hR : Z8 ⟨k, n, s, t, u⟩ = (Qa ⟨k, n, s, t, u⟩ ⟨k', n', s', t', u'⟩ && QX ⟨k, n, s, t, u⟩) := by unfold Z8; rw [hbc]
 have HR := zH hR
 have Hbc := zH hbc
 clear hR hbc
 cases hsm : Qa ⟨k, n, s, t, u⟩ ⟨k', n', s', t', u'⟩
 · rw [hsm] at hne
   have H := zH (show Z8 ⟨k, n, s, t, u⟩ = false by rw [HR.out, hsm]; rfl)
   clear hsm
   go_enter Tryz.func129, Tryz.ntmps129
   go_wp2_with fail
   have hB0 := (Below.refl w.heap.size w).alloc (Nat.le_refl _) (.cells #[.int .i64 k, .int .i64 n, .string ⟨s.toArray⟩, .string ⟨t.toArray⟩, .string ⟨u.toArray⟩] 75)
   have hB1 := hB0.drew
   go_region_held3 (fun w' => w'.cell? ⟨w.heap.size, 0, none⟩ = some (.int .i64 k) ∧ w'.cell? ⟨w.heap.size, 1, none⟩ = some (.int .i64 n) ∧ w'.cell? ⟨w.heap.size, 2, none⟩ = some (.string ⟨s.toArray⟩) ∧ w'.cell? ⟨w.heap.size, 3, none⟩ = some (.string ⟨t.toArray⟩) ∧ w'.cell? ⟨w.heap.size, 4, none⟩ = some (.string ⟨u.toArray⟩) ∧ Below w.heap.size w w')
    (first | go_keep)
    (first | (go_at_call 166; refine (gN k n s t u _).mono ?_; rw [Hbc.out]; unfold jf; rintro e w1 ⟨rfl, hb1⟩
              obtain ⟨hd0, hd1, hd2, hd3, hd4⟩ := Qe.after (g := w.heap.size) (k := k) (n := n) (s := s) (t := t) (u := u) ⟨by assumption, by assumption, by assumption, by assumption, by assumption⟩ hb1
              have hBB := Below.trans (B := w.heap.size) (by assumption) (hb1.mono (Below.size (by assumption)))))
   have HB := zH hBB
   go_wp2_with fail
   go_ret
   exact ⟨ze H.out.symm, HB.out⟩
 · rw [hsm] at hne
   have H := zH (show Z8 ⟨k, n, s, t, u⟩ = QX ⟨k, n, s, t, u⟩ by rw [HR.out, hsm]; rfl)
   clear hsm
   go_enter Tryz.func129, Tryz.ntmps129
   go_wp2_with fail
   have hB0 := (Below.refl w.heap.size w).alloc (Nat.le_refl _) (.cells #[.int .i64 k, .int .i64 n, .string ⟨s.toArray⟩, .string ⟨t.toArray⟩, .string ⟨u.toArray⟩] 75)
   have hB1 := hB0.drew
   go_region_held3 (fun w' => w'.cell? ⟨w.heap.size, 0, none⟩ = some (.int .i64 k) ∧ w'.cell? ⟨w.heap.size, 1, none⟩ = some (.int .i64 n) ∧ w'.cell? ⟨w.heap.size, 2, none⟩ = some (.string ⟨s.toArray⟩) ∧ w'.cell? ⟨w.heap.size, 3, none⟩ = some (.string ⟨t.toArray⟩) ∧ w'.cell? ⟨w.heap.size, 4, none⟩ = some (.string ⟨u.toArray⟩) ∧ Below w.heap.size w w')
    (first | go_keep)
    (first | (go_at_call 166; refine (gN k n s t u _).mono ?_; rw [Hbc.out]; unfold jf; rintro e w1 ⟨rfl, hb1⟩
              obtain ⟨hd0, hd1, hd2, hd3, hd4⟩ := Qe.after (g := w.heap.size) (k := k) (n := n) (s := s) (t := t) (u := u) ⟨by assumption, by assumption, by assumption, by assumption, by assumption⟩ hb1
              have hBB := Below.trans (B := w.heap.size) (by assumption) (hb1.mono (Below.size (by assumption)))))
   have HB := zH hBB
   have hsz := hBB.size
   clear hb1 hB0 hB1 hBB hc0 hc1 hc2 hc3 hc4 hne hg
   by_cases h1 : k = 1
   · subst h1
     have H1 := zH (show QX ⟨1, n, s, t, u⟩ = true from rfl)
     go_wp2_with fail
     go_ret
     exact ⟨ze (by rw [H.out, H1.out]), HB.out⟩
   · by_cases h2 : k = 2
     · subst h2
       have H1 := zH (show QX ⟨2, n, s, t, u⟩ = decide (s.length ≤ 64) from rfl)
       have hsz' := size_mk s
       have Hsz := zH hsz'
       clear h1 hsz'
       by_cases h5 : s.length ≤ 64
       · have h5' : decide (s.length ≤ 64) = true := decide_eq_true h5
         go_wp2_with fail
         go_ret
         exact ⟨ze (by rw [H.out, H1.out, Bool.eq_iff_iff]; simp <;> omega), HB.out⟩
       · go_wp2_with fail
         go_ret
         exact ⟨ze (by rw [H.out, H1.out, Bool.eq_iff_iff]; simp <;> omega), HB.out⟩
     · by_cases h3 : k = 3
       · subst h3
         have H1 := zH (show QX ⟨3, n, s, t, u⟩ = zI s from rfl)
         clear h1 h2
         go_wp2_with fail
         refine (ZG s _ (by omega)).mono ?_
         rintro e w2 ⟨rfl, rfl⟩
         go_wp2_with fail
         go_ret
         exact ⟨ze (by rw [H.out, H1.out]), HB.out⟩
       · by_cases h4 : k = 4
         · subst h4
           have H1 := zH (show QX ⟨4, n, s, t, u⟩ = (zF s && zF t && zI u) from rfl)
           clear h1 h2 h3
           go_wp2_with fail
           refine (xJ s _ (by omega)).mono ?_
           cases hns : zF s
           · rintro e w2 ⟨rfl, rfl⟩
             go_wp2_with fail
             go_ret
             exact ⟨ze (by rw [H.out, H1.out, hns]; rfl), HB.out⟩
           · rintro e w2 ⟨rfl, rfl⟩
             go_wp2_with fail
             refine (xJ t _ (by omega)).mono ?_
             cases hnt : zF t
             · rintro e w2 ⟨rfl, rfl⟩
               go_wp2_with fail
               go_ret
               exact ⟨ze (by rw [H.out, H1.out, hns, hnt]; rfl), HB.out⟩
             · rintro e w2 ⟨rfl, rfl⟩
               go_wp2_with fail
               refine (ZG u _ (by omega)).mono ?_
               rintro e w2 ⟨rfl, rfl⟩
               go_wp2_with fail
               go_ret
               exact ⟨ze (by rw [H.out, H1.out, hns, hnt]; rfl), HB.out⟩
         · by_cases h5 : k = 5
           · subst h5
             have H1 := zH (show QX ⟨5, n, s, t, u⟩ = (zF s && zF t && ((zy u).2.2 == 0)) from rfl)
             clear h1 h2 h3 h4
             go_wp2_with fail
             refine (yJ u _ (by omega)).mono ?_
             rintro e w2 ⟨v, rfl, _, hb2⟩
             have hbx : Qe w2 w.heap.size 5 n s t u := Qe.after ⟨by assumption, by assumption, by assumption, by assumption, by assumption⟩ hb2
             obtain ⟨he0, he1, he2, he3, he4⟩ := hbx
             have HB2 := zH (HB.out.trans (hb2.mono hsz))
             clear hb2 hd0 hd1 hd2 hd3 hd4
             generalize hspl : zy u = sp at *
             obtain ⟨sg, st, se⟩ := sp
             have Hsp := zH hspl
             unfold DescG.str
             clear hspl
             go_wp2_with fail
             refine (xJ s _ (by omega)).mono ?_
             cases hns : zF s
             · rintro e w3 ⟨rfl, rfl⟩
               go_wp2_with fail
               go_ret
               exact ⟨ze (by rw [H.out, H1.out, hns]; rfl), HB2.out⟩
             · rintro e w3 ⟨rfl, rfl⟩
               go_wp2_with fail
               refine (xJ t _ (by omega)).mono ?_
               cases hnt : zF t
               · rintro e w3 ⟨rfl, rfl⟩
                 go_wp2_with fail
                 go_ret
                 exact ⟨ze (by rw [H.out, H1.out, hns, hnt]; rfl), HB2.out⟩
               · rintro e w3 ⟨rfl, rfl⟩
                 go_wp2_with fail
                 go_ret
                 exact ⟨ze (by rw [H.out, H1.out, hns, hnt]; rfl), HB2.out⟩
           · have H1 := zH (show QX ⟨k, n, s, t, u⟩ = false by unfold QX; rw [if_neg h1, if_neg h2, if_neg h3, if_neg h4, if_neg h5])
             have g1 : (k == 1) = false := by simpa using h1
             have g2 : (k == 2) = false := by simpa using h2
             have g3 : (k == 3) = false := by simpa using h3
             have g4 : (k == 4) = false := by simpa using h4
             have g5 : (k == 5) = false := by simpa using h5
             clear h1 h2 h3 h4 h5
             go_wp2_with fail
             go_ret
             exact ⟨ze (by rw [H.out, H1.out]), HB.out⟩
end PoolB
namespace PoolK
open Go.RowKit Base BinM Stru PoolM PoolA PoolB
def qd : List Cst → Cst → Int
 | [], _ => -1
 | x :: r, c => if Qa x c = true then 0 else if qd r c = -1 then -1 else qd r c + 1
theorem Zd7 (l : List Cst) (c : Cst) : -1 ≤ qd l c := by
 induction l with
 | nil => simp [qd]
 | cons x r ih => unfold qd; split; · omega
                  · split <;> omega
theorem yV : ∀ {l : List Cst} {c : Cst}, (∀ x ∈ l, x ≠ c) → qd l c = -1
 | [], _, _ => rfl
 | x :: r, c, h => by
   unfold qd
   rw [if_neg (fun e => h x (by simp) ((same_iff _ _).1 e)), if_pos (yV (fun y hy => h y (by simp [hy])))]
theorem jU : ∀ {l : List Cst} {c : Cst} {j : Nat} (hj : j < l.length), (∀ x ∈ l.take j, x ≠ c) → l[j] = c → qd l c = (j : Int)
 | [], _, _, hj, _, _ => by simp at hj
 | x :: r, c, 0, _, _, e => by
   have e : x = c := e
   unfold qd
   rw [if_pos ((same_iff _ _).2 e)]; rfl
 | x :: r, c, j + 1, hj, h, e => by
   have ih := jU (l := r) (c := c) (j := j) (by simpa using hj) (fun y hy => h y (by simp [hy])) e
   unfold qd
   rw [if_neg (fun e2 => h x (by simp) ((same_iff _ _).1 e2)), if_neg (by rw [ih]; omega), ih]
   omega
set_option maxRecDepth 100000 in
set_option maxHeartbeats 1000000 in
theorem kV (A : Option Addr) (l : List Cst) (m c : Nat) (k n : Int) (s t u : List UInt8) (w : World) (h : Zq w A m c l) :
 Calls Tryz.prog 162 #[.slice A m c, .agg #[.int .i64 k, .int .i64 n, .string ⟨s.toArray⟩, .string ⟨t.toArray⟩, .string ⟨u.toArray⟩]] w fun e w' => e = .returned (.int .i64 (qd l ⟨k, n, s, t, u⟩)) ∧ Below w.heap.size w w' := by
 have hml : l.length ≤ m := Nat.le_of_eq h.len.symm
 have hml2 : m ≤ l.length := Nat.le_of_eq h.len
 have hmx : m ≤ maxLen := Nat.le_trans h.le h.max
 unfold maxLen at hmx
 have HB := zH ((Below.refl w.heap.size w).alloc (Nat.le_refl _) (.cells #[.int .i64 k, .int .i64 n, .string ⟨s.toArray⟩, .string ⟨t.toArray⟩, .string ⟨u.toArray⟩] 75))
 have Hr := zH (h.rds.below HB.out)
 have Hbox := zH (Qe.new w k n s t u 75)
 clear h
 go_enter Tryz.func162, Tryz.ntmps162
 go_wp2_with fail
 go_loopw [5] (fun i wr => ∃ j : Nat, j ≤ m ∧ i = .int .i64 j ∧ (∀ x ∈ l.take j, x ≠ ⟨k, n, s, t, u⟩) ∧ Below (w.alloc (.cells #[.int .i64 k, .int .i64 n, .string ⟨s.toArray⟩, .string ⟨t.toArray⟩, .string ⟨u.toArray⟩] 75)).heap.size (w.alloc (.cells #[.int .i64 k, .int .i64 n, .string ⟨s.toArray⟩, .string ⟨t.toArray⟩, .string ⟨u.toArray⟩] 75)) wr) (fun i _ => m - (intOf i).toNat)
 case atStart => exact ⟨0, Nat.zero_le _, rfl, by simp, Below.refl _ _⟩
 case round =>
  obtain ⟨j, hj, rfl, hno, hbel⟩ := hrel
  have Hno := zH hno
  have Hbel := zH (HB.out.trans (hbel.mono (by simp)))
  have Hbel0 := zH hbel
  obtain ⟨hc0, hc1, hc2, hc3, hc4⟩ := Qe.below Hbox.out hbel (by simp)
  clear hno
  by_cases hlt : j < m
  · have hja : j < l.length := by omega
    obtain ⟨b1, o1, rfl, hb1, hd0, hd1, hd2, hd3, hd4⟩ := Qy (Hr.out.below hbel) hja
    have hj1 : (j : Int) < (m : Int) := by omega
    have hj0 : (0 : Int) ≤ (j : Int) := by omega
    have hg := xQ
    have hne := zf4 l[j].kind l[j].n k n l[j].s l[j].t l[j].u s t u
    clear hbel
    cases hx : Qa l[j] ⟨k, n, s, t, u⟩
    · have Hno2 := zH (show ∀ x ∈ l.take (j + 1), x ≠ ⟨k, n, s, t, u⟩ by
       intro x hm
       rw [List.take_succ_eq_append_getElem hja, List.mem_append] at hm
       rcases hm with hm | hm
       · exact Hno.out x hm
       · simp at hm
         subst hm
         intro e
         have e2 := (same_iff _ _).2 e
         first | (rw [hx] at e2; cases e2) | (rw [← e, Je] at hx; cases hx) | (rw [e, Je] at hx; cases hx))
      replace hne := fun W => (hne W).trans (by rw [hx] : _ = Result.ok (.bool false) W)
      clear hx
      generalize l[j] = x at *
      obtain ⟨x0, x1, x2, x3, x4⟩ := x
      simp only at hd0 hd1 hd2 hd3 hd4 hne
      go_wp2_with fail
      go_quiet (fail)
      go_wp2_with fail
      go_roundw
      case rel => exact ⟨j + 1, by omega, by go_num, Hno2.out, drawn Hbel0.out _⟩
      case measure => simp [intOf]; omega
    · have Hfin := zH (show qd l ⟨k, n, s, t, u⟩ = (j : Int) by
       have e := (same_iff _ _).1 hx
       exact jU hja Hno.out (by first | exact e | exact e.symm))
      replace hne := fun W => (hne W).trans (by rw [hx] : _ = Result.ok (.bool true) W)
      clear hx
      generalize l[j] = x at *
      obtain ⟨x0, x1, x2, x3, x4⟩ := x
      simp only at hd0 hd1 hd2 hd3 hd4 hne
      go_wp2_with fail
      go_quiet (fail)
      go_wp2_with fail
      go_ret
      exact ⟨by rw [Hfin.out]; rfl, drawn Hbel.out _⟩
  · have Hfin := zH (show qd l ⟨k, n, s, t, u⟩ = -1 by
     have h := Hno.out
     rw [List.take_of_length_le (by omega)] at h
     exact yV h)
    go_wp2_with fail
    go_ret
    exact ⟨by rw [Hfin.out]; rfl, Hbel.out⟩
set_option maxRecDepth 100000 in
set_option maxHeartbeats 1000000 in
theorem zj7 (A : Option Addr) (l : List Cst) (m c : Nat) (k n : Int) (s t u : List UInt8) (w : World) (h : Zq w A m c l) :
 Calls Tryz.prog 198 #[.slice A m c, .agg #[.int .i64 k, .int .i64 n, .string ⟨s.toArray⟩, .string ⟨t.toArray⟩, .string ⟨u.toArray⟩]] w fun e w' => e = .returned (.int .i64 (qd l ⟨k, n, s, t, u⟩)) ∧ Below w.heap.size w w' := by
 have hml : l.length ≤ m := Nat.le_of_eq h.len.symm
 have hml2 : m ≤ l.length := Nat.le_of_eq h.len
 have hmx : m ≤ maxLen := Nat.le_trans h.le h.max
 unfold maxLen at hmx
 have HB := zH ((Below.refl w.heap.size w).alloc (Nat.le_refl _) (.cells #[.int .i64 k, .int .i64 n, .string ⟨s.toArray⟩, .string ⟨t.toArray⟩, .string ⟨u.toArray⟩] 75))
 have Hr := zH (h.rds.below HB.out)
 have Hbox := zH (Qe.new w k n s t u 75)
 clear h
 go_enter Tryz.func198, Tryz.ntmps198
 go_wp2_with fail
 go_loopw [5, 8] (fun _ i wr => ∃ j : Nat, j ≤ m ∧ i = .int .i64 j ∧ (∀ x ∈ l.take j, x ≠ ⟨k, n, s, t, u⟩) ∧ Below (w.alloc (.cells #[.int .i64 k, .int .i64 n, .string ⟨s.toArray⟩, .string ⟨t.toArray⟩, .string ⟨u.toArray⟩] 75)).heap.size (w.alloc (.cells #[.int .i64 k, .int .i64 n, .string ⟨s.toArray⟩, .string ⟨t.toArray⟩, .string ⟨u.toArray⟩] 75)) wr) (fun _ i _ => m - (intOf i).toNat)
 case atStart => exact ⟨0, Nat.zero_le _, rfl, by simp, Below.refl _ _⟩
 case round =>
  obtain ⟨j, hj, rfl, hno, hbel⟩ := hrel
  have Hno := zH hno
  have Hbel := zH (HB.out.trans (hbel.mono (by simp)))
  have Hbel0 := zH hbel
  obtain ⟨hc0, hc1, hc2, hc3, hc4⟩ := Qe.below Hbox.out hbel (by simp)
  clear hno
  by_cases hlt : j < m
  · have hja : j < l.length := by omega
    obtain ⟨b1, o1, rfl, hb1, hd0, hd1, hd2, hd3, hd4⟩ := Qy (Hr.out.below hbel) hja
    have hj1 : (j : Int) < (m : Int) := by omega
    have hj0 : (0 : Int) ≤ (j : Int) := by omega
    have hg := xQ
    have hne := zf4 k n l[j].kind l[j].n s t u l[j].s l[j].t l[j].u
    clear hbel
    cases hx : Qa ⟨k, n, s, t, u⟩ l[j]
    · have Hno2 := zH (show ∀ x ∈ l.take (j + 1), x ≠ ⟨k, n, s, t, u⟩ by
       intro x hm
       rw [List.take_succ_eq_append_getElem hja, List.mem_append] at hm
       rcases hm with hm | hm
       · exact Hno.out x hm
       · simp at hm
         subst hm
         intro e
         have e2 := (same_iff _ _).2 e
         first | (rw [hx] at e2; cases e2) | (rw [← e, Je] at hx; cases hx) | (rw [e, Je] at hx; cases hx))
      replace hne := fun W => (hne W).trans (by rw [hx] : _ = Result.ok (.bool false) W)
      clear hx
      generalize l[j] = x at *
      obtain ⟨x0, x1, x2, x3, x4⟩ := x
      simp only at hd0 hd1 hd2 hd3 hd4 hne
      go_wp2_with fail
      go_quiet (fail)
      go_wp2_with fail
      go_roundw
      case rel => exact ⟨j + 1, by omega, by go_num, Hno2.out, drawn Hbel0.out _⟩
      case measure => simp [intOf]; omega
    · have Hfin := zH (show qd l ⟨k, n, s, t, u⟩ = (j : Int) by
       have e := (same_iff _ _).1 hx
       exact jU hja Hno.out (by first | exact e | exact e.symm))
      replace hne := fun W => (hne W).trans (by rw [hx] : _ = Result.ok (.bool true) W)
      clear hx
      generalize l[j] = x at *
      obtain ⟨x0, x1, x2, x3, x4⟩ := x
      simp only at hd0 hd1 hd2 hd3 hd4 hne
      go_wp2_with fail
      go_quiet (fail)
      go_wp2_with fail
      go_ret
      exact ⟨by rw [Hfin.out]; rfl, drawn Hbel.out _⟩
  · have Hfin := zH (show qd l ⟨k, n, s, t, u⟩ = -1 by
     have h := Hno.out
     rw [List.take_of_length_le (by omega)] at h
     exact yV h)
    go_wp2_with fail
    go_ret
    exact ⟨by rw [Hfin.out]; rfl, Hbel.out⟩
set_option maxRecDepth 100000 in
theorem zt6 (A : Option Addr) (l : List Cst) (m c : Nat) (k n : Int) (s t u : List UInt8) (w : World) (h : Zq w A m c l) :
 Calls Tryz.prog 167 #[.slice A m c, .agg #[.int .i64 k, .int .i64 n, .string ⟨s.toArray⟩, .string ⟨t.toArray⟩, .string ⟨u.toArray⟩]] w fun e w' => e = .returned (.int .i64 (qd l ⟨k, n, s, t, u⟩)) ∧ Below w.heap.size w w' := by
 have HB := zH ((Below.refl w.heap.size w).alloc (Nat.le_refl _) (.cells #[.int .i64 k, .int .i64 n, .string ⟨s.toArray⟩, .string ⟨t.toArray⟩, .string ⟨u.toArray⟩] 75))
 have Hc := zH (Zq.below h HB.out)
 clear h
 go_enter Tryz.func167, Tryz.ntmps167
 go_wp2_with fail
 refine (zj7 A l m c k n s t u _ Hc.out).mono ?_
 rintro e w1 ⟨rfl, hb1⟩
 have Hb1 := zH (HB.out.trans (hb1.mono (by simp)))
 clear hb1
 go_wp2_with fail
 go_ret
 exact ⟨rfl, Hb1.out⟩
end PoolK
namespace PoolC
open Go.RowKit Base BinM DescM DescW DescX DescR DescP DescQ Stru PoolM PoolA PoolB
theorem r1 (n : Int) (s t u : List UInt8) : Z8 ⟨1, n, s, t, u⟩ = ((s == []) && (t == []) && (u == [])) := by simp [Z8, zR, QX, Qa]
theorem r2 (n : Int) (s t u : List UInt8) : Z8 ⟨2, n, s, t, u⟩ = ((n == 0) && (t == []) && (u == []) && decide (s.length ≤ 64)) := by simp [Z8, zR, QX, Qa]
theorem r3 (n : Int) (s t u : List UInt8) : Z8 ⟨3, n, s, t, u⟩ = ((n == 0) && (t == []) && (u == []) && zI s) := by simp [Z8, zR, QX, Qa]
theorem r4 (n : Int) (s t u : List UInt8) : Z8 ⟨4, n, s, t, u⟩ = ((n == 0) && zF s && zF t && zI u) := by simp [Z8, zR, QX, Qa, Bool.and_assoc]
theorem r5 (n : Int) (s t u : List UInt8) : Z8 ⟨5, n, s, t, u⟩ = ((n == 0) && zF s && zF t && ((zy u).2.2 == 0)) := by simp [Z8, zR, QX, Qa, Bool.and_assoc]
theorem r0 {k n : Int} {s t u : List UInt8} (h1 : k ≠ 1) (h2 : k ≠ 2) (h3 : k ≠ 3) (h4 : k ≠ 4) (h5 : k ≠ 5) : Z8 ⟨k, n, s, t, u⟩ = false := by
 unfold Z8 QX
 rw [if_neg h1, if_neg h2, if_neg h3, if_neg h4, if_neg h5, Bool.and_false]
set_option maxRecDepth 100000 in
set_option maxHeartbeats 4000000 in
theorem Jk (k n : Int) (s t u : List UInt8) (w : World) (hs : s.length ≤ 140737488355327) (ht : t.length ≤ 140737488355327) (hu : u.length ≤ 140737488355327) :
 Calls Tryz.prog 193 #[.agg #[.int .i64 k, .int .i64 n, .string ⟨s.toArray⟩, .string ⟨t.toArray⟩, .string ⟨u.toArray⟩]] w (Ql w (.bool (Z8 ⟨k, n, s, t, u⟩))) := by
 have hB0 := (Below.refl w.heap.size w).alloc (Nat.le_refl _) (.cells #[.int .i64 k, .int .i64 n, .string ⟨s.toArray⟩, .string ⟨t.toArray⟩, .string ⟨u.toArray⟩] 75)
 have HB := zH hB0
 clear hB0
 by_cases h1 : k = 1
 · subst h1
   have H := zH (r1 n s t u)
   clear hs ht hu
   cases hs : (s == [])
   · go_enter Tryz.func193, Tryz.ntmps193
     go_wp2
     go_ret
     exact ⟨ze (by rw [H.out, hs]; rfl), HB.out⟩
   · cases ht : (t == [])
     · go_enter Tryz.func193, Tryz.ntmps193
       go_wp2
       go_ret
       exact ⟨ze (by rw [H.out, hs, ht]; rfl), HB.out⟩
     · cases hu : (u == [])
       · go_enter Tryz.func193, Tryz.ntmps193
         go_wp2
         go_ret
         exact ⟨ze (by rw [H.out, hs, ht, hu]; rfl), HB.out⟩
       · go_enter Tryz.func193, Tryz.ntmps193
         go_wp2
         go_ret
         exact ⟨ze (by rw [H.out, hs, ht, hu]; rfl), HB.out⟩
 · by_cases h2 : k = 2
   · subst h2
     have H := zH (r2 n s t u)
     have hsz := zH (size_mk s)
     clear h1 ht hu
     cases hn : (n == 0)
     · go_enter Tryz.func193, Tryz.ntmps193
       go_wp2
       go_ret
       exact ⟨ze (by rw [H.out, hn]; rfl), HB.out⟩
     · cases ht : (t == [])
       · go_enter Tryz.func193, Tryz.ntmps193
         go_wp2
         go_ret
         exact ⟨ze (by rw [H.out, hn, ht]; rfl), HB.out⟩
       · cases hu : (u == [])
         · go_enter Tryz.func193, Tryz.ntmps193
           go_wp2
           go_ret
           exact ⟨ze (by rw [H.out, hn, ht, hu]; rfl), HB.out⟩
         · by_cases h5 : s.length ≤ 64
           · have h5' : decide (s.length ≤ 64) = true := decide_eq_true h5
             go_enter Tryz.func193, Tryz.ntmps193
             go_wp2
             go_ret
             exact ⟨ze (by rw [H.out, hn, ht, hu, Bool.eq_iff_iff]; simp <;> omega), HB.out⟩
           · go_enter Tryz.func193, Tryz.ntmps193
             go_wp2
             go_ret
             exact ⟨ze (by rw [H.out, hn, ht, hu, Bool.eq_iff_iff]; simp <;> omega), HB.out⟩
   · by_cases h3 : k = 3
     · subst h3
       have H := zH (r3 n s t u)
       clear h1 h2 ht hu
       cases hn : (n == 0)
       · go_enter Tryz.func193, Tryz.ntmps193
         go_wp2
         go_ret
         exact ⟨ze (by rw [H.out, hn]; rfl), HB.out⟩
       · cases ht : (t == [])
         · go_enter Tryz.func193, Tryz.ntmps193
           go_wp2
           go_ret
           exact ⟨ze (by rw [H.out, hn, ht]; rfl), HB.out⟩
         · cases hu : (u == [])
           · go_enter Tryz.func193, Tryz.ntmps193
             go_wp2
             go_ret
             exact ⟨ze (by rw [H.out, hn, ht, hu]; rfl), HB.out⟩
           · go_enter Tryz.func193, Tryz.ntmps193
             go_wp2_with fail
             refine (zP s _ (by omega)).mono ?_
             rintro e w2 ⟨rfl, rfl⟩
             go_wp2_with fail
             go_ret
             exact ⟨ze (by rw [H.out, hn, ht, hu]; rfl), HB.out⟩
     · by_cases h4 : k = 4
       · subst h4
         have H := zH (r4 n s t u)
         clear h1 h2 h3
         cases hn : (n == 0)
         · go_enter Tryz.func193, Tryz.ntmps193
           go_wp2
           go_ret
           exact ⟨ze (by rw [H.out, hn]; rfl), HB.out⟩
         · go_enter Tryz.func193, Tryz.ntmps193
           go_wp2_with fail
           refine (Ji s _ (by omega)).mono ?_
           cases hns : zF s
           · rintro e w3 ⟨rfl, rfl⟩
             go_wp2_with fail
             go_ret
             exact ⟨ze (by rw [H.out, hn, hns]; rfl), HB.out⟩
           · rintro e w3 ⟨rfl, rfl⟩
             go_wp2_with fail
             refine (Ji t _ (by omega)).mono ?_
             cases hnt : zF t
             · rintro e w3 ⟨rfl, rfl⟩
               go_wp2_with fail
               go_ret
               exact ⟨ze (by rw [H.out, hn, hns, hnt]; rfl), HB.out⟩
             · rintro e w3 ⟨rfl, rfl⟩
               go_wp2_with fail
               refine (zP u _ (by omega)).mono ?_
               rintro e w3 ⟨rfl, rfl⟩
               go_wp2_with fail
               go_ret
               exact ⟨ze (by rw [H.out, hn, hns, hnt]; rfl), HB.out⟩
       · by_cases h5 : k = 5
         · subst h5
           have H := zH (r5 n s t u)
           obtain ⟨hc0, hc1, hc2, hc3, hc4⟩ := Qe.new w 5 n s t u 75
           clear h1 h2 h3 h4
           generalize hspl : zy u = sp at *
           obtain ⟨sg, st, se⟩ := sp
           have Hsp := zH hspl
           have hsz := HB.out.size
           clear hspl
           go_enter Tryz.func193, Tryz.ntmps193
           go_wp2_with fail
           refine (jm u _ (by omega)).mono ?_
           rw [Hsp.out]
           rintro e w2 ⟨v, rfl, _, hb2⟩
           obtain ⟨he0, he1, he2, he3, he4⟩ := Qe.after (k := 5) (n := n) (s := s) (t := t) (u := u) ⟨hc0, hc1, hc2, hc3, hc4⟩ hb2
           have HB2 := zH (HB.out.trans (hb2.mono hsz))
           clear hb2 hc0 hc1 hc2 hc3 hc4
           unfold DescG.str
           cases hn : (n == 0)
           · go_wp2_with fail
             go_ret
             exact ⟨ze (by rw [H.out, hn]; rfl), HB2.out⟩
           · go_wp2_with fail
             refine (Ji s _ (by omega)).mono ?_
             cases hns : zF s
             · rintro e w3 ⟨rfl, rfl⟩
               go_wp2_with fail
               go_ret
               exact ⟨ze (by rw [H.out, hn, hns]; rfl), HB2.out⟩
             · rintro e w3 ⟨rfl, rfl⟩
               go_wp2_with fail
               refine (Ji t _ (by omega)).mono ?_
               cases hnt : zF t
               · rintro e w3 ⟨rfl, rfl⟩
                 go_wp2_with fail
                 go_ret
                 exact ⟨ze (by rw [H.out, hn, hns, hnt]; rfl), HB2.out⟩
               · rintro e w3 ⟨rfl, rfl⟩
                 go_wp2_with fail
                 go_ret
                 exact ⟨ze (by rw [H.out, hn, hns, hnt]; rfl), HB2.out⟩
         · have H := zH (r0 (n := n) (s := s) (t := t) (u := u) h1 h2 h3 h4 h5)
           have g1 : (k == 1) = false := by simpa using h1
           have g2 : (k == 2) = false := by simpa using h2
           have g3 : (k == 3) = false := by simpa using h3
           have g4 : (k == 4) = false := by simpa using h4
           have g5 : (k == 5) = false := by simpa using h5
           clear h1 h2 h3 h4 h5 hs ht hu
           go_enter Tryz.func193, Tryz.ntmps193
           go_wp2
           go_ret
           exact ⟨ze H.out.symm, HB.out⟩
end PoolC
end Go.Proofs.YtehainbhoflpnaaGreatDoor
