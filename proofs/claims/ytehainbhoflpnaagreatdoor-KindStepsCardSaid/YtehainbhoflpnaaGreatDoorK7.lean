/- pieces -/
import Derived.Test.YtehainbhoflpnaaGreatDoorK2
import Derived.Deep.QuietTactic
import Derived.BigQuiet
import Derived.Laws.StructEq
namespace Go.Proofs.YtehainbhoflpnaaGreatDoor
namespace InsM
def UZ : List (List UInt8 × Int) := [([110, 111, 112], 0), ([105, 110, 116], 1), ([115, 116, 114], 2), ([116, 114, 117, 101], 0), ([102, 97, 108, 115, 101], 0), ([110, 117, 108, 108], 0), ([108, 111, 97, 100], 6), ([115, 116, 111, 114, 101], 6), ([112, 111, 112], 0), ([100, 117, 112], 0), ([97, 100, 100], 0), ([115, 117, 98], 0), ([109, 117, 108], 0), ([100, 105, 118], 0), ([114, 101, 109], 0), ([110, 101, 103], 0), ([110, 111, 116], 0), ([108, 116], 0), ([108, 101], 0), ([101, 113, 105], 0), ([101, 113, 98], 0), ([101, 113, 114], 0), ([106, 117, 109, 112], 7), ([106, 117, 109, 112, 116], 7), ([106, 117, 109, 112, 102], 7), ([110, 101, 119], 3), ([103, 101, 116, 102], 4), ([112, 117, 116, 102], 4), ([97, 114, 114], 3), ([97, 108, 111, 97, 100], 0), ([97, 115, 116, 111, 114, 101], 0), ([97, 108, 101, 110], 0), ([99, 97, 108, 108], 5), ([114, 101, 116], 0), ([114, 101, 116, 118], 0), ([116, 104, 114, 111, 119], 0), ([101, 110, 116, 101, 114], 0), ([101, 120, 105, 116], 0), ([99, 97, 115, 116], 3), ([105, 115], 3), ([112, 114, 105, 110, 116], 0), ([114, 101, 97, 100], 0), ([106, 111, 105, 110], 0), ([115, 108, 101, 110], 0), ([115, 112, 97, 119, 110], 0), ([111, 108, 100], 4)]
def Qo (k : Nat) : List UInt8 := (UZ.getD k ([], -1)).1
def yh (k : Nat) : Int := (UZ.getD k ([], -1)).2
def Zv (op : Int) : Int := if 0 ≤ op ∧ op < 46 then yh op.toNat else -1
def uU (op : Int) : List UInt8 := if 0 ≤ op ∧ op < 46 then Qo op.toNat else []
def zf2 (s : List UInt8) : Int := match (List.range 46).find? (fun k => Qo k == s) with
 | some k => (k : Int)
 | none => -1
theorem uY {op : Int} (h : ¬ (0 ≤ op ∧ op < 46)) : Zv op = -1 := by unfold Zv; rw [if_neg h]
theorem Zc5 {k : Nat} (h : k < 46) : Zv (k : Int) = yh k := by unfold Zv; rw [if_pos (by omega)]; simp
theorem uS {op : Int} (h : ¬ (0 ≤ op ∧ op < 46)) : uU op = [] := by unfold uU; rw [if_neg h]
theorem zd1 {k : Nat} (h : k < 46) : uU (k : Int) = Qo k := by unfold uU; rw [if_pos (by omega)]; simp
theorem yV {s : List UInt8} (h : ∀ j, j < 46 → Qo j ≠ s) : zf2 s = -1 := by
 unfold zf2
 have : (List.range 46).find? (fun k => Qo k == s) = none := by
  rw [List.find?_eq_none]
  intro k hk
  have := h k (List.mem_range.1 hk)
  simpa using this
 rw [this]
theorem find_range {s : List UInt8} {k : Nat} : ∀ n, k < n → (∀ j, j < k → Qo j ≠ s) → Qo k = s → (List.range n).find? (fun k => Qo k == s) = some k := by
 intro n hn hb hk
 rw [List.find?_eq_some_iff_getElem]
 refine ⟨by simpa using hk, k, by simpa using hn, by simp, ?_⟩
 intro j hj
 simpa using hb j hj
theorem jU {s : List UInt8} {k : Nat} (hk : k < 46) (hb : ∀ j, j < k → Qo j ≠ s) (h : Qo k = s) : zf2 s = (k : Int) := by
 unfold zf2
 rw [find_range 46 hk hb h]
theorem Kv : ∀ k, k < 46 → 0 ≤ yh k ∧ yh k ≤ 7 := by decide
theorem uX (op : Int) : -1 ≤ Zv op ∧ Zv op ≤ 7 := by
 unfold Zv
 split
 · rename_i h
   have := Kv op.toNat (by omega)
   omega
 · omega
theorem Za4 : ∀ k, k < 46 → Qo k ≠ [] := by decide
theorem VB : ∀ k, k < 46 → (k = 1 ∨ k = 2 ∨ k = 25 ∨ k = 28 ∨ k = 38 ∨ k = 39 ∨ k = 26 ∨ k = 27 ∨ k = 45 ∨ k = 32 ∨ k = 6 ∨ k = 7 ∨ k = 22 ∨ k = 23 ∨ k = 24) ∨ yh k = 0 := by decide
end InsM
namespace InsA
open Go.RowKit InsM Base
def str (l : List UInt8) : Value := .string ⟨l.toArray⟩
def Laid (w : World) : Prop := 0 < w.heap.size ∧ ∀ k, k < 46 → w.cell? ⟨0, k * 2, none⟩ = some (.string ⟨(Qo k).toArray⟩) ∧ w.cell? ⟨0, k * 2 + 1, none⟩ = some (.int .i64 (yh k))
theorem Laid.below {w w' : World} {B : Nat} (h : Laid w) (hb : Below B w w') (hB : 0 < B) : Laid w' :=
 ⟨Nat.lt_of_lt_of_le h.1 hb.size, fun k hk => ⟨(hb.cell (p := ⟨0, k * 2, none⟩) hB).trans (h.2 k hk).1, (hb.cell (p := ⟨0, k * 2 + 1, none⟩) hB).trans (h.2 k hk).2⟩⟩
theorem QS {k : IntKind} {a b : Int} (h : a = b) : Ending.returned (.int k a) = .returned (.int k b) := by rw [h]
theorem ze {a b : Bool} (h : a = b) : Ending.returned (.bool a) = .returned (.bool b) := by rw [h]
theorem Vg {a b : List UInt8} (h : a = b) : Ending.returned (.string ⟨a.toArray⟩) = .returned (.string ⟨b.toArray⟩) := by rw [h]
def inB (n m : Int) : Bool := decide (0 ≤ n ∧ n < m)
theorem QF (n m : Int) (w : World) :
 Calls Tryz.prog 209 #[.int .i64 n, .int .i64 m] w fun e w' => e = .returned (.bool (inB n m)) ∧ w = w' := by
 by_cases h : 0 ≤ n
 · by_cases h2 : n < m
   all_goals
    go_enter Tryz.func209, Tryz.ntmps209
    go_wp2
    go_ret
    exact ⟨ze (by rw [Bool.eq_iff_iff]; simp [inB]; omega), rfl⟩
 · go_enter Tryz.func209, Tryz.ntmps209
   go_wp2
   go_ret
   exact ⟨ze (by rw [Bool.eq_iff_iff]; simp [inB]; omega), rfl⟩
theorem Zd2 {n m : Int} (h : 0 ≤ n ∧ n < m) : inB n m = true := decide_eq_true h
theorem zj8 {n m : Int} (h : ¬ (0 ≤ n ∧ n < m)) : inB n m = false := decide_eq_false h
theorem Jm (op : Int) (w : World) (hl : Laid w) :
 Calls Tryz.prog 208 #[.int .i64 op] w fun e w' => e = .returned (.int .i64 (Zv op)) ∧ w = w' := by
 by_cases h : 0 ≤ op ∧ op < 46
 · obtain ⟨k, rfl⟩ : ∃ k : Nat, op = (k : Int) := ⟨op.toNat, by omega⟩
   have hk : k < 46 := by omega
   have hc := (hl.2 k hk).2
   have hi := Zd2 h
   have H := zH (Zc5 hk)
   clear h hl
   go_enter Tryz.func208, Tryz.ntmps208
   go_wp2_with (go_at_call 209; refine (QF _ _ _).mono ?_; rw [hi]; rintro e w' ⟨rfl, rfl⟩)
   go_ret
   exact ⟨QS H.out.symm, rfl⟩
 · have hi := zj8 h
   have H := zH (uY h)
   clear h hl
   go_enter Tryz.func208, Tryz.ntmps208
   go_wp2_with (go_at_call 209; refine (QF _ _ _).mono ?_; rw [hi]; rintro e w' ⟨rfl, rfl⟩)
   go_ret
   exact ⟨QS H.out.symm, rfl⟩
end InsA
namespace InsB
open Go.RowKit InsM Base InsA
def Gl : List Value := (List.range 46).map fun k => str (Qo k)
def za0 (w : World) (e : Ending) (w' : World) : Prop :=
 ∃ b, e = .returned (.slice (some ⟨b, 0, none⟩) 46 46) ∧ b < w'.heap.size ∧ (∀ k, k < 46 → w'.cell? ⟨b, k, none⟩ = some (.string ⟨(Qo k).toArray⟩)) ∧ Below w.heap.size w w'
set_option maxRecDepth 100000 in
theorem xI (w : World) : Calls Tryz.prog 116 #[] w (za0 w) := by
 go_enter Tryz.func116, Tryz.ntmps116
 go_wp2
 go_ret
 refine ⟨w.heap.size, rfl, by simp, fun k hk => ?_, (Below.refl _ _).alloc (Nat.le_refl _) _⟩
 show ((w.alloc (.cells Gl.toArray 9)).cell? ⟨w.heap.size, k, none⟩) = _
 rw [cell_of_row _ _ k Gl.toArray 9 (0, 0) (heap_alloc_new w _)]
 simp [Gl, str, hk]
def Ql (w : World) (v : Value) (e : Ending) (w' : World) : Prop := e = .returned v ∧ Below w.heap.size w w'
set_option maxRecDepth 100000 in
theorem Qn (op : Int) (w : World) :
 Calls Tryz.prog 55 #[.int .i64 op] w (Ql w (.string ⟨(uU op).toArray⟩)) := by
 by_cases h0 : op < 0
 · have H := zH (uS (op := op) (by omega))
   go_enter Tryz.func55, Tryz.ntmps55
   go_wp2
   go_ret
   exact ⟨Vg H.out.symm, Below.refl _ _⟩
 · by_cases h1 : 46 ≤ op
   · have H := zH (uS (op := op) (by omega))
     go_enter Tryz.func55, Tryz.ntmps55
     go_wp2_with (go_at_call 116; refine (xI _).mono ?_; rintro e w1 ⟨b, rfl, hb, hc, hbel⟩; have Hbel := zH hbel; clear hc hbel)
     go_ret
     exact ⟨Vg H.out.symm, Hbel.out⟩
   · obtain ⟨k, rfl⟩ : ∃ k : Nat, op = (k : Int) := ⟨op.toNat, by omega⟩
     have hk : k < 46 := by omega
     have H := zH (zd1 hk)
     go_enter Tryz.func55, Tryz.ntmps55
     go_wp2_with fail
     refine (xI _).mono ?_
     rintro e w1 ⟨b, rfl, hb, hc, hbel⟩
     have Hbel := zH hbel
     have hsz := hbel.size
     clear hc hbel
     go_wp2_with fail
     refine (xI _).mono ?_
     rintro e w2 ⟨b2, rfl, hb2, hc2, hbel2⟩
     have Hbel2 := zH (Hbel.out.trans (hbel2.mono hsz))
     have hc3 := hc2 k hk
     clear hc2 hbel2
     go_wp2_with fail
     go_ret
     exact ⟨Vg H.out.symm, Hbel2.out⟩
theorem listed {op : Int} (h : Zv op ≠ 0) (h2 : 0 ≤ op ∧ op < 46) : op = 1 ∨ op = 2 ∨ op = 25 ∨ op = 28 ∨ op = 38 ∨ op = 39 ∨ op = 26 ∨ op = 27 ∨ op = 45 ∨ op = 32 ∨ op = 6 ∨ op = 7 ∨ op = 22 ∨ op = 23 ∨ op = 24 := by
 have := VB op.toNat (by omega)
 unfold Zv at h
 rw [if_pos h2] at h
 rcases this with h' | h'
 · omega
 · exact absurd h' h
set_option maxRecDepth 100000 in
theorem qR (op : Int) (w : World) :
 Calls Tryz.prog 26 #[.int .i64 op] w (Ql w (.int .i64 (Zv op))) := by
 by_cases hin : 0 ≤ op ∧ op < 46
 · by_cases hk : Zv op = 0
   · have hne : (uU op == []) = false := by
      obtain ⟨k, rfl⟩ : ∃ k : Nat, op = (k : Int) := ⟨op.toNat, by omega⟩
      rw [zd1 (by omega)]
      simpa using Za4 k (by omega)
     have n1 : ∀ n : Int, Zv n ≠ 0 → (op == n) = false := fun n hn => by
      simp only [beq_eq_false_iff_ne]
      rintro rfl
      exact hn hk
     have a1 := n1 1 (by decide)
     have a2 := n1 2 (by decide)
     have a25 := n1 25 (by decide)
     have a28 := n1 28 (by decide)
     have a38 := n1 38 (by decide)
     have a39 := n1 39 (by decide)
     have a26 := n1 26 (by decide)
     have a27 := n1 27 (by decide)
     have a45 := n1 45 (by decide)
     have a32 := n1 32 (by decide)
     have a6 := n1 6 (by decide)
     have a7 := n1 7 (by decide)
     have a22 := n1 22 (by decide)
     have a23 := n1 23 (by decide)
     have a24 := n1 24 (by decide)
     have Hk := zH hk
     clear hk n1 hin
     generalize hN : uU op = N at hne
     have HN := zH hN
     clear hN
     go_enter Tryz.func26, Tryz.ntmps26
     go_wp2_with (go_at_call 55; refine (Qn _ _).mono ?_; rw [HN.out]; rintro e w1 ⟨rfl, hb⟩; have Hb := zH hb; clear hb)
     go_ret
     exact ⟨QS Hk.out.symm, Hb.out⟩
   · rcases listed hk hin with rfl | rfl | rfl | rfl | rfl | rfl | rfl | rfl | rfl | rfl | rfl | rfl | rfl | rfl | rfl
     all_goals
      clear hin hk
      go_enter Tryz.func26, Tryz.ntmps26
      go_wp2
      go_ret
      exact ⟨QS (by decide), Below.refl _ _⟩
 · have H := zH (uY hin)
   have hN := uS hin
   have n1 : ∀ n : Int, 0 ≤ n ∧ n < 46 → (op == n) = false := fun n hn => by
    simp only [beq_eq_false_iff_ne]
    rintro rfl
    exact hin hn
   have a1 := n1 1 (by decide)
   have a2 := n1 2 (by decide)
   have a25 := n1 25 (by decide)
   have a28 := n1 28 (by decide)
   have a38 := n1 38 (by decide)
   have a39 := n1 39 (by decide)
   have a26 := n1 26 (by decide)
   have a27 := n1 27 (by decide)
   have a45 := n1 45 (by decide)
   have a32 := n1 32 (by decide)
   have a6 := n1 6 (by decide)
   have a7 := n1 7 (by decide)
   have a22 := n1 22 (by decide)
   have a23 := n1 23 (by decide)
   have a24 := n1 24 (by decide)
   have HN := zH hN
   clear n1 hin hN
   go_enter Tryz.func26, Tryz.ntmps26
   go_wp2_with (go_at_call 55; refine (Qn _ _).mono ?_; rw [HN.out]; rintro e w1 ⟨rfl, hb⟩; have Hb := zH hb; clear hb)
   go_ret
   exact ⟨QS H.out.symm, Hb.out⟩
end InsB
namespace InsC
open Go.RowKit InsM Base InsA InsB Stru
def qM (x : InsT) (cs : List Cst) (many locals : Int) : Bool :=
 if Zv x.1 = -1 then false
 else if Zv x.1 = 0 then x.2 == 0
 else if Zv x.1 = 6 then inB x.2 locals
 else if Zv x.1 = 7 then inB x.2 many
 else match cs[x.2.toNat]? with
  | some c => decide (0 ≤ x.2) && (c.kind == Zv x.1)
  | none => false
theorem Laid.alloc {w : World} (h : Laid w) (o : Obj) : Laid (w.alloc o) := h.below ((Below.refl w.heap.size w).alloc (Nat.le_refl _) o) h.1
theorem zg0 (op a : Int) (A : Option Addr) (m c : Nat) (cs : List Cst) (many locals : Int) (w : World) (hl : Laid w) (hcs : Zq w A m c cs) :
 Calls Tryz.prog 200 #[.agg #[.int .i64 op, .int .i64 a], .slice A m c, .int .i64 many, .int .i64 locals] w (Ql w (.bool (qM (op, a) cs many locals))) := by
 have Hl := zH (Laid.alloc hl (.cells #[.int .i64 op, .int .i64 a] 24))
 have hr := uX op
 have Hcan := zH (show qM (op, a) cs many locals = qM (op, a) cs many locals from rfl)
 obtain ⟨K, hK⟩ : ∃ K, K = Zv op := ⟨_, rfl⟩
 rw [← hK] at hr
 have HK := zH hK
 have Hm := zH hcs.len
 have Hr := zH hcs.rds
 clear hK hl
 have hB := (Below.refl w.heap.size w).alloc (Nat.le_refl _) (.cells #[.int .i64 op, .int .i64 a] 24)
 have HB := zH hB
 clear hB hcs
 by_cases h1 : K = -1
 · subst h1
   have H : qM (op, a) cs many locals = false := by unfold qM; rw [← HK.out]; rfl
   have H := zH H
   go_enter Tryz.func200, Tryz.ntmps200
   go_wp2_with (go_at_call 208; refine (Jm _ _ Hl.out).mono ?_; rw [← HK.out]; rintro e w' ⟨rfl, rfl⟩)
   go_ret
   exact ⟨ze H.out.symm, HB.out⟩
 · by_cases h2 : K = 0
   · subst h2
     have H : qM (op, a) cs many locals = (a == 0) := by unfold qM; rw [← HK.out]; rfl
     have H := zH H
     go_enter Tryz.func200, Tryz.ntmps200
     go_wp2_with (go_at_call 208; refine (Jm _ _ Hl.out).mono ?_; rw [← HK.out]; rintro e w' ⟨rfl, rfl⟩)
     go_ret
     exact ⟨ze H.out.symm, HB.out⟩
   · by_cases h3 : K = 6
     · subst h3
       have H : qM (op, a) cs many locals = inB a locals := by unfold qM; rw [← HK.out]; rfl
       have H := zH H
       go_enter Tryz.func200, Tryz.ntmps200
       go_wp2_with (first
        | (go_at_call 208; refine (Jm _ _ Hl.out).mono ?_; rw [← HK.out]; rintro e w' ⟨rfl, rfl⟩)
        | (go_at_call 209; refine (QF _ _ _).mono ?_; rintro e w' ⟨rfl, rfl⟩))
       go_ret
       exact ⟨ze H.out.symm, HB.out⟩
     · by_cases h4 : K = 7
       · subst h4
         have H : qM (op, a) cs many locals = inB a many := by unfold qM; rw [← HK.out]; rfl
         have H := zH H
         go_enter Tryz.func200, Tryz.ntmps200
         go_wp2_with (first
          | (go_at_call 208; refine (Jm _ _ Hl.out).mono ?_; rw [← HK.out]; rintro e w' ⟨rfl, rfl⟩)
          | (go_at_call 209; refine (QF _ _ _).mono ?_; rintro e w' ⟨rfl, rfl⟩))
         go_ret
         exact ⟨ze H.out.symm, HB.out⟩
       · have g1 : (K == -1) = false := by simpa using h1
         have g2 : (K == 0) = false := by simpa using h2
         have g3 : (K == 6) = false := by simpa using h3
         have g4 : (K == 7) = false := by simpa using h4
         have H0 : qM (op, a) cs many locals = match cs[a.toNat]? with
          | some c => decide (0 ≤ a) && (c.kind == K)
          | none => false := by
          unfold qM
          rw [← HK.out, if_neg h1, if_neg h2, if_neg h3, if_neg h4]
         clear h1 h2 h3 h4
         by_cases hin : 0 ≤ a ∧ a < (m : Int)
         · obtain ⟨k, rfl⟩ : ∃ k : Nat, a = (k : Int) := ⟨a.toNat, by omega⟩
           have hk : k < cs.length := by have := Hm.out; omega
           have hkm : k < m := by omega
           obtain ⟨b, o, rfl, hb, hc, _, _, _, _⟩ := Qy (Hr.out.below HB.out) hk
           have hi := Zd2 hin
           have H : qM (op, (k : Int)) cs many locals = (cs[k].kind == K) := by
            rw [H0]
            simp [hk]
           have H := zH H
           clear H0 hin
           generalize hq : cs[k].kind = q at *
           clear hq
           go_enter Tryz.func200, Tryz.ntmps200
           go_wp2_with (first
            | (go_at_call 208; refine (Jm _ _ Hl.out).mono ?_; rw [← HK.out]; rintro e w' ⟨rfl, rfl⟩)
            | (go_at_call 209; refine (QF _ _ _).mono ?_; rw [hi]; rintro e w' ⟨rfl, rfl⟩))
           go_ret
           exact ⟨ze H.out.symm, HB.out⟩
         · have hi := zj8 hin
           have H : qM (op, a) cs many locals = false := by
            rw [H0]
            by_cases h0 : 0 ≤ a
            · have : cs.length ≤ a.toNat := by have := Hm.out; omega
              rw [List.getElem?_eq_none this]
            · cases cs[a.toNat]? <;> simp [h0]
           have H := zH H
           clear H0 hin
           go_enter Tryz.func200, Tryz.ntmps200
           go_wp2_with (first
            | (go_at_call 208; refine (Jm _ _ Hl.out).mono ?_; rw [← HK.out]; rintro e w' ⟨rfl, rfl⟩)
            | (go_at_call 209; refine (QF _ _ _).mono ?_; rw [hi]; rintro e w' ⟨rfl, rfl⟩))
           go_ret
           exact ⟨ze H.out.symm, HB.out⟩
end InsC
namespace InsD
open Go.RowKit InsM Base InsA InsB Stru InsC
def qA (l : List InsT) (cs : List Cst) (locals : Int) : Int × Int :=
 if l.length < 1 ∨ 512 < l.length then (0, 6)
 else match (List.range l.length).find? (fun k => !qM (l.getD k (0, 0)) cs (l.length : Int) locals) with
  | some k => ((k : Int), 12)
  | none => (0, 0)
def zn2 (r : Int × Int) : Value := .tuple #[.int .i64 r.1, .int .i64 r.2]
theorem jR {r : Int × Int} {a b : Int} (h : r = (a, b)) : Ending.returned (.tuple #[.int .i64 a, .int .i64 b]) = .returned (zn2 r) := by subst h; rfl
theorem U6 {p : Nat → Bool} {k : Nat} : ∀ n, k < n → (∀ j, j < k → p j = false) → p k = true → (List.range n).find? p = some k := by
 intro n hn hb hk
 rw [List.find?_eq_some_iff_getElem]
 refine ⟨hk, k, by simpa using hn, by simp, ?_⟩
 intro j hj
 simpa using hb j hj
theorem YX {p : Nat → Bool} (n : Nat) (h : ∀ j, j < n → p j = false) : (List.range n).find? p = none := by
 rw [List.find?_eq_none]
 intro k hk
 simpa using h k (List.mem_range.1 hk)
theorem Ui {l : List InsT} {cs : List Cst} {locals : Int} (h : l.length < 1 ∨ 512 < l.length) : qA l cs locals = (0, 6) := by unfold qA; rw [if_pos h]
theorem gy {l : List InsT} {cs : List Cst} {locals : Int} (h : ¬ (l.length < 1 ∨ 512 < l.length)) {k : Nat} (hk : k < l.length) (hb : ∀ j (hj : j < l.length), j < k → qM l[j] cs (l.length : Int) locals = true) (h2 : qM l[k] cs (l.length : Int) locals = false) : qA l cs locals = ((k : Int), 12) := by
 have e := U6 (p := fun k => !qM (l.getD k (0, 0)) cs (l.length : Int) locals) (k := k) l.length hk (fun j hj => by
  have : j < l.length := by omega
  rw [List.getD_eq_getElem?_getD, List.getElem?_eq_getElem this]
  simp [hb j this hj]) (by
  rw [List.getD_eq_getElem?_getD, List.getElem?_eq_getElem hk]
  simp [h2])
 unfold qA
 rw [if_neg h, e]
theorem gu {l : List InsT} {cs : List Cst} {locals : Int} (h : ¬ (l.length < 1 ∨ 512 < l.length)) (hb : ∀ j (hj : j < l.length), qM l[j] cs (l.length : Int) locals = true) : qA l cs locals = (0, 0) := by
 have e := YX (p := fun k => !qM (l.getD k (0, 0)) cs (l.length : Int) locals) l.length (fun j hj => by
  rw [List.getD_eq_getElem?_getD, List.getElem?_eq_getElem hj]
  simp [hb j hj])
 unfold qA
 rw [if_neg h, e]
def Rel (w : World) (l : List InsT) (cs : List Cst) (locals : Int) (i : Value) (wr : World) : Prop :=
 ∃ k : Nat, k ≤ l.length ∧ i = .int .i64 k ∧ (∀ j (hj : j < l.length), j < k → qM l[j] cs (l.length : Int) locals = true) ∧ Below w.heap.size w wr
set_option maxRecDepth 100000 in
set_option maxHeartbeats 1000000 in
theorem zl7 (A : Option Addr) (m c : Nat) (l : List InsT) (B : Option Addr) (mb cb : Nat) (cs : List Cst) (locals : Int) (w : World) (hl : Laid w) (h : JR w A m c l) (hcs : Zq w B mb cb cs) :
 Calls Tryz.prog 175 #[.slice A m c, .slice B mb cb, .int .i64 locals] w (Ql w (zn2 (qA l cs locals))) := by
 obtain ⟨hm, hle, hmx, hr, _⟩ := h
 have hml : l.length ≤ m := Nat.le_of_eq hm.symm
 have hml2 : m ≤ l.length := Nat.le_of_eq hm
 unfold maxLen at hmx
 have Hl := zH hl
 have Hcs : Hid (Zq w B mb cb cs) := hcs
 have Hr := zH hr
 have Hm := zH hm
 clear hm hr hcs hl
 by_cases hs : l.length < 1 ∨ 512 < l.length
 · have H := zH (Ui (cs := cs) (locals := locals) hs)
   rcases hs with hs | hs
   all_goals
    go_enter Tryz.func175, Tryz.ntmps175
    go_wp2
    go_ret2
    exact ⟨jR H.out, Below.refl _ _⟩
 · have h1 : ¬ m < 1 := by omega
   have h2 : ¬ 512 < m := by omega
   go_enter Tryz.func175, Tryz.ntmps175
   go_wp2
   go_loopw [8, 9, 20] (fun _ _ i wr => Rel w l cs locals i wr) (fun _ _ i _ => m - (intOf i).toNat)
   case atStart => exact ⟨0, Nat.zero_le _, rfl, fun j _ hj => absurd hj (by omega), Below.refl _ _⟩
   case round =>
    obtain ⟨k, hk, rfl, hb, hbel⟩ := hrel
    have Hb := zH hb
    have Hbel := zH hbel
    have hsz := hbel.size
    clear hb hbel
    by_cases hlt : k < l.length
    · obtain ⟨b, o, rfl, hbk, hc0, hc1⟩ := XJ (Hr.out.below Hbel.out) hlt
      cases hcan : qM l[k] cs (l.length : Int) locals
      · have H := zH (gy hs hlt Hb.out hcan)
        have Hcan := zH (show qM l[k] cs (m : Int) locals = false by rw [Hm.out]; exact hcan)
        clear hcan hs
        generalize hx : l[k] = x at *
        obtain ⟨op, a⟩ := x
        have Hx := zH hx
        clear hx
        go_wp2_with fail
        refine (zg0 op a B mb cb cs _ _ _ (Hl.out.below (Hbel.out.alloc hsz _) Hl.out.1) (Hcs.out.below (Hbel.out.alloc hsz _))).mono ?_
        rw [Hcan.out]
        rintro e w1 ⟨rfl, hb1⟩
        have Hb1 := zH ((Hbel.out.alloc hsz _).trans (hb1.mono (by simp; omega)))
        clear hb1
        go_wp2_with fail
        go_ret2
        exact ⟨jR H.out, Hb1.out⟩
      · have Hcan := zH (show qM l[k] cs (m : Int) locals = true by rw [Hm.out]; exact hcan)
        have Hb2 : Hid (∀ j (hj : j < l.length), j < k + 1 → qM l[j] cs (l.length : Int) locals = true) := zH (fun j hj hjk => by
         rcases Nat.lt_succ_iff_lt_or_eq.1 hjk with h | h
         · exact Hb.out j hj h
         · subst h; exact hcan)
        clear hcan
        generalize hx : l[k] = x at *
        obtain ⟨op, a⟩ := x
        have Hx := zH hx
        clear hx
        go_wp2_with fail
        refine (zg0 op a B mb cb cs _ _ _ (Hl.out.below (Hbel.out.alloc hsz _) Hl.out.1) (Hcs.out.below (Hbel.out.alloc hsz _))).mono ?_
        rw [Hcan.out]
        rintro e w1 ⟨rfl, hb1⟩
        have Hb1 := zH ((Hbel.out.alloc hsz _).trans (hb1.mono (by simp; omega)))
        clear hb1
        go_wp2_with fail
        go_roundw
        case rel => exact ⟨k + 1, by omega, by go_num, Hb2.out, Hb1.out⟩
        case measure => simp [intOf]; omega
    · have H := zH (gu hs (fun j hj => Hb.out j hj (by omega)))
      go_wp2
      go_ret2
      exact ⟨jR H.out, Hbel.out⟩
end InsD
namespace InsE
open Go.RowKit InsM Base InsA InsB Stru InsC InsD
theorem zm0 {op a : Int} {cs : List Cst} {many locals : Int} :
 (Zv op = -1 ∧ qM (op, a) cs many locals = false) ∨
 (Zv op = 0 ∧ qM (op, a) cs many locals = (a == 0)) ∨
 ((Zv op = 1 ∨ Zv op = 2 ∨ Zv op = 3 ∨ Zv op = 4 ∨ Zv op = 5) ∧ ((¬ (0 ≤ a ∧ a < (cs.length : Int)) ∧ qM (op, a) cs many locals = false) ∨ ∃ (k : Nat) (h : k < cs.length), a = (k : Int) ∧ qM (op, a) cs many locals = (cs[k].kind == Zv op))) ∨
 (Zv op = 6 ∧ qM (op, a) cs many locals = inB a locals) ∨
 (Zv op = 7 ∧ qM (op, a) cs many locals = inB a many) := by
 have hr := uX op
 obtain ⟨K, hK⟩ : ∃ K, K = Zv op := ⟨_, rfl⟩
 unfold qM
 rw [← hK] at hr ⊢
 clear hK
 by_cases h1 : K = -1
 · exact .inl ⟨h1, by rw [if_pos h1]⟩
 · by_cases h2 : K = 0
   · exact .inr (.inl ⟨h2, by rw [if_neg h1, if_pos h2]⟩)
   · by_cases h3 : K = 6
     · exact .inr (.inr (.inr (.inl ⟨h3, by rw [if_neg h1, if_neg h2, if_pos h3]⟩)))
     · by_cases h4 : K = 7
       · exact .inr (.inr (.inr (.inr ⟨h4, by rw [if_neg h1, if_neg h2, if_neg h3, if_pos h4]⟩)))
       · refine .inr (.inr (.inl ⟨by omega, ?_⟩))
         rw [if_neg h1, if_neg h2, if_neg h3, if_neg h4]
         by_cases hin : 0 ≤ a ∧ a < (cs.length : Int)
         · refine .inr ⟨a.toNat, by omega, by omega, ?_⟩
           have : a.toNat < cs.length := by omega
           simp [this, hin.1]
         · refine .inl ⟨hin, ?_⟩
           by_cases h0 : 0 ≤ a
           · have : cs.length ≤ a.toNat := by omega
             rw [List.getElem?_eq_none this]
           · cases cs[a.toNat]? <;> simp [h0]
theorem eqf {a b : Int} (h : a ≠ b) : (a == b) = false := by simpa using h
set_option maxRecDepth 100000 in
set_option maxHeartbeats 4000000 in
theorem Vi (A : Option Addr) (m c : Nat) (l : List InsT) (B : Option Addr) (mb cb : Nat) (cs : List Cst) (locals : Int) (w : World) (h : JR w A m c l) (hcs : Zq w B mb cb cs) :
 Calls Tryz.prog 122 #[.slice A m c, .slice B mb cb, .int .i64 locals] w (Ql w (zn2 (qA l cs locals))) := by
 obtain ⟨hm, hle, hmx, hr, _⟩ := h
 have hml : l.length ≤ m := Nat.le_of_eq hm.symm
 have hml2 : m ≤ l.length := Nat.le_of_eq hm
 unfold maxLen at hmx
 have hmb : mb ≤ cs.length := Nat.le_of_eq hcs.len
 have hmb2 : cs.length ≤ mb := Nat.le_of_eq hcs.len.symm
 have Hcs : Hid (Zq w B mb cb cs) := hcs
 have Hr := zH hr
 have Hm := zH hm
 clear hm hr hcs
 by_cases hs : l.length < 1 ∨ 512 < l.length
 · have H := zH (Ui (cs := cs) (locals := locals) hs)
   rcases hs with hs | hs
   all_goals
    go_enter Tryz.func122, Tryz.ntmps122
    go_wp2
    go_ret2
    exact ⟨jR H.out, Below.refl _ _⟩
 · have h1 : ¬ m < 1 := by omega
   have h2 : ¬ 512 < m := by omega
   go_enter Tryz.func122, Tryz.ntmps122
   go_wp2
   go_loopw [8, 9, 10, 11] (fun i _ _ _ wr => Rel w l cs locals i wr) (fun i _ _ _ _ => m - (intOf i).toNat)
   case atStart => exact ⟨0, Nat.zero_le _, rfl, fun j _ hj => absurd hj (by omega), Below.refl _ _⟩
   case round =>
    obtain ⟨k, hk, rfl, hb, hbel⟩ := hrel
    have Hb := zH hb
    have Hbel := zH hbel
    have hsz := hbel.size
    clear hb hbel
    by_cases hlt : k < l.length
    · obtain ⟨b, o, rfl, hbk, hc0', hc1'⟩ := XJ (Hr.out.below Hbel.out) hlt
      have hfin : qM l[k] cs (l.length : Int) locals = false → Hid (qA l cs locals = ((k : Int), 12)) := fun hcan => zH (gy hs hlt Hb.out hcan)
      have hgo : qM l[k] cs (l.length : Int) locals = true → Hid (∀ j (hj : j < l.length), j < k + 1 → qM l[j] cs (l.length : Int) locals = true) := fun hcan => zH (fun j hj hjk => by
       rcases Nat.lt_succ_iff_lt_or_eq.1 hjk with h | h
       · exact Hb.out j hj h
       · subst h; exact hcan)
      clear hs
      generalize hx : l[k] = x at *
      obtain ⟨op, a⟩ := x
      clear hx
      have hcases := zm0 (op := op) (a := a) (cs := cs) (many := (l.length : Int)) (locals := locals)
      obtain ⟨C, hC⟩ : ∃ C, C = qM (op, a) cs (l.length : Int) locals := ⟨_, rfl⟩
      rw [← hC] at hfin hgo hcases
      have Hfin := zH hfin
      have Hgo := zH hgo
      have Hcases := zH hcases
      clear hC hfin hgo hcases
      go_wp2_with fail
      refine (qR _ _).mono ?_
      rintro e w1 ⟨rfl, hb1⟩
      have hc0 : w1.cell? ⟨b, o + k * 2, none⟩ = some (.int .i64 op) := (hb1.cell (p := ⟨b, o + k * 2, none⟩) hbk).trans hc0'
      have hc1 : w1.cell? ⟨b, o + k * 2 + 1, none⟩ = some (.int .i64 a) := (hb1.cell (p := ⟨b, o + k * 2 + 1, none⟩) hbk).trans hc1'
      have Hb1 := zH (Hbel.out.trans (hb1.mono hsz))
      clear hb1 hc0' hc1'
      have hcases := Hcases.out
      generalize Zv op = K at *
      clear Hcases
      rcases hcases with ⟨rfl, rfl⟩ | ⟨rfl, rfl⟩ | ⟨hKs, hcc⟩ | ⟨rfl, rfl⟩ | ⟨rfl, rfl⟩
      · have H := Hfin.out rfl
        clear Hfin Hgo
        go_wp2_with fail
        go_ret2
        exact ⟨jR H.out, Hb1.out⟩
      · by_cases ha : a = 0
        · subst ha
          have H := Hgo.out rfl
          clear Hfin Hgo
          go_wp2_with fail
          go_roundw
          case rel => exact ⟨k + 1, by omega, by go_num, H.out, Hb1.out⟩
          case measure => simp [intOf]; omega
        · have ha' := eqf ha
          have H := Hfin.out ha'
          clear Hfin Hgo ha
          go_wp2_with fail
          go_ret2
          exact ⟨jR H.out, Hb1.out⟩
      · rcases hcc with ⟨hout, rfl⟩ | ⟨q, hq, rfl, rfl⟩
        · have H := Hfin.out rfl
          clear Hfin Hgo
          by_cases h0 : 0 ≤ a
          · have h3 : ¬ a < (mb : Int) := by omega
            clear hout
            rcases hKs with rfl | rfl | rfl | rfl | rfl
            all_goals
             go_wp2_with fail
             go_ret2
             exact ⟨jR H.out, Hb1.out⟩
          · clear hout
            rcases hKs with rfl | rfl | rfl | rfl | rfl
            all_goals
             go_wp2_with fail
             go_ret2
             exact ⟨jR H.out, Hb1.out⟩
        · obtain ⟨b2, o2, rfl, hbk2, hd, _, _, _, _⟩ := Qy (Hcs.out.rds.below Hb1.out) hq
          have hqm : q < mb := by omega
          generalize hkd : cs[q].kind = kd at *
          have Hkd := zH hkd
          clear hkd
          cases hkk : (kd == K)
          · have H := Hfin.out hkk
            clear Hfin Hgo
            rcases hKs with rfl | rfl | rfl | rfl | rfl
            all_goals
             go_wp2_with fail
             go_ret2
             exact ⟨jR H.out, Hb1.out⟩
          · have H := Hgo.out hkk
            clear Hfin Hgo
            rcases hKs with rfl | rfl | rfl | rfl | rfl
            all_goals
             go_wp2_with fail
             go_roundw
             case rel => exact ⟨k + 1, by omega, by go_num, H.out, Hb1.out⟩
             case measure => simp [intOf]; omega
      · by_cases ha : 0 ≤ a
        · by_cases ha2 : a < locals
          · have H := Hgo.out (Zd2 ⟨ha, ha2⟩)
            clear Hfin Hgo
            go_wp2_with fail
            go_roundw
            case rel => exact ⟨k + 1, by omega, by go_num, H.out, Hb1.out⟩
            case measure => simp [intOf]; omega
          · have H := Hfin.out (zj8 (by omega))
            have g5 : decide (a < locals) = false := decide_eq_false ha2
            clear Hfin Hgo
            go_wp2_with fail
            go_ret2
            exact ⟨jR H.out, Hb1.out⟩
        · have H := Hfin.out (zj8 (by omega))
          clear Hfin Hgo
          go_wp2_with fail
          go_ret2
          exact ⟨jR H.out, Hb1.out⟩
      · by_cases ha : 0 ≤ a
        · by_cases ha2 : a < (l.length : Int)
          · have H := Hgo.out (Zd2 ⟨ha, ha2⟩)
            have ha3 : a < (m : Int) := by omega
            clear Hfin Hgo ha2
            go_wp2_with fail
            go_roundw
            case rel => exact ⟨k + 1, by omega, by go_num, H.out, Hb1.out⟩
            case measure => simp [intOf]; omega
          · have H := Hfin.out (zj8 (by omega))
            have ha3 : ¬ a < (m : Int) := by omega
            have g5 : decide (a < (m : Int)) = false := decide_eq_false ha3
            clear Hfin Hgo ha2
            go_wp2_with fail
            go_ret2
            exact ⟨jR H.out, Hb1.out⟩
        · have H := Hfin.out (zj8 (by omega))
          clear Hfin Hgo
          go_wp2_with fail
          go_ret2
          exact ⟨jR H.out, Hb1.out⟩
    · have H := zH (gu hs (fun j hj => Hb.out j hj (by omega)))
      go_wp2
      go_ret2
      exact ⟨jR H.out, Hbel.out⟩
end InsE
namespace InsJ
open Go.RowKit Base Stru InsA
end InsJ
end Go.Proofs.YtehainbhoflpnaaGreatDoor
