/-
  Whether code can be: ins.Check and the document's own answer: what each call returns.
-/
import Derived.Test.YtaekdgbbopcpbaaDoorInsB
import Derived.Test.YtaekdgbbopcpbaaDoorStru
namespace Go.Proofs.YtaekdgbbopcpbaaDoor
namespace InsC
open Go.RowKit InsM Base InsA InsB Stru

/-- whether an instruction can be -/
def canB (x : InsT) (cs : List Cst) (many locals : Int) : Bool :=
  if kindI x.1 = -1 then false
  else if kindI x.1 = 0 then x.2 == 0
  else if kindI x.1 = 6 then inB x.2 locals
  else if kindI x.1 = 7 then inB x.2 many
  else match cs[x.2.toNat]? with
    | some c => decide (0 ≤ x.2) && (c.kind == kindI x.1)
    | none => false

theorem Laid.alloc {w : World} (h : Laid w) (o : Obj) : Laid (w.alloc o) := h.below ((Below.refl w.heap.size w).alloc (Nat.le_refl _) o) h.1

theorem can_any (op a : Int) (A : Option Addr) (m c : Nat) (cs : List Cst) (many locals : Int) (w : World) (hl : Laid w) (hcs : IsCsts w A m c cs) :
    Calls Tryd.prog 78 #[.agg #[.int .i64 op, .int .i64 a], .slice A m c, .int .i64 many, .int .i64 locals] w (GivesB w (.bool (canB (op, a) cs many locals))) := by
  have Hl := Lib.hid (Laid.alloc hl (.cells #[.int .i64 op, .int .i64 a] 90))
  have hr := kind_range op
  have Hcan := Lib.hid (show canB (op, a) cs many locals = canB (op, a) cs many locals from rfl)
  obtain ⟨K, hK⟩ : ∃ K, K = kindI op := ⟨_, rfl⟩
  rw [← hK] at hr
  have HK := Lib.hid hK
  have Hm := Lib.hid hcs.len
  have Hr := Lib.hid hcs.rds
  clear hK hl
  have hB := (Below.refl w.heap.size w).alloc (Nat.le_refl _) (.cells #[.int .i64 op, .int .i64 a] 90)
  have HB := Lib.hid hB
  clear hB hcs
  by_cases h1 : K = -1
  · subst h1
    have H : canB (op, a) cs many locals = false := by unfold canB; rw [← HK.out]; rfl
    have H := Lib.hid H
    go_enter Tryd.func78, Tryd.ntmps78
    go_wp2_with (go_at_call 32; refine (kind_any _ _ Hl.out).mono ?_; rw [← HK.out]; rintro e w' ⟨rfl, rfl⟩)
    go_ret
    exact ⟨ret_bool H.out.symm, HB.out⟩
  · by_cases h2 : K = 0
    · subst h2
      have H : canB (op, a) cs many locals = (a == 0) := by unfold canB; rw [← HK.out]; rfl
      have H := Lib.hid H
      go_enter Tryd.func78, Tryd.ntmps78
      go_wp2_with (go_at_call 32; refine (kind_any _ _ Hl.out).mono ?_; rw [← HK.out]; rintro e w' ⟨rfl, rfl⟩)
      go_ret
      exact ⟨ret_bool H.out.symm, HB.out⟩
    · by_cases h3 : K = 6
      · subst h3
        have H : canB (op, a) cs many locals = inB a locals := by unfold canB; rw [← HK.out]; rfl
        have H := Lib.hid H
        go_enter Tryd.func78, Tryd.ntmps78
        go_wp2_with (first
          | (go_at_call 32; refine (kind_any _ _ Hl.out).mono ?_; rw [← HK.out]; rintro e w' ⟨rfl, rfl⟩)
          | (go_at_call 76; refine (within_any _ _ _).mono ?_; rintro e w' ⟨rfl, rfl⟩))
        go_ret
        exact ⟨ret_bool H.out.symm, HB.out⟩
      · by_cases h4 : K = 7
        · subst h4
          have H : canB (op, a) cs many locals = inB a many := by unfold canB; rw [← HK.out]; rfl
          have H := Lib.hid H
          go_enter Tryd.func78, Tryd.ntmps78
          go_wp2_with (first
            | (go_at_call 32; refine (kind_any _ _ Hl.out).mono ?_; rw [← HK.out]; rintro e w' ⟨rfl, rfl⟩)
            | (go_at_call 76; refine (within_any _ _ _).mono ?_; rintro e w' ⟨rfl, rfl⟩))
          go_ret
          exact ⟨ret_bool H.out.symm, HB.out⟩
        · have g1 : (K == -1) = false := by simpa using h1
          have g2 : (K == 0) = false := by simpa using h2
          have g3 : (K == 6) = false := by simpa using h3
          have g4 : (K == 7) = false := by simpa using h4
          have H0 : canB (op, a) cs many locals = match cs[a.toNat]? with
            | some c => decide (0 ≤ a) && (c.kind == K)
            | none => false := by
            unfold canB
            rw [← HK.out, if_neg h1, if_neg h2, if_neg h3, if_neg h4]
          clear h1 h2 h3 h4
          by_cases hin : 0 ≤ a ∧ a < (m : Int)
          · obtain ⟨k, rfl⟩ : ∃ k : Nat, a = (k : Int) := ⟨a.toNat, by omega⟩
            have hk : k < cs.length := by have := Hm.out; omega
            have hkm : k < m := by omega
            obtain ⟨b, o, rfl, hb, hc, _, _, _, _⟩ := csts_at (Hr.out.below HB.out) hk
            have hi := in_t hin
            have H : canB (op, (k : Int)) cs many locals = (cs[k].kind == K) := by
              rw [H0]
              simp [hk]
            have H := Lib.hid H
            clear H0 hin
            generalize hq : cs[k].kind = q at *
            clear hq
            go_enter Tryd.func78, Tryd.ntmps78
            go_wp2_with (first
              | (go_at_call 32; refine (kind_any _ _ Hl.out).mono ?_; rw [← HK.out]; rintro e w' ⟨rfl, rfl⟩)
              | (go_at_call 76; refine (within_any _ _ _).mono ?_; rw [hi]; rintro e w' ⟨rfl, rfl⟩))
            go_ret
            exact ⟨ret_bool H.out.symm, HB.out⟩
          · have hi := in_f hin
            have H : canB (op, a) cs many locals = false := by
              rw [H0]
              by_cases h0 : 0 ≤ a
              · have : cs.length ≤ a.toNat := by have := Hm.out; omega
                rw [List.getElem?_eq_none this]
              · cases cs[a.toNat]? <;> simp [h0]
            have H := Lib.hid H
            clear H0 hin
            go_enter Tryd.func78, Tryd.ntmps78
            go_wp2_with (first
              | (go_at_call 32; refine (kind_any _ _ Hl.out).mono ?_; rw [← HK.out]; rintro e w' ⟨rfl, rfl⟩)
              | (go_at_call 76; refine (within_any _ _ _).mono ?_; rw [hi]; rintro e w' ⟨rfl, rfl⟩))
            go_ret
            exact ⟨ret_bool H.out.symm, HB.out⟩

end InsC
end Go.Proofs.YtaekdgbbopcpbaaDoor
