/-
  The document's own Check: what it returns, for all code, constants and locals.
-/
import Derived.Test.YtaekdgbbopcpbaaDoorInsD
namespace Go.Proofs.YtaekdgbbopcpbaaDoor
namespace InsE
open Go.RowKit InsM Base InsA InsB Stru InsC InsD

/-- the walk of one instruction: its kind, and what it then comes to -/
theorem can_cases {op a : Int} {cs : List Cst} {many locals : Int} : 
    (kindI op = -1 ∧ canB (op, a) cs many locals = false) ∨
    (kindI op = 0 ∧ canB (op, a) cs many locals = (a == 0)) ∨
    ((kindI op = 1 ∨ kindI op = 2 ∨ kindI op = 3 ∨ kindI op = 4 ∨ kindI op = 5) ∧ ((¬ (0 ≤ a ∧ a < (cs.length : Int)) ∧ canB (op, a) cs many locals = false) ∨ ∃ (k : Nat) (h : k < cs.length), a = (k : Int) ∧ canB (op, a) cs many locals = (cs[k].kind == kindI op))) ∨
    (kindI op = 6 ∧ canB (op, a) cs many locals = inB a locals) ∨
    (kindI op = 7 ∧ canB (op, a) cs many locals = inB a many) := by
  have hr := kind_range op
  obtain ⟨K, hK⟩ : ∃ K, K = kindI op := ⟨_, rfl⟩
  unfold canB
  rw [← hK] at hr ⊢
  clear hK
  by_cases h1 : K = -1
  · exact .inl ⟨h1, by rw [if_pos h1]⟩
  · by_cases h2 : K = 0
    · exact .inr (.inl ⟨h2, by rw [if_neg h1, if_pos h2]⟩)
    · by_cases h3 : K = 6
      · exact .inr (.inr (.inr (.inl ⟨h3, by rw [if_neg h1, if_neg h2, if_pos h3]⟩)))
      · by_cases h4 : K = 7
        · exact .inr (.inr (.inr (.inr ⟨h4, by rw [if_neg h1, if_neg h2, if_neg h3, if_pos h4]⟩)))
        · refine .inr (.inr (.inl ⟨by omega, ?_⟩))
          rw [if_neg h1, if_neg h2, if_neg h3, if_neg h4]
          by_cases hin : 0 ≤ a ∧ a < (cs.length : Int)
          · refine .inr ⟨a.toNat, by omega, by omega, ?_⟩
            have : a.toNat < cs.length := by omega
            simp [this, hin.1]
          · refine .inl ⟨hin, ?_⟩
            by_cases h0 : 0 ≤ a
            · have : cs.length ≤ a.toNat := by omega
              rw [List.getElem?_eq_none this]
            · cases cs[a.toNat]? <;> simp [h0]

/-- a test that is false, and its fact -/
theorem eqf {a b : Int} (h : a ≠ b) : (a == b) = false := by simpa using h

set_option maxRecDepth 100000 in
set_option maxHeartbeats 4000000 in
theorem refCheck_any (A : Option Addr) (m c : Nat) (l : List InsT) (B : Option Addr) (mb cb : Nat) (cs : List Cst) (locals : Int) (w : World) (h : IsCode w A m c l) (hcs : IsCsts w B mb cb cs) :
    Calls Tryd.prog 40 #[.slice A m c, .slice B mb cb, .int .i64 locals] w (GivesB w (twoN (checkI l cs locals))) := by
  obtain ⟨hm, hle, hmx, hr, _⟩ := h
  have hml : l.length ≤ m := Nat.le_of_eq hm.symm
  have hml2 : m ≤ l.length := Nat.le_of_eq hm
  unfold maxLen at hmx
  have hmb : mb ≤ cs.length := Nat.le_of_eq hcs.len
  have hmb2 : cs.length ≤ mb := Nat.le_of_eq hcs.len.symm
  have Hcs : Hid (IsCsts w B mb cb cs) := hcs
  have Hr := Lib.hid hr
  have Hm := Lib.hid hm
  clear hm hr hcs
  by_cases hs : l.length < 1 ∨ 512 < l.length
  · have H := Lib.hid (check_size (cs := cs) (locals := locals) hs)
    rcases hs with hs | hs
    all_goals
      go_enter Tryd.func40, Tryd.ntmps40
      go_wp2
      go_ret2
      exact ⟨ret2N H.out, Below.refl _ _⟩
  · have h1 : ¬ m < 1 := by omega
    have h2 : ¬ 512 < m := by omega
    go_enter Tryd.func40, Tryd.ntmps40
    go_wp2
    go_loopw [8, 9, 10, 11] (fun i _ _ _ wr => Rel w l cs locals i wr) (fun i _ _ _ _ => m - (intOf i).toNat)
    case atStart => exact ⟨0, Nat.zero_le _, rfl, fun j _ hj => absurd hj (by omega), Below.refl _ _⟩
    case round =>
      obtain ⟨k, hk, rfl, hb, hbel⟩ := hrel
      have Hb := Lib.hid hb
      have Hbel := Lib.hid hbel
      have hsz := hbel.size
      clear hb hbel
      by_cases hlt : k < l.length
      · obtain ⟨b, o, rfl, hbk, hc0', hc1'⟩ := code_at (Hr.out.below Hbel.out) hlt
        have hfin : canB l[k] cs (l.length : Int) locals = false → Hid (checkI l cs locals = ((k : Int), 12)) := fun hcan => Lib.hid (check_at hs hlt Hb.out hcan)
        have hgo : canB l[k] cs (l.length : Int) locals = true → Hid (∀ j (hj : j < l.length), j < k + 1 → canB l[j] cs (l.length : Int) locals = true) := fun hcan => Lib.hid (fun j hj hjk => by
            rcases Nat.lt_succ_iff_lt_or_eq.1 hjk with h | h
            · exact Hb.out j hj h
            · subst h; exact hcan)
        clear hs
        generalize hx : l[k] = x at *
        obtain ⟨op, a⟩ := x
        clear hx
        have hcases := can_cases (op := op) (a := a) (cs := cs) (many := (l.length : Int)) (locals := locals)
        obtain ⟨C, hC⟩ : ∃ C, C = canB (op, a) cs (l.length : Int) locals := ⟨_, rfl⟩
        rw [← hC] at hfin hgo hcases
        have Hfin := Lib.hid hfin
        have Hgo := Lib.hid hgo
        have Hcases := Lib.hid hcases
        clear hC hfin hgo hcases
        go_wp2_with fail
        refine (refKind_any _ _).mono ?_
        rintro e w1 ⟨rfl, hb1⟩
        have hc0 : w1.cell? ⟨b, o + k * 2, none⟩ = some (.int .i64 op) := (hb1.cell (p := ⟨b, o + k * 2, none⟩) hbk).trans hc0'
        have hc1 : w1.cell? ⟨b, o + k * 2 + 1, none⟩ = some (.int .i64 a) := (hb1.cell (p := ⟨b, o + k * 2 + 1, none⟩) hbk).trans hc1'
        have Hb1 := Lib.hid (Hbel.out.trans (hb1.mono hsz))
        clear hb1 hc0' hc1'
        have hcases := Hcases.out
        generalize kindI op = K at *
        clear Hcases
        rcases hcases with ⟨rfl, rfl⟩ | ⟨rfl, rfl⟩ | ⟨hKs, hcc⟩ | ⟨rfl, rfl⟩ | ⟨rfl, rfl⟩
        · have H := Hfin.out rfl
          clear Hfin Hgo
          go_wp2_with fail
          go_ret2
          exact ⟨ret2N H.out, Hb1.out⟩
        · by_cases ha : a = 0
          · subst ha
            have H := Hgo.out rfl
            clear Hfin Hgo
            go_wp2_with fail
            go_roundw
            case rel => exact ⟨k + 1, by omega, by go_num, H.out, Hb1.out⟩
            case measure => simp [intOf]; omega
          · have ha' := eqf ha
            have H := Hfin.out ha'
            clear Hfin Hgo ha
            go_wp2_with fail
            go_ret2
            exact ⟨ret2N H.out, Hb1.out⟩
        · rcases hcc with ⟨hout, rfl⟩ | ⟨q, hq, rfl, rfl⟩
          · have H := Hfin.out rfl
            clear Hfin Hgo
            by_cases h0 : 0 ≤ a
            · have h3 : ¬ a < (mb : Int) := by omega
              clear hout
              rcases hKs with rfl | rfl | rfl | rfl | rfl
              all_goals
                go_wp2_with fail
                go_ret2
                exact ⟨ret2N H.out, Hb1.out⟩
            · clear hout
              rcases hKs with rfl | rfl | rfl | rfl | rfl
              all_goals
                go_wp2_with fail
                go_ret2
                exact ⟨ret2N H.out, Hb1.out⟩
          · obtain ⟨b2, o2, rfl, hbk2, hd, _, _, _, _⟩ := csts_at (Hcs.out.rds.below Hb1.out) hq
            have hqm : q < mb := by omega
            generalize hkd : cs[q].kind = kd at *
            have Hkd := Lib.hid hkd
            clear hkd
            cases hkk : (kd == K)
            · have H := Hfin.out hkk
              clear Hfin Hgo
              rcases hKs with rfl | rfl | rfl | rfl | rfl
              all_goals
                go_wp2_with fail
                go_ret2
                exact ⟨ret2N H.out, Hb1.out⟩
            · have H := Hgo.out hkk
              clear Hfin Hgo
              rcases hKs with rfl | rfl | rfl | rfl | rfl
              all_goals
                go_wp2_with fail
                go_roundw
                case rel => exact ⟨k + 1, by omega, by go_num, H.out, Hb1.out⟩
                case measure => simp [intOf]; omega
        · by_cases ha : 0 ≤ a
          · by_cases ha2 : a < locals
            · have H := Hgo.out (in_t ⟨ha, ha2⟩)
              clear Hfin Hgo
              go_wp2_with fail
              go_roundw
              case rel => exact ⟨k + 1, by omega, by go_num, H.out, Hb1.out⟩
              case measure => simp [intOf]; omega
            · have H := Hfin.out (in_f (by omega))
              have g5 : decide (a < locals) = false := decide_eq_false ha2
              clear Hfin Hgo
              go_wp2_with fail
              go_ret2
              exact ⟨ret2N H.out, Hb1.out⟩
          · have H := Hfin.out (in_f (by omega))
            clear Hfin Hgo
            go_wp2_with fail
            go_ret2
            exact ⟨ret2N H.out, Hb1.out⟩
        · by_cases ha : 0 ≤ a
          · by_cases ha2 : a < (l.length : Int)
            · have H := Hgo.out (in_t ⟨ha, ha2⟩)
              have ha3 : a < (m : Int) := by omega
              clear Hfin Hgo ha2
              go_wp2_with fail
              go_roundw
              case rel => exact ⟨k + 1, by omega, by go_num, H.out, Hb1.out⟩
              case measure => simp [intOf]; omega
            · have H := Hfin.out (in_f (by omega))
              have ha3 : ¬ a < (m : Int) := by omega
              have g5 : decide (a < (m : Int)) = false := decide_eq_false ha3
              clear Hfin Hgo ha2
              go_wp2_with fail
              go_ret2
              exact ⟨ret2N H.out, Hb1.out⟩
          · have H := Hfin.out (in_f (by omega))
            clear Hfin Hgo
            go_wp2_with fail
            go_ret2
            exact ⟨ret2N H.out, Hb1.out⟩
      · have H := Lib.hid (check_ok hs (fun j hj => Hb.out j hj (by omega)))
        go_wp2
        go_ret2
        exact ⟨ret2N H.out, Hbel.out⟩

end InsE
end Go.Proofs.YtaekdgbbopcpbaaDoor
