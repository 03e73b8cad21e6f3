/-
  Classes above each other, and which types stand for which: plain facts, no walk.
-/
import Derived.Test.YtilakpbgpdbchaaDoorHierS
import Derived.Test.YtilakpbgpdbchaaDoorDescR
namespace Go.Proofs.YtilakpbgpdbchaaDoor
namespace HierT
open BinM DescM DescX HierS

/-- "Object" -/
def objN : T := [79, 98, 106, 101, 99, 116]
def excN : T := [69, 120, 99]
def nilN : T := [78, 117, 108, 108, 69, 120, 99]
def castN : T := [67, 97, 115, 116, 69, 120, 99]
def indexN : T := [73, 110, 100, 101, 120, 69, 120, 99]
def divN : T := [68, 105, 118, 69, 120, 99]
def deepN : T := [83, 116, 97, 99, 107, 69, 120, 99]
def memN : T := [77, 101, 109, 69, 120, 99]
def lockN : T := [76, 111, 99, 107, 69, 120, 99]
abbrev P2 := T × T
def alw : List P2 := [(excN, objN), (nilN, excN), (castN, excN), (indexN, excN), (divN, excN), (deepN, excN), (memN, excN), (lockN, excN)]

structure Hr where
  names : List T
  above : T → Option Nat
def Hr.has (h : Hr) (c : T) : Bool := h.names.contains c
def Hr.up (h : Hr) (c : T) : Option T := (h.above c).bind fun i => h.names[i]?
def Hr.chain (h : Hr) (c : T) : List T := if h.has c then climb h.up h.names.length (some c) else []
def Hr.under (h : Hr) (low high : T) : Bool := (h.chain low).contains high
def Hr.below (h : Hr) (c : T) : List T := h.names.filter fun n => h.under n c
def Hr.known (h : Hr) (d : T) : Bool := rightB d && (!(classT (d.drop (brk d))).2 || h.has (classT (d.drop (brk d))).1)
def Hr.kon (h : Hr) (d : T) : Bool := h.known d || d == [78]
def Hr.cls (h : Hr) (a b : T) : Bool := (classT a).2 && (classT b).2 && h.under (classT a).1 (classT b).1
def Hr.step (h : Hr) (a b : T) : Bool := if a == [78] || b == ofT objN then refB a && refB b else h.cls a b
def Hr.sub (h : Hr) (a b : T) : Bool := h.kon a && h.kon b && (a == b || h.step a b)
def Hr.meet (h : Hr) (a b : T) : T := if (classT a).2 && (classT b).2 then ((h.chain (classT a).1).find? fun c => h.under (classT b).1 c).getD [] else objN
def Hr.join (h : Hr) (a b : T) : T × Bool := if h.sub a b then (b, true) else if h.sub b a then (a, true) else if h.sub a (ofT objN) && h.sub b (ofT objN) then (ofT (h.meet a b), true) else ([], false)

structure GoodH (h : Hr) : Prop where
  obj : objN ∈ h.names
  top : ∀ c ∈ h.names, h.up c = none → c = objN
  root : h.up objN = none
  ways : ∀ c ∈ h.names, ∃ l, WayUp h.up c l ∧ l.length ≤ h.names.length

theorem up_in {h : Hr} {c d : T} (hu : h.up c = some d) : d ∈ h.names := by
  unfold Hr.up at hu
  cases ha : h.above c with
  | none => rw [ha] at hu; cases hu
  | some i =>
    rw [ha] at hu
    change h.names[i]? = some d at hu
    obtain ⟨hi, e⟩ := List.getElem?_eq_some_iff.1 hu
    rw [← e]; exact List.getElem_mem hi
theorem has_iff {h : Hr} {c : T} : h.has c = true ↔ c ∈ h.names := by unfold Hr.has; simp
theorem chain_way {h : Hr} (g : GoodH h) {c : T} (hc : c ∈ h.names) : WayUp h.up c (h.chain c) := by
  obtain ⟨l, hw, hl⟩ := g.ways c hc
  unfold Hr.chain
  rw [if_pos (has_iff.2 hc), climb_way hw _ hl]
  exact hw
theorem chain_no {h : Hr} {c : T} (hc : c ∉ h.names) : h.chain c = [] := by
  unfold Hr.chain
  rw [if_neg (fun e => hc (has_iff.1 e))]
theorem chain_len {h : Hr} (g : GoodH h) (c : T) : (h.chain c).length ≤ h.names.length := by
  by_cases hc : c ∈ h.names
  · obtain ⟨l, hw, hl⟩ := g.ways c hc
    rw [(chain_way g hc).det hw]; exact hl
  · rw [chain_no hc]; simp
theorem chain_in {h : Hr} (g : GoodH h) {c d : T} (hd : d ∈ h.chain c) : d ∈ h.names := by
  by_cases hc : c ∈ h.names
  · exact way_in (chain_way g hc) (fun _ _ _ hu => up_in hu) hc d hd
  · rw [chain_no hc] at hd; cases hd
theorem under_iff {h : Hr} {a b : T} : h.under a b = true ↔ b ∈ h.chain a := by unfold Hr.under; simp
theorem under_trans {h : Hr} (g : GoodH h) {a b c : T} (h1 : h.under a b = true) (h2 : h.under b c = true) : h.under a c = true := by
  rw [under_iff] at h1 h2 ⊢
  by_cases ha : a ∈ h.names
  · exact (chain_way g ha).trans h1 (chain_way g (chain_in g h1)) h2
  · rw [chain_no ha] at h1; cases h1
theorem chain_obj {h : Hr} (g : GoodH h) : h.chain objN = [objN] := (chain_way g g.obj).det (.top g.root)

theorem class_right {d : T} (h : (classT d).2 = true) : rightB d = true ∧ d.head? = some 76 := by
  unfold classT at h
  split at h
  · rename_i hc
    unfold classB at hc
    simp only [Bool.and_eq_true, beq_iff_eq] at hc
    exact hc
  · cases h
theorem class_ofT {d : T} (h : (classT d).2 = true) : d = ofT (classT d).1 := by
  obtain ⟨h1, h2⟩ := class_right h
  have hc : classB d = true := by unfold classB; rw [h1, h2]; rfl
  unfold classT
  rw [if_pos hc]
  cases d with
  | nil => cases h2
  | cons x t =>
    simp only [List.head?_cons, Option.some.injEq] at h2
    subst h2
    have hT := eq_of_beq h1
    unfold leadT at hT
    have hb : brk (76 :: t) = 0 := by simp [brk]
    rw [hb] at hT
    simp only [if_false, List.drop_zero, Nat.add_zero, Option.map_id', show ¬ (4 < 0) by omega] at hT
    rw [core_cons] at hT
    rw [if_neg (by decide), if_pos rfl] at hT
    split at hT
    · rename_i hs
      have e : semi t + 2 = t.length + 1 := by simpa using hT
      have h59 := semi_stop t hs.1
      have et : t = t.take (semi t) ++ [59] := by
        have e1 : t = t.take (semi t) ++ t.drop (semi t) := (List.take_append_drop _ _).symm
        have e2 : t.drop (semi t) = [59] := by
          rw [List.drop_eq_getElem_cons hs.1, h59, List.drop_of_length_le (by omega)]
        rw [e2] at e1; exact e1
      unfold ofT
      simp only [List.drop_succ_cons, List.drop_zero, List.length_cons]
      rw [show t.length + 1 - 2 = semi t by omega]
      rw [show (76 : UInt8) :: t.take (semi t) ++ [59] = 76 :: (t.take (semi t) ++ [59]) from rfl, ← et]
    · cases hT
theorem class_ref {d : T} (h : (classT d).2 = true) : refB d = true := by
  obtain ⟨h1, h2⟩ := class_right h
  unfold refB
  rw [h1]
  cases d with
  | nil => cases h2
  | cons x t =>
    simp only [List.head?_cons, Option.some.injEq] at h2
    subst h2
    simp
theorem class_null : (classT [78]).2 = false := by decide
theorem class_obj : classT (ofT objN) = (objN, true) := by decide

theorem sub_self (h : Hr) (a : T) : h.sub a a = (a == [78] || h.known a) := by
  unfold Hr.sub Hr.kon
  simp [Bool.or_comm]
theorem step_trans {h : Hr} (g : GoodH h) {a b c : T} (h1 : h.step a b = true) (h2 : h.step b c = true) : h.step a c = true ∨ a = c ∨ b = c := by
  have rb : ∀ {x y : T}, h.step x y = true → refB x = true ∧ refB y = true := by
    intro x y hs
    unfold Hr.step Hr.cls at hs
    split at hs
    · simpa using hs
    · simp only [Bool.and_eq_true] at hs
      exact ⟨class_ref hs.1.1, class_ref hs.1.2⟩
  obtain ⟨ra, _⟩ := rb h1
  obtain ⟨_, rc⟩ := rb h2
  by_cases hA : (a == [78] || c == ofT objN) = true
  · left; unfold Hr.step; rw [if_pos hA, ra, rc]; rfl
  · have hA' := hA
    simp only [Bool.or_eq_true, not_or, Bool.not_eq_true] at hA'
    unfold Hr.step at h1 h2
    by_cases hB : (b == ofT objN) = true
    · have eb := eq_of_beq hB
      subst eb
      rw [if_neg (by rw [hA'.2]; decide)] at h2
      unfold Hr.cls at h2
      rw [class_obj] at h2
      simp only [Bool.and_eq_true] at h2
      have hu := under_iff.1 h2.2
      rw [chain_obj g] at hu
      simp only [List.mem_singleton] at hu
      right; right
      rw [class_ofT h2.1.2, hu]
    · have hB' : (b == ofT objN) = false := by simpa using hB
      rw [if_neg (by rw [hA'.1, hB']; simp)] at h1
      unfold Hr.cls at h1
      simp only [Bool.and_eq_true] at h1
      by_cases hN : (b == [78]) = true
      · have := eq_of_beq hN
        subst this
        have := h1.1.2
        rw [class_null] at this; cases this
      · rw [if_neg (by rw [hA'.2]; simp at hN ⊢; exact hN)] at h2
        unfold Hr.cls at h2
        simp only [Bool.and_eq_true] at h2
        left
        unfold Hr.step
        rw [if_neg hA]
        unfold Hr.cls
        rw [h1.1.1, h2.1.2, under_trans g h1.2 h2.2]
        rfl
theorem sub_trans {h : Hr} (g : GoodH h) {a b c : T} (h1 : h.sub a b = true) (h2 : h.sub b c = true) : h.sub a c = true := by
  unfold Hr.sub at h1 h2 ⊢
  simp only [Bool.and_eq_true, Bool.or_eq_true] at h1 h2 ⊢
  refine ⟨⟨h1.1.1, h2.1.2⟩, ?_⟩
  rcases h1.2 with e | s
  · rw [eq_of_beq e]; exact h2.2
  · rcases h2.2 with e | s2
    · rw [← eq_of_beq e]; exact .inr s
    · rcases step_trans g s s2 with h3 | h3 | h3
      · exact .inr h3
      · exact .inl (by rw [h3]; exact beq_self_eq_true _)
      · rw [← h3]; exact .inr s

/-! what New makes of classes -/
def nms (l : List P2) : List T := objN :: l.map (·.1)
def abv (l : List P2) (c : T) : Option Nat := (l.find? fun p => p.1 == c).map fun p => (nms l).idxOf p.2
/-- the classes handed in, with those that are there always ahead -/
def full (l : List P2) : List P2 := alw ++ l
def mk (l : List P2) : Hr := ⟨nms (full l), abv (full l)⟩
/-- the first one whose name is there already -/
def twice : List T → List P2 → Option T
  | _, [] => none
  | ns, p :: t => if ns.contains p.1 then some p.1 else twice (ns ++ [p.1]) t
def noSup (ns : List T) : List P2 → Option T
  | [] => none
  | p :: t => if ns.contains p.2 then noSup ns t else some p.1
def inLoop (h : Hr) : List P2 → Option T
  | [] => none
  | p :: t => if loopF h.up h.names.length (h.up p.1) p.1 then some p.1 else inLoop h t
/-- why classes can not be: the one that can not, and the error's number; none, 0 if they can -/
def whyT (l : List P2) : T × Int :=
  if 32 < l.length then ([], 6)
  else match twice [objN] (full l) with
    | some c => (c, 8)
    | none => match noSup (nms (full l)) (full l) with
      | some c => (c, 9)
      | none => match inLoop (mk l) (full l) with
        | some c => (c, 14)
        | none => ([], 0)

theorem twice_in : ∀ (ns : List T) (l : List P2), twice ns l = none → (∀ p ∈ l, p.1 ∉ ns) ∧ (l.map (·.1)).Nodup
  | _, [], _ => ⟨by simp, by simp⟩
  | ns, p :: t, h => by
    unfold twice at h
    split at h
    · cases h
    · rename_i hp
      obtain ⟨h1, h2⟩ := twice_in _ t h
      refine ⟨?_, ?_⟩
      · intro q hq
        rcases List.mem_cons.1 hq with rfl | hq
        · simpa using hp
        · intro hn; exact h1 q hq (by simp [hn])
      · rw [List.map_cons, List.nodup_cons]
        refine ⟨?_, h2⟩
        intro hm
        obtain ⟨q, hq, e⟩ := List.mem_map.1 hm
        exact h1 q hq (by simp [e])
theorem noSup_in (ns : List T) : ∀ l : List P2, noSup ns l = none → ∀ p ∈ l, p.2 ∈ ns
  | [], _, _, hp => by cases hp
  | q :: t, h, p, hp => by
    unfold noSup at h
    split at h
    · rename_i hq
      rcases List.mem_cons.1 hp with rfl | hp
      · simpa using hq
      · exact noSup_in ns t h p hp
    · cases h
theorem inLoop_in (h : Hr) : ∀ l : List P2, inLoop h l = none → ∀ p ∈ l, loopF h.up h.names.length (h.up p.1) p.1 = false
  | [], _, _, hp => by cases hp
  | q :: t, h1, p, hp => by
    unfold inLoop at h1
    split at h1
    · cases h1
    · rename_i hq
      rcases List.mem_cons.1 hp with rfl | hp
      · simpa using hq
      · exact inLoop_in h t h1 p hp
theorem idx_get {l : List T} {c : T} (h : c ∈ l) : l[l.idxOf c]? = some c := by
  have h1 : l.idxOf c < l.length := List.idxOf_lt_length_iff.2 h
  rw [List.getElem?_eq_getElem h1]
  exact congrArg some (List.getElem_idxOf h1)
theorem why_good {l : List P2} (h : (whyT l).2 = 0) : GoodH (mk l) ∧ (mk l).names.length ≤ 41 ∧ l.length ≤ 32 ∧ twice [objN] (full l) = none := by
  unfold whyT at h
  split at h
  · cases h
  · rename_i hlen
    split at h
    · cases h
    · rename_i ht
      split at h
      · cases h
      · rename_i hs
        split at h
        · cases h
        · rename_i hl
          obtain ⟨t1, t2⟩ := twice_in _ _ ht
          have s1 := noSup_in _ _ hs
          have l1 := inLoop_in _ _ hl
          have upin : ∀ p ∈ full l, (mk l).up p.1 ≠ none := by
            intro p hp hn
            unfold Hr.up mk abv at hn
            cases hf : (full l).find? (fun q => q.1 == p.1) with
            | none =>
              rw [List.find?_eq_none] at hf
              exact hf p hp (by simp)
            | some q =>
              simp only [hf, Option.map_some, Option.bind_some] at hn
              rw [idx_get (s1 q (List.mem_of_find?_eq_some hf))] at hn
              cases hn
          have root : (mk l).up objN = none := by
            have hf : (full l).find? (fun p => p.1 == objN) = none := by
              rw [List.find?_eq_none]
              intro p hp he
              exact t1 p hp (by simp [eq_of_beq he])
            unfold Hr.up mk abv
            simp only [hf]
            rfl
          refine ⟨⟨by simp [mk, nms], ?_, root, ?_⟩, ?_, by omega, ht⟩
          · intro c hc hu
            simp only [mk, nms, List.mem_cons, List.mem_map] at hc
            rcases hc with rfl | ⟨p, hp, rfl⟩
            · rfl
            · exact absurd hu (upin p hp)
          · intro c hc
            refine way_of (mk l).names (fun _ _ _ hu => up_in hu) ?_ hc
            intro d hd
            have hd' := hd
            simp only [mk, nms, List.mem_cons, List.mem_map] at hd'
            rcases hd' with rfl | ⟨p, hp, rfl⟩
            · rw [root]
              cases (mk l).names.length <;> rfl
            · exact l1 p hp
          · simp [mk, nms, full, alw]; omega
end HierT
end Go.Proofs.YtilakpbgpdbchaaDoor
