/-
  Classes in the places of others: what comes of them; a map from names to classes; a class stored into a row of one's own.
-/
import Derived.Test.YtiagjnimafdbhaaGreatDoorG30
import Derived.Maps.OwnSet
namespace Go.Proofs.YtiagjnimafdbhaaGreatDoor
namespace DlP
open Go.RowKit Base BinM Stru DescM DescW DescX HierS HierT HierM HierC HierD HierN Kls KlsP KlsQ OpenK TabC TabM TabK TabP TabE TabB TabG TabH TabT TabU TabV TabW TabN TabO TabY TabCs TabCl

/-- the class that stands in a class's place -/
def rep (X : List ClsT) (k : ClsT) : ClsT := (X.find? (named k.name)).getD k
/-- a class that would stand below another one than it did -/
def badS (L : List ClsT) (c : ClsT) : Bool := match L.find? (named c.name) with
  | some k => !(k.sup == c.sup)
  | none => false
def newC (L : List ClsT) (c : ClsT) : Bool := (L.find? (named c.name)).isNone
def merged (L X : List ClsT) : List ClsT := L.map (rep X) ++ X.filter (newC L)

theorem rep_in (X : List ClsT) (k : ClsT) : rep X k = k ∨ rep X k ∈ X := by
  unfold rep
  cases h : X.find? (named k.name) with
  | none => exact .inl rfl
  | some x => exact .inr (List.mem_of_find?_eq_some h)
theorem find_name {L : List ClsT} {q : T} {k : ClsT} (h : L.find? (named q) = some k) : k.name = q := by
  have := List.find?_some h
  unfold named at this
  exact eq_of_beq this
theorem find_bare (L : List ClsT) (q : T) : (L.map bareC).find? (named q) = (L.find? (named q)).map bareC := by
  rw [List.find?_map]
  congr 1
theorem bad_alike {C L : List ClsT} (h : C.map bareC = L.map bareC) (c : ClsT) : badS C c = badS L c := by
  have e : (C.find? (named c.name)).map bareC = (L.find? (named c.name)).map bareC := by rw [← find_bare, ← find_bare, h]
  unfold badS
  cases h1 : C.find? (named c.name) with
  | none =>
    rw [h1] at e
    cases h2 : L.find? (named c.name) with
    | none => rfl
    | some k => rw [h2] at e; simp at e
  | some k =>
    rw [h1] at e
    cases h2 : L.find? (named c.name) with
    | none => rw [h2] at e; simp at e
    | some k' =>
      rw [h2] at e
      simp only [Option.map_some, Option.some.injEq] at e
      have e2 : k.sup = k'.sup := by
        have e3 := congrArg ClsT.sup e
        exact e3
      show (!(k.sup == c.sup)) = (!(k'.sup == c.sup))
      rw [e2]
theorem new_alike {C L : List ClsT} (h : C.map bareC = L.map bareC) (c : ClsT) : newC C c = newC L c := by
  have e : (C.find? (named c.name)).map bareC = (L.find? (named c.name)).map bareC := by rw [← find_bare, ← find_bare, h]
  have e2 := congrArg Option.isNone e
  unfold newC
  simpa using e2
theorem bare_bare (k : ClsT) : bareC (bareC k) = bareC k := by
  unfold bareC
  simp only [List.map_map]
  congr 1
theorem rep_bare (X : List ClsT) (k : ClsT) : bareC (rep X (bareC k)) = bareC (rep X k) := by
  unfold rep
  show bareC ((X.find? (named k.name)).getD (bareC k)) = _
  cases X.find? (named k.name) with
  | none => exact bare_bare k
  | some x => rfl
theorem merged_alike {C L : List ClsT} (h : C.map bareC = L.map bareC) (X : List ClsT) : (merged C X).map bareC = (merged L X).map bareC := by
  unfold merged
  have e1 : ∀ M : List ClsT, (M.map (rep X)).map bareC = (M.map bareC).map (fun k => bareC (rep X k)) := fun M => by
    rw [List.map_map, List.map_map]
    apply List.map_congr_left
    intro k _
    exact (rep_bare X k).symm
  have e2 : newC C = newC L := by funext c; exact new_alike h c
  rw [List.map_append, List.map_append, e1 C, e1 L, h, e2]
theorem badF_alike {C L : List ClsT} (h : C.map bareC = L.map bareC) : badS C = badS L := by funext c; exact bad_alike h c
/-- what Merge answers of classes L and others X -/
def GivesM (L X : List ClsT) (w : World) (e : Ending) (w' : World) : Prop :=
  Below w.heap.size w w' ∧ ((∃ x, X.find? (badS L) = some x ∧ e = .returned (.tuple #[.slice none 0 0, .string ⟨x.name.toArray⟩, .int .i64 13])) ∨
    (X.find? (badS L) = none ∧ ∃ (A' : Option Addr) (c' : Nat) (D : List ClsT), e = .returned (.tuple #[.slice A' D.length c', .string ⟨#[]⟩, .int .i64 0]) ∧ Rds w' A' (D.flatMap valsC) ∧ (∀ x ∈ D, x.is w') ∧ D.map bareC = (merged L X).map bareC))
theorem GivesM.alike {C L X : List ClsT} {w w' : World} {e : Ending} (h : GivesM C X w e w') (hb : C.map bareC = L.map bareC) : GivesM L X w e w' := by
  unfold GivesM at h ⊢
  rw [badF_alike hb, merged_alike hb X] at h
  exact h

/-! ### names that stand once -/
theorem names_of {L : List ClsT} (h : (whyT (pairs L)).2 = 0) : (L.map ClsT.name).Nodup := by
  have h1 : twice [objN] (full (pairs L)) = none := by
    unfold whyT at h
    split at h
    · cases h
    · split at h
      · cases h
      · rename_i h2
        exact h2
  have h1 := (twice_in _ _ h1).2
  unfold full at h1
  rw [List.map_append] at h1
  have h2 := (List.nodup_append.1 h1).2.1
  have e : (pairs L).map (·.1) = L.map ClsT.name := by unfold pairs; rw [List.map_map]; rfl
  rw [e] at h2
  exact h2

/-! ### so many classes done -/
def LLf (L X : List ClsT) (k : Nat) : List ClsT := (L.take k).map (rep X) ++ L.drop k
theorem ll_zero (L X : List ClsT) : LLf L X 0 = L := by simp [LLf]
theorem ll_all (L X : List ClsT) : LLf L X L.length = L.map (rep X) := by simp [LLf]
theorem ll_len (L X : List ClsT) {k : Nat} (hk : k ≤ L.length) : (LLf L X k).length = L.length := by simp [LLf]; omega
theorem ll_next {L X : List ClsT} {k : Nat} (hk : k < L.length) : LLf L X (k + 1) = (LLf L X k).set k (rep X L[k]) := by
  unfold LLf
  have hl : ((L.take k).map (rep X)).length = k := by simp; omega
  have e : ((L.take k).map (rep X) ++ L.drop k).set k (rep X L[k]) = (L.take k).map (rep X) ++ (L.drop k).set (k - ((L.take k).map (rep X)).length) (rep X L[k]) := List.set_append_right _ _ (by omega)
  rw [e, hl, Nat.sub_self, List.drop_eq_getElem_cons hk, List.set_cons_zero, List.take_succ_eq_append_getElem hk, List.map_append, List.append_assoc]
  rfl
theorem ll_get {L X : List ClsT} {k : Nat} (hk : k < L.length) (h2 : k < (LLf L X k).length) : (LLf L X k)[k] = L[k] := by
  have hl : ((L.take k).map (rep X)).length = k := by simp; omega
  have e : (LLf L X k)[k]? = some L[k] := by
    unfold LLf
    rw [List.getElem?_append_right (by omega), hl, Nat.sub_self, List.getElem?_drop, Nat.add_zero, List.getElem?_eq_getElem hk]
  rw [List.getElem?_eq_getElem h2] at e
  exact Option.some.inj e
theorem ll_same {L X : List ClsT} {k : Nat} (hk : k < L.length) (h : X.find? (named L[k].name) = none) : LLf L X (k + 1) = LLf L X k := by
  have hr : rep X L[k] = L[k] := by unfold rep; rw [h]; rfl
  rw [ll_next hk, hr]
  have h2 : k < (LLf L X k).length := by rw [ll_len L X (by omega)]; exact hk
  conv => lhs; rw [← ll_get (X := X) hk h2]
  exact List.set_getElem_self h2
/-- what is left in the map behind so many -/
def fAt (L X : List ClsT) (k : Nat) (q : T) : Option ClsT := if q ∈ (L.take k).map ClsT.name then none else X.find? (named q)
theorem fAt_zero (L X : List ClsT) : fAt L X 0 = fun q => X.find? (named q) := by funext q; simp [fAt]
theorem fAt_look {L X : List ClsT} (hn : (L.map ClsT.name).Nodup) {k : Nat} (hk : k < L.length) : fAt L X k L[k].name = X.find? (named L[k].name) := by
  unfold fAt
  rw [if_neg]
  intro h
  rw [List.map_take] at h
  obtain ⟨i, hi, e⟩ := List.getElem_of_mem h
  simp only [List.length_take, List.length_map] at hi
  rw [List.getElem_take] at e
  have h2 : (L.map ClsT.name)[i]'(by simp; omega) = (L.map ClsT.name)[k]'(by simpa using hk) := by rw [e]; simp
  rw [List.Nodup, List.pairwise_iff_getElem] at hn
  exact hn i k (by simp; omega) (by simpa using hk) (by omega) h2
theorem fAt_del {L X : List ClsT} {k : Nat} (hk : k < L.length) : (fun q => if q = L[k].name then none else fAt L X k q) = fAt L X (k + 1) := by
  funext q
  unfold fAt
  rw [List.take_succ_eq_append_getElem hk, List.map_append, List.map_singleton]
  by_cases h : q = L[k].name
  · subst h; simp
  · rw [if_neg h]
    simp [h]
theorem fAt_none {L X : List ClsT} {k : Nat} (hk : k < L.length) (h : X.find? (named L[k].name) = none) : fAt L X k = fAt L X (k + 1) := by
  rw [← fAt_del hk]
  funext q
  by_cases e : q = L[k].name
  · rw [if_pos e, e]
    unfold fAt
    rw [h]
    split <;> rfl
  · rw [if_neg e]
theorem new_mem (L : List ClsT) (c : ClsT) : newC L c = true ↔ c.name ∉ L.map ClsT.name := by
  unfold newC
  rw [Option.isNone_iff_eq_none, List.find?_eq_none]
  constructor
  · intro h hm
    obtain ⟨k, hk, e⟩ := List.mem_map.1 hm
    exact h k hk (by unfold named; simp [e])
  · intro h k hk hn
    unfold named at hn
    exact h (List.mem_map.2 ⟨k, hk, eq_of_beq hn⟩)
theorem fAt_new {L X : List ClsT} {c : ClsT} (hc : c ∈ X) : (fAt L X L.length c.name = none ↔ newC L c = false) := by
  unfold fAt
  rw [List.take_length]
  by_cases h : c.name ∈ L.map ClsT.name
  · rw [if_pos h]
    have : newC L c = false := by
      cases e : newC L c with
      | false => rfl
      | true => exact absurd h ((new_mem L c).1 e)
    simp [this]
  · rw [if_neg h]
    have h1 : newC L c = true := (new_mem L c).2 h
    rw [h1]
    constructor
    · intro h2
      have := List.find?_eq_none.1 h2 c hc
      unfold named at this
      simp at this
    · intro h2; cases h2
theorem filter_next {α : Type} (p : α → Bool) {X : List α} {j : Nat} (hj : j < X.length) : (X.take (j + 1)).filter p = (X.take j).filter p ++ (if p X[j] = true then [X[j]] else []) := by
  rw [List.take_succ_eq_append_getElem hj, List.filter_append]
  congr 1
  cases h : p X[j] <;> simp [h]
theorem find_next {α : Type} (p : α → Bool) {X : List α} {j : Nat} (hj : j < X.length) (h : ∀ x ∈ X.take j, p x = false) (h2 : p X[j] = false) : ∀ x ∈ X.take (j + 1), p x = false := by
  rw [List.take_succ_eq_append_getElem hj]
  intro x hx
  rcases List.mem_append.1 hx with hx | hx
  · exact h x hx
  · simp at hx; subst hx; exact h2
theorem find_at {α : Type} (p : α → Bool) {X : List α} {j : Nat} (hj : j < X.length) (h : ∀ x ∈ X.take j, p x = false) (h2 : p X[j] = true) : X.find? p = some X[j] := by
  have e : X = X.take j ++ X[j] :: X.drop (j + 1) := by rw [← List.drop_eq_getElem_cons hj, List.take_append_drop]
  conv => lhs; rw [e]
  rw [List.find?_append, List.find?_eq_none.2 (fun x hx => by rw [h x hx]; simp), List.find?_cons_of_pos h2]
  rfl
theorem find_not {α : Type} (p : α → Bool) {X : List α} (h : ∀ x ∈ X, p x = false) : X.find? p = none := List.find?_eq_none.2 (fun x hx => by rw [h x hx]; simp)

/-! ### a map from names to classes -/
def MapC (w : World) (b n : Nat) (f : T → Option ClsT) : Prop :=
  ∃ D : DV, w.ownsMap Tryz.prog 9 RV b n D ∧ Maps.IsMap D ∧
    ∀ c, (f c = none → Maps.has D (.string c) = false) ∧ (∀ x, f c = some x → Maps.has D (.string c) = true ∧ D.atKey (.string c) (.held noC.V) = .held x.V)
theorem MapC.obj {w : World} {b n : Nat} {f : T → Option ClsT} (h : MapC w b n f) : ∃ es ck, w.heap[b]? = some (.map es ck) := by
  obtain ⟨D, ⟨es, ck, hb, _⟩, _⟩ := h
  exact ⟨es, ck, hb⟩
theorem MapC.block {w w' : World} {b n : Nat} {f : T → Option ClsT} (h : MapC w b n f) (hb : w'.heap[b]? = w.heap[b]?) : MapC w' b n f := by
  obtain ⟨D, h1, h2⟩ := h
  exact ⟨D, ownsMap_block h1 hb, h2⟩
theorem MapC.lt {w : World} {b n : Nat} {f : T → Option ClsT} (h : MapC w b n f) : b < w.heap.size := by
  obtain ⟨D, h1, _⟩ := h
  exact h1.lt
theorem MapC.ext {w w' : World} {b n : Nat} {f : T → Option ClsT} (h : MapC w b n f) (hb : Below w.heap.size w w') : MapC w' b n f := h.block (hb.block _ h.lt)
theorem MapC.same {w : World} {b n : Nat} {f f' : T → Option ClsT} (h : MapC w b n f) (e : f = f') : MapC w b n f' := by rw [← e]; exact h
theorem mapC_made (w : World) : MapC (w.alloc (.map #[] 0)) w.heap.size 0 (fun _ => none) := by
  refine ⟨.map [], World.ownsMap_made w _ _ _, Maps.isMap_empty, fun c => ⟨fun _ => rfl, fun i h => ?_⟩⟩
  cases h
theorem mapC_put {w' : World} {b n : Nat} {f : T → Option ClsT} {D : DV} (hD : Maps.IsMap D) (hall : ∀ c, (f c = none → Maps.has D (.string c) = false) ∧ (∀ x, f c = some x → Maps.has D (.string c) = true ∧ D.atKey (.string c) (.held noC.V) = .held x.V))
    (c : T) (x : ClsT) (h : w'.ownsMap Tryz.prog 9 RV b (n + 1) (D.put (.string c) (.held x.V))) : MapC w' b (n + 1) (fun c' => if c' = c then some x else f c') := by
  refine ⟨_, h, hD.put _ _, fun c' => ?_⟩
  simp only
  by_cases e : c' = c
  · subst e
    rw [if_pos rfl]
    refine ⟨fun h => ?_, fun j hj => ?_⟩
    · cases h
    · cases hj
      exact ⟨Maps.has_put_same hD (show WideAt.IsKeyLit (.string c') from True.intro) _, Maps.atKey_put_same hD (show WideAt.IsKeyLit (.string c') from True.intro) _ _⟩
  · rw [if_neg e]
    have hne : (Lit.string c') ≠ Lit.string c := by intro h; injection h with h; exact e h
    obtain ⟨k1, k2⟩ := hall c'
    refine ⟨fun h => ?_, fun j hj => ?_⟩
    · rw [Maps.has_put_other hne]; exact k1 h
    · rw [Maps.has_put_other hne, Maps.atKey_put_other hne]
      exact k2 j hj
theorem mapC_del {w' : World} {b n : Nat} {f : T → Option ClsT} {D : DV} (hD : Maps.IsMap D) (hall : ∀ c, (f c = none → Maps.has D (.string c) = false) ∧ (∀ x, f c = some x → Maps.has D (.string c) = true ∧ D.atKey (.string c) (.held noC.V) = .held x.V))
    (c : T) (h : w'.ownsMap Tryz.prog 9 RV b n (D.del (.string c))) : MapC w' b n (fun c' => if c' = c then none else f c') := by
  refine ⟨_, h, hD.del _, fun c' => ?_⟩
  simp only
  by_cases e : c' = c
  · subst e
    rw [if_pos rfl]
    refine ⟨fun _ => Maps.has_del_same, fun j hj => ?_⟩
    cases hj
  · rw [if_neg e]
    have hne : (Lit.string c') ≠ Lit.string c := by intro h; injection h with h; exact e h
    obtain ⟨k1, k2⟩ := hall c'
    refine ⟨fun h => ?_, fun j hj => ?_⟩
    · rw [Maps.has_del_other hne]; exact k1 h
    · rw [Maps.has_del_other hne, Maps.atKey_del_other hne]
      exact k2 j hj
theorem zeroC (w : World) : (zeroValue 43).run Tryz.prog w = .ok noC.V w := by kernel_rfl

theorem look_C {ops : Array Oper} {rest : List Oper} {o : Oper} {a : Act} {Q : Exit → Act → World → Prop} (w : World) (hg : o.guard = none) (m x : Operand) (hop : o.op = Op.lookup 89 m x true)
    (b n : Nat) (f : T → Option ClsT) (hm : a.eval m = .map (some b)) (H : MapC w b n f) (q : T) (hq : q.length ≤ 140737488351232) (hx : a.eval x = .string ⟨q.toArray⟩) (r : ClsT) (ok : Bool) (hr : (f q).getD noC = r) (hok : (f q).isSome = ok)
    (hK : wpList Tryz.prog ops Q rest (a.put o.dst (.tuple #[r.V, .bool ok])) w) : wpList Tryz.prog ops Q (o :: rest) a w := by
  obtain ⟨D, ho, hD, hall⟩ := H
  refine wpList_lookup_own_ok _ hg m x 89 hop 9 43 keyS Tryz.underlying89 RV (zeroC _) (.held noC.V) [] rfl b n D hm ho _ _ hx (keyOf_s q hq) ?_
  intro v ps hv
  cases hf : f q with
  | none =>
    rw [hf] at hr hok
    have h1 := (hall q).1 hf
    obtain rfl : v = noC.V := RV_inv (hv.trans (by rw [Maps.atKey_of_not_has h1]))
    rw [h1]
    simp only [Option.getD_none] at hr
    simp only [Option.isSome_none] at hok
    rw [hr, hok]
    exact hK
  | some k =>
    rw [hf] at hr hok
    have h1 := (hall q).2 k hf
    obtain rfl : v = k.V := RV_inv (hv.trans (by rw [h1.2]))
    rw [h1.1]
    simp only [Option.getD_some] at hr
    simp only [Option.isSome_some] at hok
    rw [hr, hok]
    exact hK
theorem look_C0 {ops : Array Oper} {rest : List Oper} {o : Oper} {a : Act} {Q : Exit → Act → World → Prop} (w : World) (hg : o.guard = none) (m x : Operand) (hop : o.op = Op.lookup 89 m x true)
    (b n : Nat) (f : T → Option ClsT) (hm : a.eval m = .map (some b)) (H : MapC w b n f) (q : T) (hq : q.length ≤ 140737488351232) (hx : a.eval x = .string ⟨q.toArray⟩) (hf : f q = none)
    (hK : wpList Tryz.prog ops Q rest (a.put o.dst (.tuple #[.agg #[.string ⟨#[]⟩, .string ⟨#[]⟩, .slice none 0 0, .slice none 0 0, .slice none 0 0], .bool false])) w) : wpList Tryz.prog ops Q (o :: rest) a w :=
  look_C w hg m x hop b n f hm H q hq hx noC false (by rw [hf]; rfl) (by rw [hf]; rfl) hK
theorem look_C1 {ops : Array Oper} {rest : List Oper} {o : Oper} {a : Act} {Q : Exit → Act → World → Prop} (w : World) (hg : o.guard = none) (m x : Operand) (hop : o.op = Op.lookup 89 m x true)
    (b n : Nat) (f : T → Option ClsT) (hm : a.eval m = .map (some b)) (H : MapC w b n f) (q : T) (hq : q.length ≤ 140737488351232) (hx : a.eval x = .string ⟨q.toArray⟩) (r : ClsT) (hf : f q = some r)
    (hK : wpList Tryz.prog ops Q rest (a.put o.dst (.tuple #[.agg #[.string ⟨r.name.toArray⟩, .string ⟨r.sup.toArray⟩, .slice r.kA r.km r.kc, .slice r.fA r.fm r.fc, .slice r.mA r.mm r.mc], .bool true])) w) : wpList Tryz.prog ops Q (o :: rest) a w :=
  look_C w hg m x hop b n f hm H q hq hx r true (by rw [hf]; rfl) (by rw [hf]; rfl) hK
theorem del_C {ops : Array Oper} {rest : List Oper} {o : Oper} {a : Act} {Q : Exit → Act → World → Prop} (w : World) (hg : o.guard = none) (m x : Operand) (hop : o.op = Op.call { callee := Callee.builtin Builtin.delete, args := #[m, x], argTypes := #[89, 9] })
    (b n : Nat) (f : T → Option ClsT) (hm : a.eval m = .map (some b)) (H : MapC w b n f) (q : T) (hq : q.length ≤ 140737488351232) (hx : a.eval x = .string ⟨q.toArray⟩)
    (hK : ∀ w', MapC w' b n (fun c' => if c' = q then none else f c') → w.grownBy w' (some b) → wpList Tryz.prog ops Q rest (a.put o.dst (.tuple #[])) w') : wpList Tryz.prog ops Q (o :: rest) a w := by
  obtain ⟨D, ho, hD, hall⟩ := H
  refine wpList_delete_own _ hg m x 89 9 hop 43 keyS Tryz.underlying89 RV b n D hm ho _ _ hx (keyOf_s q hq) ?_
  intro w' h1 h2
  exact hK w' (mapC_del hD hall q h1) h2.grown
theorem keepsC_turn {w w' : World} {b n : Nat} {f : T → Option ClsT} (hm : MapC w b n f) (hg : w.grownBy w' (some b)) : Keeps w w' := by
  obtain ⟨es, ck, h⟩ := hm.obj
  exact fun A xs hr => rds_turn hr h hg
theorem N0.turn {w0 W W' : World} {A : Option Addr} {cap : Nat} {cs L : List ClsT} (h : N0 w0 W A cap cs L) {b n : Nat} {f : T → Option ClsT} (hm : MapC W b n f) (hg : W.grownBy W' (some b)) (hrow : ∀ q, (Value.slice A cs.length cap).ownBlock = some q → q ≠ b) (hle : w0.heap.size ≤ b) : N0 w0 W' A cap cs L := by
  have K := keepsC_turn hm hg
  refine ⟨TabM.own_same h.own (fun q hq => hg.block q (h.own.lt q hq).2 (fun e => hrow q hq (by cases e; rfl))), h.bare, fun y hy => ⟨keeps_cls (h.each y hy).is K, fun q hq => ⟨((h.each y hy).on q hq).1, Nat.lt_of_lt_of_le ((h.each y hy).on q hq).2 hg.size⟩⟩, h.far, h.bel.grown hg h.bel.size (fun k hk => by cases hk; exact hle)⟩

/-! ### a class stored -/
def put5C (w : World) (b k : Nat) (y : ClsT) : World := ((((w.setCell ⟨b, k * 5, none⟩ (.string ⟨y.name.toArray⟩)).setCell ⟨b, k * 5 + 1, none⟩ (.string ⟨y.sup.toArray⟩)).setCell ⟨b, k * 5 + 2, none⟩ (.slice y.kA y.km y.kc)).setCell ⟨b, k * 5 + 3, none⟩ (.slice y.fA y.fm y.fc)).setCell ⟨b, k * 5 + 4, none⟩ (.slice y.mA y.mm y.mc)
theorem put5C_block (w : World) (b k : Nat) (y : ClsT) (q : Nat) (hq : q ≠ b) : (put5C w b k y).heap[q]? = w.heap[q]? := by
  unfold put5C
  rw [heap_setCell_other _ _ _ _ hq, heap_setCell_other _ _ _ _ hq, heap_setCell_other _ _ _ _ hq, heap_setCell_other _ _ _ _ hq, heap_setCell_other _ _ _ _ hq]
theorem put5C_below {lo : Nat} {a w : World} (h : Below lo a w) (b k : Nat) (y : ClsT) (hb : lo ≤ b) : Below lo a (put5C w b k y) := by
  unfold put5C
  exact ((((h.setCell (p := ⟨b, k * 5, none⟩) hb _).setCell (p := ⟨b, k * 5 + 1, none⟩) hb _).setCell (p := ⟨b, k * 5 + 2, none⟩) hb _).setCell (p := ⟨b, k * 5 + 3, none⟩) hb _).setCell (p := ⟨b, k * 5 + 4, none⟩) hb _
theorem put5C_size (w : World) (b k : Nat) (y : ClsT) : (put5C w b k y).heap.size = w.heap.size := by simp [put5C]
theorem set5C (cs : List ClsT) (y : ClsT) (k : Nat) (hk : k < cs.length) :
    ((((((cs.flatMap valsC).set (k * 5) (.string ⟨y.name.toArray⟩)).set (k * 5 + 1) (.string ⟨y.sup.toArray⟩)).set (k * 5 + 2) (.slice y.kA y.km y.kc)).set (k * 5 + 3) (.slice y.fA y.fm y.fc)).set (k * 5 + 4) (.slice y.mA y.mm y.mc)) = (cs.set k y).flatMap valsC := by
  induction cs generalizing k with
  | nil => simp at hk
  | cons x r ih =>
    cases k with
    | zero => simp [valsC]
    | succ k =>
      have := ih k (by simpa using hk)
      rw [List.set_cons_succ, List.flatMap_cons, List.flatMap_cons, ← this]
      have hl : (valsC x).length = 5 := rfl
      have e1 : (k + 1) * 5 = (valsC x).length + k * 5 := by rw [hl]; omega
      rw [e1]
      simp only [Nat.add_assoc]
      rw [List.set_append_right _ _ (by omega), List.set_append_right _ _ (by omega), List.set_append_right _ _ (by omega), List.set_append_right _ _ (by omega), List.set_append_right _ _ (by omega)]
      simp only [Nat.add_sub_cancel_left]
theorem N0.put {w0 W : World} {b cap : Nat} {cs L : List ClsT} (h : N0 w0 W (some ⟨b, 0, none⟩) cap cs L) {k : Nat} (hk : k < cs.length) {x y : ClsT} (hy : OwnK w0.heap.size W y) (hyf : ∀ q, OnC y q → q ≠ b) (hxy : bareC y = bareC x) :
    N0 w0 (put5C W b k y) (some ⟨b, 0, none⟩) cap (cs.set k y) (L.set k x) := by
  obtain ⟨lb, hb2⟩ := h.own.lt b rfl
  have hl : (cs.set k y).length = cs.length := List.length_set
  refine ⟨?_, ?_, ?_, ?_, put5C_below h.bel b k y lb⟩
  · have h5 := (((((((((h.own.stored (k * 5) (.string ⟨y.name.toArray⟩)).1).stored (k * 5 + 1) (.string ⟨y.sup.toArray⟩)).1).stored (k * 5 + 2) (.slice y.kA y.km y.kc)).1).stored (k * 5 + 3) (.slice y.fA y.fm y.fc)).1).stored (k * 5 + 4) (.slice y.mA y.mm y.mc)).1
    rw [set5C cs y k hk] at h5
    rw [hl]
    exact h5
  · rw [List.map_set, List.map_set, h.bare, hxy]
  · intro z hz
    rcases List.mem_or_eq_of_mem_set hz with hz | rfl
    · exact (h.each z hz).same (Nat.le_of_eq (put5C_size _ _ _ _).symm) (fun q hq => put5C_block _ _ _ _ _ (fun e => h.far z hz q hq (by rw [e]; rfl)))
    · exact hy.same (Nat.le_of_eq (put5C_size _ _ _ _).symm) (fun q hq => put5C_block _ _ _ _ _ (hyf q hq))
  · intro z hz q hq
    rw [hl]
    rcases List.mem_or_eq_of_mem_set hz with hz | rfl
    · exact h.far z hz q hq
    · intro e
      injection e with e
      exact hyf q hq e
end DlP
end Go.Proofs.YtiagjnimafdbhaaGreatDoor
