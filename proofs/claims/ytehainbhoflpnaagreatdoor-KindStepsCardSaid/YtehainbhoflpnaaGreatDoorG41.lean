/-
  What the program's instructions do to a list of types, and what the document's do: the same (without memory).
-/
import Derived.Test.YtehainbhoflpnaaGreatDoorG32
import Derived.Test.YtehainbhoflpnaaGreatDoorG36
import Derived.Test.YtehainbhoflpnaaGreatDoorG39
import Derived.Test.YtehainbhoflpnaaGreatDoorG40
namespace Go.Proofs.YtehainbhoflpnaaGreatDoor
namespace KndH
open Go.RowKit Base BinM Stru DescM DescW DescX DescS DescG DescP DescQ HierS HierT HierM HierC HierD HierN HierV HierR HierU HierY Kls KlsP KlsQ OpenK TabC TabM TabK TabP TabE TabB TabG TabH TabT TabU TabV TabX TabW TabF TabN TabO TabY TabR TabQ TabL TabZ KndB KndM EfA KndS KndP KndQ KndR KndU KndV KndW
open KrB (RS rpop rtop rneed rpush rwant rfits rthing rarr)
open KrH (fitsL giveL)

/-- the document's mark stays -/
def Sticky (g : RS → RS) : Prop := ∀ s : RS, s.2 = true → (g s).2 = true
/-- both can, with the same stack, or none can -/
def Ag (R : List T × Bool) (S : RS) : Prop := R.2 = !S.2 ∧ (R.2 = true → R.1 = S.1)
theorem ag_then {R : List T × Bool} {S : RS} {k : List T → List T × Bool} {x : List T} {g : RS → RS} (h : Ag R S) (hs : Sticky g) (hk : R.2 = true → Ag (k R.1) (g (R.1, false))) : Ag (if R.2 = true then k R.1 else (x, false)) (g S) := by
  obtain ⟨l, b⟩ := S
  obtain ⟨h1, h2⟩ := h
  cases b with
  | false =>
    have hr : R.2 = true := h1
    rw [if_pos hr]
    have hl : R.1 = l := h2 hr
    have := hk hr
    rw [hl] at this ⊢
    exact this
  | true =>
    have hr : R.2 = false := h1
    rw [if_neg (by rw [hr]; simp)]
    exact ⟨by rw [hs (l, true) rfl]; rfl, fun h => by cases h⟩
theorem ag_push {l : List T} (d : T) : Ag (l ++ [d], true) (rpush d (l, false)) := ⟨rfl, fun _ => rfl⟩
theorem st_push (d : T) : Sticky (rpush d) := fun _ h => h
theorem st_fits (h : Hr) (d : T) : Sticky (rfits h d) := fun s hs => by simp [rfits, rneed, rpop, hs]
theorem st_fitsL (h : Hr) : ∀ ds : List T, Sticky (fitsL h ds)
  | [], _, hs => hs
  | d :: ds, s, hs => st_fits h d _ (st_fitsL h ds s hs)
theorem pop_no {ss : List T} (h : (popP ss).2.2 = false) : popP ss = ([], [], false) := by
  unfold popP at h ⊢
  cases hl : ss.getLast? with
  | none => rfl
  | some d => rw [hl] at h; cases h
theorem pop_snoc (ss : List T) (x : T) : popP (ss ++ [x]) = (x, ss, true) := by
  unfold popP
  rw [List.getLast?_concat]
  simp
theorem ag_pop (ss : List T) : Ag ((popP ss).2.1, (popP ss).2.2) (rpop (ss, false)) := ⟨by simp [rpop], fun _ => rfl⟩
theorem th_ok {ss : List T} {v : Bool} (h : (popP ss).2.2 = false → v = false) : v = !((false || !(popP ss).2.2) || !v) := by
  cases ho : (popP ss).2.2 with
  | false => rw [h ho]; rfl
  | true => simp
theorem ag_thing (ss : List T) : Ag (thP ss) (rthing (ss, false)) := ⟨th_ok (ss := ss) (v := refB (popP ss).1) (fun h => by rw [pop_no h]; rfl), fun _ => rfl⟩
theorem st_thing : Sticky rthing := fun s hs => by simp [rthing, rneed, rpop, hs]
theorem snoc_cases {α : Type} (l : List α) : l = [] ∨ ∃ L b, l = L ++ [b] := by
  cases l with
  | nil => exact .inl rfl
  | cons a t => exact .inr ⟨(a :: t).dropLast, (a :: t).getLast (by simp), (List.dropLast_concat_getLast _).symm⟩
theorem getD_left {l : List T} {x : T} {j : Nat} (h : j < l.length) : (l ++ [x]).getD j [] = l.getD j [] := by
  rw [List.getD_eq_getElem?_getD, List.getD_eq_getElem?_getD, List.getElem?_append_left h]
theorem getD_last {l : List T} {x : T} : (l ++ [x]).getD l.length [] = x := by
  rw [List.getD_eq_getElem?_getD]; simp
theorem take_snoc_no {h : Hr} {ss ds : List T} {x d : T} (hn : h.sub x d = false) : (takeP h (ss ++ [x]) (ds ++ [d])).2 = false := by
  by_cases hl : ds.length ≤ ss.length
  · obtain ⟨q, hq⟩ : ∃ q, ss.length = q + ds.length := ⟨ss.length - ds.length, by omega⟩
    rw [take_no (q := q) (j := ds.length) (by simp; omega) (by simp) (by rw [show q + ds.length = ss.length from hq.symm, getD_last, getD_last]; exact hn)]
  · rw [take_few (by simp; omega)]
theorem take_snoc_yes {h : Hr} {ss ds : List T} {x d : T} (hy : h.sub x d = true) : (takeP h (ss ++ [x]) (ds ++ [d])).2 = (takeP h ss ds).2 ∧ ((takeP h ss ds).2 = true → (takeP h (ss ++ [x]) (ds ++ [d])).1 = (takeP h ss ds).1) := by
  by_cases hl : ds.length ≤ ss.length
  · obtain ⟨q, hq⟩ : ∃ q, ss.length = q + ds.length := ⟨ss.length - ds.length, by omega⟩
    by_cases ha : ∀ j, j < ds.length → h.sub (ss.getD (q + j) []) (ds.getD j []) = true
    · rw [take_yes hq ha, take_yes (q := q) (by simp; omega) (fun j hj => ?_)]
      · refine ⟨rfl, fun _ => ?_⟩
        exact List.take_append_of_le_length (by omega)
      · by_cases hj2 : j < ds.length
        · rw [getD_left (by omega), getD_left hj2]; exact ha j hj2
        · have e : j = ds.length := by simp at hj; omega
          subst e
          rw [show q + ds.length = ss.length from hq.symm, getD_last, getD_last]; exact hy
    · obtain ⟨j, hj⟩ := Classical.not_forall.1 ha
      obtain ⟨hj, hn⟩ := Classical.not_imp.1 hj
      have hn : h.sub (ss.getD (q + j) []) (ds.getD j []) = false := by simpa using hn
      rw [take_no hq hj hn, take_no (q := q) (j := j) (by simp; omega) (by simp; omega) (by rw [getD_left (by omega), getD_left hj]; exact hn)]
      exact ⟨rfl, fun h => by cases h⟩
  · rw [take_few (ss := ss) (ds := ds) (by omega), take_few (ss := ss ++ [x]) (ds := ds ++ [d]) (by simp; omega)]
    exact ⟨rfl, fun h => by cases h⟩
theorem ag_fits (h : Hr) : ∀ (n : Nat) (ds ss : List T), ds.length = n → Ag (takeP h ss ds) (fitsL h ds (ss, false))
  | 0, ds, ss, hn => by
    have e : ds = [] := List.length_eq_zero_iff.1 hn
    subst e
    rw [take_yes (q := ss.length) rfl (fun j hj => absurd hj (by simp))]
    exact ⟨rfl, fun _ => by show ss.take ss.length = ss; simp⟩
  | n + 1, ds, ss, hn => by
    rcases snoc_cases ds with rfl | ⟨D, d, rfl⟩
    · simp at hn
    · have hf : ∀ s, fitsL h (D ++ [d]) s = fitsL h D (rfits h d s) := fun s => by simp [fitsL, List.foldr_append]
      rw [hf]
      rcases snoc_cases ss with rfl | ⟨S, x, rfl⟩
      · rw [take_few (by simp)]
        have hb : (rfits h d ([], false)).2 = true := by simp [rfits, rneed, rpop, popP]
        exact ⟨by rw [st_fitsL h D _ hb]; rfl, fun h => by cases h⟩
      · have hr : rfits h d (S ++ [x], false) = (S, !h.sub x d) := by simp [rfits, rneed, rpop, rtop, pop_snoc]
        rw [hr]
        cases hx : h.sub x d with
        | false =>
          have h2 := take_snoc_no (ss := S) (ds := D) hx
          refine ⟨by rw [h2, st_fitsL h D _ rfl]; rfl, fun h => by rw [h2] at h; cases h⟩
        | true =>
          obtain ⟨e1, e2⟩ := take_snoc_yes (ss := S) (ds := D) hx
          obtain ⟨i1, i2⟩ := ag_fits h n D S (by simpa using hn)
          exact ⟨e1.trans i1, fun hh => by rw [e1] at hh; rw [e2 hh]; exact i2 hh⟩
theorem ag_take (h : Hr) (ds ss : List T) : Ag (takeP h ss ds) (fitsL h ds (ss, false)) := ag_fits h _ ds ss rfl
theorem ag_tl (h : Hr) (ds ss : List T) (r : T) : Ag (tlP h ss ds [r]) (rpush r (fitsL h ds (ss, false))) := ag_then (k := fun l => (l ++ [r], true)) (ag_take h ds ss) (st_push r) (fun _ => ag_push r)

theorem sub_prim {h : Hr} {p : T} (hk : h.kon p = true) (hr : refB p = false) (hc : (classT p).2 = false) (x : T) : h.sub x p = (x == p) := by
  unfold Hr.sub Hr.step Hr.cls
  rw [hk, hr, hc]
  by_cases e : x = p
  · subst e; simp [hk]
  · have : (x == p) = false := by simpa using e
    rw [this]; simp
theorem sub_I (h : Hr) (x : T) : h.sub x [73] = (x == [73]) := sub_prim rfl rfl rfl x
theorem sub_B (h : Hr) (x : T) : h.sub x [66] = (x == [66]) := sub_prim rfl rfl rfl x
theorem sub_V (h : Hr) (x : T) : h.sub x [86] = false := KrS.sub_kon (by rw [show h.kon [86] = false from rfl, Bool.and_false])
theorem want_I (h : Hr) (s : RS) : rwant [73] s = rfits h [73] s := by unfold rwant rfits; rw [sub_I]
theorem want_B (h : Hr) (s : RS) : rwant [66] s = rfits h [66] s := by unfold rwant rfits; rw [sub_B]
theorem ag_wI (h : Hr) (ss : List T) : Ag (takeP h ss [tI]) (rwant [73] (ss, false)) := by rw [want_I h]; exact ag_take h [tI] ss
theorem ag_wB (h : Hr) (ss : List T) : Ag (takeP h ss [tB]) (rwant [66] (ss, false)) := by rw [want_B h]; exact ag_take h [tB] ss

theorem ag_dup (ss : List T) : Ag (dupP ss) (rpush (rtop (ss, false)) (rpush (rtop (ss, false)) (rpop (ss, false)))) := by
  unfold dupP
  cases ho : (popP ss).2.2 with
  | false => rw [if_neg (by simp)]; exact ⟨by simp [rpush, rpop, ho], fun h => by cases h⟩
  | true => rw [if_pos rfl]; exact ⟨by simp [rpush, rpop, ho], fun _ => by simp [rpush, rpop, rtop]⟩
theorem ag_eqr (ss : List T) : Ag (eqrP ss) (rpush [66] (rthing (rthing (ss, false)))) :=
  ag_then (k := fun l => if (thP l).2 = true then ((thP l).1 ++ [tB], true) else ((thP l).1, false)) (g := fun s => rpush [66] (rthing s)) (ag_thing ss) (fun s hs => st_thing s hs)
    (fun _ => ag_then (k := fun l => (l ++ [tB], true)) (ag_thing _) (st_push _) (fun _ => ag_push _))
theorem ag_elem {ss : List T} {k : List T → List T × Bool} {x : List T} {g : RS → RS} (hs : Sticky g) (hk : (popP ss).2.2 = true → ((elemT (popP ss).1).2 == 0) = true → Ag (k (popP ss).2.1) (g ((popP ss).2.1, false))) : Ag (if ((elemT (popP ss).1).2 == 0) = true then k (popP ss).2.1 else (x, false)) (g (rarr (ss, false))) := by
  have hA : Ag ((popP ss).2.1, (elemT (popP ss).1).2 == 0) (rarr (ss, false)) := ⟨th_ok (ss := ss) (v := (elemT (popP ss).1).2 == 0) (fun h => by rw [pop_no h]; rfl), fun _ => rfl⟩
  refine ag_then (k := k) (R := ((popP ss).2.1, (elemT (popP ss).1).2 == 0)) hA hs (fun h => hk ?_ h)
  cases ho : (popP ss).2.2 with
  | false => rw [pop_no ho] at h; cases h
  | true => rfl
theorem st_arr : Sticky rarr := fun s hs => by simp [rarr, rneed, rpop, hs]
theorem ag_alen (ss : List T) : Ag (alenP ss) (rpush [73] (rarr (ss, false))) := ag_elem (k := fun l => (l ++ [tI], true)) (st_push _) (fun _ _ => ag_push _)
theorem ag_aload (h : Hr) (ss : List T) : Ag (aloadP h ss) (rpush (elemT (rtop (rwant [73] (ss, false)))).1 (rarr (rwant [73] (ss, false)))) :=
  ag_then (k := fun l => if ((elemT (popP l).1).2 == 0) = true then ((popP l).2.1 ++ [(elemT (popP l).1).1], true) else ((popP l).2.1, false)) (g := fun s => rpush (elemT (rtop s)).1 (rarr s)) (ag_wI h ss) (fun s hs => st_arr s hs)
    (fun _ => ag_elem (k := fun l => (l ++ [_], true)) (st_push _) (fun _ _ => ag_push _))
theorem ag_astore (h : Hr) (ss : List T) : Ag (astP h ss) (rneed (h.sub (rtop (ss, false)) (elemT (rtop (rwant [73] (rpop (ss, false))))).1) (rarr (rwant [73] (rpop (ss, false))))) := by
  cases ho : (popP ss).2.2 with
  | false =>
    have e := pop_no ho
    unfold astP
    rw [e]
    rw [take_few (by simp [tI])]
    exact ⟨by simp [rneed, rarr, rwant, rpop, e], fun h => by cases h⟩
  | true =>
    have e : rpop (ss, false) = ((popP ss).2.1, false) := by simp [rpop, ho]
    rw [e]
    unfold astP
    exact ag_then (k := fun l => if ((elemT (popP l).1).2 == 0) = true then ((popP l).2.1, h.sub (popP ss).1 (elemT (popP l).1).1) else ((popP l).2.1, false))
      (g := fun s => rneed (h.sub (rtop (ss, false)) (elemT (rtop s)).1) (rarr s)) (ag_wI h _) (fun s hs => by simp [rneed, st_arr s hs])
      (fun _ => ag_elem (k := fun l => (l, _)) (g := fun s => rneed _ s) (fun s hs => by simp [rneed, hs]) (fun _ _ => ⟨by simp [rneed, rtop], fun _ => rfl⟩))
theorem ag_ret (h : Hr) (gv : T) (ss : List T) : Ag (takeP h ss [gv]) (rfits h gv (rneed (!(gv == [86])) (ss, false))) := by
  have hA := ag_take h [gv] ss
  by_cases e : gv = [86]
  · subst e
    have hb : (takeP h ss [[86]]).2 = false := by
      rw [hA.1]
      simp [fitsL, rfits, rneed, sub_V]
    exact ⟨by rw [hb, st_fits h [86] _ (by simp [rneed])]; rfl, fun hh => by rw [hb] at hh; cases hh⟩
  · have : (gv == [86]) = false := by simpa using e
    rw [this]
    exact hA
theorem ag_retv (gv : T) (ss : List T) : Ag (ss, gv == [86]) (rneed (gv == [86]) (ss, false)) := ⟨by simp [rneed], fun _ => rfl⟩
theorem ag_print (ss : List T) : Ag ((popP ss).2.1, prB (popP ss).1) (rneed (KrC.shown (rtop (ss, false))) (rpop (ss, false))) := ⟨th_ok (ss := ss) (v := prB (popP ss).1) (fun h => by rw [pop_no h]; rfl), fun _ => rfl⟩
theorem ag_spawn (C : List ClsT) (E : T → List EntT) (hE : ∀ q, (mtE (hav C q).2 tRun).sig = (mtE (E q) tRun).sig) (ss : List T) : Ag (spawnP C ss) (rneed (KrC.runB E (rtop (ss, false))) (rpop (ss, false))) := by
  unfold spawnP KrC.runB
  rw [hE]
  exact ⟨th_ok (ss := ss) (v := (classT (popP ss).1).2 && (mtE (E (classT (popP ss).1).1) tRun).sig == tUnit) (fun h => by rw [pop_no h]; rfl), fun _ => rfl⟩
theorem ag_load (a : Int) (ls ss : List T) (h : 0 ≤ a ∧ a < ls.length) : Ag (loadP a ls ss) (rpush (ls.getD a.toNat []) (rneed (!(ls.getD a.toNat [] == [])) (ss, false))) := by
  unfold loadP
  rw [if_pos h]
  by_cases e : ls.getD a.toNat [] = []
  · rw [if_pos e, e]; exact ⟨rfl, fun h => by cases h⟩
  · rw [if_neg e]
    have : (ls.getD a.toNat [] == []) = false := by simpa using e
    rw [this]
    exact ⟨rfl, fun _ => rfl⟩
theorem ag_need {x : Bool} {ss : List T} {R : List T × Bool} {g : RS → RS} (hs : Sticky g) (hk : x = true → Ag R (g (ss, false))) : Ag (if x = true then R else (ss, false)) (g (rneed x (ss, false))) :=
  ag_then (R := (ss, x)) (k := fun _ => R) (S := rneed x (ss, false)) ⟨by simp [rneed], fun _ => rfl⟩ hs hk
theorem ag_new (h : Hr) (d : T) (ss : List T) (hk : (classT d).2 = true → h.known d = h.has (classT d).1) : Ag (newP h d ss) (rpush d (rneed ((classT d).2 && h.has (classT d).1) (ss, false))) := by
  have e : newP h d ss = if ((classT d).2 && h.has (classT d).1) = true then (ss ++ [d], true) else (ss, false) := by
    unfold newP
    cases hc : (classT d).2 with
    | false => simp
    | true => rw [hk hc]; simp
  rw [e]
  exact ag_need (st_push d) (fun _ => ag_push d)
theorem ag_arr (h : Hr) (d : T) (ss : List T) : Ag (arrP h d ss) (rpush d (rwant [73] (rneed ((elemT d).2 == 0 && h.known d) (ss, false)))) := by
  have e : arrP h d ss = if ((elemT d).2 == 0 && h.known d) = true then tlP h ss [tI] [d] else (ss, false) := by
    unfold arrP
    simp only [Bool.and_eq_true]
  rw [e]
  exact ag_need (g := fun s => rpush d (rwant [73] s)) (fun s hs => by simp [rpush, rwant, rneed, rpop, hs]) (fun _ => by rw [want_I h]; exact ag_tl h [tI] ss d)
theorem ag_cast (h : Hr) (d r : T) (ss : List T) : Ag (castP h d r ss) (rpush r (rthing (rneed (h.known d && refB d) (ss, false)))) := by
  have e : castP h d r ss = if (h.known d && refB d) = true then (if (thP ss).2 = true then ((thP ss).1 ++ [r], true) else ((thP ss).1, false)) else (ss, false) := by
    unfold castP
    simp only [Bool.and_eq_true]
  rw [e]
  exact ag_need (g := fun s => rpush r (rthing s)) (fun s hs => st_thing s hs) (fun _ => ag_then (k := fun l => (l ++ [r], true)) (ag_thing ss) (st_push r) (fun _ => ag_push r))
theorem not_yes {p : Prop} [Decidable p] {b : Bool} {R : List T × Bool} {ss : List T} (h : p ↔ b = false) : (if p then (ss, false) else R) = if b = true then R else (ss, false) := by
  by_cases hp : p
  · rw [if_pos hp, if_neg (by rw [h.1 hp]; simp)]
  · rw [if_neg hp, if_pos (by cases b with | true => rfl | false => exact absurd (h.2 rfl) hp)]
theorem ag_getf (h : Hr) (C : List ClsT) (F : T → List FedT) (c : Cst) (ss : List T) (hF : KndX.noF C c ↔ KrF.fdB F c.s c.t c.u = false) : Ag (KndX.getfP h C c ss) (rpush c.u (rfits h (ofT c.s) (rneed (KrF.fdB F c.s c.t c.u) (ss, false)))) := by
  unfold KndX.getfP
  rw [not_yes hF]
  exact ag_need (g := fun s => rpush c.u (rfits h (ofT c.s) s)) (fun s hs => st_fits h _ s hs) (fun _ => ag_tl h [ofT c.s] ss c.u)
theorem ag_putf (h : Hr) (C : List ClsT) (F : T → List FedT) (c : Cst) (ss : List T) (hF : KndX.noF C c ↔ KrF.fdB F c.s c.t c.u = false) : Ag (KndX.putfP h C c ss) (rfits h (ofT c.s) (rfits h c.u (rneed (KrF.fdB F c.s c.t c.u) (ss, false)))) := by
  unfold KndX.putfP
  rw [not_yes hF]
  exact ag_need (g := fun s => rfits h (ofT c.s) (rfits h c.u s)) (fun s hs => st_fits h _ _ (st_fits h _ s hs)) (fun _ => ag_take h [ofT c.s, c.u] ss)
theorem st_give (g : T) : Sticky (giveL g) := fun s hs => by unfold giveL; split <;> simpa [rpush] using hs
theorem ag_call (h : Hr) (C : List ClsT) (E : T → List EntT) (c : Cst) (ss : List T) (hF : KndY.noM C c ↔ KrH.mtB E c.s c.t c.u = false) : Ag (KndY.callP h C c ss) (giveL (splitT c.u).1 (rfits h (ofT c.s) (fitsL h (splitT c.u).2.1 (rneed (KrH.mtB E c.s c.t c.u) (ss, false))))) := by
  unfold KndY.callP
  rw [not_yes hF]
  refine ag_need (g := fun s => giveL (splitT c.u).1 (rfits h (ofT c.s) (fitsL h (splitT c.u).2.1 s))) (fun s hs => st_give _ _ (st_fits h _ _ (st_fitsL h _ s hs))) (fun _ => ?_)
  refine ag_then (k := fun l => if (splitT c.u).1 = [86] then (l, true) else (l ++ [(splitT c.u).1], true)) (ag_take h (ofT c.s :: (splitT c.u).2.1) ss) (st_give _) (fun _ => ?_)
  unfold giveL
  by_cases e : (splitT c.u).1 = [86]
  · rw [if_pos e, if_pos (by simpa using e)]; exact ⟨rfl, fun _ => rfl⟩
  · rw [if_neg e, if_neg (by simpa using e)]; exact ag_push _
end KndH
end Go.Proofs.YtehainbhoflpnaaGreatDoor
