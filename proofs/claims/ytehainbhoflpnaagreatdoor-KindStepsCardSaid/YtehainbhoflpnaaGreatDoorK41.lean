/- pieces -/
import Derived.Test.YtehainbhoflpnaaGreatDoorK40
namespace Go.Proofs.YtehainbhoflpnaaGreatDoor
namespace KndH
open Go.RowKit Base BinM Stru DescM DescW DescX DescS DescG DescP DescQ HierS HierT HierM HierC HierD HierN HierV HierR HierU HierY Kls KlsP KlsQ OpenK TabC TabM TabK TabP TabE TabB TabG TabH TabT TabU TabV TabX TabW TabF TabN TabO TabY TabR TabQ TabL TabZ KndB KndM EfA KndS KndP KndQ KndR KndU KndV KndW
open KrB (RS qb ZL zL zC zK Zd ZM jQ)
open KrH (ZV jk)
def JO (g : RS → RS) : Prop := ∀ s : RS, s.2 = true → (g s).2 = true
def Ag (R : List T × Bool) (S : RS) : Prop := R.2 = !S.2 ∧ (R.2 = true → R.1 = S.1)
theorem jo {R : List T × Bool} {S : RS} {k : List T → List T × Bool} {x : List T} {g : RS → RS} (h : Ag R S) (hs : JO g) (hk : R.2 = true → Ag (k R.1) (g (R.1, false))) : Ag (if R.2 = true then k R.1 else (x, false)) (g S) := by
 obtain ⟨l, b⟩ := S
 obtain ⟨h1, h2⟩ := h
 cases b with
 | false =>
   have hr : R.2 = true := h1
   rw [if_pos hr]
   have hl : R.1 = l := h2 hr
   have := hk hr
   rw [hl] at this ⊢
   exact this
 | true =>
   have hr : R.2 = false := h1
   rw [if_neg (by rw [hr]; simp)]
   exact ⟨by rw [hs (l, true) rfl]; rfl, fun h => by cases h⟩
theorem QE {l : List T} (d : T) : Ag (l ++ [d], true) (zC d (l, false)) := ⟨rfl, fun _ => rfl⟩
theorem yH (d : T) : JO (zC d) := fun _ h => h
theorem yI (h : Hr) (d : T) : JO (Zd h d) := fun s hs => by simp [Zd, zL, qb, hs]
theorem Yz (h : Hr) : ∀ ds : List T, JO (ZV h ds)
 | [], _, hs => hs
 | d :: ds, s, hs => yI h d _ (Yz h ds s hs)
theorem xH {ss : List T} (h : (zi ss).2.2 = false) : zi ss = ([], [], false) := by
 unfold zi at h ⊢
 cases hl : ss.getLast? with
 | none => rfl
 | some d => rw [hl] at h; cases h
theorem zo5 (ss : List T) (x : T) : zi (ss ++ [x]) = (x, ss, true) := by
 unfold zi
 rw [List.getLast?_concat]
 simp
theorem Zm7 (ss : List T) : Ag ((zi ss).2.1, (zi ss).2.2) (qb (ss, false)) := ⟨by simp [qb], fun _ => rfl⟩
theorem za9 {ss : List T} {v : Bool} (h : (zi ss).2.2 = false → v = false) : v = !((false || !(zi ss).2.2) || !v) := by
 cases ho : (zi ss).2.2 with
 | false => rw [h ho]; rfl
 | true => simp
theorem yB (ss : List T) : Ag (thP ss) (ZM (ss, false)) := ⟨za9 (ss := ss) (v := Zr (zi ss).1) (fun h => by rw [xH h]; rfl), fun _ => rfl⟩
theorem kR : JO ZM := fun s hs => by simp [ZM, zL, qb, hs]
theorem XY {α : Type} (l : List α) : l = [] ∨ ∃ L b, l = L ++ [b] := by
 cases l with
 | nil => exact .inl rfl
 | cons a t => exact .inr ⟨(a :: t).dropLast, (a :: t).getLast (by simp), (List.dropLast_concat_getLast _).symm⟩
theorem yS {l : List T} {x : T} {j : Nat} (h : j < l.length) : (l ++ [x]).getD j [] = l.getD j [] := by
 rw [List.getD_eq_getElem?_getD, List.getD_eq_getElem?_getD, List.getElem?_append_left h]
theorem yT {l : List T} {x : T} : (l ++ [x]).getD l.length [] = x := by
 rw [List.getD_eq_getElem?_getD]; simp
theorem V9 {h : Hr} {ss ds : List T} {x d : T} (hn : h.sub x d = false) : (zx h (ss ++ [x]) (ds ++ [d])).2 = false := by
 by_cases hl : ds.length ≤ ss.length
 · obtain ⟨q, hq⟩ : ∃ q, ss.length = q + ds.length := ⟨ss.length - ds.length, by omega⟩
   rw [Xv (q := q) (j := ds.length) (by simp; omega) (by simp) (by rw [show q + ds.length = ss.length from hq.symm, yT, yT]; exact hn)]
 · rw [J9 (by simp; omega)]
theorem Uy {h : Hr} {ss ds : List T} {x d : T} (hy : h.sub x d = true) : (zx h (ss ++ [x]) (ds ++ [d])).2 = (zx h ss ds).2 ∧ ((zx h ss ds).2 = true → (zx h (ss ++ [x]) (ds ++ [d])).1 = (zx h ss ds).1) := by
 by_cases hl : ds.length ≤ ss.length
 · obtain ⟨q, hq⟩ : ∃ q, ss.length = q + ds.length := ⟨ss.length - ds.length, by omega⟩
   by_cases ha : ∀ j, j < ds.length → h.sub (ss.getD (q + j) []) (ds.getD j []) = true
   · rw [Yx hq ha, Yx (q := q) (by simp; omega) (fun j hj => ?_)]
     · refine ⟨rfl, fun _ => ?_⟩
       exact List.take_append_of_le_length (by omega)
     · by_cases hj2 : j < ds.length
       · rw [yS (by omega), yS hj2]; exact ha j hj2
       · have e : j = ds.length := by simp at hj; omega
         subst e
         rw [show q + ds.length = ss.length from hq.symm, yT, yT]; exact hy
   · obtain ⟨j, hj⟩ := Classical.not_forall.1 ha
     obtain ⟨hj, hn⟩ := Classical.not_imp.1 hj
     have hn : h.sub (ss.getD (q + j) []) (ds.getD j []) = false := by simpa using hn
     rw [Xv hq hj hn, Xv (q := q) (j := j) (by simp; omega) (by simp; omega) (by rw [yS (by omega), yS hj]; exact hn)]
     exact ⟨rfl, fun h => by cases h⟩
 · rw [J9 (ss := ss) (ds := ds) (by omega), J9 (ss := ss ++ [x]) (ds := ds ++ [d]) (by simp; omega)]
   exact ⟨rfl, fun h => by cases h⟩
theorem zg3 (h : Hr) : ∀ (n : Nat) (ds ss : List T), ds.length = n → Ag (zx h ss ds) (ZV h ds (ss, false))
 | 0, ds, ss, hn => by
   have e : ds = [] := List.length_eq_zero_iff.1 hn
   subst e
   rw [Yx (q := ss.length) rfl (fun j hj => absurd hj (by simp))]
   exact ⟨rfl, fun _ => by show ss.take ss.length = ss; simp⟩
 | n + 1, ds, ss, hn => by
   rcases XY ds with rfl | ⟨D, d, rfl⟩
   · simp at hn
   · have hf : ∀ s, ZV h (D ++ [d]) s = ZV h D (Zd h d s) := fun s => by simp [ZV, List.foldr_append]
     rw [hf]
     rcases XY ss with rfl | ⟨S, x, rfl⟩
     · rw [J9 (by simp)]
       have hb : (Zd h d ([], false)).2 = true := by simp [Zd, zL, qb, zi]
       exact ⟨by rw [Yz h D _ hb]; rfl, fun h => by cases h⟩
     · have hr : Zd h d (S ++ [x], false) = (S, !h.sub x d) := by simp [Zd, zL, qb, ZL, zo5]
       rw [hr]
       cases hx : h.sub x d with
       | false =>
         have h2 := V9 (ss := S) (ds := D) hx
         refine ⟨by rw [h2, Yz h D _ rfl]; rfl, fun h => by rw [h2] at h; cases h⟩
       | true =>
         obtain ⟨e1, e2⟩ := Uy (ss := S) (ds := D) hx
         obtain ⟨i1, i2⟩ := zg3 h n D S (by simpa using hn)
         exact ⟨e1.trans i1, fun hh => by rw [e1] at hh; rw [e2 hh]; exact i2 hh⟩
theorem JN (h : Hr) (ds ss : List T) : Ag (zx h ss ds) (ZV h ds (ss, false)) := zg3 h _ ds ss rfl
theorem Zw2 (h : Hr) (ds ss : List T) (r : T) : Ag (tlP h ss ds [r]) (zC r (ZV h ds (ss, false))) := jo (k := fun l => (l ++ [r], true)) (JN h ds ss) (yH r) (fun _ => QE r)
theorem kM {h : Hr} {p : T} (hk : h.kon p = true) (hr : Zr p = false) (hc : (zq p).2 = false) (x : T) : h.sub x p = (x == p) := by
 unfold Hr.sub Hr.step Hr.cls
 rw [hk, hr, hc]
 by_cases e : x = p
 · subst e; simp [hk]
 · have : (x == p) = false := by simpa using e
   rw [this]; simp
theorem Zo0 (h : Hr) (x : T) : h.sub x [73] = (x == [73]) := kM rfl rfl rfl x
theorem Zo1 (h : Hr) (x : T) : h.sub x [66] = (x == [66]) := kM rfl rfl rfl x
theorem Zn9 (h : Hr) (x : T) : h.sub x [86] = false := KrS.Vd (by rw [show h.kon [86] = false from rfl, Bool.and_false])
theorem QI (h : Hr) (s : RS) : zK [73] s = Zd h [73] s := by unfold zK Zd; rw [Zo0]
theorem jd (h : Hr) (s : RS) : zK [66] s = Zd h [66] s := by unfold zK Zd; rw [Zo1]
theorem Zi3 (h : Hr) (ss : List T) : Ag (zx h ss [tI]) (zK [73] (ss, false)) := by rw [QI h]; exact JN h [tI] ss
theorem Zi4 (h : Hr) (ss : List T) : Ag (zx h ss [tB]) (zK [66] (ss, false)) := by rw [jd h]; exact JN h [tB] ss
theorem Zn0 (ss : List T) : Ag (GN ss) (zC (ZL (ss, false)) (zC (ZL (ss, false)) (qb (ss, false)))) := by
 unfold GN
 cases ho : (zi ss).2.2 with
 | false => rw [if_neg (by simp)]; exact ⟨by simp [zC, qb, ho], fun h => by cases h⟩
 | true => rw [if_pos rfl]; exact ⟨by simp [zC, qb, ho], fun _ => by simp [zC, qb, ZL]⟩
theorem Zm9 (ss : List T) : Ag (zk4 ss) (zC [66] (ZM (ZM (ss, false)))) :=
 jo (k := fun l => if (thP l).2 = true then ((thP l).1 ++ [tB], true) else ((thP l).1, false)) (g := fun s => zC [66] (ZM s)) (yB ss) (fun s hs => kR s hs)
  (fun _ => jo (k := fun l => (l ++ [tB], true)) (yB _) (yH _) (fun _ => QE _))
theorem VY {ss : List T} {k : List T → List T × Bool} {x : List T} {g : RS → RS} (hs : JO g) (hk : (zi ss).2.2 = true → ((zM (zi ss).1).2 == 0) = true → Ag (k (zi ss).2.1) (g ((zi ss).2.1, false))) : Ag (if ((zM (zi ss).1).2 == 0) = true then k (zi ss).2.1 else (x, false)) (g (jQ (ss, false))) := by
 have hA : Ag ((zi ss).2.1, (zM (zi ss).1).2 == 0) (jQ (ss, false)) := ⟨za9 (ss := ss) (v := (zM (zi ss).1).2 == 0) (fun h => by rw [xH h]; rfl), fun _ => rfl⟩
 refine jo (k := k) (R := ((zi ss).2.1, (zM (zi ss).1).2 == 0)) hA hs (fun h => hk ?_ h)
 cases ho : (zi ss).2.2 with
 | false => rw [xH ho] at h; cases h
 | true => rfl
theorem zn7 : JO jQ := fun s hs => by simp [jQ, zL, qb, hs]
theorem Zg9 (ss : List T) : Ag (xB ss) (zC [73] (jQ (ss, false))) := VY (k := fun l => (l ++ [tI], true)) (yH _) (fun _ _ => QE _)
theorem zx1 (h : Hr) (ss : List T) : Ag (jg h ss) (zC (zM (ZL (zK [73] (ss, false)))).1 (jQ (zK [73] (ss, false)))) :=
 jo (k := fun l => if ((zM (zi l).1).2 == 0) = true then ((zi l).2.1 ++ [(zM (zi l).1).1], true) else ((zi l).2.1, false)) (g := fun s => zC (zM (ZL s)).1 (jQ s)) (Zi3 h ss) (fun s hs => zn7 s hs)
  (fun _ => VY (k := fun l => (l ++ [_], true)) (yH _) (fun _ _ => QE _))
theorem zm6 (h : Hr) (ss : List T) : Ag (Un h ss) (zL (h.sub (ZL (ss, false)) (zM (ZL (zK [73] (qb (ss, false))))).1) (jQ (zK [73] (qb (ss, false))))) := by
 cases ho : (zi ss).2.2 with
 | false =>
   have e := xH ho
   unfold Un
   rw [e]
   rw [J9 (by simp [tI])]
   exact ⟨by simp [zL, jQ, zK, qb, e], fun h => by cases h⟩
 | true =>
   have e : qb (ss, false) = ((zi ss).2.1, false) := by simp [qb, ho]
   rw [e]
   unfold Un
   exact jo (k := fun l => if ((zM (zi l).1).2 == 0) = true then ((zi l).2.1, h.sub (zi ss).1 (zM (zi l).1).1) else ((zi l).2.1, false))
    (g := fun s => zL (h.sub (ZL (ss, false)) (zM (ZL s)).1) (jQ s)) (Zi3 h _) (fun s hs => by simp [zL, zn7 s hs])
    (fun _ => VY (k := fun l => (l, _)) (g := fun s => zL _ s) (fun s hs => by simp [zL, hs]) (fun _ _ => ⟨by simp [zL, ZL], fun _ => rfl⟩))
theorem Zm6 (h : Hr) (gv : T) (ss : List T) : Ag (zx h ss [gv]) (Zd h gv (zL (!(gv == [86])) (ss, false))) := by
 have hA := JN h [gv] ss
 by_cases e : gv = [86]
 · subst e
   have hb : (zx h ss [[86]]).2 = false := by
    rw [hA.1]
    simp [ZV, Zd, zL, Zn9]
   exact ⟨by rw [hb, yI h [86] _ (by simp [zL])]; rfl, fun hh => by rw [hb] at hh; cases hh⟩
 · have : (gv == [86]) = false := by simpa using e
   rw [this]
   exact hA
theorem Zg4 (gv : T) (ss : List T) : Ag (ss, gv == [86]) (zL (gv == [86]) (ss, false)) := ⟨by simp [zL], fun _ => rfl⟩
theorem zx0 (ss : List T) : Ag ((zi ss).2.1, prB (zi ss).1) (zL (KrC.shown (ZL (ss, false))) (qb (ss, false))) := ⟨za9 (ss := ss) (v := prB (zi ss).1) (fun h => by rw [xH h]; rfl), fun _ => rfl⟩
theorem zw9 (C : List zf) (E : T → List zG) (hE : ∀ q, (mtE (hav C q).2 QV).sig = (mtE (E q) QV).sig) (ss : List T) : Ag (Qj C ss) (zL (KrC.zh9 E (ZL (ss, false))) (qb (ss, false))) := by
 unfold Qj KrC.zh9
 rw [hE]
 exact ⟨za9 (ss := ss) (v := (zq (zi ss).1).2 && (mtE (E (zq (zi ss).1).1) QV).sig == jh) (fun h => by rw [xH h]; rfl), fun _ => rfl⟩
theorem Zg6 (a : Int) (ls ss : List T) (h : 0 ≤ a ∧ a < ls.length) : Ag (Qp a ls ss) (zC (ls.getD a.toNat []) (zL (!(ls.getD a.toNat [] == [])) (ss, false))) := by
 unfold Qp
 rw [if_pos h]
 by_cases e : ls.getD a.toNat [] = []
 · rw [if_pos e, e]; exact ⟨rfl, fun h => by cases h⟩
 · rw [if_neg e]
   have : (ls.getD a.toNat [] == []) = false := by simpa using e
   rw [this]
   exact ⟨rfl, fun _ => rfl⟩
theorem Y2 {x : Bool} {ss : List T} {R : List T × Bool} {g : RS → RS} (hs : JO g) (hk : x = true → Ag R (g (ss, false))) : Ag (if x = true then R else (ss, false)) (g (zL x (ss, false))) :=
 jo (R := (ss, x)) (k := fun _ => R) (S := zL x (ss, false)) ⟨by simp [zL], fun _ => rfl⟩ hs hk
theorem Zm8 (h : Hr) (d : T) (ss : List T) (hk : (zq d).2 = true → h.known d = h.has (zq d).1) : Ag (newP h d ss) (zC d (zL ((zq d).2 && h.has (zq d).1) (ss, false))) := by
 have e : newP h d ss = if ((zq d).2 && h.has (zq d).1) = true then (ss ++ [d], true) else (ss, false) := by
  unfold newP
  cases hc : (zq d).2 with
  | false => simp
  | true => rw [hk hc]; simp
 rw [e]
 exact Y2 (yH d) (fun _ => QE d)
theorem Zn1 (h : Hr) (d : T) (ss : List T) : Ag (Xt h d ss) (zC d (zK [73] (zL ((zM d).2 == 0 && h.known d) (ss, false)))) := by
 have e : Xt h d ss = if ((zM d).2 == 0 && h.known d) = true then tlP h ss [tI] [d] else (ss, false) := by
  unfold Xt
  simp only [Bool.and_eq_true]
 rw [e]
 exact Y2 (g := fun s => zC d (zK [73] s)) (fun s hs => by simp [zC, zK, zL, qb, hs]) (fun _ => by rw [QI h]; exact Zw2 h [tI] ss d)
theorem zg4 (h : Hr) (d r : T) (ss : List T) : Ag (Qd h d r ss) (zC r (ZM (zL (h.known d && Zr d) (ss, false)))) := by
 have e : Qd h d r ss = if (h.known d && Zr d) = true then (if (thP ss).2 = true then ((thP ss).1 ++ [r], true) else ((thP ss).1, false)) else (ss, false) := by
  unfold Qd
  simp only [Bool.and_eq_true]
 rw [e]
 exact Y2 (g := fun s => zC r (ZM s)) (fun s hs => kR s hs) (fun _ => jo (k := fun l => (l ++ [r], true)) (yB ss) (yH r) (fun _ => QE r))
theorem Vw {p : Prop} [Decidable p] {b : Bool} {R : List T × Bool} {ss : List T} (h : p ↔ b = false) : (if p then (ss, false) else R) = if b = true then R else (ss, false) := by
 by_cases hp : p
 · rw [if_pos hp, if_neg (by rw [h.1 hp]; simp)]
 · rw [if_neg hp, if_pos (by cases b with | true => rfl | false => exact absurd (h.2 rfl) hp)]
theorem Zg7 (h : Hr) (C : List zf) (F : T → List Zi) (c : Cst) (ss : List T) (hF : KndX.noF C c ↔ KrF.fdB F c.s c.t c.u = false) : Ag (KndX.Jq h C c ss) (zC c.u (Zd h (ofT c.s) (zL (KrF.fdB F c.s c.t c.u) (ss, false)))) := by
 unfold KndX.Jq
 rw [Vw hF]
 exact Y2 (g := fun s => zC c.u (Zd h (ofT c.s) s)) (fun s hs => yI h _ s hs) (fun _ => Zw2 h [ofT c.s] ss c.u)
theorem Zg5 (h : Hr) (C : List zf) (F : T → List Zi) (c : Cst) (ss : List T) (hF : KndX.noF C c ↔ KrF.fdB F c.s c.t c.u = false) : Ag (KndX.Jj h C c ss) (Zd h (ofT c.s) (Zd h c.u (zL (KrF.fdB F c.s c.t c.u) (ss, false)))) := by
 unfold KndX.Jj
 rw [Vw hF]
 exact Y2 (g := fun s => Zd h (ofT c.s) (Zd h c.u s)) (fun s hs => yI h _ _ (yI h _ s hs)) (fun _ => JN h [ofT c.s, c.u] ss)
theorem zb3 (g : T) : JO (jk g) := fun s hs => by unfold jk; split <;> simpa [zC] using hs
theorem Zg8 (h : Hr) (C : List zf) (E : T → List zG) (c : Cst) (ss : List T) (hF : KndY.noM C c ↔ KrH.mtB E c.s c.t c.u = false) : Ag (KndY.Ju h C c ss) (jk (zy c.u).1 (Zd h (ofT c.s) (ZV h (zy c.u).2.1 (zL (KrH.mtB E c.s c.t c.u) (ss, false))))) := by
 unfold KndY.Ju
 rw [Vw hF]
 refine Y2 (g := fun s => jk (zy c.u).1 (Zd h (ofT c.s) (ZV h (zy c.u).2.1 s))) (fun s hs => zb3 _ _ (yI h _ _ (Yz h _ s hs))) (fun _ => ?_)
 refine jo (k := fun l => if (zy c.u).1 = [86] then (l, true) else (l ++ [(zy c.u).1], true)) (JN h (ofT c.s :: (zy c.u).2.1) ss) (zb3 _) (fun _ => ?_)
 unfold jk
 by_cases e : (zy c.u).1 = [86]
 · rw [if_pos e, if_pos (by simpa using e)]; exact ⟨rfl, fun _ => rfl⟩
 · rw [if_neg e, if_neg (by simpa using e)]; exact QE _
end KndH
end Go.Proofs.YtehainbhoflpnaaGreatDoor
