/- pieces -/
import Derived.Test.YtehainbhoflpnaaGreatDoorK3
import Derived.Test.YtehainbhoflpnaaGreatDoorK2
import Derived.Maps.OwnSet
import Derived.Deep.QuietTactic
import Derived.BigQuiet
namespace Go.Proofs.YtehainbhoflpnaaGreatDoor
namespace HierS
abbrev T := List UInt8
inductive Zz (up : T → Option T) : T → List T → Prop
 | top {c : T} : up c = none → Zz up c [c]
 | step {c d : T} {l : List T} : up c = some d → Zz up d l → Zz up c (c :: l)
section
variable {up : T → Option T}
theorem Zz.head {c : T} {l : List T} (h : Zz up c l) : ∃ t, l = c :: t := by
 cases h
 · exact ⟨_, rfl⟩
 · exact ⟨_, rfl⟩
theorem Zz.det {c : T} {l : List T} (h : Zz up c l) : ∀ {m : List T}, Zz up c m → l = m := by
 induction h with
 | top h => intro m hm; cases hm with
   | top => rfl
   | step h2 => rw [h] at h2; cases h2
 | step h _ ih => intro m hm; cases hm with
   | top h2 => rw [h] at h2; cases h2
   | step h2 h3 => rw [h] at h2; cases h2; rw [ih h3]
theorem Zz.rest {c : T} {l : List T} (h : Zz up c l) : ∀ {p s : List T} {d : T}, l = p ++ d :: s → Zz up d (d :: s) := by
 induction h with
 | @top c h =>
   intro p s d e
   cases p with
   | nil => simp at e; obtain ⟨rfl, rfl⟩ := e; exact .top h
   | cons a p => simp at e
 | @step c d' l h h2 ih =>
   intro p s d e
   cases p with
   | nil => simp at e; obtain ⟨rfl, rfl⟩ := e; exact .step h h2
   | cons a p => simp at e; exact ih e.2
theorem Zz.split {c d : T} {l : List T} (h : Zz up c l) (hd : d ∈ l) : ∃ p s, l = p ++ d :: s ∧ Zz up d (d :: s) := by
 obtain ⟨p, s, e⟩ := List.append_of_mem hd
 exact ⟨p, s, e, h.rest e⟩
theorem Zz.trans {x y z : T} {l m : List T} (h : Zz up x l) (hy : y ∈ l) (h2 : Zz up y m) (hz : z ∈ m) : z ∈ l := by
 obtain ⟨p, s, e, h3⟩ := h.split hy
 rw [h2.det h3] at hz
 rw [e]; exact List.mem_append_right _ hz
def iter (up : T → Option T) : Nat → Option T → Option T
 | 0, o => o
 | _ + 1, none => none
 | k + 1, some c => iter up k (up c)
theorem jw : ∀ k, iter up k none = none
 | 0 => rfl
 | _ + 1 => rfl
theorem yM : ∀ (k : Nat) (o : Option T) (c : T), iter up k o = some c → iter up (k + 1) o = up c
 | 0, o, c, h => by
   change o = some c at h
   subst h; rfl
 | k + 1, none, c, h => by cases h
 | k + 1, some u, c, h => by
   change iter up k (up u) = some c at h
   exact yM k (up u) c h
def Zm (up : T → Option T) : Nat → Option T → T → Bool
 | 0, _, _ => false
 | _ + 1, none, _ => false
 | k + 1, some u, c => u == c || Zm up k (up u) c
theorem yL : ∀ (N k : Nat) (o : Option T) (c : T), iter up k o = some c → k < N → Zm up N o c = true
 | 0, k, _, _, _, h => absurd h (by omega)
 | N + 1, k, none, c, h, _ => by rw [jw] at h; cases h
 | N + 1, 0, some u, c, h, _ => by
   change some u = some c at h
   cases h; simp [Zm]
 | N + 1, k + 1, some u, c, h, hk => by
   change iter up k (up u) = some c at h
   have := yL N k (up u) c h (by omega)
   simp [Zm, this]
theorem uO : ∀ (v names : List T), v.Nodup → (∀ x ∈ v, x ∈ names) → v.length ≤ names.length
 | [], _, _, _ => by simp
 | a :: t, names, hn, hs => by
   rw [List.nodup_cons] at hn
   have h := uO t (names.erase a) hn.2 (fun x hx => (List.mem_erase_of_ne (by rintro rfl; exact hn.1 hx)).2 (hs x (by simp [hx])))
   have h2 := List.length_erase_of_mem (hs a (by simp))
   have h3 : 0 < names.length := List.length_pos_of_mem (hs a (by simp))
   simp only [List.length_cons]
   omega
theorem za6 (names : List T) (hup : ∀ c ∈ names, ∀ d, up c = some d → d ∈ names) (hl : ∀ c ∈ names, Zm up names.length (up c) c = false) :
 ∀ (n : Nat) (v : List T) (c : T), v.Nodup → (∀ x ∈ v, x ∈ names) → c ∈ names → c ∉ v → (∀ e ∈ v, ∃ k, k + 1 ≤ v.length ∧ iter up k (up e) = some c) → n + v.length = names.length → ∃ l, Zz up c l ∧ l.length ≤ n
 | 0, v, c, hv, hs, hc, hcv, _, hn => by
   have := uO (c :: v) names (List.nodup_cons.2 ⟨hcv, hv⟩) (by intro x hx; rcases List.mem_cons.1 hx with rfl | hx; exact hc; exact hs x hx)
   simp at this; omega
 | n + 1, v, c, hv, hs, hc, hcv, he, hn => by
   cases hu : up c with
   | none => exact ⟨[c], .top hu, by simp⟩
   | some d =>
     have hd := hup c hc d hu
     by_cases h1 : d = c
     · subst h1
       have := yL (up := up) names.length 0 (up d) d hu (by omega)
       rw [hl d hd] at this; cases this
     · by_cases h2 : d ∈ v
       · obtain ⟨k, hk, hi⟩ := he d h2
         have := yL (up := up) names.length (k + 1) (up d) d (by rw [yM k _ c hi]; exact hu) (by omega)
         rw [hl d hd] at this; cases this
       · obtain ⟨l, hw, hlen⟩ := za6 names hup hl n (c :: v) d (List.nodup_cons.2 ⟨hcv, hv⟩) (by intro x hx; rcases List.mem_cons.1 hx with rfl | hx; exact hc; exact hs x hx) hd
          (by intro h; rcases List.mem_cons.1 h with h | h; exact h1 h; exact h2 h)
          (by intro e he'
              rcases List.mem_cons.1 he' with rfl | h
              · exact ⟨0, by simp, hu⟩
              · obtain ⟨k, hk, hi⟩ := he e h
                exact ⟨k + 1, by simp; omega, by rw [yM k _ c hi]; exact hu⟩) (by simp; omega)
         exact ⟨c :: l, .step hu hw, by simp; omega⟩
theorem Zi5 (names : List T) (hup : ∀ c ∈ names, ∀ d, up c = some d → d ∈ names) (hl : ∀ c ∈ names, Zm up names.length (up c) c = false) {c : T} (hc : c ∈ names) : ∃ l, Zz up c l ∧ l.length ≤ names.length :=
 za6 names hup hl names.length [] c List.nodup_nil (by simp) hc (by simp) (by simp) (by simp)
def xq (up : T → Option T) : Nat → Option T → List T
 | 0, _ => []
 | _ + 1, none => []
 | f + 1, some c => c :: xq up f (up c)
theorem zl6 {c : T} {l : List T} (h : Zz up c l) : ∀ f, l.length ≤ f → xq up f (some c) = l := by
 induction h with
 | @top c h =>
   intro f hf
   cases f with
   | zero => simp at hf
   | succ f => simp only [xq, h]; cases f <;> rfl
 | @step c d l h _ ih =>
   intro f hf
   cases f with
   | zero => simp at hf
   | succ f => simp only [xq, h]; rw [ih f (by simpa using hf)]
theorem Zi6 {c : T} {l names : List T} (h : Zz up c l) (hup : ∀ c ∈ names, ∀ d, up c = some d → d ∈ names) (hc : c ∈ names) : ∀ d ∈ l, d ∈ names := by
 induction h with
 | top _ => intro d hd; simp at hd; subst hd; exact hc
 | @step c d l h _ ih => intro e he; rcases List.mem_cons.1 he with rfl | he; exact hc; exact ih (hup _ hc _ h) e he
end
end HierS
namespace HierT
open BinM DescM DescX HierS
def Zc : T := [79, 98, 106, 101, 99, 116]
def ZP : T := [69, 120, 99]
def zi8 : T := [78, 117, 108, 108, 69, 120, 99]
def vX : T := [67, 97, 115, 116, 69, 120, 99]
def xO : T := [73, 110, 100, 101, 120, 69, 120, 99]
def divN : T := [68, 105, 118, 69, 120, 99]
def vU : T := [83, 116, 97, 99, 107, 69, 120, 99]
def zi9 : T := [77, 101, 109, 69, 120, 99]
def vG : T := [76, 111, 99, 107, 69, 120, 99]
abbrev P2 := T × T
def alw : List P2 := [(ZP, Zc), (zi8, ZP), (vX, ZP), (xO, ZP), (divN, ZP), (vU, ZP), (zi9, ZP), (vG, ZP)]
structure Hr where
 names : List T
 above : T → Option Nat
def Hr.has (h : Hr) (c : T) : Bool := h.names.contains c
def Hr.up (h : Hr) (c : T) : Option T := (h.above c).bind fun i => h.names[i]?
def Hr.chain (h : Hr) (c : T) : List T := if h.has c then xq h.up h.names.length (some c) else []
def Hr.under (h : Hr) (low high : T) : Bool := (h.chain low).contains high
def Hr.below (h : Hr) (c : T) : List T := h.names.filter fun n => h.under n c
def Hr.known (h : Hr) (d : T) : Bool := zI d && (!(zq (d.drop (brk d))).2 || h.has (zq (d.drop (brk d))).1)
def Hr.kon (h : Hr) (d : T) : Bool := h.known d || d == [78]
def Hr.cls (h : Hr) (a b : T) : Bool := (zq a).2 && (zq b).2 && h.under (zq a).1 (zq b).1
def Hr.step (h : Hr) (a b : T) : Bool := if a == [78] || b == ofT Zc then Zr a && Zr b else h.cls a b
def Hr.sub (h : Hr) (a b : T) : Bool := h.kon a && h.kon b && (a == b || h.step a b)
structure yE (h : Hr) : Prop where
 obj : Zc ∈ h.names
 top : ∀ c ∈ h.names, h.up c = none → c = Zc
 root : h.up Zc = none
 ways : ∀ c ∈ h.names, ∃ l, Zz h.up c l ∧ l.length ≤ h.names.length
theorem kI {h : Hr} {c d : T} (hu : h.up c = some d) : d ∈ h.names := by
 unfold Hr.up at hu
 cases ha : h.above c with
 | none => rw [ha] at hu; cases hu
 | some i =>
   rw [ha] at hu
   change h.names[i]? = some d at hu
   obtain ⟨hi, e⟩ := List.getElem?_eq_some_iff.1 hu
   rw [← e]; exact List.getElem_mem hi
theorem XG {h : Hr} {c : T} : h.has c = true ↔ c ∈ h.names := by unfold Hr.has; simp
theorem Jt {h : Hr} (g : yE h) {c : T} (hc : c ∈ h.names) : Zz h.up c (h.chain c) := by
 obtain ⟨l, hw, hl⟩ := g.ways c hc
 unfold Hr.chain
 rw [if_pos (XG.2 hc), zl6 hw _ hl]
 exact hw
theorem xu {h : Hr} {c : T} (hc : c ∉ h.names) : h.chain c = [] := by
 unfold Hr.chain
 rw [if_neg (fun e => hc (XG.1 e))]
theorem jA {h : Hr} (g : yE h) (c : T) : (h.chain c).length ≤ h.names.length := by
 by_cases hc : c ∈ h.names
 · obtain ⟨l, hw, hl⟩ := g.ways c hc
   rw [(Jt g hc).det hw]; exact hl
 · rw [xu hc]; simp
theorem zv4 {h : Hr} (g : yE h) {c d : T} (hd : d ∈ h.chain c) : d ∈ h.names := by
 by_cases hc : c ∈ h.names
 · exact Zi6 (Jt g hc) (fun _ _ _ hu => kI hu) hc d hd
 · rw [xu hc] at hd; cases hd
theorem gq {d : T} (h : (zq d).2 = true) : zI d = true ∧ d.head? = some 76 := by
 unfold zq at h
 split at h
 · rename_i hc
   unfold JK at hc
   simp only [Bool.and_eq_true, beq_iff_eq] at hc
   exact hc
 · cases h
theorem sub_self (h : Hr) (a : T) : h.sub a a = (a == [78] || h.known a) := by
 unfold Hr.sub Hr.kon
 simp [Bool.or_comm]
def nms (l : List P2) : List T := Zc :: l.map (·.1)
def abv (l : List P2) (c : T) : Option Nat := (l.find? fun p => p.1 == c).map fun p => (nms l).idxOf p.2
def full (l : List P2) : List P2 := alw ++ l
def mk (l : List P2) : Hr := ⟨nms (full l), abv (full l)⟩
def twice : List T → List P2 → Option T
 | _, [] => none
 | ns, p :: t => if ns.contains p.1 then some p.1 else twice (ns ++ [p.1]) t
def qH (ns : List T) : List P2 → Option T
 | [] => none
 | p :: t => if ns.contains p.2 then qH ns t else some p.1
def inLoop (h : Hr) : List P2 → Option T
 | [] => none
 | p :: t => if Zm h.up h.names.length (h.up p.1) p.1 then some p.1 else inLoop h t
def qg (l : List P2) : T × Int :=
 if 32 < l.length then ([], 6)
 else match twice [Zc] (full l) with
  | some c => (c, 8)
  | none => match qH (nms (full l)) (full l) with
    | some c => (c, 9)
    | none => match inLoop (mk l) (full l) with
      | some c => (c, 14)
      | none => ([], 0)
theorem jC : ∀ (ns : List T) (l : List P2), twice ns l = none → (∀ p ∈ l, p.1 ∉ ns) ∧ (l.map (·.1)).Nodup
 | _, [], _ => ⟨by simp, by simp⟩
 | ns, p :: t, h => by
   unfold twice at h
   split at h
   · cases h
   · rename_i hp
     obtain ⟨h1, h2⟩ := jC _ t h
     refine ⟨?_, ?_⟩
     · intro q hq
       rcases List.mem_cons.1 hq with rfl | hq
       · simpa using hp
       · intro hn; exact h1 q hq (by simp [hn])
     · rw [List.map_cons, List.nodup_cons]
       refine ⟨?_, h2⟩
       intro hm
       obtain ⟨q, hq, e⟩ := List.mem_map.1 hm
       exact h1 q hq (by simp [e])
theorem jJ (ns : List T) : ∀ l : List P2, qH ns l = none → ∀ p ∈ l, p.2 ∈ ns
 | [], _, _, hp => by cases hp
 | q :: t, h, p, hp => by
   unfold qH at h
   split at h
   · rename_i hq
     rcases List.mem_cons.1 hp with rfl | hp
     · simpa using hq
     · exact jJ ns t h p hp
   · cases h
theorem vJ (h : Hr) : ∀ l : List P2, inLoop h l = none → ∀ p ∈ l, Zm h.up h.names.length (h.up p.1) p.1 = false
 | [], _, _, hp => by cases hp
 | q :: t, h1, p, hp => by
   unfold inLoop at h1
   split at h1
   · cases h1
   · rename_i hq
     rcases List.mem_cons.1 hp with rfl | hp
     · simpa using hq
     · exact vJ h t h1 p hp
theorem yN {l : List T} {c : T} (h : c ∈ l) : l[l.idxOf c]? = some c := by
 have h1 : l.idxOf c < l.length := List.idxOf_lt_length_iff.2 h
 rw [List.getElem?_eq_getElem h1]
 exact congrArg some (List.getElem_idxOf h1)
theorem Yt {l : List P2} (h : (qg l).2 = 0) : yE (mk l) ∧ (mk l).names.length ≤ 41 ∧ l.length ≤ 32 ∧ twice [Zc] (full l) = none := by
 unfold qg at h
 split at h
 · cases h
 · rename_i hlen
   split at h
   · cases h
   · rename_i ht
     split at h
     · cases h
     · rename_i hs
       split at h
       · cases h
       · rename_i hl
         obtain ⟨t1, t2⟩ := jC _ _ ht
         have s1 := jJ _ _ hs
         have l1 := vJ _ _ hl
         have upin : ∀ p ∈ full l, (mk l).up p.1 ≠ none := by
          intro p hp hn
          unfold Hr.up mk abv at hn
          cases hf : (full l).find? (fun q => q.1 == p.1) with
          | none =>
            rw [List.find?_eq_none] at hf
            exact hf p hp (by simp)
          | some q =>
            simp only [hf, Option.map_some, Option.bind_some] at hn
            rw [yN (s1 q (List.mem_of_find?_eq_some hf))] at hn
            cases hn
         have root : (mk l).up Zc = none := by
          have hf : (full l).find? (fun p => p.1 == Zc) = none := by
           rw [List.find?_eq_none]
           intro p hp he
           exact t1 p hp (by simp [eq_of_beq he])
          unfold Hr.up mk abv
          simp only [hf]
          rfl
         refine ⟨⟨by simp [mk, nms], ?_, root, ?_⟩, ?_, by omega, ht⟩
         · intro c hc hu
           simp only [mk, nms, List.mem_cons, List.mem_map] at hc
           rcases hc with rfl | ⟨p, hp, rfl⟩
           · rfl
           · exact absurd hu (upin p hp)
         · intro c hc
           refine Zi5 (mk l).names (fun _ _ _ hu => kI hu) ?_ hc
           intro d hd
           have hd' := hd
           simp only [mk, nms, List.mem_cons, List.mem_map] at hd'
           rcases hd' with rfl | ⟨p, hp, rfl⟩
           · rw [root]
             cases (mk l).names.length <;> rfl
           · exact l1 p hp
         · simp [mk, nms, full, alw]; omega
end HierT
namespace HierM
open Go.RowKit BinM Base DescM DescW DescX HierS HierT
open BinName (ze)
def sv (t : T) : Value := .string ⟨t.toArray⟩
abbrev DW := DataW Unit
theorem Kz (c : T) : ∀ (ns : List T) (i : Nat), Lib.idxFromS (ns.map fun t => ⟨t.toArray⟩) ⟨c.toArray⟩ i = if c ∈ ns then ((i + ns.idxOf c : Nat) : Int) else -1
 | [], i => by simp [Lib.idxFromS]
 | n :: ns, i => by
   simp only [List.map_cons, Lib.idxFromS]
   by_cases h : n = c
   · subst h; simp
   · have h1 : ¬ (ByteArray.mk n.toArray = ByteArray.mk c.toArray) := by
      intro e; injection e with e; exact h (by simpa using congrArg Array.toList e)
     have h2 : ¬ c = n := fun e => h e.symm
     have h3 : (n == c) = false := by simpa using h
     rw [if_neg h1, Kz c ns (i + 1)]
     simp only [List.mem_cons, h2, false_or, List.idxOf_cons, h3, cond_false]
     by_cases hm : c ∈ ns
     · rw [if_pos hm, if_pos hm]; congr 1; omega
     · rw [if_neg hm, if_neg hm]
theorem Zh5 (c : T) (ns : List T) : Lib.idxOfS (ns.map fun t => ⟨t.toArray⟩) ⟨c.toArray⟩ = if c ∈ ns then ((ns.idxOf c : Nat) : Int) else -1 := by
 unfold Lib.idxOfS; rw [Kz]; simp
theorem Zp2 (c : T) (ns : List T) : Lib.containsS (ns.map fun t => ⟨t.toArray⟩) ⟨c.toArray⟩ = ns.contains c := by
 unfold Lib.containsS
 rw [Zh5]
 by_cases hm : c ∈ ns
 · rw [if_pos hm]; simp [hm]
 · rw [if_neg hm]; simp [hm]
theorem VQ {w : World} {b o : Nat} {ns : List T} (hc : ∀ j u, (ns.map sv)[j]? = some u → w.cell? ⟨b, o + j, none⟩ = some u) :
 ∀ j, j < (ns.map fun t => (⟨t.toArray⟩ : ByteArray)).length → w.cell? ⟨b, o + j, none⟩ = some (.string ((ns.map fun t => (⟨t.toArray⟩ : ByteArray)).getD j ByteArray.empty)) := by
 intro j hj
 refine hc j _ ?_
 rw [List.length_map] at hj
 rw [List.getElem?_map, List.getElem?_eq_getElem hj]
 simp [List.getD_eq_getElem?_getD, List.getElem?_map, List.getElem?_eq_getElem hj, sv]
theorem Ud (A : Option Addr) (n cap : Nat) (ns : List T) (c : T) (w : World) (hn : n = ns.length) (hm : n ≤ 9223372036854775807) (hr : Rds w A (ns.map sv)) :
 Calls Tryz.prog 99 #[.slice A n cap, .string ⟨c.toArray⟩] w fun e w' => e = .returned (.bool (ns.contains c)) ∧ w = w' := by
 rcases hr with h0 | ⟨b, o, rfl, _, hc⟩
 · have h0' : ns = [] := by simpa using h0
   subst h0'; subst hn
   exact (Tryz.slices_Contains_string_empty A cap ⟨c.toArray⟩ w).mono fun e w' ⟨h1, h2⟩ => ⟨h1, h2.symm⟩
 · refine (Tryz.slices_Contains_string b o n cap (ns.map fun t => ⟨t.toArray⟩) ⟨c.toArray⟩ w (by simp; omega) hm (VQ hc)).mono fun e w' ⟨h1, h2⟩ => ⟨?_, h2.symm⟩
   rw [h1, List.take_of_length_le (by simp; omega), Zp2]
theorem YP (A : Option Addr) (n cap : Nat) (ns : List T) (c : T) (w : World) (hn : n = ns.length) (hm : n ≤ 9223372036854775807) (hr : Rds w A (ns.map sv)) :
 Calls Tryz.prog 74 #[.slice A n cap, .string ⟨c.toArray⟩] w fun e w' => e = .returned (.int .i64 (if c ∈ ns then ((ns.idxOf c : Nat) : Int) else -1)) ∧ w = w' := by
 rcases hr with h0 | ⟨b, o, rfl, _, hc⟩
 · have h0' : ns = [] := by simpa using h0
   subst h0'; subst hn
   exact (Tryz.slices_Index_string_empty A cap ⟨c.toArray⟩ w).mono fun e w' ⟨h1, h2⟩ => ⟨h1, h2.symm⟩
 · refine (Tryz.slices_Index_string b o n cap (ns.map fun t => ⟨t.toArray⟩) ⟨c.toArray⟩ w (by simp; omega) hm (VQ hc)).mono fun e w' ⟨h1, h2⟩ => ⟨?_, h2.symm⟩
   rw [h1, List.take_of_length_le (by simp; omega), Zh5]
def zT (w : World) (base : Nat) (v : Value) (ns : List T) : Prop := w.ownsRow base 9 1 v ns.length (ns.map sv)
theorem zT.nil (w : World) (base : Nat) : zT w base (.slice none 0 0) [] := World.ownsRow_nil _ _ _ _
theorem zf9 (A : Option Addr) (n cap : Nat) (ns : List T) (w : World) (hn : n = ns.length) (hm : n ≤ 8796093022208) (hr : Rds w A (ns.map sv)) :
 Calls Tryz.prog 24 #[.slice A n cap] w fun e w' => ∃ v, e = .returned v ∧ zT w' w.heap.size v ns ∧ Below w.heap.size w w' := by
 rcases hr with h0 | ⟨b, o, rfl, _, hc⟩
 · have h0' : ns = [] := by simpa using h0
   subst h0'; subst hn
   cases A with
   | none => exact (Tryz.slices_Clone_string_nil 0 cap w).mono fun e w' ⟨h1, h2⟩ => ⟨_, h1, zT.nil _ _, by rw [h2]; exact Below.refl _ _⟩
   | some a => exact (Tryz.slices_Clone_string_zero a cap w).mono fun e w' ⟨v, h1, h2, _, h3⟩ => ⟨v, h1, h2, h3⟩
 · refine (Tryz.slices_Clone_string b o n cap (ns.map fun t => ⟨t.toArray⟩) w (by simp; omega) (by omega) (VQ hc)).mono fun e w' ⟨v, h1, h2, _, h3⟩ => ⟨v, h1, ?_, h3⟩
   rw [List.take_of_length_le (by simp; omega)] at h2
   unfold zT
   rw [← hn]
   have e : (ns.map fun t => (⟨t.toArray⟩ : ByteArray)).map Value.string = ns.map sv := by simp [sv]
   rw [← e]; exact h2
theorem Kw : Maps.Keyed Tryz.prog 9 := Maps.string_keyed Tryz.underlying9
theorem Zh0 (w : World) : (zeroValue 3).run Tryz.prog w = .ok (.int .i64 0) w := by kernel_rfl
def Us (w : World) (b : Nat) (f : T → Option Nat) : Prop :=
 ∃ (n : Nat) (D : DW), n ≤ 100000 ∧ w.ownsMap Tryz.prog 9 (plainElem Tryz.prog 3) b n D ∧ Maps.IsMap D ∧
   ∀ c, (f c = none → Maps.has D (.string c) = false) ∧ (∀ i : Nat, f c = some i → Maps.has D (.string c) = true ∧ D.atKey (.string c) (.lit (.int .i64 0)) = .lit (.int .i64 (i : Int)))
theorem jX {H : Type} {P : Program} {k : TypeId} {R : Value → Option (DataW H × List MemPlace)} {w w' : World} {b n : Nat} {D : DataW H} (h : w.ownsMap P k R b n D) (hb : w'.heap[b]? = w.heap[b]?) : w'.ownsMap P k R b n D := by
 obtain ⟨es, clock, h1, h2⟩ := h
 exact ⟨es, clock, hb.trans h1, h2⟩
theorem Us.lt {w : World} {b : Nat} {f : T → Option Nat} (h : Us w b f) : b < w.heap.size := by
 obtain ⟨n, D, _, h1, _⟩ := h
 exact h1.lt
theorem Us.block {w w' : World} {b : Nat} {f : T → Option Nat} (h : Us w b f) (hb : w'.heap[b]? = w.heap[b]?) : Us w' b f := by
 obtain ⟨n, D, h0, h1, h2⟩ := h
 exact ⟨n, D, h0, jX h1 hb, h2⟩
structure IsH (B : Nat) (w : World) (g : Nat) (h : Hr) : Prop where
 cells : ∃ (A : Option Addr) (n c mb : Nat), w.heap[g]? = some (.cells #[.slice A n c, .map (some mb)] 149 (0, 0)) ∧ n = h.names.length ∧ n ≤ c ∧ c ≤ maxLen ∧ Rds w A (h.names.map sv) ∧ (∀ a, A = some a → a.block < B) ∧ mb < B ∧ Us w mb h.above
 low : g < B
 inn : ∀ c i, h.above c = some i → i < h.names.length
 few : h.names.length ≤ 41
 long : ∀ c ∈ h.names, c.length ≤ 140737488355000
theorem IsH.below {B : Nat} {w w' : World} {g : Nat} {h : Hr} (H : IsH B w g h) (hb : Below B w w') : IsH B w' g h := by
 obtain ⟨⟨A, n, c, mb, h1, h2, h3, h4, h5, h6, h7, h8⟩, k2, k3, k4, k5⟩ := H
 exact ⟨⟨A, n, c, mb, (hb.block g k2).trans h1, h2, h3, h4, h5.gK hb h6, h6, h7, h8.block (hb.block mb h7)⟩, k2, k3, k4, k5⟩
theorem IsH.mono {B B' : Nat} {w : World} {g : Nat} {h : Hr} (H : IsH B w g h) (hb : B ≤ B') : IsH B' w g h := by
 obtain ⟨⟨A, n, c, mb, h1, h2, h3, h4, h5, h6, h7, h8⟩, k2, k3, k4, k5⟩ := H
 exact ⟨⟨A, n, c, mb, h1, h2, h3, h4, h5, fun a ha => Nat.lt_of_lt_of_le (h6 a ha) hb, Nat.lt_of_lt_of_le h7 hb, h8⟩, Nat.lt_of_lt_of_le k2 hb, k3, k4, k5⟩
theorem jT (B g : Nat) (h : Hr) (c : T) (w : World) (H : IsH B w g h) :
 Calls Tryz.prog 42 #[.pointer (some ⟨g, 0, none⟩), .string ⟨c.toArray⟩] w fun e w' => e = .returned (.bool (h.has c)) ∧ w = w' := by
 obtain ⟨A, n, cap, mb, h1, h2, h3, h4, h5, _⟩ := H.cells
 have hf := H.few
 have c0 : w.cell? ⟨g, 0, none⟩ = some (.slice A n cap) := cell_of_row _ _ _ _ _ (0, 0) h1
 have HC := zH (show Calls Tryz.prog 99 #[.slice A n cap, .string ⟨c.toArray⟩] w fun e w' => e = .returned (.bool (h.has c)) ∧ w = w' from Ud A n cap h.names c w h2 (by omega) h5)
 clear h1 h2 h3 h4 h5 H hf
 go_enter Tryz.func42, Tryz.ntmps42
 go_wp2_with (go_at_call 99; refine HC.out.mono ?_; rintro e w' ⟨rfl, rfl⟩)
 go_ret
 exact ⟨rfl, rfl⟩
def qy (h : Hr) (c : T) : T × Bool := match h.up c with | some u => (u, true) | none => ([], false)
set_option maxRecDepth 100000 in
theorem zh3 (B g : Nat) (h : Hr) (c : T) (w : World) (H : IsH B w g h) (hl : c.length ≤ 140737488355328) :
 Calls Tryz.prog 126 #[.pointer (some ⟨g, 0, none⟩), .string ⟨c.toArray⟩] w fun e w' => e = .returned (J7 (qy h c)) ∧ w = w' := by
 obtain ⟨A, n, cap, mb, h1, h2, h3, h4, h5, _, _, hM⟩ := H.cells
 obtain ⟨k, D, _, hown, _, hat⟩ := hM
 have c0 : w.cell? ⟨g, 0, none⟩ = some (.slice A n cap) := cell_of_row _ _ _ _ _ (0, 0) h1
 have c1 : w.cell? ⟨g, 1, none⟩ = some (.map (some mb)) := cell_of_row _ _ _ _ _ (0, 0) h1
 have hkey : keyOf Tryz.prog 9 (.string ⟨c.toArray⟩) = some (.string c) := Go.WideMaps.keyOf_string_mk Tryz.underlying9 (s := ⟨c.toArray⟩) (by show c.length ≤ maxLen; unfold maxLen; omega)
 have HO := zH hown
 have HK := zH hkey
 have inn := H.inn c
 have hfew := H.few
 clear hown hkey H h1 hl
 unfold qy Hr.up
 cases ha : h.above c with
 | none =>
   have hhas := (hat c).1 ha
   clear hat ha inn h2 h3 h4 hfew
   go_enter Tryz.func126, Tryz.ntmps126
   go_wp2_with (at_lookup; refine wpList_lookup_own_ok_int _ rfl _ _ 147 rfl 9 3 .i64 Kw Tryz.underlying147 Tryz.underlying3 (Zh0 _) mb k D rfl HO.out _ _ rfl HK.out ?_; intro c' hat' hwc)
   go_ret2
   exact ⟨rfl, rfl⟩
 | some i =>
   obtain ⟨hhas, hati⟩ := (hat c).2 i ha
   have hi := inn i ha
   clear hat ha inn
   have hg : h.names[i]? = some h.names[i] := List.getElem?_eq_getElem hi
   have hc := h5.at_ (k := i) (by simpa using hi)
   obtain ⟨b, o, rfl, _, hci⟩ := hc
   rw [List.getElem_map] at hci
   have hin : (i : Int) < (n : Int) := by omega
   have hn0 : (n : Int) ≤ 41 := by omega
   have HA := zH hati
   simp only [Option.bind_some, hg]
   generalize h.names[i] = u at *
   clear hati hg h5 hi h2 h3 h4 hfew
   unfold sv at hci
   go_enter Tryz.func126, Tryz.ntmps126
   go_wp2_with (at_lookup; refine wpList_lookup_own_ok_int _ rfl _ _ 147 rfl 9 3 .i64 Kw Tryz.underlying147 Tryz.underlying3 (Zh0 _) mb k D rfl HO.out _ _ rfl HK.out ?_; intro c' hat' hwc; obtain rfl : c' = (i : Int) := (by have := hat'.symm.trans HA.out; injection this with this; injection this); clear hat' hwc)
   go_ret2
   exact ⟨rfl, rfl⟩
theorem Xm : (Tryz.prog.info? 9).map (fun i => (i.zero, i.size, i.bytes)) = some (some (.string ⟨#[]⟩), 1, 16) := by kernel_rfl
theorem uN (ts : List T) : ∀ u ∈ ts.map sv, u.oneCell' = true := by
 intro u hu
 obtain ⟨t, _, rfl⟩ := List.mem_map.1 hu
 rfl
theorem UK {ops : Array Oper} {rest : List Oper} {o : Oper} {a : Act} {w : World} {Q : Exit → Act → World → Prop} (hgd : o.guard = none) (s x : Operand)
 (ho : o.op = .call { callee := .builtin .append, args := #[s, x], argTypes := #[25, 25] })
 (base : Nat) (v : Value) (p : List T) (hs : a.eval s = v) (hown : zT w base v p) (A : Option Addr) (m c : Nat) (l : List T) (hx : a.eval x = .slice A m c)
 (hm : m = l.length) (hr : Rds w A (l.map sv)) (hlen : p.length + l.length ≤ 1048576) (hbase : base ≤ w.heap.size)
 (h : ∀ v' w', zT w' base v' (p ++ l) → w.grownBy w' v.ownBlock → wpList Tryz.prog ops Q rest (a.put o.dst v') w') : wpList Tryz.prog ops Q (o :: rest) a w := by
 obtain ⟨i0, hi, hz, hs1, hb1⟩ := info_parts Xm
 refine Zk hgd s x 25 ho base 9 i0 _ 16 Tryz.underlying25 hi hz hs1 hb1 rfl v p.length (p.map sv) hs hown A m c (l.map sv) hx (by rw [List.length_map, hm]) hr (uN l) (by unfold maxLen; omega) (by omega) hbase ?_
 intro v' w' h1 h2
 refine h v' w' ?_ h2
 unfold zT
 rw [List.map_append, List.length_append, ← hm]
 exact h1
theorem zT.slice {w : World} {base : Nat} {v : Value} {p : List T} (h : zT w base v p) :
 ∃ A c, v = .slice A p.length c ∧ p.length ≤ c ∧ c ≤ maxLen ∧ Rds w A (p.map sv) ∧ ∀ a, A = some a → base ≤ a.block ∧ a.block < w.heap.size := by
 obtain ⟨A, c, rfl, h1, h2, h3, _⟩ := zS h
 exact ⟨A, c, rfl, h1, h2, Rds.own h, fun a ha => ⟨(h3 a ha).1, (h3 a ha).2.1⟩⟩
theorem zT.one (w : World) (c : T) : zT (w.alloc (.cells #[sv c] 9)) w.heap.size (.slice (some ⟨w.heap.size, 0, none⟩) 1 1) [c] :=
 World.ownsRow_lit w #[sv c] 1 (Nat.le_refl _) (by unfold maxLen; omega) rfl
end HierM
namespace HierC
open Go.RowKit BinM Base DescM DescW DescX HierS HierT HierM
open BinName (ze)
def Zc0 : Value → Nat | .slice _ n _ => n | _ => 0
theorem Va (B g : Nat) (h : Hr) (c : T) (o : T × Bool) (w : World) (H : IsH B w g h) (hl : c.length ≤ 140737488355328) (ho : qy h c = o) :
 Calls Tryz.prog 126 #[.pointer (some ⟨g, 0, none⟩), .string ⟨c.toArray⟩] w fun e w' => e = .returned (.tuple #[.string ⟨o.1.toArray⟩, .bool o.2]) ∧ w = w' := by
 subst ho
 exact zh3 B g h c w H hl
def Next (h : Hr) (o : T × Bool) (rest : List T) : Prop := (o.2 = true → Zz h.up o.1 rest) ∧ (o.2 = false → rest = [])
theorem XE {h : Hr} {u : T} {t : List T} (hw : Zz h.up u (u :: t)) : Next h (qy h u) t := by
 unfold qy Next
 cases hw with
 | top hu => rw [hu]; simp
 | step hu hw => rw [hu]; simp [hw]
def Zq2 (w : World) (h : Hr) (c : T) (ch u ok : Value) (wr : World) : Prop :=
 ∃ (p rest : List T) (o : T × Bool), zT wr w.heap.size ch p ∧ h.chain c = p ++ rest ∧ u = .string ⟨o.1.toArray⟩ ∧ ok = .bool o.2 ∧ Next h o rest ∧ Below w.heap.size w wr
set_option maxRecDepth 100000 in
set_option maxHeartbeats 2000000 in
theorem zl8 (B g : Nat) (h : Hr) (c : T) (w : World) (H : IsH B w g h) (hB : B ≤ w.heap.size) (hg : yE h) (hl : c.length ≤ 140737488355328) :
 Calls Tryz.prog 184 #[.pointer (some ⟨g, 0, none⟩), .string ⟨c.toArray⟩] w fun e w' => ∃ v, e = .returned v ∧ zT w' w.heap.size v (h.chain c) ∧ Below w.heap.size w w' := by
 have HH := zH (fun (wr : World) (hb : Below w.heap.size w wr) => (H.mono hB).below hb)
 have hfew := H.few
 have Hlong := zH H.long
 have HIn := zH (fun d (hd : d ∈ h.chain c) => zv4 hg hd)
 have hlen := jA hg c
 by_cases hc : c ∈ h.names
 · have hw := Jt hg hc
   obtain ⟨t, ht⟩ := hw.head
   have hn := XE (ht ▸ hw)
   have Hhas := zH (XG.2 hc)
   have hct : h.chain c = [c] ++ t := ht
   have Hct := zH hct
   have Hcl := zH hl
   generalize hS : qy h c = S at *
   have HS := zH hS
   have HN := zH hn
   have Hlen := zH hlen
   have h0 := zH (Below.refl w.heap.size w)
   clear hw ht hn hS hct hc H hB hg hl hlen
   go_enter Tryz.func184, Tryz.ntmps184
   go_wp2_with (first
    | (go_at_call 42; refine (jT _ g h c _ (HH.out _ h0.out)).mono ?_; rw [Hhas.out]; rintro e w' ⟨rfl, rfl⟩)
    | (go_at_call 126; refine (Va _ g h c S _ (HH.out _ (h0.out.alloc (Nat.le_refl _) _)) Hcl.out HS.out).mono ?_; rintro e w' ⟨rfl, rfl⟩))
   go_loopw [5, 6, 7] (fun ch u ok wr => Zq2 w h c ch u ok wr) (fun ch _ _ _ => 41 - Zc0 ch)
   case atStart => exact ⟨[c], t, S, zT.one w c, Hct.out, rfl, rfl, HN.out, h0.out.alloc (Nat.le_refl _) _⟩
   case round =>
    obtain ⟨p, rest, o, hown, hch, rfl, rfl, hnx, hbel⟩ := hrel
    obtain ⟨A, cc, rfl, hp1, hp2, hrd, _⟩ := hown.slice
    have Hown := zH hown
    have Hbel := zH hbel
    have hsz := hbel.size
    obtain ⟨u, ok⟩ := o
    have Hch := zH hch
    clear hown hbel hrd hp1 hp2 hch
    cases ok
    · have e := hnx.2 rfl
      subst e
      have Hfin := zH (show h.chain c = p by rw [Hch.out]; simp)
      clear hnx
      go_wp2_with fail
      go_ret
      exact ⟨_, rfl, by rw [Hfin.out]; exact Hown.out, Hbel.out⟩
    · have hwu := hnx.1 rfl
      obtain ⟨t, rfl⟩ := hwu.head
      have hN := zH (XE hwu)
      have Hul := zH (show u.length ≤ 140737488355328 by have := Hlong.out u (HIn.out u (by rw [Hch.out]; simp)); omega)
      have hpl : p.length + 1 ≤ 41 := by
       have := Hlen.out
       rw [Hch.out] at this
       simp at this
       omega
      have Hch2 := zH (show h.chain c = (p ++ [u]) ++ t by rw [Hch.out]; simp)
      generalize hS2 : qy h u = S2 at *
      have HS2 := zH hS2
      clear hS2 hnx hwu
      go_wp2_with (first
       | (go_at_call 126; refine (Va _ g h u S2 _ (HH.out _ Hb2.out) Hul.out HS2.out).mono ?_; rintro e w' ⟨rfl, rfl⟩)
       | (at_builtin
          refine UK rfl (.tmp 27) (.tmp 29) rfl w.heap.size _ p rfl (Hown.out.alloc _) (some ⟨wr.heap.size, 0, none⟩) 1 1 [u] rfl rfl (zB _ #[sv u] 9) (by simp; omega) (by simp; omega) ?_
          intro v2 w2 hown2 hg2
          have Hb2 := zH (zV (Hbel.out.alloc hsz _) (Hown.out.alloc _) (Nat.le_refl _) (by simp; omega) hg2)
          have Hown2 := zH hown2
          clear hown2 hg2))
      go_roundw
      case rel => exact ⟨p ++ [u], t, S2, Hown2.out, Hch2.out, rfl, rfl, hN.out, Hb2.out⟩
      case measure =>
       obtain ⟨A2, c2, rfl, _⟩ := Hown2.out.slice
       simp [Zc0]; omega
 · have Hhas := zH (show h.has c = false by simpa [Hr.has] using hc)
   have Hno := zH (xu hc)
   have h0 := zH (Below.refl w.heap.size w)
   clear H hB hg hl hlen hc
   go_enter Tryz.func184, Tryz.ntmps184
   go_wp2_with (go_at_call 42; refine (jT _ g h c _ (HH.out _ h0.out)).mono ?_; rw [Hhas.out]; rintro e w' ⟨rfl, rfl⟩)
   go_ret
   exact ⟨_, rfl, by rw [Hno.out]; exact zT.nil _ _, h0.out⟩
theorem zg6 (B g : Nat) (h : Hr) (a b : T) (w : World) (H : IsH B w g h) (hB : B ≤ w.heap.size) (hg : yE h) (hl : a.length ≤ 140737488355328) :
 Calls Tryz.prog 148 #[.pointer (some ⟨g, 0, none⟩), .string ⟨a.toArray⟩, .string ⟨b.toArray⟩] w fun e w' => e = .returned (.bool (h.under a b)) ∧ Below w.heap.size w w' := by
 have HC := zH (zl8 B g h a w H hB hg hl)
 have hlen := jA hg a
 have hfew := H.few
 clear H hB hg hl
 go_enter Tryz.func148, Tryz.ntmps148
 go_wp2_with fail
 refine Calls.mono HC.out ?_
 rintro e w1 ⟨v, rfl, hown, hb⟩
 obtain ⟨A, c, rfl, _, _, hr, _⟩ := hown.slice
 have HB := zH hb
 have HK := zH (show Calls Tryz.prog 99 #[.slice A (h.chain a).length c, .string ⟨b.toArray⟩] w1 fun e w' => e = .returned (.bool (h.under a b)) ∧ w1 = w' from Ud A _ c (h.chain a) b w1 rfl (by omega) hr)
 clear hown hb hr
 go_wp2_with fail
 refine Calls.mono HK.out ?_
 rintro e w2 ⟨rfl, rfl⟩
 go_wp2_with fail
 go_ret
 exact ⟨rfl, HB.out⟩
end HierC
namespace HierD
open Go.RowKit BinM Base DescM DescW DescX HierS HierT HierM HierC
open BinName (ze)
theorem VP (l : T) (o : T × Bool) (w : World) (hl : l.length ≤ 140737488355328) (ho : zq l = o) :
 Calls Tryz.prog 108 #[.string ⟨l.toArray⟩] w fun e w' => e = .returned (.tuple #[.string ⟨o.1.toArray⟩, .bool o.2]) ∧ w = w' := by
 subst ho
 exact xX l w hl
theorem Zl1 (w : World) :
 Calls Tryz.prog 111 #[.string ⟨#[79, 98, 106, 101, 99, 116]⟩] w fun e w' => e = .returned (.string ⟨(ofT Zc).toArray⟩) ∧ w = w' := Yg Zc w (by decide)
set_option maxRecDepth 100000 in
set_option maxHeartbeats 1000000 in
theorem Q0 (B g : Nat) (h : Hr) (d : T) (w : World) (H : IsH B w g h) (hl : d.length ≤ 140737488355328) :
 Calls Tryz.prog 86 #[.pointer (some ⟨g, 0, none⟩), .string ⟨d.toArray⟩] w fun e w' => e = .returned (.bool (h.known d)) ∧ w = w' := by
 have HR0 := zH (ZG d w hl)
 cases hR : zI d
 · have Hfin := zH (show h.known d = false by unfold Hr.known; rw [hR]; rfl)
   rw [hR] at HR0
   clear hR hl H
   go_enter Tryz.func86, Tryz.ntmps86
   go_wp2_with (go_at_call 133; refine HR0.out.mono ?_; rintro e w' ⟨rfl, rfl⟩)
   go_ret
   exact ⟨ze (by rw [Hfin.out]), rfl⟩
 · rw [hR] at HR0
   have hdl : (d.drop (brk d)).length ≤ 140737488355328 := by rw [List.length_drop]; omega
   have HC := zH (VP (d.drop (brk d)) _ w hdl rfl)
   have Hfin := zH (show h.known d = (!(zq (d.drop (brk d))).2 || h.has (zq (d.drop (brk d))).1) by unfold Hr.known; rw [hR]; rfl)
   have HH := zH (fun c => jT B g h c w H)
   have HT := zH (Tryz.strings_TrimLeft_one ⟨d.toArray⟩ 91 (by decide) w)
   clear hR hl H hdl
   generalize zq (d.drop (brk d)) = C at *
   obtain ⟨c, ok⟩ := C
   simp only at Hfin HC
   have HD := zH (XM d)
   go_enter Tryz.func86, Tryz.ntmps86
   go_wp2_with (go_at_call 133; refine HR0.out.mono ?_; rintro e w' ⟨rfl, rfl⟩)
   refine HT.out.mono ?_
   rintro e w' ⟨rfl, rfl⟩
   simp only [HD.out]
   cases ok
   · go_wp2_with (go_at_call 108; refine HC.out.mono ?_; rintro e w' ⟨rfl, rfl⟩)
     go_ret
     exact ⟨ze (by rw [Hfin.out]; rfl), rfl⟩
   · go_wp2_with (first | (go_at_call 108; refine HC.out.mono ?_; rintro e w' ⟨rfl, rfl⟩) | (go_at_call 42; refine (HH.out c).mono ?_; rintro e w' ⟨rfl, rfl⟩))
     go_ret
     exact ⟨ze (by rw [Hfin.out]; rfl), rfl⟩
theorem zd8 (B g : Nat) (h : Hr) (d : T) (w : World) (H : IsH B w g h) (hl : d.length ≤ 140737488355328) :
 Calls Tryz.prog 147 #[.pointer (some ⟨g, 0, none⟩), .string ⟨d.toArray⟩] w fun e w' => e = .returned (.bool (h.kon d)) ∧ w = w' := by
 have HK := zH (Q0 B g h d w H hl)
 cases hK : h.known d
 · rw [hK] at HK
   cases hN : d == [78]
   all_goals
    have Hfin := zH (show h.kon d = _ by unfold Hr.kon; rw [hK, hN])
    clear hK hl H
    go_enter Tryz.func147, Tryz.ntmps147
    go_wp2_with (go_at_call 86; refine HK.out.mono ?_; rintro e w' ⟨rfl, rfl⟩)
    go_ret
    exact ⟨ze (by rw [Hfin.out]; rfl), rfl⟩
 · rw [hK] at HK
   have Hfin := zH (show h.kon d = true by unfold Hr.kon; rw [hK]; rfl)
   clear hK hl H
   go_enter Tryz.func147, Tryz.ntmps147
   go_wp2_with (go_at_call 86; refine HK.out.mono ?_; rintro e w' ⟨rfl, rfl⟩)
   go_ret
   exact ⟨ze (by rw [Hfin.out]), rfl⟩
set_option maxRecDepth 100000 in
set_option maxHeartbeats 4000000 in
theorem zb2 (B g : Nat) (h : Hr) (a b : T) (w : World) (H : IsH B w g h) (hB : B ≤ w.heap.size) (hg : yE h) (ha : a.length ≤ 140737488355328) (hb : b.length ≤ 140737488355328) :
 Calls Tryz.prog 100 #[.pointer (some ⟨g, 0, none⟩), .string ⟨a.toArray⟩, .string ⟨b.toArray⟩] w fun e w' => e = .returned (.bool (h.sub a b)) ∧ Below w.heap.size w w' := by
 have HKa := zH (zd8 B g h a w H ha)
 have HKb := zH (zd8 B g h b w H hb)
 have h0 := zH (Below.refl w.heap.size w)
 cases hA : h.kon a
 · rw [hA] at HKa
   have Hfin := zH (show h.sub a b = false by unfold Hr.sub; rw [hA]; rfl)
   clear hA ha hb H hB hg
   go_enter Tryz.func100, Tryz.ntmps100
   go_wp2_with (go_at_call 147; refine HKa.out.mono ?_; rintro e w' ⟨rfl, rfl⟩)
   go_ret
   exact ⟨ze (by rw [Hfin.out]), h0.out⟩
 · rw [hA] at HKa
   cases hBb : h.kon b
   · rw [hBb] at HKb
     have Hfin := zH (show h.sub a b = false by unfold Hr.sub; rw [hA, hBb]; rfl)
     clear hA hBb ha hb H hB hg
     go_enter Tryz.func100, Tryz.ntmps100
     go_wp2_with fail
     refine HKa.out.mono ?_; rintro e w' ⟨rfl, rfl⟩
     go_wp2_with fail
     refine HKb.out.mono ?_; rintro e w' ⟨rfl, rfl⟩
     go_wp2_with fail
     go_ret
     exact ⟨ze (by rw [Hfin.out]), h0.out⟩
   · rw [hBb] at HKb
     have Hsub := zH (show h.sub a b = (a == b || h.step a b) by unfold Hr.sub; rw [hA, hBb]; rfl)
     cases hE : a == b
     · have Hsub2 := zH (show h.sub a b = h.step a b by rw [Hsub.out, hE]; rfl)
       have HRa := zH (yK a w ha)
       have HRb := zH (yK b w hb)
       have HCa := zH (VP a _ w ha rfl)
       have HCb := zH (VP b _ w hb rfl)
       have HU := zH (fun hl => zg6 B g h (zq a).1 (zq b).1 w H hB hg hl)
       have HUl := zH (show (zq a).1.length ≤ 140737488355328 by unfold zq; split; simp; omega; simp)
       have HO := zH (Zl1 w)
       clear hA hBb ha hb H hB hg
       cases hN : a == [78]
       · cases hO : b == ofT Zc
         · have Hst := zH (show h.step a b = h.cls a b by unfold Hr.step; rw [hN, hO]; rfl)
           have Hcl := zH (show h.cls a b = ((zq a).2 && (zq b).2 && h.under (zq a).1 (zq b).1) from rfl)
           generalize zq a = CA at *
           generalize zq b = CB at *
           obtain ⟨ca, oa⟩ := CA
           obtain ⟨cb, ob⟩ := CB
           simp only at HCa HCb HU HUl Hcl
           cases oa
           · have Hfin := zH (show h.sub a b = false by rw [Hsub2.out, Hst.out, Hcl.out]; rfl)
             go_enter Tryz.func100, Tryz.ntmps100
             go_wp2_with fail
             refine HKa.out.mono ?_; rintro e w' ⟨rfl, rfl⟩
             go_wp2_with fail
             refine HKb.out.mono ?_; rintro e w' ⟨rfl, rfl⟩
             go_wp2_with fail
             refine HO.out.mono ?_; rintro e w' ⟨rfl, rfl⟩
             go_wp2_with fail
             refine HCa.out.mono ?_; rintro e w' ⟨rfl, rfl⟩
             go_wp2_with fail
             refine HCb.out.mono ?_; rintro e w' ⟨rfl, rfl⟩
             go_wp2_with fail
             go_ret
             exact ⟨ze (by rw [Hfin.out]), h0.out⟩
           · cases ob
             · have Hfin := zH (show h.sub a b = false by rw [Hsub2.out, Hst.out, Hcl.out]; rfl)
               go_enter Tryz.func100, Tryz.ntmps100
               go_wp2_with fail
               refine HKa.out.mono ?_; rintro e w' ⟨rfl, rfl⟩
               go_wp2_with fail
               refine HKb.out.mono ?_; rintro e w' ⟨rfl, rfl⟩
               go_wp2_with fail
               refine HO.out.mono ?_; rintro e w' ⟨rfl, rfl⟩
               go_wp2_with fail
               refine HCa.out.mono ?_; rintro e w' ⟨rfl, rfl⟩
               go_wp2_with fail
               refine HCb.out.mono ?_; rintro e w' ⟨rfl, rfl⟩
               go_wp2_with fail
               go_ret
               exact ⟨ze (by rw [Hfin.out]), h0.out⟩
             · have Hfin := zH (show h.sub a b = h.under ca cb by rw [Hsub2.out, Hst.out, Hcl.out]; rfl)
               go_enter Tryz.func100, Tryz.ntmps100
               go_wp2_with fail
               refine HKa.out.mono ?_; rintro e w' ⟨rfl, rfl⟩
               go_wp2_with fail
               refine HKb.out.mono ?_; rintro e w' ⟨rfl, rfl⟩
               go_wp2_with fail
               refine HO.out.mono ?_; rintro e w' ⟨rfl, rfl⟩
               go_wp2_with fail
               refine HCa.out.mono ?_; rintro e w' ⟨rfl, rfl⟩
               go_wp2_with fail
               refine HCb.out.mono ?_; rintro e w' ⟨rfl, rfl⟩
               go_wp2_with fail
               refine (HU.out HUl.out).mono ?_; rintro e w' ⟨rfl, hb2⟩
               go_wp2_with fail
               go_ret
               exact ⟨ze (by rw [Hfin.out]), hb2⟩
         · have Hst := zH (show h.step a b = (Zr a && Zr b) by unfold Hr.step; rw [hN, hO]; rfl)
           generalize Zr b = rb at *
           cases hRa : Zr a
           all_goals
            rw [hRa] at HRa
            have Hfin := zH (show h.sub a b = _ by rw [Hsub2.out, Hst.out, hRa])
            clear hRa
            go_enter Tryz.func100, Tryz.ntmps100
            go_wp2_with fail
            refine HKa.out.mono ?_; rintro e w' ⟨rfl, rfl⟩
            go_wp2_with fail
            refine HKb.out.mono ?_; rintro e w' ⟨rfl, rfl⟩
            go_wp2_with fail
            refine HO.out.mono ?_; rintro e w' ⟨rfl, rfl⟩
            go_wp2_with fail
            refine HRa.out.mono ?_; rintro e w' ⟨rfl, rfl⟩
            go_wp2_with (go_at_call 105; refine HRb.out.mono ?_; rintro e w' ⟨rfl, rfl⟩)
            go_ret
            exact ⟨ze (by rw [Hfin.out]; rfl), h0.out⟩
       · have Hst := zH (show h.step a b = (Zr a && Zr b) by unfold Hr.step; rw [hN]; rfl)
         generalize Zr b = rb at *
         cases hRa : Zr a
         all_goals
          rw [hRa] at HRa
          have Hfin := zH (show h.sub a b = _ by rw [Hsub2.out, Hst.out, hRa])
          clear hRa
          go_enter Tryz.func100, Tryz.ntmps100
          go_wp2_with fail
          refine HKa.out.mono ?_; rintro e w' ⟨rfl, rfl⟩
          go_wp2_with fail
          refine HKb.out.mono ?_; rintro e w' ⟨rfl, rfl⟩
          go_wp2_with fail
          refine HRa.out.mono ?_; rintro e w' ⟨rfl, rfl⟩
          go_wp2_with (go_at_call 105; refine HRb.out.mono ?_; rintro e w' ⟨rfl, rfl⟩)
          go_ret
          exact ⟨ze (by rw [Hfin.out]; rfl), h0.out⟩
     · have Hfin := zH (show h.sub a b = true by rw [Hsub.out, hE]; rfl)
       clear hA hBb ha hb H hB hg
       go_enter Tryz.func100, Tryz.ntmps100
       go_wp2_with fail
       refine HKa.out.mono ?_; rintro e w' ⟨rfl, rfl⟩
       go_wp2_with fail
       refine HKb.out.mono ?_; rintro e w' ⟨rfl, rfl⟩
       go_wp2_with fail
       go_ret
       exact ⟨ze (by rw [Hfin.out]), h0.out⟩
end HierD
end Go.Proofs.YtehainbhoflpnaaGreatDoor
