/-
  Classes above each other: plain facts on ways up, no program is loaded here.
  Classes above each other, and which types stand for which: plain facts, no walk.
  How a hierarchy lies in memory, and what its smallest calls return.
  What the calls of a hierarchy return: Chain, under, Known, Sub, loops.
  What the calls of a hierarchy return: Known, Sub.
-/
import Derived.Test.YtehainbhoflpnaaGreatDoorG1
import Derived.Test.YtehainbhoflpnaaGreatDoorG3
import Derived.Test.YtehainbhoflpnaaGreatDoorG2
import Derived.Maps.OwnSet
import Derived.Outline
import Derived.Deep.QuietTactic
import Derived.BigQuiet
namespace Go.Proofs.YtehainbhoflpnaaGreatDoor
namespace HierS

abbrev T := List UInt8

/-- from a class up to one that has none above it -/
inductive WayUp (up : T → Option T) : T → List T → Prop
  | top {c : T} : up c = none → WayUp up c [c]
  | step {c d : T} {l : List T} : up c = some d → WayUp up d l → WayUp up c (c :: l)

section
variable {up : T → Option T}

theorem WayUp.head {c : T} {l : List T} (h : WayUp up c l) : ∃ t, l = c :: t := by
  cases h
  · exact ⟨_, rfl⟩
  · exact ⟨_, rfl⟩
theorem WayUp.det {c : T} {l : List T} (h : WayUp up c l) : ∀ {m : List T}, WayUp up c m → l = m := by
  induction h with
  | top h => intro m hm; cases hm with
    | top => rfl
    | step h2 => rw [h] at h2; cases h2
  | step h _ ih => intro m hm; cases hm with
    | top h2 => rw [h] at h2; cases h2
    | step h2 h3 => rw [h] at h2; cases h2; rw [ih h3]
/-- what stands on the way up has the rest as its own way -/
theorem WayUp.rest {c : T} {l : List T} (h : WayUp up c l) : ∀ {p s : List T} {d : T}, l = p ++ d :: s → WayUp up d (d :: s) := by
  induction h with
  | @top c h =>
    intro p s d e
    cases p with
    | nil => simp at e; obtain ⟨rfl, rfl⟩ := e; exact .top h
    | cons a p => simp at e
  | @step c d' l h h2 ih =>
    intro p s d e
    cases p with
    | nil => simp at e; obtain ⟨rfl, rfl⟩ := e; exact .step h h2
    | cons a p => simp at e; exact ih e.2
theorem WayUp.split {c d : T} {l : List T} (h : WayUp up c l) (hd : d ∈ l) : ∃ p s, l = p ++ d :: s ∧ WayUp up d (d :: s) := by
  obtain ⟨p, s, e⟩ := List.append_of_mem hd
  exact ⟨p, s, e, h.rest e⟩
theorem WayUp.trans {x y z : T} {l m : List T} (h : WayUp up x l) (hy : y ∈ l) (h2 : WayUp up y m) (hz : z ∈ m) : z ∈ l := by
  obtain ⟨p, s, e, h3⟩ := h.split hy
  rw [h2.det h3] at hz
  rw [e]; exact List.mem_append_right _ hz
/-- so many steps up -/
def iter (up : T → Option T) : Nat → Option T → Option T
  | 0, o => o
  | _ + 1, none => none
  | k + 1, some c => iter up k (up c)
theorem iter_none : ∀ k, iter up k none = none
  | 0 => rfl
  | _ + 1 => rfl
theorem iter_succ : ∀ (k : Nat) (o : Option T) (c : T), iter up k o = some c → iter up (k + 1) o = up c
  | 0, o, c, h => by
    change o = some c at h
    subst h; rfl
  | k + 1, none, c, h => by cases h
  | k + 1, some u, c, h => by
    change iter up k (up u) = some c at h
    exact iter_succ k (up u) c h
/-- does one come, within so many steps, to a class? -/
def loopF (up : T → Option T) : Nat → Option T → T → Bool
  | 0, _, _ => false
  | _ + 1, none, _ => false
  | k + 1, some u, c => u == c || loopF up k (up u) c
theorem loop_true : ∀ (N k : Nat) (o : Option T) (c : T), iter up k o = some c → k < N → loopF up N o c = true
  | 0, k, _, _, _, h => absurd h (by omega)
  | N + 1, k, none, c, h, _ => by rw [iter_none] at h; cases h
  | N + 1, 0, some u, c, h, _ => by
    change some u = some c at h
    cases h; simp [loopF]
  | N + 1, k + 1, some u, c, h, hk => by
    change iter up k (up u) = some c at h
    have := loop_true N k (up u) c h (by omega)
    simp [loopF, this]
theorem nodup_le : ∀ (v names : List T), v.Nodup → (∀ x ∈ v, x ∈ names) → v.length ≤ names.length
  | [], _, _, _ => by simp
  | a :: t, names, hn, hs => by
    rw [List.nodup_cons] at hn
    have h := nodup_le t (names.erase a) hn.2 (fun x hx => (List.mem_erase_of_ne (by rintro rfl; exact hn.1 hx)).2 (hs x (by simp [hx])))
    have h2 := List.length_erase_of_mem (hs a (by simp))
    have h3 : 0 < names.length := List.length_pos_of_mem (hs a (by simp))
    simp only [List.length_cons]
    omega
theorem way_aux (names : List T) (hup : ∀ c ∈ names, ∀ d, up c = some d → d ∈ names) (hl : ∀ c ∈ names, loopF up names.length (up c) c = false) :
    ∀ (n : Nat) (v : List T) (c : T), v.Nodup → (∀ x ∈ v, x ∈ names) → c ∈ names → c ∉ v → (∀ e ∈ v, ∃ k, k + 1 ≤ v.length ∧ iter up k (up e) = some c) → n + v.length = names.length → ∃ l, WayUp up c l ∧ l.length ≤ n
  | 0, v, c, hv, hs, hc, hcv, _, hn => by
    have := nodup_le (c :: v) names (List.nodup_cons.2 ⟨hcv, hv⟩) (by intro x hx; rcases List.mem_cons.1 hx with rfl | hx; exact hc; exact hs x hx)
    simp at this; omega
  | n + 1, v, c, hv, hs, hc, hcv, he, hn => by
    cases hu : up c with
    | none => exact ⟨[c], .top hu, by simp⟩
    | some d =>
      have hd := hup c hc d hu
      by_cases h1 : d = c
      · subst h1
        have := loop_true (up := up) names.length 0 (up d) d hu (by omega)
        rw [hl d hd] at this; cases this
      · by_cases h2 : d ∈ v
        · obtain ⟨k, hk, hi⟩ := he d h2
          have := loop_true (up := up) names.length (k + 1) (up d) d (by rw [iter_succ k _ c hi]; exact hu) (by omega)
          rw [hl d hd] at this; cases this
        · obtain ⟨l, hw, hlen⟩ := way_aux names hup hl n (c :: v) d (List.nodup_cons.2 ⟨hcv, hv⟩) (by intro x hx; rcases List.mem_cons.1 hx with rfl | hx; exact hc; exact hs x hx) hd
            (by intro h; rcases List.mem_cons.1 h with h | h; exact h1 h; exact h2 h)
            (by intro e he'
                rcases List.mem_cons.1 he' with rfl | h
                · exact ⟨0, by simp, hu⟩
                · obtain ⟨k, hk, hi⟩ := he e h
                  exact ⟨k + 1, by simp; omega, by rw [iter_succ k _ c hi]; exact hu⟩) (by simp; omega)
          exact ⟨c :: l, .step hu hw, by simp; omega⟩
/-- if no class is above itself, each has its way up -/
theorem way_of (names : List T) (hup : ∀ c ∈ names, ∀ d, up c = some d → d ∈ names) (hl : ∀ c ∈ names, loopF up names.length (up c) c = false) {c : T} (hc : c ∈ names) : ∃ l, WayUp up c l ∧ l.length ≤ names.length :=
  way_aux names hup hl names.length [] c List.nodup_nil (by simp) hc (by simp) (by simp) (by simp)

/-- the way up, of at most so many -/
def climb (up : T → Option T) : Nat → Option T → List T
  | 0, _ => []
  | _ + 1, none => []
  | f + 1, some c => c :: climb up f (up c)
theorem climb_way {c : T} {l : List T} (h : WayUp up c l) : ∀ f, l.length ≤ f → climb up f (some c) = l := by
  induction h with
  | @top c h =>
    intro f hf
    cases f with
    | zero => simp at hf
    | succ f => simp only [climb, h]; cases f <;> rfl
  | @step c d l h _ ih =>
    intro f hf
    cases f with
    | zero => simp at hf
    | succ f => simp only [climb, h]; rw [ih f (by simpa using hf)]
theorem way_in {c : T} {l names : List T} (h : WayUp up c l) (hup : ∀ c ∈ names, ∀ d, up c = some d → d ∈ names) (hc : c ∈ names) : ∀ d ∈ l, d ∈ names := by
  induction h with
  | top _ => intro d hd; simp at hd; subst hd; exact hc
  | @step c d l h _ ih => intro e he; rcases List.mem_cons.1 he with rfl | he; exact hc; exact ih (hup _ hc _ h) e he
end
end HierS
end Go.Proofs.YtehainbhoflpnaaGreatDoor

namespace Go.Proofs.YtehainbhoflpnaaGreatDoor
namespace HierT
open BinM DescM DescX HierS

/-- "Object" -/
def objN : T := [79, 98, 106, 101, 99, 116]
def excN : T := [69, 120, 99]
def nilN : T := [78, 117, 108, 108, 69, 120, 99]
def castN : T := [67, 97, 115, 116, 69, 120, 99]
def indexN : T := [73, 110, 100, 101, 120, 69, 120, 99]
def divN : T := [68, 105, 118, 69, 120, 99]
def deepN : T := [83, 116, 97, 99, 107, 69, 120, 99]
def memN : T := [77, 101, 109, 69, 120, 99]
def lockN : T := [76, 111, 99, 107, 69, 120, 99]
abbrev P2 := T × T
def alw : List P2 := [(excN, objN), (nilN, excN), (castN, excN), (indexN, excN), (divN, excN), (deepN, excN), (memN, excN), (lockN, excN)]

structure Hr where
  names : List T
  above : T → Option Nat
def Hr.has (h : Hr) (c : T) : Bool := h.names.contains c
def Hr.up (h : Hr) (c : T) : Option T := (h.above c).bind fun i => h.names[i]?
def Hr.chain (h : Hr) (c : T) : List T := if h.has c then climb h.up h.names.length (some c) else []
def Hr.under (h : Hr) (low high : T) : Bool := (h.chain low).contains high
def Hr.below (h : Hr) (c : T) : List T := h.names.filter fun n => h.under n c
def Hr.known (h : Hr) (d : T) : Bool := rightB d && (!(classT (d.drop (brk d))).2 || h.has (classT (d.drop (brk d))).1)
def Hr.kon (h : Hr) (d : T) : Bool := h.known d || d == [78]
def Hr.cls (h : Hr) (a b : T) : Bool := (classT a).2 && (classT b).2 && h.under (classT a).1 (classT b).1
def Hr.step (h : Hr) (a b : T) : Bool := if a == [78] || b == ofT objN then refB a && refB b else h.cls a b
def Hr.sub (h : Hr) (a b : T) : Bool := h.kon a && h.kon b && (a == b || h.step a b)
structure GoodH (h : Hr) : Prop where
  obj : objN ∈ h.names
  top : ∀ c ∈ h.names, h.up c = none → c = objN
  root : h.up objN = none
  ways : ∀ c ∈ h.names, ∃ l, WayUp h.up c l ∧ l.length ≤ h.names.length

theorem up_in {h : Hr} {c d : T} (hu : h.up c = some d) : d ∈ h.names := by
  unfold Hr.up at hu
  cases ha : h.above c with
  | none => rw [ha] at hu; cases hu
  | some i =>
    rw [ha] at hu
    change h.names[i]? = some d at hu
    obtain ⟨hi, e⟩ := List.getElem?_eq_some_iff.1 hu
    rw [← e]; exact List.getElem_mem hi
theorem has_iff {h : Hr} {c : T} : h.has c = true ↔ c ∈ h.names := by unfold Hr.has; simp
theorem chain_way {h : Hr} (g : GoodH h) {c : T} (hc : c ∈ h.names) : WayUp h.up c (h.chain c) := by
  obtain ⟨l, hw, hl⟩ := g.ways c hc
  unfold Hr.chain
  rw [if_pos (has_iff.2 hc), climb_way hw _ hl]
  exact hw
theorem chain_no {h : Hr} {c : T} (hc : c ∉ h.names) : h.chain c = [] := by
  unfold Hr.chain
  rw [if_neg (fun e => hc (has_iff.1 e))]
theorem chain_len {h : Hr} (g : GoodH h) (c : T) : (h.chain c).length ≤ h.names.length := by
  by_cases hc : c ∈ h.names
  · obtain ⟨l, hw, hl⟩ := g.ways c hc
    rw [(chain_way g hc).det hw]; exact hl
  · rw [chain_no hc]; simp
theorem chain_in {h : Hr} (g : GoodH h) {c d : T} (hd : d ∈ h.chain c) : d ∈ h.names := by
  by_cases hc : c ∈ h.names
  · exact way_in (chain_way g hc) (fun _ _ _ hu => up_in hu) hc d hd
  · rw [chain_no hc] at hd; cases hd
theorem class_right {d : T} (h : (classT d).2 = true) : rightB d = true ∧ d.head? = some 76 := by
  unfold classT at h
  split at h
  · rename_i hc
    unfold classB at hc
    simp only [Bool.and_eq_true, beq_iff_eq] at hc
    exact hc
  · cases h
theorem sub_self (h : Hr) (a : T) : h.sub a a = (a == [78] || h.known a) := by
  unfold Hr.sub Hr.kon
  simp [Bool.or_comm]
/-! what New makes of classes -/
def nms (l : List P2) : List T := objN :: l.map (·.1)
def abv (l : List P2) (c : T) : Option Nat := (l.find? fun p => p.1 == c).map fun p => (nms l).idxOf p.2
/-- the classes handed in, with those that are there always ahead -/
def full (l : List P2) : List P2 := alw ++ l
def mk (l : List P2) : Hr := ⟨nms (full l), abv (full l)⟩
/-- the first one whose name is there already -/
def twice : List T → List P2 → Option T
  | _, [] => none
  | ns, p :: t => if ns.contains p.1 then some p.1 else twice (ns ++ [p.1]) t
def noSup (ns : List T) : List P2 → Option T
  | [] => none
  | p :: t => if ns.contains p.2 then noSup ns t else some p.1
def inLoop (h : Hr) : List P2 → Option T
  | [] => none
  | p :: t => if loopF h.up h.names.length (h.up p.1) p.1 then some p.1 else inLoop h t
/-- why classes can not be: the one that can not, and the error's number; none, 0 if they can -/
def whyT (l : List P2) : T × Int :=
  if 32 < l.length then ([], 6)
  else match twice [objN] (full l) with
    | some c => (c, 8)
    | none => match noSup (nms (full l)) (full l) with
      | some c => (c, 9)
      | none => match inLoop (mk l) (full l) with
        | some c => (c, 14)
        | none => ([], 0)

theorem twice_in : ∀ (ns : List T) (l : List P2), twice ns l = none → (∀ p ∈ l, p.1 ∉ ns) ∧ (l.map (·.1)).Nodup
  | _, [], _ => ⟨by simp, by simp⟩
  | ns, p :: t, h => by
    unfold twice at h
    split at h
    · cases h
    · rename_i hp
      obtain ⟨h1, h2⟩ := twice_in _ t h
      refine ⟨?_, ?_⟩
      · intro q hq
        rcases List.mem_cons.1 hq with rfl | hq
        · simpa using hp
        · intro hn; exact h1 q hq (by simp [hn])
      · rw [List.map_cons, List.nodup_cons]
        refine ⟨?_, h2⟩
        intro hm
        obtain ⟨q, hq, e⟩ := List.mem_map.1 hm
        exact h1 q hq (by simp [e])
theorem noSup_in (ns : List T) : ∀ l : List P2, noSup ns l = none → ∀ p ∈ l, p.2 ∈ ns
  | [], _, _, hp => by cases hp
  | q :: t, h, p, hp => by
    unfold noSup at h
    split at h
    · rename_i hq
      rcases List.mem_cons.1 hp with rfl | hp
      · simpa using hq
      · exact noSup_in ns t h p hp
    · cases h
theorem inLoop_in (h : Hr) : ∀ l : List P2, inLoop h l = none → ∀ p ∈ l, loopF h.up h.names.length (h.up p.1) p.1 = false
  | [], _, _, hp => by cases hp
  | q :: t, h1, p, hp => by
    unfold inLoop at h1
    split at h1
    · cases h1
    · rename_i hq
      rcases List.mem_cons.1 hp with rfl | hp
      · simpa using hq
      · exact inLoop_in h t h1 p hp
theorem idx_get {l : List T} {c : T} (h : c ∈ l) : l[l.idxOf c]? = some c := by
  have h1 : l.idxOf c < l.length := List.idxOf_lt_length_iff.2 h
  rw [List.getElem?_eq_getElem h1]
  exact congrArg some (List.getElem_idxOf h1)
theorem why_good {l : List P2} (h : (whyT l).2 = 0) : GoodH (mk l) ∧ (mk l).names.length ≤ 41 ∧ l.length ≤ 32 ∧ twice [objN] (full l) = none := by
  unfold whyT at h
  split at h
  · cases h
  · rename_i hlen
    split at h
    · cases h
    · rename_i ht
      split at h
      · cases h
      · rename_i hs
        split at h
        · cases h
        · rename_i hl
          obtain ⟨t1, t2⟩ := twice_in _ _ ht
          have s1 := noSup_in _ _ hs
          have l1 := inLoop_in _ _ hl
          have upin : ∀ p ∈ full l, (mk l).up p.1 ≠ none := by
            intro p hp hn
            unfold Hr.up mk abv at hn
            cases hf : (full l).find? (fun q => q.1 == p.1) with
            | none =>
              rw [List.find?_eq_none] at hf
              exact hf p hp (by simp)
            | some q =>
              simp only [hf, Option.map_some, Option.bind_some] at hn
              rw [idx_get (s1 q (List.mem_of_find?_eq_some hf))] at hn
              cases hn
          have root : (mk l).up objN = none := by
            have hf : (full l).find? (fun p => p.1 == objN) = none := by
              rw [List.find?_eq_none]
              intro p hp he
              exact t1 p hp (by simp [eq_of_beq he])
            unfold Hr.up mk abv
            simp only [hf]
            rfl
          refine ⟨⟨by simp [mk, nms], ?_, root, ?_⟩, ?_, by omega, ht⟩
          · intro c hc hu
            simp only [mk, nms, List.mem_cons, List.mem_map] at hc
            rcases hc with rfl | ⟨p, hp, rfl⟩
            · rfl
            · exact absurd hu (upin p hp)
          · intro c hc
            refine way_of (mk l).names (fun _ _ _ hu => up_in hu) ?_ hc
            intro d hd
            have hd' := hd
            simp only [mk, nms, List.mem_cons, List.mem_map] at hd'
            rcases hd' with rfl | ⟨p, hp, rfl⟩
            · rw [root]
              cases (mk l).names.length <;> rfl
            · exact l1 p hp
          · simp [mk, nms, full, alw]; omega
end HierT
end Go.Proofs.YtehainbhoflpnaaGreatDoor

namespace Go.Proofs.YtehainbhoflpnaaGreatDoor
namespace HierM
open Go.RowKit BinM Base DescM DescW DescX HierS HierT
open BinName (ret_bool)

def sv (t : T) : Value := .string ⟨t.toArray⟩
abbrev DW := DataW Unit

theorem idx_from (c : T) : ∀ (ns : List T) (i : Nat), Lib.idxFromS (ns.map fun t => ⟨t.toArray⟩) ⟨c.toArray⟩ i = if c ∈ ns then ((i + ns.idxOf c : Nat) : Int) else -1
  | [], i => by simp [Lib.idxFromS]
  | n :: ns, i => by
    simp only [List.map_cons, Lib.idxFromS]
    by_cases h : n = c
    · subst h; simp
    · have h1 : ¬ (ByteArray.mk n.toArray = ByteArray.mk c.toArray) := by
        intro e; injection e with e; exact h (by simpa using congrArg Array.toList e)
      have h2 : ¬ c = n := fun e => h e.symm
      have h3 : (n == c) = false := by simpa using h
      rw [if_neg h1, idx_from c ns (i + 1)]
      simp only [List.mem_cons, h2, false_or, List.idxOf_cons, h3, cond_false]
      by_cases hm : c ∈ ns
      · rw [if_pos hm, if_pos hm]; congr 1; omega
      · rw [if_neg hm, if_neg hm]
theorem idx_s (c : T) (ns : List T) : Lib.idxOfS (ns.map fun t => ⟨t.toArray⟩) ⟨c.toArray⟩ = if c ∈ ns then ((ns.idxOf c : Nat) : Int) else -1 := by
  unfold Lib.idxOfS; rw [idx_from]; simp
theorem has_s (c : T) (ns : List T) : Lib.containsS (ns.map fun t => ⟨t.toArray⟩) ⟨c.toArray⟩ = ns.contains c := by
  unfold Lib.containsS
  rw [idx_s]
  by_cases hm : c ∈ ns
  · rw [if_pos hm]; simp [hm]
  · rw [if_neg hm]; simp [hm]

theorem cells_s {w : World} {b o : Nat} {ns : List T} (hc : ∀ j u, (ns.map sv)[j]? = some u → w.cell? ⟨b, o + j, none⟩ = some u) :
    ∀ j, j < (ns.map fun t => (⟨t.toArray⟩ : ByteArray)).length → w.cell? ⟨b, o + j, none⟩ = some (.string ((ns.map fun t => (⟨t.toArray⟩ : ByteArray)).getD j ByteArray.empty)) := by
  intro j hj
  refine hc j _ ?_
  rw [List.length_map] at hj
  rw [List.getElem?_map, List.getElem?_eq_getElem hj]
  simp [List.getD_eq_getElem?_getD, List.getElem?_map, List.getElem?_eq_getElem hj, sv]

theorem contains_l (A : Option Addr) (n cap : Nat) (ns : List T) (c : T) (w : World) (hn : n = ns.length) (hm : n ≤ 9223372036854775807) (hr : Rds w A (ns.map sv)) :
    Calls Tryz.prog 99 #[.slice A n cap, .string ⟨c.toArray⟩] w fun e w' => e = .returned (.bool (ns.contains c)) ∧ w = w' := by
  rcases hr with h0 | ⟨b, o, rfl, _, hc⟩
  · have h0' : ns = [] := by simpa using h0
    subst h0'; subst hn
    exact (Tryz.slices_Contains_string_empty A cap ⟨c.toArray⟩ w).mono fun e w' ⟨h1, h2⟩ => ⟨h1, h2.symm⟩
  · refine (Tryz.slices_Contains_string b o n cap (ns.map fun t => ⟨t.toArray⟩) ⟨c.toArray⟩ w (by simp; omega) hm (cells_s hc)).mono fun e w' ⟨h1, h2⟩ => ⟨?_, h2.symm⟩
    rw [h1, List.take_of_length_le (by simp; omega), has_s]
theorem index_l (A : Option Addr) (n cap : Nat) (ns : List T) (c : T) (w : World) (hn : n = ns.length) (hm : n ≤ 9223372036854775807) (hr : Rds w A (ns.map sv)) :
    Calls Tryz.prog 74 #[.slice A n cap, .string ⟨c.toArray⟩] w fun e w' => e = .returned (.int .i64 (if c ∈ ns then ((ns.idxOf c : Nat) : Int) else -1)) ∧ w = w' := by
  rcases hr with h0 | ⟨b, o, rfl, _, hc⟩
  · have h0' : ns = [] := by simpa using h0
    subst h0'; subst hn
    exact (Tryz.slices_Index_string_empty A cap ⟨c.toArray⟩ w).mono fun e w' ⟨h1, h2⟩ => ⟨h1, h2.symm⟩
  · refine (Tryz.slices_Index_string b o n cap (ns.map fun t => ⟨t.toArray⟩) ⟨c.toArray⟩ w (by simp; omega) hm (cells_s hc)).mono fun e w' ⟨h1, h2⟩ => ⟨?_, h2.symm⟩
    rw [h1, List.take_of_length_le (by simp; omega), idx_s]
/-- texts in a row of the call's own -/
def OwnT (w : World) (base : Nat) (v : Value) (ns : List T) : Prop := w.ownsRow base 9 1 v ns.length (ns.map sv)
theorem OwnT.nil (w : World) (base : Nat) : OwnT w base (.slice none 0 0) [] := World.ownsRow_nil _ _ _ _
theorem clone_l (A : Option Addr) (n cap : Nat) (ns : List T) (w : World) (hn : n = ns.length) (hm : n ≤ 8796093022208) (hr : Rds w A (ns.map sv)) :
    Calls Tryz.prog 24 #[.slice A n cap] w fun e w' => ∃ v, e = .returned v ∧ OwnT w' w.heap.size v ns ∧ Below w.heap.size w w' := by
  rcases hr with h0 | ⟨b, o, rfl, _, hc⟩
  · have h0' : ns = [] := by simpa using h0
    subst h0'; subst hn
    cases A with
    | none => exact (Tryz.slices_Clone_string_nil 0 cap w).mono fun e w' ⟨h1, h2⟩ => ⟨_, h1, OwnT.nil _ _, by rw [h2]; exact Below.refl _ _⟩
    | some a => exact (Tryz.slices_Clone_string_zero a cap w).mono fun e w' ⟨v, h1, h2, _, h3⟩ => ⟨v, h1, h2, h3⟩
  · refine (Tryz.slices_Clone_string b o n cap (ns.map fun t => ⟨t.toArray⟩) w (by simp; omega) (by omega) (cells_s hc)).mono fun e w' ⟨v, h1, h2, _, h3⟩ => ⟨v, h1, ?_, h3⟩
    rw [List.take_of_length_le (by simp; omega)] at h2
    unfold OwnT
    rw [← hn]
    have e : (ns.map fun t => (⟨t.toArray⟩ : ByteArray)).map Value.string = ns.map sv := by simp [sv]
    rw [← e]; exact h2

theorem keyS : Maps.Keyed Tryz.prog 9 := Maps.string_keyed Tryz.underlying9
theorem zeroI (w : World) : (zeroValue 3).run Tryz.prog w = .ok (.int .i64 0) w := by kernel_rfl
/-- a map from names to places -/
def MapIs (w : World) (b : Nat) (f : T → Option Nat) : Prop :=
  ∃ (n : Nat) (D : DW), n ≤ 100000 ∧ w.ownsMap Tryz.prog 9 (plainElem Tryz.prog 3) b n D ∧ Maps.IsMap D ∧
    ∀ c, (f c = none → Maps.has D (.string c) = false) ∧ (∀ i : Nat, f c = some i → Maps.has D (.string c) = true ∧ D.atKey (.string c) (.lit (.int .i64 0)) = .lit (.int .i64 (i : Int)))
theorem ownsMap_block {H : Type} {P : Program} {k : TypeId} {R : Value → Option (DataW H × List MemPlace)} {w w' : World} {b n : Nat} {D : DataW H} (h : w.ownsMap P k R b n D) (hb : w'.heap[b]? = w.heap[b]?) : w'.ownsMap P k R b n D := by
  obtain ⟨es, clock, h1, h2⟩ := h
  exact ⟨es, clock, hb.trans h1, h2⟩
theorem MapIs.lt {w : World} {b : Nat} {f : T → Option Nat} (h : MapIs w b f) : b < w.heap.size := by
  obtain ⟨n, D, _, h1, _⟩ := h
  exact h1.lt
theorem MapIs.block {w w' : World} {b : Nat} {f : T → Option Nat} (h : MapIs w b f) (hb : w'.heap[b]? = w.heap[b]?) : MapIs w' b f := by
  obtain ⟨n, D, h0, h1, h2⟩ := h
  exact ⟨n, D, h0, ownsMap_block h1 hb, h2⟩

/-- a hierarchy in memory, in blocks below B -/
structure IsH (B : Nat) (w : World) (g : Nat) (h : Hr) : Prop where
  cells : ∃ (A : Option Addr) (n c mb : Nat), w.heap[g]? = some (.cells #[.slice A n c, .map (some mb)] 149 (0, 0)) ∧ n = h.names.length ∧ n ≤ c ∧ c ≤ maxLen ∧ Rds w A (h.names.map sv) ∧ (∀ a, A = some a → a.block < B) ∧ mb < B ∧ MapIs w mb h.above
  low : g < B
  inn : ∀ c i, h.above c = some i → i < h.names.length
  few : h.names.length ≤ 41
  long : ∀ c ∈ h.names, c.length ≤ 140737488355000
theorem IsH.below {B : Nat} {w w' : World} {g : Nat} {h : Hr} (H : IsH B w g h) (hb : Below B w w') : IsH B w' g h := by
  obtain ⟨⟨A, n, c, mb, h1, h2, h3, h4, h5, h6, h7, h8⟩, k2, k3, k4, k5⟩ := H
  exact ⟨⟨A, n, c, mb, (hb.block g k2).trans h1, h2, h3, h4, h5.below_of hb h6, h6, h7, h8.block (hb.block mb h7)⟩, k2, k3, k4, k5⟩
theorem IsH.mono {B B' : Nat} {w : World} {g : Nat} {h : Hr} (H : IsH B w g h) (hb : B ≤ B') : IsH B' w g h := by
  obtain ⟨⟨A, n, c, mb, h1, h2, h3, h4, h5, h6, h7, h8⟩, k2, k3, k4, k5⟩ := H
  exact ⟨⟨A, n, c, mb, h1, h2, h3, h4, h5, fun a ha => Nat.lt_of_lt_of_le (h6 a ha) hb, Nat.lt_of_lt_of_le h7 hb, h8⟩, Nat.lt_of_lt_of_le k2 hb, k3, k4, k5⟩

theorem has_any (B g : Nat) (h : Hr) (c : T) (w : World) (H : IsH B w g h) :
    Calls Tryz.prog 42 #[.pointer (some ⟨g, 0, none⟩), .string ⟨c.toArray⟩] w fun e w' => e = .returned (.bool (h.has c)) ∧ w = w' := by
  obtain ⟨A, n, cap, mb, h1, h2, h3, h4, h5, _⟩ := H.cells
  have hf := H.few
  have c0 : w.cell? ⟨g, 0, none⟩ = some (.slice A n cap) := cell_of_row _ _ _ _ _ (0, 0) h1
  have HC := Lib.hid (show Calls Tryz.prog 99 #[.slice A n cap, .string ⟨c.toArray⟩] w fun e w' => e = .returned (.bool (h.has c)) ∧ w = w' from contains_l A n cap h.names c w h2 (by omega) h5)
  clear h1 h2 h3 h4 h5 H hf
  go_enter Tryz.func42, Tryz.ntmps42
  go_wp2_with (go_at_call 99; refine HC.out.mono ?_; rintro e w' ⟨rfl, rfl⟩)
  go_ret
  exact ⟨rfl, rfl⟩
def superT (h : Hr) (c : T) : T × Bool := match h.up c with | some u => (u, true) | none => ([], false)
set_option maxRecDepth 100000 in
theorem super_any (B g : Nat) (h : Hr) (c : T) (w : World) (H : IsH B w g h) (hl : c.length ≤ 140737488355328) :
    Calls Tryz.prog 126 #[.pointer (some ⟨g, 0, none⟩), .string ⟨c.toArray⟩] w fun e w' => e = .returned (twoB (superT h c)) ∧ w = w' := by
  obtain ⟨A, n, cap, mb, h1, h2, h3, h4, h5, _, _, hM⟩ := H.cells
  obtain ⟨k, D, _, hown, _, hat⟩ := hM
  have c0 : w.cell? ⟨g, 0, none⟩ = some (.slice A n cap) := cell_of_row _ _ _ _ _ (0, 0) h1
  have c1 : w.cell? ⟨g, 1, none⟩ = some (.map (some mb)) := cell_of_row _ _ _ _ _ (0, 0) h1
  have hkey : keyOf Tryz.prog 9 (.string ⟨c.toArray⟩) = some (.string c) := Go.WideMaps.keyOf_string_mk Tryz.underlying9 (s := ⟨c.toArray⟩) (by show c.length ≤ maxLen; unfold maxLen; omega)
  have HO := Lib.hid hown
  have HK := Lib.hid hkey
  have inn := H.inn c
  have hfew := H.few
  clear hown hkey H h1 hl
  unfold superT Hr.up
  cases ha : h.above c with
  | none =>
    have hhas := (hat c).1 ha
    clear hat ha inn h2 h3 h4 hfew
    go_enter Tryz.func126, Tryz.ntmps126
    go_wp2_with (at_lookup; refine wpList_lookup_own_ok_int _ rfl _ _ 147 rfl 9 3 .i64 keyS Tryz.underlying147 Tryz.underlying3 (zeroI _) mb k D rfl HO.out _ _ rfl HK.out ?_; intro c' hat' hwc)
    go_ret2
    exact ⟨rfl, rfl⟩
  | some i =>
    obtain ⟨hhas, hati⟩ := (hat c).2 i ha
    have hi := inn i ha
    clear hat ha inn
    have hg : h.names[i]? = some h.names[i] := List.getElem?_eq_getElem hi
    have hc := h5.at_ (k := i) (by simpa using hi)
    obtain ⟨b, o, rfl, _, hci⟩ := hc
    rw [List.getElem_map] at hci
    have hin : (i : Int) < (n : Int) := by omega
    have hn0 : (n : Int) ≤ 41 := by omega
    have HA := Lib.hid hati
    simp only [Option.bind_some, hg]
    generalize h.names[i] = u at *
    clear hati hg h5 hi h2 h3 h4 hfew
    unfold sv at hci
    go_enter Tryz.func126, Tryz.ntmps126
    go_wp2_with (at_lookup; refine wpList_lookup_own_ok_int _ rfl _ _ 147 rfl 9 3 .i64 keyS Tryz.underlying147 Tryz.underlying3 (zeroI _) mb k D rfl HO.out _ _ rfl HK.out ?_; intro c' hat' hwc; obtain rfl : c' = (i : Int) := (by have := hat'.symm.trans HA.out; injection this with this; injection this); clear hat' hwc)
    go_ret2
    exact ⟨rfl, rfl⟩
theorem infoS : (Tryz.prog.info? 9).map (fun i => (i.zero, i.size, i.bytes)) = some (some (.string ⟨#[]⟩), 1, 16) := by kernel_rfl
theorem one_sv (ts : List T) : ∀ u ∈ ts.map sv, u.oneCell' = true := by
  intro u hu
  obtain ⟨t, _, rfl⟩ := List.mem_map.1 hu
  rfl
theorem appT {ops : Array Oper} {rest : List Oper} {o : Oper} {a : Act} {w : World} {Q : Exit → Act → World → Prop} (hgd : o.guard = none) (s x : Operand)
    (ho : o.op = .call { callee := .builtin .append, args := #[s, x], argTypes := #[25, 25] })
    (base : Nat) (v : Value) (p : List T) (hs : a.eval s = v) (hown : OwnT w base v p) (A : Option Addr) (m c : Nat) (l : List T) (hx : a.eval x = .slice A m c)
    (hm : m = l.length) (hr : Rds w A (l.map sv)) (hlen : p.length + l.length ≤ 1048576) (hbase : base ≤ w.heap.size)
    (h : ∀ v' w', OwnT w' base v' (p ++ l) → w.grownBy w' v.ownBlock → wpList Tryz.prog ops Q rest (a.put o.dst v') w') : wpList Tryz.prog ops Q (o :: rest) a w := by
  obtain ⟨i0, hi, hz, hs1, hb1⟩ := info_parts infoS
  refine wpList_append_rds hgd s x 25 ho base 9 i0 _ 16 Tryz.underlying25 hi hz hs1 hb1 rfl v p.length (p.map sv) hs hown A m c (l.map sv) hx (by rw [List.length_map, hm]) hr (one_sv l) (by unfold maxLen; omega) (by omega) hbase ?_
  intro v' w' h1 h2
  refine h v' w' ?_ h2
  unfold OwnT
  rw [List.map_append, List.length_append, ← hm]
  exact h1
theorem OwnT.slice {w : World} {base : Nat} {v : Value} {p : List T} (h : OwnT w base v p) :
    ∃ A c, v = .slice A p.length c ∧ p.length ≤ c ∧ c ≤ maxLen ∧ Rds w A (p.map sv) ∧ ∀ a, A = some a → base ≤ a.block ∧ a.block < w.heap.size := by
  obtain ⟨A, c, rfl, h1, h2, h3, _⟩ := own_slice h
  exact ⟨A, c, rfl, h1, h2, Rds.own h, fun a ha => ⟨(h3 a ha).1, (h3 a ha).2.1⟩⟩
theorem OwnT.one (w : World) (c : T) : OwnT (w.alloc (.cells #[sv c] 9)) w.heap.size (.slice (some ⟨w.heap.size, 0, none⟩) 1 1) [c] :=
  World.ownsRow_lit w #[sv c] 1 (Nat.le_refl _) (by unfold maxLen; omega) rfl

end HierM
end Go.Proofs.YtehainbhoflpnaaGreatDoor

namespace Go.Proofs.YtehainbhoflpnaaGreatDoor
namespace HierC
open Go.RowKit BinM Base DescM DescW DescX HierS HierT HierM
open BinName (ret_bool)

def lenV : Value → Nat | .slice _ n _ => n | _ => 0
theorem super_t (B g : Nat) (h : Hr) (c : T) (o : T × Bool) (w : World) (H : IsH B w g h) (hl : c.length ≤ 140737488355328) (ho : superT h c = o) :
    Calls Tryz.prog 126 #[.pointer (some ⟨g, 0, none⟩), .string ⟨c.toArray⟩] w fun e w' => e = .returned (.tuple #[.string ⟨o.1.toArray⟩, .bool o.2]) ∧ w = w' := by
  subst ho
  exact super_any B g h c w H hl

def Next (h : Hr) (o : T × Bool) (rest : List T) : Prop := (o.2 = true → WayUp h.up o.1 rest) ∧ (o.2 = false → rest = [])
theorem next_of {h : Hr} {u : T} {t : List T} (hw : WayUp h.up u (u :: t)) : Next h (superT h u) t := by
  unfold superT Next
  cases hw with
  | top hu => rw [hu]; simp
  | step hu hw => rw [hu]; simp [hw]
def ChRel (w : World) (h : Hr) (c : T) (ch u ok : Value) (wr : World) : Prop :=
  ∃ (p rest : List T) (o : T × Bool), OwnT wr w.heap.size ch p ∧ h.chain c = p ++ rest ∧ u = .string ⟨o.1.toArray⟩ ∧ ok = .bool o.2 ∧ Next h o rest ∧ Below w.heap.size w wr

set_option maxRecDepth 100000 in
set_option maxHeartbeats 2000000 in
theorem chain_any (B g : Nat) (h : Hr) (c : T) (w : World) (H : IsH B w g h) (hB : B ≤ w.heap.size) (hg : GoodH h) (hl : c.length ≤ 140737488355328) :
    Calls Tryz.prog 184 #[.pointer (some ⟨g, 0, none⟩), .string ⟨c.toArray⟩] w fun e w' => ∃ v, e = .returned v ∧ OwnT w' w.heap.size v (h.chain c) ∧ Below w.heap.size w w' := by
  have HH := Lib.hid (fun (wr : World) (hb : Below w.heap.size w wr) => (H.mono hB).below hb)
  have hfew := H.few
  have Hlong := Lib.hid H.long
  have HIn := Lib.hid (fun d (hd : d ∈ h.chain c) => chain_in hg hd)
  have hlen := chain_len hg c
  by_cases hc : c ∈ h.names
  · have hw := chain_way hg hc
    obtain ⟨t, ht⟩ := hw.head
    have hn := next_of (ht ▸ hw)
    have Hhas := Lib.hid (has_iff.2 hc)
    have hct : h.chain c = [c] ++ t := ht
    have Hct := Lib.hid hct
    have Hcl := Lib.hid hl
    generalize hS : superT h c = S at *
    have HS := Lib.hid hS
    have HN := Lib.hid hn
    have Hlen := Lib.hid hlen
    have h0 := Lib.hid (Below.refl w.heap.size w)
    clear hw ht hn hS hct hc H hB hg hl hlen
    go_enter Tryz.func184, Tryz.ntmps184
    go_wp2_with (first
      | (go_at_call 42; refine (has_any _ g h c _ (HH.out _ h0.out)).mono ?_; rw [Hhas.out]; rintro e w' ⟨rfl, rfl⟩)
      | (go_at_call 126; refine (super_t _ g h c S _ (HH.out _ (h0.out.alloc (Nat.le_refl _) _)) Hcl.out HS.out).mono ?_; rintro e w' ⟨rfl, rfl⟩))
    go_loopw [5, 6, 7] (fun ch u ok wr => ChRel w h c ch u ok wr) (fun ch _ _ _ => 41 - lenV ch)
    case atStart => exact ⟨[c], t, S, OwnT.one w c, Hct.out, rfl, rfl, HN.out, h0.out.alloc (Nat.le_refl _) _⟩
    case round =>
      obtain ⟨p, rest, o, hown, hch, rfl, rfl, hnx, hbel⟩ := hrel
      obtain ⟨A, cc, rfl, hp1, hp2, hrd, _⟩ := hown.slice
      have Hown := Lib.hid hown
      have Hbel := Lib.hid hbel
      have hsz := hbel.size
      obtain ⟨u, ok⟩ := o
      have Hch := Lib.hid hch
      clear hown hbel hrd hp1 hp2 hch
      cases ok
      · have e := hnx.2 rfl
        subst e
        have Hfin := Lib.hid (show h.chain c = p by rw [Hch.out]; simp)
        clear hnx
        go_wp2_with fail
        go_ret
        exact ⟨_, rfl, by rw [Hfin.out]; exact Hown.out, Hbel.out⟩
      · have hwu := hnx.1 rfl
        obtain ⟨t, rfl⟩ := hwu.head
        have hN := Lib.hid (next_of hwu)
        have Hul := Lib.hid (show u.length ≤ 140737488355328 by have := Hlong.out u (HIn.out u (by rw [Hch.out]; simp)); omega)
        have hpl : p.length + 1 ≤ 41 := by
          have := Hlen.out
          rw [Hch.out] at this
          simp at this
          omega
        have Hch2 := Lib.hid (show h.chain c = (p ++ [u]) ++ t by rw [Hch.out]; simp)
        generalize hS2 : superT h u = S2 at *
        have HS2 := Lib.hid hS2
        clear hS2 hnx hwu
        go_wp2_with (first
          | (go_at_call 126; refine (super_t _ g h u S2 _ (HH.out _ Hb2.out) Hul.out HS2.out).mono ?_; rintro e w' ⟨rfl, rfl⟩)
          | (at_builtin
             refine appT rfl (.tmp 27) (.tmp 29) rfl w.heap.size _ p rfl (Hown.out.alloc _) (some ⟨wr.heap.size, 0, none⟩) 1 1 [u] rfl rfl (rds_new _ #[sv u] 9) (by simp; omega) (by simp; omega) ?_
             intro v2 w2 hown2 hg2
             have Hb2 := Lib.hid (below_own (Hbel.out.alloc hsz _) (Hown.out.alloc _) (Nat.le_refl _) (by simp; omega) hg2)
             have Hown2 := Lib.hid hown2
             clear hown2 hg2))
        go_roundw
        case rel => exact ⟨p ++ [u], t, S2, Hown2.out, Hch2.out, rfl, rfl, hN.out, Hb2.out⟩
        case measure =>
          obtain ⟨A2, c2, rfl, _⟩ := Hown2.out.slice
          simp [lenV]; omega
  · have Hhas := Lib.hid (show h.has c = false by simpa [Hr.has] using hc)
    have Hno := Lib.hid (chain_no hc)
    have h0 := Lib.hid (Below.refl w.heap.size w)
    clear H hB hg hl hlen hc
    go_enter Tryz.func184, Tryz.ntmps184
    go_wp2_with (go_at_call 42; refine (has_any _ g h c _ (HH.out _ h0.out)).mono ?_; rw [Hhas.out]; rintro e w' ⟨rfl, rfl⟩)
    go_ret
    exact ⟨_, rfl, by rw [Hno.out]; exact OwnT.nil _ _, h0.out⟩
theorem under_any (B g : Nat) (h : Hr) (a b : T) (w : World) (H : IsH B w g h) (hB : B ≤ w.heap.size) (hg : GoodH h) (hl : a.length ≤ 140737488355328) :
    Calls Tryz.prog 148 #[.pointer (some ⟨g, 0, none⟩), .string ⟨a.toArray⟩, .string ⟨b.toArray⟩] w fun e w' => e = .returned (.bool (h.under a b)) ∧ Below w.heap.size w w' := by
  have HC := Lib.hid (chain_any B g h a w H hB hg hl)
  have hlen := chain_len hg a
  have hfew := H.few
  clear H hB hg hl
  go_enter Tryz.func148, Tryz.ntmps148
  go_wp2_with fail
  refine Calls.mono HC.out ?_
  rintro e w1 ⟨v, rfl, hown, hb⟩
  obtain ⟨A, c, rfl, _, _, hr, _⟩ := hown.slice
  have HB := Lib.hid hb
  have HK := Lib.hid (show Calls Tryz.prog 99 #[.slice A (h.chain a).length c, .string ⟨b.toArray⟩] w1 fun e w' => e = .returned (.bool (h.under a b)) ∧ w1 = w' from contains_l A _ c (h.chain a) b w1 rfl (by omega) hr)
  clear hown hb hr
  go_wp2_with fail
  refine Calls.mono HK.out ?_
  rintro e w2 ⟨rfl, rfl⟩
  go_wp2_with fail
  go_ret
  exact ⟨rfl, HB.out⟩
end HierC
end Go.Proofs.YtehainbhoflpnaaGreatDoor

namespace Go.Proofs.YtehainbhoflpnaaGreatDoor
namespace HierD
open Go.RowKit BinM Base DescM DescW DescX HierS HierT HierM HierC
open BinName (ret_bool)

theorem class_t (l : T) (o : T × Bool) (w : World) (hl : l.length ≤ 140737488355328) (ho : classT l = o) :
    Calls Tryz.prog 108 #[.string ⟨l.toArray⟩] w fun e w' => e = .returned (.tuple #[.string ⟨o.1.toArray⟩, .bool o.2]) ∧ w = w' := by
  subst ho
  exact class_any l w hl
theorem of_obj (w : World) :
    Calls Tryz.prog 111 #[.string ⟨#[79, 98, 106, 101, 99, 116]⟩] w fun e w' => e = .returned (.string ⟨(ofT objN).toArray⟩) ∧ w = w' := of_any objN w (by decide)

set_option maxRecDepth 100000 in
set_option maxHeartbeats 1000000 in
theorem known_any (B g : Nat) (h : Hr) (d : T) (w : World) (H : IsH B w g h) (hl : d.length ≤ 140737488355328) :
    Calls Tryz.prog 86 #[.pointer (some ⟨g, 0, none⟩), .string ⟨d.toArray⟩] w fun e w' => e = .returned (.bool (h.known d)) ∧ w = w' := by
  have HR0 := Lib.hid (right_any d w hl)
  cases hR : rightB d
  · have Hfin := Lib.hid (show h.known d = false by unfold Hr.known; rw [hR]; rfl)
    rw [hR] at HR0
    clear hR hl H
    go_enter Tryz.func86, Tryz.ntmps86
    go_wp2_with (go_at_call 133; refine HR0.out.mono ?_; rintro e w' ⟨rfl, rfl⟩)
    go_ret
    exact ⟨ret_bool (by rw [Hfin.out]), rfl⟩
  · rw [hR] at HR0
    have hdl : (d.drop (brk d)).length ≤ 140737488355328 := by rw [List.length_drop]; omega
    have HC := Lib.hid (class_t (d.drop (brk d)) _ w hdl rfl)
    have Hfin := Lib.hid (show h.known d = (!(classT (d.drop (brk d))).2 || h.has (classT (d.drop (brk d))).1) by unfold Hr.known; rw [hR]; rfl)
    have HH := Lib.hid (fun c => has_any B g h c w H)
    have HT := Lib.hid (Tryz.strings_TrimLeft_one ⟨d.toArray⟩ 91 (by decide) w)
    clear hR hl H hdl
    generalize classT (d.drop (brk d)) = C at *
    obtain ⟨c, ok⟩ := C
    simp only at Hfin HC
    have HD := Lib.hid (trim_brk d)
    go_enter Tryz.func86, Tryz.ntmps86
    go_wp2_with (go_at_call 133; refine HR0.out.mono ?_; rintro e w' ⟨rfl, rfl⟩)
    refine HT.out.mono ?_
    rintro e w' ⟨rfl, rfl⟩
    simp only [HD.out]
    cases ok
    · go_wp2_with (go_at_call 108; refine HC.out.mono ?_; rintro e w' ⟨rfl, rfl⟩)
      go_ret
      exact ⟨ret_bool (by rw [Hfin.out]; rfl), rfl⟩
    · go_wp2_with (first | (go_at_call 108; refine HC.out.mono ?_; rintro e w' ⟨rfl, rfl⟩) | (go_at_call 42; refine (HH.out c).mono ?_; rintro e w' ⟨rfl, rfl⟩))
      go_ret
      exact ⟨ret_bool (by rw [Hfin.out]; rfl), rfl⟩
theorem kon_any (B g : Nat) (h : Hr) (d : T) (w : World) (H : IsH B w g h) (hl : d.length ≤ 140737488355328) :
    Calls Tryz.prog 147 #[.pointer (some ⟨g, 0, none⟩), .string ⟨d.toArray⟩] w fun e w' => e = .returned (.bool (h.kon d)) ∧ w = w' := by
  have HK := Lib.hid (known_any B g h d w H hl)
  cases hK : h.known d
  · rw [hK] at HK
    cases hN : d == [78]
    all_goals
      have Hfin := Lib.hid (show h.kon d = _ by unfold Hr.kon; rw [hK, hN])
      clear hK hl H
      go_enter Tryz.func147, Tryz.ntmps147
      go_wp2_with (go_at_call 86; refine HK.out.mono ?_; rintro e w' ⟨rfl, rfl⟩)
      go_ret
      exact ⟨ret_bool (by rw [Hfin.out]; rfl), rfl⟩
  · rw [hK] at HK
    have Hfin := Lib.hid (show h.kon d = true by unfold Hr.kon; rw [hK]; rfl)
    clear hK hl H
    go_enter Tryz.func147, Tryz.ntmps147
    go_wp2_with (go_at_call 86; refine HK.out.mono ?_; rintro e w' ⟨rfl, rfl⟩)
    go_ret
    exact ⟨ret_bool (by rw [Hfin.out]), rfl⟩
set_option maxRecDepth 100000 in
set_option maxHeartbeats 4000000 in
theorem sub_any (B g : Nat) (h : Hr) (a b : T) (w : World) (H : IsH B w g h) (hB : B ≤ w.heap.size) (hg : GoodH h) (ha : a.length ≤ 140737488355328) (hb : b.length ≤ 140737488355328) :
    Calls Tryz.prog 100 #[.pointer (some ⟨g, 0, none⟩), .string ⟨a.toArray⟩, .string ⟨b.toArray⟩] w fun e w' => e = .returned (.bool (h.sub a b)) ∧ Below w.heap.size w w' := by
  have HKa := Lib.hid (kon_any B g h a w H ha)
  have HKb := Lib.hid (kon_any B g h b w H hb)
  have h0 := Lib.hid (Below.refl w.heap.size w)
  cases hA : h.kon a
  · rw [hA] at HKa
    have Hfin := Lib.hid (show h.sub a b = false by unfold Hr.sub; rw [hA]; rfl)
    clear hA ha hb H hB hg
    go_enter Tryz.func100, Tryz.ntmps100
    go_wp2_with (go_at_call 147; refine HKa.out.mono ?_; rintro e w' ⟨rfl, rfl⟩)
    go_ret
    exact ⟨ret_bool (by rw [Hfin.out]), h0.out⟩
  · rw [hA] at HKa
    cases hBb : h.kon b
    · rw [hBb] at HKb
      have Hfin := Lib.hid (show h.sub a b = false by unfold Hr.sub; rw [hA, hBb]; rfl)
      clear hA hBb ha hb H hB hg
      go_enter Tryz.func100, Tryz.ntmps100
      go_wp2_with fail
      refine HKa.out.mono ?_; rintro e w' ⟨rfl, rfl⟩
      go_wp2_with fail
      refine HKb.out.mono ?_; rintro e w' ⟨rfl, rfl⟩
      go_wp2_with fail
      go_ret
      exact ⟨ret_bool (by rw [Hfin.out]), h0.out⟩
    · rw [hBb] at HKb
      have Hsub := Lib.hid (show h.sub a b = (a == b || h.step a b) by unfold Hr.sub; rw [hA, hBb]; rfl)
      cases hE : a == b
      · have Hsub2 := Lib.hid (show h.sub a b = h.step a b by rw [Hsub.out, hE]; rfl)
        have HRa := Lib.hid (ref_any a w ha)
        have HRb := Lib.hid (ref_any b w hb)
        have HCa := Lib.hid (class_t a _ w ha rfl)
        have HCb := Lib.hid (class_t b _ w hb rfl)
        have HU := Lib.hid (fun hl => under_any B g h (classT a).1 (classT b).1 w H hB hg hl)
        have HUl := Lib.hid (show (classT a).1.length ≤ 140737488355328 by unfold classT; split; simp; omega; simp)
        have HO := Lib.hid (of_obj w)
        clear hA hBb ha hb H hB hg
        cases hN : a == [78]
        · cases hO : b == ofT objN
          · have Hst := Lib.hid (show h.step a b = h.cls a b by unfold Hr.step; rw [hN, hO]; rfl)
            have Hcl := Lib.hid (show h.cls a b = ((classT a).2 && (classT b).2 && h.under (classT a).1 (classT b).1) from rfl)
            generalize classT a = CA at *
            generalize classT b = CB at *
            obtain ⟨ca, oa⟩ := CA
            obtain ⟨cb, ob⟩ := CB
            simp only at HCa HCb HU HUl Hcl
            cases oa
            · have Hfin := Lib.hid (show h.sub a b = false by rw [Hsub2.out, Hst.out, Hcl.out]; rfl)
              go_enter Tryz.func100, Tryz.ntmps100
              go_wp2_with fail
              refine HKa.out.mono ?_; rintro e w' ⟨rfl, rfl⟩
              go_wp2_with fail
              refine HKb.out.mono ?_; rintro e w' ⟨rfl, rfl⟩
              go_wp2_with fail
              refine HO.out.mono ?_; rintro e w' ⟨rfl, rfl⟩
              go_wp2_with fail
              refine HCa.out.mono ?_; rintro e w' ⟨rfl, rfl⟩
              go_wp2_with fail
              refine HCb.out.mono ?_; rintro e w' ⟨rfl, rfl⟩
              go_wp2_with fail
              go_ret
              exact ⟨ret_bool (by rw [Hfin.out]), h0.out⟩
            · cases ob
              · have Hfin := Lib.hid (show h.sub a b = false by rw [Hsub2.out, Hst.out, Hcl.out]; rfl)
                go_enter Tryz.func100, Tryz.ntmps100
                go_wp2_with fail
                refine HKa.out.mono ?_; rintro e w' ⟨rfl, rfl⟩
                go_wp2_with fail
                refine HKb.out.mono ?_; rintro e w' ⟨rfl, rfl⟩
                go_wp2_with fail
                refine HO.out.mono ?_; rintro e w' ⟨rfl, rfl⟩
                go_wp2_with fail
                refine HCa.out.mono ?_; rintro e w' ⟨rfl, rfl⟩
                go_wp2_with fail
                refine HCb.out.mono ?_; rintro e w' ⟨rfl, rfl⟩
                go_wp2_with fail
                go_ret
                exact ⟨ret_bool (by rw [Hfin.out]), h0.out⟩
              · have Hfin := Lib.hid (show h.sub a b = h.under ca cb by rw [Hsub2.out, Hst.out, Hcl.out]; rfl)
                go_enter Tryz.func100, Tryz.ntmps100
                go_wp2_with fail
                refine HKa.out.mono ?_; rintro e w' ⟨rfl, rfl⟩
                go_wp2_with fail
                refine HKb.out.mono ?_; rintro e w' ⟨rfl, rfl⟩
                go_wp2_with fail
                refine HO.out.mono ?_; rintro e w' ⟨rfl, rfl⟩
                go_wp2_with fail
                refine HCa.out.mono ?_; rintro e w' ⟨rfl, rfl⟩
                go_wp2_with fail
                refine HCb.out.mono ?_; rintro e w' ⟨rfl, rfl⟩
                go_wp2_with fail
                refine (HU.out HUl.out).mono ?_; rintro e w' ⟨rfl, hb2⟩
                go_wp2_with fail
                go_ret
                exact ⟨ret_bool (by rw [Hfin.out]), hb2⟩
          · have Hst := Lib.hid (show h.step a b = (refB a && refB b) by unfold Hr.step; rw [hN, hO]; rfl)
            generalize refB b = rb at *
            cases hRa : refB a
            all_goals
              rw [hRa] at HRa
              have Hfin := Lib.hid (show h.sub a b = _ by rw [Hsub2.out, Hst.out, hRa])
              clear hRa
              go_enter Tryz.func100, Tryz.ntmps100
              go_wp2_with fail
              refine HKa.out.mono ?_; rintro e w' ⟨rfl, rfl⟩
              go_wp2_with fail
              refine HKb.out.mono ?_; rintro e w' ⟨rfl, rfl⟩
              go_wp2_with fail
              refine HO.out.mono ?_; rintro e w' ⟨rfl, rfl⟩
              go_wp2_with fail
              refine HRa.out.mono ?_; rintro e w' ⟨rfl, rfl⟩
              go_wp2_with (go_at_call 105; refine HRb.out.mono ?_; rintro e w' ⟨rfl, rfl⟩)
              go_ret
              exact ⟨ret_bool (by rw [Hfin.out]; rfl), h0.out⟩
        · have Hst := Lib.hid (show h.step a b = (refB a && refB b) by unfold Hr.step; rw [hN]; rfl)
          generalize refB b = rb at *
          cases hRa : refB a
          all_goals
            rw [hRa] at HRa
            have Hfin := Lib.hid (show h.sub a b = _ by rw [Hsub2.out, Hst.out, hRa])
            clear hRa
            go_enter Tryz.func100, Tryz.ntmps100
            go_wp2_with fail
            refine HKa.out.mono ?_; rintro e w' ⟨rfl, rfl⟩
            go_wp2_with fail
            refine HKb.out.mono ?_; rintro e w' ⟨rfl, rfl⟩
            go_wp2_with fail
            refine HRa.out.mono ?_; rintro e w' ⟨rfl, rfl⟩
            go_wp2_with (go_at_call 105; refine HRb.out.mono ?_; rintro e w' ⟨rfl, rfl⟩)
            go_ret
            exact ⟨ret_bool (by rw [Hfin.out]; rfl), h0.out⟩
      · have Hfin := Lib.hid (show h.sub a b = true by rw [Hsub.out, hE]; rfl)
        clear hA hBb ha hb H hB hg
        go_enter Tryz.func100, Tryz.ntmps100
        go_wp2_with fail
        refine HKa.out.mono ?_; rintro e w' ⟨rfl, rfl⟩
        go_wp2_with fail
        refine HKb.out.mono ?_; rintro e w' ⟨rfl, rfl⟩
        go_wp2_with fail
        go_ret
        exact ⟨ret_bool (by rw [Hfin.out]), h0.out⟩
end HierD
end Go.Proofs.YtehainbhoflpnaaGreatDoor
