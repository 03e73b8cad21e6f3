/- pieces -/
import Derived.Test.YtehainbhoflpnaaGreatDoorK22
namespace Go.Proofs.YtehainbhoflpnaaGreatDoor
namespace HierR
open Go.RowKit BinM Base Stru DescM DescW DescX HierS HierT HierM HierC HierK HierN HierV HierW HierG
open BinName (ze)
set_option maxHeartbeats 1000000 in
theorem UR (A B : Option Addr) (a b : List (List UInt8)) (m k c d : Nat) (w : World) (hm : m = a.length) (hk : k = b.length) (hmx : m ≤ maxLen) (hr : Rds w A (a.map sv)) (hr2 : Rds w B (b.map sv)) :
 Calls Tryz.prog 13 #[.slice A m c, .slice B k d] w fun e w' => e = .returned (.bool (decide (a = b))) ∧ Below w.heap.size w w' := by
 have hml : a.length ≤ m := Nat.le_of_eq hm.symm
 have hml2 : m ≤ a.length := Nat.le_of_eq hm
 have hkl : b.length ≤ k := Nat.le_of_eq hk.symm
 have hkl2 : k ≤ b.length := Nat.le_of_eq hk
 have Hr := zH hr
 have Hr2 := zH hr2
 unfold maxLen at hmx
 clear hm hk hr hr2
 by_cases hmk : m = k
 · have hb : ((m : Int) != (k : Int)) = false := by rw [hmk]; simp
   have hkm : k ≤ m := by omega
   have hmk' : m ≤ k := by omega
   clear hmk
   go_enter Tryz.func13, Tryz.ntmps13
   go_wp2_with fail
   go_loopw [5] (fun i wr => ∃ j : Nat, j ≤ m ∧ i = .int .i64 j ∧ a.take j = b.take j ∧ Below w.heap.size w wr) (fun i _ => m - (intOf i).toNat)
   case atStart => exact ⟨0, Nat.zero_le _, rfl, rfl, Below.refl _ _⟩
   case round =>
    obtain ⟨j, hj, rfl, hsame, hbel⟩ := hrel
    have Hsame := zH hsame
    have Hbel := zH hbel
    clear hsame
    by_cases hlt : j < m
    · obtain ⟨b1, o1, rfl, hb1, hcell1⟩ := (Hr.out.below hbel).at_ (k := j) (by simp; omega)
      obtain ⟨b2, o2, rfl, hb2, hcell2⟩ := (Hr2.out.below hbel).at_ (k := j) (by simp; omega)
      have hja : j < a.length := by omega
      have hjb : j < b.length := by omega
      have hc1 : wr.cell? ⟨b1, o1 + j, none⟩ = some (.string ⟨a[j].toArray⟩) := by rw [hcell1]; simp [sv]
      have hc2 : wr.cell? ⟨b2, o2 + j, none⟩ = some (.string ⟨b[j].toArray⟩) := by rw [hcell2]; simp [sv]
      have e1 : a.take (j + 1) = a.take j ++ [a[j]] := List.take_succ_eq_append_getElem hja
      have e2 : b.take (j + 1) = b.take j ++ [b[j]] := List.take_succ_eq_append_getElem hjb
      have hj1 : (j : Int) < (m : Int) := by omega
      have hj2 : (j : Int) < (k : Int) := by omega
      have hj0 : (0 : Int) ≤ (j : Int) := by omega
      clear hcell1 hcell2 hbel
      cases hx : a[j] == b[j]
      · have Hfin := zH (show decide (a = b) = false by
         rw [decide_eq_false_iff_not]
         intro h
         have : a[j] = b[j] := by subst h; rfl
         rw [this] at hx
         simp at hx)
        have hx' : (a[j] != b[j]) = true := by rw [bne, hx]; rfl
        clear e1 e2
        generalize a[j] = x at *
        generalize b[j] = y at *
        go_wp2_with fail
        go_quiet (fail)
        go_wp2_with fail
        go_ret
        exact ⟨by rw [Hfin.out]; rfl, drawn Hbel.out _⟩
      · have Hnext := zH (show a.take (j + 1) = b.take (j + 1) by rw [e1, e2, Hsame.out, eq_of_beq hx])
        have hx' : (a[j] != b[j]) = false := by rw [bne, hx]; rfl
        clear e1 e2
        generalize a[j] = x at *
        generalize b[j] = y at *
        go_wp2_with fail
        go_quiet (fail)
        go_wp2_with fail
        go_roundw
        case rel => exact ⟨j + 1, by omega, by go_num, Hnext.out, drawn Hbel.out _⟩
        case measure => simp [intOf]; omega
    · have Hfin := zH (show decide (a = b) = true by
       rw [decide_eq_true_iff]
       have h := Hsame.out
       rwa [List.take_of_length_le (by omega), List.take_of_length_le (by omega)] at h)
      go_wp2_with fail
      go_ret
      exact ⟨by rw [Hfin.out]; rfl, Hbel.out⟩
 · have hb : ((m : Int) != (k : Int)) = true := by rw [bne_iff_ne]; omega
   have Hfin := zH (show decide (a = b) = false by
    rw [decide_eq_false_iff_not]
    intro h
    apply hmk
    subst h; omega)
   clear hmk
   go_enter Tryz.func13, Tryz.ntmps13
   go_wp2_with fail
   go_ret
   exact ⟨by rw [Hfin.out]; rfl, Below.refl _ _⟩
structure IsR (B : Nat) (w : World) (g : Nat) (L : List P2) : Prop where
 cells : ∃ (A : Option Addr) (n c : Nat), w.heap[g]? = some (.cells #[.slice A n c] 166 (0, 0)) ∧ n = L.length ∧ n ≤ c ∧ c ≤ maxLen ∧ Rds w A (L.flatMap pv) ∧ (∀ a, A = some a → a.block < B)
 low : g < B
 few : L.length ≤ 41
theorem IsR.below {B : Nat} {w w' : World} {g : Nat} {L : List P2} (H : IsR B w g L) (hb : Below B w w') : IsR B w' g L := by
 obtain ⟨⟨A, n, c, h1, h2, h3, h4, h5, h6⟩, k2, k3⟩ := H
 exact ⟨⟨A, n, c, (hb.block g k2).trans h1, h2, h3, h4, h5.gK hb h6, h6⟩, k2, k3⟩
theorem IsR.mono {B B' : Nat} {w : World} {g : Nat} {L : List P2} (H : IsR B w g L) (hb : B ≤ B') : IsR B' w g L := by
 obtain ⟨⟨A, n, c, h1, h2, h3, h4, h5, h6⟩, k2, k3⟩ := H
 exact ⟨⟨A, n, c, h1, h2, h3, h4, h5, fun a ha => Nat.lt_of_lt_of_le (h6 a ha) hb⟩, Nat.lt_of_lt_of_le k2 hb, k3⟩
theorem any_take_succ {L : List P2} {c : T} {k : Nat} (hk : k < L.length) (h : (L.take k).any (fun p => p.1 == c) = false) (h2 : (L[k].1 == c) = false) : (L.take (k + 1)).any (fun p => p.1 == c) = false := by
 rw [List.take_succ_eq_append_getElem hk, List.any_append, h]
 simp [h2]
def Gw (L : List P2) (c : T) : Bool := L.any fun p => p.1 == c
set_option maxRecDepth 100000 in
set_option maxHeartbeats 1000000 in
theorem yt (B g : Nat) (L : List P2) (c : T) (w : World) (H : IsR B w g L) :
 Calls Tryz.prog 57 #[.pointer (some ⟨g, 0, none⟩), .string ⟨c.toArray⟩] w fun e w' => e = .returned (.bool (Gw L c)) ∧ w = w' := by
 obtain ⟨A, n, cap, h1, h2, h3, h4, h5, _⟩ := H.cells
 have hf := H.few
 have c0 : w.cell? ⟨g, 0, none⟩ = some (.slice A n cap) := cell_of_row _ _ _ _ _ (0, 0) h1
 have hnl : n ≤ L.length := Nat.le_of_eq h2
 have hnl2 : L.length ≤ n := Nat.le_of_eq h2.symm
 have Hrd := zH h5
 clear h1 h2 h3 h4 h5 H
 go_enter Tryz.func57, Tryz.ntmps57
 go_wp2_with fail
 go_loop [5] (fun i => ∃ k : Nat, k ≤ n ∧ i = .int .i64 k ∧ (L.take k).any (fun p => p.1 == c) = false) (fun i => n - (intOf i).toNat)
 case atStart => exact ⟨0, Nat.zero_le _, rfl, rfl⟩
 case round =>
  obtain ⟨k, hk, rfl, hno⟩ := hrel
  have Hno := zH hno
  clear hno
  by_cases hlt : k < n
  · have hkl : k < L.length := by omega
    obtain ⟨b, o, rfl, _, hc0, hc1⟩ := Zh2 Hrd.out hkl
    have hk1 : (k : Int) < (n : Int) := by omega
    have hk0 : (0 : Int) ≤ (k : Int) := by omega
    cases hx : L[k].1 == c
    · have Hn := zH (any_take_succ hkl Hno.out hx)
      generalize L[k] = x at *
      obtain ⟨x1, x2⟩ := x
      simp only at hc0 hc1 hx
      go_wp2_with fail
      go_round
      case rel => exact ⟨k + 1, by omega, by go_num, Hn.out⟩
      case measure => simp [intOf]; omega
    · have Hfin := zH (show Gw L c = true by
       unfold Gw
       rw [List.any_eq_true]
       exact ⟨L[k], List.getElem_mem hkl, hx⟩)
      generalize L[k] = x at *
      obtain ⟨x1, x2⟩ := x
      simp only at hc0 hc1 hx
      go_wp2_with fail
      go_ret
      exact ⟨ze (by rw [Hfin.out]), rfl⟩
  · have Hfin := zH (show Gw L c = false by have := Hno.out; rw [List.take_of_length_le (by omega)] at this; exact this)
    go_wp2_with fail
    go_ret
    exact ⟨ze (by rw [Hfin.out]), rfl⟩
def Vb (L : List P2) (c : T) : T × Bool := match L.find? fun p => p.1 == c with | some p => (p.2, !(c == Zc)) | none => ([], false)
theorem jU {L : List P2} {c : T} {k : Nat} (hk : k < L.length) (h : (L.take k).any (fun p => p.1 == c) = false) (h2 : (L[k].1 == c) = true) : L.find? (fun p => p.1 == c) = some L[k] := by
 have e0 : L.find? (fun p => p.1 == c) = (L.take k ++ L.drop k).find? (fun p => p.1 == c) := by rw [List.take_append_drop]
 rw [e0, List.find?_append]
 have e : (L.take k).find? (fun p => p.1 == c) = none := by
  rw [List.find?_eq_none]
  intro x hx he
  have : (L.take k).any (fun p => p.1 == c) = true := List.any_eq_true.2 ⟨x, hx, he⟩
  rw [h] at this; cases this
 rw [e, Option.none_or, List.drop_eq_getElem_cons hk]
 exact List.find?_cons_of_pos (p := fun p : P2 => p.1 == c) h2
set_option maxRecDepth 100000 in
set_option maxHeartbeats 1000000 in
theorem kL (B g : Nat) (L : List P2) (c : T) (q : T × Bool) (hq : Vb L c = q) (w : World) (H : IsR B w g L) :
 Calls Tryz.prog 92 #[.pointer (some ⟨g, 0, none⟩), .string ⟨c.toArray⟩] w fun e w' => e = .returned (.tuple #[.string ⟨q.1.toArray⟩, .bool q.2]) ∧ w = w' := by
 subst hq
 obtain ⟨A, n, cap, h1, h2, h3, h4, h5, _⟩ := H.cells
 have hf := H.few
 have c0 : w.cell? ⟨g, 0, none⟩ = some (.slice A n cap) := cell_of_row _ _ _ _ _ (0, 0) h1
 have hnl : n ≤ L.length := Nat.le_of_eq h2
 have hnl2 : L.length ≤ n := Nat.le_of_eq h2.symm
 have Hrd := zH h5
 clear h1 h2 h3 h4 h5 H
 go_enter Tryz.func92, Tryz.ntmps92
 go_wp2_with fail
 go_loop [6] (fun i => ∃ k : Nat, k ≤ n ∧ i = .int .i64 k ∧ (L.take k).any (fun p => p.1 == c) = false) (fun i => n - (intOf i).toNat)
 case atStart => exact ⟨0, Nat.zero_le _, rfl, rfl⟩
 case round =>
  obtain ⟨k, hk, rfl, hno⟩ := hrel
  have Hno := zH hno
  clear hno
  by_cases hlt : k < n
  · have hkl : k < L.length := by omega
    obtain ⟨b, o, rfl, _, hc0, hc1⟩ := Zh2 Hrd.out hkl
    have hk1 : (k : Int) < (n : Int) := by omega
    have hk0 : (0 : Int) ≤ (k : Int) := by omega
    cases hx : L[k].1 == c
    · have Hn := zH (any_take_succ hkl Hno.out hx)
      generalize L[k] = x at *
      obtain ⟨x1, x2⟩ := x
      simp only at hc0 hc1 hx
      go_wp2_with fail
      go_round
      case rel => exact ⟨k + 1, by omega, by go_num, Hn.out⟩
      case measure => simp [intOf]; omega
    · have Hfin := zH (show Vb L c = (L[k].2, !(c == Zc)) by
       unfold Vb
       rw [jU hkl Hno.out hx])
      generalize L[k] = x at *
      obtain ⟨x1, x2⟩ := x
      simp only at hc0 hc1 hx Hfin
      cases hO : c == [79, 98, 106, 101, 99, 116]
      · have hO' : (c != [79, 98, 106, 101, 99, 116]) = true := by rw [bne, hO]; rfl
        have Hfin2 := zH (show Vb L c = (x2, true) by rw [Hfin.out]; show (x2, !(c == [79, 98, 106, 101, 99, 116])) = _; rw [hO]; rfl)
        go_wp2_with fail
        go_ret2
        exact ⟨Zj5 Hfin2.out, rfl⟩
      · have hO' : (c != [79, 98, 106, 101, 99, 116]) = false := by rw [bne, hO]; rfl
        have Hfin2 := zH (show Vb L c = (x2, false) by rw [Hfin.out]; show (x2, !(c == [79, 98, 106, 101, 99, 116])) = _; rw [hO]; rfl)
        go_wp2_with fail
        go_ret2
        exact ⟨Zj5 Hfin2.out, rfl⟩
  · have Hfin := zH (show Vb L c = ([], false) by
     have := Hno.out
     rw [List.take_of_length_le (by omega)] at this
     unfold Vb
     rw [List.find?_eq_none.2]
     intro x hx he
     have h2 : L.any (fun p => p.1 == c) = true := List.any_eq_true.2 ⟨x, hx, he⟩
     rw [this] at h2; cases h2)
    go_wp2_with fail
    go_ret2
    exact ⟨Zj5 (t := []) Hfin.out, rfl⟩
set_option maxRecDepth 100000 in
set_option maxHeartbeats 1000000 in
theorem Y1 (A : Option Addr) (n cap : Nat) (ns : List T) (c : T) (w : World) (h2 : n = ns.length) (hf : n ≤ 1000000) (h5 : Rds w A (ns.map sv)) :
 Calls Tryz.prog 154 #[.slice A n cap, .string ⟨c.toArray⟩] w fun e w' => e = .returned (.bool (ns.contains c)) ∧ w = w' := by
 have hnl : n ≤ ns.length := Nat.le_of_eq h2
 have hnl2 : ns.length ≤ n := Nat.le_of_eq h2.symm
 have Hrd := zH h5
 clear h2 h5
 have Hc := zH (show ∀ b : Bool, b = ns.any (fun x => x == c) → b = ns.contains c by
  intro b hb
  rw [hb, Bool.eq_iff_iff]
  simp)
 generalize ns.contains c = R at *
 go_enter Tryz.func154, Tryz.ntmps154
 go_wp2_with fail
 go_loop [5] (fun i => ∃ k : Nat, k ≤ n ∧ i = .int .i64 k ∧ (ns.take k).any (fun x => x == c) = false) (fun i => n - (intOf i).toNat)
 case atStart => exact ⟨0, Nat.zero_le _, rfl, rfl⟩
 case round =>
  obtain ⟨k, hk, rfl, hno⟩ := hrel
  have Hno := zH hno
  clear hno
  by_cases hlt : k < n
  · have hkl : k < ns.length := by omega
    obtain ⟨b, o, rfl, _, hc0⟩ := Hrd.out.at_ (k := k) (by simpa using hkl)
    rw [List.getElem_map] at hc0
    unfold sv at hc0
    have hk1 : (k : Int) < (n : Int) := by omega
    have hk0 : (0 : Int) ≤ (k : Int) := by omega
    cases hx : ns[k] == c
    · have Hn := zH (show (ns.take (k + 1)).any (fun x => x == c) = false by
       rw [List.take_succ_eq_append_getElem hkl, List.any_append, Hno.out]
       simp only [List.any_cons, List.any_nil, hx, Bool.or_false])
      generalize ns[k] = x at *
      go_wp2_with fail
      go_round
      case rel => exact ⟨k + 1, by omega, by go_num, Hn.out⟩
      case measure => simp [intOf]; omega
    · have Hfin := zH (Hc.out true (Eq.symm (List.any_eq_true.2 ⟨ns[k], List.getElem_mem hkl, hx⟩)))
      generalize ns[k] = x at *
      go_wp2_with fail
      go_ret
      exact ⟨ze Hfin.out, rfl⟩
  · have Hfin := zH (Hc.out false (by have := Hno.out; rw [List.take_of_length_le (by omega)] at this; exact this.symm))
    go_wp2_with fail
    go_ret
    exact ⟨ze Hfin.out, rfl⟩
end HierR
namespace HierU
open BinM DescM DescX HierS HierT HierM HierV HierR
def jE (l : List P2) : List P2 := (Zc, []) :: full l
theorem YS (L : List P2) (c : T) : Gw L c = (L.map (·.1)).contains c := by
 unfold Gw
 rw [Bool.eq_iff_iff]
 simp
theorem YR (l : List P2) (c : T) : Gw (jE l) c = (mk l).has c := by rw [YS]; rfl
theorem kK {l : List P2} (ht : twice [Zc] (full l) = none) (hs : qH (nms (full l)) (full l) = none) (c : T) : Vb (jE l) c = qy (mk l) c := by
 obtain ⟨t1, _⟩ := jC _ _ ht
 have s1 := jJ _ _ hs
 unfold Vb qy Hr.up mk abv jE
 simp only
 by_cases hc : c = Zc
 · subst hc
   have hf : (full l).find? (fun p => p.1 == Zc) = none := by
    rw [List.find?_eq_none]
    intro p hp he
    exact t1 p hp (by simp [eq_of_beq he])
   rw [hf, List.find?_cons_of_pos (by simp)]
   rfl
 · have hne : ¬ Zc = c := fun h => hc h.symm
   rw [List.find?_cons_of_neg (by simp [hne])]
   cases hf : (full l).find? (fun p => p.1 == c) with
   | none => rfl
   | some p =>
     simp only [Option.map_some, Option.bind_some]
     rw [yN (s1 p (List.mem_of_find?_eq_some hf))]
     simp [hc]
section
variable {up : T → Option T}
theorem uV : ∀ (N : Nat) (o : Option T) (c : T), Zm up N o c = true ↔ ∃ k, k < N ∧ iter up k o = some c
 | 0, o, c => by simp [Zm]
 | N + 1, none, c => by
   constructor
   · intro h; cases h
   · rintro ⟨k, _, h⟩; rw [jw] at h; cases h
 | N + 1, some u, c => by
   constructor
   · intro h
     unfold Zm at h
     simp only [Bool.or_eq_true, beq_iff_eq] at h
     rcases h with rfl | h
     · exact ⟨0, by omega, rfl⟩
     · obtain ⟨k, hk, e⟩ := (uV N (up u) c).1 h
       exact ⟨k + 1, by omega, e⟩
   · rintro ⟨k, hk, e⟩; exact yL _ k _ _ e hk
theorem YO : ∀ (a b : Nat) (o : Option T), iter up (a + b) o = iter up b (iter up a o)
 | 0, b, o => by rw [Nat.zero_add]; rfl
 | a + 1, b, none => by rw [jw, jw, jw]
 | a + 1, b, some c => by
   rw [show a + 1 + b = (a + b) + 1 by omega]
   exact YO a b (up c)
def pos (up : T → Option T) (c : T) (n : Nat) : Option T := iter up n (some c)
theorem zi5 {l : List T} (h : ¬ l.Nodup) : ∃ i j, i < j ∧ ∃ hj : j < l.length, ∃ hi : i < l.length, l[i] = l[j] := by
 apply Classical.byContradiction
 intro hn
 apply h
 rw [List.Nodup, List.pairwise_iff_getElem]
 intro i j hi hj hij he
 exact hn ⟨i, j, hij, hj, hi, he⟩
theorem zm3 (names : List T) (hup : ∀ c ∈ names, ∀ d, up c = some d → d ∈ names) {c : T} (hc : c ∈ names) : ∀ (k : Nat), iter up k (up c) = some c → ∃ k', k' < names.length ∧ iter up k' (up c) = some c := by
 intro k
 induction k using Nat.strongRecOn with
 | _ k ih =>
   intro hk
   by_cases hlt : k < names.length
   · exact ⟨k, hlt, hk⟩
   ·
    have hp : ∀ n, n ≤ k → ∃ d, pos up c n = some d ∧ d ∈ names := by
     intro n
     induction n with
     | zero => intro _; exact ⟨c, rfl, hc⟩
     | succ n ihn =>
       intro hn
       obtain ⟨d, hd, hdn⟩ := ihn (by omega)
       have e : pos up c (n + 1) = up d := by
        unfold pos
        exact yM n _ _ hd
       cases hu : up d with
       | none =>
         exfalso
         have h1 : iter up (k + 1) (some c) = some c := hk
         rw [show k + 1 = (n + 1) + (k - n) by omega, YO] at h1
         have h2 : iter up (n + 1) (some c) = none := by rw [← hu]; exact e
         rw [h2, jw] at h1
         cases h1
       | some d' => exact ⟨d', by rw [e, hu], hup d hdn d' hu⟩
    let l := (List.range (k + 1)).map fun n => (pos up c n).getD []
    have hll : l.length = k + 1 := by simp [l]
    have hlin : ∀ x ∈ l, x ∈ names := by
     intro x hx
     obtain ⟨n, hn, rfl⟩ := List.mem_map.1 hx
     obtain ⟨d, hd, hdn⟩ := hp n (by have := List.mem_range.1 hn; omega)
     rw [hd]; exact hdn
    have hnn : ¬ l.Nodup := by
     intro h
     have := uO l names h hlin
     omega
    obtain ⟨i, j, hij, hj, hi, he⟩ := zi5 hnn
    rw [hll] at hj hi
    simp only [l, List.getElem_map, List.getElem_range] at he
    obtain ⟨di, hdi, _⟩ := hp i (by omega)
    obtain ⟨dj, hdj, _⟩ := hp j (by omega)
    rw [hdi, hdj] at he
    simp only [Option.getD_some] at he
    subst he
    have h1 : iter up (k + 1) (some c) = some c := hk
    have h2 : iter up (i + (k + 1 - j)) (some c) = some c := by
     rw [YO]
     have e1 : iter up i (some c) = iter up j (some c) := by
      have a : iter up i (some c) = some di := hdi
      have b : iter up j (some c) = some di := hdj
      rw [a, b]
     rw [e1, ← YO, show j + (k + 1 - j) = k + 1 by omega]
     exact h1
    obtain ⟨q, hq⟩ : ∃ q, i + (k + 1 - j) = q + 1 := ⟨i + (k + 1 - j) - 1, by omega⟩
    rw [hq] at h2
    exact ih q (by omega) h2
theorem zj1 (names : List T) (hup : ∀ c ∈ names, ∀ d, up c = some d → d ∈ names) {c : T} (hc : c ∈ names) {M : Nat} (hM : names.length ≤ M) : Zm up M (up c) c = Zm up names.length (up c) c := by
 rw [Bool.eq_iff_iff, uV, uV]
 constructor
 · rintro ⟨k, _, h⟩; exact zm3 names hup hc k h
 · rintro ⟨k, hk, h⟩; exact ⟨k, by omega, h⟩
end
theorem zh0 (l : List P2) : twice [Zc] (full l) = twice (nms alw) l := rfl
theorem zi7 (l : List P2) : qH (nms (full l)) (full l) = qH (nms (full l)) l := by
 have h : ∀ c, c = Zc ∨ c = ZP → (nms (full l)).contains c = true := by
  rintro c (rfl | rfl)
  · simp [nms]
  · simp [nms, full, alw]
 show qH (nms (full l)) (alw ++ l) = _
 unfold alw
 simp only [List.cons_append, List.nil_append, qH, h Zc (.inl rfl), h ZP (.inr rfl), if_true]
theorem Zi8 (l : List P2) (ht : twice [Zc] (full l) = none) : (mk l).up Zc = none ∧ (mk l).up ZP = some Zc ∧ ∀ p ∈ alw, (mk l).up p.1 = some p.2 := by
 obtain ⟨t1, _⟩ := jC _ _ ht
 have h0 : (mk l).up Zc = none := by
  have hf : (full l).find? (fun p => p.1 == Zc) = none := by
   rw [List.find?_eq_none]
   intro p hp he
   exact t1 p hp (by simp [eq_of_beq he])
  unfold Hr.up mk abv
  simp only [hf]
  rfl
 have hall : ∀ p ∈ alw, (mk l).up p.1 = some p.2 := by
  intro p hp
  have hf : (full l).find? (fun q => q.1 == p.1) = some p := by
   unfold full
   rw [List.find?_append]
   have : alw.find? (fun q => q.1 == p.1) = some p := by
    unfold alw at hp
    simp at hp
    rcases hp with rfl | rfl | rfl | rfl | rfl | rfl | rfl | rfl <;> decide
   rw [this]; rfl
  have hin : p.2 ∈ nms (full l) := by
   unfold alw at hp
   simp at hp
   rcases hp with rfl | rfl | rfl | rfl | rfl | rfl | rfl | rfl <;> simp [nms, full, alw]
  unfold Hr.up mk abv
  simp only [hf, Option.map_some, Option.bind_some]
  exact yN hin
 exact ⟨h0, hall (ZP, Zc) (by simp [alw]), hall⟩
theorem Gu (l : List P2) (ht : twice [Zc] (full l) = none) : inLoop (mk l) (full l) = inLoop (mk l) l := by
 obtain ⟨h0, h1, hall⟩ := Zi8 l ht
 have hN : ∃ m, (mk l).names.length = m + 3 := ⟨(mk l).names.length - 3, by simp [mk, nms, full, alw]⟩
 obtain ⟨m, hm⟩ := hN
 have hno : ∀ p ∈ alw, Zm (mk l).up (mk l).names.length ((mk l).up p.1) p.1 = false := by
  intro p hp
  rw [hall p hp, hm]
  have hp2 : (p.2 = Zc ∨ p.2 = ZP) ∧ p.1 ≠ Zc ∧ (p.2 = ZP → p.1 ≠ ZP) := by
   unfold alw at hp
   simp at hp
   rcases hp with rfl | rfl | rfl | rfl | rfl | rfl | rfl | rfl <;> decide
  obtain ⟨h2, h3, h4⟩ := hp2
  rcases h2 with h2 | h2
  · rw [h2]
    simp only [Zm, h0]
    have : (Zc == p.1) = false := by simpa using fun h => h3 h.symm
    rw [this]; rfl
  · have h5 := h4 h2
    rw [h2]
    simp only [Zm, h1, h0]
    have e1 : (ZP == p.1) = false := by simpa using fun h => h5 h.symm
    have e2 : (Zc == p.1) = false := by simpa using fun h => h3 h.symm
    rw [e1, e2]; rfl
 have gen : ∀ q : List P2, (∀ p ∈ q, Zm (mk l).up (mk l).names.length ((mk l).up p.1) p.1 = false) → inLoop (mk l) (q ++ l) = inLoop (mk l) l := by
  intro q
  induction q with
  | nil => intro _; rfl
  | cons p t ih =>
    intro h
    show (if Zm (mk l).up (mk l).names.length ((mk l).up p.1) p.1 = true then _ else _) = _
    rw [h p (by simp)]
    exact ih (fun q hq => h q (by simp [hq]))
 exact gen alw hno
end HierU
namespace HierQ
open Go.RowKit BinM Base Stru DescM DescW DescX HierS HierT HierM HierC HierK HierN HierV HierW HierG HierR HierU
open BinName (ze)
structure Can (l : List P2) : Prop where
 good : yE (mk l)
 tw : twice [Zc] (full l) = none
 su : qH (nms (full l)) (full l) = none
 few : l.length ≤ 32
 long : ∀ c ∈ (mk l).names, c.length ≤ 140737488355000
def ChR (w : World) (h : Hr) (c : T) (cl ch : Value) (wr : World) : Prop :=
 ∃ (p rest : List T) (u : T), zT wr w.heap.size ch p ∧ h.chain c = p ++ rest ∧ cl = .string ⟨u.toArray⟩ ∧ HierC.Next h (qy h u) rest ∧ p.length ≤ 41 ∧ Below w.heap.size w wr
set_option maxRecDepth 100000 in
set_option maxHeartbeats 4000000 in
theorem Uj (B g : Nat) (l : List P2) (c : T) (w : World) (H : IsR B w g (jE l)) (hB : B ≤ w.heap.size) (hC : Can l) :
 Calls Tryz.prog 117 #[.pointer (some ⟨g, 0, none⟩), .string ⟨c.toArray⟩] w fun e w' => ∃ v, e = .returned v ∧ zT w' w.heap.size v ((mk l).chain c) ∧ Below w.heap.size w w' := by
 have HH := zH (fun (wr : World) (hb : Below w.heap.size w wr) => (H.mono hB).below hb)
 have h0 := zH (Below.refl w.heap.size w)
 have HS := zH (fun (u : T) (S : T × Bool) (hS : qy (mk l) u = S) (wr : World) (hb : Below w.heap.size w wr) => kL w.heap.size g (jE l) u S ((kK hC.tw hC.su u).trans hS) wr (HH.out wr hb))
 have hHas := YR l c
 have hlen := jA hC.good c
 have hfew : (mk l).names.length ≤ 41 := by have := hC.few; simp [mk, nms, full, alw]; omega
 have HHas := zH (fun (wr : World) (hb : Below w.heap.size w wr) => yt w.heap.size g (jE l) c wr (HH.out wr hb))
 rw [hHas] at HHas
 by_cases hc : c ∈ (mk l).names
 · have hw := Jt hC.good hc
   obtain ⟨t, ht⟩ := hw.head
   have hn := XE (ht ▸ hw)
   rw [XG.2 hc] at HHas
   have Hct := zH (show (mk l).chain c = [c] ++ t from ht)
   have HN := zH hn
   have Hlen := zH hlen
   clear hw ht hn hc H hB hlen hHas hC
   generalize mk l = h at *
   go_enter Tryz.func117, Tryz.ntmps117
   go_wp2_with (go_at_call 57; refine (HHas.out _ h0.out).mono ?_; rintro e w' ⟨rfl, rfl⟩)
   go_loopw [1, 5] (fun cl ch wr => ChR w h c cl ch wr) (fun _ ch _ => 42 - Zc0 ch)
   case atStart => exact ⟨[c], t, c, zT.one w c, Hct.out, rfl, HN.out, by simp, h0.out.alloc (Nat.le_refl _) _⟩
   case round =>
    obtain ⟨p, rest, u, hown, hch, rfl, hnx, hp41, hbel⟩ := hrel
    obtain ⟨A, cc, rfl, hp1, hp2, hrd, _⟩ := hown.slice
    have Hown := zH hown
    have Hbel := zH hbel
    have hsz := hbel.size
    have Hch := zH hch
    have hp60 : ¬ (60 : Int) < (p.length : Int) := by omega
    generalize hS : qy h u = S at *
    have HS1 := zH (HS.out u S hS wr hbel)
    clear hown hbel hrd hp1 hp2 hch hS
    obtain ⟨s, ok⟩ := S
    simp only at HS1
    cases ok
    · have e := hnx.2 rfl
      subst e
      have Hfin := zH (show h.chain c = p by rw [Hch.out]; simp)
      clear hnx
      go_wp2_with (go_at_call 92; refine HS1.out.mono ?_; rintro e w' ⟨rfl, rfl⟩)
      go_ret
      exact ⟨_, rfl, by rw [Hfin.out]; exact Hown.out, Hbel.out⟩
    · have hwu := hnx.1 rfl
      obtain ⟨t2, rfl⟩ := hwu.head
      have hN2 := zH (XE hwu)
      have hpl : p.length + 1 ≤ 41 := by
       have := Hlen.out
       rw [Hch.out] at this
       simp at this
       omega
      have Hch2 := zH (show h.chain c = (p ++ [s]) ++ t2 by rw [Hch.out]; simp)
      clear hnx hwu
      go_wp2_with (first
       | (go_at_call 92; refine HS1.out.mono ?_; rintro e w' ⟨rfl, rfl⟩)
       | (at_builtin
          refine UK rfl (.tmp 28) (.tmp 30) rfl w.heap.size _ p rfl (Hown.out.alloc _) (some ⟨wr.heap.size, 0, none⟩) 1 1 [s] rfl rfl (zB _ #[sv s] 9) (by simp; omega) (by simp; omega) ?_
          intro v2 w2 hown2 hg2
          have Hb2 := zH (zV (Hbel.out.alloc hsz _) (Hown.out.alloc _) (Nat.le_refl _) (by simp; omega) hg2)
          have Hown2 := zH hown2
          clear hown2 hg2))
      go_roundw
      case rel => exact ⟨p ++ [s], t2, s, Hown2.out, Hch2.out, rfl, hN2.out, by simp; omega, Hb2.out⟩
      case measure =>
       obtain ⟨A2, c2, rfl, _⟩ := Hown2.out.slice
       simp [Zc0]; omega
 · rw [show (mk l).has c = false by simpa [Hr.has] using hc] at HHas
   have Hno := zH (xu hc)
   clear H hB hlen hc hHas hC
   generalize mk l = h at *
   go_enter Tryz.func117, Tryz.ntmps117
   go_wp2_with (go_at_call 57; refine (HHas.out _ h0.out).mono ?_; rintro e w' ⟨rfl, rfl⟩)
   go_ret
   exact ⟨_, rfl, by rw [Hno.out]; exact zT.nil _ _, h0.out⟩
end HierQ
end Go.Proofs.YtehainbhoflpnaaGreatDoor
