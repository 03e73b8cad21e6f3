/-
  slices.IndexFunc and slices.DeleteFunc at holds, with any question asked of a hold; drop.
-/
import Derived.Test.YtkjkofdjnjihjaaLkB
namespace Go.Proofs.Ytkjkofdjnjihjaa
namespace LkD
open Go.RowKit Go.Shelf Base BinM LkM LkA LkB

def hoA (h : Ho) : Value := .agg #[.int .i64 h.a, .int .i64 h.w, .int .i64 h.n]
/-- the first hold of which p says so -/
def idxP (p : Ho → Bool) : List Ho → Nat
  | [] => 0
  | h :: t => if p h then 0 else idxP p t + 1
theorem idxP_le (p : Ho → Bool) (l : List Ho) : idxP p l ≤ l.length := by
  induction l with
  | nil => exact Nat.le_refl _
  | cons h t ih => unfold idxP; split <;> simp <;> omega
theorem idxP_hit {p : Ho → Bool} : ∀ {l : List Ho} {j : Nat} (hj : j < l.length), (∀ x ∈ l.take j, p x = false) → p l[j] = true → idxP p l = j
  | [], _, h, _, _ => absurd h (Nat.not_lt_zero _)
  | h :: t, 0, _, _, hy => by
    have hy' : p h = true := hy
    unfold idxP; rw [if_pos hy']
  | h :: t, j + 1, hj, hno, hy => by
    have h1 : p h = false := hno h (by simp)
    unfold idxP
    rw [h1, idxP_hit (l := t) (j := j) (by simpa using hj) (fun x hx => hno x (by simp [hx])) hy]
    rfl
theorem idxP_none {p : Ho → Bool} : ∀ {l : List Ho}, (∀ x ∈ l, p x = false) → idxP p l = l.length
  | [], _ => rfl
  | h :: t, hno => by
    unfold idxP
    rw [hno h (by simp), idxP_none (l := t) (fun x hx => hno x (by simp [hx]))]
    rfl
theorem idxP_at {p : Ho → Bool} : ∀ {l : List Ho} (h : idxP p l < l.length), p (l[idxP p l]'h) = true ∧ ∀ x ∈ l.take (idxP p l), p x = false
  | [], h => absurd h (Nat.not_lt_zero _)
  | x :: t, h => by
    cases hx : p x with
    | true =>
      have h0 : idxP p (x :: t) = 0 := by unfold idxP; rw [if_pos hx]
      simp only [h0]
      exact ⟨hx, by simp⟩
    | false =>
      have h0 : idxP p (x :: t) = idxP p t + 1 := by rw [idxP, if_neg (by simp [hx])]
      simp only [h0]
      obtain ⟨a, b⟩ := idxP_at (l := t) (by rw [h0] at h; simpa using h)
      refine ⟨a, fun y hy => ?_⟩
      rw [List.take_succ_cons, List.mem_cons] at hy
      rcases hy with rfl | hy
      · exact hx
      · exact b y hy
/-- what IndexFunc answers -/
def idxV (p : Ho → Bool) (l : List Ho) : Int := if idxP p l < l.length then (idxP p l : Int) else -1
theorem idxV_hit {p : Ho → Bool} {l : List Ho} {j : Nat} (hj : j < l.length) (h : ∀ x ∈ l.take j, p x = false) (hp : p l[j] = true) : idxV p l = (j : Int) := by
  unfold idxV
  rw [idxP_hit hj h hp, if_pos hj]
theorem idxV_none {p : Ho → Bool} {l : List Ho} (h : ∀ x ∈ l, p x = false) : idxV p l = -1 := by
  unfold idxV
  rw [idxP_none h, if_neg (by omega)]
theorem idxP_full {p : Ho → Bool} : ∀ {l : List Ho}, ¬ idxP p l < l.length → ∀ x ∈ l, p x = false
  | [], _, x, hx => by cases hx
  | h :: t, hn, x, hx => by
    cases hh : p h with
    | true => exact absurd (show idxP p (h :: t) < (h :: t).length by unfold idxP; rw [if_pos hh]; simp) hn
    | false =>
      have h0 : idxP p (h :: t) = idxP p t + 1 := by rw [idxP, if_neg (by simp [hh])]
      rw [List.mem_cons] at hx
      rcases hx with rfl | hx
      · exact hh
      · exact idxP_full (l := t) (by rw [h0] at hn; simpa using hn) x hx
theorem take_step {p : Ho → Bool} {l : List Ho} {j : Nat} (hj : j < l.length) (h : ∀ x ∈ l.take j, p x = false) (hp : p l[j] = false) : ∀ x ∈ l.take (j + 1), p x = false := by
  intro x hx
  rw [List.take_succ_eq_append_getElem hj, List.mem_append, List.mem_singleton] at hx
  rcases hx with hx | rfl
  · exact h x hx
  · exact hp

/-- a question asked of holds by a closure over the block bl -/
def Asks (gf bl : Nat) (C : Array Value) (t : TypeId) (p : Ho → Bool) : Prop :=
  ∀ W, Bx W bl C t → ∀ h : Ho, Calls Try.prog gf #[hoA h, .pointer (some ⟨bl, 0, none⟩)] W fun e W' => e = .returned (.bool (p h)) ∧ Below W.heap.size W W'
theorem asksA (bl : Nat) (x : Int) : Asks 29 bl #[.int .i64 x] 2 (fun h => h.a == x) := by
  intro W hb h
  obtain ⟨h0, h1, h2⟩ := h
  unfold hoA
  simp only
  have hbel := (Below.refl W.heap.size W).alloc (Nat.le_refl _) (.cells #[.int .i64 h0, .int .i64 h1, .int .i64 h2] 53)
  have HB := Lib.hid hbel
  have q := (hb.after hbel).cell 0
  clear hbel
  go_enter Try.func29, Try.ntmps29
  go_wp2_with fail
  go_ret
  exact ⟨rfl, HB.out⟩
theorem asksW (bl : Nat) (x : Int) : Asks 30 bl #[.int .i64 x] 3 (fun h => h.w == x) := by
  intro W hb h
  obtain ⟨h0, h1, h2⟩ := h
  unfold hoA
  simp only
  have hbel := (Below.refl W.heap.size W).alloc (Nat.le_refl _) (.cells #[.int .i64 h0, .int .i64 h1, .int .i64 h2] 53)
  have HB := Lib.hid hbel
  have q := (hb.after hbel).cell 0
  clear hbel
  go_enter Try.func30, Try.ntmps30
  go_wp2_with fail
  go_ret
  exact ⟨rfl, HB.out⟩

section
variable {gf bl : Nat} {C : Array Value} {t : TypeId} {p : Ho → Bool} (eg : ∀ args w, (callFunc gf args).run Try.prog w = .ok (.enter gf args) w) (hask : Asks gf bl C t p)
include eg hask
set_option maxRecDepth 100000 in
set_option maxHeartbeats 2000000 in
theorem index_any (A : Option Addr) (l : List Ho) (m c : Nat) (w : World) (hm : m = l.length) (hmx : m ≤ 100000) (hr : Rds w A (l.flatMap hoV)) (hb : Bx w bl C t) :
    Calls Try.prog 37 #[.slice A m c, .func (.func gf) #[] #[.pointer (some ⟨bl, 0, none⟩)]] w fun e w' => e = .returned (.int .i64 (idxV p l)) ∧ Below w.heap.size w w' := by
  have hml : l.length ≤ m := Nat.le_of_eq hm.symm
  have hml2 : m ≤ l.length := Nat.le_of_eq hm
  have Hr := Lib.hid hr
  have HB := Lib.hid hb
  have HAsk := Lib.hid hask
  clear hr hb hm hask
  go_enter Try.func37, Try.ntmps37
  go_wp2_with fail
  go_loopw [5, 8] (fun _ i wr => ∃ j : Nat, j ≤ m ∧ i = .int .i64 j ∧ (∀ x ∈ l.take j, p x = false) ∧ Below w.heap.size w wr) (fun _ i _ => m - (intOf i).toNat)
  case atStart => exact ⟨0, Nat.zero_le _, rfl, by simp, Below.refl _ _⟩
  case round =>
    obtain ⟨j, hj, rfl, hno, hbel⟩ := hrel
    have Hno := Lib.hid hno
    have Hbel := Lib.hid hbel
    have hsz := hbel.size
    clear hno
    by_cases hlt : j < m
    · have hja : j < l.length := by omega
      obtain ⟨b1, o1, rfl, hb1, hc⟩ := Stru.flat_at (f := hoV) (n := 3) hoV_len (by omega) (Hr.out.below hbel) hja
      have hc0 := hc 0 _ rfl
      have hc1 := hc 1 _ rfl
      have hc2 := hc 2 _ rfl
      rw [Nat.add_zero] at hc0
      rw [← Nat.add_assoc] at hc1 hc2
      have hj1 : (j : Int) < (m : Int) := by omega
      have hj0 : (0 : Int) ≤ (j : Int) := by omega
      have Hat := Lib.hid (fun he => idxV_hit hja Hno.out he)
      have Hnext := Lib.hid (fun he => take_step hja Hno.out he)
      have Hclo := Lib.hid (fun W (hw : Below wr.heap.size wr W) => HAsk.out W ((HB.out.after Hbel.out).after hw) l[j])
      clear hbel hc
      generalize l[j] = x at *
      obtain ⟨x0, x1, x2⟩ := x
      unfold hoA at Hclo
      simp only at hc0 hc1 hc2 Hclo
      generalize p _ = D at *
      go_wp2_with fail
      refine Calls.mono (Hclo.out _ (Below.refl _ _)) ?_
      rintro e w3 ⟨rfl, hb3⟩
      have B3 := Lib.hid (Hbel.out.trans (hb3.mono hsz))
      clear hb3
      cases D
      · have Hq := Lib.hid (Hnext.out rfl)
        go_wp2_with fail
        go_roundw
        case rel => exact ⟨j + 1, by omega, by go_num, Hq.out, B3.out⟩
        case measure => simp [intOf]; omega
      · have Hq := Lib.hid (Hat.out rfl)
        go_wp2_with fail
        go_ret
        exact ⟨by rw [Hq.out]; rfl, B3.out⟩
    · have hjm : j = m := by omega
      have Hq := Lib.hid (idxV_none (p := p) (l := l) (by have := Hno.out; rw [List.take_of_length_le (by omega)] at this; exact this))
      clear hbel
      go_wp2_with fail
      go_ret
      exact ⟨by rw [Hq.out]; rfl, Hbel.out⟩
end

/-- a hold, written whole -/
theorem flat_set3 (h : Ho) : ∀ (l : List Ho) (k : Nat) (_ : k < l.length), (((l.flatMap hoV).set (k * 3) (.int .i64 h.a)).set (k * 3 + 1) (.int .i64 h.w)).set (k * 3 + 2) (.int .i64 h.n) = (l.set k h).flatMap hoV
  | [], k, hk => absurd hk (Nat.not_lt_zero _)
  | x :: t, 0, _ => rfl
  | x :: t, k + 1, hk => by
    have e : (k + 1) * 3 = k * 3 + 1 + 1 + 1 := by omega
    rw [e]
    have e1 : k * 3 + 1 + 1 + 1 + 1 = (k * 3 + 1) + 1 + 1 + 1 := by omega
    have e2 : k * 3 + 1 + 1 + 1 + 2 = (k * 3 + 2) + 1 + 1 + 1 := by omega
    rw [e1, e2]
    simp only [List.flatMap_cons, hoV, List.cons_append, List.nil_append, List.set_cons_succ, List.cons.injEq, true_and]
    exact flat_set3 h t k (by simpa using hk)
/-- those of the first j that stay -/
def kept (p : Ho → Bool) (l : List Ho) (j : Nat) : List Ho := (l.take j).filter (fun h => !p h)
theorem kept_le (p : Ho → Bool) (l : List Ho) (j : Nat) : (kept p l j).length ≤ j := by
  unfold kept
  have h1 := List.length_filter_le (fun h => !p h) (l.take j)
  rw [List.length_take] at h1
  omega
theorem kept_no {p : Ho → Bool} {l : List Ho} {j : Nat} (hj : j < l.length) (h : p l[j] = true) : kept p l (j + 1) = kept p l j := by
  unfold kept
  rw [List.take_succ_eq_append_getElem hj, List.filter_append]
  simp [h]
theorem kept_yes {p : Ho → Bool} {l : List Ho} {j : Nat} (hj : j < l.length) (h : p l[j] = false) : kept p l (j + 1) = kept p l j ++ [l[j]] := by
  unfold kept
  rw [List.take_succ_eq_append_getElem hj, List.filter_append]
  simp [h]
theorem kept_all (p : Ho → Bool) (l : List Ho) {j : Nat} (hj : l.length ≤ j) : kept p l j = l.filter (fun h => !p h) := by
  unfold kept
  rw [List.take_of_length_le hj]
theorem kept_start {p : Ho → Bool} {l : List Ho} {j : Nat} (h : ∀ x ∈ l.take j, p x = false) : kept p l j = l.take j := by
  unfold kept
  rw [List.filter_eq_self]
  intro x hx
  rw [h x hx]; rfl
/-- all that is there behind j steps -/
def mixed (p : Ho → Bool) (l : List Ho) (j : Nat) : List Ho := kept p l j ++ l.drop (kept p l j).length
theorem mixed_len (p : Ho → Bool) (l : List Ho) {j : Nat} (hj : j ≤ l.length) : (mixed p l j).length = l.length := by
  unfold mixed
  have := kept_le p l j
  rw [List.length_append, List.length_drop]
  omega
theorem mixed_at (p : Ho → Bool) (l : List Ho) {j : Nat} (hj : j < l.length) : (mixed p l j)[j]'(by rw [mixed_len p l (by omega)]; exact hj) = l[j] := by
  have hk := kept_le p l j
  simp only [mixed]
  rw [List.getElem_append_right hk, List.getElem_drop]
  congr 1
  omega
theorem mixed_no {p : Ho → Bool} {l : List Ho} {j : Nat} (hj : j < l.length) (h : p l[j] = true) : mixed p l (j + 1) = mixed p l j := by
  unfold mixed
  rw [kept_no hj h]
theorem mixed_yes {p : Ho → Bool} {l : List Ho} {j : Nat} (hj : j < l.length) (h : p l[j] = false) : mixed p l (j + 1) = (mixed p l j).set (kept p l j).length l[j] := by
  have hk := kept_le p l j
  unfold mixed
  rw [kept_yes hj h, List.set_append_right _ _ (Nat.le_refl _), Nat.sub_self, List.append_assoc, List.length_append, List.length_singleton]
  congr 1
  rw [List.drop_eq_getElem_cons (show (kept p l j).length < l.length by omega)]
  rfl
theorem mixed_start {p : Ho → Bool} {l : List Ho} (h : idxP p l < l.length) : mixed p l (idxP p l + 1) = l ∧ (kept p l (idxP p l + 1)).length = idxP p l := by
  obtain ⟨h1, h2⟩ := idxP_at h
  have h3 : kept p l (idxP p l) = l.take (idxP p l) := kept_start h2
  have h4 : (kept p l (idxP p l + 1)).length = idxP p l := by rw [kept_no h h1, h3, List.length_take]; omega
  refine ⟨?_, h4⟩
  rw [mixed_no h h1]
  unfold mixed
  rw [h3, List.length_take, Nat.min_eq_left (by omega), List.take_append_drop]

/-- clear of what is behind i -/
theorem run_clear3 {w : World} {g n c i : Nat} {xs : List Value} (hown : w.ownsRow 0 53 3 (.slice (some ⟨g, 0, none⟩) n c) n xs) (hi : i < n) (cc : Nat) (ty : TypeId) :
    ∃ w', (Builtin.clear_ #[46] ty #[.slice (some ⟨g, i * 3, none⟩) (n - i) cc]).run Try.prog w = .ok (.tuple #[]) w' ∧ w'.ownsRow 0 53 3 (.slice (some ⟨g, 0, none⟩) i c) i (xs.take (i * 3)) ∧ w.grownBy w' (some g) := by
  obtain ⟨r1, r2⟩ := hown
  rcases r2 with ⟨r2, _⟩ | ⟨g', cap, cur, r2, r3, r4, r5, r6, r7, r8⟩
  · cases r2
  · injection r2 with r2 r2' r2''
    injection r2 with r2
    injection r2 with r2
    subst r2
    subst r2''
    have hv : ∀ w, (zeroValue 53).run Try.prog w = .ok (.agg #[.int .i64 0, .int .i64 0, .int .i64 0]) w := fun w => by kernel_rfl
    have hsz : (Builtin.zeroCells (Value.cells (.agg #[.int .i64 0, .int .i64 0, .int .i64 0])) (n - i)).size = (n - i) * 3 := by rw [size_zeroCells]; rfl
    have h1 : ∀ v ∈ (Builtin.zeroCells (Value.cells (.agg #[.int .i64 0, .int .i64 0, .int .i64 0])) (n - i)).toList, v.oneCell' = true := by
      intro v hv
      rw [Array.mem_toList_iff] at hv
      unfold Builtin.zeroCells at hv
      obtain ⟨k, _, rfl⟩ := Array.mem_map.1 hv
      have h3 : k % 3 < 3 := Nat.mod_lt _ (by omega)
      have hsz3 : (Value.cells (.agg #[.int .i64 0, .int .i64 0, .int .i64 0])).size = 3 := rfl
      rw [hsz3]
      generalize k % 3 = m at h3
      match m, h3 with
      | 0, _ => rfl
      | 1, _ => rfl
      | 2, _ => rfl
    generalize hz : (Builtin.zeroCells (Value.cells (.agg #[.int .i64 0, .int .i64 0, .int .i64 0])) (n - i)) = z at *
    have hlz : z.toList.length = (n - i) * 3 := by rw [Array.length_toList]; exact hsz
    have hfit : i * 3 + 0 + z.toList.length ≤ cur.size := by rw [hlz, r7]; omega
    have hst := run_storeCells_at Try.prog g (i * 3) 53 z.toList 0 cur w r4 hfit h1
    generalize hcs : (cur.toList.take (i * 3 + 0) ++ z.toList ++ cur.toList.drop (i * 3 + 0 + z.toList.length)).toArray = cs at *
    refine ⟨w.setRow g cs, ?_, ⟨?_, .inr ⟨g, c, cs, rfl, r3, setRow_heap w g cur _ 53 _ r4, by omega, r6, ?_, ?_⟩⟩, ⟨rfl, rfl, rfl, by simp, fun k _ hk => setRow_other w g k _ (fun e => hk (by simp [e]))⟩⟩
    · obtain ⟨m, hm⟩ : ∃ m, n - i = m + 1 := ⟨n - i - 1, by omega⟩
      rw [hm] at hz ⊢
      simp [Builtin.clear_, run_underlying Try.underlying46, hv, hz, hst]
    · rw [List.length_take, r1]; omega
    · subst hcs
      simp only [List.size_toArray, List.length_append, List.length_take, List.length_drop, Array.length_toList]
      rw [hsz]
      omega
    · subst hcs
      have h2 : cur.toList.take (i * 3 + 0) = xs.take (i * 3) := by rw [Nat.add_zero, ← r8, List.take_take, Nat.min_eq_left (by omega)]
      have h4 : (xs.take (i * 3)).length = i * 3 := by rw [List.length_take, r1]; omega
      rw [h2, List.append_assoc]
      exact List.take_left' h4
section
variable {gf bl : Nat} {C : Array Value} {t : TypeId} {p : Ho → Bool} (eg : ∀ args w, (callFunc gf args).run Try.prog w = .ok (.enter gf args) w) (hask : Asks gf bl C t p) (hne : t ≠ 53)
include eg hask hne
set_option maxRecDepth 100000 in
set_option maxHeartbeats 4000000 in
theorem delete_any (A : Option Addr) (l : List Ho) (c : Nat) (w : World) (hmx : l.length ≤ 100000) (hown : w.ownsRow 0 53 3 (.slice A l.length c) l.length (l.flatMap hoV)) (hb : Bx w bl C t) :
    Calls Try.prog 33 #[.slice A l.length c, .func (.func gf) #[] #[.pointer (some ⟨bl, 0, none⟩)]] w fun e w' =>
      e = .returned (.slice A (l.filter (fun h => !p h)).length c) ∧ w'.ownsRow 0 53 3 (.slice A (l.filter (fun h => !p h)).length c) (l.filter (fun h => !p h)).length ((l.filter (fun h => !p h)).flatMap hoV) ∧ Turned (fun k => ∃ a, A = some a ∧ a.block = k) w w' := by
  have HIx := Lib.hid (index_any eg hask A l l.length c w rfl hmx (Stru.Rds.ownN hown) hb)
  by_cases hi : idxP p l < l.length
  · obtain ⟨h1, h2⟩ := idxP_at hi
    have hv : idxV p l = (idxP p l : Int) := by unfold idxV; rw [if_pos hi]
    rw [hv] at HIx
    obtain ⟨s1, s2⟩ := mixed_start hi
    have HS := Lib.hid (And.intro s1 s2)
    obtain ⟨g, hA⟩ : ∃ g, A = some ⟨g, 0, none⟩ := by
      obtain ⟨g, cap, e, _⟩ := hown.form (by omega)
      injection e with e _ _
      exact ⟨g, e⟩
    subst hA
    have hbg : bl ≠ g := fun e => own_ne hown hb hne (by rw [e]; rfl)
    have hlc : l.length ≤ c := by
      obtain ⟨A', c', e, h1, _⟩ := own_slice hown
      injection e with _ _ e
      omega
    have HO := Lib.hid hown
    have HB := Lib.hid hb
    have HAsk := Lib.hid hask
    have HEnd := Lib.hid (kept_all p l (Nat.le_refl l.length))
    have HLn := Lib.hid (fun j (hj : j ≤ l.length) => mixed_len p l hj)
    generalize hk0 : idxP p l = k0 at *
    have hk1 : ((k0 : Int) == -1) = false := by rw [beq_eq_false_iff_ne]; omega
    clear hown hb hask h1 h2 hv s1 s2 hne
    go_enter Try.func33, Try.ntmps33
    go_wp2_with (go_at_call 37; refine HIx.out.mono ?_; rintro e w1 ⟨rfl, hb1⟩; have HB1 := Lib.hid hb1; clear hb1)
    go_loopw [5, 6, 7] (fun i j _ wr => ∃ J : Nat, J ≤ l.length ∧ k0 < J ∧ i = .int .i64 ((kept p l J).length : Int) ∧ j = .int .i64 J ∧ wr.ownsRow 0 53 3 (.slice (some ⟨g, 0, none⟩) l.length c) l.length ((mixed p l J).flatMap hoV) ∧ Turned (· = g) w wr ∧ (kept p l J).length < J) (fun _ j _ _ => l.length - (intOf j).toNat)
    case atStart => exact ⟨k0 + 1, by omega, by omega, by rw [HS.out.2], rfl, by rw [HS.out.1]; exact own_same HO.out (fun k hk => by injection hk with hk; subst hk; exact HB1.out.block _ (HO.out.lt _ rfl).2), Turned.of_below HB1.out, by rw [HS.out.2]; omega⟩
    case round =>
      obtain ⟨J, hJ, hJ0, rfl, rfl, ho, ht, hkl⟩ := hrel
      have HRow := Lib.hid ho
      have Ht := Lib.hid ht
      by_cases hlt : J < l.length
      · have hml := mixed_len p l hJ
        have hc : ∀ j u, (hoV (l[J]))[j]? = some u → wr.cell? ⟨g, J * 3 + j, none⟩ = some u := by
          intro j u hu
          obtain ⟨b1, o1, e1, _, hc⟩ := Stru.flat_at (f := hoV) (n := 3) hoV_len (by omega) (Stru.Rds.ownN (by rw [← hml] at ho; exact ho)) (k := J) (by omega)
          injection e1 with e1
          injection e1 with e1 e2
          subst e1
          subst e2
          have := hc j u (by rw [mixed_at p l hlt]; exact hu)
          rwa [Nat.zero_add] at this
        have hc0 := hc 0 _ rfl
        have hc1 := hc 1 _ rfl
        have hc2 := hc 2 _ rfl
        rw [Nat.add_zero] at hc0
        have hj1 : (J : Int) < (l.length : Int) := by omega
        have hj0 : (0 : Int) ≤ (J : Int) := by omega
        have HBr : Hid (Bx wr bl C t) := Lib.hid ((ht.block bl HB.out.lt (fun e => hbg e)).trans HB.out)
        have Hclo := Lib.hid (fun W (hw : Below wr.heap.size wr W) => HAsk.out W (HBr.out.after hw) l[J])
        have hgl := (ho.lt g rfl).2
        have HN := Lib.hid (fun (h : p l[J] = true) => And.intro (kept_no hlt h) (mixed_no hlt h))
        have HY := Lib.hid (fun (h : p l[J] = false) => And.intro (kept_yes hlt h) (mixed_yes hlt h))
        have HKl := Lib.hid (kept_le p l J)
        clear ho ht hc hml
        generalize hx : l[J] = x at *
        obtain ⟨x0, x1, x2⟩ := x
        unfold hoA at Hclo
        simp only at hc0 hc1 hc2 Hclo
        generalize p _ = D at *
        go_wp2_with fail
        refine Calls.mono (Hclo.out _ ((Below.refl _ wr).alloc (Nat.le_refl _) _)) ?_
        rintro e w3 ⟨rfl, hb3⟩
        have hA3 : Below wr.heap.size wr w3 := ((Below.refl _ wr).alloc (Nat.le_refl _) _).trans (hb3.mono (by simp))
        have r3 := own_same (w' := w3) HRow.out (fun k hk => hA3.block k (HRow.out.lt k hk).2)
        have bxv : Bx w3 wr.heap.size #[.int .i64 x0, .int .i64 x1, .int .i64 x2] 53 := (Bx.new wr _ _).after hb3
        have v0 := bxv.cell 0
        have v1 := bxv.cell 1
        have v2 := bxv.cell 2
        have B3 := Lib.hid hA3
        have R3 := Lib.hid r3
        clear hb3 hA3 r3 bxv
        cases D
        · have HYj := Lib.hid (HY.out rfl)
          have hKm : (kept p l J).length < (mixed p l J).length := by rw [HLn.out J hJ]; omega
          have hcw : ∀ j, j < 3 → w3.cell? ⟨g, (kept p l J).length * 3 + j, none⟩ = (hoV ((mixed p l J)[(kept p l J).length]'hKm))[j]? := fun j hj => by
            rw [R3.out.cellAt ((kept p l J).length * 3 + j) (by omega)]
            exact Stru.flat_get hoV 3 hoV_len _ _ j hKm hj
          have z0 : w3.cell? ⟨g, (kept p l J).length * 3, none⟩ = some _ := hcw 0 (by omega)
          have z1 : w3.cell? ⟨g, (kept p l J).length * 3 + 1, none⟩ = some _ := hcw 1 (by omega)
          have z2 : w3.cell? ⟨g, (kept p l J).length * 3 + 2, none⟩ = some _ := hcw 2 (by omega)
          have f0 := R3.out.frozenAt ((kept p l J).length * 3)
          have f1 := R3.out.frozenAt ((kept p l J).length * 3 + 1)
          have f2 := R3.out.frozenAt ((kept p l J).length * 3 + 2)
          generalize (mixed p l J)[(kept p l J).length]'hKm = y at *
          have hkn : ((kept p l J).length : Int) < (l.length : Int) := by omega
          have hkn0 : (0 : Int) ≤ ((kept p l J).length : Int) := by omega
          have HK := Lib.hid (rfl : kept p l J = kept p l J)
          clear hcw hKm
          generalize hKl : (kept p l J).length = K at *
          have HKl2 := Lib.hid hKl
          go_wp2_with fail
          go_roundw
          case rel =>
            have o1 := own_setN (own_setN (own_setN R3.out (K * 3) (.int .i64 x0)) (K * 3 + 1) (.int .i64 x1)) (K * 3 + 2) (.int .i64 x2)
            rw [flat_set3 ⟨x0, x1, x2⟩ (mixed p l J) K (by rw [HLn.out J hJ]; omega), ← HYj.out.2] at o1
            have hk2 : (kept p l (J + 1)).length = K + 1 := by rw [HYj.out.1, List.length_append, HKl2.out]; rfl
            refine ⟨J + 1, by omega, by omega, by rw [hk2]; go_num, by go_num, o1, ?_, by omega⟩
            have t3 : Turned (· = g) w w3 := Ht.out.trans (Turned.of_below (F := (· = g)) B3.out) (fun j h => .inl h)
            have t4 := t3.trans (Turned.of_set (F := (· = g)) w3 (a := ⟨g, K * 3, none⟩) rfl (.int .i64 x0)) (fun j h => .inl h)
            have t5 := t4.trans (Turned.of_set (F := (· = g)) _ (a := ⟨g, K * 3 + 1, none⟩) rfl (.int .i64 x1)) (fun j h => .inl h)
            exact t5.trans (Turned.of_set (F := (· = g)) _ (a := ⟨g, K * 3 + 2, none⟩) rfl (.int .i64 x2)) (fun j h => .inl h)
          case measure => simp [intOf]; omega
        · have HNj := Lib.hid (HN.out rfl)
          go_wp2_with fail
          go_roundw
          case rel =>
            refine ⟨J + 1, by omega, by omega, by rw [HNj.out.1], by go_num, by rw [HNj.out.2]; exact R3.out, Ht.out.trans (Turned.of_below (F := (· = g)) B3.out) (fun j h => .inl h), by rw [HNj.out.1]; omega⟩
          case measure => simp [intOf]; omega
      · have hJl : J = l.length := by omega
        subst hJl
        have HT : Hid (((mixed p l l.length).flatMap hoV).take ((kept p l l.length).length * 3) = (kept p l l.length).flatMap hoV) := Lib.hid (by
          unfold mixed
          rw [List.flatMap_append]
          exact List.take_left' (by rw [Stru.flat_len hoV 3 hoV_len]))
        have hkk : (kept p l l.length).length < l.length := hkl
        have hcK : ¬ c = (kept p l l.length).length := by omega
        have hcK2 : (kept p l l.length).length < c := by omega
        have hkz : ((kept p l l.length).length : Int) ≤ (l.length : Int) := by omega
        have hkz0 : (0 : Int) ≤ ((kept p l l.length).length : Int) := by omega
        clear ho ht
        generalize hKe : (kept p l l.length).length = K at *
        have HKe := Lib.hid hKe
        clear hKe
        obtain ⟨w5, hrun5, hown5, hg5⟩ := run_clear3 HRow.out hkk (c - K) 0
        rw [HT.out] at hown5
        have H5 := Lib.hid hown5
        have G5 := Lib.hid hg5
        clear hown5 hg5
        go_wp2_with fail
        go_ret
        have t5 : Turned (· = g) w w5 := Ht.out.trans (Turned.of_grown (F := (· = g)) G5.out (fun k hk => by injection hk with hk; exact hk.symm)) (fun j h => .inl h)
        refine ⟨by rw [← HEnd.out, HKe.out]; rfl, by rw [← HEnd.out, HKe.out]; exact H5.out, ⟨t5.os, t5.tape, t5.output, t5.size, fun j hj hn => t5.block j hj (fun e => hn ⟨_, rfl, e.symm⟩)⟩⟩
  · have hno := idxP_full hi
    have hv : idxV p l = -1 := idxV_none hno
    rw [hv] at HIx
    have hfl : l.filter (fun h => !p h) = l := by
      rw [List.filter_eq_self]
      intro x hx
      rw [hno x hx]; rfl
    rw [hfl]
    have HO := Lib.hid hown
    clear hown hb hask hno hv hfl hi hne
    go_enter Try.func33, Try.ntmps33
    go_wp2_with (go_at_call 37; refine HIx.out.mono ?_; rintro e w1 ⟨rfl, hb1⟩; have HB1 := Lib.hid hb1; clear hb1)
    go_ret
    exact ⟨rfl, own_same HO.out (fun k hk => HB1.out.block k (HO.out.lt k hk).2), Turned.of_below HB1.out⟩
end

section
variable {gf bl : Nat} {C : Array Value} {t : TypeId} {p : Ho → Bool} (eg : ∀ args w, (callFunc gf args).run Try.prog w = .ok (.enter gf args) w) (hask : Asks gf bl C t p) (hne : t ≠ 53)
include eg hask hne
set_option maxRecDepth 100000 in
theorem drop_any {w : World} {b : Nat} {A : Option Addr} {c : Nat} {hs : List Ho} (H : Lk 48 53 w b A c hs) (hl : hs.length ≤ 100000) (hb : Bx w bl C t) :
    Calls Try.prog 28 #[.pointer (some ⟨b, 0, none⟩), .func (.func gf) #[] #[.pointer (some ⟨bl, 0, none⟩)]] w fun e w' => e = .returned (.tuple #[]) ∧ NextL 48 53 w w' b A (hs.filter (fun h => !p h)) := by
  have HD := Lib.hid (delete_any eg hask hne A hs c w hl H.row hb)
  have HH := Lib.hid H
  have c0 := H.box.cell 0
  have hbl := H.box.lt
  clear H hask hb
  go_enter Try.func28, Try.ntmps28
  go_wp2_with (go_at_call 33; refine HD.out.mono ?_; rintro e w1 ⟨rfl, hr1, ht1⟩; have hb1 : Bx w1 b #[.slice A hs.length c] 48 := (ht1.block b HH.out.box.lt (fun ⟨a, q1, q2⟩ => HH.out.apart q1 q2)).trans HH.out.box; have d0 := hb1.cell 0; have d1 := hb1.free 0; have HB1 := Lib.hid hb1; have R1 := Lib.hid hr1; have T1 := Lib.hid ht1; clear hb1 hr1 ht1)
  go_end0
  refine ⟨rfl, A, c, ⟨HB1.out.set 0 _, own_same R1.out (fun k hk => heap_setCell_other w1 _ k _ ?_), HH.out.ne⟩, ?_, fun _ h => .inl h⟩
  · obtain ⟨a, q1, q2⟩ := block_of hk
    rw [← q2]
    exact HH.out.apart q1
  · have t1 : Turned (feet b A) w w1 := ⟨T1.out.os, T1.out.tape, T1.out.output, T1.out.size, fun j hj hn => T1.out.block j hj (fun h => hn (.inr h))⟩
    exact t1.trans (Turned.of_set (F := feet b A) w1 (.inl rfl) _) (fun j h => .inl h)
end
end LkD
end Go.Proofs.Ytkjkofdjnjihjaa
