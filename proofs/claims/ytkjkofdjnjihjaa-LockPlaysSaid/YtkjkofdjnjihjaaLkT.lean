/-
  Two lists of holds side by side in new memory, and boxes beside them; what compares two lists of numbers; what one thread's calls leave of the others'.
-/
import Derived.Test.YtkjkofdjnjihjaaLkK
import Derived.Test.YtkjkofdjnjihjaaLkP
namespace Go.Proofs.Ytkjkofdjnjihjaa
namespace LkT
open Go.RowKit Go.Shelf Base BinM LkM LkA LkB LkD LkE LkF LkK LkP

abbrev Box := Nat × Array Value × TypeId
structure Two (tb te tb2 te2 : TypeId) (w0 w : World) (b : Nat) (A : Option Addr) (c : Nat) (hs : List Ho) (b2 : Nat) (A2 : Option Addr) (c2 : Nat) (hs2 : List Ho) (bxs : List Box) : Prop where
  l : Lk tb te w b A c hs
  r : Lk tb2 te2 w b2 A2 c2 hs2
  apart : ∀ k, feet b A k → ¬ feet b2 A2 k
  lo : ∀ k, feet b A k → w0.heap.size ≤ k
  ro : ∀ k, feet b2 A2 k → w0.heap.size ≤ k
  bel : Below w0.heap.size w0 w
  box : ∀ x ∈ bxs, Bx w x.1 x.2.1 x.2.2 ∧ w0.heap.size ≤ x.1 ∧ ¬ feet b A x.1 ∧ ¬ feet b2 A2 x.1
def K2 (tb te tb2 te2 : TypeId) (w0 w : World) (b : Nat) (hs : List Ho) (b2 : Nat) (hs2 : List Ho) (bxs : List Box) : Prop := ∃ A c A2 c2, Two tb te tb2 te2 w0 w b A c hs b2 A2 c2 hs2 bxs
section
variable {tb te tb2 te2 : TypeId} {w0 w w' : World} {b b2 : Nat} {hs hs2 : List Ho} {bxs : List Box}
theorem K2.swap (h : K2 tb te tb2 te2 w0 w b hs b2 hs2 bxs) : K2 tb2 te2 tb te w0 w b2 hs2 b hs bxs := by
  obtain ⟨A, c, A2, c2, H⟩ := h
  exact ⟨A2, c2, A, c, H.r, H.l, fun k h1 h2 => H.apart k h2 h1, H.ro, H.lo, H.bel, fun x hx => ⟨(H.box x hx).1, (H.box x hx).2.1, (H.box x hx).2.2.2, (H.box x hx).2.2.1⟩⟩
theorem K2.low (h : K2 tb te tb2 te2 w0 w b hs b2 hs2 bxs) : Below w0.heap.size w0 w := by
  obtain ⟨A, c, A2, c2, H⟩ := h
  exact H.bel
theorem K2.bx (h : K2 tb te tb2 te2 w0 w b hs b2 hs2 bxs) {x : Box} (hx : x ∈ bxs) : Bx w x.1 x.2.1 x.2.2 := by
  obtain ⟨A, c, A2, c2, H⟩ := h
  exact (H.box x hx).1
theorem K2.later (h : K2 tb te tb2 te2 w0 w b hs b2 hs2 bxs) (hb : Below w.heap.size w w') : K2 tb te tb2 te2 w0 w' b hs b2 hs2 bxs := by
  obtain ⟨A, c, A2, c2, H⟩ := h
  exact ⟨A, c, A2, c2, H.l.beside hb, H.r.beside hb, H.apart, H.lo, H.ro, H.bel.trans (hb.mono H.bel.size), fun x hx => ⟨(H.box x hx).1.after hb, (H.box x hx).2⟩⟩
theorem K2.bare (h : K2 tb te tb2 te2 w0 w b hs b2 hs2 bxs) : K2 tb te tb2 te2 w0 w b hs b2 hs2 [] := by
  obtain ⟨A, c, A2, c2, H⟩ := h
  exact ⟨A, c, A2, c2, H.l, H.r, H.apart, H.lo, H.ro, H.bel, fun x hx => by cases hx⟩
theorem K2.alloc (h : K2 tb te tb2 te2 w0 w b hs b2 hs2 bxs) (C : Array Value) (t : TypeId) : K2 tb te tb2 te2 w0 (w.alloc (.cells C t)) b hs b2 hs2 ((w.heap.size, C, t) :: bxs) := by
  have hal := (Below.refl w.heap.size w).alloc (Nat.le_refl _) (.cells C t)
  obtain ⟨A, c, A2, c2, H⟩ := h
  refine ⟨A, c, A2, c2, H.l.beside hal, H.r.beside hal, H.apart, H.lo, H.ro, H.bel.trans (hal.mono H.bel.size), fun x hx => ?_⟩
  rcases List.mem_cons.1 hx with rfl | hx
  · exact ⟨Bx.new w C t, H.bel.size, fun h => Nat.lt_irrefl _ (H.l.lt h), fun h => Nat.lt_irrefl _ (H.r.lt h)⟩
  · exact ⟨(H.box x hx).1.after hal, (H.box x hx).2⟩
theorem Two.next {A A2 : Option Addr} {c c2 : Nat} {hs' : List Ho} (H : Two tb te tb2 te2 w0 w b A c hs b2 A2 c2 hs2 bxs) (h : NextL tb te w w' b A hs') : K2 tb te tb2 te2 w0 w' b hs' b2 hs2 bxs := by
  obtain ⟨A', c', H', T, F⟩ := h
  refine ⟨A', c', A2, c2, H', H.r.aside (fun k hk => T.block k (H.r.lt hk) (fun h1 => H.apart k h1 hk)), fun k hk h2 => ?_, fun k hk => ?_, H.ro, H.bel.trans (T.below H.lo H.bel.size), fun x hx => ?_⟩
  · rcases F k hk with h1 | h1
    · exact H.apart k h1 h2
    · have := H.r.lt h2; omega
  · rcases F k hk with h1 | h1
    · exact H.lo k h1
    · exact Nat.le_trans H.bel.size h1
  · obtain ⟨q1, q2, q3, q4⟩ := H.box x hx
    refine ⟨(T.block x.1 q1.lt q3).trans q1, q2, fun hk => ?_, q4⟩
    rcases F _ hk with h1 | h1
    · exact q3 h1
    · have := q1.lt; omega
end
section
variable {tb2 te2 : TypeId} {w0 w : World} {b b2 : Nat} {hs hs2 : List Ho} {bxs : List Box}
theorem enter_k2 (h : K2 48 53 tb2 te2 w0 w b hs b2 hs2 bxs) {N : Nat} (hN : N ≤ 10000) (hF : Few N hs) (a who : Int) :
    Calls Try.prog 17 #[.pointer (some ⟨b, 0, none⟩), .int .i64 a, .int .i64 who] w fun e w' => e = .returned (.int .i64 (enterT hs a who).1) ∧ K2 48 53 tb2 te2 w0 w' b (enterT hs a who).2 b2 hs2 bxs := by
  obtain ⟨A, c, A2, c2, H⟩ := h
  exact (enter_any H.l hN hF a who).mono fun e w' h => ⟨h.1, H.next h.2⟩
theorem exit_k2 (h : K2 48 53 tb2 te2 w0 w b hs b2 hs2 bxs) {N : Nat} (hN : N ≤ 10000) (hF : Few N hs) (a who : Int) :
    Calls Try.prog 18 #[.pointer (some ⟨b, 0, none⟩), .int .i64 a, .int .i64 who] w fun e w' => e = .returned (.int .i64 (exitT hs a who).1) ∧ K2 48 53 tb2 te2 w0 w' b (exitT hs a who).2 b2 hs2 bxs := by
  obtain ⟨A, c, A2, c2, H⟩ := h
  exact (exit_any H.l hN hF a who).mono fun e w' h => ⟨h.1, H.next h.2⟩
theorem free_k2 (h : K2 48 53 tb2 te2 w0 w b hs b2 hs2 bxs) (hl : hs.length ≤ 10000) (who : Int) :
    Calls Try.prog 19 #[.pointer (some ⟨b, 0, none⟩), .int .i64 who] w fun e w' => e = .returned (.int .i64 (ofT hs who : Int)) ∧ K2 48 53 tb2 te2 w0 w' b (hs.filter (fun h => !(h.w == who))) b2 hs2 bxs := by
  obtain ⟨A, c, A2, c2, H⟩ := h
  exact (free_any H.l hl who).mono fun e w' h => ⟨h.1, H.next h.2⟩
theorem held_k2 (h : K2 48 53 tb2 te2 w0 w b hs b2 hs2 bxs) (hl : hs.length ≤ 10000) :
    Calls Try.prog 13 #[.pointer (some ⟨b, 0, none⟩)] w fun e w' => ∃ v, e = .returned v ∧ OwnI w' w.heap.size v (hs.map Ho.a) ∧ Below w.heap.size w w' := by
  obtain ⟨A, c, A2, c2, H⟩ := h
  exact held_any H.l (by omega)
end

theorem rds_getD {w : World} {A : Option Addr} {zs : List Int} (h : Rds w A (zs.map (Value.int .i64))) {k : Nat} (hk : k < zs.length) : ∃ b o, A = some ⟨b, o, none⟩ ∧ b < w.heap.size ∧ w.cell? ⟨b, o + k, none⟩ = some (.int .i64 (zs.getD k 0)) := by
  obtain ⟨b, o, h1, h2, h3⟩ := h.at_ (k := k) (by simpa using hk)
  refine ⟨b, o, h1, h2, ?_⟩
  rw [h3, List.getElem_map, List.getD_eq_getElem?_getD, List.getElem?_eq_getElem hk]
  rfl
set_option maxRecDepth 100000 in
theorem same_any (A B : Option Addr) (n m c d : Nat) (k l : List Int) (w : World) (hn : n = k.length) (hm : m = l.length) (hbig : n ≤ 100000) (hbig' : m ≤ 100000) (hr : Rds w A (k.map (Value.int .i64))) (hs : Rds w B (l.map (Value.int .i64))) :
    Calls Try.prog 12 #[.slice A n c, .slice B m d] w fun e w' => e = .returned (.bool (decide (k = l))) ∧ ∃ q, w' = w.drewN q := by
  subst hn
  subst hm
  by_cases hlen : k.length = l.length
  · have hle : ((k.length : Int) == (l.length : Int)) = true := by rw [hlen]; simp
    have HR := Lib.hid hr
    have HS := Lib.hid hs
    have HL := Lib.hid hlen
    clear hr hs
    go_enter Try.func12, Try.ntmps12
    go_wp2
    go_loopw [5] (fun i wr => ∃ j q : Nat, j ≤ k.length ∧ i = .int .i64 j ∧ wr = w.drewN q ∧ k.take j = l.take j) (fun i _ => k.length - (intOf i).toNat)
    case atStart => exact ⟨0, 0, Nat.zero_le _, rfl, rfl, by simp⟩
    case round =>
      obtain ⟨j, q, hj, rfl, rfl, hpre⟩ := hrel
      have HP := Lib.hid hpre
      clear hpre
      by_cases hlt : j < k.length
      · have hlt2 : j < l.length := by have := HL.out; omega
        obtain ⟨b, o, rfl, _, c1⟩ := rds_getD HR.out hlt
        obtain ⟨b', o', rfl, _, c2⟩ := rds_getD HS.out hlt2
        have hx : k.getD j 0 = k[j] := by rw [List.getD_eq_getElem?_getD, List.getElem?_eq_getElem hlt]; rfl
        have hy : l.getD j 0 = l[j] := by rw [List.getD_eq_getElem?_getD, List.getElem?_eq_getElem hlt2]; rfl
        rw [hx] at c1
        rw [hy] at c2
        have hj1 : (j : Int) < (k.length : Int) := by omega
        have hj2 : (j : Int) < (l.length : Int) := by omega
        have HX : Hid (k[j] = l[j] → k.take (j + 1) = l.take (j + 1)) := Lib.hid (fun h => by
          rw [List.take_succ_eq_append_getElem hlt, List.take_succ_eq_append_getElem hlt2, HP.out, h])
        have HY : Hid (k[j] ≠ l[j] → k ≠ l) := Lib.hid (fun h e => h (by subst e; rfl))
        generalize k[j] = x at *
        generalize l[j] = y at *
        clear hx hy
        by_cases hxy : x = y
        · have hq : (x == y) = true := by rw [hxy]; simp
          have HZ := Lib.hid (HX.out hxy)
          go_wp2_with fail
          go_region
          go_wp2_with fail
          go_roundw
          case rel => exact ⟨j + 1, _, by omega, by go_num, rfl, HZ.out⟩
          case measure => simp [intOf]; omega
        · have hq : (x == y) = false := by simpa using hxy
          have HZ := Lib.hid (HY.out hxy)
          go_wp2_with fail
          go_region
          go_wp2_with fail
          go_ret
          exact ⟨by rw [decide_eq_false HZ.out]; rfl, _, rfl⟩
      · have hj1 : ¬ (j : Int) < (k.length : Int) := by omega
        have hkl : k = l := by
          have h := HP.out
          rw [List.take_of_length_le (by omega), List.take_of_length_le (by have := HL.out; omega)] at h
          exact h
        have HZ := Lib.hid hkl
        clear hkl
        go_wp2_with fail
        go_ret
        exact ⟨by rw [decide_eq_true HZ.out]; rfl, _, rfl⟩
  · have hle : ((k.length : Int) == (l.length : Int)) = false := by simp; omega
    have HZ := Lib.hid (show k ≠ l from fun e => hlen (by rw [e]))
    clear hr hs
    go_enter Try.func12, Try.ntmps12
    go_wp2
    go_ret
    exact ⟨by rw [decide_eq_false HZ.out]; rfl, 0, rfl⟩

/-! each thread has addresses of its own -/
def Own8 (hs : List Ho) : Prop := ∀ h ∈ hs, h.w = h.a % 8
def others (W : Int) (hs : List Ho) : List Ho := hs.filter (fun h => !(h.w == W))
theorem own_ent {a v : Int} (hv : v = a % 8) : ∀ {hs : List Ho}, Own8 hs → Own8 (entR hs a v).2
  | [], _ => by intro h hh; simp [entR] at hh; subst hh; exact hv
  | h :: t, ho => by
    have ih := own_ent hv (hs := t) (fun x hx => ho x (List.mem_cons_of_mem _ hx))
    have h0 := ho h List.mem_cons_self
    unfold entR
    split
    · split
      · intro x hx
        rcases List.mem_cons.1 hx with rfl | hx
        · exact h0
        · exact ho x (List.mem_cons_of_mem _ hx)
      · exact ho
    · intro x hx
      rcases List.mem_cons.1 hx with rfl | hx
      · exact h0
      · exact ih x hx
theorem own_ex {a v : Int} : ∀ {hs : List Ho}, Own8 hs → Own8 (exR hs a v).2
  | [], _ => by intro h hh; simp [exR] at hh
  | h :: t, ho => by
    have ih := own_ex (a := a) (v := v) (hs := t) (fun x hx => ho x (List.mem_cons_of_mem _ hx))
    have h0 := ho h List.mem_cons_self
    unfold exR
    split
    · split
      · simp only
        split
        · exact fun x hx => ho x (List.mem_cons_of_mem _ (List.mem_filter.1 hx).1)
        · intro x hx
          rcases List.mem_cons.1 hx with rfl | hx
          · exact h0
          · exact ho x (List.mem_cons_of_mem _ hx)
      · exact ho
    · intro x hx
      rcases List.mem_cons.1 hx with rfl | hx
      · exact h0
      · exact ih x hx
theorem oth_cons_yes {W : Int} {h : Ho} {t : List Ho} (e : h.w ≠ W) : others W (h :: t) = h :: others W t := by
  unfold others; rw [List.filter_cons]; simp [e]
theorem oth_cons_no {W : Int} {h : Ho} {t : List Ho} (e : h.w = W) : others W (h :: t) = others W t := by
  unfold others; rw [List.filter_cons]; simp [e]
theorem ent_self {a v : Int} (hv : v = a % 8) : ∀ {hs : List Ho}, Own8 hs → others v (entR hs a v).2 = others v hs
  | [], _ => by simp [entR, others]
  | h :: t, ho => by
    have ih := ent_self hv (hs := t) (fun x hx => ho x (List.mem_cons_of_mem _ hx))
    have h0 := ho h List.mem_cons_self
    unfold entR
    split
    · rename_i e
      have hw : h.w = v := by rw [h0, e, hv]
      rw [if_pos hw, oth_cons_no hw]
      exact oth_cons_no hw
    · by_cases hw : h.w = v
      · rw [oth_cons_no hw, oth_cons_no hw, ih]
      · rw [oth_cons_yes hw, oth_cons_yes hw, ih]
theorem ent_oth {a v W : Int} (hv : v = a % 8) (hW : v ≠ W) : ∀ {hs : List Ho}, Own8 hs → others W (entR hs a v).2 = (entR (others W hs) a v).2
  | [], _ => by simp [entR, others, hW]
  | h :: t, ho => by
    have ih := ent_oth hv hW (hs := t) (fun x hx => ho x (List.mem_cons_of_mem _ hx))
    have h0 := ho h List.mem_cons_self
    by_cases e : h.a = a
    · have hw : h.w = v := by rw [h0, e, hv]
      have hw2 : h.w ≠ W := by rw [hw]; exact hW
      rw [oth_cons_yes hw2, entR, if_pos e, if_pos hw, entR, if_pos e, if_pos hw]
      exact oth_cons_yes hw2
    · rw [entR, if_neg e]
      by_cases hw : h.w = W
      · rw [oth_cons_no hw, oth_cons_no hw, ih]
      · rw [oth_cons_yes hw, oth_cons_yes hw, entR, if_neg e, ih]
theorem ex_self {a v : Int} (hv : v = a % 8) : ∀ {hs : List Ho}, Own8 hs → others v (exR hs a v).2 = others v hs
  | [], _ => rfl
  | h :: t, ho => by
    have ih := ex_self hv (hs := t) (fun x hx => ho x (List.mem_cons_of_mem _ hx))
    have h0 := ho h List.mem_cons_self
    unfold exR
    split
    · rename_i e
      have hw : h.w = v := by rw [h0, e, hv]
      rw [if_pos hw, oth_cons_no hw]
      simp only
      split
      · unfold others
        rw [List.filter_filter]
        refine List.filter_congr fun x hx => ?_
        have hx0 := ho x (List.mem_cons_of_mem _ hx)
        by_cases hxa : x.a = a
        · have : x.w = v := by rw [hx0, hxa, hv]
          simp [this]
        · simp [hxa]
      · exact oth_cons_no hw
    · by_cases hw : h.w = v
      · rw [oth_cons_no hw, oth_cons_no hw, ih]
      · rw [oth_cons_yes hw, oth_cons_yes hw, ih]
theorem ex_oth {a v W : Int} (hv : v = a % 8) (hW : v ≠ W) : ∀ {hs : List Ho}, Own8 hs → others W (exR hs a v).2 = (exR (others W hs) a v).2
  | [], _ => rfl
  | h :: t, ho => by
    have ih := ex_oth hv hW (hs := t) (fun x hx => ho x (List.mem_cons_of_mem _ hx))
    have h0 := ho h List.mem_cons_self
    by_cases e : h.a = a
    · have hw : h.w = v := by rw [h0, e, hv]
      have hw2 : h.w ≠ W := by rw [hw]; exact hW
      rw [oth_cons_yes hw2, exR, if_pos e, if_pos hw, exR, if_pos e, if_pos hw]
      simp only
      split
      · unfold others
        rw [List.filter_filter, List.filter_filter]
        exact List.filter_congr fun x _ => Bool.and_comm _ _
      · exact oth_cons_yes hw2
    · rw [exR, if_neg e]
      by_cases hw : h.w = W
      · rw [oth_cons_no hw, oth_cons_no hw, ih]
      · rw [oth_cons_yes hw, oth_cons_yes hw, exR, if_neg e, ih]
end LkT
end Go.Proofs.Ytkjkofdjnjihjaa
