/-
  The document's list of holds: Enter, Exit, Free, Held.
-/
import Derived.Test.YtkjkofdjnjihjaaLkR
import Derived.Test.YtkjkofdjnjihjaaLkP
namespace Go.Proofs.Ytkjkofdjnjihjaa
namespace LkS
open Go.RowKit Go.Shelf Base BinM LkM LkA LkB LkE LkR LkP

theorem infoR : (Try.prog.info? 56).map (fun i => (i.zero, i.size, i.bytes)) = some (some (.agg #[.int .i64 0, .int .i64 0, .int .i64 0]), 3, 24) := by kernel_rfl

set_option maxRecDepth 100000 in
set_option maxHeartbeats 4000000 in
theorem enter_any {w : World} {b : Nat} {A : Option Addr} {c : Nat} {hs : List Ho} (H : LR w b A c hs) {N : Nat} (hN : N ≤ 10000) (hF : Few N hs) (a who : Int) :
    Calls Try.prog 21 #[.pointer (some ⟨b, 0, none⟩), .int .i64 a, .int .i64 who] w fun e w' => e = .returned (.int .i64 (enterT hs a who).1) ∧ NextL 28 56 w w' b A (enterT hs a who).2 := by
  have hl := hF.1
  by_cases h1 : a < 1
  · have hE : enterT hs a who = (2, hs) := by unfold enterT; rw [if_pos h1]
    rw [hE]
    have HN := Lib.hid (Lk.nochange H (Below.refl _ _))
    clear H hF
    go_enter Try.func21, Try.ntmps21
    go_wp2
    go_ret
    exact ⟨rfl, HN.out⟩
  · have HFi := Lib.hid (LkR.find_any H (by omega) a)
    have c0 := H.box.cell 0
    have f0 := H.box.free 0
    by_cases hlt : fnd hs a < hs.length
    · have hv : fndV hs a = (fnd hs a : Int) := by unfold fndV; rw [if_pos hlt]
      rw [hv] at HFi
      obtain ⟨g, rfl, _, hgl⟩ := H.at_ (by omega)
      have hE : enterT hs a who = if (hs[fnd hs a]'hlt).w = who then (0, hs.set (fnd hs a) ⟨(hs[fnd hs a]'hlt).a, (hs[fnd hs a]'hlt).w, (hs[fnd hs a]'hlt).n + 1⟩) else (29, hs) := by
        unfold enterT
        rw [if_neg h1, List.getElem?_eq_getElem hlt]
      have hfit := hF.2 _ (List.getElem_mem hlt)
      have HE := Lib.hid hE
      have q1 := (H.cells hlt).2.1
      have q2 := (H.cells hlt).2.2
      have q3 := H.free (fnd hs a * 3 + 2)
      have HS := Lib.hid (fun n => H.setN hlt n)
      have HX := Lib.hid H
      clear H hv hE hF
      generalize hk : fnd hs a = k at *
      have hk1 : (k : Int) < (hs.length : Int) := by omega
      have hn1 : -9223372036854775808 ≤ (hs[k]).n + 1 ∧ (hs[k]).n + 1 ≤ 9223372036854775807 := by omega
      by_cases hw : (hs[k]).w = who
      · have HE2 := Lib.hid (HE.out.trans (if_pos hw))
        clear HE
        have hw1 : ((hs[k]).w != who) = false := by simpa using hw
        go_enter Try.func21, Try.ntmps21
        go_wp2_with (go_at_call 26; refine HFi.out.mono ?_; rintro e w1 ⟨rfl, rfl⟩)
        go_ret
        rw [HE2.out]
        exact ⟨rfl, some ⟨g, 0, none⟩, c, HS.out _, Turned.of_set (F := feet b (some ⟨g, 0, none⟩)) _ (a := ⟨g, k * 3 + 2, none⟩) (.inr ⟨_, rfl, rfl⟩) _, fun _ h => .inl h⟩
      · have HE2 := Lib.hid (HE.out.trans (if_neg hw))
        clear HE
        have hw1 : ((hs[k]).w != who) = true := by simpa using hw
        go_enter Try.func21, Try.ntmps21
        go_wp2_with (go_at_call 26; refine HFi.out.mono ?_; rintro e w1 ⟨rfl, rfl⟩)
        go_ret
        rw [HE2.out]
        exact ⟨rfl, some ⟨g, 0, none⟩, c, HX.out, Turned.refl _ _, fun _ h => .inl h⟩
    · have hv : fndV hs a = -1 := by unfold fndV; rw [if_neg hlt]
      rw [hv] at HFi
      have HE := Lib.hid (show enterT hs a who = (0, hs ++ [⟨a, who, 1⟩]) by
        unfold enterT
        rw [if_neg h1, List.getElem?_eq_none (by omega)])
      obtain ⟨i0, hi, hz, hz1, hz2⟩ := info_parts infoR
      have I0 := Lib.hid hi
      have I1 := Lib.hid hz
      have I2 := Lib.hid hz1
      have I3 := Lib.hid hz2
      have q2 := H.box.lt
      have HB1 := Lib.hid (Below.refl w.heap.size w)
      have HX := Lib.hid (H.beside ((Below.refl _ w).alloc (Nat.le_refl _) (.cells #[.int .i64 a, .int .i64 who, .int .i64 1] 56)))
      clear H hv hF hi hz hz1 hz2 hlt
      go_enter Try.func21, Try.ntmps21
      go_wp2_with (first
        | (go_at_call 26; refine HFi.out.mono ?_; rintro e w1 ⟨rfl, rfl⟩)
        | (at_builtin
           refine wpList_append_lies _ rfl (.tmp 19) (.tmp 23) 26 rfl 0 56 i0 _ 3 24 Try.underlying26 I0.out I1.out I2.out I3.out rfl (by omega) (.slice A hs.length c) hs.length (hs.flatMap hoV) rfl HX.out.row ⟨w1.heap.size, 0, none⟩ 1 1 [.int .i64 a, .int .i64 who, .int .i64 1] rfl rfl (World.news_of_block (cs := #[.int .i64 a, .int .i64 who, .int .i64 1]) (t := 56) (fr := (0, 0)) (Bx.new _ _ _)) (by simp [Value.oneCell']) (by omega) (by unfold maxLen; omega) (by omega) (Nat.zero_le _) _ rfl ?_
           intro b5 c5 w5 hown5 hg5 hat5 hlt5
           have P5 := Lib.hid (Lk.pushed (h := ⟨a, who, 1⟩) HX.out hg5 hown5 (by rcases hat5 with h | h; exact .inl h; exact .inr (Nat.le_of_eq h.symm)))
           have hbx : Bx w5 b #[.slice A hs.length c] 28 := (hg5.block b HX.out.box.lt (fun e => own_ne HX.out.row HX.out.box HX.out.ne e.symm)).trans HX.out.box
           have d1 := hbx.cell 0
           have e1 := hbx.free 0
           clear hbx hown5 hg5 hat5))
      go_ret
      rw [HE.out]
      exact ⟨rfl, NextL.after (HB1.out.alloc HB1.out.size _) P5.out⟩

theorem own_low {w : World} {base base' size n : Nat} {e : TypeId} {v : Value} {xs : List Value} (h : w.ownsRow base e size v n xs) (hb : base' ≤ base) : w.ownsRow base' e size v n xs := by
  obtain ⟨h1, h2⟩ := h
  refine ⟨h1, ?_⟩
  rcases h2 with h2 | ⟨g, cap, cur, rfl, b, c, d⟩
  · exact .inl h2
  · exact .inr ⟨g, cap, cur, rfl, Nat.le_trans hb b, c, d⟩
/-- a row made anew takes the old one's place -/
theorem Lk.anew {tb te : TypeId} {w w1 : World} {b : Nat} {A A' : Option Addr} {c c' : Nat} {hs ks : List Ho} (H : Lk tb te w b A c hs) (hb : Below w.heap.size w w1) (ho : w1.ownsRow w.heap.size te 3 (.slice A' ks.length c') ks.length (ks.flatMap hoV)) :
    NextL tb te w (w1.setCell ⟨b, 0, none⟩ (.slice A' ks.length c')) b A ks := by
  have hlt := H.box.lt
  have hnb : ∀ a, A' = some a → a.block ≠ b := by
    rintro a rfl e
    have := (ho.lt a.block rfl).1
    omega
  refine ⟨A', c', ⟨(H.box.after hb).set 0 _, own_low (own_same ho ?_) (Nat.zero_le _), H.ne⟩, (Turned.of_below hb).trans (Turned.of_set (F := feet b A) w1 (a := ⟨b, 0, none⟩) (.inl rfl) _) (fun j h => .inl h), ?_⟩
  · intro k hk
    obtain ⟨a, q1, q2⟩ := block_of hk
    subst q2
    exact heap_setCell_other w1 _ _ _ (hnb a q1)
  · rintro k (rfl | ⟨a, rfl, rfl⟩)
    · exact .inl (.inl rfl)
    · exact .inr (ho.lt a.block rfl).1
/-- a row that is made, element by element -/
structure Rw {α : Type} (te : TypeId) (sz : Nat) (f : α → List Value) (w wr : World) (A : Option Addr) (n c : Nat) (ks : List α) : Prop where
  len : n = ks.length
  bel : Below w.heap.size w wr
  own : wr.ownsRow w.heap.size te sz (.slice A n c) n (ks.flatMap f)
theorem Rw.start {α : Type} (te : TypeId) (sz : Nat) (f : α → List Value) (w : World) : Rw te sz f w w none 0 0 [] := ⟨rfl, Below.refl _ _, World.ownsRow_nil _ _ _ _⟩
theorem Rw.push {α : Type} {te : TypeId} {sz : Nat} {f : α → List Value} {w wr w5 : World} {A : Option Addr} {n c b5 c5 : Nat} {ks : List α} (h : Rw te sz f w wr A n c ks) (C : Array Value) (ty : TypeId) (x : α)
    (hg : (wr.alloc (.cells C ty)).grownBy w5 (Value.slice A n c).ownBlock) (h5 : w5.ownsRow w.heap.size te sz (.slice (some ⟨b5, 0, none⟩) (n + 1) c5) (n + 1) (ks.flatMap f ++ f x)) : Rw te sz f w w5 (some ⟨b5, 0, none⟩) (n + 1) c5 (ks ++ [x]) := by
  refine ⟨by rw [h.len, List.length_append]; rfl, ?_, ?_⟩
  · exact (h.bel.alloc h.bel.size (.cells C ty)).grown hg (by have := h.bel.size; simp; omega) (fun k hk => (h.own.lt k hk).1)
  · rw [List.flatMap_append]
    simpa using h5
theorem Rw.alloc {α : Type} {te : TypeId} {sz : Nat} {f : α → List Value} {w wr : World} {A : Option Addr} {n c : Nat} {ks : List α} (h : Rw te sz f w wr A n c ks) (o : Obj) : (wr.alloc o).ownsRow w.heap.size te sz (.slice A n c) n (ks.flatMap f) :=
  own_same h.own (fun k hk => (Below.refl wr.heap.size wr |>.alloc (Nat.le_refl _) o).block k (h.own.lt k hk).2)
abbrev RwH (w wr : World) (A : Option Addr) (n c : Nat) (ks : List Ho) : Prop := Rw 56 3 hoV w wr A n c ks
theorem Rw.next {tb : TypeId} {w w1 : World} {b : Nat} {A A' : Option Addr} {c c' n : Nat} {hs ks : List Ho} (h : RwH w w1 A' n c' ks) (H : Lk tb 56 w b A c hs) :
    NextL tb 56 w (w1.setCell ⟨b, 0, none⟩ (.slice A' n c')) b A ks := by
  obtain ⟨rfl, hb, ho⟩ := h
  exact Lk.anew H hb ho
theorem filt_yes {p : Ho → Bool} {l : List Ho} {j : Nat} (hj : j < l.length) (h : p l[j] = true) : (l.take (j + 1)).filter p = (l.take j).filter p ++ [l[j]] := by
  rw [List.take_succ_eq_append_getElem hj, List.filter_append]
  simp [h]
theorem filt_no {p : Ho → Bool} {l : List Ho} {j : Nat} (hj : j < l.length) (h : p l[j] = false) : (l.take (j + 1)).filter p = (l.take j).filter p := by
  rw [List.take_succ_eq_append_getElem hj, List.filter_append]
  simp [h]

set_option maxRecDepth 100000 in
set_option maxHeartbeats 4000000 in
theorem free_any {w : World} {b : Nat} {A : Option Addr} {c : Nat} {hs : List Ho} (H : LR w b A c hs) (hl : hs.length ≤ 10000) (who : Int) :
    Calls Try.prog 24 #[.pointer (some ⟨b, 0, none⟩), .int .i64 who] w fun e w' => e = .returned (.int .i64 (ofT hs who : Int)) ∧ NextL 28 56 w w' b A (hs.filter (fun h => !(h.w == who))) := by
  have HOf := Lib.hid (LkR.of_any H (by omega) who)
  have HH := Lib.hid H
  obtain ⟨i0, hi, hz, hz1, hz2⟩ := info_parts infoR
  have I0 := Lib.hid hi
  have I1 := Lib.hid hz
  have I2 := Lib.hid hz1
  have I3 := Lib.hid hz2
  have hbl := H.box.lt
  clear H hi hz hz1 hz2
  generalize ofT hs who = N at *
  go_enter Try.func24, Try.ntmps24
  go_wp2_with (go_at_call 16; refine HOf.out.mono ?_; rintro e w1 ⟨rfl, rfl⟩)
  go_loopw [6, 7] (fun s i wr => ∃ (j n : Nat) (A' : Option Addr) (c' : Nat), j ≤ hs.length ∧ i = .int .i64 j ∧ s = .slice A' n c' ∧ RwH w1 wr A' n c' ((hs.take j).filter (fun h => !(h.w == who)))) (fun _ i _ => hs.length - (intOf i).toNat)
  case atStart => exact ⟨0, 0, none, 0, Nat.zero_le _, rfl, rfl, Rw.start _ _ _ _⟩
  case round =>
    obtain ⟨j, n, A', c', hj, rfl, rfl, hrw⟩ := hrel
    have HW := Lib.hid hrw
    have hH := HH.out.beside hrw.bel
    have hsz := hrw.bel.size
    have hn : n ≤ j := by rw [hrw.len]; exact Nat.le_trans (List.length_filter_le _ _) (by simp; omega)
    have c0 := hH.box.cell 0
    have f0 := hH.box.free 0
    clear hrw
    by_cases hlt : j < hs.length
    · obtain ⟨g, rfl, _, _⟩ := HH.out.at_ (by omega)
      obtain ⟨q0, q1, q2⟩ := hH.cells hlt
      have hj1 : (j : Int) < (hs.length : Int) := by omega
      have HY : Hid (hs[j].w = who → (hs.take (j + 1)).filter (fun h => !(h.w == who)) = (hs.take j).filter (fun h => !(h.w == who))) := Lib.hid (fun e => filt_no hlt (by simp [e]))
      have HN : Hid (hs[j].w ≠ who → (hs.take (j + 1)).filter (fun h => !(h.w == who)) = (hs.take j).filter (fun h => !(h.w == who)) ++ [hs[j]]) := Lib.hid (fun e => filt_yes hlt (by simp [e]))
      generalize (hs.take j).filter (fun h => !(h.w == who)) = ks at *
      generalize hs[j] = x at *
      obtain ⟨xa, xw, xn⟩ := x
      simp only at q0 q1 q2 HY HN
      clear hH
      by_cases hy : xw = who
      · have hy1 : (xw != who) = false := by simpa using hy
        have HZ := Lib.hid (HY.out hy)
        clear hy HY HN
        go_wp2_with fail
        go_roundw
        case rel => exact ⟨j + 1, n, A', c', by omega, by go_num, rfl, by rw [HZ.out]; exact HW.out⟩
        case measure => simp [intOf]; omega
      · have hy1 : (xw != who) = true := by simpa using hy
        have HZ := Lib.hid (HN.out hy)
        clear HY HN
        go_wp2_with (first
          | (at_builtin
             refine wpList_append_lies _ rfl (.tmp 30) (.tmp 38) 26 rfl w1.heap.size 56 i0 _ 3 24 Try.underlying26 I0.out I1.out I2.out I3.out rfl (by omega) (.slice A' n c') n (ks.flatMap hoV) rfl (HW.out.alloc _) ⟨wr.heap.size, 0, none⟩ 1 1 [.int .i64 xa, .int .i64 xw, .int .i64 xn] rfl rfl (World.news_of_block (cs := #[.int .i64 xa, .int .i64 xw, .int .i64 xn]) (t := 56) (fr := (0, 0)) (Bx.new _ _ _)) (by simp [Value.oneCell']) (by omega) (by unfold maxLen; omega) (by omega) (by simp; omega) _ rfl ?_
             intro b5 c5 w5 hown5 hg5 hat5 hlt5
             have P5 := Lib.hid (HW.out.push (b5 := b5) (c5 := c5) _ _ ⟨xa, xw, xn⟩ hg5 hown5)
             clear hown5 hg5 hat5))
        go_roundw
        case rel => exact ⟨j + 1, n + 1, _, _, by omega, by go_num, rfl, by rw [HZ.out]; exact P5.out⟩
        case measure => simp [intOf]; omega
    · have hj1 : ¬ (j : Int) < (hs.length : Int) := by omega
      have HZ : Hid ((hs.take j).filter (fun h => !(h.w == who)) = hs.filter (fun h => !(h.w == who))) := Lib.hid (by rw [List.take_of_length_le (by omega)])
      clear hH
      go_wp2_with fail
      go_ret
      rw [← HZ.out]
      exact ⟨rfl, Rw.next HW.out HH.out⟩

/-- each thing stands but once -/
def Once (hs : List Ho) : Prop := (hs.map Ho.a).Nodup
theorem fnd_set (hs : List Ho) (a : Int) (hF : ∀ h ∈ hs, 1 ≤ h.n) (hO : Once hs) : ∀ (h : fnd hs a < hs.length), (hs.set (fnd hs a) ⟨(hs[fnd hs a]'h).a, (hs[fnd hs a]'h).w, (hs[fnd hs a]'h).n - 1⟩).filter (fun x => decide (0 < x.n)) =
    if (hs[fnd hs a]'h).n = 1 then (hs.set (fnd hs a) ⟨(hs[fnd hs a]'h).a, (hs[fnd hs a]'h).w, (hs[fnd hs a]'h).n - 1⟩).filter (fun x => !(x.a == a)) else hs.set (fnd hs a) ⟨(hs[fnd hs a]'h).a, (hs[fnd hs a]'h).w, (hs[fnd hs a]'h).n - 1⟩ := by
  induction hs with
  | nil => intro h; exact absurd h (Nat.not_lt_zero _)
  | cons x t ih =>
    intro h
    have hO' : Once t := (List.nodup_cons.1 (show (x.a :: t.map Ho.a).Nodup from hO)).2
    have hx' : x.a ∉ t.map Ho.a := (List.nodup_cons.1 (show (x.a :: t.map Ho.a).Nodup from hO)).1
    have hpos : ∀ y ∈ t, (decide (0 < y.n)) = true := fun y hy => by have := hF y (List.mem_cons_of_mem _ hy); simp; omega
    by_cases e : x.a = a
    · have h0 : fnd (x :: t) a = 0 := fnd_cons_eq e
      simp only [h0, List.getElem_cons_zero, List.set_cons_zero]
      have hx1 := hF x List.mem_cons_self
      have ht : t.filter (fun y => decide (0 < y.n)) = t := List.filter_eq_self.2 hpos
      by_cases h1 : x.n = 1
      · rw [if_pos h1]
        have hz : x.n - 1 = 0 := by omega
        rw [hz, List.filter_cons, List.filter_cons]
        simp only [e, Int.lt_irrefl, decide_false, beq_self_eq_true, Bool.not_true]
        simp only [Bool.false_eq_true, if_false]
        rw [ht]
        symm
        rw [List.filter_eq_self]
        intro y hy
        have : y.a ≠ a := fun h => hx' (by rw [e]; exact List.mem_map.2 ⟨y, hy, h⟩)
        simpa using this
      · rw [if_neg h1, List.filter_cons]
        have hz : (0 : Int) < x.n - 1 := by omega
        simp only [hz, decide_true, if_true]
        rw [ht]
    · have h0 : fnd (x :: t) a = fnd t a + 1 := fnd_cons_ne e
      simp only [h0, List.getElem_cons_succ, List.set_cons_succ]
      have hlt : fnd t a < t.length := by rw [h0] at h; simpa using h
      have ih' := ih (fun y hy => hF y (List.mem_cons_of_mem _ hy)) hO' hlt
      have hx1 : (decide (0 < x.n)) = true := by have := hF x List.mem_cons_self; simp; omega
      have hxa : (!(x.a == a)) = true := by simpa using e
      rw [List.filter_cons, hx1, if_pos rfl, ih']
      by_cases h1 : (t[fnd t a]'hlt).n = 1
      · rw [if_pos h1, if_pos h1, List.filter_cons, hxa, if_pos rfl]
      · rw [if_neg h1, if_neg h1]

set_option maxRecDepth 100000 in
set_option maxHeartbeats 4000000 in
theorem exit_any {w : World} {b : Nat} {A : Option Addr} {c : Nat} {hs : List Ho} (H : LR w b A c hs) {N : Nat} (hN : N ≤ 10000) (hF : Few N hs) (hO : Once hs) (a who : Int) :
    Calls Try.prog 22 #[.pointer (some ⟨b, 0, none⟩), .int .i64 a, .int .i64 who] w fun e w' => e = .returned (.int .i64 (exitT hs a who).1) ∧ NextL 28 56 w w' b A (exitT hs a who).2 := by
  have hl := hF.1
  have HFi := Lib.hid (LkR.find_any H (by omega) a)
  have c0 := H.box.cell 0
  have f0 := H.box.free 0
  by_cases hlt : fnd hs a < hs.length
  · have hv : fndV hs a = (fnd hs a : Int) := by unfold fndV; rw [if_pos hlt]
    rw [hv] at HFi
    obtain ⟨g, rfl, _, hgl⟩ := H.at_ (by omega)
    have hE : exitT hs a who = if (hs[fnd hs a]'hlt).w = who then (0, (hs.set (fnd hs a) ⟨(hs[fnd hs a]'hlt).a, (hs[fnd hs a]'hlt).w, (hs[fnd hs a]'hlt).n - 1⟩).filter (fun x => decide (0 < x.n))) else (28, hs) := by
      rw [fnd_set hs a (fun h hh => (hF.2 h hh).1) hO hlt]
      unfold exitT
      rw [List.getElem?_eq_getElem hlt]
    have hfit := hF.2 _ (List.getElem_mem hlt)
    have HE := Lib.hid hE
    have q1 := (H.cells hlt).2.1
    have q2 := (H.cells hlt).2.2
    have q3 := H.free (fnd hs a * 3 + 2)
    have HS := Lib.hid (H.setN hlt ((hs[fnd hs a]'hlt).n - 1))
    have HX := Lib.hid H
    have HFew : Hid (∀ h ∈ hs.set (fnd hs a) ⟨(hs[fnd hs a]'hlt).a, (hs[fnd hs a]'hlt).w, (hs[fnd hs a]'hlt).n - 1⟩, 0 ≤ h.n) := Lib.hid (fun h hh => by
      rcases List.mem_or_eq_of_mem_set hh with h1 | rfl
      · have := (hF.2 h h1).1; omega
      · simp only; omega)
    have HLen : Hid ((hs.set (fnd hs a) ⟨(hs[fnd hs a]'hlt).a, (hs[fnd hs a]'hlt).w, (hs[fnd hs a]'hlt).n - 1⟩).length = hs.length) := Lib.hid (by rw [List.length_set])
    clear H hv hE hF hO
    generalize hk : fnd hs a = k at *
    have hk1 : (k : Int) < (hs.length : Int) := by omega
    have hn1 : -9223372036854775808 ≤ (hs[k]).n - 1 ∧ (hs[k]).n - 1 ≤ 9223372036854775807 := by omega
    have hk0 : ¬ (k : Int) < 0 := by omega
    by_cases hw : (hs[k]).w = who
    · have HE2 := Lib.hid (HE.out.trans (if_pos hw))
      clear HE
      have hw1 : ((hs[k]).w != who) = false := by simpa using hw
      obtain ⟨i0, hi, hz, hz1, hz2⟩ := info_parts infoR
      have I0 := Lib.hid hi
      have I1 := Lib.hid hz
      have I2 := Lib.hid hz1
      have I3 := Lib.hid hz2
      have HT := Lib.hid (Turned.of_set (F := feet b (some ⟨g, 0, none⟩)) w (a := ⟨g, k * 3 + 2, none⟩) (.inr ⟨_, rfl, rfl⟩) (.int .i64 ((hs[k]).n - 1)))
      clear hi hz hz1 hz2
      go_enter Try.func22, Try.ntmps22
      go_wp2_with (go_at_call 26; refine HFi.out.mono ?_; rintro e w1 ⟨rfl, rfl⟩)
      generalize hs.set k ⟨(hs[k]).a, (hs[k]).w, (hs[k]).n - 1⟩ = ks0 at *
      generalize w1.setCell ⟨g, k * 3 + 2, none⟩ (.int .i64 ((hs[k]).n - 1)) = w2 at *
      have hlen := HLen.out
      go_loopw [8, 9] (fun s i wr => ∃ (j n : Nat) (A' : Option Addr) (c' : Nat), j ≤ ks0.length ∧ i = .int .i64 j ∧ s = .slice A' n c' ∧ RwH w2 wr A' n c' ((ks0.take j).filter (fun x => decide (0 < x.n)))) (fun _ i _ => ks0.length - (intOf i).toNat)
      case atStart => exact ⟨0, 0, none, 0, Nat.zero_le _, rfl, rfl, Rw.start _ _ _ _⟩
      case round =>
        obtain ⟨j, n, A', c', hj, rfl, rfl, hrw⟩ := hrel
        have HW := Lib.hid hrw
        have hH := HS.out.beside hrw.bel
        have hsz := hrw.bel.size
        have hn : n ≤ j := by rw [hrw.len]; exact Nat.le_trans (List.length_filter_le _ _) (by simp; omega)
        have c1 := hH.box.cell 0
        have f1 := hH.box.free 0
        clear hrw
        by_cases hlt : j < ks0.length
        · obtain ⟨p0, p1, p2⟩ := hH.cells hlt
          have hj1 : (j : Int) < (ks0.length : Int) := by omega
          have hpos := HFew.out _ (List.getElem_mem hlt)
          have HY : Hid (¬ 0 < ks0[j].n → (ks0.take (j + 1)).filter (fun x => decide (0 < x.n)) = (ks0.take j).filter (fun x => decide (0 < x.n))) := Lib.hid (fun e => filt_no hlt (by simpa using e))
          have HN : Hid (0 < ks0[j].n → (ks0.take (j + 1)).filter (fun x => decide (0 < x.n)) = (ks0.take j).filter (fun x => decide (0 < x.n)) ++ [ks0[j]]) := Lib.hid (fun e => filt_yes hlt (by simpa using e))
          generalize (ks0.take j).filter (fun x => decide (0 < x.n)) = ks at *
          generalize ks0[j] = x at *
          obtain ⟨xa, xw, xn⟩ := x
          simp only at p0 p1 p2 HY HN hpos
          clear hH
          by_cases hy : 0 < xn
          · have HZ := Lib.hid (HN.out hy)
            clear HY HN
            go_wp2_with (first
              | (at_builtin
                 refine wpList_append_lies _ rfl (.tmp 56) (.tmp 64) 26 rfl w2.heap.size 56 i0 _ 3 24 Try.underlying26 I0.out I1.out I2.out I3.out rfl (by omega) (.slice A' n c') n (ks.flatMap hoV) rfl (HW.out.alloc _) ⟨wr.heap.size, 0, none⟩ 1 1 [.int .i64 xa, .int .i64 xw, .int .i64 xn] rfl rfl (World.news_of_block (cs := #[.int .i64 xa, .int .i64 xw, .int .i64 xn]) (t := 56) (fr := (0, 0)) (Bx.new _ _ _)) (by simp [Value.oneCell']) (by omega) (by unfold maxLen; omega) (by omega) (by simp; omega) _ rfl ?_
                 intro b5 c5 w5 hown5 hg5 hat5 hlt5
                 have P5 := Lib.hid (HW.out.push (b5 := b5) (c5 := c5) _ _ ⟨xa, xw, xn⟩ hg5 hown5)
                 clear hown5 hg5 hat5))
            go_roundw
            case rel => exact ⟨j + 1, n + 1, _, _, by omega, by go_num, rfl, by rw [HZ.out]; exact P5.out⟩
            case measure => simp [intOf]; omega
          · have HZ := Lib.hid (HY.out hy)
            clear HY HN
            go_wp2_with fail
            go_roundw
            case rel => exact ⟨j + 1, n, A', c', by omega, by go_num, rfl, by rw [HZ.out]; exact HW.out⟩
            case measure => simp [intOf]; omega
        · have hj1 : ¬ (j : Int) < (ks0.length : Int) := by omega
          have HZ : Hid ((ks0.take j).filter (fun x => decide (0 < x.n)) = ks0.filter (fun x => decide (0 < x.n))) := Lib.hid (by rw [List.take_of_length_le (by omega)])
          clear hH
          go_wp2_with fail
          go_ret
          rw [HE2.out, ← HZ.out]
          exact ⟨rfl, NextL.trans HT.out (fun _ h => .inl h) (Rw.next HW.out HS.out)⟩
    · have HE2 := Lib.hid (HE.out.trans (if_neg hw))
      clear HE
      have hw1 : ((hs[k]).w != who) = true := by simpa using hw
      go_enter Try.func22, Try.ntmps22
      go_wp2_with (go_at_call 26; refine HFi.out.mono ?_; rintro e w1 ⟨rfl, rfl⟩)
      go_ret
      rw [HE2.out]
      exact ⟨rfl, some ⟨g, 0, none⟩, c, HX.out, Turned.refl _ _, fun _ h => .inl h⟩
  · have hv : fndV hs a = -1 := by unfold fndV; rw [if_neg hlt]
    rw [hv] at HFi
    have HE := Lib.hid (show exitT hs a who = (28, hs) by
      unfold exitT
      rw [List.getElem?_eq_none (by omega)])
    have HX := Lib.hid H
    clear H hv hF hlt
    go_enter Try.func22, Try.ntmps22
    go_wp2_with (go_at_call 26; refine HFi.out.mono ?_; rintro e w1 ⟨rfl, rfl⟩)
    go_ret
    rw [HE.out]
    exact ⟨rfl, A, c, HX.out, Turned.refl _ _, fun _ h => .inl h⟩

theorem info64 : (Try.prog.info? 2).map (fun i => (i.zero, i.size, i.bytes)) = some (some (.int .i64 0), 1, 8) := by kernel_rfl
def adV (h : Ho) : List Value := [.int .i64 h.a]
theorem adV_map (l : List Ho) : l.flatMap adV = (l.map Ho.a).map (Value.int .i64) := by
  induction l with
  | nil => rfl
  | cons h t ih => rw [List.flatMap_cons, ih]; rfl
set_option maxRecDepth 100000 in
set_option maxHeartbeats 4000000 in
theorem held_any {w : World} {b : Nat} {A : Option Addr} {c : Nat} {hs : List Ho} (H : LR w b A c hs) (hl : hs.length ≤ 10000) :
    Calls Try.prog 14 #[.pointer (some ⟨b, 0, none⟩)] w fun e w' => ∃ v, e = .returned v ∧ OwnI w' w.heap.size v (hs.map Ho.a) ∧ Below w.heap.size w w' := by
  have HH := Lib.hid H
  obtain ⟨i0, hi, hz, hz1, hz2⟩ := info_parts info64
  have I0 := Lib.hid hi
  have I1 := Lib.hid hz
  have I2 := Lib.hid hz1
  have I3 := Lib.hid hz2
  clear H hi hz hz1 hz2
  go_enter Try.func14, Try.ntmps14
  go_wp2_with fail
  go_loopw [3, 4] (fun s i wr => ∃ (j n : Nat) (A' : Option Addr) (c' : Nat), j ≤ hs.length ∧ i = .int .i64 j ∧ s = .slice A' n c' ∧ Rw 2 1 adV w wr A' n c' (hs.take j)) (fun _ i _ => hs.length - (intOf i).toNat)
  case atStart => exact ⟨0, 0, none, 0, Nat.zero_le _, rfl, rfl, Rw.start _ _ _ _⟩
  case round =>
    obtain ⟨j, n, A', c', hj, rfl, rfl, hrw⟩ := hrel
    have HW := Lib.hid hrw
    have hH := HH.out.beside hrw.bel
    have hsz := hrw.bel.size
    have hn : n ≤ j := by rw [hrw.len]; simp; omega
    have c0 := hH.box.cell 0
    clear hrw
    by_cases hlt : j < hs.length
    · obtain ⟨g, rfl, _, _⟩ := HH.out.at_ (by omega)
      have q0 := (hH.cells hlt).1
      have hj1 : (j : Int) < (hs.length : Int) := by omega
      have HN : Hid (hs.take (j + 1) = hs.take j ++ [hs[j]]) := Lib.hid (List.take_succ_eq_append_getElem hlt)
      generalize hs.take j = ks at *
      generalize hs[j] = x at *
      obtain ⟨xa, xw, xn⟩ := x
      simp only at q0 HN
      clear hH
      go_wp2_with (first
        | (at_builtin
           refine wpList_append_lies _ rfl (.tmp 14) (.tmp 23) 29 rfl w.heap.size 2 i0 _ 1 8 Try.underlying29 I0.out I1.out I2.out I3.out rfl (by omega) (.slice A' n c') n (ks.flatMap adV) rfl (HW.out.alloc _) ⟨wr.heap.size, 0, none⟩ 1 1 [.int .i64 xa] rfl rfl (World.news_of_block (cs := #[.int .i64 xa]) (t := 2) (fr := (0, 0)) (Bx.new _ _ _)) (by simp [Value.oneCell']) (by omega) (by unfold maxLen; omega) (by omega) (by simp; omega) _ rfl ?_
           intro b5 c5 w5 hown5 hg5 hat5 hlt5
           have P5 := Lib.hid (HW.out.push (b5 := b5) (c5 := c5) _ _ ⟨xa, xw, xn⟩ hg5 hown5)
           clear hown5 hg5 hat5))
      go_roundw
      case rel => exact ⟨j + 1, n + 1, _, _, by omega, by go_num, rfl, by rw [HN.out]; exact P5.out⟩
      case measure => simp [intOf]; omega
    · have hj1 : ¬ (j : Int) < (hs.length : Int) := by omega
      have HZ : Hid (hs.take j = hs) := Lib.hid (List.take_of_length_le (by omega))
      clear hH
      go_wp2_with fail
      go_ret
      refine ⟨_, rfl, ?_, HW.out.bel⟩
      have hrow := HW.out.own
      rw [HZ.out, adV_map] at hrow
      have hn2 := HW.out.len
      rw [HZ.out] at hn2
      unfold OwnI
      rw [List.length_map, ← hn2]
      exact hrow
end LkS
end Go.Proofs.Ytkjkofdjnjihjaa
