/-
  Exit, Of, Free, Held: what each of them hands back, and all that is held then.
-/
import Derived.Test.YtkjkofdjnjihjaaLkD
namespace Go.Proofs.Ytkjkofdjnjihjaa
namespace LkE
open Go.RowKit Go.Shelf Base BinM LkM LkA LkB LkD

attribute [local go_sem] Oper.semAt_some

theorem NextL.trans {tb te : TypeId} {w w1 w2 : World} {b : Nat} {A A1 : Option Addr} {hs : List Ho} (T : Turned (feet b A) w w1) (hA : ∀ k, feet b A1 k → feet b A k ∨ w.heap.size ≤ k) (h : NextL tb te w1 w2 b A1 hs) : NextL tb te w w2 b A hs := by
  obtain ⟨A', c', H, T', F⟩ := h
  refine ⟨A', c', H, T.trans T' hA, fun k hk => ?_⟩
  rcases F k hk with h | h
  · exact hA k h
  · exact .inr (Nat.le_trans T.size h)
/-- what Exit answers, and all that is held then -/
def exitT (hs : List Ho) (a w : Int) : Int × List Ho :=
  match hs[fnd hs a]? with
  | none => (28, hs)
  | some h => if h.w = w then (0, if h.n = 1 then (hs.set (fnd hs a) ⟨h.a, h.w, h.n - 1⟩).filter (fun x => !(x.a == a)) else hs.set (fnd hs a) ⟨h.a, h.w, h.n - 1⟩) else (28, hs)

set_option maxRecDepth 100000 in
set_option maxHeartbeats 4000000 in
theorem exit_any {w : World} {b : Nat} {A : Option Addr} {c : Nat} {hs : List Ho} (H : Lk 48 53 w b A c hs) {N : Nat} (hN : N ≤ 10000) (hF : Few N hs) (a who : Int) :
    Calls Try.prog 18 #[.pointer (some ⟨b, 0, none⟩), .int .i64 a, .int .i64 who] w fun e w' => e = .returned (.int .i64 (exitT hs a who).1) ∧ NextL 48 53 w w' b A (exitT hs a who).2 := by
  have hl := hF.1
  have hal : Below w.heap.size w (w.alloc (.cells #[.int .i64 a] 2)) := (Below.refl _ w).alloc (Nat.le_refl _) _
  have hbx := Bx.new w #[.int .i64 a] 2
  have q0 := hbx.cell 0
  have HFi := Lib.hid (find_any (H.beside hal) (by omega) a)
  have HBx := Lib.hid hbx
  have HAl := Lib.hid hal
  have HH := Lib.hid (fun w1 (hb : Below w.heap.size w w1) => H.beside hb)
  have HSz : Hid ((w.alloc (.cells #[.int .i64 a] 2)).heap.size = w.heap.size + 1) := Lib.hid (by simp)
  by_cases hlt : fnd hs a < hs.length
  · have hp : ptrE A hs a = .pointer (A.map fun a' => ⟨a'.block, fnd hs a * 3, none⟩) := by unfold ptrE; rw [if_pos hlt]
    rw [hp] at HFi
    obtain ⟨g, rfl, _, hgl⟩ := H.at_ (by omega)
    have hE : exitT hs a who = if (hs[fnd hs a]'hlt).w = who then (0, if (hs[fnd hs a]'hlt).n = 1 then (hs.set (fnd hs a) ⟨(hs[fnd hs a]'hlt).a, (hs[fnd hs a]'hlt).w, (hs[fnd hs a]'hlt).n - 1⟩).filter (fun x => !(x.a == a)) else hs.set (fnd hs a) ⟨(hs[fnd hs a]'hlt).a, (hs[fnd hs a]'hlt).w, (hs[fnd hs a]'hlt).n - 1⟩) else (28, hs) := by
      unfold exitT
      rw [List.getElem?_eq_getElem hlt]
    have hfit := hF.2 _ (List.getElem_mem hlt)
    have HE := Lib.hid hE
    have HLt := Lib.hid hlt
    have HGl := Lib.hid hgl
    clear H hp hE hF hal hbx
    generalize hk : fnd hs a = k at *
    have hn1 : -9223372036854775808 ≤ (hs[k]'HLt.out).n - 1 ∧ (hs[k]'HLt.out).n - 1 ≤ 9223372036854775807 := by omega
    by_cases hw : (hs[k]'HLt.out).w = who
    · have HE2 := Lib.hid (HE.out.trans (if_pos hw))
      clear HE
      have hw1 : ((hs[k]'HLt.out).w != who) = false := by simpa using hw
      by_cases h1 : (hs[k]'HLt.out).n = 1
      · have hz : (((hs[k]'HLt.out).n - 1) == 0) = true := by rw [h1]; rfl
        have hz0 : (hs[k]'HLt.out).n - 1 = 0 := by omega
        have HE3 : Hid (exitT hs a who = (0, (hs.set k ⟨(hs[k]'HLt.out).a, (hs[k]'HLt.out).w, 0⟩).filter (fun x => !(x.a == a)))) := Lib.hid (HE2.out.trans (by rw [if_pos h1, hz0]))
        clear HE2 hz0
        have HDr := Lib.hid (fun (W : World) (hW : Lk 48 53 W b (some ⟨g, 0, none⟩) c (hs.set k ⟨(hs[k]'HLt.out).a, (hs[k]'HLt.out).w, 0⟩)) (hB : Bx W w.heap.size #[.int .i64 a] 2) => drop_any (enters_of Try.func29 (by kernel_rfl) rfl) (asksA w.heap.size a) (by decide) hW (by rw [List.length_set]; omega) hB)
        go_enter Try.func18, Try.ntmps18
        go_wp2_with (first
          | (go_at_call 25; refine HFi.out.mono ?_; rintro e w1 ⟨rfl, hb1⟩; have B1 := HAl.out.trans (hb1.mono (by have := HSz.out; omega)); have H1 := HH.out w1 B1; have q1 := (H1.cells HLt.out).2.1; have q2 := (H1.cells HLt.out).2.2; have q3 := H1.free (k * 3 + 2); have hbw := HBx.out.after hb1; have HX := Lib.hid (And.intro H1 (And.intro B1 hbw)); clear H1 hb1 B1 hbw)
          | (go_at_call 28; refine (HDr.out _ (HX.out.1.setN HLt.out _) (HX.out.2.2.beside _ _ (by have := HGl.out; omega))).mono ?_; rintro e w2 ⟨rfl, hn2⟩; have HN2 := Lib.hid hn2; clear hn2))
        go_ret
        rw [HE3.out]
        exact ⟨rfl, NextL.trans ((Turned.of_below HX.out.2.1).trans (Turned.of_set (F := feet b (some ⟨g, 0, none⟩)) w1 (a := ⟨g, k * 3 + 2, none⟩) (.inr ⟨_, rfl, rfl⟩) _) (fun j h => .inl h)) (fun _ h => .inl h) HN2.out⟩
      · have hz : (((hs[k]'HLt.out).n - 1) == 0) = false := by rw [beq_eq_false_iff_ne]; omega
        have HE3 := Lib.hid (HE2.out.trans (by rw [if_neg h1]))
        clear HE2
        go_enter Try.func18, Try.ntmps18
        go_wp2_with (go_at_call 25; refine HFi.out.mono ?_; rintro e w1 ⟨rfl, hb1⟩; have B1 := HAl.out.trans (hb1.mono (by have := HSz.out; omega)); have H1 := HH.out w1 B1; have q1 := (H1.cells HLt.out).2.1; have q2 := (H1.cells HLt.out).2.2; have q3 := H1.free (k * 3 + 2); have hbw := HBx.out.after hb1; have HX := Lib.hid (And.intro H1 (And.intro B1 hbw)); clear H1 hb1 B1 hbw)
        go_ret
        rw [HE3.out]
        exact ⟨rfl, some ⟨g, 0, none⟩, c, HX.out.1.setN HLt.out _, (Turned.of_below HX.out.2.1).trans (Turned.of_set (F := feet b (some ⟨g, 0, none⟩)) w1 (a := ⟨g, k * 3 + 2, none⟩) (.inr ⟨_, rfl, rfl⟩) _) (fun j h => .inl h), fun _ h => .inl h⟩
    · have HE2 := Lib.hid (HE.out.trans (if_neg hw))
      clear HE
      have hw1 : ((hs[k]'HLt.out).w != who) = true := by simpa using hw
      go_enter Try.func18, Try.ntmps18
      go_wp2_with (go_at_call 25; refine HFi.out.mono ?_; rintro e w1 ⟨rfl, hb1⟩; have B1 := HAl.out.trans (hb1.mono (by have := HSz.out; omega)); have H1 := HH.out w1 B1; have q1 := (H1.cells HLt.out).2.1; have q2 := (H1.cells HLt.out).2.2; have q3 := H1.free (k * 3 + 2); have hbw := HBx.out.after hb1; have HX := Lib.hid (And.intro H1 (And.intro B1 hbw)); clear H1 hb1 B1 hbw)
      go_ret
      rw [HE2.out]
      exact ⟨rfl, some ⟨g, 0, none⟩, c, HX.out.1, Turned.of_below HX.out.2.1, fun _ h => .inl h⟩
  · have hp : ptrE A hs a = .pointer none := by unfold ptrE; rw [if_neg hlt]
    rw [hp] at HFi
    have HE := Lib.hid (show exitT hs a who = (28, hs) by
      unfold exitT
      rw [List.getElem?_eq_none (by omega)])
    clear H hp hF hlt hal hbx
    go_enter Try.func18, Try.ntmps18
    go_wp2_with (go_at_call 25; refine HFi.out.mono ?_; rintro e w1 ⟨rfl, hb1⟩; have B1 := HAl.out.trans (hb1.mono (by have := HSz.out; omega)); have HX := Lib.hid B1; clear hb1 B1)
    go_ret
    rw [HE.out]
    exact ⟨rfl, A, c, HH.out _ HX.out, Turned.of_below HX.out, fun _ h => .inl h⟩

/-- append of one number at a step of a drawn region in a round -/
theorem stepIn_append_own {F : Fence} {n : Nat} {P : Program} (w : World) {ops : Array Oper} {o : Oper} {a : Act} {K : Act → World → Prop} {Q : Exit → Act → World → Prop} {E : Prop}
    (hg : o.guard = none) (s x : Operand) (t : TypeId) (hop : o.op = Op.call { callee := Callee.builtin Builtin.append, args := #[s, x], argTypes := #[t, t] })
    (base : Nat) (e : TypeId) (i : TypeInfo) (z : Value) (size bytes : Nat) (h1 : P.underlying t = some (.slice e)) (h2 : P.info? e = some i) (h3 : i.zero = some z) (h4 : i.size = size) (h5 : i.bytes = bytes) (h6 : z.cells.size = size) (h7 : 0 < size)
    (v : Value) (k : Nat) (xs : List Value) (hs : a.eval s = v) (hown : w.ownsRow base e size v k xs) (ad : Addr) (m c : Nat) (news : List Value) (hx : a.eval x = .slice (some ad) m c) (hn : news.length = m * size)
    (hc : ∀ j u, news[j]? = some u → w.cell? (ad.add j) = some u) (h1c : ∀ u ∈ news, u.oneCell' = true) (b1 : k + m ≤ maxLen) (b2 : (k + m) * bytes ≤ 140737488355328) (b3 : base ≤ w.heap.size)
    (hK : ∀ v' w', w'.ownsRow base e size v' (k + m) (xs ++ news) → w.grownBy w' v.ownBlock → K (a.put o.dst v') w') :
    if Region.wanted o (yielded ops a.tmps) = true then Oper.wpIn F n P o a w K Q else E := by
  have hw : Region.wanted o (yielded ops a.tmps) = true := by simp [Region.wanted, hg]
  rw [if_pos hw]
  obtain ⟨v', w', hrun, r1, r2, r3⟩ := run_append_own (P := P) w base t o.type e i z size bytes h1 h2 h3 h4 h5 h6 h7 v k xs hown ad m c news hn hc h1c b1 b2 b3
  unfold Oper.wpIn
  refine ⟨?_, ?_⟩
  · simp [Oper.about, hop, resolve, Target.leads, Sem.run_pure]
  · rw [Oper.semAt_plain F _ _ (by rw [hop]; intro c hc'; cases hc')]
    simp [execOp, hop, resolve, invoke, builtin, hs, hx, hrun, Result.andThen]
    exact hK v' w' r1 r2

theorem fin_map {α β : Type} (l : List α) (f : α → β) : (List.finRange l.length).map (fun j => f l[j.val]) = l.map f := by
  apply List.ext_getElem
  · simp
  · intro i h1 h2
    simp
theorem fin_count (l : List Ho) (p : Ho → Bool) : (List.finRange l.length).countP (fun j => p l[j.val]) = l.countP p := by
  have h := fin_map l p
  have e1 : (List.finRange l.length).countP (fun j => p l[j.val]) = ((List.finRange l.length).map (fun j => p l[j.val])).countP id := by rw [List.countP_map]; rfl
  have e2 : l.countP p = (l.map p).countP id := by rw [List.countP_map]; rfl
  rw [e1, e2, h]
/-- how many a thread holds -/
def ofT (hs : List Ho) (w : Int) : Nat := hs.countP (fun h => h.w == w)
/-- the cells of a list of holds, wherever it lies -/
structure At (w : World) (g : Nat) (hs : List Ho) : Prop where
  lt : 0 < hs.length → g < w.heap.size
  a : ∀ k (hk : k < hs.length), w.cell? ⟨g, k * 3, none⟩ = some (.int .i64 hs[k].a)
  w : ∀ k (hk : k < hs.length), w.cell? ⟨g, k * 3 + 1, none⟩ = some (.int .i64 hs[k].w)
theorem at_of {tb te : TypeId} {w : World} {b : Nat} {A : Option Addr} {c : Nat} {hs : List Ho} (H : Lk tb te w b A c hs) : ∃ g, (0 < hs.length → A = some ⟨g, 0, none⟩) ∧ At w g hs := by
  by_cases h0 : 0 < hs.length
  · obtain ⟨g, rfl, _, hl⟩ := H.at_ h0
    exact ⟨g, fun _ => rfl, fun _ => hl, fun k hk => (H.cells hk).1, fun k hk => (H.cells hk).2.1⟩
  · exact ⟨0, fun h => absurd h h0, fun h => absurd h h0, fun k hk => by omega, fun k hk => by omega⟩

set_option maxRecDepth 100000 in
set_option maxHeartbeats 2000000 in
theorem of_in (F : Fence) (n : Nat) (h1 : F.fn 15) (h2 : F.fn 27) (h3 : F.fn 32) (hro : F.round = none) (hn : 3 ≤ n) {b : Nat} {A : Option Addr} {c : Nat} {hs : List Ho} {w : World} (H : Lk 48 53 w b A c hs) (hl : hs.length ≤ 100000) (x : Int) :
    CallsIn F n Try.prog 15 #[.pointer (some ⟨b, 0, none⟩), .int .i64 x] w fun e w' => e = .returned (.int .i64 (ofT hs x : Int)) ∧ Below w.heap.size w w' := by
  have hn1 : 1 ≤ n := by omega
  obtain ⟨g, hA, hat⟩ := at_of H
  have hbx := H.box
  refine callsIn_of_wp_marks Try.func15 rfl h1 ?_ hro
  simp only [Try.ntmps15, List.size_toArray, List.length_cons, List.length_nil, Nat.reduceAdd, Nat.reduceSub, Array.replicate_succ, Array.replicate_zero, List.push_toArray, List.append_toArray, List.nil_append, List.cons_append]
  gi_wp2_with (gi_at_call 27; refine (all_in F (n - 1) h2 hro _ _).mono ?_; rintro e w' ⟨rfl, rfl⟩)
  have hB0 : Below w.heap.size w (((w.alloc (.cells #[.int .i64 x] 3)).alloc (.cells #[.int .i64 0] 3)).alloc (.cells #[.pointer (some ⟨b, 0, none⟩)] 23)) := (((Below.refl _ w).alloc (Nat.le_refl _) _).alloc (by simp) _).alloc (by simp; omega) _
  have b0 := Bx.new w #[.int .i64 x] 3
  have b1 := Bx.new (w.alloc (.cells #[.int .i64 x] 3)) #[.int .i64 0] 3
  have b2 := Bx.new ((w.alloc (.cells #[.int .i64 x] 3)).alloc (.cells #[.int .i64 0] 3)) #[.pointer (some ⟨b, 0, none⟩)] 23
  simp only [World.size_alloc] at b1 b2
  have hlt := hbx.lt
  have hbx2 := hbx.after hB0
  have hfc := fin_count hs (fun h => h.w == x)
  refine wpIn_rangeFunc_ownF hro hn1 (gf := 32) (lb := #[.pointer (some ⟨w.heap.size + 1 + 1, 0, none⟩)]) rfl h3 (enters_of Try.func32 (by kernel_rfl) rfl)
    (all_stops F (n - 1) h3 hro (by omega) b (w.heap.size + 1 + 1) A g hs.length c hl hA _ b2 hbx2) kpl_t (kpl_b (by simp; omega) (by simp)) (Below.refl _ _) (fun _ => rfl)
    (fun (pre : List (Fin hs.length)) W => (Bx W w.heap.size #[.int .i64 x] 3 ∧ Bx W (w.heap.size + 1) #[.int .i64 ((pre.countP (fun j => hs[j.val].w == x) : Nat) : Int)] 3) ∧ Below w.heap.size w W)
    (fun _ _ _ => False)
    (OwnFrom.and (OwnFrom.and bx_from bx_from) (ownFrom_below (Nat.le_refl _) (by simp; omega)))
    (fun _ _ _ _ _ hs _ _ => hs)
    ⟨⟨(b0.alloc _).alloc _, b1.alloc _⟩, hB0⟩
    (fun k : Fin hs.length => { tmps := #[.pointer (some ⟨b, 0, none⟩), .int .i64 x, undef, .pointer (some ⟨w.heap.size, 0, none⟩), .int .i64 0, .pointer (some ⟨w.heap.size + 1, 0, none⟩), undef, .pointer (some ⟨g, k.val * 3, none⟩), .pointer (some ⟨b, 0, none⟩), .func (.func 32) #[] #[.pointer (some ⟨w.heap.size + 1 + 1, 0, none⟩)], .int .i64 ((k.val : Nat) : Int), .pointer (some ⟨g, k.val * 3, none⟩), undef, undef, undef, undef, undef, undef, undef, undef, undef], defers := [] }) ?assign ?body ?done ?stop
  case assign =>
    intro l k W K hK
    gi_wp2
    exact hK
  case body =>
    rintro l pre k W ⟨⟨q0, q1⟩, hB⟩ hm
    have e0 := q0.cell 0
    have e1 := q1.cell 0
    have e2 := q1.free 0
    have e3 : W.cell? ⟨g, k.val * 3 + 1, none⟩ = some (.int .i64 hs[k.val].w) := (hB.cell (p := ⟨g, k.val * 3 + 1, none⟩) (hat.lt (by omega))).trans (hat.w k.val k.isLt)
    have hmx : Try.prog.follows .mixedOrders = true := by kernel_rfl
    have hcl := List.countP_le_length (p := fun j : Fin hs.length => hs[j.val].w == x) (l := pre)
    have hsn : (pre ++ [k]).countP (fun j => hs[j.val].w == x) = pre.countP (fun j => hs[j.val].w == x) + (if hs[k.val].w == x then 1 else 0) := by rw [List.countP_append, List.countP_singleton]
    by_cases hx : hs[k.val].w = x
    · have hx1 : (hs[k.val].w == x) = true := by simpa using hx
      rw [hx1, if_pos rfl] at hsn
      generalize pre.countP (fun j => hs[j.val].w == x) = N at *
      have hsn2 : ∀ (M : Nat), M = N + 1 → ((M : Nat) : Int) = (N : Int) + 1 := by intro M h; omega
      gi_wp2
      gi_region_o
      all_goals gi_wp2
      all_goals exact ⟨(KeepsOthers.setCell _ _ _).trans (KeepsOthers.drew _), ⟨heap_setCell_other _ _ _ _ (by show b ≠ w.heap.size + 1; omega), heap_setCell_other _ _ _ _ (by show w.heap.size + 1 + 1 ≠ w.heap.size + 1; omega)⟩, ⟨q0.beside 0 _ (by omega), by rw [hsn2 _ hsn]; exact q1.set 0 _⟩, (hB.setCell (p := ⟨w.heap.size + 1, 0, none⟩) (by simp) _).drew⟩
    · have hx1 : (hs[k.val].w == x) = false := by simpa using hx
      rw [hx1, if_neg (by simp), Nat.add_zero] at hsn
      gi_wp2
      gi_region_o
      all_goals gi_wp2
      all_goals exact ⟨KeepsOthers.drew _, ⟨rfl, rfl⟩, ⟨q0, by rw [hsn]; exact q1⟩, hB.drew⟩
  case done =>
    rintro D ys W hD rfl ⟨⟨q0, q1⟩, hB⟩ hK
    rw [hfc] at q1
    have e1 := q1.cell 0
    gi_wp2
    refine ⟨by simp, .inl ⟨_, _, rfl, run_takeDeferred hK, ?_⟩⟩
    exact ⟨_, results_tmp rfl _ _ _, rfl, hB.trans (belowK_b (w := w) (Nat.le_refl _) W D _ _ (by simp at hD; omega) hK rfl rfl)⟩
  case stop =>
    rintro D c pre W _ _ h _
    exact h.elim

set_option maxRecDepth 100000 in
set_option maxHeartbeats 4000000 in
theorem held_in (F : Fence) (n : Nat) (h1 : F.fn 13) (h2 : F.fn 27) (h3 : F.fn 32) (hro : F.round = none) (hn : 3 ≤ n) {b : Nat} {A : Option Addr} {c : Nat} {hs : List Ho} {w : World} (H : Lk 48 53 w b A c hs) (hl : hs.length ≤ 100000) :
    CallsIn F n Try.prog 13 #[.pointer (some ⟨b, 0, none⟩)] w fun e w' => ∃ v, e = .returned v ∧ OwnI w' w.heap.size v (hs.map Ho.a) ∧ Below w.heap.size w w' := by
  have hn1 : 1 ≤ n := by omega
  obtain ⟨g, hA, hat⟩ := at_of H
  have hbx := H.box
  refine callsIn_of_wp_marks Try.func13 rfl h1 ?_ hro
  simp only [Try.ntmps13, List.size_toArray, List.length_cons, List.length_nil, Nat.reduceAdd, Nat.reduceSub, Array.replicate_succ, Array.replicate_zero, List.push_toArray, List.append_toArray, List.nil_append, List.cons_append]
  gi_wp2_with (gi_at_call 27; refine (all_in F (n - 1) h2 hro _ _).mono ?_; rintro e w' ⟨rfl, rfl⟩)
  have hB0 : Below w.heap.size w ((w.alloc (.cells #[.slice none 0 0] 29)).alloc (.cells #[.pointer (some ⟨b, 0, none⟩)] 23)) := ((Below.refl _ w).alloc (Nat.le_refl _) _).alloc (by simp) _
  have b1 := Boxed.new w 29 (.slice none 0 0)
  have b2 := Bx.new (w.alloc (.cells #[.slice none 0 0] 29)) #[.pointer (some ⟨b, 0, none⟩)] 23
  simp only [World.size_alloc] at b2
  have hlt := hbx.lt
  have hbx2 := hbx.after hB0
  have hfc := fin_map hs (fun h => Value.int .i64 h.a)
  obtain ⟨i0, hi, hz0, hz1, hz2⟩ := info_parts info64
  refine wpIn_rangeFunc_ownG hro hn1 (gf := 32) (lb := #[.pointer (some ⟨w.heap.size + 1, 0, none⟩)]) rfl h3 (enters_of Try.func32 (by kernel_rfl) rfl)
    (all_stops F (n - 1) h3 hro (by omega) b (w.heap.size + 1) A g hs.length c hl hA _ b2 hbx2) kpl_t (kpl_b (by simp; omega) (by simp)) (Below.refl _ _) (fun _ => rfl)
    (fun (pre : List (Fin hs.length)) W => ((∃ v, Boxed W w.heap.size 29 v ∧ W.ownsRow w.heap.size 2 1 v pre.length (pre.map (fun j => Value.int .i64 hs[j.val].a)) ∧ True) ∧ Bx W (w.heap.size + 1) #[.pointer (some ⟨b, 0, none⟩)] 23) ∧ Below w.heap.size w W)
    (fun _ _ _ => False)
    (OwnFrom.and (OwnFrom.and (Own.from (holdsRow_own w.heap.size w.heap.size 29 2 1 (fun pre => pre.length) (fun (pre : List (Fin hs.length)) => pre.map (fun j => Value.int .i64 hs[j.val].a)) (fun _ _ => True)) _) bx_from) (ownFrom_below (Nat.le_refl _) (by simp; omega)))
    (fun _ _ _ _ _ hs _ _ => hs)
    ⟨⟨⟨_, b1.alloc _, World.ownsRow_nil _ _ _ _, trivial⟩, b2⟩, hB0⟩
    (fun k : Fin hs.length => { tmps := #[.pointer (some ⟨b, 0, none⟩), undef, .slice none 0 0, .pointer (some ⟨w.heap.size, 0, none⟩), undef, .pointer (some ⟨g, k.val * 3, none⟩), .pointer (some ⟨b, 0, none⟩), .func (.func 32) #[] #[.pointer (some ⟨w.heap.size + 1, 0, none⟩)], .int .i64 ((k.val : Nat) : Int), .pointer (some ⟨g, k.val * 3, none⟩), undef, undef, undef, undef, undef, undef, undef, undef], defers := [] }) ?assign ?body ?done ?stop
  case assign =>
    intro l k W K hK
    gi_wp2
    exact hK
  case body =>
    rintro l pre k W ⟨⟨⟨v, hv, hrow, -⟩, hq⟩, hB⟩ hm
    have e4 := (hv.alloc (.cells #[.int .i64 hs[k.val].a] 2)).cell
    have e5 : (W.alloc (.cells #[.int .i64 hs[k.val].a] 2)).drew.cell? ⟨w.heap.size, 0, none⟩ = some v := e4
    have hvd : Boxed W.drew w.heap.size 29 v := hv
    have hrowd : W.drew.ownsRow w.heap.size 2 1 v pre.length (pre.map (fun j => Value.int .i64 hs[j.val].a)) := hrow
    have hqd : Bx W.drew (w.heap.size + 1) #[.pointer (some ⟨b, 0, none⟩)] 23 := hq
    have e1 := hv.cell
    have e2 := hv.frozen
    have e3 : W.cell? ⟨g, k.val * 3, none⟩ = some (.int .i64 hs[k.val].a) := (hB.cell (p := ⟨g, k.val * 3, none⟩) (hat.lt (by omega))).trans (hat.a k.val k.isLt)
    have hmx : Try.prog.follows .mixedOrders = true := by kernel_rfl
    gi_wp2
    refine wpIn_region_any hmx ?_
    -- HELD-TREE
    refine wpAnyIn_ready (rs := [0, 1]) (by kernel_rfl) (by simp) (AllReadyIn.cons (o := _) rfl (fun K hK => ?_) (AllReadyIn.cons (o := _) rfl (fun K hK => ?_) AllReadyIn.nil))
    · go_simp
      refine hK _ _ ?_
      clear hK K
      try simp only [Act.put, List.getElem_toArray, List.getElem_cons_zero, List.getElem_cons_succ, List.setIfInBounds_toArray, List.set_cons_zero, List.set_cons_succ]
      refine wpAnyIn_ready (rs := [1]) (by kernel_rfl) (by simp) (AllReadyIn.cons (o := _) rfl (fun K hK => ?_) AllReadyIn.nil)
      · go_simp
        refine hK _ _ ?_
        clear hK K
        try simp only [Act.put, List.getElem_toArray, List.getElem_cons_zero, List.getElem_cons_succ, List.setIfInBounds_toArray, List.set_cons_zero, List.set_cons_succ]
        refine wpAnyIn_ready (rs := [2]) (by kernel_rfl) (by simp) (AllReadyIn.cons (o := _) rfl (fun K hK => ?_) AllReadyIn.nil)
        · go_simp
          refine hK _ _ ?_
          clear hK K
          try simp only [Act.put, List.getElem_toArray, List.getElem_cons_zero, List.getElem_cons_succ, List.setIfInBounds_toArray, List.set_cons_zero, List.set_cons_succ]
          refine wpAnyIn_ready (rs := [3]) (by kernel_rfl) (by simp) (AllReadyIn.cons (o := _) rfl (fun K hK => ?_) AllReadyIn.nil)
          · go_simp
            refine hK _ _ ?_
            clear hK K
            try simp only [Act.put, List.getElem_toArray, List.getElem_cons_zero, List.getElem_cons_succ, List.setIfInBounds_toArray, List.set_cons_zero, List.set_cons_succ]
            refine wpAnyIn_ready (rs := [4]) (by kernel_rfl) (by simp) (AllReadyIn.cons (o := _) rfl (fun K hK => ?_) AllReadyIn.nil)
            · go_simp
              refine hK _ _ ?_
              clear hK K
              try simp only [Act.put, List.getElem_toArray, List.getElem_cons_zero, List.getElem_cons_succ, List.setIfInBounds_toArray, List.set_cons_zero, List.set_cons_succ]
              refine wpAnyIn_ready (rs := [5]) (by kernel_rfl) (by simp) (AllReadyIn.cons (o := _) rfl (fun K hK => ?_) AllReadyIn.nil)
              · go_simp
                refine hK _ _ ?_
                clear hK K
                try simp only [Act.put, List.getElem_toArray, List.getElem_cons_zero, List.getElem_cons_succ, List.setIfInBounds_toArray, List.set_cons_zero, List.set_cons_succ]
                refine wpAnyIn_ready (rs := [6]) (by kernel_rfl) (by simp) (AllReadyIn.cons (o := _) rfl (fun K hK => ?_) AllReadyIn.nil)
                refine stepIn_append_own _ rfl (.tmp 10) (.tmp 15) 29 rfl w.heap.size 2 i0 (.int .i64 0) 1 8 Try.underlying29 hi hz0 hz1 hz2 rfl (by decide) v pre.length _ rfl (hrowd.alloc _) ⟨W.heap.size, 0, none⟩ 1 1 [.int .i64 hs[k.val].a] rfl rfl (cell_one_new _ _ _) (by simp [Value.oneCell']) (by unfold maxLen; omega) (by omega) (by have := hB.size; simp; omega) ?_
                intro v' w1 hown' hgrow
                obtain ⟨g', cap', rfl⟩ := ownsRow_succ hown'
                obtain ⟨hv1, hv2, hr2, hk2, hb2⟩ := hvd.appended (by decide) hrowd hB.size (Nat.le_refl _) hown' hgrow
                have hc1 := hv1.cell
                have hf1 := hv1.frozen
                refine hK _ _ ?_
                clear hK K
                try simp only [Act.put, List.getElem_toArray, List.getElem_cons_zero, List.getElem_cons_succ, List.setIfInBounds_toArray, List.set_cons_zero, List.set_cons_succ]
                refine wpAnyIn_ready (rs := [7]) (by kernel_rfl) (by simp) (AllReadyIn.cons (o := _) rfl (fun K hK => ?_) AllReadyIn.nil)
                go_simp
                refine hK _ _ ?_
                clear hK K
                refine wpAnyIn_done (by kernel_rfl) ?_ _
                have hbl2 : Bx w1 (w.heap.size + 1) #[.pointer (some ⟨b, 0, none⟩)] 23 := (hgrow.block (w.heap.size + 1) (by have := hq.lt; simp; omega) (fun e => own_ne hrowd hqd (by decide) e.symm)).trans (hqd.alloc _)
                have hbl3 := hbl2.beside (b := w.heap.size) 0 (.slice (some ⟨g', 0, none⟩) (pre.length + 1) cap') (by omega)
                exact ⟨((KeepsOthers.drew W).trans hk2).from _, ⟨hb2.block b hlt, hbl3.trans (Eq.symm hq)⟩, ⟨⟨_, hv2, by rw [List.length_append, List.map_append]; exact hr2, trivial⟩, hbl3⟩, (hB.drew).trans hb2⟩
    · go_simp
      refine hK _ _ ?_
      clear hK K
      try simp only [Act.put, List.getElem_toArray, List.getElem_cons_zero, List.getElem_cons_succ, List.setIfInBounds_toArray, List.set_cons_zero, List.set_cons_succ]
      refine wpAnyIn_ready (rs := [0, 2]) (by kernel_rfl) (by simp) (AllReadyIn.cons (o := _) rfl (fun K hK => ?_) (AllReadyIn.cons (o := _) rfl (fun K hK => ?_) AllReadyIn.nil))
      · go_simp
        refine hK _ _ ?_
        clear hK K
        try simp only [Act.put, List.getElem_toArray, List.getElem_cons_zero, List.getElem_cons_succ, List.setIfInBounds_toArray, List.set_cons_zero, List.set_cons_succ]
        refine wpAnyIn_ready (rs := [2]) (by kernel_rfl) (by simp) (AllReadyIn.cons (o := _) rfl (fun K hK => ?_) AllReadyIn.nil)
        · go_simp
          refine hK _ _ ?_
          clear hK K
          try simp only [Act.put, List.getElem_toArray, List.getElem_cons_zero, List.getElem_cons_succ, List.setIfInBounds_toArray, List.set_cons_zero, List.set_cons_succ]
          refine wpAnyIn_ready (rs := [3]) (by kernel_rfl) (by simp) (AllReadyIn.cons (o := _) rfl (fun K hK => ?_) AllReadyIn.nil)
          · go_simp
            refine hK _ _ ?_
            clear hK K
            try simp only [Act.put, List.getElem_toArray, List.getElem_cons_zero, List.getElem_cons_succ, List.setIfInBounds_toArray, List.set_cons_zero, List.set_cons_succ]
            refine wpAnyIn_ready (rs := [4]) (by kernel_rfl) (by simp) (AllReadyIn.cons (o := _) rfl (fun K hK => ?_) AllReadyIn.nil)
            · go_simp
              refine hK _ _ ?_
              clear hK K
              try simp only [Act.put, List.getElem_toArray, List.getElem_cons_zero, List.getElem_cons_succ, List.setIfInBounds_toArray, List.set_cons_zero, List.set_cons_succ]
              refine wpAnyIn_ready (rs := [5]) (by kernel_rfl) (by simp) (AllReadyIn.cons (o := _) rfl (fun K hK => ?_) AllReadyIn.nil)
              · go_simp
                refine hK _ _ ?_
                clear hK K
                try simp only [Act.put, List.getElem_toArray, List.getElem_cons_zero, List.getElem_cons_succ, List.setIfInBounds_toArray, List.set_cons_zero, List.set_cons_succ]
                refine wpAnyIn_ready (rs := [6]) (by kernel_rfl) (by simp) (AllReadyIn.cons (o := _) rfl (fun K hK => ?_) AllReadyIn.nil)
                refine stepIn_append_own _ rfl (.tmp 10) (.tmp 15) 29 rfl w.heap.size 2 i0 (.int .i64 0) 1 8 Try.underlying29 hi hz0 hz1 hz2 rfl (by decide) v pre.length _ rfl (hrowd.alloc _) ⟨W.heap.size, 0, none⟩ 1 1 [.int .i64 hs[k.val].a] rfl rfl (cell_one_new _ _ _) (by simp [Value.oneCell']) (by unfold maxLen; omega) (by omega) (by have := hB.size; simp; omega) ?_
                intro v' w1 hown' hgrow
                obtain ⟨g', cap', rfl⟩ := ownsRow_succ hown'
                obtain ⟨hv1, hv2, hr2, hk2, hb2⟩ := hvd.appended (by decide) hrowd hB.size (Nat.le_refl _) hown' hgrow
                have hc1 := hv1.cell
                have hf1 := hv1.frozen
                refine hK _ _ ?_
                clear hK K
                try simp only [Act.put, List.getElem_toArray, List.getElem_cons_zero, List.getElem_cons_succ, List.setIfInBounds_toArray, List.set_cons_zero, List.set_cons_succ]
                refine wpAnyIn_ready (rs := [7]) (by kernel_rfl) (by simp) (AllReadyIn.cons (o := _) rfl (fun K hK => ?_) AllReadyIn.nil)
                go_simp
                refine hK _ _ ?_
                clear hK K
                refine wpAnyIn_done (by kernel_rfl) ?_ _
                have hbl2 : Bx w1 (w.heap.size + 1) #[.pointer (some ⟨b, 0, none⟩)] 23 := (hgrow.block (w.heap.size + 1) (by have := hq.lt; simp; omega) (fun e => own_ne hrowd hqd (by decide) e.symm)).trans (hqd.alloc _)
                have hbl3 := hbl2.beside (b := w.heap.size) 0 (.slice (some ⟨g', 0, none⟩) (pre.length + 1) cap') (by omega)
                exact ⟨((KeepsOthers.drew W).trans hk2).from _, ⟨hb2.block b hlt, hbl3.trans (Eq.symm hq)⟩, ⟨⟨_, hv2, by rw [List.length_append, List.map_append]; exact hr2, trivial⟩, hbl3⟩, (hB.drew).trans hb2⟩
      · go_simp
        refine hK _ _ ?_
        clear hK K
        try simp only [Act.put, List.getElem_toArray, List.getElem_cons_zero, List.getElem_cons_succ, List.setIfInBounds_toArray, List.set_cons_zero, List.set_cons_succ]
        refine wpAnyIn_ready (rs := [0, 3]) (by kernel_rfl) (by simp) (AllReadyIn.cons (o := _) rfl (fun K hK => ?_) (AllReadyIn.cons (o := _) rfl (fun K hK => ?_) AllReadyIn.nil))
        · go_simp
          refine hK _ _ ?_
          clear hK K
          try simp only [Act.put, List.getElem_toArray, List.getElem_cons_zero, List.getElem_cons_succ, List.setIfInBounds_toArray, List.set_cons_zero, List.set_cons_succ]
          refine wpAnyIn_ready (rs := [3]) (by kernel_rfl) (by simp) (AllReadyIn.cons (o := _) rfl (fun K hK => ?_) AllReadyIn.nil)
          · go_simp
            refine hK _ _ ?_
            clear hK K
            try simp only [Act.put, List.getElem_toArray, List.getElem_cons_zero, List.getElem_cons_succ, List.setIfInBounds_toArray, List.set_cons_zero, List.set_cons_succ]
            refine wpAnyIn_ready (rs := [4]) (by kernel_rfl) (by simp) (AllReadyIn.cons (o := _) rfl (fun K hK => ?_) AllReadyIn.nil)
            · go_simp
              refine hK _ _ ?_
              clear hK K
              try simp only [Act.put, List.getElem_toArray, List.getElem_cons_zero, List.getElem_cons_succ, List.setIfInBounds_toArray, List.set_cons_zero, List.set_cons_succ]
              refine wpAnyIn_ready (rs := [5]) (by kernel_rfl) (by simp) (AllReadyIn.cons (o := _) rfl (fun K hK => ?_) AllReadyIn.nil)
              · go_simp
                refine hK _ _ ?_
                clear hK K
                try simp only [Act.put, List.getElem_toArray, List.getElem_cons_zero, List.getElem_cons_succ, List.setIfInBounds_toArray, List.set_cons_zero, List.set_cons_succ]
                refine wpAnyIn_ready (rs := [6]) (by kernel_rfl) (by simp) (AllReadyIn.cons (o := _) rfl (fun K hK => ?_) AllReadyIn.nil)
                refine stepIn_append_own _ rfl (.tmp 10) (.tmp 15) 29 rfl w.heap.size 2 i0 (.int .i64 0) 1 8 Try.underlying29 hi hz0 hz1 hz2 rfl (by decide) v pre.length _ rfl (hrowd.alloc _) ⟨W.heap.size, 0, none⟩ 1 1 [.int .i64 hs[k.val].a] rfl rfl (cell_one_new _ _ _) (by simp [Value.oneCell']) (by unfold maxLen; omega) (by omega) (by have := hB.size; simp; omega) ?_
                intro v' w1 hown' hgrow
                obtain ⟨g', cap', rfl⟩ := ownsRow_succ hown'
                obtain ⟨hv1, hv2, hr2, hk2, hb2⟩ := hvd.appended (by decide) hrowd hB.size (Nat.le_refl _) hown' hgrow
                have hc1 := hv1.cell
                have hf1 := hv1.frozen
                refine hK _ _ ?_
                clear hK K
                try simp only [Act.put, List.getElem_toArray, List.getElem_cons_zero, List.getElem_cons_succ, List.setIfInBounds_toArray, List.set_cons_zero, List.set_cons_succ]
                refine wpAnyIn_ready (rs := [7]) (by kernel_rfl) (by simp) (AllReadyIn.cons (o := _) rfl (fun K hK => ?_) AllReadyIn.nil)
                go_simp
                refine hK _ _ ?_
                clear hK K
                refine wpAnyIn_done (by kernel_rfl) ?_ _
                have hbl2 : Bx w1 (w.heap.size + 1) #[.pointer (some ⟨b, 0, none⟩)] 23 := (hgrow.block (w.heap.size + 1) (by have := hq.lt; simp; omega) (fun e => own_ne hrowd hqd (by decide) e.symm)).trans (hqd.alloc _)
                have hbl3 := hbl2.beside (b := w.heap.size) 0 (.slice (some ⟨g', 0, none⟩) (pre.length + 1) cap') (by omega)
                exact ⟨((KeepsOthers.drew W).trans hk2).from _, ⟨hb2.block b hlt, hbl3.trans (Eq.symm hq)⟩, ⟨⟨_, hv2, by rw [List.length_append, List.map_append]; exact hr2, trivial⟩, hbl3⟩, (hB.drew).trans hb2⟩
        · go_simp
          refine hK _ _ ?_
          clear hK K
          try simp only [Act.put, List.getElem_toArray, List.getElem_cons_zero, List.getElem_cons_succ, List.setIfInBounds_toArray, List.set_cons_zero, List.set_cons_succ]
          refine wpAnyIn_ready (rs := [0, 4]) (by kernel_rfl) (by simp) (AllReadyIn.cons (o := _) rfl (fun K hK => ?_) (AllReadyIn.cons (o := _) rfl (fun K hK => ?_) AllReadyIn.nil))
          · go_simp
            refine hK _ _ ?_
            clear hK K
            try simp only [Act.put, List.getElem_toArray, List.getElem_cons_zero, List.getElem_cons_succ, List.setIfInBounds_toArray, List.set_cons_zero, List.set_cons_succ]
            refine wpAnyIn_ready (rs := [4]) (by kernel_rfl) (by simp) (AllReadyIn.cons (o := _) rfl (fun K hK => ?_) AllReadyIn.nil)
            · go_simp
              refine hK _ _ ?_
              clear hK K
              try simp only [Act.put, List.getElem_toArray, List.getElem_cons_zero, List.getElem_cons_succ, List.setIfInBounds_toArray, List.set_cons_zero, List.set_cons_succ]
              refine wpAnyIn_ready (rs := [5]) (by kernel_rfl) (by simp) (AllReadyIn.cons (o := _) rfl (fun K hK => ?_) AllReadyIn.nil)
              · go_simp
                refine hK _ _ ?_
                clear hK K
                try simp only [Act.put, List.getElem_toArray, List.getElem_cons_zero, List.getElem_cons_succ, List.setIfInBounds_toArray, List.set_cons_zero, List.set_cons_succ]
                refine wpAnyIn_ready (rs := [6]) (by kernel_rfl) (by simp) (AllReadyIn.cons (o := _) rfl (fun K hK => ?_) AllReadyIn.nil)
                refine stepIn_append_own _ rfl (.tmp 10) (.tmp 15) 29 rfl w.heap.size 2 i0 (.int .i64 0) 1 8 Try.underlying29 hi hz0 hz1 hz2 rfl (by decide) v pre.length _ rfl (hrowd.alloc _) ⟨W.heap.size, 0, none⟩ 1 1 [.int .i64 hs[k.val].a] rfl rfl (cell_one_new _ _ _) (by simp [Value.oneCell']) (by unfold maxLen; omega) (by omega) (by have := hB.size; simp; omega) ?_
                intro v' w1 hown' hgrow
                obtain ⟨g', cap', rfl⟩ := ownsRow_succ hown'
                obtain ⟨hv1, hv2, hr2, hk2, hb2⟩ := hvd.appended (by decide) hrowd hB.size (Nat.le_refl _) hown' hgrow
                have hc1 := hv1.cell
                have hf1 := hv1.frozen
                refine hK _ _ ?_
                clear hK K
                try simp only [Act.put, List.getElem_toArray, List.getElem_cons_zero, List.getElem_cons_succ, List.setIfInBounds_toArray, List.set_cons_zero, List.set_cons_succ]
                refine wpAnyIn_ready (rs := [7]) (by kernel_rfl) (by simp) (AllReadyIn.cons (o := _) rfl (fun K hK => ?_) AllReadyIn.nil)
                go_simp
                refine hK _ _ ?_
                clear hK K
                refine wpAnyIn_done (by kernel_rfl) ?_ _
                have hbl2 : Bx w1 (w.heap.size + 1) #[.pointer (some ⟨b, 0, none⟩)] 23 := (hgrow.block (w.heap.size + 1) (by have := hq.lt; simp; omega) (fun e => own_ne hrowd hqd (by decide) e.symm)).trans (hqd.alloc _)
                have hbl3 := hbl2.beside (b := w.heap.size) 0 (.slice (some ⟨g', 0, none⟩) (pre.length + 1) cap') (by omega)
                exact ⟨((KeepsOthers.drew W).trans hk2).from _, ⟨hb2.block b hlt, hbl3.trans (Eq.symm hq)⟩, ⟨⟨_, hv2, by rw [List.length_append, List.map_append]; exact hr2, trivial⟩, hbl3⟩, (hB.drew).trans hb2⟩
          · go_simp
            refine hK _ _ ?_
            clear hK K
            try simp only [Act.put, List.getElem_toArray, List.getElem_cons_zero, List.getElem_cons_succ, List.setIfInBounds_toArray, List.set_cons_zero, List.set_cons_succ]
            refine wpAnyIn_ready (rs := [0, 5]) (by kernel_rfl) (by simp) (AllReadyIn.cons (o := _) rfl (fun K hK => ?_) (AllReadyIn.cons (o := _) rfl (fun K hK => ?_) AllReadyIn.nil))
            · go_simp
              refine hK _ _ ?_
              clear hK K
              try simp only [Act.put, List.getElem_toArray, List.getElem_cons_zero, List.getElem_cons_succ, List.setIfInBounds_toArray, List.set_cons_zero, List.set_cons_succ]
              refine wpAnyIn_ready (rs := [5]) (by kernel_rfl) (by simp) (AllReadyIn.cons (o := _) rfl (fun K hK => ?_) AllReadyIn.nil)
              · go_simp
                refine hK _ _ ?_
                clear hK K
                try simp only [Act.put, List.getElem_toArray, List.getElem_cons_zero, List.getElem_cons_succ, List.setIfInBounds_toArray, List.set_cons_zero, List.set_cons_succ]
                refine wpAnyIn_ready (rs := [6]) (by kernel_rfl) (by simp) (AllReadyIn.cons (o := _) rfl (fun K hK => ?_) AllReadyIn.nil)
                refine stepIn_append_own _ rfl (.tmp 10) (.tmp 15) 29 rfl w.heap.size 2 i0 (.int .i64 0) 1 8 Try.underlying29 hi hz0 hz1 hz2 rfl (by decide) v pre.length _ rfl (hrowd.alloc _) ⟨W.heap.size, 0, none⟩ 1 1 [.int .i64 hs[k.val].a] rfl rfl (cell_one_new _ _ _) (by simp [Value.oneCell']) (by unfold maxLen; omega) (by omega) (by have := hB.size; simp; omega) ?_
                intro v' w1 hown' hgrow
                obtain ⟨g', cap', rfl⟩ := ownsRow_succ hown'
                obtain ⟨hv1, hv2, hr2, hk2, hb2⟩ := hvd.appended (by decide) hrowd hB.size (Nat.le_refl _) hown' hgrow
                have hc1 := hv1.cell
                have hf1 := hv1.frozen
                refine hK _ _ ?_
                clear hK K
                try simp only [Act.put, List.getElem_toArray, List.getElem_cons_zero, List.getElem_cons_succ, List.setIfInBounds_toArray, List.set_cons_zero, List.set_cons_succ]
                refine wpAnyIn_ready (rs := [7]) (by kernel_rfl) (by simp) (AllReadyIn.cons (o := _) rfl (fun K hK => ?_) AllReadyIn.nil)
                go_simp
                refine hK _ _ ?_
                clear hK K
                refine wpAnyIn_done (by kernel_rfl) ?_ _
                have hbl2 : Bx w1 (w.heap.size + 1) #[.pointer (some ⟨b, 0, none⟩)] 23 := (hgrow.block (w.heap.size + 1) (by have := hq.lt; simp; omega) (fun e => own_ne hrowd hqd (by decide) e.symm)).trans (hqd.alloc _)
                have hbl3 := hbl2.beside (b := w.heap.size) 0 (.slice (some ⟨g', 0, none⟩) (pre.length + 1) cap') (by omega)
                exact ⟨((KeepsOthers.drew W).trans hk2).from _, ⟨hb2.block b hlt, hbl3.trans (Eq.symm hq)⟩, ⟨⟨_, hv2, by rw [List.length_append, List.map_append]; exact hr2, trivial⟩, hbl3⟩, (hB.drew).trans hb2⟩
            · go_simp
              refine hK _ _ ?_
              clear hK K
              try simp only [Act.put, List.getElem_toArray, List.getElem_cons_zero, List.getElem_cons_succ, List.setIfInBounds_toArray, List.set_cons_zero, List.set_cons_succ]
              refine wpAnyIn_ready (rs := [0]) (by kernel_rfl) (by simp) (AllReadyIn.cons (o := _) rfl (fun K hK => ?_) AllReadyIn.nil)
              · go_simp
                refine hK _ _ ?_
                clear hK K
                try simp only [Act.put, List.getElem_toArray, List.getElem_cons_zero, List.getElem_cons_succ, List.setIfInBounds_toArray, List.set_cons_zero, List.set_cons_succ]
                refine wpAnyIn_ready (rs := [6]) (by kernel_rfl) (by simp) (AllReadyIn.cons (o := _) rfl (fun K hK => ?_) AllReadyIn.nil)
                refine stepIn_append_own _ rfl (.tmp 10) (.tmp 15) 29 rfl w.heap.size 2 i0 (.int .i64 0) 1 8 Try.underlying29 hi hz0 hz1 hz2 rfl (by decide) v pre.length _ rfl (hrowd.alloc _) ⟨W.heap.size, 0, none⟩ 1 1 [.int .i64 hs[k.val].a] rfl rfl (cell_one_new _ _ _) (by simp [Value.oneCell']) (by unfold maxLen; omega) (by omega) (by have := hB.size; simp; omega) ?_
                intro v' w1 hown' hgrow
                obtain ⟨g', cap', rfl⟩ := ownsRow_succ hown'
                obtain ⟨hv1, hv2, hr2, hk2, hb2⟩ := hvd.appended (by decide) hrowd hB.size (Nat.le_refl _) hown' hgrow
                have hc1 := hv1.cell
                have hf1 := hv1.frozen
                refine hK _ _ ?_
                clear hK K
                try simp only [Act.put, List.getElem_toArray, List.getElem_cons_zero, List.getElem_cons_succ, List.setIfInBounds_toArray, List.set_cons_zero, List.set_cons_succ]
                refine wpAnyIn_ready (rs := [7]) (by kernel_rfl) (by simp) (AllReadyIn.cons (o := _) rfl (fun K hK => ?_) AllReadyIn.nil)
                go_simp
                refine hK _ _ ?_
                clear hK K
                refine wpAnyIn_done (by kernel_rfl) ?_ _
                have hbl2 : Bx w1 (w.heap.size + 1) #[.pointer (some ⟨b, 0, none⟩)] 23 := (hgrow.block (w.heap.size + 1) (by have := hq.lt; simp; omega) (fun e => own_ne hrowd hqd (by decide) e.symm)).trans (hqd.alloc _)
                have hbl3 := hbl2.beside (b := w.heap.size) 0 (.slice (some ⟨g', 0, none⟩) (pre.length + 1) cap') (by omega)
                exact ⟨((KeepsOthers.drew W).trans hk2).from _, ⟨hb2.block b hlt, hbl3.trans (Eq.symm hq)⟩, ⟨⟨_, hv2, by rw [List.length_append, List.map_append]; exact hr2, trivial⟩, hbl3⟩, (hB.drew).trans hb2⟩
    -- HELD-END
  case done =>
    rintro D ys W hD rfl ⟨⟨⟨v, hv, hrow, -⟩, -⟩, hB⟩ hK
    rw [hfc, List.length_finRange] at hrow
    have e1 := hv.cell
    gi_wp2
    refine ⟨by simp, .inl ⟨_, _, rfl, run_takeDeferred hK, ?_⟩⟩
    refine ⟨_, results_tmp rfl _ _ _, v, rfl, ?_, hB.trans (belowK_b (w := w) (Nat.le_refl _) W D _ _ (by simp at hD; omega) hK rfl rfl)⟩
    unfold OwnI
    rw [List.length_map, List.map_map]
    exact ownsRow_putObj hrow _ hK rfl
  case stop =>
    rintro D c pre W _ _ h _
    exact h.elim
theorem of_any {b : Nat} {A : Option Addr} {c : Nat} {hs : List Ho} {w : World} (H : Lk 48 53 w b A c hs) (hl : hs.length ≤ 100000) (x : Int) :
    Calls Try.prog 15 #[.pointer (some ⟨b, 0, none⟩), .int .i64 x] w fun e w' => e = .returned (.int .i64 (ofT hs x : Int)) ∧ Below w.heap.size w w' :=
  (callsIn_wide (n := 3)).1 (of_in Fence.wide 3 trivial trivial trivial rfl (Nat.le_refl _) H hl x)
theorem held_any {b : Nat} {A : Option Addr} {c : Nat} {hs : List Ho} {w : World} (H : Lk 48 53 w b A c hs) (hl : hs.length ≤ 100000) :
    Calls Try.prog 13 #[.pointer (some ⟨b, 0, none⟩)] w fun e w' => ∃ v, e = .returned v ∧ OwnI w' w.heap.size v (hs.map Ho.a) ∧ Below w.heap.size w w' :=
  (callsIn_wide (n := 3)).1 (held_in Fence.wide 3 trivial trivial trivial rfl (Nat.le_refl _) H hl)
end LkE
end Go.Proofs.Ytkjkofdjnjihjaa
