/-
  The program's Put.
-/
import Derived.Test.YtkjkofdjnjihjaaLkW
import Derived.Deep.RegionWith
namespace Go.Proofs.Ytkjkofdjnjihjaa
namespace LkX
open Go.RowKit Go.Shelf Base BinM LkM LkA LkB LkE LkP LkG LkW

attribute [local go_sem] Oper.semAt_some

theorem cell_same {w W : World} {b o : Nat} (h : W.heap[b]? = w.heap[b]?) : W.cell? ⟨b, o, none⟩ = w.cell? ⟨b, o, none⟩ := by simp only [World.cell?, h]
theorem own_turn {W W' : World} {row : Option Nat} {base size n : Nat} {e : TypeId} {v : Value} {xs : List Value} (h : W.ownsRow base e size v n xs) (hg : W.grownBy W' row) (hr : ∀ r, row = some r → ∃ o : Obj, W.heap[r]? = some o ∧ o.isCells = false) : W'.ownsRow base e size v n xs := by
  refine own_same h (fun k hk => ?_)
  obtain ⟨_, hlt⟩ := h.lt k hk
  refine hg.block k hlt (fun e => ?_)
  obtain ⟨o, ho, hc⟩ := hr k e.symm
  rcases h.2 with ⟨hv, _⟩ | ⟨g, cap, cur, hv, _, hh, _⟩
  · rw [hv] at hk; cases hk
  · rw [hv] at hk
    have e2 : g = k := by injection hk
    subst e2
    rw [hh] at ho
    cases ho
    cases hc
theorem lk_from {β : Type} {tb te : TypeId} {b : Nat} {A : Option Addr} {c : Nat} {f : β → List Ho} {B : Nat} : OwnFrom B (fun (s : β) W => Lk tb te W b A c (f s)) := fun _ _ _ _ hs hg hr =>
  ⟨bx_kept hs.box hg (fun r e => (hr r e).2), own_turn hs.row hg (fun r e => (hr r e).2), hs.ne⟩
/-- what is held when some have been put -/
def some_ (hs : List Ho) (now : List Int) (pre : List (Fin hs.length)) : List Ho := (List.finRange hs.length).map (fun i => if i ∈ pre then ⟨now[i.val]?.getD 0, hs[i.val].w, hs[i.val].n⟩ else hs[i.val])
theorem some_len (hs : List Ho) (now : List Int) (pre : List (Fin hs.length)) : (some_ hs now pre).length = hs.length := by unfold some_; simp
theorem some_at (hs : List Ho) (now : List Int) (pre : List (Fin hs.length)) (i : Nat) (h : i < hs.length) (h2 : i < (some_ hs now pre).length) : (some_ hs now pre)[i] = if (⟨i, h⟩ : Fin hs.length) ∈ pre then ⟨now[i]?.getD 0, hs[i].w, hs[i].n⟩ else hs[i] := by
  simp [some_]
theorem some_wn (hs : List Ho) (now : List Int) (pre : List (Fin hs.length)) (i : Nat) (h : i < hs.length) (h2 : i < (some_ hs now pre).length) : (some_ hs now pre)[i].w = hs[i].w ∧ (some_ hs now pre)[i].n = hs[i].n := by
  rw [some_at hs now pre i h h2]
  split <;> exact ⟨rfl, rfl⟩
theorem some_start (hs : List Ho) (now : List Int) : some_ hs now [] = hs := by
  apply List.ext_getElem
  · exact some_len _ _ _
  · intro i h1 h2
    rw [some_at hs now [] i h2]
    simp
theorem some_next (hs : List Ho) (now : List Int) (pre : List (Fin hs.length)) (x : Fin hs.length) : (some_ hs now pre).set x.val ⟨now[x.val]?.getD 0, ((some_ hs now pre)[x.val]'(by rw [some_len]; exact x.isLt)).w, ((some_ hs now pre)[x.val]'(by rw [some_len]; exact x.isLt)).n⟩ = some_ hs now (pre ++ [x]) := by
  have hx : x.val < (some_ hs now pre).length := by rw [some_len]; exact x.isLt
  obtain ⟨e1, e2⟩ := some_wn hs now pre x.val x.isLt hx
  rw [e1, e2]
  apply List.ext_getElem
  · rw [List.length_set, some_len, some_len]
  · intro i h1 h2
    have h3 : i < hs.length := by rw [some_len] at h2; exact h2
    rw [List.getElem_set, some_at hs now (pre ++ [x]) i h3 h2]
    by_cases e : x.val = i
    · subst e
      simp
    · rw [if_neg e, some_at hs now pre i h3]
      have : (⟨i, h3⟩ : Fin hs.length) ≠ x := fun h => e (by rw [← h])
      simp [this]
theorem some_all (hs : List Ho) (now : List Int) (h : now.length = hs.length) : some_ hs now (List.finRange hs.length) = putL hs now := by
  apply List.ext_getElem
  · rw [some_len, putL_len h]
  · intro i h1 h2
    have h3 : i < hs.length := by rw [some_len] at h1; exact h1
    rw [some_at hs now _ i h3 h1, putL_at h3 (by omega), if_pos (List.mem_finRange _), List.getElem?_eq_getElem (by omega)]
    rfl
theorem turned_from {β : Type} {F : Nat → Prop} {w : World} {B : Nat} (hB : w.heap.size ≤ B) : OwnFrom B (fun (_ : β) W => Turned F w W) := fun _ W W' _ hs hg hr =>
  ⟨hg.os.trans hs.os, hg.tape.trans hs.tape, hg.output.trans hs.output, Nat.le_trans hs.size hg.size, fun k hk hn => (hg.block k (by have := hs.size; omega) (fun e => by have := (hr k e.symm).1; omega)).trans (hs.block k hk hn)⟩

set_option maxRecDepth 100000 in
set_option maxHeartbeats 4000000 in
theorem put_good (F : Fence) (hF : F = Fence.wide) (n : Nat) (hn : 3 ≤ n) {w : World} {b : Nat} {A : Option Addr} {c : Nat} {hs : List Ho} (H : Lk 48 53 w b A c hs) (hl : hs.length ≤ 10000) (B : Option Addr) (now : List Int) (cc : Nat) (hlen : now.length = hs.length) (hr : Rds w B (now.map (Value.int .i64))) (hG : GoodL now) (hap : ∀ a, B = some a → 0 < now.length → ∀ k, feet b A k → k ≠ a.block) :
    CallsIn F n Try.prog 20 #[.pointer (some ⟨b, 0, none⟩), .slice B now.length cc] w fun e w' => e = .returned (.int .i64 0) ∧ NextL 48 53 w w' b A (putL hs now) := by
  subst hF
  have hn1 : 1 ≤ n := by omega
  have h2 : Fence.wide.fn 27 := trivial
  have h3 : Fence.wide.fn 32 := trivial
  have h4 : Fence.wide.fn 31 := trivial
  have hro : Fence.wide.round = none := rfl
  obtain ⟨g, hA, hat⟩ := at_of H
  have hlt := H.box.lt
  have hal : Below w.heap.size w (w.alloc (.cells #[.slice B now.length cc] 29)) := (Below.refl _ w).alloc (Nat.le_refl _) _
  have c0 : (w.alloc (.cells #[.slice B now.length cc] 29)).cell? ⟨b, 0, none⟩ = some (.slice A hs.length c) := (H.box.after hal).cell 0
  have hle : ((now.length : Int) != (hs.length : Int)) = false := by simp; omega
  have HD : ∀ W, Below (w.alloc (.cells #[.slice B now.length cc] 29)).heap.size (w.alloc (.cells #[.slice B now.length cc] 29)) W → CallsIn Fence.wide (n - 1) Try.prog 31 #[.slice B now.length cc] W fun e w' => e = .returned (.bool true) ∧ Below W.heap.size W w' := fun W hW => callsIn_wide.2 ((differ_any B now now.length cc W rfl (by omega) ((hr.below hal).below hW)).mono fun e w' h => ⟨by rw [h.1, decide_eq_true hG], h.2⟩)
  refine callsIn_of_wp_marks Try.func20 rfl trivial ?_ hro
  simp only [Try.ntmps20, List.size_toArray, List.length_cons, List.length_nil, Nat.reduceAdd, Nat.reduceSub, Array.replicate_succ, Array.replicate_zero, List.push_toArray, List.append_toArray, List.nil_append, List.cons_append]
  have hmx : Try.prog.follows .mixedOrders = true := by kernel_rfl
  have HLen := Lib.hid hlen
  have HH := Lib.hid H
  have HR := Lib.hid hr
  have hn5 : now.length ≤ 10000 := by omega
  have hbs : ∀ q, Below (w.alloc (.cells #[.slice B now.length cc] 29)).heap.size (w.alloc (.cells #[.slice B now.length cc] 29)) ((w.alloc (.cells #[.slice B now.length cc] 29)).drewN q) := fun q => bel_drewN (Below.refl _ _) q
  have hal3 := H.box
  have HAp := Lib.hid hap
  have hA2 := Lib.hid hA
  clear hlen H hr hap hat hA
  gi_wp2
  first
    | gi_region_with (gi_at_call 31; refine (HD _ (hbs _)).mono ?_; rintro e w2 ⟨rfl, hb2⟩)
    | fail
  all_goals
    gi_wp2_with (gi_at_call 27; refine (all_in Fence.wide (n - 1) h2 hro _ _).mono ?_; rintro e w3 ⟨rfl, rfl⟩)
    have hB2 : Below w.heap.size w w2 := (hal.trans ((hbs _).mono hal.size)).trans (hb2.mono hal.size)
    have hbx := (HH.out.beside hB2).box
    have hnow : Bx w2 w.heap.size #[.slice B now.length cc] 29 := ((Bx.new w #[.slice B now.length cc] 29).after ((hbs _).mono (by simp))).after (hb2.mono (by simp))
    have hsz2 := hB2.size
    have hnl := hnow.lt
    have hB3 : Below w.heap.size w (w2.alloc (.cells #[.pointer (some ⟨b, 0, none⟩)] 23)) := hB2.alloc hsz2 _
    have hbl := Bx.new w2 #[.pointer (some ⟨b, 0, none⟩)] 23
    have hT3 : Turned (feet b A) w (w2.alloc (.cells #[.pointer (some ⟨b, 0, none⟩)] 23)) := Turned.of_below hB3
    refine wpIn_rangeFunc_ownG hro hn1 (gf := 32) (lb := #[.pointer (some ⟨w2.heap.size, 0, none⟩)]) rfl h3 (enters_of Try.func32 (by kernel_rfl) rfl)
      (all_stops Fence.wide (n - 1) h3 hro (by omega) b w2.heap.size A g hs.length c (by omega) hA2.out _ hbl (hbx.alloc _)) kpl_t (kpl_b (by simp; omega) (by simp)) (Below.refl _ _) (fun _ => rfl)
      (fun (pre : List (Fin hs.length)) W => ((Lk 48 53 W b A c (some_ hs now pre) ∧ Bx W w.heap.size #[.slice B now.length cc] 29) ∧ Bx W w2.heap.size #[.pointer (some ⟨b, 0, none⟩)] 23) ∧ Turned (feet b A) w W)
      (fun _ _ _ => False)
      (OwnFrom.and (OwnFrom.and (OwnFrom.and lk_from bx_from) bx_from) (turned_from (by simp; omega)))
      (fun _ _ _ _ _ hs _ _ => hs)
      ⟨⟨⟨by rw [some_start]; exact HH.out.beside hB3, hnow.alloc _⟩, hbl⟩, hT3⟩
      (fun k : Fin hs.length => { tmps := #[.pointer (some ⟨b, 0, none⟩), .slice B now.length cc, undef, .pointer (some ⟨w.heap.size, 0, none⟩), .int .i64 0, .int .i64 ((k.val : Nat) : Int), .pointer (some ⟨g, k.val * 3, none⟩), .pointer (some ⟨b, 0, none⟩), .bool false, .slice B now.length cc, .int .i64 (now.length : Int), .pointer (some ⟨b, 0, none⟩), .pointer (some ⟨b, 0, none⟩), .pointer (some ⟨b, 0, none⟩), .slice A hs.length c, .int .i64 (hs.length : Int), .bool false, .bool false, .slice B now.length cc, .bool true, .bool false, .bool false, .pointer (some ⟨b, 0, none⟩), .func (.func 32) #[] #[.pointer (some ⟨w2.heap.size, 0, none⟩)], .int .i64 ((k.val : Nat) : Int), .pointer (some ⟨g, k.val * 3, none⟩), undef, undef, undef, undef, undef, undef, undef], defers := [] }) ?assign ?body ?done ?stop
    case assign =>
      intro l k W K hK
      gi_wp2
      exact hK
    case body =>
      rintro l pre k W ⟨⟨⟨hLk, hbn⟩, hbo⟩, hT⟩ hm
      have hkl : k.val < now.length := by rw [HLen.out]; exact k.isLt
      have hk1 : ((k.val : Nat) : Int) < (now.length : Int) := by omega
      obtain ⟨bb, oo, rfl, hbb, p0⟩ := LkT.rds_getD HR.out hkl
      have hnf := HAp.out ⟨bb, oo, none⟩ rfl (by omega)
      have p1 : W.cell? ⟨bb, oo + k.val, none⟩ = some (.int .i64 (now[k.val]?.getD 0)) := by
        rw [List.getD_eq_getElem?_getD] at p0
        rw [← p0]
        exact cell_same (hT.block bb hbb (fun h => hnf bb h rfl))
      have e0 := hbn.cell 0
      have hA3 := hA2.out (by have := k.isLt; omega)
      subst hA3
      have hgb : g ≠ b := hLk.apart rfl
      have hgl := hLk.lt (.inr ⟨_, rfl, rfl⟩)
      have e1 := hLk.free (k.val * 3)
      have hks : k.val < (some_ hs now pre).length := by rw [some_len]; exact k.isLt
      have e2 := (hLk.cells hks).1
      have hS := hLk.setA hks (now[k.val]?.getD 0)
      rw [some_next hs now pre k, List.getElem?_eq_getElem hkl] at hS
      have hgn : w.heap.size ≠ g := by
        rintro rfl
        exact own_ne hLk.row hbn (by decide) rfl
      have hgo : w2.heap.size ≠ g := by
        rintro rfl
        exact own_ne hLk.row hbo (by decide) rfl
      gi_wp2
      exact ⟨(KeepsOthers.setCell _ _ _).from _, ⟨heap_setCell_other W ⟨g, k.val * 3, none⟩ b _ (Ne.symm hgb), heap_setCell_other W ⟨g, k.val * 3, none⟩ w2.heap.size _ hgo⟩, ⟨⟨hS, hbn.beside _ _ hgn⟩, hbo.beside _ _ hgo⟩, hT.trans (Turned.of_set (F := feet b (some ⟨g, 0, none⟩)) W (a := ⟨g, k.val * 3, none⟩) (.inr ⟨_, rfl, rfl⟩) _) (fun j h => .inl h)⟩
    case done =>
      rintro D ys W hD rfl ⟨⟨⟨hLk, -⟩, -⟩, hT⟩ hK
      rw [some_all hs now HLen.out] at hLk
      gi_wp2
      refine ⟨by simp, .inl ⟨_, _, rfl, run_takeDeferred hK, ?_⟩⟩
      have hb4 := belowK_b (w := w) (Nat.le_refl _) W D _ (.deferred none) (by simp at hD; omega) hK rfl rfl
      have hfeet : ∀ k, feet b A k → (W.putObj D (.deferred none)).heap[k]? = W.heap[k]? := fun k hk => World.putObj_heap_other (by
        rintro rfl
        have := HH.out.lt hk
        simp at hD
        omega)
      refine ⟨_, results_tmp rfl _ _ _, rfl, A, c, hLk.aside hfeet, ⟨hb4.os.trans hT.os, hb4.tape.trans hT.tape, hb4.output.trans hT.output, Nat.le_trans hT.size hb4.size, fun k hk hn => (hb4.block k hk).trans (hT.block k hk hn)⟩, fun _ h => .inl h⟩
    case stop =>
      rintro D c pre W _ _ h _
      exact h.elim
end LkX
end Go.Proofs.Ytkjkofdjnjihjaa
