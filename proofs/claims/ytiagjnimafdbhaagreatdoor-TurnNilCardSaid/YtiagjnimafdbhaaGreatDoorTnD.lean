/-
  A move's code: two numbers taken, an old field of which nothing was asked below.
-/
import Derived.Test.YtiagjnimafdbhaaGreatDoorTnC
namespace Go.Proofs.YtiagjnimafdbhaaGreatDoor
namespace TnD
open Go.RowKit Go.Shelf Base BinM TabM TnA TnB TnC
attribute [local go_sem] Oper.semAt_some

def StT (b g c ob : Nat) (O : Value) (W : World) (j : Nat) : Prop :=
  (j = 0 ∧ Bx W b #[.slice (some ⟨g, 0, none⟩) 2 c, O] 215 ∧ Bx W ob #[.string ⟨#[]⟩] 9) ∨
  (j = 1 ∧ Bx W b #[.slice (some ⟨g, 0, none⟩) 1 1, O] 215 ∧ Bx W ob #[.string ⟨#[]⟩] 9) ∨
  (j = 2 ∧ Bx W b #[.slice (some ⟨g, 0, none⟩) 0 0, O] 215 ∧ Bx W ob #[.string ⟨#[73]⟩] 9)
theorem bx_keptD {W W' : World} {row : Option Nat} {b : Nat} {C : Array Value} {t : TypeId} (h : Bx W b C t) (hg : W.grownBy W' row) (hr : ∀ r, row = some r → ∃ o : Obj, W.heap[r]? = some o ∧ o.isCells = false) : Bx W' b C t := by
  refine (hg.block b h.lt (fun e => ?_)).trans h
  obtain ⟨o, ho, hc⟩ := hr b e.symm
  have h2 : W.heap[b]? = some (.cells C t (0, 0)) := h
  rw [h2] at ho
  cases ho
  cases hc
theorem bx_fromD {β : Type} {B b : Nat} {C : β → Array Value} {t : TypeId} : OwnFrom B (fun (s : β) W => Bx W b (C s) t) := fun _ _ _ _ hs hg hr => bx_keptD hs hg (fun r e => (hr r e).2)
theorem stT_kept {b g c ob : Nat} {O : Value} {W W' : World} {row : Option Nat} {j : Nat} (h : StT b g c ob O W j) (hg : W.grownBy W' row) (hr : ∀ r, row = some r → ∃ o : Obj, W.heap[r]? = some o ∧ o.isCells = false) : StT b g c ob O W' j := by
  rcases h with ⟨h1, h2, h3⟩ | ⟨h1, h2, h3⟩ | ⟨h1, h2, h3⟩
  · exact .inl ⟨h1, bx_keptD h2 hg hr, bx_keptD h3 hg hr⟩
  · exact .inr (.inl ⟨h1, bx_keptD h2 hg hr, bx_keptD h3 hg hr⟩)
  · exact .inr (.inr ⟨h1, bx_keptD h2 hg hr, bx_keptD h3 hg hr⟩)
theorem tu_from {β : Type} {F : Nat → Prop} {w : World} {B : Nat} (hB : w.heap.size ≤ B) : OwnFrom B (fun (_ : β) W => Tu F w W) := fun _ W W' row hs hg hr =>
  hs.trans (Tu.of_grown (F := fun k => row = some k) hg (fun _ h => h)) (fun j hj => .inr (by have := (hr j hj).1; omega))
theorem keeps_tu {B : Nat} {F : Nat → Prop} {W W' : World} (h : Tu F W W') (hF : ∀ k, F k → ∃ C t fr, W.heap[k]? = some (.cells C t fr)) : KeepsFrom B W W' :=
  ⟨h.size, fun k o _ hk ho => by
    refine (h.block k (Array.getElem?_eq_some_iff.1 hk).1 (fun f => ?_)).trans hk
    obtain ⟨C, t, fr, h2⟩ := hF k f
    rw [h2] at hk
    cases hk
    cases ho⟩
theorem keeps_grown {B : Nat} {W W' : World} {row : Option Nat} (hg : W.grownBy W' row) (hrow : ∀ j, row = some j → j < B) : KeepsFrom B W W' := KeepsFrom.of_grownBy hg hrow

set_option maxRecDepth 100000 in
set_option maxHeartbeats 8000000 in
theorem take_in (F : Fence) (n : Nat) (f1 : F.fn 142) (f2 : F.fn 177) (f3 : F.fn 201) (f4 : F.fn 178) (hro : F.round = none) (hn : 3 ≤ n) (b g c ob db tb : Nat) (O : Value) (w : World) (hbx : Bx w b #[.slice (some ⟨g, 0, none⟩) 2 c, O] 215) (hc : 2 ≤ c) (hcm : c ≤ maxLen) (hg0 : w.cell? ⟨g, 0, none⟩ = some (.pointer (some ⟨ob, 0, none⟩))) (hg1 : w.cell? ⟨g, 1, none⟩ = some (.pointer (some ⟨db, 0, none⟩)))
    (ho : Bx w ob #[.string ⟨#[]⟩] 9) (hd : Bx w db #[.string ⟨#[73]⟩] 9) (ht : Bx w tb #[.string ⟨#[73]⟩, .string ⟨#[73]⟩] 9) (hgl : g < w.heap.size) (n1 : g ≠ b) (n2 : g ≠ ob) (n3 : b ≠ ob) (n4 : db ≠ b) (n5 : db ≠ ob) (n6 : tb ≠ b) (n7 : tb ≠ ob)
    (HP : ∀ (m g' k c' : Nat) (p : Option Addr) (W : World), Bx W b #[.slice (some ⟨g', 0, none⟩) (k + 1) c', O] 215 → k + 1 ≤ c' → c' ≤ maxLen → W.cell? ⟨g', k, none⟩ = some (.pointer p) →
      CallsIn F m Tryz.prog 178 #[.pointer (some ⟨b, 0, none⟩)] W fun e w' => e = .returned (.tuple #[.pointer p, .bool true]) ∧ Bx w' b #[.slice (some ⟨g', 0, none⟩) k k, O] 215 ∧ Tu (fun k => k = b) W w') :
    CallsIn F n Tryz.prog 142 #[.pointer (some ⟨b, 0, none⟩), .slice (some ⟨tb, 0, none⟩) 2 2] w fun e w' => e = .returned (.bool true) ∧ Bx w' b #[.slice (some ⟨g, 0, none⟩) 0 0, O] 215 ∧ Bx w' ob #[.string ⟨#[73]⟩] 9 ∧ Tu (fun k => k = b ∨ k = ob) w w' := by
  have hn1 : 1 ≤ n := by omega
  have hn2 : 1 ≤ n - 1 - 1 := by omega
  have hob := ho.lt
  have hbl := hbx.lt
  have hdl := hd.lt
  have htl := ht.lt
  have s0 : w.heap.size ≠ b := by omega
  have s1 : w.heap.size + 1 ≠ b := by omega
  have s2 : w.heap.size + 1 + 1 ≠ b := by omega
  refine callsIn_of_wp_marks Tryz.func142 rfl f1 ?_ hro
  simp only [Tryz.ntmps142, List.size_toArray, List.length_cons, List.length_nil, Nat.reduceAdd, Nat.reduceSub, Array.replicate_succ, Array.replicate_zero, List.push_toArray, List.append_toArray, List.nil_append, List.cons_append]
  gi_wp2_with (gi_at_call 177; refine (back_in F (n - 1) f2 hro _ _ _ _).mono ?_; rintro e w' ⟨rfl, rfl⟩)
  have bS := Bx.new w #[.pointer (some ⟨b, 0, none⟩)] 253
  have bR := Bx.new (w.alloc (.cells #[.pointer (some ⟨b, 0, none⟩)] 253)) #[.bool false] 4
  have bL := Bx.new ((w.alloc (.cells #[.pointer (some ⟨b, 0, none⟩)] 253)).alloc (.cells #[.bool false] 4)) #[.slice (some ⟨tb, 0, none⟩) 2 2] 49
  simp only [World.size_alloc] at bS bR bL
  have hB0 : Below w.heap.size w (((w.alloc (.cells #[.pointer (some ⟨b, 0, none⟩)] 253)).alloc (.cells #[.bool false] 4)).alloc (.cells #[.slice (some ⟨tb, 0, none⟩) 2 2] 49)) := (((Below.refl _ w).alloc (Nat.le_refl _) _).alloc (by simp) _).alloc (by simp; omega) _
  refine wpIn_rangeFunc_ownG hro (by omega) (gf := 201) (lb := #[.pointer (some ⟨w.heap.size + 1 + 1, 0, none⟩)]) rfl f3 (enters_of Tryz.func201 (by kernel_rfl) rfl)
    (back_stops F (n - 1) f3 hro (by omega) (w.heap.size + 1 + 1) tb [73] _ bL (ht.after hB0)) kpl_t (kpl_b (by simp; omega) (by simp)) (Below.refl _ _) (fun _ => rfl)
    (fun (pre : List (Fin 2)) W => StT b g c ob O W pre.length ∧ Bx W w.heap.size #[.pointer (some ⟨b, 0, none⟩)] 253 ∧ Bx W (w.heap.size + 1) #[.bool false] 4 ∧ Bx W (w.heap.size + 1 + 1) #[.slice (some ⟨tb, 0, none⟩) 2 2] 49 ∧ Tu (fun k => k = b ∨ k = ob) w W)
    (fun _ _ _ => False)
    (OwnFrom.and (fun _ _ _ _ hs hg hr => stT_kept hs hg (fun r e => (hr r e).2)) (OwnFrom.and bx_fromD (OwnFrom.and bx_fromD (OwnFrom.and bx_fromD (tu_from (by simp; omega))))))
    (fun _ _ _ _ _ hs _ _ => hs)
    ⟨.inl ⟨rfl, hbx.after hB0, ho.after hB0⟩, TabZ.bx_al (TabZ.bx_al bS _) _, TabZ.bx_al bR _, bL, Tu.of_below hB0⟩
    (fun x : Fin 2 => { tmps := #[.pointer (some ⟨b, 0, none⟩), .slice (some ⟨tb, 0, none⟩) 2 2, .pointer (some ⟨w.heap.size, 0, none⟩), undef, .pointer (some ⟨w.heap.size + 1, 0, none⟩), undef, .string ⟨#[73]⟩, undef, undef, .slice (some ⟨tb, 0, none⟩) 2 2, .func (.func 201) #[] #[.pointer (some ⟨w.heap.size + 1 + 1, 0, none⟩)], .int .i64 ((x.val : Nat) : Int), .string ⟨#[73]⟩, undef, undef, undef, undef, undef, undef, undef, undef, undef, undef, undef, undef, undef, undef, undef, undef, undef, undef, undef], defers := [] }) ?assign ?body ?done ?stop
  case assign =>
    intro l x W K hK
    gi_wp2
    exact hK
  case body =>
    rintro l pre x W ⟨hS, q0, q1, q2, hT⟩ hlt
    have e0 := q0.cell 0
    have c0 : W.cell? ⟨g, 0, none⟩ = some (.pointer (some ⟨ob, 0, none⟩)) := (World.cell?_of_block (w := w) (hT.block g hgl (by omega))).trans hg0
    have c1 : W.cell? ⟨g, 1, none⟩ = some (.pointer (some ⟨db, 0, none⟩)) := (World.cell?_of_block (w := w) (hT.block g hgl (by omega))).trans hg1
    have hdW : Bx W db _ _ := hT.bx hd (by omega)
    have q0l := q0.lt
    rcases hS with ⟨hj, h2, h3⟩ | ⟨hj, h2, h3⟩ | ⟨hj, h2, h3⟩
    · have HQ := Lib.hid (fun m => (HP m g 1 c _ W h2 hc hcm c1).inRound l)
      gi_wp2_with (gi_at_call 178
                   refine (HQ.out _).mono ?_
                   rintro e W1 ⟨rfl, hb1, hT1⟩
                   have d1 := (hT1.bx hdW n4).cell 0)
      exact ⟨keeps_tu hT1 (fun k e => ⟨_, _, _, by subst e; exact h2⟩), ⟨hT1.block tb (by have := hT.size; omega) n6, hT1.block _ q2.lt s2⟩, .inr (.inl ⟨by rw [List.length_append, List.length_singleton]; omega, hb1, hT1.bx h3 (Ne.symm n3)⟩), hT1.bx q0 s0, hT1.bx q1 s1, hT1.bx q2 s2, hT.trans hT1 (fun j e => .inl (.inl e))⟩
    · have HQ := Lib.hid (fun m => (HP m g 0 1 _ W h2 (by omega) (by unfold maxLen; omega) c0).inRound l)
      gi_wp2_with (gi_at_call 178
                   refine (HQ.out _).mono ?_
                   rintro e W1 ⟨rfl, hb1, hT1⟩
                   have ho1 := hT1.bx h3 (Ne.symm n3)
                   have d1 := ho1.cell 0
                   have d2 := ho1.free 0
                   have d3 : (W1.setCell ⟨ob, 0, none⟩ (.string ⟨#[73]⟩)).cell? ⟨ob, 0, none⟩ = some (.string ⟨#[73]⟩) := (ho1.set 0 _).cell 0)
      have hS2 := Tu.of_set (F := fun k => k = ob) W1 (a := ⟨ob, 0, none⟩) rfl (.string ⟨#[73]⟩)
      have hT2 : Tu (fun k => k = b ∨ k = ob) W (W1.setCell ⟨ob, 0, none⟩ (.string ⟨#[73]⟩)) := (hT1.mono (fun j e => .inl e)).trans hS2 (fun j e => .inl (.inr e))
      exact ⟨keeps_tu hT2 (fun k e => by
        rcases e with rfl | rfl
        · exact ⟨_, _, _, h2⟩
        · exact ⟨_, _, _, h3⟩), ⟨hT2.block tb (by have := hT.size; omega) (by rintro (e | e) <;> omega), hT2.block _ q2.lt (by rintro (e | e) <;> omega)⟩, .inr (.inr ⟨by rw [List.length_append, List.length_singleton]; omega, (heap_setCell_other _ ⟨ob, 0, none⟩ _ _ n3).trans hb1, ho1.set 0 _⟩), hT2.bx q0 (by rintro (e | e) <;> omega), hT2.bx q1 (by rintro (e | e) <;> omega), hT2.bx q2 (by rintro (e | e) <;> omega), hT.trans hT2 (fun j e => .inl e)⟩
    · omega
  case done =>
    rintro D ys W hD hys ⟨hS, q0, q1, q2, hT⟩ hK
    have e1 := q1.cell 0
    have e2 := q1.free 0
    gi_wp2
    rcases hS with ⟨hj, h2, h3⟩ | ⟨hj, h2, h3⟩ | ⟨hj, h2, h3⟩
    · omega
    · omega
    · have hK' := (KeepsOthers.setCell W ⟨w.heap.size + 1, 0, none⟩ (.bool true)).same D _ hK rfl
      refine ⟨by simp, .inl ⟨_, _, rfl, run_takeDeferred hK', ?_⟩⟩
      have hc5 := cell_kept ((q1.set 0 (.bool true)).cell 0) (grownBy_putObj' _ D (.deferred none)) (fun r e => by cases e; exact ⟨_, hK', rfl⟩)
      have hD1 : D ≠ b := by simp at hD; omega
      have hD2 : D ≠ ob := by simp at hD; omega
      have hl2 := h2.lt
      have hl3 := h3.lt
      have hD3 : w.heap.size + 1 ≠ ob := by omega
      refine ⟨.bool true, by simp [results, Tryz.f142, go_sem, hc5], rfl, (World.putObj_heap_other (Ne.symm hD1)).trans ((heap_setCell_other _ ⟨w.heap.size + 1, 0, none⟩ _ _ (Ne.symm s1)).trans h2), (World.putObj_heap_other (Ne.symm hD2)).trans ((heap_setCell_other _ ⟨w.heap.size + 1, 0, none⟩ _ _ (Ne.symm hD3)).trans h3), ?_⟩
      refine (hT.trans (Tu.of_set (F := fun k => k = w.heap.size + 1) W (a := ⟨w.heap.size + 1, 0, none⟩) rfl (.bool true)) (fun j e => .inr (by omega))).trans (Tu.of_grown (F := fun k => k = D) (grownBy_putObj' _ D (.deferred none)) (fun k e => (Option.some.inj e).symm)) (fun j e => .inr (by simp at hD; omega))
  case stop =>
    rintro D c pre W _ _ h _
    exact h.elim
end TnD
end Go.Proofs.YtiagjnimafdbhaaGreatDoor
