/-
  A move's code: what Int and Add do to types; a step.
-/
import Derived.Test.YtiagjnimafdbhaaGreatDoorTnE
namespace Go.Proofs.YtiagjnimafdbhaaGreatDoor
namespace TnF
open Go.RowKit Go.Shelf Base BinM TabM TnA TnB TnC TnD TnE

set_option maxRecDepth 100000 in
set_option maxHeartbeats 4000000 in
theorem can_int (b base : Nat) (g c : Nat) (O p : Value) (w : World) (hbx : Bx w b #[.slice (some ⟨g, 0, none⟩) 1 c, O] 215) (hr : w.ownsRow base 257 1 (.slice (some ⟨g, 0, none⟩) 1 c) 1 [p]) (hbase : base ≤ w.heap.size) :
    Calls Tryz.prog 176 #[.pointer (some ⟨b, 0, none⟩), .agg #[.int .i64 1, .int .i64 0, .int .i64 1]] w fun e w' => e = .returned (.bool true) ∧ ∃ A c' db, Bx w' b #[.slice A 2 c', O] 215 ∧ w'.ownsRow base 257 1 (.slice A 2 c') 2 [p, .pointer (some ⟨db, 0, none⟩)] ∧ Bx w' db #[.string ⟨#[73]⟩] 9 ∧ w.heap.size ≤ db ∧ Tu (fun k => k = b ∨ k = g) w w' := by
  have hbl := hbx.lt
  have hne := row_ne hr hbx (by decide)
  have HL := Lib.hid (leave_any b base (some ⟨g, 0, none⟩) 1 c O [p] [73] (w.alloc (.cells #[.int .i64 1, .int .i64 0, .int .i64 1] 112)) (TabZ.bx_al hbx _) rfl (.inl (World.ownsRow.alloc hr _)) hne (by simp) (by simp; omega))
  have HT := Lib.hid (Tu.of_below (F := fun k => k = b ∨ k = g) ((Below.refl w.heap.size w).alloc (Nat.le_refl _) (.cells #[.int .i64 1, .int .i64 0, .int .i64 1] 112)))
  clear hbx hr hne
  go_enter Tryz.func176, Tryz.ntmps176
  go_wp2_with (go_at_call 199; refine HL.out.mono ?_; rintro e w1 ⟨rfl, A1, c1, h1, h2, h3, h4⟩; have H1 := Lib.hid (And.intro h1 (And.intro h2 (And.intro h3 h4))); clear h1 h2 h3 h4)
  go_ret
  obtain ⟨h1, h2, h3, h4⟩ := H1.out
  exact ⟨rfl, A1, c1, _, h1, h2, h3, by simp, HT.out.trans h4 (fun j hj => .inl (hj.imp id (fun e => (Option.some.inj e).symm)))⟩
set_option maxRecDepth 100000 in
set_option maxHeartbeats 4000000 in
theorem can_add (b g c ob db base : Nat) (O : Value) (w : World) (hbx : Bx w b #[.slice (some ⟨g, 0, none⟩) 2 c, O] 215) (hr : w.ownsRow base 257 1 (.slice (some ⟨g, 0, none⟩) 2 c) 2 [.pointer (some ⟨ob, 0, none⟩), .pointer (some ⟨db, 0, none⟩)]) (hcm : c ≤ maxLen)
    (ho : Bx w ob #[.string ⟨#[]⟩] 9) (hd : Bx w db #[.string ⟨#[73]⟩] 9) (n5 : db ≠ ob) (hbase : base ≤ w.heap.size) :
    Calls Tryz.prog 176 #[.pointer (some ⟨b, 0, none⟩), .agg #[.int .i64 10, .int .i64 0, .int .i64 0]] w fun e w' => e = .returned (.bool true) ∧ ∃ A c', Bx w' b #[.slice A 1 c', O] 215 ∧ Tu (fun k => k = b ∨ k = ob ∨ k = g) w w' := by
  have hbl := hbx.lt
  have hol := ho.lt
  have hdl := hd.lt
  have hgl := (hr.lt g rfl).2
  have hne := row_ne hr hbx (by decide)
  have hno := row_ne hr ho (by decide)
  have n1 : g ≠ b := fun e => hne (by rw [← e]; rfl)
  have n2 : g ≠ ob := fun e => hno (by rw [← e]; rfl)
  have n3 : b ≠ ob := fun e => by
    subst e
    unfold Bx at hbx ho
    rw [ho] at hbx
    injection hbx with hbx
    injection hbx with _ h _
    exact absurd h (by decide)
  have n4 : db ≠ b := fun e => by
    subst e
    unfold Bx at hbx hd
    rw [hd] at hbx
    injection hbx with hbx
    injection hbx with _ h _
    exact absurd h (by decide)
  have hc2 : 2 ≤ c := by
    rcases hr.2 with ⟨e, _⟩ | ⟨g', cap, cur, e, _, _, hle, _⟩
    · cases e
    · injection e with _ _ e3
      omega
  have HT := Lib.hid (Tu.of_below (F := fun k => k = b ∨ k = ob ∨ k = g) (((Below.refl w.heap.size w).alloc (Nat.le_refl _) (.cells #[.int .i64 10, .int .i64 0, .int .i64 0] 112)).alloc (by simp) (.cells #[.string ⟨#[73]⟩, .string ⟨#[73]⟩] 9)))
  have hr2 := World.ownsRow.alloc (World.ownsRow.alloc hr (.cells #[.int .i64 10, .int .i64 0, .int .i64 0] 112)) (.cells #[.string ⟨#[73]⟩, .string ⟨#[73]⟩] 9)
  have hcs := hr2.cells (g := g) rfl
  have g0 := hcs 0 _ rfl
  have g1 := hcs 1 _ rfl
  rw [Addr.add_mid] at g0 g1
  have HK := Lib.hid (take_any b g c ob db (w.heap.size + 1) O ((w.alloc (.cells #[.int .i64 10, .int .i64 0, .int .i64 0] 112)).alloc (.cells #[.string ⟨#[73]⟩, .string ⟨#[73]⟩] 9)) (TabZ.bx_al (TabZ.bx_al hbx _) _) hc2 hcm g0 g1 (TabZ.bx_al (TabZ.bx_al ho _) _) (TabZ.bx_al (TabZ.bx_al hd _) _) (TabZ.bx_at _ _ _ _ (by simp)) (by simp; omega) n1 n2 n3 n4 n5 (by omega) (by omega))
  have HO := Lib.hid (of_add (w.alloc (.cells #[.int .i64 10, .int .i64 0, .int .i64 0] 112)))
  have HB := Lib.hid (show base ≤ w.heap.size from hbase)
  have HN := Lib.hid n1
  have hsz := hgl
  clear hbx hr hne hno ho hd hr2 hcs g0 g1 n1 n2 n3 n4 n5
  go_enter Tryz.func176, Tryz.ntmps176
  go_wp2_with (first
    | (go_at_call 200; refine HO.out.mono ?_; rintro e w1 ⟨rfl, rfl⟩)
    | (go_at_call 142; refine HK.out.mono ?_; rintro e w2 ⟨rfl, h1, h2, h3⟩; have H2 := Lib.hid (And.intro h1 (And.intro h2 h3)); have hs2 := h3.size; try simp only [World.size_alloc] at hs2
       clear h1 h2 h3)
    | (go_at_call 199; refine (leave_any b base (some ⟨g, 0, none⟩) 0 0 O [] [73] _ H2.out.1 rfl (.inr ⟨rfl, _, rfl, by show g < _; omega⟩) (fun e => HN.out (Option.some.inj e)) (by simp) (by have := HB.out; omega)).mono ?_; rintro e w3 ⟨rfl, A3, c3, h1, _, _, h4⟩; have H3 := Lib.hid (And.intro h1 h4); clear h1 h4))
  go_ret
  exact ⟨rfl, A3, c3, H3.out.1, (HT.out.trans H2.out.2.2 (fun j hj => .inl (by rcases hj with e | e <;> omega))).trans H3.out.2 (fun j hj => .inl (by rcases hj with e | e
                                                                                                                                                      · exact .inl e
                                                                                                                                                      · exact .inr (.inr (Option.some.inj e).symm)))⟩
set_option maxRecDepth 100000 in
set_option maxHeartbeats 2000000 in
theorem step_any (b : Nat) (op a n : Int) (w : World) (R : World → Prop) (H : Calls Tryz.prog 176 #[.pointer (some ⟨b, 0, none⟩), .agg #[.int .i64 op, .int .i64 a, .int .i64 n]] (w.alloc (.cells #[.int .i64 op, .int .i64 a, .int .i64 n] 112)) fun e w' => e = .returned (.bool true) ∧ (∃ A m c O, Bx w' b #[.slice A m c, O] 215 ∧ m ≤ 16) ∧ R w') :
    Calls Tryz.prog 140 #[.pointer (some ⟨b, 0, none⟩), .agg #[.int .i64 op, .int .i64 a, .int .i64 n]] w fun e w' => e = .returned (.bool true) ∧ R w' := by
  have HC := Lib.hid H
  clear H
  go_enter Tryz.func140, Tryz.ntmps140
  go_wp2_with fail
  refine HC.out.mono ?_
  rintro e w1 ⟨rfl, ⟨A, m, c, O, h1, h2⟩, h3⟩
  have b0 := h1.cell 0
  have hm : (m : Int) ≤ 16 := by omega
  have HR := Lib.hid h3
  clear h3 h1
  go_wp2_with fail
  go_ret
  exact ⟨rfl, HR.out⟩
end TnF
end Go.Proofs.YtiagjnimafdbhaaGreatDoor
