/-
  A move's code: types and numbers side by side, three instructions.
-/
import Derived.Test.YtiagjnimafdbhaaGreatDoorTnG
namespace Go.Proofs.YtiagjnimafdbhaaGreatDoor
namespace TnH
open Go.RowKit Go.Shelf Base BinM TabM TnA TnB TnC TnD TnE TnF TnG

def OO (ob : Nat) : Value := .slice (some ⟨ob, 0, none⟩) 1 1
/-- the types on the stack behind so many instructions -/
def Ty (base b ob : Nat) (W : World) : Nat → Prop
  | 0 => Bx W b #[.slice none 0 0, OO ob] 215 ∧ Bx W ob #[.string ⟨#[]⟩] 9
  | 1 => ∃ g c, Bx W b #[.slice (some ⟨g, 0, none⟩) 1 c, OO ob] 215 ∧ W.ownsRow base 257 1 (.slice (some ⟨g, 0, none⟩) 1 c) 1 [.pointer (some ⟨ob, 0, none⟩)] ∧ Bx W ob #[.string ⟨#[]⟩] 9
  | 2 => ∃ g c db, Bx W b #[.slice (some ⟨g, 0, none⟩) 2 c, OO ob] 215 ∧ W.ownsRow base 257 1 (.slice (some ⟨g, 0, none⟩) 2 c) 2 [.pointer (some ⟨ob, 0, none⟩), .pointer (some ⟨db, 0, none⟩)] ∧ Bx W ob #[.string ⟨#[]⟩] 9 ∧ Bx W db #[.string ⟨#[73]⟩] 9 ∧ db ≠ ob
  | _ => ∃ A c, Bx W b #[.slice A 1 c, OO ob] 215
/-- the numbers -/
def Nu (base : Nat) (W : World) (v : Value) : Nat → Prop
  | 0 => v = .slice none 0 0
  | 1 => ∃ g c, v = .slice (some ⟨g, 0, none⟩) 1 c ∧ W.ownsRow base 2 1 v 1 [.int .i64 4]
  | 2 => ∃ g c, v = .slice (some ⟨g, 0, none⟩) 2 c ∧ W.ownsRow base 2 1 v 2 [.int .i64 4, .int .i64 1]
  | _ => ∃ g c, v = .slice (some ⟨g, 0, none⟩) 1 c ∧ W.ownsRow base 2 1 v 1 [.int .i64 5]
theorem own_some {w : World} {base n c : Nat} {e : TypeId} {A : Option Addr} {xs : List Value} (h : w.ownsRow base e 1 (.slice A n c) n xs) (hn : 0 < n) : (∃ g, A = some ⟨g, 0, none⟩) ∧ c ≤ maxLen := by
  rcases h.2 with ⟨e, h0⟩ | ⟨g, cap, cur, e, _, _, _, hm, _⟩
  · omega
  · injection e with e1 _ e3
    exact ⟨⟨g, e1⟩, by rw [e3]; exact hm⟩
theorem row_row {w : World} {base base' n c n' c' : Nat} {e e' : TypeId} {g g' : Nat} {xs ys : List Value} (h : w.ownsRow base e 1 (.slice (some ⟨g, 0, none⟩) n c) n xs) (h' : w.ownsRow base' e' 1 (.slice (some ⟨g', 0, none⟩) n' c') n' ys) (hne : e ≠ e') : g ≠ g' := by
  rintro rfl
  rcases h.2 with ⟨e1, _⟩ | ⟨k, cap, cur, e1, _, hh, _⟩
  · cases e1
  · rcases h'.2 with ⟨e2, _⟩ | ⟨k', cap', cur', e2, _, hh', _⟩
    · cases e2
    · injection e1 with e1 _ _
      injection e2 with e2 _ _
      have a := Option.some.inj e1
      have b := Option.some.inj e2
      have hk : g = k := by injection a
      have hk' : g = k' := by injection b
      subst hk
      subst hk'
      rw [hh] at hh'
      injection hh' with hh'
      injection hh' with _ q _
      exact hne q
theorem Tu.own {F : Nat → Prop} {w w' : World} (h : Tu F w w') {base n c g : Nat} {e : TypeId} {xs : List Value} (ho : w.ownsRow base e 1 (.slice (some ⟨g, 0, none⟩) n c) n xs) (hn : ¬ F g) : w'.ownsRow base e 1 (.slice (some ⟨g, 0, none⟩) n c) n xs :=
  own_same ho (fun k hk => h.block k (ho.lt k hk).2 (fun f => hn (by have : g = k := Option.some.inj hk; rw [this]; exact f)))
theorem nu_kept {base : Nat} {W W' : World} {v : Value} {j : Nat} {F : Nat → Prop} (h : Nu base W v j) (hT : Tu F W W') (hF : ∀ g n c xs, W.ownsRow base 2 1 (.slice (some ⟨g, 0, none⟩) n c) n xs → ¬ F g) : Nu base W' v j := by
  match j, h with
  | 0, h => exact h
  | 1, ⟨g, c, e, ho⟩ => subst e; exact ⟨g, c, rfl, Tu.own hT ho (hF _ _ _ _ ho)⟩
  | 2, ⟨g, c, e, ho⟩ => subst e; exact ⟨g, c, rfl, Tu.own hT ho (hF _ _ _ _ ho)⟩
  | _ + 3, ⟨g, c, e, ho⟩ => subst e; exact ⟨g, c, rfl, Tu.own hT ho (hF _ _ _ _ ho)⟩
theorem ty_kept {base b ob : Nat} {W W' : World} {i gi n c : Nat} {xs : List Value} (h : Ty base b ob W i) (hT : Tu (fun k => k = gi) W W') (ho : W.ownsRow base 2 1 (.slice (some ⟨gi, 0, none⟩) n c) n xs) : Ty base b ob W' i := by
  have hbx : ∀ {q : Nat} {C : Array Value} {t : TypeId}, Bx W q C t → t ≠ 2 → Bx W' q C t := fun hb ht => hT.bx hb (fun e => row_ne ho hb ht (by rw [e]; rfl))
  match i, h with
  | 0, ⟨h1, h2⟩ => exact ⟨hbx h1 (by decide), hbx h2 (by decide)⟩
  | 1, ⟨g, c, h1, h2, h3⟩ => exact ⟨g, c, hbx h1 (by decide), Tu.own hT h2 (fun e => row_row h2 ho (by decide) e), hbx h3 (by decide)⟩
  | 2, ⟨g, c, db, h1, h2, h3, h4, h5⟩ => exact ⟨g, c, db, hbx h1 (by decide), Tu.own hT h2 (fun e => row_row h2 ho (by decide) e), hbx h3 (by decide), hbx h4 (by decide), h5⟩
  | _ + 3, ⟨A, c, h1⟩ => exact ⟨A, c, hbx h1 (by decide)⟩
theorem ty_below {base b ob : Nat} {W W' : World} {i : Nat} (h : Ty base b ob W i) (hb : Below W.heap.size W W') : Ty base b ob W' i := by
  match i, h with
  | 0, ⟨h1, h2⟩ => exact ⟨h1.after hb, h2.after hb⟩
  | 1, ⟨g, c, h1, h2, h3⟩ => exact ⟨g, c, h1.after hb, own_same h2 (fun k hk => hb.block k (h2.lt k hk).2), h3.after hb⟩
  | 2, ⟨g, c, db, h1, h2, h3, h4, h5⟩ => exact ⟨g, c, db, h1.after hb, own_same h2 (fun k hk => hb.block k (h2.lt k hk).2), h3.after hb, h4.after hb, h5⟩
  | _ + 3, ⟨A, c, h1⟩ => exact ⟨A, c, h1.after hb⟩
theorem nu_below {base : Nat} {W W' : World} {v : Value} {j : Nat} (h : Nu base W v j) (hb : Below W.heap.size W W') : Nu base W' v j :=
  nu_kept h (Tu.of_below (F := fun _ => False) hb) (fun _ _ _ _ _ f => f)
/-- what a step of the types leaves -/
def StepR (base b ob : Nat) (W : World) (j : Nat) (w' : World) : Prop := Ty base b ob w' (j + 1) ∧ Below base W w' ∧ (∀ v, Nu base W v j → Nu base w' v j) ∧ ∀ q C, Bx W q C 112 → Bx w' q C 112
theorem bx_bx {W : World} {q q' : Nat} {C C' : Array Value} {t t' : TypeId} (h : Bx W q C t) (h' : Bx W q' C' t') (hne : t ≠ t') : q ≠ q' := by
  rintro rfl
  unfold Bx at h h'
  rw [h] at h'
  injection h' with h'
  injection h' with _ e _
  exact hne e
def opJ : Nat → Int × Int × Int
  | 0 => (45, 0, 0)
  | 1 => (1, 0, 1)
  | _ => (10, 0, 0)
theorem stepJ (base b ob j : Nat) (W : World) (hj : j < 3) (h : Ty base b ob W j) (hb : base ≤ b) (ho : base ≤ ob) (hbase : base ≤ W.heap.size) :
    Calls Tryz.prog 140 #[.pointer (some ⟨b, 0, none⟩), .agg #[.int .i64 (opJ j).1, .int .i64 (opJ j).2.1, .int .i64 (opJ j).2.2]] W fun e w' => e = .returned (.bool true) ∧ StepR base b ob W j w' := by
  have hal : ∀ C : Obj, Below W.heap.size W (W.alloc C) := fun C => (Below.refl _ _).alloc (Nat.le_refl _) _
  match j, hj, h with
  | 0, _, ⟨h1, h2⟩ =>
    refine step_any b 45 0 0 W (StepR base b ob W 0) ((can_old b ob base _ (h1.after (hal _)) (by simp; omega)).mono ?_)
    rintro e w' ⟨rfl, A, c, q1, q2, q3⟩
    obtain ⟨⟨g, rfl⟩, hc⟩ := own_some q2 (by omega)
    have hT := (Tu.of_below (F := fun k => k = b) (hal (.cells #[.int .i64 45, .int .i64 0, .int .i64 0] 112))).trans q3 (fun k e => .inl e)
    have hne : b ≠ ob := fun e => by
      subst e
      unfold Bx at h1 h2
      rw [h2] at h1
      injection h1 with h1
      injection h1 with _ q _
      exact absurd q (by decide)
    exact ⟨rfl, ⟨_, _, _, _, q1, by omega⟩, ⟨g, c, q1, q2, hT.bx h2 (Ne.symm hne)⟩, hT.below (fun k e => by subst e; exact hb) hbase, fun v hv => nu_kept hv hT (fun gi n ci xs hi e => row_ne hi h1 (by decide) (by rw [← e]; rfl)), fun q C hq => hT.bx hq (bx_bx hq h1 (by decide))⟩
  | 1, _, ⟨g, c, h1, h2, h3⟩ =>
    refine step_any b 1 0 1 W (StepR base b ob W 1) ((can_int b base g c _ _ _ (h1.after (hal _)) (World.ownsRow.alloc h2 _) (by simp; omega)).mono ?_)
    rintro e w' ⟨rfl, A, c', db, q1, q2, q3, q4, q5⟩
    obtain ⟨⟨g', rfl⟩, hc⟩ := own_some q2 (by omega)
    have hT := (Tu.of_below (F := fun k => k = b ∨ k = g) (hal (.cells #[.int .i64 1, .int .i64 0, .int .i64 1] 112))).trans q5 (fun k e => .inl e)
    have n1 : ob ≠ b := fun e => by
      subst e
      unfold Bx at h1 h3
      rw [h3] at h1
      injection h1 with h1
      injection h1 with _ q _
      exact absurd q (by decide)
    have n2 : ob ≠ g := fun e => row_ne h2 h3 (by decide) (by rw [e]; rfl)
    have hol := h3.lt
    exact ⟨rfl, ⟨_, _, _, _, q1, by omega⟩, ⟨g', c', db, q1, q2, hT.bx h3 (fun e => e.elim n1 n2), q3, by simp at q4; omega⟩, hT.below (fun k e => by
      rcases e with rfl | rfl
      · exact hb
      · exact (h2.lt _ rfl).1) hbase, fun v hv => nu_kept hv hT (fun gi n ci xs hi e => by
        rcases e with e | e
        · exact row_ne hi h1 (by decide) (by rw [← e]; rfl)
        · exact row_row h2 hi (by decide) e.symm), fun q C hq => hT.bx hq (fun e => e.elim (bx_bx hq h1 (by decide)) (fun e => row_ne h2 hq (by decide) (by rw [e]; rfl)))⟩
  | 2, _, ⟨g, c, db, h1, h2, h3, h4, h5⟩ =>
    refine step_any b 10 0 0 W (StepR base b ob W 2) ((can_add b g c ob db base _ _ (h1.after (hal _)) (World.ownsRow.alloc h2 _) (own_some h2 (by omega)).2 (h3.after (hal _)) (h4.after (hal _)) h5 (by simp; omega)).mono ?_)
    rintro e w' ⟨rfl, A, c', q1, q2⟩
    have hT := (Tu.of_below (F := fun k => k = b ∨ k = ob ∨ k = g) (hal (.cells #[.int .i64 10, .int .i64 0, .int .i64 0] 112))).trans q2 (fun k e => .inl e)
    exact ⟨rfl, ⟨_, _, _, _, q1, by omega⟩, ⟨A, c', q1⟩, hT.below (fun k e => by
      rcases e with rfl | rfl | rfl
      · exact hb
      · exact ho
      · exact (h2.lt _ rfl).1) hbase, fun v hv => nu_kept hv hT (fun gi n ci xs hi e => by
        rcases e with e | e | e
        · exact row_ne hi h1 (by decide) (by rw [← e]; rfl)
        · exact row_ne hi h3 (by decide) (by rw [← e]; rfl)
        · exact row_row h2 hi (by decide) e.symm), fun q C hq => hT.bx hq (fun e => e.elim (bx_bx hq h1 (by decide)) (fun e => e.elim (bx_bx hq h3 (by decide)) (fun e => row_ne h2 hq (by decide) (by rw [e]; rfl))))⟩
theorem doJ (base fb j : Nat) (v : Value) (W : World) (hj : j < 3) (h : Nu base W v j) (hf : W.cell? ⟨fb, 0, none⟩ = some (.int .i64 4)) (hfl : fb < W.heap.size) (hbase : base ≤ W.heap.size) :
    Calls Tryz.prog 143 #[.agg #[.int .i64 (opJ j).1, .int .i64 (opJ j).2.1, .int .i64 (opJ j).2.2], .slice (some ⟨fb, 0, none⟩) 1 1, v] W fun e w' => ∃ v', e = .returned (.tuple #[v', .int .i64 0]) ∧ Nu base w' v' (j + 1) ∧ Below base W w' ∧ ∀ b ob i, Ty base b ob W i → Ty base b ob w' i := by
  match j, hj, h with
  | 0, _, h =>
    subst h
    refine (do_old fb base W hf hfl hbase).mono ?_
    rintro e w' ⟨A, c, rfl, q1, q2⟩
    obtain ⟨⟨g, rfl⟩, _⟩ := own_some q1 (by omega)
    have hb : Below W.heap.size W w' := q2.below (fun k f => f.elim) (Nat.le_refl _)
    exact ⟨_, rfl, ⟨g, c, rfl, q1⟩, hb.mono hbase, fun b ob i ht => ty_below ht hb⟩
  | 1, _, ⟨g, c, hv, ho⟩ =>
    subst hv
    refine (do_int _ g c base W ho hbase).mono ?_
    rintro e w' ⟨A, c', rfl, q1, q2⟩
    obtain ⟨⟨g', rfl⟩, _⟩ := own_some q1 (by omega)
    exact ⟨_, rfl, ⟨g', c', rfl, q1⟩, q2.below (fun k e => by subst e; exact (ho.lt _ rfl).1) hbase, fun b ob i ht => ty_kept ht q2 ho⟩
  | 2, _, ⟨g, c, hv, ho⟩ =>
    subst hv
    refine (do_add _ g c base W ho (own_some ho (by omega)).2 hbase).mono ?_
    rintro e w' ⟨A, c', rfl, q1, q2⟩
    obtain ⟨⟨g', rfl⟩, _⟩ := own_some q1 (by omega)
    exact ⟨_, rfl, ⟨g', c', rfl, q1⟩, q2.below (fun k e => by subst e; exact (ho.lt _ rfl).1) hbase, fun b ob i ht => ty_kept ht q2 ho⟩
end TnH
end Go.Proofs.YtiagjnimafdbhaaGreatDoor
