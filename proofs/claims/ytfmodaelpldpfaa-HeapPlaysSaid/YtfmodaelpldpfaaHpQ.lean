/-
  The document's heap: New, Len, Get, Set, Send: what each of them hands back, and the things that there are then.
-/
import Derived.Test.YtfmodaelpldpfaaHpR
namespace Go.Proofs.Ytfmodaelpldpfaa
namespace HpQ
open Go.RowKit Base BinM HpM HpA HpS HpB HpG HpP HpT HpZ HpR

theorem adr_lt (ts : List Th) : ∀ k, (adr k ts).Pairwise (· < ·) := by
  induction ts with
  | nil => intro k; simp [adr]
  | cons t r ih =>
    intro k
    simp only [adr, List.pairwise_cons]
    refine ⟨fun x hx => ?_, ih _⟩
    have := (adr_low r _ x hx).1
    omega
section
variable {w w' : World} {r : Nat} {AL : Option Addr} {cL most : Nat} {ms : List ThM}

theorem at_val {p : List ThM} {m : ThM} {q : List ThM} (h : (p ++ m :: q).map ThM.at_ = adr 0 (things (p ++ m :: q))) : m.at_ = (((raw (things p)).length + 1 : Nat) : Int) := by
  have e : things (p ++ m :: q) = things p ++ m.t :: things q := by simp [things]
  rw [e, adr_append, List.map_append, List.map_cons] at h
  have hl : ∀ (k : Nat) (ts : List Th), (adr k ts).length = ts.length := by
    intro k ts
    induction ts generalizing k with
    | nil => rfl
    | cons t r ih => simp [adr, ih]
  obtain ⟨_, h2⟩ := List.append_inj h (by rw [hl]; simp [things])
  simp only [adr, List.cons.injEq] at h2
  rw [h2.1]
  omega
theorem find_yes {p : List ThM} {m : ThM} {q : List ThM} (H : RfX w r AL cL most (p ++ m :: q)) (hn : (p ++ m :: q).length ≤ 4096) :
    Calls Try.prog 37 #[.pointer (some ⟨r, 0, none⟩), .int .i64 m.at_] w fun e w' => e = .returned (.int .i64 (p.length : Int)) ∧ w = w' := by
  have hlt : p.length < (p ++ m :: q).length := by simp
  have hpw := adr_lt (things (p ++ m :: q)) 0
  rw [← H.ats, List.map_append, List.map_cons, List.pairwise_append] at hpw
  have h := find_any H hn m.at_ (i := p.length) (by omega) (fun u hu => by
    rw [List.take_left] at hu
    have := hpw.2.2 u.at_ (List.mem_map.2 ⟨u, hu, rfl⟩) m.at_ (by simp)
    omega) (fun h => by simp)
  rw [if_pos hlt] at h
  exact h
theorem find_no (H : RfX w r AL cL most ms) (hn : ms.length ≤ 4096) (x : Int) (hx : x ∉ adr 0 (things ms)) :
    Calls Try.prog 37 #[.pointer (some ⟨r, 0, none⟩), .int .i64 x] w fun e w' => e = .returned (.int .i64 (-1)) ∧ w = w' := by
  have h := find_any H hn x (i := ms.length) (Nat.le_refl _) (fun u hu e => by
    rw [List.take_length] at hu
    exact hx (by rw [← H.ats, ← e]; exact List.mem_map.2 ⟨u, hu, rfl⟩)) (fun h => absurd h (Nat.lt_irrefl _))
  rw [if_neg (Nat.lt_irrefl _)] at h
  exact h

theorem rlen_no (H : RfX w r AL cL most ms) (hn : ms.length ≤ 4096) (x : Int) (hx : x ∉ adr 0 (things ms)) :
    Calls Try.prog 39 #[.pointer (some ⟨r, 0, none⟩), .int .i64 x] w fun e w' => e = .returned (.tuple #[.int .i64 0, .int .i64 3]) ∧ w = w' := by
  have HB := Lib.hid (find_no H hn x hx)
  clear H hx
  go_enter Try.func39, Try.ntmps39
  go_wp2_with (go_at_call 37; refine HB.out.mono ?_; rintro e w' ⟨rfl, rfl⟩)
  go_ret2
  exact ⟨rfl, rfl⟩
set_option maxRecDepth 100000 in
theorem rlen_yes {p : List ThM} {m : ThM} {q : List ThM} (H : RfX w r AL cL most (p ++ m :: q)) (hn : (p ++ m :: q).length ≤ 4096) (hW : m.t.W.length ≤ 4096) :
    Calls Try.prog 39 #[.pointer (some ⟨r, 0, none⟩), .int .i64 m.at_] w fun e w' => e = .returned (.tuple #[.int .i64 (lenE m.t.W).1, .int .i64 (lenE m.t.W).2]) ∧ w = w' := by
  have HB := Lib.hid (find_yes H hn)
  have c1 := H.box.cell 1
  obtain ⟨b, o, rfl, _, _, k2, _⟩ := H.cells rfl
  have hpl : (p.length : Int) < ((p ++ m :: q).length : Int) := by simp; omega
  have hpl2 : (p.length : Int) ≤ 4096 := by omega
  have hrow := H.each m (by simp)
  clear H
  generalize (p ++ m :: q).length = L at *
  generalize p.length = P at *
  generalize m.t.W = W at *
  cases W with
  | nil =>
    clear hrow
    go_enter Try.func39, Try.ntmps39
    go_wp2_with (go_at_call 37; refine HB.out.mono ?_; rintro e w' ⟨rfl, rfl⟩)
    go_ret2
    exact ⟨rfl, rfl⟩
  | cons y V =>
    obtain ⟨bw, hbw, _⟩ := own_head hrow (by simp)
    rw [hbw] at k2 hrow
    have hc := own_cell hrow (k := 0) (x := y) rfl
    clear hrow
    rw [List.length_cons] at hW k2
    generalize V.length = vl at *
    go_enter Try.func39, Try.ntmps39
    go_wp2_with (go_at_call 37; refine HB.out.mono ?_; rintro e w' ⟨rfl, rfl⟩)
    go_ret2
    exact ⟨rfl, rfl⟩

theorem rget_no (H : RfX w r AL cL most ms) (hn : ms.length ≤ 4096) (x i : Int) (hx : x ∉ adr 0 (things ms)) :
    Calls Try.prog 38 #[.pointer (some ⟨r, 0, none⟩), .int .i64 x, .int .i64 i] w fun e w' => e = .returned (.tuple #[.int .i64 0, .int .i64 3]) ∧ w = w' := by
  have HB := Lib.hid (find_no H hn x hx)
  clear H hx
  go_enter Try.func38, Try.ntmps38
  go_wp2_with (go_at_call 37; refine HB.out.mono ?_; rintro e w' ⟨rfl, rfl⟩)
  go_ret2
  exact ⟨rfl, rfl⟩
set_option maxRecDepth 100000 in
theorem rget_yes {p : List ThM} {m : ThM} {q : List ThM} (H : RfX w r AL cL most (p ++ m :: q)) (hn : (p ++ m :: q).length ≤ 4096) (hW : m.t.W.length ≤ 4096) (i : Int) :
    Calls Try.prog 38 #[.pointer (some ⟨r, 0, none⟩), .int .i64 m.at_, .int .i64 i] w fun e w' => e = .returned (.tuple #[.int .i64 (getE m.t.W i).1, .int .i64 (getE m.t.W i).2]) ∧ w = w' := by
  have HB := Lib.hid (find_yes H hn)
  have c1 := H.box.cell 1
  obtain ⟨b, o, rfl, _, _, k2, _⟩ := H.cells rfl
  have hpl : (p.length : Int) < ((p ++ m :: q).length : Int) := by simp; omega
  have hpl2 : (p.length : Int) ≤ 4096 := by omega
  have hrow := H.each m (by simp)
  clear H
  generalize (p ++ m :: q).length = L at *
  generalize p.length = P at *
  generalize m.t.W = W at *
  by_cases h0 : i < 0
  · have hE := Lib.hid (show getE W i = (0, 3) by unfold getE; rw [if_neg (by omega)])
    clear hrow
    go_enter Try.func38, Try.ntmps38
    go_wp2_with (go_at_call 37; refine HB.out.mono ?_; rintro e w' ⟨rfl, rfl⟩)
    go_ret2
    exact ⟨by rw [hE.out]; rfl, rfl⟩
  · by_cases h1 : (W.length : Int) ≤ i
    · have hE := Lib.hid (show getE W i = (0, 3) by unfold getE; rw [if_neg (by omega)])
      clear hrow
      go_enter Try.func38, Try.ntmps38
      go_wp2_with (go_at_call 37; refine HB.out.mono ?_; rintro e w' ⟨rfl, rfl⟩)
      go_ret2
      exact ⟨by rw [hE.out]; rfl, rfl⟩
    · obtain ⟨k, rfl⟩ : ∃ k : Nat, i = (k : Int) := ⟨i.toNat, by omega⟩
      have hk : k < W.length := by omega
      have hE := Lib.hid (show getE W (k : Int) = (W[k], 0) by
        unfold getE
        rw [if_pos (by omega), Int.toNat_natCast, List.getD_eq_getElem?_getD, List.getElem?_eq_getElem hk]; rfl)
      obtain ⟨bw, hbw, _⟩ := own_head hrow (by omega)
      rw [hbw] at k2 hrow
      have hc := own_cell hrow (List.getElem?_eq_getElem hk)
      clear hrow
      generalize W[k] = x at *
      generalize W.length = wl at *
      go_enter Try.func38, Try.ntmps38
      go_wp2_with (go_at_call 37; refine HB.out.mono ?_; rintro e w' ⟨rfl, rfl⟩)
      go_ret2
      exact ⟨by rw [hE.out]; rfl, rfl⟩

/-- what the document's New hands back -/
def GivesR (n : Int) (w : World) (e : Ending) (w' : World) : Prop :=
  Below w.heap.size w w' ∧ ((16 ≤ n ∧ n ≤ 4096 ∧ ∃ r, e = .returned (.tuple #[.pointer (some ⟨r, 0, none⟩), .int .i64 0]) ∧ w.heap.size ≤ r ∧ RfX w' r none 0 n.toNat []) ∨
    (¬ (16 ≤ n ∧ n ≤ 4096) ∧ e = .returned (.tuple #[.pointer none, .int .i64 2])))
theorem rnew_any (n : Int) (w : World) : Calls Try.prog 8 #[.int .i64 n] w (GivesR n w) := by
  by_cases h1 : n < 16
  · go_enter Try.func8, Try.ntmps8
    go_wp2
    go_ret2
    exact ⟨Below.refl _ _, .inr ⟨by omega, rfl⟩⟩
  · by_cases h2 : 4096 < n
    · go_enter Try.func8, Try.ntmps8
      go_wp2
      go_ret2
      exact ⟨Below.refl _ _, .inr ⟨by omega, rfl⟩⟩
    · have HN := Lib.hid (show ((n.toNat : Nat) : Int) = n by omega)
      go_enter Try.func8, Try.ntmps8
      go_wp2
      go_ret2
      refine ⟨(Below.refl _ _).alloc (Nat.le_refl _) _, .inl ⟨by omega, by omega, _, rfl, Nat.le_refl _, ⟨?_, World.ownsRow_nil _ _ _ _, ?_, ?_, ?_, ?_, rfl⟩⟩⟩
      · rw [HN.out]
        exact Bx.new _ _ _
      · intro m hm; cases hm
      · intro a ha; cases ha
      · intro m hm; cases hm
      · exact List.Pairwise.nil
end

end HpQ
end Go.Proofs.Ytfmodaelpldpfaa
