/-
  The document's heap: Set and Send: what each of them hands back, and the things that there are then.
-/
import Derived.Test.YtfmodaelpldpfaaHpQ
import Derived.Test.YtfmodaelpldpfaaHpE
namespace Go.Proofs.Ytfmodaelpldpfaa
namespace HpF
open Go.RowKit Base BinM HpM HpA HpS HpB HpG HpP HpT HpZ HpR HpQ HpE

/-- a cell of one's own row, written -/
theorem own_setN {w : World} {base : Nat} {e : TypeId} {size n c b : Nat} {xs : List Value} (h : w.ownsRow base e size (.slice (some ⟨b, 0, none⟩) n c) n xs) (k : Nat) (u : Value) :
    (w.setCell ⟨b, k, none⟩ u).ownsRow base e size (.slice (some ⟨b, 0, none⟩) n c) n (xs.set k u) := by
  obtain ⟨r1, r2⟩ := h
  rcases r2 with ⟨r2, _⟩ | ⟨b', cap, cur, r2, r3, r4, r5, r6, r7, r8⟩
  · cases r2
  · injection r2 with r2 r2' r2''
    injection r2 with r2
    injection r2 with r2
    subst r2
    subst r2''
    refine ⟨by rw [List.length_set]; exact r1, .inr ⟨b, c, cur.setIfInBounds k u, rfl, r3, heap_setCell_same w b k cur e u r4, r5, r6, by rw [Array.size_setIfInBounds]; exact r7, ?_⟩⟩
    rw [Array.toList_setIfInBounds, ← r8, List.take_set]
theorem own_setI {w : World} {base c b : Nat} {l : List Int} (h : OwnI w base (.slice (some ⟨b, 0, none⟩) l.length c) l) (k : Nat) (x : Int) :
    OwnI (w.setCell ⟨b, k, none⟩ (.int .i64 x)) base (.slice (some ⟨b, 0, none⟩) (l.set k x).length c) (l.set k x) := by
  have h' := own_setN h k (.int .i64 x)
  unfold OwnI
  rw [List.length_set, List.map_set]
  exact h'

/-- a document's heap behind a call that changed it -/
def NextR (w w' : World) (F : Nat → Prop) (r most : Nat) (ms : List ThM) : Prop :=
  ∃ AL cL, RfX w' r AL cL most ms ∧ Turned F w w' ∧ ∀ k, rfeet r AL ms k → F k ∨ w.heap.size ≤ k
/-- a thing with another word -/
def setM (m : ThM) (i : Nat) (v : Int) : ThM := ⟨m.at_, m.A, m.c, setT m.t i v⟩
/-- a thing that was sent -/
def sentM (m : ThM) (v : Int) : ThM := ⟨m.at_, m.A, m.c, ⟨m.t.id, m.t.W, v⟩⟩
theorem things_mid (p : List ThM) (m : ThM) (q : List ThM) : things (p ++ m :: q) = things p ++ m.t :: things q := by simp [things]
theorem things_set (p : List ThM) (m : ThM) (q : List ThM) (i : Nat) (v : Int) : things (p ++ setM m i v :: q) = things p ++ setT m.t i v :: things q := by simp [things, setM]
theorem adr_sent (a b : List Th) (t : Th) (v : Int) : ∀ k, adr k (a ++ ⟨t.id, t.W, v⟩ :: b) = adr k (a ++ t :: b) := by
  intro k
  rw [adr_append, adr_append]
  rfl
theorem raw_sent (a b : List Th) (t : Th) (v : Int) : raw (a ++ ⟨t.id, t.W, v⟩ :: b) = raw (a ++ t :: b) := by
  rw [raw_mid, raw_mid]

section
variable {w w' : World} {r : Nat} {AL : Option Addr} {cL most : Nat} {ms : List ThM}

/-- feet of things that lie where they lay -/
theorem rfeet_same {p : List ThM} {m m' : ThM} {q : List ThM} (h : m'.A = m.A) (k : Nat) (hk : rfeet r AL (p ++ m' :: q) k) : rfeet r AL (p ++ m :: q) k := by
  rcases hk with hk | hk | ⟨u, hu, a, ha⟩
  · exact .inl hk
  · exact .inr (.inl hk)
  · rw [List.mem_append, List.mem_cons] at hu
    rcases hu with hu | rfl | hu
    · exact .inr (.inr ⟨u, by simp [hu], a, ha⟩)
    · exact .inr (.inr ⟨m, by simp, a, by rw [← h]; exact ha.1, ha.2⟩)
    · exact .inr (.inr ⟨u, by simp [hu], a, ha⟩)
theorem pair_mid {p : List ThM} {m m' : ThM} {q : List ThM} (h : m'.A = m.A) (hp : (p ++ m :: q).Pairwise (fun m m' => ∀ a b, m.A = some a → m'.A = some b → a.block ≠ b.block)) :
    (p ++ m' :: q).Pairwise (fun m m' => ∀ a b, m.A = some a → m'.A = some b → a.block ≠ b.block) := by
  rw [List.pairwise_append, List.pairwise_cons] at hp ⊢
  obtain ⟨h1, ⟨h2, h3⟩, h4⟩ := hp
  refine ⟨h1, ⟨fun u hu a b ha hb => h2 u hu a b (by rw [← h]; exact ha) hb, h3⟩, fun u hu v hv => ?_⟩
  rw [List.mem_cons] at hv
  rcases hv with rfl | hv
  · intro a b ha hb
    exact h4 u hu m (by simp) a b ha (by rw [← h]; exact hb)
  · exact h4 u hu v (by simp [hv])

/-- a word of a thing written -/
theorem rsetW {p : List ThM} {m : ThM} {q : List ThM} (H : RfX w r AL cL most (p ++ m :: q)) {b : Nat} (e : m.A = some ⟨b, 0, none⟩) (i : Nat) (v : Int) :
    RfX (w.setCell ⟨b, i, none⟩ (.int .i64 v)) r AL cL most (p ++ setM m i v :: q) ∧ Turned (rfeet r AL (p ++ m :: q)) w (w.setCell ⟨b, i, none⟩ (.int .i64 v)) := by
  obtain ⟨h1, h2, h3, h4, h5, h6, h7⟩ := H
  have hb := h5 m (by simp) _ e
  have hT : thV (setM m i v) = thV m := by simp [thV, setM, setT]
  have hfl : (p ++ setM m i v :: q).flatMap thV = (p ++ m :: q).flatMap thV := by simp [hT]
  have hlen : (p ++ setM m i v :: q).length = (p ++ m :: q).length := by simp
  have hother : ∀ u, u ∈ p ∨ u ∈ q → ∀ a, u.A = some a → a.block ≠ b := by
    intro u hu a ha
    rw [List.pairwise_append, List.pairwise_cons] at h6
    rcases hu with hu | hu
    · exact h6.2.2 u hu m (by simp) a _ ha e
    · exact fun hab => h6.2.1.1 u hu _ a e ha hab.symm
  refine ⟨⟨?_, ?_, ?_, h4, ?_, pair_mid (m := m) rfl h6, ?_⟩, Turned.of_set w (.inr (.inr ⟨m, by simp, _, e, rfl⟩)) _⟩
  · rw [hlen]
    exact h1.beside i _ (Ne.symm hb.1)
  · rw [hlen, hfl]
    refine own_same h2 (fun k hk => heap_setCell_other w _ k _ ?_)
    obtain ⟨a, q1, q2⟩ := block_of hk
    intro hkb
    exact hb.2 a q1 (by rw [q2]; exact hkb.symm)
  · intro u hu
    rw [List.mem_append, List.mem_cons] at hu
    have old : u ∈ p ∨ u ∈ q → OwnI (w.setCell ⟨b, i, none⟩ (.int .i64 v)) 0 (.slice u.A u.t.W.length u.c) u.t.W := fun hu => by
      refine own_same (h3 u (by rcases hu with hu | hu <;> simp [hu])) (fun k hk => heap_setCell_other w _ k _ ?_)
      obtain ⟨a, q1, q2⟩ := block_of hk
      rw [← q2]
      exact hother u hu a q1
    rcases hu with hu | rfl | hu
    · exact old (.inl hu)
    · have h := h3 m (by simp)
      rw [e] at h
      show OwnI _ 0 (.slice m.A (m.t.W.set i v).length m.c) (m.t.W.set i v)
      rw [e]
      exact own_setI h i v
    · exact old (.inr hu)
  · intro u hu a ha
    rw [List.mem_append, List.mem_cons] at hu
    rcases hu with hu | rfl | hu
    · exact h5 u (by simp [hu]) a ha
    · exact h5 m (by simp) a ha
    · exact h5 u (by simp [hu]) a ha
  · rw [things_set, adr_set, ← things_mid, ← h7]
    simp [setM]

/-- a thing marked as sent -/
theorem rsetS {p : List ThM} {m : ThM} {q : List ThM} (H : RfX w r AL cL most (p ++ m :: q)) {b : Nat} (e : AL = some ⟨b, 0, none⟩) (v : Int) :
    RfX (w.setCell ⟨b, p.length * 4 + 3, none⟩ (.int .i64 v)) r AL cL most (p ++ sentM m v :: q) ∧ Turned (rfeet r AL (p ++ m :: q)) w (w.setCell ⟨b, p.length * 4 + 3, none⟩ (.int .i64 v)) := by
  subst e
  obtain ⟨h1, h2, h3, h4, h5, h6, h7⟩ := H
  have hfl : (p ++ sentM m v :: q).flatMap thV = ((p ++ m :: q).flatMap thV).set (p.length * 4 + 3) (.int .i64 v) := by
    have hl : (p.flatMap thV).length = p.length * 4 := Stru.flat_len thV 4 thV_len p
    simp only [List.flatMap_append, List.flatMap_cons]
    rw [List.set_append_right _ _ (by omega), hl, show p.length * 4 + 3 - p.length * 4 = 3 by omega, List.set_append_left _ _ (by rw [thV_len]; omega)]
    rfl
  have hlen : (p ++ sentM m v :: q).length = (p ++ m :: q).length := by simp
  have old : ∀ u ∈ p ++ m :: q, OwnI (w.setCell ⟨b, p.length * 4 + 3, none⟩ (.int .i64 v)) 0 (.slice u.A u.t.W.length u.c) u.t.W := fun u hu => by
    refine own_same (h3 u hu) (fun k hk => heap_setCell_other w _ k _ ?_)
    obtain ⟨a, q1, q2⟩ := block_of hk
    rw [← q2]
    exact (h5 u hu a q1).2 ⟨b, 0, none⟩ rfl
  refine ⟨⟨?_, ?_, ?_, h4, ?_, pair_mid (m := m) rfl h6, ?_⟩, Turned.of_set w (.inr (.inl ⟨_, rfl, rfl⟩)) _⟩
  · rw [hlen]
    exact h1.beside _ _ (fun hr => h4 _ rfl hr.symm)
  · rw [hlen, hfl]
    exact own_setN h2 _ _
  · intro u hu
    rw [List.mem_append, List.mem_cons] at hu
    rcases hu with hu | rfl | hu
    · exact old u (by simp [hu])
    · exact old m (by simp)
    · exact old u (by simp [hu])
  · intro u hu a ha
    rw [List.mem_append, List.mem_cons] at hu
    rcases hu with hu | rfl | hu
    · exact h5 u (by simp [hu]) a ha
    · exact h5 m (by simp) a ha
    · exact h5 u (by simp [hu]) a ha
  · have ht : things (p ++ sentM m v :: q) = things p ++ ⟨m.t.id, m.t.W, v⟩ :: things q := by simp [things, sentM]
    rw [ht, adr_sent, ← things_mid, ← h7]
    simp [sentM]

theorem rset_no (H : RfX w r AL cL most ms) (hn : ms.length ≤ 4096) (x i v : Int) (hx : x ∉ adr 0 (things ms)) :
    Calls Try.prog 35 #[.pointer (some ⟨r, 0, none⟩), .int .i64 x, .int .i64 i, .int .i64 v] w fun e w' => e = .returned (.int .i64 3) ∧ w = w' := by
  have HB := Lib.hid (find_no H hn x hx)
  clear H hx
  go_enter Try.func35, Try.ntmps35
  go_wp2_with (go_at_call 37; refine HB.out.mono ?_; rintro e w' ⟨rfl, rfl⟩)
  go_ret
  exact ⟨rfl, rfl⟩
def GivesRSet (w : World) (F : Nat → Prop) (r most : Nat) (p : List ThM) (m : ThM) (q : List ThM) (i v : Int) (e : Ending) (w' : World) : Prop :=
  (¬ (0 ≤ i ∧ i < (m.t.W.length : Int)) ∧ e = .returned (.int .i64 3) ∧ w = w') ∨
  (0 ≤ i ∧ i < (m.t.W.length : Int) ∧ e = .returned (.int .i64 0) ∧ NextR w w' F r most (p ++ setM m i.toNat v :: q))
set_option maxRecDepth 100000 in
theorem rset_yes {p : List ThM} {m : ThM} {q : List ThM} (H : RfX w r AL cL most (p ++ m :: q)) (hn : (p ++ m :: q).length ≤ 4096) (hW : m.t.W.length ≤ 4096) (i v : Int) :
    Calls Try.prog 35 #[.pointer (some ⟨r, 0, none⟩), .int .i64 m.at_, .int .i64 i, .int .i64 v] w (GivesRSet w (rfeet r AL (p ++ m :: q)) r most p m q i v) := by
  have HB := Lib.hid (find_yes H hn)
  have HH := Lib.hid H
  have c1 := H.box.cell 1
  obtain ⟨b, o, rfl, _, _, k2, _⟩ := H.cells rfl
  have hpl : (p.length : Int) < ((p ++ m :: q).length : Int) := by simp; omega
  have hpl2 : (p.length : Int) ≤ 4096 := by omega
  have hrow := H.each m (by simp)
  clear H
  by_cases h0 : i < 0
  · clear hrow
    generalize (p ++ m :: q).length = L at *
    go_enter Try.func35, Try.ntmps35
    go_wp2_with (go_at_call 37; refine HB.out.mono ?_; rintro e w' ⟨rfl, rfl⟩)
    go_ret
    exact .inl ⟨by omega, rfl, rfl⟩
  · by_cases h1 : (m.t.W.length : Int) ≤ i
    · clear hrow
      generalize (p ++ m :: q).length = L at *
      go_enter Try.func35, Try.ntmps35
      go_wp2_with (go_at_call 37; refine HB.out.mono ?_; rintro e w' ⟨rfl, rfl⟩)
      go_ret
      exact .inl ⟨by omega, rfl, rfl⟩
    · obtain ⟨k, rfl⟩ : ∃ k : Nat, i = (k : Int) := ⟨i.toNat, by omega⟩
      have hk : k < m.t.W.length := by omega
      obtain ⟨bw, hbw, _⟩ := own_head hrow (by omega)
      have HS := Lib.hid (rsetW HH.out hbw k v)
      rw [hbw] at k2 hrow
      have hc := own_cell hrow (List.getElem?_eq_getElem hk)
      have hf := own_free hrow k
      clear hrow
      go_enter Try.func35, Try.ntmps35
      go_wp2_with (go_at_call 37; refine HB.out.mono ?_; rintro e w' ⟨rfl, rfl⟩)
      go_ret
      refine .inr ⟨by omega, by omega, rfl, ?_⟩
      rw [Int.toNat_natCast]
      exact ⟨_, _, HS.out.1, HS.out.2, fun j h => .inl (rfeet_same (m := m) (m' := setM m k v) rfl j h)⟩

theorem rsend_no (H : RfX w r AL cL most ms) (hn : ms.length ≤ 4096) (x v : Int) (hx : x ∉ adr 0 (things ms)) :
    Calls Try.prog 36 #[.pointer (some ⟨r, 0, none⟩), .int .i64 x, .int .i64 v] w fun e w' => e = .returned (.int .i64 3) ∧ w = w' := by
  have HB := Lib.hid (find_no H hn x hx)
  clear H hx
  go_enter Try.func36, Try.ntmps36
  go_wp2_with (go_at_call 37; refine HB.out.mono ?_; rintro e w' ⟨rfl, rfl⟩)
  go_ret
  exact ⟨rfl, rfl⟩
def GivesRSend (w : World) (F : Nat → Prop) (r most : Nat) (p : List ThM) (m : ThM) (q : List ThM) (v : Int) (e : Ending) (w' : World) : Prop :=
  e = .returned (.int .i64 (sendE (if m.t.s = 0 then none else some m.t.s) v)) ∧ ((sendE (if m.t.s = 0 then none else some m.t.s) v ≠ 0 ∧ w = w') ∨ (sendE (if m.t.s = 0 then none else some m.t.s) v = 0 ∧ NextR w w' F r most (p ++ sentM m v :: q)))
set_option maxRecDepth 100000 in
theorem rsend_yes {p : List ThM} {m : ThM} {q : List ThM} (H : RfX w r AL cL most (p ++ m :: q)) (hn : (p ++ m :: q).length ≤ 4096) (v : Int) :
    Calls Try.prog 36 #[.pointer (some ⟨r, 0, none⟩), .int .i64 m.at_, .int .i64 v] w (GivesRSend w (rfeet r AL (p ++ m :: q)) r most p m q v) := by
  have HB := Lib.hid (find_yes H hn)
  have HH := Lib.hid H
  have c1 := H.box.cell 1
  have hpos : 0 < (p ++ m :: q).length := by simp; omega
  obtain ⟨b, cc, hv, _⟩ := World.ownsRow.form H.row hpos
  injection hv with hv
  obtain ⟨b', o', hbo, _, _, _, k3⟩ := H.cells rfl
  rw [hv] at hbo
  injection hbo with hbo
  injection hbo with e1 e2
  subst e1
  subst e2
  rw [Nat.zero_add] at k3
  have HS := Lib.hid (rsetS H hv v)
  have hf : w.frozen? ⟨b, p.length * 4 + 3, none⟩ = false := by
    have hr := H.row
    rw [hv] at hr
    rcases hr.2 with ⟨q1, _⟩ | ⟨g, cap, cur, q1, _, q3, _⟩
    · cases q1
    · injection q1 with q1
      injection q1 with q1
      injection q1 with q1
      subst q1
      exact frozen_of_row w _ _ _ _ q3
  have hpl : (p.length : Int) < ((p ++ m :: q).length : Int) := by simp; omega
  have hpl2 : (p.length : Int) ≤ 4096 := by omega
  rw [hv] at c1
  have HV := Lib.hid hv
  clear H hv
  by_cases h1 : v < 1
  · have hE := Lib.hid (show sendE (if m.t.s = 0 then none else some m.t.s) v = 2 by unfold sendE; rw [if_pos h1])
    generalize (p ++ m :: q).length = L at *
    go_enter Try.func36, Try.ntmps36
    go_wp2_with (go_at_call 37; refine HB.out.mono ?_; rintro e w' ⟨rfl, rfl⟩)
    go_ret
    exact ⟨by rw [hE.out]; rfl, .inl ⟨by rw [hE.out]; omega, rfl⟩⟩
  · by_cases hs : m.t.s = 0
    · have hE := Lib.hid (show sendE (if m.t.s = 0 then none else some m.t.s) v = 0 by unfold sendE; rw [if_neg h1, if_pos hs]; rfl)
      rw [hs] at k3
      go_enter Try.func36, Try.ntmps36
      go_wp2_with (go_at_call 37; refine HB.out.mono ?_; rintro e w' ⟨rfl, rfl⟩)
      go_ret
      exact ⟨by rw [hE.out]; rfl, .inr ⟨hE.out, _, _, HS.out.1, HS.out.2, fun j h => .inl (rfeet_same (m := m) (m' := sentM m v) rfl j h)⟩⟩
    · have hE := Lib.hid (show sendE (if m.t.s = 0 then none else some m.t.s) v = 22 by unfold sendE; rw [if_neg h1, if_neg hs]; rfl)
      have hsb : (m.t.s == 0) = false := by simpa using hs
      generalize (p ++ m :: q).length = L at *
      go_enter Try.func36, Try.ntmps36
      go_wp2_with (go_at_call 37; refine HB.out.mono ?_; rintro e w' ⟨rfl, rfl⟩)
      go_ret
      exact ⟨by rw [hE.out]; rfl, .inl ⟨by rw [hE.out]; omega, rfl⟩⟩
end

end HpF
end Go.Proofs.Ytfmodaelpldpfaa
