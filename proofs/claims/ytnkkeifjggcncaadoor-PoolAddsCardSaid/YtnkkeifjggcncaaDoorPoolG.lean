/-
  One more constant in a list: pool.Add and the document's own Add: what they return.
-/
import Derived.Test.YtnkkeifjggcncaaDoorPoolK
import Derived.Test.YtnkkeifjggcncaaDoorPoolC
import Derived.Deep.RegionHeld3
import Derived.Laws.CopyOwn
namespace Go.Proofs.YtnkkeifjggcncaaDoor
namespace PoolG
open Go.RowKit Base BinM Stru PoolM PoolA PoolB PoolK
open PoolC (poolRefRight_any)

/-- constants in a row of the call's own -/
def OwnC (w : World) (base : Nat) (v : Value) (l : List Cst) : Prop := w.ownsRow base 24 5 v l.length (l.flatMap Cst.vals)
theorem OwnC.nil (w : World) (base : Nat) : OwnC w base (.slice none 0 0) [] := World.ownsRow_nil _ _ _ _
theorem OwnC.empty (w : World) : OwnC (w.alloc (.cells #[] 24)) w.heap.size (.slice (some ⟨w.heap.size, 0, none⟩) 0 0) [] :=
  ⟨by simp, .inr ⟨w.heap.size, 0, #[], rfl, Nat.le_refl _, heap_alloc_new w _, Nat.le_refl _, by simp [maxLen], rfl, rfl⟩⟩
theorem OwnC.kept {w w' : World} {base : Nat} {v : Value} {l : List Cst} (h : OwnC w base v l) (hb : Below w.heap.size w w') : OwnC w' base v l := by
  obtain ⟨h1, h2⟩ := h
  refine ⟨h1, ?_⟩
  rcases h2 with h2 | ⟨g, cap, cur, a, b, c, d⟩
  · exact .inl h2
  · have hlt : g < w.heap.size := by
      rcases Nat.lt_or_ge g w.heap.size with hl | hl
      · exact hl
      · rw [Array.getElem?_eq_none hl] at c; cases c
    exact .inr ⟨g, cap, cur, a, b, by rw [hb.block g hlt]; exact c, d⟩
theorem OwnC.csts {w : World} {base : Nat} {v : Value} {l : List Cst} (h : OwnC w base v l) (hf : ∀ x ∈ l, fitI x.kind ∧ fitI x.n) : ∃ A c, v = .slice A l.length c ∧ IsCsts w A l.length c l := by
  obtain ⟨A, c, rfl, h1, h2, _, _⟩ := own_slice h
  exact ⟨A, c, rfl, ⟨rfl, h1, h2, Rds.ownN h, hf⟩⟩
theorem OwnC.block {w : World} {base : Nat} {v : Value} {l : List Cst} (h : OwnC w base v l) : ∀ g, v.ownBlock = some g → base ≤ g := fun g hg => (h.lt g hg).1

theorem infoC : (Tryd.prog.info? 24).map (fun i => (i.zero, i.size, i.bytes)) = some (some (.agg #[.int .i64 0, .int .i64 0, .string ⟨#[]⟩, .string ⟨#[]⟩, .string ⟨#[]⟩]), 5, 64) := by kernel_rfl
theorem vals_one {l : List Cst} : ∀ u ∈ l.flatMap Cst.vals, u.oneCell' = true := by
  intro u hu
  obtain ⟨c, _, hc⟩ := List.mem_flatMap.1 hu
  simp only [Cst.vals, List.mem_cons, List.mem_nil_iff, or_false] at hc
  rcases hc with rfl | rfl | rfl | rfl | rfl <;> rfl
theorem vals_len (l : List Cst) : (l.flatMap Cst.vals).length = l.length * 5 := flat_len Cst.vals 5 (fun _ => rfl) l

theorem appC {ops : Array Oper} {rest : List Oper} {o : Oper} {a : Act} {w : World} {Q : Exit → Act → World → Prop} (hgd : o.guard = none) (s x : Operand)
    (ho : o.op = .call { callee := .builtin .append, args := #[s, x], argTypes := #[38, 38] })
    (base : Nat) (v : Value) (p : List Cst) (hs : a.eval s = v) (hown : OwnC w base v p) (A : Option Addr) (m c : Nat) (l : List Cst) (hx : a.eval x = .slice A m c)
    (hm : m = l.length) (hr : Rds w A (l.flatMap Cst.vals)) (hlen : p.length + l.length ≤ 100000) (hbase : base ≤ w.heap.size)
    (h : ∀ v' w', OwnC w' base v' (p ++ l) → w.grownBy w' v.ownBlock → wpList Tryd.prog ops Q rest (a.put o.dst v') w') : wpList Tryd.prog ops Q (o :: rest) a w := by
  obtain ⟨i0, hi, hz, hs1, hb1⟩ := info_parts infoC
  refine wpList_append_rdsN hgd s x 38 ho base 24 i0 _ 5 64 Tryd.underlying38 hi hz hs1 hb1 rfl (by omega) v p.length (p.flatMap Cst.vals) hs hown A m c (l.flatMap Cst.vals) hx (by rw [vals_len, hm]) hr vals_one (by unfold maxLen; omega) (by omega) hbase ?_
  intro v' w' h1 h2
  refine h v' w' ?_ h2
  unfold OwnC
  rw [List.flatMap_append, List.length_append, ← hm]
  exact h1

theorem step_appCs {ops : Array Oper} {o : Oper} {a : Act} {w : World} {K : Act → World → Prop} {Q : Exit → Act → World → Prop} {E : Prop} (hgd : o.guard = none) (s x : Operand)
    (ho : o.op = .call { callee := .builtin .append, args := #[s, x], argTypes := #[38, 38] })
    (base : Nat) (v : Value) (p : List Cst) (hs : a.eval s = v) (hown : OwnC w base v p) (A : Option Addr) (m c : Nat) (l : List Cst) (hx : a.eval x = .slice A m c)
    (hm : m = l.length) (hr : Rds w A (l.flatMap Cst.vals)) (hlen : p.length + l.length ≤ 100000) (hbase : base ≤ w.heap.size)
    (h : ∀ v' w', OwnC w' base v' (p ++ l) → w.grownBy w' v.ownBlock → K (a.put o.dst v') w') :
    if Region.wanted o (yielded ops a.tmps) = true then Oper.wp Tryd.prog o a w K Q else E := by
  have hw : Region.wanted o (yielded ops a.tmps) = true := by simp [Region.wanted, hgd]
  rw [if_pos hw]
  obtain ⟨i0, hi, hz, hs1, hb1⟩ := info_parts infoC
  refine wp_append_rdsN s x 38 ho base 24 i0 _ 5 64 Tryd.underlying38 hi hz hs1 hb1 rfl (by omega) v p.length (p.flatMap Cst.vals) hs hown A m c (l.flatMap Cst.vals) hx (by rw [vals_len, hm]) hr vals_one (by unfold maxLen; omega) (by omega) hbase ?_
  intro v' w' h1 h2
  refine h v' w' ?_ h2
  unfold OwnC
  rw [List.flatMap_append, List.length_append, ← hm]
  exact h1

/-- a call that answers a list of constants in new memory -/
def GivesCs (w : World) (l : List Cst) (e : Ending) (w' : World) : Prop := ∃ v, e = .returned v ∧ OwnC w' w.heap.size v l ∧ Below w.heap.size w w'

theorem nil_of {w : World} {m c : Nat} {l : List Cst} (h : IsCsts w none m c l) : l = [] ∧ m = 0 := by
  rcases h.rds with hr | ⟨b, o, hA, _⟩
  · have := vals_len l
    rw [hr] at this
    have hl : l = [] := List.eq_nil_of_length_eq_zero (by simp at this; omega)
    exact ⟨hl, by rw [h.len, hl]; rfl⟩
  · cases hA

set_option maxRecDepth 100000 in
set_option maxHeartbeats 1000000 in
theorem clone_any (A : Option Addr) (l : List Cst) (m c : Nat) (w : World) (h : IsCsts w A m c l) (hlen : l.length ≤ 50000) :
    Calls Tryd.prog 42 #[.slice A m c] w (GivesCs w l) := by
  cases A with
  | none =>
    obtain ⟨rfl, rfl⟩ := nil_of h
    have he : ∀ W : World, (binOp .eql 38 (.slice none 0 c) (.slice none 0 0)).run Tryd.prog W = .ok (.bool true) W := fun _ => rfl
    clear h
    go_enter Tryd.func42, Tryd.ntmps42
    go_wp2
    go_ret
    exact ⟨_, rfl, OwnC.nil _ _, Below.refl _ _⟩
  | some a =>
    have he : ∀ W : World, (binOp .eql 38 (.slice (some a) m c) (.slice none 0 0)).run Tryd.prog W = .ok (.bool false) W := fun _ => rfl
    have H := Lib.hid h
    clear h
    go_enter Tryd.func42, Tryd.ntmps42
    go_wp2_with (at_builtin
                 refine appC rfl (.tmp 5) (.tmp 6) rfl w.heap.size (.slice (some ⟨w.heap.size, 0, none⟩) 0 0) [] rfl (OwnC.empty w) (some a) m c l rfl H.out.len (H.out.rds.below ((Below.refl w.heap.size w).alloc (Nat.le_refl _) _)) (by simp; omega) (by simp) ?_
                 intro v1 w1 hown1 hg1
                 have Hb := Lib.hid (below_own ((Below.refl w.heap.size w).alloc (Nat.le_refl _) _) (OwnC.empty w) (Nat.le_refl _) (by simp) hg1)
                 have Hown1 := Lib.hid hown1
                 clear hown1 hg1)
    go_ret
    exact ⟨v1, rfl, Hown1.out, Hb.out⟩

/-- one more constant: what it gives -/
def addC (l : List Cst) (c : Cst) : List Cst × Int × Int :=
  if rightC c = false then ([], 0, 11) else if 0 ≤ findC l c then (l, findC l c, 0) else if 256 ≤ l.length then ([], 0, 17) else (l ++ [c], (l.length : Int), 0)
def GivesA (w : World) (r : List Cst × Int × Int) (e : Ending) (w' : World) : Prop :=
  ∃ A c, e = .returned (.tuple #[.slice A r.1.length c, .int .i64 r.2.1, .int .i64 r.2.2]) ∧ IsCsts w' A r.1.length c r.1 ∧ Below w.heap.size w w'
theorem givesA {w w' : World} {r : List Cst × Int × Int} {A : Option Addr} {m c : Nat} {l : List Cst} {p e : Int} (h : r = (l, p, e)) (hm : m = l.length) (hc : IsCsts w' A m c l) (hb : Below w.heap.size w w') :
    GivesA w r (.returned (.tuple #[.slice A m c, .int .i64 p, .int .i64 e])) w' := by subst h hm; exact ⟨A, c, rfl, hc, hb⟩
theorem csts_nil (w : World) : IsCsts w none 0 0 [] := ⟨rfl, Nat.le_refl _, by simp [maxLen], .inl rfl, by simp⟩
theorem row_cst (w : World) (k n : Int) (s t u : List UInt8) : Rds (w.alloc (.cells #[.int .i64 k, .int .i64 n, .string ⟨s.toArray⟩, .string ⟨t.toArray⟩, .string ⟨u.toArray⟩] 24)) (some ⟨w.heap.size, 0, none⟩) ([(⟨k, n, s, t, u⟩ : Cst)].flatMap Cst.vals) := rds_new w _ _

/-- a box below a row that grows keeps its cells -/
theorem box_own {w w' : World} {base g : Nat} {v : Value} {l : List Cst} {k n : Int} {s t u : List UInt8} (h : boxC w g k n s t u) (hg : w.grownBy w' v.ownBlock) (ho : OwnC w base v l) (hlt : g < base) : boxC w' g k n s t u := by
  have hlt2 : g < w.heap.size := World.block_lt_of_cell? w ⟨g, 0, none⟩ h.1
  have hb : Below (min base w.heap.size) w w' := below_own (Below.refl _ _) ho (Nat.min_le_left _ _) (Nat.min_le_right _ _) hg
  exact h.below hb (by omega)

set_option maxRecDepth 100000 in
set_option maxHeartbeats 4000000 in
theorem add_any (A : Option Addr) (l : List Cst) (m c : Nat) (k n : Int) (s t u : List UInt8) (w : World) (h : IsCsts w A m c l) (hlen : l.length ≤ 50000) (hk : fitI k) (hn : fitI n)
    (hs : s.length ≤ 140737488355327) (ht : t.length ≤ 140737488355327) (hu : u.length ≤ 140737488355327) :
    Calls Tryd.prog 19 #[.slice A m c, .agg #[.int .i64 k, .int .i64 n, .string ⟨s.toArray⟩, .string ⟨t.toArray⟩, .string ⟨u.toArray⟩]] w (GivesA w (addC l ⟨k, n, s, t, u⟩)) := by
  have HB := Lib.hid ((Below.refl w.heap.size w).alloc (Nat.le_refl _) (.cells #[.int .i64 k, .int .i64 n, .string ⟨s.toArray⟩, .string ⟨t.toArray⟩, .string ⟨u.toArray⟩] 24))
  have Hbox := Lib.hid (boxC.new w k n s t u 24)
  have Hl := Lib.hid (h.below HB.out)
  have Hm := Lib.hid h.len
  cases hrt : rightC ⟨k, n, s, t, u⟩
  · have H := Lib.hid (show addC l ⟨k, n, s, t, u⟩ = ([], 0, 11) by unfold addC; rw [if_pos hrt])
    have Hrt := Lib.hid hrt
    clear hrt h
    go_enter Tryd.func19, Tryd.ntmps19
    go_wp2_with fail
    refine (poolRight_any k n s t u _ hs ht hu).mono ?_
    rw [Hrt.out]
    rintro e w1 ⟨rfl, hb1⟩
    have Hb1 := Lib.hid (HB.out.trans (hb1.mono (by simp)))
    clear hb1
    go_wp2_with fail
    go_ret3
    exact givesA H.out rfl (csts_nil _) Hb1.out
  · have Hrt := Lib.hid hrt
    by_cases hf : 0 ≤ findC l ⟨k, n, s, t, u⟩
    · have H := Lib.hid (show addC l ⟨k, n, s, t, u⟩ = (l, findC l ⟨k, n, s, t, u⟩, 0) by unfold addC; rw [if_neg (by simp [hrt]), if_pos hf])
      have hfi := find_any A l m c k n s t u
      generalize findC l ⟨k, n, s, t, u⟩ = p at *
      have Hfi := Lib.hid hfi
      clear hrt h hfi
      go_enter Tryd.func19, Tryd.ntmps19
      go_wp2_with fail
      refine (poolRight_any k n s t u _ hs ht hu).mono ?_
      rw [Hrt.out]
      rintro e w1 ⟨rfl, hb1⟩
      obtain ⟨hc0, hc1, hc2, hc3, hc4⟩ := boxC.after Hbox.out hb1
      have Hb1 := Lib.hid (HB.out.trans (hb1.mono (by simp)))
      have Hl1 := Lib.hid (Hl.out.below hb1)
      clear hb1
      go_wp2_with fail
      refine (Hfi.out _ Hl1.out).mono ?_
      rintro e w2 ⟨rfl, hb2⟩
      have Hb2 := Lib.hid (Hb1.out.trans (hb2.mono Hb1.out.size))
      have Hl2 := Lib.hid (Hl1.out.below hb2)
      clear hb2 hc0 hc1 hc2 hc3 hc4
      go_wp2_with fail
      refine (clone_any A l m c _ Hl2.out hlen).mono ?_
      rintro e w3 ⟨v3, rfl, hown3, hb3⟩
      obtain ⟨A3, c3, rfl, hcs3⟩ := hown3.csts Hl2.out.fit
      have Hc3 := Lib.hid hcs3
      have Hb3 := Lib.hid (Hb2.out.trans (hb3.mono Hb2.out.size))
      clear hown3 hb3 hcs3
      go_wp2_with fail
      go_ret3
      have h1 := H.out
      have h2 := Hc3.out
      have h3 := Hb3.out
      unfold GivesA
      rw [h1]
      exact ⟨A3, c3, rfl, h2, h3⟩
    · have hfi := find_any A l m c k n s t u
      by_cases hfull : 256 ≤ m
      · have H := Lib.hid (show addC l ⟨k, n, s, t, u⟩ = ([], 0, 17) by unfold addC; rw [if_neg (by simp [hrt]), if_neg hf, if_pos (by rw [← Hm.out]; exact hfull)])
        generalize findC l ⟨k, n, s, t, u⟩ = p at *
        have Hfi := Lib.hid hfi
        have hfu : (256 : Int) ≤ (m : Int) := by omega
        clear hrt h hfi
        go_enter Tryd.func19, Tryd.ntmps19
        go_wp2_with fail
        refine (poolRight_any k n s t u _ hs ht hu).mono ?_
        rw [Hrt.out]
        rintro e w1 ⟨rfl, hb1⟩
        obtain ⟨hc0, hc1, hc2, hc3, hc4⟩ := boxC.after Hbox.out hb1
        have Hb1 := Lib.hid (HB.out.trans (hb1.mono (by simp)))
        have Hl1 := Lib.hid (Hl.out.below hb1)
        clear hb1
        go_wp2_with fail
        refine (Hfi.out _ Hl1.out).mono ?_
        rintro e w2 ⟨rfl, hb2⟩
        have Hb2 := Lib.hid (Hb1.out.trans (hb2.mono Hb1.out.size))
        clear hb2 hc0 hc1 hc2 hc3 hc4
        go_wp2_with fail
        go_ret3
        exact givesA H.out rfl (csts_nil _) Hb2.out
      · have H := Lib.hid (show addC l ⟨k, n, s, t, u⟩ = (l ++ [⟨k, n, s, t, u⟩], (m : Int), 0) by unfold addC; rw [if_neg (by simp [hrt]), if_neg hf, if_neg (by rw [← Hm.out]; exact hfull), Hm.out])
        generalize findC l ⟨k, n, s, t, u⟩ = p at *
        have Hfi := Lib.hid hfi
        have hfu : ¬ (256 : Int) ≤ (m : Int) := by omega
        have hml : l.length = m := Hm.out.symm
        have Hfit := Lib.hid (show ∀ x ∈ l ++ [(⟨k, n, s, t, u⟩ : Cst)], fitI x.kind ∧ fitI x.n by
          intro x hx
          rcases List.mem_append.1 hx with hx | hx
          · exact h.fit x hx
          · simp at hx; subst hx; exact ⟨hk, hn⟩)
        clear hrt h hfi
        go_enter Tryd.func19, Tryd.ntmps19
        go_wp2_with fail
        refine (poolRight_any k n s t u _ hs ht hu).mono ?_
        rw [Hrt.out]
        rintro e w1 ⟨rfl, hb1⟩
        obtain ⟨hc0, hc1, hc2, hc3, hc4⟩ := boxC.after Hbox.out hb1
        have Hb1 := Lib.hid (HB.out.trans (hb1.mono (by simp)))
        have Hl1 := Lib.hid (Hl.out.below hb1)
        clear hb1
        go_wp2_with fail
        refine (Hfi.out _ Hl1.out).mono ?_
        rintro e w2 ⟨rfl, hb2⟩
        obtain ⟨hd0, hd1, hd2, hd3, hd4⟩ := boxC.after (k := k) (n := n) (s := s) (t := t) (u := u) ⟨hc0, hc1, hc2, hc3, hc4⟩ hb2
        have Hb2 := Lib.hid (Hb1.out.trans (hb2.mono Hb1.out.size))
        have hsz2 := Hb2.out.size
        have Hl2 := Lib.hid (Hl1.out.below hb2)
        have hbx : w.heap.size < w2.heap.size := World.block_lt_of_cell? w2 ⟨w.heap.size, 0, none⟩ hd0
        have hB0 := Below.refl w2.heap.size w2
        have hB1 := hB0.drew
        clear hb2 hc0 hc1 hc2 hc3 hc4
        go_wp2_with fail
        go_region_held3 (fun w' => w'.cell? ⟨w.heap.size, 0, none⟩ = some (.int .i64 k) ∧ w'.cell? ⟨w.heap.size, 1, none⟩ = some (.int .i64 n) ∧ w'.cell? ⟨w.heap.size, 2, none⟩ = some (.string ⟨s.toArray⟩) ∧ w'.cell? ⟨w.heap.size, 3, none⟩ = some (.string ⟨t.toArray⟩) ∧ w'.cell? ⟨w.heap.size, 4, none⟩ = some (.string ⟨u.toArray⟩))
          (first | go_keep)
          (first
            | (go_at_call 42
               refine (clone_any A l m c w2.drew (Hl2.out.below hB1) hlen).mono ?_
               rintro e w3 ⟨v3, rfl, hown3, hb3⟩
               have hK3 : Below w2.heap.size w2 w3 := hB1.trans (hb3.mono (Nat.le_refl _))
               obtain ⟨he0, he1, he2, he3, he4⟩ := boxC.after (k := k) (n := n) (s := s) (t := t) (u := u) ⟨hd0, hd1, hd2, hd3, hd4⟩ hK3
               have Hown3 : Hid (OwnC w3 w2.heap.size v3 l) := Lib.hid hown3
               have Hb3 := Lib.hid (Hb2.out.trans (hK3.mono hsz2))
               have hsz3 := hK3.size
               clear hown3 hb3 hK3)
            | (go_at_call 42
               refine (clone_any A l m c (w2.drew.alloc (.cells #[.int .i64 k, .int .i64 n, .string ⟨s.toArray⟩, .string ⟨t.toArray⟩, .string ⟨u.toArray⟩] 24)) (Hl2.out.below (hB1.alloc (Nat.le_refl _) (.cells #[.int .i64 k, .int .i64 n, .string ⟨s.toArray⟩, .string ⟨t.toArray⟩, .string ⟨u.toArray⟩] 24))) hlen).mono ?_
               rintro e w3 ⟨v3, rfl, hown3, hb3⟩
               have hK3 := (hB1.alloc (Nat.le_refl _) (.cells #[.int .i64 k, .int .i64 n, .string ⟨s.toArray⟩, .string ⟨t.toArray⟩, .string ⟨u.toArray⟩] 24)).trans (hb3.mono (by simp))
               obtain ⟨he0, he1, he2, he3, he4⟩ := boxC.after (k := k) (n := n) (s := s) (t := t) (u := u) ⟨hd0, hd1, hd2, hd3, hd4⟩ hK3
               have Hown3 : Hid (OwnC w3 w2.heap.size v3 l) := Lib.hid (own_mono hown3 (by simp))
               have Hb3 := Lib.hid (Hb2.out.trans (hK3.mono hsz2))
               have Hrow := Lib.hid ((row_cst w2.drew k n s t u).below hb3)
               have hsz3 := hK3.size
               clear hown3 hb3 hK3)
            | (refine step_appCs rfl (.tmp 23) (.tmp 25) rfl w2.heap.size v3 l rfl Hown3.out _ _ _ [⟨k, n, s, t, u⟩] rfl rfl Hrow.out (by simp; omega) hsz3 ?_
               intro v4 w4 hown4 hg4
               have Hb4 := Lib.hid (below_own Hb3.out Hown3.out hsz2 (Nat.le_trans hsz2 hsz3) hg4)
               obtain ⟨hi0, hi1, hi2, hi3, hi4⟩ := box_own (k := k) (n := n) (s := s) (t := t) (u := u) ⟨he0, he1, he2, he3, he4⟩ hg4 Hown3.out (by omega)
               obtain ⟨A4, c4, rfl, hcs4⟩ := OwnC.csts hown4 Hfit.out
               have Hc4 := Lib.hid hcs4
               clear hown4 hcs4 hg4)
            | (refine step_appCs rfl (.tmp 23) (.tmp 25) rfl w2.heap.size v3 l rfl (Hown3.out.kept ((Below.refl w3.heap.size w3).alloc (Nat.le_refl _) (.cells #[.int .i64 k, .int .i64 n, .string ⟨s.toArray⟩, .string ⟨t.toArray⟩, .string ⟨u.toArray⟩] 24))) _ _ _ [⟨k, n, s, t, u⟩] rfl rfl (row_cst _ k n s t u) (by simp; omega) (by simp; omega) ?_
               intro v4 w4 hown4 hg4
               have Hb4 := Lib.hid (below_own (Hb3.out.alloc (by omega) (.cells #[.int .i64 k, .int .i64 n, .string ⟨s.toArray⟩, .string ⟨t.toArray⟩, .string ⟨u.toArray⟩] 24)) (Hown3.out.kept ((Below.refl w3.heap.size w3).alloc (Nat.le_refl _) (.cells #[.int .i64 k, .int .i64 n, .string ⟨s.toArray⟩, .string ⟨t.toArray⟩, .string ⟨u.toArray⟩] 24))) hsz2 (by simp; omega) hg4)
               obtain ⟨hi0, hi1, hi2, hi3, hi4⟩ := box_own (k := k) (n := n) (s := s) (t := t) (u := u) (boxC.after (k := k) (n := n) (s := s) (t := t) (u := u) ⟨he0, he1, he2, he3, he4⟩ ((Below.refl w3.heap.size w3).alloc (Nat.le_refl _) (.cells #[.int .i64 k, .int .i64 n, .string ⟨s.toArray⟩, .string ⟨t.toArray⟩, .string ⟨u.toArray⟩] 24))) hg4 (Hown3.out.kept ((Below.refl w3.heap.size w3).alloc (Nat.le_refl _) (.cells #[.int .i64 k, .int .i64 n, .string ⟨s.toArray⟩, .string ⟨t.toArray⟩, .string ⟨u.toArray⟩] 24))) (by omega)
               obtain ⟨A4, c4, rfl, hcs4⟩ := OwnC.csts hown4 Hfit.out
               have Hc4 := Lib.hid hcs4
               clear hown4 hcs4 hg4))
        all_goals go_wp2_with fail
        all_goals go_ret3
        all_goals
          have h1 := H.out
          have h2 := Hc4.out
          have h3 := Hb4.out
          unfold GivesA
          rw [h1]
          have hq : (l ++ [(⟨k, n, s, t, u⟩ : Cst)]).length = m + 1 := by simp; omega
          refine ⟨A4, c4, ?_, h2, h3⟩
          rw [hq]
          rfl

set_option maxRecDepth 100000 in
set_option maxHeartbeats 4000000 in
theorem refAdd_any (A : Option Addr) (l : List Cst) (m c : Nat) (k n : Int) (s t u : List UInt8) (w : World) (h : IsCsts w A m c l) (hlen : l.length ≤ 50000) (hk : fitI k) (hn : fitI n)
    (hs : s.length ≤ 140737488355327) (ht : t.length ≤ 140737488355327) (hu : u.length ≤ 140737488355327) :
    Calls Tryd.prog 20 #[.slice A m c, .agg #[.int .i64 k, .int .i64 n, .string ⟨s.toArray⟩, .string ⟨t.toArray⟩, .string ⟨u.toArray⟩]] w (GivesA w (addC l ⟨k, n, s, t, u⟩)) := by
  have HB := Lib.hid ((Below.refl w.heap.size w).alloc (Nat.le_refl _) (.cells #[.int .i64 k, .int .i64 n, .string ⟨s.toArray⟩, .string ⟨t.toArray⟩, .string ⟨u.toArray⟩] 24))
  have Hbox := Lib.hid (boxC.new w k n s t u 24)
  have Hl := Lib.hid (h.below HB.out)
  have Hm := Lib.hid h.len
  have hml : l.length = m := Hm.out.symm
  have hfi := refFind_any A l m c k n s t u
  cases hrt : rightC ⟨k, n, s, t, u⟩
  · have H := Lib.hid (show addC l ⟨k, n, s, t, u⟩ = ([], 0, 11) by unfold addC; rw [if_pos hrt])
    have Hrt := Lib.hid hrt
    clear hrt h hfi
    go_enter Tryd.func20, Tryd.ntmps20
    go_wp2_with fail
    refine (poolRefRight_any k n s t u _ hs ht hu).mono ?_
    rw [Hrt.out]
    rintro e w1 ⟨rfl, hb1⟩
    have Hb1 := Lib.hid (HB.out.trans (hb1.mono (by simp)))
    clear hb1
    go_wp2_with fail
    go_ret3
    exact givesA H.out rfl (csts_nil _) Hb1.out
  · have Hrt := Lib.hid hrt
    by_cases hf : 0 ≤ findC l ⟨k, n, s, t, u⟩
    · have H := Lib.hid (show addC l ⟨k, n, s, t, u⟩ = (l, findC l ⟨k, n, s, t, u⟩, 0) by unfold addC; rw [if_neg (by simp [hrt]), if_pos hf])
      generalize findC l ⟨k, n, s, t, u⟩ = p at *
      have Hfi := Lib.hid hfi
      clear hrt h hfi
      go_enter Tryd.func20, Tryd.ntmps20
      go_wp2_with fail
      refine (poolRefRight_any k n s t u _ hs ht hu).mono ?_
      rw [Hrt.out]
      rintro e w1 ⟨rfl, hb1⟩
      obtain ⟨hc0, hc1, hc2, hc3, hc4⟩ := boxC.after Hbox.out hb1
      have Hb1 := Lib.hid (HB.out.trans (hb1.mono (by simp)))
      have Hl1 := Lib.hid (Hl.out.below hb1)
      clear hb1
      go_wp2_with fail
      refine (Hfi.out _ Hl1.out).mono ?_
      rintro e w2 ⟨rfl, hb2⟩
      obtain ⟨hd0, hd1, hd2, hd3, hd4⟩ := boxC.after (k := k) (n := n) (s := s) (t := t) (u := u) ⟨hc0, hc1, hc2, hc3, hc4⟩ hb2
      have Hb2 := Lib.hid (Hb1.out.trans (hb2.mono Hb1.out.size))
      have Hl2 := Lib.hid (Hl1.out.below hb2)
      clear hb2 hc0 hc1 hc2 hc3 hc4
      go_wp2_with fail
      refine (Hfi.out _ Hl2.out).mono ?_
      rintro e w3 ⟨rfl, hb3⟩
      have Hb3 := Lib.hid (Hb2.out.trans (hb3.mono Hb2.out.size))
      have Hl3 := Lib.hid (Hl2.out.below hb3)
      clear hb3
      go_wp2_with fail
      go_ret3
      have h1 := H.out
      have h2 := Hl3.out
      have h3 := Hb3.out
      unfold GivesA
      rw [h1]
      rw [← hml] at h2
      refine ⟨A, c, ?_, h2, h3⟩
      rw [hml]
      rfl
    · by_cases hfull : 256 ≤ m
      · have H := Lib.hid (show addC l ⟨k, n, s, t, u⟩ = ([], 0, 17) by unfold addC; rw [if_neg (by simp [hrt]), if_neg hf, if_pos (by rw [← Hm.out]; exact hfull)])
        generalize findC l ⟨k, n, s, t, u⟩ = p at *
        have Hfi := Lib.hid hfi
        have hfu : (256 : Int) ≤ (m : Int) := by omega
        clear hrt h hfi
        go_enter Tryd.func20, Tryd.ntmps20
        go_wp2_with fail
        refine (poolRefRight_any k n s t u _ hs ht hu).mono ?_
        rw [Hrt.out]
        rintro e w1 ⟨rfl, hb1⟩
        obtain ⟨hc0, hc1, hc2, hc3, hc4⟩ := boxC.after Hbox.out hb1
        have Hb1 := Lib.hid (HB.out.trans (hb1.mono (by simp)))
        have Hl1 := Lib.hid (Hl.out.below hb1)
        clear hb1
        go_wp2_with fail
        refine (Hfi.out _ Hl1.out).mono ?_
        rintro e w2 ⟨rfl, hb2⟩
        have Hb2 := Lib.hid (Hb1.out.trans (hb2.mono Hb1.out.size))
        clear hb2 hc0 hc1 hc2 hc3 hc4
        go_wp2_with fail
        go_ret3
        exact givesA H.out rfl (csts_nil _) Hb2.out
      · have H := Lib.hid (show addC l ⟨k, n, s, t, u⟩ = (l ++ [⟨k, n, s, t, u⟩], (m : Int), 0) by unfold addC; rw [if_neg (by simp [hrt]), if_neg hf, if_neg (by rw [← Hm.out]; exact hfull), Hm.out])
        generalize findC l ⟨k, n, s, t, u⟩ = p at *
        have Hfi := Lib.hid hfi
        have hfu : ¬ (256 : Int) ≤ (m : Int) := by omega
        have Hfit := Lib.hid (show ∀ x ∈ l ++ [(⟨k, n, s, t, u⟩ : Cst)], fitI x.kind ∧ fitI x.n by
          intro x hx
          rcases List.mem_append.1 hx with hx | hx
          · exact h.fit x hx
          · simp at hx; subst hx; exact ⟨hk, hn⟩)
        clear hrt h hfi
        go_enter Tryd.func20, Tryd.ntmps20
        go_wp2_with fail
        refine (poolRefRight_any k n s t u _ hs ht hu).mono ?_
        rw [Hrt.out]
        rintro e w1 ⟨rfl, hb1⟩
        obtain ⟨hc0, hc1, hc2, hc3, hc4⟩ := boxC.after Hbox.out hb1
        have Hb1 := Lib.hid (HB.out.trans (hb1.mono (by simp)))
        have Hl1 := Lib.hid (Hl.out.below hb1)
        clear hb1
        go_wp2_with fail
        refine (Hfi.out _ Hl1.out).mono ?_
        rintro e w2 ⟨rfl, hb2⟩
        obtain ⟨hd0, hd1, hd2, hd3, hd4⟩ := boxC.after (k := k) (n := n) (s := s) (t := t) (u := u) ⟨hc0, hc1, hc2, hc3, hc4⟩ hb2
        have Hbd := Lib.hid (boxC.after (k := k) (n := n) (s := s) (t := t) (u := u) ⟨hc0, hc1, hc2, hc3, hc4⟩ hb2)
        have Hb2 := Lib.hid (Hb1.out.trans (hb2.mono Hb1.out.size))
        have hsz2 := Hb2.out.size
        have Hl2 := Lib.hid (Hl1.out.below hb2)
        have hbx : w.heap.size < w2.heap.size := World.block_lt_of_cell? w2 ⟨w.heap.size, 0, none⟩ hd0
        clear hb2 hc0 hc1 hc2 hc3 hc4
        go_wp2_with (first
          | (at_builtin
             refine appC rfl (.tmp 22) (.tmp 23) rfl w2.heap.size (.slice none 0 0) [] rfl (OwnC.nil _ _) A m c l rfl Hl2.out.len Hl2.out.rds (by simp; omega) (Nat.le_refl _) ?_
             intro v3 w3 hown3 hg3
             have hK3 : Below w2.heap.size w2 w3 := below_own (Below.refl _ _) (OwnC.nil w2 w2.heap.size) (Nat.le_refl _) (Nat.le_refl _) hg3
             obtain ⟨he0, he1, he2, he3, he4⟩ := boxC.after (k := k) (n := n) (s := s) (t := t) (u := u) Hbd.out hK3
             have Hbe := Lib.hid (boxC.after (k := k) (n := n) (s := s) (t := t) (u := u) Hbd.out hK3)
             have Hown3 := Lib.hid hown3
             have Hb3 := Lib.hid (Hb2.out.trans (hK3.mono hsz2))
             have hsz3 := hK3.size
             clear hown3 hg3 hK3 hd0 hd1 hd2 hd3 hd4)
          | (at_builtin
             refine appC rfl (.tmp 25) (.tmp 27) rfl w2.heap.size v3 ([] ++ l) rfl (Hown3.out.kept ((Below.refl w3.heap.size w3).alloc (Nat.le_refl _) (.cells #[.int .i64 k, .int .i64 n, .string ⟨s.toArray⟩, .string ⟨t.toArray⟩, .string ⟨u.toArray⟩] 24))) _ _ _ [⟨k, n, s, t, u⟩] rfl rfl (row_cst _ k n s t u) (by simp; omega) (by simp; omega) ?_
             intro v4 w4 hown4 hg4
             have Hb4 := Lib.hid (below_own (Hb3.out.alloc (by omega) (.cells #[.int .i64 k, .int .i64 n, .string ⟨s.toArray⟩, .string ⟨t.toArray⟩, .string ⟨u.toArray⟩] 24)) (Hown3.out.kept ((Below.refl w3.heap.size w3).alloc (Nat.le_refl _) (.cells #[.int .i64 k, .int .i64 n, .string ⟨s.toArray⟩, .string ⟨t.toArray⟩, .string ⟨u.toArray⟩] 24))) hsz2 (by simp; omega) hg4)
             obtain ⟨A4, c4, rfl, hcs4⟩ := OwnC.csts hown4 Hfit.out
             have Hc4 := Lib.hid hcs4
             clear hown4 hcs4 hg4))
        go_ret3
        have h1 := H.out
        have h2 := Hc4.out
        have h3 := Hb4.out
        unfold GivesA
        rw [h1]
        have hq : (l ++ [(⟨k, n, s, t, u⟩ : Cst)]).length = m + 1 := by simp; omega
        refine ⟨A4, c4, ?_, h2, h3⟩
        rw [hq]
        rfl

end PoolG
end Go.Proofs.YtnkkeifjggcncaaDoor
