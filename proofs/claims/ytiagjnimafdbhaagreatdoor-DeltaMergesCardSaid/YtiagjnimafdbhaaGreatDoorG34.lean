/-
  pool.Names: what it returns, for every constant.
  The document's own Names: what it returns, for every constant.
-/
import Derived.Test.YtiagjnimafdbhaaGreatDoorG33
import Derived.Test.YtiagjnimafdbhaaGreatDoorG8
namespace Go.Proofs.YtiagjnimafdbhaaGreatDoor
namespace PoolR
open Go.RowKit Base BinM DescM DescW DescX DescR DescP DescQ DescG Stru PoolM PoolA PoolB PoolC PoolN PoolO PoolP PoolQ

/-- a call hands back names in new memory -/
def GivesN (w : World) (l : List (List UInt8)) (e : Ending) (w' : World) : Prop :=
  ∃ A c, e = .returned (.slice A l.length c) ∧ l.length ≤ c ∧ (c ≤ maxLen ∧ ∀ a, A = some a → w.heap.size ≤ a.block) ∧ Rds w' A (l.map str) ∧ Below w.heap.size w w'

theorem GivesN.of {w w' : World} {l : List (List UInt8)} {v : Value} (h : OwnS w' w.heap.size v l) (hb : Below w.heap.size w w') : GivesN w l (.returned v) w' := by
  obtain ⟨A, c, rfl, h1, h2, h3, _⟩ := own_slice h
  exact ⟨A, c, rfl, h1, ⟨h2, fun a ha => (h3 a ha).1⟩, Rds.own h, hb⟩

theorem row_one (w : World) (s : List UInt8) : OwnS (w.alloc (.cells #[.string ⟨s.toArray⟩] 9)) w.heap.size (.slice (some ⟨w.heap.size, 0, none⟩) 1 1) [s] :=
  ⟨rfl, .inr ⟨w.heap.size, 1, _, rfl, Nat.le_refl _, heap_alloc_new w _, Nat.le_refl _, by simp [maxLen], rfl, rfl⟩⟩
theorem cell_second (w : World) (o : Obj) (x : Value) (t : TypeId) : ((w.alloc o).alloc (.cells #[x] t)).cell? ⟨w.heap.size + 1, 0, none⟩ = some x := by
  simp
theorem cell_first (w : World) (o : Obj) (x : Value) (t : TypeId) : ((w.alloc (.cells #[x] t)).alloc o).cell? ⟨w.heap.size, 0, none⟩ = some x := by
  rw [World.cell?_alloc_lt _ _ _ (by simp), cell_of_row _ _ 0 #[x] t (0, 0) (heap_alloc_new w _)]; rfl
theorem cell_new (w : World) (x : Value) (t : TypeId) : (w.alloc (.cells #[x] t)).cell? ⟨w.heap.size, 0, none⟩ = some x := by
  rw [cell_of_row _ _ 0 #[x] t (0, 0) (heap_alloc_new w _)]; rfl
theorem cell_second_d (w : World) (o : Obj) (l : List UInt8) : ((w.alloc o).alloc (.cells #[.string ⟨l.toArray⟩] 9)).drew.cell? ⟨w.heap.size + 1, 0, none⟩ = some (str l) := cell_second w o _ _
theorem cell_first_d (w : World) (o : Obj) (l : List UInt8) : ((w.alloc (.cells #[.string ⟨l.toArray⟩] 9)).alloc o).drew.cell? ⟨w.heap.size, 0, none⟩ = some (str l) := cell_first w o _ _
theorem cell_new_d (w : World) (l : List UInt8) : (w.alloc (.cells #[.string ⟨l.toArray⟩] 9)).drew.cell? ⟨w.heap.size, 0, none⟩ = some (str l) := cell_new w _ _
theorem ownS_grown {w w' : World} {base : Nat} {v : Value} {p : List (List UInt8)} {row : Option Nat} (h : OwnS w base v p) (hg : w.grownBy w' row) (hne : ∀ q, v.ownBlock = some q → some q ≠ row) : OwnS w' base v p := by
  obtain ⟨h1, h2⟩ := h
  refine ⟨h1, ?_⟩
  rcases h2 with h2 | ⟨g, cap, cur, rfl, b, c, d⟩
  · exact .inl h2
  · have hlt : g < w.heap.size := by
      rcases Nat.lt_or_ge g w.heap.size with hl | hl
      · exact hl
      · rw [Array.getElem?_eq_none hl] at c; cases c
    exact .inr ⟨g, cap, cur, rfl, b, by rw [hg.block g hlt (hne g rfl)]; exact c, d⟩
/-- a row that is not empty: where it lies, and its cells -/
theorem own_cells {w : World} {base : Nat} {v : Value} {p : List (List UInt8)} (h : OwnS w base v p) (hp : p ≠ []) :
    ∃ g c, v = .slice (some ⟨g, 0, none⟩) p.length c ∧ base ≤ g ∧ g < w.heap.size ∧ p.length ≤ c ∧ c ≤ maxLen ∧ ∀ k (hk : k < p.length), w.cell? ⟨g, k, none⟩ = some (.string ⟨p[k].toArray⟩) := by
  obtain ⟨A, c, rfl, h1, h2, hr, hA⟩ := h.slice
  have hl : 0 < p.length := List.length_pos_iff.2 hp
  have h3 := h.2
  rcases h3 with ⟨_, e⟩ | ⟨g, cap, cur, hv, hb, hh, _, _, _, _⟩
  · omega
  · injection hv with hv1 _ hv3
    subst hv1; subst hv3
    have hg := (hA _ rfl)
    refine ⟨g, c, rfl, hg.1, hg.2, h1, h2, fun k hk => ?_⟩
    rcases hr with hr | ⟨b, o, e, _, hc⟩
    · have : p.length = 0 := by simpa using congrArg List.length hr
      omega
    · injection e with e
      injection e with e1 e2
      subst e1
      have := hc k (str p[k]) (by simp [hk])
      rw [← e2, Nat.zero_add] at this
      exact this

theorem row_o1 (w : World) (s : List UInt8) (o : Obj) : OwnS ((w.alloc (.cells #[.string ⟨s.toArray⟩] 9)).alloc o).drew w.heap.size (.slice (some ⟨w.heap.size, 0, none⟩) 1 1) [s] :=
  ownS_kept (row_one w s) (((Below.refl _ (w.alloc (.cells #[.string ⟨s.toArray⟩] 9))).alloc (Nat.le_refl _) o).drew)
theorem row_o2 (w : World) (s : List UInt8) (o : Obj) : OwnS ((w.alloc o).alloc (.cells #[.string ⟨s.toArray⟩] 9)).drew w.heap.size (.slice (some ⟨w.heap.size + 1, 0, none⟩) 1 1) [s] := by
  have h := row_one (w.alloc o) s
  rw [World.size_alloc] at h
  exact own_mono (ownS_kept h ((Below.refl _ _).drew)) (by omega)
/-- what stands behind an append to a row that lies below -/
theorem after_app {w w1 w2 W w4 : World} {v v4 : Value} {ts : List (List UInt8)} {g : List UInt8} {x : Value} (hown2 : OwnS w2 w1.heap.size v ts) (hb2 : Below w.heap.size w w2) (hK : Below w2.heap.size w2 W) (hw : w.heap.size < w1.heap.size)
    (hown4 : OwnS w4 w1.heap.size v4 (ts ++ [g])) (hg4 : W.grownBy w4 v.ownBlock) (hloc : v4.ownBlock = v.ownBlock ∨ v4.ownBlock = some W.heap.size) (hc : W.cell? ⟨w.heap.size, 2, none⟩ = some x) :
    ∃ g4 m4 c4, v4 = .slice (some ⟨g4, 0, none⟩) m4 c4 ∧ m4 = (ts ++ [g]).length ∧ g4 < w4.heap.size ∧ (∀ k (hk : k < (ts ++ [g]).length), w4.cell? ⟨g4, k, none⟩ = some (.string ⟨(ts ++ [g])[k].toArray⟩))
      ∧ Below w.heap.size w w4 ∧ W.heap.size ≤ w4.heap.size ∧ w4.cell? ⟨w.heap.size, 2, none⟩ = some x ∧ (g4 < w2.heap.size ∨ g4 = W.heap.size)
      ∧ (∀ r s, w2.heap.size ≤ r → OwnS W w2.heap.size (.slice (some ⟨r, 0, none⟩) 1 1) [s] → OwnS w4 w2.heap.size (.slice (some ⟨r, 0, none⟩) 1 1) [s]) := by
  have hlt := fun q (hq : v.ownBlock = some q) => hown2.lt q hq
  obtain ⟨g4, c4, rfl, h1, h2, h3, h4, h5⟩ := own_cells hown4 (by simp)
  have hsz := hK.size
  refine ⟨g4, _, c4, rfl, rfl, h2, h5, ?_, hg4.size, ?_, ?_, ?_⟩
  · exact below_own (hb2.trans (hK.mono hb2.size)) (ownS_kept hown2 hK) (by omega) (Nat.le_trans hb2.size hsz) hg4
  · exact hg4.cell hc (fun e => by have := (hlt w.heap.size e.symm).1; omega)
  · rcases hloc with e | e
    · exact .inl (hlt g4 (by rw [← e]; rfl)).2
    · right; simpa [Value.ownBlock] using e
  · intro r s hr ho
    refine ownS_grown ho hg4 (fun q hq e => ?_)
    have e1 : q = r := by simpa [Value.ownBlock] using hq.symm
    have := (hlt q e.symm).2
    omega

theorem step_appS {ops : Array Oper} {o : Oper} {a : Act} {w : World} {K : Act → World → Prop} {Q : Exit → Act → World → Prop} {E : Prop} (hgd : o.guard = none) (s x : Operand)
    (ho : o.op = .call { callee := .builtin .append, args := #[s, x], argTypes := #[49, 49] })
    (base : Nat) (v : Value) (p : List (List UInt8)) (hs : a.eval s = v) (g c : Nat) (l : List UInt8) (hx : a.eval x = .slice (some ⟨g, 0, none⟩) 1 c) (hown : OwnS w base v p)
    (hc : w.cell? ⟨g, 0, none⟩ = some (str l)) (hlen : p.length ≤ 1048576) (hbase : base ≤ w.heap.size)
    (h : ∀ v' w', OwnS w' base v' (p ++ [l]) → w.grownBy w' v.ownBlock → (v'.ownBlock = v.ownBlock ∨ v'.ownBlock = some w.heap.size) → K (a.put o.dst v') w') :
    if Region.wanted o (yielded ops a.tmps) = true then Oper.wp Tryz.prog o a w K Q else E := by
  have hw : Region.wanted o (yielded ops a.tmps) = true := by simp [Region.wanted, hgd]
  rw [if_pos hw]
  obtain ⟨i0, hi, hz, hs1, hb1⟩ := info_parts infoS
  obtain ⟨v', w', hrun, h2, h3, _, h5⟩ := run_append_own_at (P := Tryz.prog) w base 49 o.type 9 i0 _ 1 16 Tryz.underlying49 hi hz hs1 hb1 rfl (by omega) v p.length (p.map str) hown ⟨g, 0, none⟩ 1 c [str l] rfl
    (by intro j u hu
        match j, hu with
        | 0, hu => simp at hu; subst hu; exact hc
        | j + 1, hu => simp at hu)
    (by intro u hu; simp at hu; subst hu; rfl) (by unfold maxLen; omega) (by omega) hbase
  unfold Oper.wp execOp
  simp only [ho, resolve, invoke, builtin, Sem.run_bind, Sem.run_pure, Result.andThen_ok, List.map_toArray, List.map_cons, List.map_nil, hs, hx, hrun]
  refine h v' w' ?_ h3 h5
  unfold OwnS
  rw [List.map_append, List.length_append]
  exact h2

set_option maxRecDepth 100000 in
set_option maxHeartbeats 4000000 in
theorem names_any (k n : Int) (s t u : List UInt8) (w : World) (hs : s.length ≤ 140737488355327) (ht : t.length ≤ 140737488355327) (hu : u.length ≤ 140737488355327) :
    Calls Tryz.prog 105 #[.agg #[.int .i64 k, .int .i64 n, .string ⟨s.toArray⟩, .string ⟨t.toArray⟩, .string ⟨u.toArray⟩]] w (GivesN w (namesC ⟨k, n, s, t, u⟩)) := by
  have hB0 := (Below.refl w.heap.size w).alloc (Nat.le_refl _) (.cells #[.int .i64 k, .int .i64 n, .string ⟨s.toArray⟩, .string ⟨t.toArray⟩, .string ⟨u.toArray⟩] 59)
  have HB0 := Lib.hid hB0
  have Hbox := Lib.hid (boxC.new w k n s t u 59)
  clear hB0
  cases hrt : rightC ⟨k, n, s, t, u⟩
  · have H := Lib.hid (show namesC ⟨k, n, s, t, u⟩ = [] by unfold namesC; rw [hrt]; rfl)
    have Hrt := Lib.hid hrt
    clear hrt
    go_enter Tryz.func105, Tryz.ntmps105
    go_wp2_with fail
    refine (poolRight_any k n s t u _ (by omega) (by omega) (by omega)).mono ?_
    rw [Hrt.out]
    rintro e w1 ⟨rfl, hb1⟩
    have Hb1 := Lib.hid (HB0.out.trans (hb1.mono (by simp)))
    clear hb1
    go_wp2_with fail
    go_ret
    exact GivesN.of (by rw [H.out]; exact OwnS.nil _ _) Hb1.out
  · obtain ⟨hs, ht, hu⟩ := PoolL.right_len hrt
    have hN : namesC ⟨k, n, s, t, u⟩ = if k = 3 then addOne [] s else if k = 4 then addOne [s] u else if k = 5 then addAll [s] ((splitT u).2.1 ++ [(splitT u).1]) else [] := by unfold namesC; rw [hrt]; rfl
    have HN := Lib.hid hN
    have Hrt := Lib.hid hrt
    clear hN hrt
    go_enter Tryz.func105, Tryz.ntmps105
    go_wp2_with fail
    refine (poolRight_any k n s t u _ (by omega) (by omega) (by omega)).mono ?_
    rw [Hrt.out]
    rintro e w1 ⟨rfl, hb1⟩
    obtain ⟨hc0, hc1, hc2, hc3, hc4⟩ := boxC.after Hbox.out hb1
    have hbx : w.heap.size < w1.heap.size := World.block_lt_of_cell? w1 ⟨w.heap.size, 0, none⟩ hc0
    have Hb1 := Lib.hid (HB0.out.trans (hb1.mono (by simp)))
    have hsz1 := Hb1.out.size
    clear hb1
    by_cases h3 : k = 3
    · subst h3
      have H := Lib.hid (show namesC ⟨3, n, s, t, u⟩ = addAll [] [s] by rw [HN.out, if_pos rfl]; rfl)
      have hr := Hrt.out
      rw [r3] at hr
      have hrs : rightB s = true := by simp only [Bool.and_eq_true] at hr; exact hr.2
      clear hr
      go_wp2_with fail
      refine (addClasses_any w1.heap.size (.slice none 0 0) [] w1.heap.size 1 1 [s] _ (OwnS.nil _ _) (by simp) (by simp) rfl (by omega) (by simp) ?_ (by simp [Value.ownBlock]) ?_).mono ?_
      · intro j hj
        have : j = 0 := by simpa using hj
        subst this
        rw [cell_of_row _ _ 0 _ 9 (0, 0) (heap_alloc_new w1 _)]; rfl
      · intro z hz
        simp at hz
        subst hz
        exact ⟨.inl hrs, by omega⟩
      rintro e w2 ⟨v2, rfl, hown2, hb2⟩
      have Hown2 := Lib.hid (own_mono hown2 hsz1)
      have Hb2 := Lib.hid ((Hb1.out.alloc hsz1 _).trans (hb2.mono hsz1))
      clear hown2 hb2
      go_wp2_with fail
      go_ret
      exact GivesN.of (by rw [H.out]; exact Hown2.out) Hb2.out
    · by_cases h4 : k = 4
      · subst h4
        have H := Lib.hid (show namesC ⟨4, n, s, t, u⟩ = addAll [s] [u] by rw [HN.out, if_neg h3, if_pos rfl]; rfl)
        have hr := Hrt.out
        rw [r4] at hr
        have hru : rightB u = true := by simp only [Bool.and_eq_true] at hr; exact hr.2
        have Hrow := Lib.hid (ownS_kept (row_one w1 s) ((Below.refl (w1.alloc (.cells #[.string ⟨s.toArray⟩] 9)).heap.size (w1.alloc (.cells #[.string ⟨s.toArray⟩] 9))).alloc (Nat.le_refl _) (.cells #[.string ⟨u.toArray⟩] 9)))
        clear hr h3
        go_wp2_with fail
        refine (addClasses_any w1.heap.size (.slice (some ⟨w1.heap.size, 0, none⟩) 1 1) [s] (w1.heap.size + 1) 1 1 [u] _ Hrow.out (by simp; omega) (by simp) rfl (by omega) (by simp) ?_ (by simp [Value.ownBlock]) ?_).mono ?_
        · intro j hj
          have : j = 0 := by simpa using hj
          subst this
          exact cell_second _ _ _ _
        · intro z hz
          simp at hz
          subst hz
          exact ⟨.inl hru, by omega⟩
        rintro e w2 ⟨v2, rfl, hown2, hb2⟩
        have Hown2 := Lib.hid (own_mono hown2 hsz1)
        have Hb2 := Lib.hid (((Hb1.out.alloc hsz1 _).alloc (by simp; omega) _).trans (hb2.mono hsz1))
        clear hown2 hb2
        go_wp2_with fail
        go_ret
        exact GivesN.of (by rw [H.out]; exact Hown2.out) Hb2.out
      · by_cases h5 : k = 5
        · subst h5
          have hr := Hrt.out
          rw [r5] at hr
          have hse : (splitT u).2.2 = 0 := by simp only [Bool.and_eq_true, beq_iff_eq] at hr; exact hr.2
          obtain ⟨hok1, hok2, hok3, hok4⟩ := split_ok hse
          have H := Lib.hid (show namesC ⟨5, n, s, t, u⟩ = addAll [s] ((splitT u).2.1 ++ [(splitT u).1]) by rw [HN.out, if_neg h3, if_neg h4, if_pos rfl])
          clear hr h3 h4
          have hsp := split_any u w1 (by omega)
          unfold GivesS at hsp
          generalize splitT u = sp at *
          obtain ⟨g, ts, er⟩ := sp
          simp only at hse hok1 hok2 hok3 hok4 hsp H
          subst hse
          have Hok1 := Lib.hid hok1
          have Hok3 := Lib.hid hok3
          have Hsp := Lib.hid hsp
          clear hok1 hok3 hsp
          go_wp2_with fail
          refine Calls.mono Hsp.out ?_
          rintro e w2 ⟨v2, rfl, hown2, hb2⟩
          obtain ⟨hd0, hd1, hd2, hd3, hd4⟩ := boxC.after (k := 5) (n := n) (s := s) (t := t) (u := u) ⟨hc0, hc1, hc2, hc3, hc4⟩ hb2
          have Hown2 := Lib.hid hown2
          have hsz2 := hb2.size
          have Hb2 := Lib.hid (Hb1.out.trans (hb2.mono hsz1))
          have hnb : some w.heap.size ≠ v2.ownBlock := fun e => by have := (hown2.lt _ e.symm).1; omega
          have Hlt2 := Lib.hid (fun q (hq : v2.ownBlock = some q) => (hown2.lt q hq))
          clear hown2 hb2 hc0 hc1 hc2 hc3 hc4
          unfold str
          have Hk1 := Lib.hid (fun o : Obj => ((Below.refl w2.heap.size w2).alloc (Nat.le_refl _) o).drew)
          have Hk2 := Lib.hid (fun o1 o2 : Obj => (((Below.refl w2.heap.size w2).alloc (Nat.le_refl _) o1).alloc (by simp) o2).drew)
          have Hokz : Hid (∀ z, z ∈ ts ++ [g] → okT z ∧ z.length ≤ u.length) := Lib.hid (by
            intro z hz
            rcases List.mem_append.1 hz with h | h
            · exact Hok1.out z h
            · simp at h; subst h; exact ⟨Hok3.out, hok4⟩)
          have Hb2d := Lib.hid Hb2.out.drew
          have hsz20 : w.heap.size ≤ w2.heap.size := by omega
          go_wp2_with fail
          have hv2 := Hown2.out.slice
          obtain ⟨A2, c2, hv2, hv2a, hv2b, hv2r, hv2s⟩ := hv2
          subst hv2
          have Hhv2a := Lib.hid hv2a
          clear hv2s hv2r
          go_region_held3 (fun w' => w'.cell? ⟨w.heap.size, 2, none⟩ = some (.string ⟨s.toArray⟩))
            (first | go_keep)
            (first
              | (go_at_call 150
                 refine (addClasses_any w2.heap.size _ [s] g4 m4 c4 (ts ++ [g]) _ Hrow.out (by first | omega | (simp; omega)) (by simp) Hm4.out (by omega) (by first | omega | (simp; omega)) ?_ (by simp [Value.ownBlock]; omega) ?_).mono ?_
                 · intro k hk; first | exact Hcs4.out k hk | exact (World.cell?_alloc_lt _ _ _ hgs4).trans (Hcs4.out k hk)
                 · intro z hz; have := Hokz.out z hz; exact ⟨this.1, by omega⟩
                 rintro e w5 ⟨v5, rfl, hown5, hb5⟩
                 have Hown5 := Lib.hid (own_mono hown5 hsz20)
                 have Hb5 := Lib.hid (Hb4.out.trans (hb5.mono hsz20))
                 have hd5 : w5.cell? ⟨w.heap.size, 2, none⟩ = some (.string ⟨s.toArray⟩) := (hb5.cell (p := ⟨w.heap.size, 2, none⟩) (by show w.heap.size < w2.heap.size; omega)).trans hd2'
                 clear hown5 hb5)
              | (go_at_call 150
                 refine (addClasses_any w2.heap.size _ [s] g4 m4 c4 (ts ++ [g]) _ (own_mono (row_one w4 s) (by omega)) (by first | omega | (simp; omega)) (by simp) Hm4.out (by omega) (by first | omega | (simp; omega)) ?_ (by simp [Value.ownBlock]; omega) ?_).mono ?_
                 · intro k hk; first | exact Hcs4.out k hk | exact (World.cell?_alloc_lt _ _ _ hgs4).trans (Hcs4.out k hk)
                 · intro z hz; have := Hokz.out z hz; exact ⟨this.1, by omega⟩
                 rintro e w5 ⟨v5, rfl, hown5, hb5⟩
                 have Hown5 := Lib.hid (own_mono hown5 hsz20)
                 have Hb5 := Lib.hid ((Hb4.out.alloc (by omega) _).trans (hb5.mono hsz20))
                 have hd5 : w5.cell? ⟨w.heap.size, 2, none⟩ = some (.string ⟨s.toArray⟩) := (hb5.cell (p := ⟨w.heap.size, 2, none⟩) (by show w.heap.size < w2.heap.size; omega)).trans ((World.cell?_alloc_lt _ _ _ (by show w.heap.size < _; omega)).trans hd2')
                 clear hown5 hb5)
              | (refine step_appS rfl (.tmp 38) (.tmp 40) rfl w1.heap.size (.slice A2 ts.length c2) ts rfl _ _ g rfl ?_ (by with_reducible exact cell_second_d _ _ _) (by omega) ?_ ?_
                 · exact ownS_kept Hown2.out (Hk2.out _ _)
                 · simp; omega
                 intro v4 w4 hown4 hg4 hloc4
                 obtain ⟨g4, m4, c4, rfl, hm4, hgs4, hcs4, hb4, hsz4, hd2', hor4, hrow4⟩ := after_app Hown2.out Hb2.out (Hk2.out _ _) hbx hown4 hg4 hloc4 (by assumption)
                 have Hrow := Lib.hid (hrow4 w2.heap.size s (Nat.le_refl _) (row_o1 w2 s _))
                 have hm4l : m4 ≤ 7 := by rw [hm4]; simp; omega
                 have Hcs4 := Lib.hid hcs4
                 have Hb4 := Lib.hid hb4
                 have Hm4 := Lib.hid hm4
                 simp at hsz4 hor4
                 clear hown4 hg4 hloc4 hcs4 hb4 hrow4 hm4)
              | (refine step_appS rfl (.tmp 38) (.tmp 40) rfl w1.heap.size (.slice A2 ts.length c2) ts rfl _ _ g rfl ?_ (by with_reducible exact cell_first_d _ _ _) (by omega) ?_ ?_
                 · exact ownS_kept Hown2.out (Hk2.out _ _)
                 · simp; omega
                 intro v4 w4 hown4 hg4 hloc4
                 obtain ⟨g4, m4, c4, rfl, hm4, hgs4, hcs4, hb4, hsz4, hd2', hor4, hrow4⟩ := after_app Hown2.out Hb2.out (Hk2.out _ _) hbx hown4 hg4 hloc4 (by assumption)
                 have Hrow := Lib.hid (hrow4 (w2.heap.size + 1) s (by omega) (row_o2 w2 s _))
                 have hm4l : m4 ≤ 7 := by rw [hm4]; simp; omega
                 have Hcs4 := Lib.hid hcs4
                 have Hb4 := Lib.hid hb4
                 have Hm4 := Lib.hid hm4
                 simp at hsz4 hor4
                 clear hown4 hg4 hloc4 hcs4 hb4 hrow4 hm4)
              | (refine step_appS rfl (.tmp 38) (.tmp 40) rfl w1.heap.size (.slice A2 ts.length c2) ts rfl _ _ g rfl ?_ (by with_reducible exact cell_new_d _ _) (by omega) ?_ ?_
                 · exact ownS_kept Hown2.out (Hk1.out _)
                 · simp; omega
                 intro v4 w4 hown4 hg4 hloc4
                 obtain ⟨g4, m4, c4, rfl, hm4, hgs4, hcs4, hb4, hsz4, hd2', hor4, hrow4⟩ := after_app Hown2.out Hb2.out (Hk1.out _) hbx hown4 hg4 hloc4 (by assumption)
                 have Hthree := Lib.hid hrow4
                 have hm4l : m4 ≤ 7 := by rw [hm4]; simp; omega
                 have Hcs4 := Lib.hid hcs4
                 have Hb4 := Lib.hid hb4
                 have Hm4 := Lib.hid hm4
                 simp at hsz4 hor4
                 clear hown4 hg4 hloc4 hcs4 hb4 hrow4 hm4))
          all_goals go_wp2_with fail
          all_goals go_ret
          all_goals exact GivesN.of (by rw [H.out]; exact Hown5.out) Hb5.out
        · have H := Lib.hid (show namesC ⟨k, n, s, t, u⟩ = [] by rw [HN.out, if_neg h3, if_neg h4, if_neg h5])
          have g3 : (k == 3) = false := by simpa using h3
          have g4 : (k == 4) = false := by simpa using h4
          have g5 : (k == 5) = false := by simpa using h5
          clear h3 h4 h5
          go_wp2_with fail
          go_ret
          exact GivesN.of (by rw [H.out]; exact OwnS.nil _ _) Hb1.out

end PoolR
end Go.Proofs.YtiagjnimafdbhaaGreatDoor

namespace Go.Proofs.YtiagjnimafdbhaaGreatDoor
namespace PoolX
open Go.RowKit Base BinM DescM DescW DescX DescR DescP DescQ DescG Stru PoolM PoolA PoolB PoolC PoolN PoolO PoolP PoolQ PoolR

end PoolX
end Go.Proofs.YtiagjnimafdbhaaGreatDoor
