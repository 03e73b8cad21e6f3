/-
  The law's do: the same call on both lists.
-/
import Derived.Test.YtkjkofdjnjihjaaLkY
namespace Go.Proofs.Ytkjkofdjnjihjaa
namespace LkDo
open Go.RowKit Go.Shelf Base BinM LkM LkA LkB LkE LkP LkS LkG LkT LkY

abbrev Both (w0 w : World) (b : Nat) (hs : List Ho) (b2 : Nat) (hs2 : List Ho) (bxs : List Box) : Prop := K2 48 53 28 56 w0 w b hs b2 hs2 bxs
section
variable {w0 w : World} {b b2 : Nat} {hs hs2 : List Ho} {bxs : List Box}
theorem enter2 (h : Both w0 w b hs b2 hs2 bxs) {N : Nat} (hN : N ≤ 10000) (hF : Few N hs2) (a who : Int) :
    Calls Try.prog 21 #[.pointer (some ⟨b2, 0, none⟩), .int .i64 a, .int .i64 who] w fun e w' => e = .returned (.int .i64 (enterT hs2 a who).1) ∧ Both w0 w' b hs b2 (enterT hs2 a who).2 bxs := by
  obtain ⟨A, c, A2, c2, H⟩ := h.swap
  exact (LkS.enter_any H.l hN hF a who).mono fun e w' h => ⟨h.1, (H.next h.2).swap⟩
theorem exit2 (h : Both w0 w b hs b2 hs2 bxs) {N : Nat} (hN : N ≤ 10000) (hF : Few N hs2) (hO : Once hs2) (a who : Int) :
    Calls Try.prog 22 #[.pointer (some ⟨b2, 0, none⟩), .int .i64 a, .int .i64 who] w fun e w' => e = .returned (.int .i64 (exitT hs2 a who).1) ∧ Both w0 w' b hs b2 (exitT hs2 a who).2 bxs := by
  obtain ⟨A, c, A2, c2, H⟩ := h.swap
  exact (LkS.exit_any H.l hN hF hO a who).mono fun e w' h => ⟨h.1, (H.next h.2).swap⟩
theorem free2 (h : Both w0 w b hs b2 hs2 bxs) (hl : hs2.length ≤ 10000) (who : Int) :
    Calls Try.prog 24 #[.pointer (some ⟨b2, 0, none⟩), .int .i64 who] w fun e w' => e = .returned (.int .i64 (LkE.ofT hs2 who : Int)) ∧ Both w0 w' b hs b2 (hs2.filter (fun h => !(h.w == who))) bxs := by
  obtain ⟨A, c, A2, c2, H⟩ := h.swap
  exact (LkS.free_any H.l hl who).mono fun e w' h => ⟨h.1, (H.next h.2).swap⟩
theorem put1 (h : Both w0 w b hs b2 hs2 bxs) (hl : hs.length ≤ 10000) (B : Option Addr) (now : List Int) (m cc : Nat) (hm : m = now.length) (hml : m ≤ 10000) (hr : Rds w0 B (now.map (Value.int .i64))) :
    Calls Try.prog 20 #[.pointer (some ⟨b, 0, none⟩), .slice B m cc] w fun e w' => e = .returned (.int .i64 (putT hs now).1) ∧ Both w0 w' b (putT hs now).2 b2 hs2 bxs := by
  obtain ⟨A, c, A2, c2, H⟩ := h
  refine (LkY.put_any H.l hl B now m cc hm hml (hr.below H.bel) (fun a ha h0 k hk e => ?_)).mono fun e w' h => ⟨h.1, H.next h.2⟩
  obtain ⟨bb, o, e1, hb, _⟩ := LkT.rds_getD hr h0
  rw [ha] at e1
  cases e1
  have := H.lo k hk
  simp only at e
  omega
theorem put2 (h : Both w0 w b hs b2 hs2 bxs) (hl : hs2.length ≤ 10000) (B : Option Addr) (now : List Int) (m cc : Nat) (hm : m = now.length) (hml : m ≤ 10000) (hr : Rds w0 B (now.map (Value.int .i64))) :
    Calls Try.prog 23 #[.pointer (some ⟨b2, 0, none⟩), .slice B m cc] w fun e w' => e = .returned (.int .i64 (putT hs2 now).1) ∧ Both w0 w' b hs b2 (putT hs2 now).2 bxs := by
  obtain ⟨A, c, A2, c2, H⟩ := h.swap
  exact (LkU.put_any H.l hl B now m cc hm hml (hr.below H.bel)).mono fun e w' h => ⟨h.1, (H.next h.2).swap⟩
end
theorem tail2 {w0 w : World} {b b2 : Nat} {hs hs2 : List Ho} {x : Box} {bxs : List Box} (h : Both w0 w b hs b2 hs2 (x :: bxs)) : Both w0 w b hs b2 hs2 bxs := by
  obtain ⟨A, c, A2, c2, H⟩ := h
  exact ⟨A, c, A2, c2, H.l, H.r, H.apart, H.lo, H.ro, H.bel, fun y hy => H.box y (List.mem_cons_of_mem _ hy)⟩
/-! each thing stands but once -/
theorem once_of {hs ks : List Ho} (h : Once hs) (hk : (ks.map Ho.a).Sublist (hs.map Ho.a)) : Once ks := List.Nodup.sublist hk h
theorem set_adr (hs : List Ho) (k : Nat) (hk : k < hs.length) (n : Int) : (hs.set k ⟨hs[k].a, hs[k].w, n⟩).map Ho.a = hs.map Ho.a := by
  rw [List.map_set]
  simp only
  rw [← List.getElem_map Ho.a (h := by simpa using hk)]
  exact List.set_getElem_self _
theorem once_enter {hs : List Ho} (h : Once hs) (a w : Int) : Once (enterT hs a w).2 := by
  unfold enterT
  split
  · exact h
  · rcases Nat.lt_or_ge (fnd hs a) hs.length with hlt | hge
    · rw [List.getElem?_eq_getElem hlt]
      simp only
      split
      · unfold Once
        simp only
        rw [set_adr]
        exact h
      · exact h
    · rw [List.getElem?_eq_none hge]
      simp only
      have hout : ∀ x ∈ hs, x.a ≠ a := fun x hx e => by
        obtain ⟨i, hi, rfl⟩ := List.getElem_of_mem hx
        exact fnd_ne hs a i (by omega) hi e
      unfold Once
      rw [List.map_append, List.nodup_append]
      refine ⟨h, by simp, fun x hx y hy e => ?_⟩
      obtain ⟨z, hz, rfl⟩ := List.mem_map.1 hx
      simp at hy
      exact hout z hz (by rw [e, hy])
theorem once_filter {hs : List Ho} (h : Once hs) (p : Ho → Bool) : Once (hs.filter p) := once_of h (List.Sublist.map _ List.filter_sublist)
theorem once_exit {hs : List Ho} (h : Once hs) (a w : Int) : Once (LkE.exitT hs a w).2 := by
  unfold LkE.exitT
  rcases Nat.lt_or_ge (fnd hs a) hs.length with hlt | hge
  · rw [List.getElem?_eq_getElem hlt]
    simp only
    have hs2 : Once (hs.set (fnd hs a) ⟨(hs[fnd hs a]'hlt).a, (hs[fnd hs a]'hlt).w, (hs[fnd hs a]'hlt).n - 1⟩) := by
      unfold Once
      rw [set_adr]
      exact h
    split
    · split
      · exact once_filter hs2 _
      · exact hs2
    · exact h
  · rw [List.getElem?_eq_none hge]
    exact h

set_option maxRecDepth 100000 in
set_option maxHeartbeats 8000000 in
theorem do_any {w0 w : World} {b b2 : Nat} {hs : List Ho} {bxs : List Box} {N : Nat} (hN : N ≤ 1000) (hF : Few N hs) (hO : Once hs) (hk : Both w0 w b hs b2 hs bxs) (x : OpenL.ActT) (hx : x.now.length ≤ 60) (hr : Rds w0 x.A (x.now.map (Value.int .i64))) :
    Calls Try.prog 9 #[.pointer (some ⟨b, 0, none⟩), .pointer (some ⟨b2, 0, none⟩), .agg #[.int .i64 x.kind, .int .i64 x.at_, .int .i64 x.who, .slice x.A x.now.length x.c]] w fun e w' => e = .returned (.bool true) ∧ ∃ ks, Both w0 w' b ks b2 ks bxs ∧ Few (N + 1) ks ∧ Once ks := by
  obtain ⟨xk, xa, xw, xA, xc, xn⟩ := x
  simp only at hx hr ⊢
  have hl := hF.1
  have hv := (hk.alloc #[.int .i64 xk, .int .i64 xa, .int .i64 xw, .slice xA xn.length xc] 31).later ((Below.refl _ (w.alloc (.cells #[.int .i64 xk, .int .i64 xa, .int .i64 xw, .slice xA xn.length xc] 31))).drew)
  have hvv := hk.alloc #[.int .i64 xk, .int .i64 xa, .int .i64 xw, .slice xA xn.length xc] 31
  have HV := Lib.hid hv
  have HVV := Lib.hid hvv
  have hbx : Bx (w.alloc (.cells #[.int .i64 xk, .int .i64 xa, .int .i64 xw, .slice xA xn.length xc] 31)) w.heap.size #[.int .i64 xk, .int .i64 xa, .int .i64 xw, .slice xA xn.length xc] 31 := Bx.new _ _ _
  have HX := Lib.hid hbx
  have HF2 := Lib.hid hF
  have HO2 := Lib.hid hO
  have HR := Lib.hid hr
  clear hv hvv hbx hk hF hO hr
  by_cases h0 : xk = 0
  · subst h0
    have HC := Lib.hid (enter_k2 HV.out (N := N) (by omega) HF2.out xa xw)
    have HC2 := Lib.hid (fun (v : World) (h : Both w0 v b (enterT hs xa xw).2 b2 hs ((w.heap.size, #[.int .i64 0, .int .i64 xa, .int .i64 xw, .slice xA xn.length xc], 31) :: bxs)) => enter2 h (N := N) (by omega) HF2.out xa xw)
    have HFw := Lib.hid (show Few (N + 1) (enterT hs xa xw).2 from few_enter HF2.out xa xw)
    have HOn := Lib.hid (show Once (enterT hs xa xw).2 from once_enter HO2.out xa xw)
    clear HV HVV
    generalize enterT hs xa xw = R at *
    obtain ⟨R1, R2⟩ := R
    go_enter Try.func9, Try.ntmps9
    go_wp2_with fail
    have k1 := HX.out.cell 1
    have k2 := HX.out.cell 2
    go_region_held3 (fun w' => w'.cell? ⟨w.heap.size, 1, none⟩ = some (.int .i64 xa) ∧ w'.cell? ⟨w.heap.size, 2, none⟩ = some (.int .i64 xw))
      (first | exact ⟨k1, k2⟩ | exact ⟨q1, q2⟩ | exact ⟨p1, p2⟩ | go_keep)
      (first
        | (have hG := HR1
           clear hG
           go_at_call 21
           refine HR1.out.mono ?_
           rintro e w2 ⟨rfl, hS⟩
           have hx2 : Bx w2 w.heap.size #[.int .i64 0, .int .i64 xa, .int .i64 xw, .slice xA xn.length xc] 31 := hS.bx List.mem_cons_self
           have p1 := hx2.cell 1
           have p2 := hx2.cell 2
           have HS2 := Lib.hid hS
           clear hS hx2)
        | (go_at_call 17
           refine HC.out.mono ?_
           rintro e w1 ⟨rfl, hS⟩
           have HR1 := Lib.hid (HC2.out w1 hS)
           have hx1 : Bx w1 w.heap.size #[.int .i64 0, .int .i64 xa, .int .i64 xw, .slice xA xn.length xc] 31 := hS.bx List.mem_cons_self
           have q1 := hx1.cell 1
           have q2 := hx1.cell 2
           clear hS hx1))
    all_goals
      go_wp2_with fail
      go_ret
      exact ⟨rfl, R2, tail2 HS2.out, HFw.out, HOn.out⟩
  · have h0' : (xk == 0) = false := by simpa using h0
    by_cases h1 : xk = 1
    · subst h1
      have HC := Lib.hid (enter_k2 HV.out (N := N) (by omega) HF2.out xa xw)
      have HC2 := Lib.hid (fun (v : World) (h : Both w0 v b (enterT hs xa xw).2 b2 hs ((w.heap.size, #[.int .i64 1, .int .i64 xa, .int .i64 xw, .slice xA xn.length xc], 31) :: bxs)) => enter2 h (N := N) (by omega) HF2.out xa xw)
      have HFw := Lib.hid (show Few (N + 1) (enterT hs xa xw).2 from few_enter HF2.out xa xw)
      have HOn := Lib.hid (show Once (enterT hs xa xw).2 from once_enter HO2.out xa xw)
      clear HV HVV
      generalize enterT hs xa xw = R at *
      obtain ⟨R1, R2⟩ := R
      go_enter Try.func9, Try.ntmps9
      go_wp2_with fail
      have k1 := HX.out.cell 1
      have k2 := HX.out.cell 2
      go_region_held3 (fun w' => w'.cell? ⟨w.heap.size, 1, none⟩ = some (.int .i64 xa) ∧ w'.cell? ⟨w.heap.size, 2, none⟩ = some (.int .i64 xw))
        (first | exact ⟨k1, k2⟩ | exact ⟨q1, q2⟩ | exact ⟨p1, p2⟩ | go_keep)
        (first
          | (have hG := HR1
             clear hG
             go_at_call 21
             refine HR1.out.mono ?_
             rintro e w2 ⟨rfl, hS⟩
             have hx2 : Bx w2 w.heap.size #[.int .i64 1, .int .i64 xa, .int .i64 xw, .slice xA xn.length xc] 31 := hS.bx List.mem_cons_self
             have p1 := hx2.cell 1
             have p2 := hx2.cell 2
             have HS2 := Lib.hid hS
             clear hS hx2)
          | (go_at_call 17
             refine HC.out.mono ?_
             rintro e w1 ⟨rfl, hS⟩
             have HR1 := Lib.hid (HC2.out w1 hS)
             have hx1 : Bx w1 w.heap.size #[.int .i64 1, .int .i64 xa, .int .i64 xw, .slice xA xn.length xc] 31 := hS.bx List.mem_cons_self
             have q1 := hx1.cell 1
             have q2 := hx1.cell 2
             clear hS hx1))
      all_goals
        go_wp2_with fail
        go_ret
        exact ⟨rfl, R2, tail2 HS2.out, HFw.out, HOn.out⟩
    · have h1' : (xk == 1) = false := by simpa using h1
      by_cases h2 : xk = 2
      · subst h2
        have HC := Lib.hid (enter_k2 HV.out (N := N) (by omega) HF2.out xa xw)
        have HC2 := Lib.hid (fun (v : World) (h : Both w0 v b (enterT hs xa xw).2 b2 hs ((w.heap.size, #[.int .i64 2, .int .i64 xa, .int .i64 xw, .slice xA xn.length xc], 31) :: bxs)) => enter2 h (N := N) (by omega) HF2.out xa xw)
        have HFw := Lib.hid (show Few (N + 1) (enterT hs xa xw).2 from few_enter HF2.out xa xw)
        have HOn := Lib.hid (show Once (enterT hs xa xw).2 from once_enter HO2.out xa xw)
        clear HV HVV
        generalize enterT hs xa xw = R at *
        obtain ⟨R1, R2⟩ := R
        go_enter Try.func9, Try.ntmps9
        go_wp2_with fail
        have k1 := HX.out.cell 1
        have k2 := HX.out.cell 2
        go_region_held3 (fun w' => w'.cell? ⟨w.heap.size, 1, none⟩ = some (.int .i64 xa) ∧ w'.cell? ⟨w.heap.size, 2, none⟩ = some (.int .i64 xw))
          (first | exact ⟨k1, k2⟩ | exact ⟨q1, q2⟩ | exact ⟨p1, p2⟩ | go_keep)
          (first
            | (have hG := HR1
               clear hG
               go_at_call 21
               refine HR1.out.mono ?_
               rintro e w2 ⟨rfl, hS⟩
               have hx2 : Bx w2 w.heap.size #[.int .i64 2, .int .i64 xa, .int .i64 xw, .slice xA xn.length xc] 31 := hS.bx List.mem_cons_self
               have p1 := hx2.cell 1
               have p2 := hx2.cell 2
               have HS2 := Lib.hid hS
               clear hS hx2)
            | (go_at_call 17
               refine HC.out.mono ?_
               rintro e w1 ⟨rfl, hS⟩
               have HR1 := Lib.hid (HC2.out w1 hS)
               have hx1 : Bx w1 w.heap.size #[.int .i64 2, .int .i64 xa, .int .i64 xw, .slice xA xn.length xc] 31 := hS.bx List.mem_cons_self
               have q1 := hx1.cell 1
               have q2 := hx1.cell 2
               clear hS hx1))
        all_goals
          go_wp2_with fail
          go_ret
          exact ⟨rfl, R2, tail2 HS2.out, HFw.out, HOn.out⟩
      · have h2' : (xk == 2) = false := by simpa using h2
        by_cases h3 : xk = 3
        · subst h3
          have HC := Lib.hid (exit_k2 HV.out (N := N) (by omega) HF2.out xa xw)
          have HC2 := Lib.hid (fun (v : World) (h : Both w0 v b (LkE.exitT hs xa xw).2 b2 hs ((w.heap.size, #[.int .i64 3, .int .i64 xa, .int .i64 xw, .slice xA xn.length xc], 31) :: bxs)) => exit2 h (N := N) (by omega) HF2.out HO2.out xa xw)
          have HFw := Lib.hid (show Few (N + 1) (LkE.exitT hs xa xw).2 from few_more (few_exit HF2.out xa xw) (by omega))
          have HOn := Lib.hid (show Once (LkE.exitT hs xa xw).2 from once_exit HO2.out xa xw)
          clear HV HVV
          generalize LkE.exitT hs xa xw = R at *
          obtain ⟨R1, R2⟩ := R
          go_enter Try.func9, Try.ntmps9
          go_wp2_with fail
          have k1 := HX.out.cell 1
          have k2 := HX.out.cell 2
          go_region_held3 (fun w' => w'.cell? ⟨w.heap.size, 1, none⟩ = some (.int .i64 xa) ∧ w'.cell? ⟨w.heap.size, 2, none⟩ = some (.int .i64 xw))
            (first | exact ⟨k1, k2⟩ | exact ⟨q1, q2⟩ | exact ⟨p1, p2⟩ | go_keep)
            (first
              | (have hG := HR1
                 clear hG
                 go_at_call 22
                 refine HR1.out.mono ?_
                 rintro e w2 ⟨rfl, hS⟩
                 have hx2 : Bx w2 w.heap.size #[.int .i64 3, .int .i64 xa, .int .i64 xw, .slice xA xn.length xc] 31 := hS.bx List.mem_cons_self
                 have p1 := hx2.cell 1
                 have p2 := hx2.cell 2
                 have HS2 := Lib.hid hS
                 clear hS hx2)
              | (go_at_call 18
                 refine HC.out.mono ?_
                 rintro e w1 ⟨rfl, hS⟩
                 have HR1 := Lib.hid (HC2.out w1 hS)
                 have hx1 : Bx w1 w.heap.size #[.int .i64 3, .int .i64 xa, .int .i64 xw, .slice xA xn.length xc] 31 := hS.bx List.mem_cons_self
                 have q1 := hx1.cell 1
                 have q2 := hx1.cell 2
                 clear hS hx1))
          all_goals
            go_wp2_with fail
            go_ret
            exact ⟨rfl, R2, tail2 HS2.out, HFw.out, HOn.out⟩
        · have h3' : (xk == 3) = false := by simpa using h3
          by_cases h4 : xk = 4
          · subst h4
            have HC := Lib.hid (exit_k2 HV.out (N := N) (by omega) HF2.out xa xw)
            have HC2 := Lib.hid (fun (v : World) (h : Both w0 v b (LkE.exitT hs xa xw).2 b2 hs ((w.heap.size, #[.int .i64 4, .int .i64 xa, .int .i64 xw, .slice xA xn.length xc], 31) :: bxs)) => exit2 h (N := N) (by omega) HF2.out HO2.out xa xw)
            have HFw := Lib.hid (show Few (N + 1) (LkE.exitT hs xa xw).2 from few_more (few_exit HF2.out xa xw) (by omega))
            have HOn := Lib.hid (show Once (LkE.exitT hs xa xw).2 from once_exit HO2.out xa xw)
            clear HV HVV
            generalize LkE.exitT hs xa xw = R at *
            obtain ⟨R1, R2⟩ := R
            go_enter Try.func9, Try.ntmps9
            go_wp2_with fail
            have k1 := HX.out.cell 1
            have k2 := HX.out.cell 2
            go_region_held3 (fun w' => w'.cell? ⟨w.heap.size, 1, none⟩ = some (.int .i64 xa) ∧ w'.cell? ⟨w.heap.size, 2, none⟩ = some (.int .i64 xw))
              (first | exact ⟨k1, k2⟩ | exact ⟨q1, q2⟩ | exact ⟨p1, p2⟩ | go_keep)
              (first
                | (have hG := HR1
                   clear hG
                   go_at_call 22
                   refine HR1.out.mono ?_
                   rintro e w2 ⟨rfl, hS⟩
                   have hx2 : Bx w2 w.heap.size #[.int .i64 4, .int .i64 xa, .int .i64 xw, .slice xA xn.length xc] 31 := hS.bx List.mem_cons_self
                   have p1 := hx2.cell 1
                   have p2 := hx2.cell 2
                   have HS2 := Lib.hid hS
                   clear hS hx2)
                | (go_at_call 18
                   refine HC.out.mono ?_
                   rintro e w1 ⟨rfl, hS⟩
                   have HR1 := Lib.hid (HC2.out w1 hS)
                   have hx1 : Bx w1 w.heap.size #[.int .i64 4, .int .i64 xa, .int .i64 xw, .slice xA xn.length xc] 31 := hS.bx List.mem_cons_self
                   have q1 := hx1.cell 1
                   have q2 := hx1.cell 2
                   clear hS hx1))
            all_goals
              go_wp2_with fail
              go_ret
              exact ⟨rfl, R2, tail2 HS2.out, HFw.out, HOn.out⟩
          · have h4' : (xk == 4) = false := by simpa using h4
            by_cases h5 : xk = 5
            · subst h5
              have HC := Lib.hid (put1 HV.out (by omega) xA xn xn.length xc rfl (by omega) HR.out)
              have HC2 := Lib.hid (fun (v : World) (h : Both w0 v b (putT hs xn).2 b2 hs ((w.heap.size, #[.int .i64 5, .int .i64 xa, .int .i64 xw, .slice xA xn.length xc], 31) :: bxs)) => put2 h (by omega) xA xn xn.length xc rfl (by omega) HR.out)
              have HFw := Lib.hid (show Few (N + 1) (putT hs xn).2 from few_more (put_few HF2.out xn) (by omega))
              have HOn := Lib.hid (show Once (putT hs xn).2 from put_once HO2.out)
              clear HV HVV
              generalize putT hs xn = R at *
              obtain ⟨R1, R2⟩ := R
              go_enter Try.func9, Try.ntmps9
              go_wp2_with fail
              have k3 := HX.out.cell 3
              go_region_held3 (fun w' => w'.cell? ⟨w.heap.size, 3, none⟩ = some (.slice xA xn.length xc))
                (first | exact k3 | exact q3 | exact p3 | go_keep)
                (first
                  | (have hG := HR1
                     clear hG
                     go_at_call 23
                     refine HR1.out.mono ?_
                     rintro e w2 ⟨rfl, hS⟩
                     have hx2 : Bx w2 w.heap.size #[.int .i64 5, .int .i64 xa, .int .i64 xw, .slice xA xn.length xc] 31 := hS.bx List.mem_cons_self
                     have p3 := hx2.cell 3
                     have HS2 := Lib.hid hS
                     clear hS hx2)
                  | (go_at_call 20
                     refine HC.out.mono ?_
                     rintro e w1 ⟨rfl, hS⟩
                     have HR1 := Lib.hid (HC2.out w1 hS)
                     have hx1 : Bx w1 w.heap.size #[.int .i64 5, .int .i64 xa, .int .i64 xw, .slice xA xn.length xc] 31 := hS.bx List.mem_cons_self
                     have q3 := hx1.cell 3
                     clear hS hx1))
              all_goals
                go_wp2_with fail
                go_ret
                exact ⟨rfl, R2, tail2 HS2.out, HFw.out, HOn.out⟩
            · have h5' : (xk == 5) = false := by simpa using h5
              by_cases h6 : xk = 6
              · subst h6
                have HC := Lib.hid ((show Calls Try.prog 19 #[.pointer (some ⟨b, 0, none⟩), .int .i64 xw] _ (fun e w' => e = .returned (.int .i64 ((LkE.ofT hs xw : Int), hs.filter (fun h => !(h.w == xw))).1) ∧ Both w0 w' b ((LkE.ofT hs xw : Int), hs.filter (fun h => !(h.w == xw))).2 b2 hs _) from free_k2 HV.out (by omega) xw))
                have HC2 := Lib.hid (fun (v : World) (h : Both w0 v b (((LkE.ofT hs xw : Int), hs.filter (fun h => !(h.w == xw)))).2 b2 hs ((w.heap.size, #[.int .i64 6, .int .i64 xa, .int .i64 xw, .slice xA xn.length xc], 31) :: bxs)) => (show Calls Try.prog 24 #[.pointer (some ⟨b2, 0, none⟩), .int .i64 xw] v (fun e w' => e = .returned (.int .i64 ((LkE.ofT hs xw : Int), hs.filter (fun h => !(h.w == xw))).1) ∧ Both w0 w' b ((LkE.ofT hs xw : Int), hs.filter (fun h => !(h.w == xw))).2 b2 ((LkE.ofT hs xw : Int), hs.filter (fun h => !(h.w == xw))).2 _) from free2 h (by omega) xw))
                have HFw := Lib.hid (show Few (N + 1) (((LkE.ofT hs xw : Int), hs.filter (fun h => !(h.w == xw)))).2 from few_more ⟨Nat.le_trans (List.length_filter_le _ _) HF2.out.1, fun x hx => HF2.out.2 x (List.mem_filter.1 hx).1⟩ (by omega))
                have HOn := Lib.hid (show Once (((LkE.ofT hs xw : Int), hs.filter (fun h => !(h.w == xw)))).2 from once_filter HO2.out _)
                clear HV HVV
                generalize ((LkE.ofT hs xw : Int), hs.filter (fun h => !(h.w == xw))) = R at *
                obtain ⟨R1, R2⟩ := R
                go_enter Try.func9, Try.ntmps9
                go_wp2_with fail
                have k2 := HX.out.cell 2
                go_region_held3 (fun w' => w'.cell? ⟨w.heap.size, 2, none⟩ = some (.int .i64 xw))
                  (first | exact k2 | exact q2 | exact p2 | go_keep)
                  (first
                    | (have hG := HR1
                       clear hG
                       go_at_call 24
                       refine HR1.out.mono ?_
                       rintro e w2 ⟨rfl, hS⟩
                       have hx2 : Bx w2 w.heap.size #[.int .i64 6, .int .i64 xa, .int .i64 xw, .slice xA xn.length xc] 31 := hS.bx List.mem_cons_self
                       have p2 := hx2.cell 2
                       have HS2 := Lib.hid hS
                       clear hS hx2)
                    | (go_at_call 19
                       refine HC.out.mono ?_
                       rintro e w1 ⟨rfl, hS⟩
                       have HR1 := Lib.hid (HC2.out w1 hS)
                       have hx1 : Bx w1 w.heap.size #[.int .i64 6, .int .i64 xa, .int .i64 xw, .slice xA xn.length xc] 31 := hS.bx List.mem_cons_self
                       have q2 := hx1.cell 2
                       clear hS hx1))
                all_goals
                  go_wp2_with fail
                  go_ret
                  exact ⟨rfl, R2, tail2 HS2.out, HFw.out, HOn.out⟩
              · have h6' : (xk == 6) = false := by simpa using h6
                have HFw := Lib.hid (few_more HF2.out (show N ≤ N + 1 by omega))
                go_enter Try.func9, Try.ntmps9
                go_wp2_with fail
                go_ret
                exact ⟨rfl, hs, tail2 HVV.out, HFw.out, HO2.out⟩
end LkDo
end Go.Proofs.Ytkjkofdjnjihjaa
