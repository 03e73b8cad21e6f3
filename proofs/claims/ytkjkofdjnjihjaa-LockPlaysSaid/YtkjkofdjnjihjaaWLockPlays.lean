/-
  LockPlays: whatever is entered, left, put and freed, both lists hold the same.
-/
import Derived.Test.YtkjkofdjnjihjaaLkDo
namespace Go.Proofs.Ytkjkofdjnjihjaa
namespace WLockPlays
open Go.RowKit Go.Shelf Base BinM LkM LkA LkB LkE LkP LkS LkG LkT LkY LkDo

section
variable {w0 w : World} {b b2 : Nat} {hs hs2 : List Ho} {bxs : List Box}
theorem owner1 (h : Both w0 w b hs b2 hs2 bxs) (hl : hs.length ≤ 10000) (a : Int) :
    Calls Try.prog 10 #[.pointer (some ⟨b, 0, none⟩), .int .i64 a] w fun e w' => e = .returned (.tuple #[.int .i64 (ownerT hs a).1, .int .i64 (ownerT hs a).2.1, .bool (ownerT hs a).2.2]) ∧ Both w0 w' b hs b2 hs2 bxs := by
  obtain ⟨A, c, A2, c2, H⟩ := h
  exact (LkB.owner_any H.l hl a).mono fun e w' k => ⟨k.1, K2.later ⟨A, c, A2, c2, H⟩ k.2⟩
theorem owner2 (h : Both w0 w b hs b2 hs2 bxs) (hl : hs2.length ≤ 10000) (a : Int) :
    Calls Try.prog 11 #[.pointer (some ⟨b2, 0, none⟩), .int .i64 a] w fun e w' => e = .returned (.tuple #[.int .i64 (ownerT hs2 a).1, .int .i64 (ownerT hs2 a).2.1, .bool (ownerT hs2 a).2.2]) ∧ Both w0 w' b hs b2 hs2 bxs := by
  have hk := h
  obtain ⟨A, c, A2, c2, H⟩ := h.swap
  refine (LkR.owner_any H.l (by omega) a).mono fun e w' k => ⟨k.1, ?_⟩
  obtain ⟨q, rfl⟩ := k.2
  exact hk.later (bel_drewN (Below.refl _ _) q)
theorem held1 (h : Both w0 w b hs b2 hs2 bxs) (hl : hs.length ≤ 10000) :
    Calls Try.prog 13 #[.pointer (some ⟨b, 0, none⟩)] w fun e w' => ∃ v, e = .returned v ∧ OwnI w' w.heap.size v (hs.map Ho.a) ∧ Below w.heap.size w w' ∧ Both w0 w' b hs b2 hs2 bxs :=
  (held_k2 h hl).mono fun _ _ ⟨v, h1, h2, h3⟩ => ⟨v, h1, h2, h3, h.later h3⟩
theorem held2 (h : Both w0 w b hs b2 hs2 bxs) (hl : hs2.length ≤ 10000) :
    Calls Try.prog 14 #[.pointer (some ⟨b2, 0, none⟩)] w fun e w' => ∃ v, e = .returned v ∧ OwnI w' w.heap.size v (hs2.map Ho.a) ∧ Below w.heap.size w w' ∧ Both w0 w' b hs b2 hs2 bxs := by
  have hk := h
  obtain ⟨A, c, A2, c2, H⟩ := h.swap
  exact (LkS.held_any H.l hl).mono fun _ _ ⟨v, h1, h2, h3⟩ => ⟨v, h1, h2, h3, hk.later h3⟩
theorem of1 (h : Both w0 w b hs b2 hs2 bxs) (hl : hs.length ≤ 10000) (x : Int) :
    Calls Try.prog 15 #[.pointer (some ⟨b, 0, none⟩), .int .i64 x] w fun e w' => e = .returned (.int .i64 (LkE.ofT hs x : Int)) ∧ Both w0 w' b hs b2 hs2 bxs := by
  obtain ⟨A, c, A2, c2, H⟩ := h
  exact (LkE.of_any H.l (by omega) x).mono fun e w' k => ⟨k.1, K2.later ⟨A, c, A2, c2, H⟩ k.2⟩
theorem of2 (h : Both w0 w b hs b2 hs2 bxs) (hl : hs2.length ≤ 10000) (x : Int) :
    Calls Try.prog 16 #[.pointer (some ⟨b2, 0, none⟩), .int .i64 x] w fun e w' => e = .returned (.int .i64 (LkE.ofT hs2 x : Int)) ∧ Both w0 w' b hs b2 hs2 bxs := by
  have hk := h
  obtain ⟨A, c, A2, c2, H⟩ := h.swap
  exact (LkR.of_any H.l (by omega) x).mono fun e w' k => ⟨k.1, by rw [k.2]; exact hk⟩
end
theorem two_new2 (w : World) (t e t2 e2 : TypeId) (hne : t ≠ e) (hne2 : t2 ≠ e2) : K2 t e t2 e2 w ((w.alloc (.cells #[.slice none 0 0] t)).alloc (.cells #[.slice none 0 0] t2)) w.heap.size [] (w.heap.size + 1) [] [] := by
  refine ⟨none, 0, none, 0, ⟨(Bx.new w #[.slice none 0 0] t).alloc _, World.ownsRow_nil _ _ _ _, hne⟩, ⟨?_, World.ownsRow_nil _ _ _ _, hne2⟩, ?_, ?_, ?_, ((Below.refl _ w).alloc (Nat.le_refl _) _).alloc (by simp) _, fun x hx => by cases hx⟩
  · have := Bx.new (w.alloc (.cells #[.slice none 0 0] t)) #[.slice none 0 0] t2
    rwa [World.size_alloc] at this
  · rintro k (rfl | ⟨a, h, _⟩) (h2 | ⟨a, h2, _⟩)
    · omega
    · cases h2
    · cases h
    · cases h
  · rintro k (rfl | ⟨a, h, _⟩)
    · exact Nat.le_refl _
    · cases h
  · rintro k (rfl | ⟨a, h, _⟩)
    · omega
    · cases h

set_option maxRecDepth 100000 in
set_option maxHeartbeats 16000000 in
theorem walk (a0 : Option Addr) (m0 c0 : Nat) (l0 : List OpenL.ActT) (w : World) (wm0 : m0 = l0.length) (_ : m0 ≤ c0) (wx0 : c0 ≤ maxLen) (wr0 : Rds w a0 (l0.flatMap OpenL.actV)) (wo0 : ∀ x ∈ l0, OpenL.actOk w x) :
    Calls Try.prog 3 #[.slice a0 m0 c0] w fun e w' => e = .returned (.bool true) ∧ Below w.heap.size w w' := by
  subst wm0
  have hml : l0.length ≤ 9223372036854775807 := by unfold maxLen at wx0; omega
  have HK := Lib.hid (fun v (hv : Below w.heap.size w v) => (LkK.known_any v).mono fun e w' (h : e = .returned (.bool true) ∧ Below v.heap.size v w') => (⟨h.1, hv.trans (h.2.mono hv.size)⟩ : e = .returned (.bool true) ∧ Below w.heap.size w w'))
  have HR := Lib.hid wr0
  have HOk := Lib.hid wo0
  have HN := Lib.hid (two_new2 w 48 53 28 56 (by decide) (by decide))
  clear wr0 wx0 wo0
  go_enter Try.func3, Try.ntmps3
  go_wp2_with fail
  refine (new_any w).mono ?_
  rintro e v1 ⟨rfl, _, rfl⟩
  go_wp2_with fail
  generalize ((w.alloc (.cells #[.slice none 0 0] 48)).alloc (.cells #[.slice none 0 0] 28)) = v2 at *
  go_loopw [5] (fun i wr => ∃ j : Nat, j ≤ l0.length ∧ j ≤ 80 ∧ i = .int .i64 j ∧ ∃ hs, Both w wr w.heap.size hs (w.heap.size + 1) hs [] ∧ Few j hs ∧ Once hs) (fun i _ => l0.length - (intOf i).toNat)
  case atStart => exact ⟨0, Nat.zero_le _, by omega, rfl, [], HN.out, ⟨by simp, by simp⟩, by simp [Once]⟩
  case round =>
    obtain ⟨j, hj, hj80, rfl, hs, hk, hfew, honce⟩ := hrel
    have HKS := Lib.hid hk
    have HF := Lib.hid hfew
    have HO := Lib.hid honce
    have HLow := Lib.hid hk.low
    clear hk hfew honce
    by_cases hgo : j < l0.length ∧ j < 80
    · obtain ⟨hlt, h80⟩ := hgo
      obtain ⟨ab, ao, rfl, hab, q0, q1, q2, q3⟩ := OpenL.act_at (HR.out.below HLow.out) hlt
      have hj1 : (j : Int) < (l0.length : Int) := by omega
      have hj2 : (j : Int) < 80 := by omega
      have HNow : Hid (Rds w l0[j].A (l0[j].now.map (Value.int .i64))) := Lib.hid (HOk.out l0[j] (List.getElem_mem hlt)).2.2.2.2.2.1
      generalize l0[j] = x at *
      have HDo := Lib.hid (fun (hx : x.now.length ≤ 60) => do_any (N := j) (by omega) HF.out HO.out (HKS.out.alloc #[.int .i64 x.kind, .int .i64 x.at_, .int .i64 x.who, .slice x.A x.now.length x.c] 31) x hx HNow.out)
      obtain ⟨xk, xa, xw, xA, xc, xn⟩ := x
      simp only at q0 q1 q2 q3 HDo
      have hal : Below wr.heap.size wr (wr.alloc (.cells #[.int .i64 xk, .int .i64 xa, .int .i64 xw, .slice xA xn.length xc] 31)) := (Below.refl _ wr).alloc (Nat.le_refl _) _
      have HAl : Hid (Below w.heap.size w (wr.alloc (.cells #[.int .i64 xk, .int .i64 xa, .int .i64 xw, .slice xA xn.length xc] 31))) := Lib.hid (HLow.out.trans (hal.mono HLow.out.size))
      clear hal
      by_cases h60 : 60 < xn.length
      · have h601 : (60 : Int) < (xn.length : Int) := by omega
        go_wp2_with (go_at_call 8; refine (HK.out _ HAl.out).mono ?_; rintro e v7 ⟨rfl, hb7⟩)
        go_ret
        exact ⟨rfl, hb7⟩
      · have h601 : ¬ (60 : Int) < (xn.length : Int) := by omega
        have HDo2 := Lib.hid (HDo.out (by omega))
        clear HDo
        go_wp2_with fail
        refine HDo2.out.mono ?_
        rintro e v3 ⟨rfl, ks, hk3, hf3, ho3⟩
        have hl3 := hf3.1
        have HF3 := Lib.hid hf3
        have HO3 := Lib.hid ho3
        have hx3 : Bx v3 wr.heap.size #[.int .i64 xk, .int .i64 xa, .int .i64 xw, .slice xA xn.length xc] 31 := hk3.bx List.mem_cons_self
        have p1 := hx3.cell 1
        have HOw := Lib.hid (owner1 hk3 (by omega) xa)
        have HOw2 := Lib.hid (fun (v : World) (h : Both w v w.heap.size ks (w.heap.size + 1) ks [(wr.heap.size, #[.int .i64 xk, .int .i64 xa, .int .i64 xw, .slice xA xn.length xc], 31)]) => owner2 h (by omega) xa)
        clear hf3 ho3 hk3 hx3
        generalize ownerT ks xa = ow at *
        obtain ⟨o1, o2, o3⟩ := ow
        go_wp2_with fail
        refine HOw.out.mono ?_
        rintro e v4 ⟨rfl, hk4⟩
        have hx4 : Bx v4 wr.heap.size #[.int .i64 xk, .int .i64 xa, .int .i64 xw, .slice xA xn.length xc] 31 := hk4.bx List.mem_cons_self
        have p4 := hx4.cell 1
        have HC4 := Lib.hid (HOw2.out v4 hk4)
        clear hk4 hx4 HOw HOw2
        go_wp2_with fail
        refine HC4.out.mono ?_
        rintro e v5 ⟨rfl, hk5⟩
        have hx5 : Bx v5 wr.heap.size #[.int .i64 xk, .int .i64 xa, .int .i64 xw, .slice xA xn.length xc] 31 := hk5.bx List.mem_cons_self
        have k2 := hx5.cell 2
        have hk5d := hk5.later ((Below.refl _ v5).drew)
        have HH1 := Lib.hid (held1 hk5d (by omega))
        have HH2 := Lib.hid (fun (v : World) (h : Both w v w.heap.size ks (w.heap.size + 1) ks [(wr.heap.size, #[.int .i64 xk, .int .i64 xa, .int .i64 xw, .slice xA xn.length xc], 31)]) => held2 h (by omega))
        have HO1 := Lib.hid (fun (v : World) (h : Both w v w.heap.size ks (w.heap.size + 1) ks [(wr.heap.size, #[.int .i64 xk, .int .i64 xa, .int .i64 xw, .slice xA xn.length xc], 31)]) => of1 h (by omega) xw)
        have HO2 := Lib.hid (fun (v : World) (h : Both w v w.heap.size ks (w.heap.size + 1) ks [(wr.heap.size, #[.int .i64 xk, .int .i64 xa, .int .i64 xw, .slice xA xn.length xc], 31)]) => of2 h (by omega) xw)
        have hL : (ks.map Ho.a).length ≤ 80 := by rw [List.length_map]; omega
        have HFin : Hid (∀ v, Both w v w.heap.size ks (w.heap.size + 1) ks [(wr.heap.size, #[.int .i64 xk, .int .i64 xa, .int .i64 xw, .slice xA xn.length xc], 31)] → ∃ hs, Both w v w.heap.size hs (w.heap.size + 1) hs [] ∧ Few (j + 1) hs ∧ Once hs) := Lib.hid (fun v h => ⟨ks, tail2 h, HF3.out, HO3.out⟩)
        have h12 : (o1 != o1) = false := by simp
        have h22 : (o2 != o2) = false := by simp
        have h32 : (o3 != o3) = false := by simp
        clear hk5 hk5d hx5 HC4
        generalize ks.map Ho.a = L at *
        generalize LkE.ofT ks xw = cnt at *
        have hcc : ((cnt : Int) != (cnt : Int)) = false := by simp
        go_wp2_with fail
        go_region_held3 (fun w' => w'.cell? ⟨wr.heap.size, 2, none⟩ = some (.int .i64 xw))
          (first | exact k2 | exact s1 | exact s2 | exact s3 | exact s4 | exact s5 | go_keep)
          (first
            | (have hG := K9
               clear hG
               go_at_call 16
               refine (HO2.out _ K9.out).mono ?_
               rintro e w5 ⟨rfl, hK⟩
               have hx : Bx w5 wr.heap.size #[.int .i64 xk, .int .i64 xa, .int .i64 xw, .slice xA xn.length xc] 31 := hK.bx List.mem_cons_self
               have s5 := hx.cell 2
               have K10 := Lib.hid hK
               clear hK hx)
            | (have hG := K8
               clear hG
               go_at_call 15
               refine (HO1.out _ K8.out).mono ?_
               rintro e w4 ⟨rfl, hK⟩
               have hx : Bx w4 wr.heap.size #[.int .i64 xk, .int .i64 xa, .int .i64 xw, .slice xA xn.length xc] 31 := hK.bx List.mem_cons_self
               have s4 := hx.cell 2
               have K9 := Lib.hid hK
               clear hK hx)
            | (have hG := HSm
               clear hG
               go_at_call 12
               refine HSm.out.mono ?_
               rintro e w3 ⟨rfl, hK⟩
               have hx : Bx w3 wr.heap.size #[.int .i64 xk, .int .i64 xa, .int .i64 xw, .slice xA xn.length xc] 31 := hK.bx List.mem_cons_self
               have s3 := hx.cell 2
               have K8 := Lib.hid hK
               clear hK hx)
            | (have hG := K6
               clear hG
               go_at_call 14
               refine (HH2.out _ K6.out).mono ?_
               rintro e w2 ⟨y, rfl, ho, hb, hK⟩
               have hx : Bx w2 wr.heap.size #[.int .i64 xk, .int .i64 xa, .int .i64 xw, .slice xA xn.length xc] 31 := hK.bx List.mem_cons_self
               have s2 := hx.cell 2
               have O6 := own_same (w' := w2) OX.out (fun k hk => hb.block k (OX.out.lt k hk).2)
               obtain ⟨A4, c4, rfl, _, _, _⟩ := own_slice O6
               obtain ⟨A5, c5, rfl, _, _, _⟩ := own_slice ho
               have HSm := Lib.hid ((same_any A4 A5 L.length L.length c4 c5 L L w2 rfl rfl (by omega) (by omega) (Rds.own O6) (Rds.own ho)).mono (R' := fun e w' => e = .returned (.bool true) ∧ Both w w' w.heap.size ks (w.heap.size + 1) ks [(wr.heap.size, #[.int .i64 xk, .int .i64 xa, .int .i64 xw, .slice xA xn.length xc], 31)]) (fun e w' h => ⟨h.1.trans (by rw [decide_eq_true (rfl : L = L)]), by obtain ⟨q, rfl⟩ := h.2; exact hK.later (bel_drewN (Below.refl _ _) q)⟩))
               clear hK hx O6 ho hb)
            | (go_at_call 13
               refine HH1.out.mono ?_
               rintro e w1 ⟨x, rfl, ho, hb, hK⟩
               have hx : Bx w1 wr.heap.size #[.int .i64 xk, .int .i64 xa, .int .i64 xw, .slice xA xn.length xc] 31 := hK.bx List.mem_cons_self
               have s1 := hx.cell 2
               have OX := Lib.hid ho
               have K6 := Lib.hid hK
               clear hK hx ho hb))
        all_goals
          go_wp2_with fail
          go_roundw
          case rel =>
            obtain ⟨hs', g1, g2, g3⟩ := HFin.out _ K10.out
            exact ⟨j + 1, by omega, by omega, by go_num, hs', g1, g2, g3⟩
          case measure => simp [intOf]; omega
    · by_cases hlt2 : j < l0.length
      · have hj1 : (j : Int) < (l0.length : Int) := by omega
        have hj2 : ¬ (j : Int) < 80 := by omega
        go_wp2_with (go_at_call 8; refine (HK.out _ HLow.out).mono ?_; rintro e v7 ⟨rfl, hb7⟩)
        go_ret
        exact ⟨rfl, hb7⟩
      · have hj1 : ¬ (j : Int) < (l0.length : Int) := by omega
        go_wp2_with (go_at_call 8; refine (HK.out _ HLow.out).mono ?_; rintro e v7 ⟨rfl, hb7⟩)
        go_ret
        exact ⟨rfl, hb7⟩
end WLockPlays
end Go.Proofs.Ytkjkofdjnjihjaa
