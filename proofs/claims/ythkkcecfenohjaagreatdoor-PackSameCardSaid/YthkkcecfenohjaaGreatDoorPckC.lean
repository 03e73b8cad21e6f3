/-
  Which instructions a move's code may have (pack.mayHave, the document's own Lean); whether such code can be (pack.rightCode).
-/
import Derived.Test.YthkkcecfenohjaaGreatDoorKlsQ
import Derived.Maps.OwnSet
namespace Go.Proofs.YthkkcecfenohjaaGreatDoor
namespace PckC
open Go.RowKit Base BinM DescM Stru PoolM InsM InsA InsC InsD Kls KlsP KlsQ

theorem law : Go.Maps.Keyed Tryz.prog 3 := Go.Maps.int_keyed Tryz.underlying3
theorem zeroU (w : World) : (zeroValue 216).run Tryz.prog w = .ok (.agg #[]) w := by kernel_rfl
def lean : List Int := [0, 1, 3, 4, 45, 8, 9, 10, 11, 12, 13, 14, 15, 16, 17, 18, 19, 20]
/-- a set of instructions in a block -/
def SetIn (w : World) (b n : Nat) (l : List Int) : Prop := ∃ D : DataW Unit, w.ownsMap Tryz.prog 3 unitElem b n D ∧ ∀ x : Int, Maps.has D (.int .i64 x) = decide (x ∈ l)
theorem SetIn.new (w : World) : SetIn (w.alloc (.map #[] 0)) w.heap.size 0 [] := ⟨_, World.ownsMap_made _ _ _ _, fun x => by simp [Maps.has]⟩
theorem wf_of {x : Int} (h : fitI x) : (Lit.int .i64 x).wf = true := by
  unfold fitI at h
  simp [Lit.wf, IntKind.min, IntKind.max, IntKind.bits, IntKind.signed]; omega
theorem SetIn.put {w : World} {b n : Nat} {l : List Int} (h : SetIn w b n l) (x : Int) (hx : fitI x) (hn : n < 1000) :
    ∃ w', (Instr.mapUpdate 214 (.map (some b)) (.int .i64 x) (.agg #[])).run Tryz.prog w = .ok () w' ∧ SetIn w' b (n + 1) (x :: l) ∧ w.grownBy w' (some b) := by
  obtain ⟨D, h1, h2⟩ := h
  obtain ⟨w', hrun, h3, hg⟩ := h1.update law Tryz.underlying214 (by unfold maxLen; omega) (Go.Maps.keyOf_int_mk Tryz.underlying3 (wf_of hx)) unitElem_mk
  refine ⟨w', hrun, ⟨_, h3, fun y => ?_⟩, hg⟩
  by_cases e : y = x
  · subst e
    rw [Maps.has_put_same h1.isMap (by trivial)]
    simp
  · rw [Maps.has_put_other (by simpa using e), h2]
    simp [e]
theorem SetIn.look {w : World} {b n : Nat} {l : List Int} (h : SetIn w b n l) (x : Int) (hx : fitI x) :
    (Instr.lookup 214 (.map (some b)) (.int .i64 x) true).run Tryz.prog w = .ok (.tuple #[.agg #[], .bool (decide (x ∈ l))]) w := by
  obtain ⟨D, h1, h2⟩ := h
  obtain ⟨v, ps, hrun, hv⟩ := h1.look_ok law Tryz.underlying214 (zeroU w) unitElem_mk (Go.Maps.keyOf_int_mk Tryz.underlying3 (wf_of hx))
  obtain ⟨rfl, _⟩ := unitElem_inv hv
  rw [hrun, h2]
theorem SetIn.lt {w : World} {b n : Nat} {l : List Int} (h : SetIn w b n l) : b < w.heap.size := by
  obtain ⟨D, h1, _⟩ := h
  exact h1.lt
theorem SetIn.below {w w' : World} {b n : Nat} {l : List Int} (h : SetIn w b n l) (hb : Below w.heap.size w w') : SetIn w' b n l := by
  have hlt := h.lt
  obtain ⟨D, ⟨es, clock, h1, F, hs, hD⟩, h2⟩ := h
  exact ⟨D, ⟨es, clock, (hb.block b hlt).trans h1, F, hs, hD⟩, h2⟩
theorem SetIn.mono {w : World} {b n : Nat} {l l' : List Int} (h : SetIn w b n l) (hl : ∀ x, x ∈ l ↔ x ∈ l') : SetIn w b n l' := by
  obtain ⟨D, h1, h2⟩ := h
  exact ⟨D, h1, fun x => by rw [h2, Bool.eq_iff_iff]; simp [hl]⟩
theorem grown_below {B b : Nat} {w0 w w' : World} (h : Below B w0 w) (hg : w.grownBy w' (some b)) (hb : B ≤ b) (hs : B ≤ w.heap.size) : Below B w0 w' :=
  ⟨hg.os.trans h.os, hg.tape.trans h.tape, hg.output.trans h.output, Nat.le_trans h.size hg.size, fun k hk => (hg.block k (by omega) (by intro e; injection e with e; omega)).trans (h.block k hk)⟩

set_option maxRecDepth 100000 in
set_option maxHeartbeats 4000000 in
theorem mayHave_any (w : World) : Calls Tryz.prog 180 #[] w fun e w' => ∃ b, e = .returned (.map (some b)) ∧ SetIn w' b 18 lean ∧ Below w.heap.size w w' := by
  have hmm := @run_makeMap Tryz.prog
  have h0 := SetIn.new w
  have b0 := (Below.refl w.heap.size w).alloc (Nat.le_refl _) (.map #[] 0)
  have s0 : w.heap.size ≤ (w.alloc (.map #[] 0)).heap.size := by simp

  obtain ⟨w1, r1, h1, g1⟩ := h0.put 0 (by unfold fitI; omega) (by omega)
  have b1 := grown_below b0 g1 (Nat.le_refl _) s0
  have s1 : w.heap.size ≤ w1.heap.size := Nat.le_trans s0 g1.size
  clear h0 g1 b0 s0
  obtain ⟨w2, r2, h2, g2⟩ := h1.put 1 (by unfold fitI; omega) (by omega)
  have b2 := grown_below b1 g2 (Nat.le_refl _) s1
  have s2 : w.heap.size ≤ w2.heap.size := Nat.le_trans s1 g2.size
  clear h1 g2 b1 s1
  obtain ⟨w3, r3, h3, g3⟩ := h2.put 3 (by unfold fitI; omega) (by omega)
  have b3 := grown_below b2 g3 (Nat.le_refl _) s2
  have s3 : w.heap.size ≤ w3.heap.size := Nat.le_trans s2 g3.size
  clear h2 g3 b2 s2
  obtain ⟨w4, r4, h4, g4⟩ := h3.put 4 (by unfold fitI; omega) (by omega)
  have b4 := grown_below b3 g4 (Nat.le_refl _) s3
  have s4 : w.heap.size ≤ w4.heap.size := Nat.le_trans s3 g4.size
  clear h3 g4 b3 s3
  obtain ⟨w5, r5, h5, g5⟩ := h4.put 45 (by unfold fitI; omega) (by omega)
  have b5 := grown_below b4 g5 (Nat.le_refl _) s4
  have s5 : w.heap.size ≤ w5.heap.size := Nat.le_trans s4 g5.size
  clear h4 g5 b4 s4
  obtain ⟨w6, r6, h6, g6⟩ := h5.put 8 (by unfold fitI; omega) (by omega)
  have b6 := grown_below b5 g6 (Nat.le_refl _) s5
  have s6 : w.heap.size ≤ w6.heap.size := Nat.le_trans s5 g6.size
  clear h5 g6 b5 s5
  obtain ⟨w7, r7, h7, g7⟩ := h6.put 9 (by unfold fitI; omega) (by omega)
  have b7 := grown_below b6 g7 (Nat.le_refl _) s6
  have s7 : w.heap.size ≤ w7.heap.size := Nat.le_trans s6 g7.size
  clear h6 g7 b6 s6
  obtain ⟨w8, r8, h8, g8⟩ := h7.put 10 (by unfold fitI; omega) (by omega)
  have b8 := grown_below b7 g8 (Nat.le_refl _) s7
  have s8 : w.heap.size ≤ w8.heap.size := Nat.le_trans s7 g8.size
  clear h7 g8 b7 s7
  obtain ⟨w9, r9, h9, g9⟩ := h8.put 11 (by unfold fitI; omega) (by omega)
  have b9 := grown_below b8 g9 (Nat.le_refl _) s8
  have s9 : w.heap.size ≤ w9.heap.size := Nat.le_trans s8 g9.size
  clear h8 g9 b8 s8
  obtain ⟨w10, r10, h10, g10⟩ := h9.put 12 (by unfold fitI; omega) (by omega)
  have b10 := grown_below b9 g10 (Nat.le_refl _) s9
  have s10 : w.heap.size ≤ w10.heap.size := Nat.le_trans s9 g10.size
  clear h9 g10 b9 s9
  obtain ⟨w11, r11, h11, g11⟩ := h10.put 13 (by unfold fitI; omega) (by omega)
  have b11 := grown_below b10 g11 (Nat.le_refl _) s10
  have s11 : w.heap.size ≤ w11.heap.size := Nat.le_trans s10 g11.size
  clear h10 g11 b10 s10
  obtain ⟨w12, r12, h12, g12⟩ := h11.put 14 (by unfold fitI; omega) (by omega)
  have b12 := grown_below b11 g12 (Nat.le_refl _) s11
  have s12 : w.heap.size ≤ w12.heap.size := Nat.le_trans s11 g12.size
  clear h11 g12 b11 s11
  obtain ⟨w13, r13, h13, g13⟩ := h12.put 15 (by unfold fitI; omega) (by omega)
  have b13 := grown_below b12 g13 (Nat.le_refl _) s12
  have s13 : w.heap.size ≤ w13.heap.size := Nat.le_trans s12 g13.size
  clear h12 g13 b12 s12
  obtain ⟨w14, r14, h14, g14⟩ := h13.put 16 (by unfold fitI; omega) (by omega)
  have b14 := grown_below b13 g14 (Nat.le_refl _) s13
  have s14 : w.heap.size ≤ w14.heap.size := Nat.le_trans s13 g14.size
  clear h13 g14 b13 s13
  obtain ⟨w15, r15, h15, g15⟩ := h14.put 17 (by unfold fitI; omega) (by omega)
  have b15 := grown_below b14 g15 (Nat.le_refl _) s14
  have s15 : w.heap.size ≤ w15.heap.size := Nat.le_trans s14 g15.size
  clear h14 g15 b14 s14
  obtain ⟨w16, r16, h16, g16⟩ := h15.put 18 (by unfold fitI; omega) (by omega)
  have b16 := grown_below b15 g16 (Nat.le_refl _) s15
  have s16 : w.heap.size ≤ w16.heap.size := Nat.le_trans s15 g16.size
  clear h15 g16 b15 s15
  obtain ⟨w17, r17, h17, g17⟩ := h16.put 19 (by unfold fitI; omega) (by omega)
  have b17 := grown_below b16 g17 (Nat.le_refl _) s16
  have s17 : w.heap.size ≤ w17.heap.size := Nat.le_trans s16 g17.size
  clear h16 g17 b16 s16
  obtain ⟨w18, r18, h18, g18⟩ := h17.put 20 (by unfold fitI; omega) (by omega)
  have b18 := grown_below b17 g18 (Nat.le_refl _) s17
  have s18 : w.heap.size ≤ w18.heap.size := Nat.le_trans s17 g18.size
  clear h17 g18 b17 s17
  have H := Lib.hid (h18.mono (l' := lean) (by intro x; simp only [lean, List.mem_cons, List.not_mem_nil, or_false]; omega))
  have B := Lib.hid b18
  clear h18 b18 s18
  go_enter Tryz.func180, Tryz.ntmps180
  go_wp2_with fail
  go_ret
  exact ⟨w.heap.size, rfl, H.out, B.out⟩

set_option maxRecDepth 100000 in
set_option maxHeartbeats 4000000 in
theorem lean_any (op : Int) (w : World) : Calls Tryz.prog 116 #[.int .i64 op] w fun e w' => e = .returned (.bool (decide (op ∈ lean))) ∧ w = w' := by
  by_cases hop : op ∈ lean
  · have Hd := Lib.hid (decide_eq_true hop)
    simp only [lean, List.mem_cons, List.not_mem_nil, or_false] at hop
    rcases hop with rfl | rfl | rfl | rfl | rfl | rfl | rfl | rfl | rfl | rfl | rfl | rfl | rfl | rfl | rfl | rfl | rfl | rfl
    all_goals
      go_enter Tryz.func116, Tryz.ntmps116
      go_wp2_with fail
      go_ret
      exact ⟨by rw [Hd.out]; rfl, rfl⟩
  · have Hd := Lib.hid (decide_eq_false hop)
    simp only [lean, List.mem_cons, List.not_mem_nil, or_false, not_or] at hop
    obtain ⟨q0, q1, q2, q3, q4, q5, q6, q7, q8, q9, q10, q11, q12, q13, q14, q15, q16, q17⟩ := hop
    have e0 : (op == 0) = false := by simpa using q0
    have e1 : (op == 1) = false := by simpa using q1
    have e2 : (op == 3) = false := by simpa using q2
    have e3 : (op == 4) = false := by simpa using q3
    have e4 : (op == 45) = false := by simpa using q4
    have e5 : (op == 8) = false := by simpa using q5
    have e6 : (op == 9) = false := by simpa using q6
    have e7 : (op == 10) = false := by simpa using q7
    have e8 : (op == 11) = false := by simpa using q8
    have e9 : (op == 12) = false := by simpa using q9
    have e10 : (op == 13) = false := by simpa using q10
    have e11 : (op == 14) = false := by simpa using q11
    have e12 : (op == 15) = false := by simpa using q12
    have e13 : (op == 16) = false := by simpa using q13
    have e14 : (op == 17) = false := by simpa using q14
    have e15 : (op == 18) = false := by simpa using q15
    have e16 : (op == 19) = false := by simpa using q16
    have e17 : (op == 20) = false := by simpa using q17
    clear q0 q1 q2 q3 q4 q5 q6 q7 q8 q9 q10 q11 q12 q13 q14 q15 q16 q17
    go_enter Tryz.func116, Tryz.ntmps116
    go_wp2_with fail
    go_ret
    exact ⟨by rw [Hd.out]; rfl, rfl⟩

/-- why a move's code can not be -/
def notLean (x : InsT) : Bool := !decide (x.1 ∈ lean)
def leanE (cd : List InsT) (ks : List Cst) : Int := if (checkI cd ks 0).2 ≠ 0 then (checkI cd ks 0).2 else if 0 ≤ findP notLean cd then 12 else 0

set_option maxRecDepth 100000 in
set_option maxHeartbeats 4000000 in
theorem code_any (cA : Option Addr) (cm cc : Nat) (cd : List InsT) (kA : Option Addr) (km kc : Nat) (ks : List Cst) (w : World) (hL : Laid w) (hc : IsCode w cA cm cc cd) (hk : IsCsts w kA km kc ks) :
    Calls Tryz.prog 175 #[.slice cA cm cc, .slice kA km kc] w fun e w' => e = .returned (.int .i64 (leanE cd ks)) ∧ Below w.heap.size w w' := by
  have hchk := check_any cA cm cc cd kA km kc ks 0 w hL hc hk
  have hcl : cd.length ≤ cm := Nat.le_of_eq hc.len.symm
  have hcl2 : cm ≤ cd.length := Nat.le_of_eq hc.len
  have hcx : cm ≤ maxLen := Nat.le_trans hc.le hc.max
  unfold maxLen at hcx
  have H := Lib.hid hc
  clear hL hc hk
  have HE := Lib.hid (show leanE cd ks = if (checkI cd ks 0).2 ≠ 0 then (checkI cd ks 0).2 else if 0 ≤ findP notLean cd then 12 else 0 from rfl)
  generalize checkI cd ks 0 = K at *
  obtain ⟨K0, K1⟩ := K
  simp only [twoN] at hchk HE
  have Hchk := Lib.hid hchk
  clear hchk
  by_cases hK : K1 = 0
  · subst hK
    have HE1 := Lib.hid (show leanE cd ks = if 0 ≤ findP notLean cd then 12 else 0 by rw [HE.out, if_neg (by simp)])
    go_enter Tryz.func175, Tryz.ntmps175
    go_wp2_with fail
    refine Calls.mono Hchk.out ?_
    rintro e w1 ⟨rfl, hb1⟩
    have B1 := Lib.hid hb1
    clear hb1
    go_wp2_with fail
    refine Calls.mono (mayHave_any _) ?_
    rintro e w2 ⟨b, rfl, hs2, hb2⟩
    have B2 := Lib.hid (B1.out.trans (hb2.mono B1.out.size))
    have S2 := Lib.hid hs2
    clear hs2 hb2
    go_wp2_with fail
    go_loopw [9, 10, 11, 24] (fun _ _ _ i wr => ∃ j : Nat, j ≤ cm ∧ i = .int .i64 j ∧ (∀ x ∈ cd.take j, notLean x = false) ∧ Below w2.heap.size w2 wr) (fun _ _ _ i _ => cm - (intOf i).toNat)
    case atStart => exact ⟨0, Nat.zero_le _, rfl, by simp, Below.refl _ _⟩
    case round =>
      obtain ⟨j, hj, rfl, hno, hbel⟩ := hrel
      have Hno := Lib.hid hno
      have Hbel := Lib.hid hbel
      have B3 := Lib.hid (B2.out.trans (hbel.mono B2.out.size))
      clear hno hbel
      by_cases hlt : j < cm
      · have hja : j < cd.length := by omega
        obtain ⟨b1, o1, rfl, hb1, hc0, hc1⟩ := code_at (H.out.below B3.out).rds hja
        have hj1 : (j : Int) < (cm : Int) := by omega
        have hj0 : (0 : Int) ≤ (j : Int) := by omega
        have Hat := Lib.hid (fun he => findP_at (p := notLean) hja Hno.out he)
        have Hnext := Lib.hid (fun he => none_next (p := notLean) hja Hno.out he)
        have Hfx := Lib.hid (H.out.fit _ (List.getElem_mem hja)).1
        generalize cd[j] = x at *
        obtain ⟨x0, x1⟩ := x
        simp only at hc0 hc1
        have HA := Lib.hid ((Below.refl wr.heap.size wr).alloc (Nat.le_refl _) (.cells #[.int .i64 x0, .int .i64 x1] 95))
        have hlk := ((S2.out.below Hbel.out).below HA.out).look x0 Hfx.out
        have BA := Lib.hid (B3.out.trans (HA.out.mono B3.out.size))
        have WA := Lib.hid (Hbel.out.trans (HA.out.mono Hbel.out.size))
        cases hD : decide (x0 ∈ lean)
        · have Hq := Lib.hid (show leanE cd ks = 12 by rw [HE1.out, if_pos (by rw [Hat.out (by unfold notLean; rw [hD]; rfl)]; omega)])
          rw [hD] at hlk
          clear hD
          go_wp2_with fail
          go_ret
          exact ⟨ret_i Hq.out.symm, BA.out.alloc BA.out.size _⟩
        · have Hq := Lib.hid (Hnext.out (by unfold notLean; rw [hD]; rfl))
          rw [hD] at hlk
          clear hD
          go_wp2_with fail
          go_roundw
          case rel => exact ⟨j + 1, by omega, by go_num, Hq.out, WA.out.alloc WA.out.size _⟩
          case measure => simp [intOf]; omega
      · have Hq := Lib.hid (show leanE cd ks = 0 by
          have h := Hno.out
          rw [List.take_of_length_le (by omega)] at h
          rw [HE1.out, findP_none h, if_neg (by omega)])
        go_wp2_with fail
        go_ret
        exact ⟨ret_i Hq.out.symm, B3.out⟩
  · have HE1 := Lib.hid (show leanE cd ks = K1 by rw [HE.out, if_pos hK])
    have hK2 : (K1 != 0) = true := by simp [hK]
    clear hK
    go_enter Tryz.func175, Tryz.ntmps175
    go_wp2_with fail
    refine Calls.mono Hchk.out ?_
    rintro e w1 ⟨rfl, hb1⟩
    have B1 := Lib.hid hb1
    clear hb1
    go_wp2_with fail
    go_ret
    exact ⟨ret_i HE1.out.symm, B1.out⟩

end PckC
end Go.Proofs.YthkkcecfenohjaaGreatDoor
