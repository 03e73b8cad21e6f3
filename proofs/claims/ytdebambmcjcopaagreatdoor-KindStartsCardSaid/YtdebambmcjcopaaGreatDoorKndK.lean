/-
  The places of things in a frame (kind.Refs); the known of law 9.
-/
import Derived.Test.YtdebambmcjcopaaGreatDoorKndS
import Derived.Test.YtdebambmcjcopaaGreatDoorInsX
namespace Go.Proofs.YtdebambmcjcopaaGreatDoor
namespace KndK
open Go.RowKit Base BinM Stru DescM DescW DescX DescS DescG DescP DescQ HierS HierT HierM HierC HierD HierN HierV HierR HierU HierY Kls KlsP KlsQ OpenK TabC TabM TabK TabP TabE TabB TabG TabH TabT TabU TabV TabX TabW TabF TabN TabO TabY TabR TabQ TabL TabZ InsU InsV InsX KndB KndM KndS

/-- the places of types of things, from a place on -/
def refsF (k : Nat) : List T → List Int
  | [] => []
  | d :: l => if refB d then (k : Int) :: refsF (k + 1) l else refsF (k + 1) l
def refsP (l : List T) : List Int := refsF 0 l
theorem refsF_len : ∀ (l : List T) (k : Nat), (refsF k l).length ≤ l.length
  | [], k => by simp [refsF]
  | d :: l, k => by
    have h := refsF_len l (k + 1)
    unfold refsF
    split <;> simp <;> omega
theorem refsF_app : ∀ (l : List T) (d : T) (k : Nat), refsF k (l ++ [d]) = refsF k l ++ (if refB d then [((k + l.length : Nat) : Int)] else [])
  | [], d, k => by cases h : refB d <;> simp [refsF, h]
  | x :: l, d, k => by
    have h := refsF_app l d (k + 1)
    have e : k + 1 + l.length = k + (x :: l).length := by simp; omega
    rw [e] at h
    rw [List.cons_append]
    unfold refsF
    rw [h]
    split <;> simp
theorem refs_take {l : List T} {j : Nat} (h : j < l.length) : refsP (l.take (j + 1)) = refsP (l.take j) ++ (if refB l[j] then [(j : Int)] else []) := by
  rw [List.take_succ_eq_append_getElem h]
  unfold refsP
  rw [refsF_app]
  have e : (0 + (l.take j).length : Nat) = j := by simp; omega
  rw [e]

set_option maxRecDepth 100000 in
set_option maxHeartbeats 1000000 in
theorem refs_any (A : Option Addr) (c : Nat) (l : List T) (w : World) (hm : l.length ≤ 1000) (hr : Rds w A (l.map sv)) (hl : ∀ x ∈ l, x.length ≤ 140737488355328) :
    Calls Tryz.prog 29 #[.slice A l.length c] w (GivesJ w (refsP l)) := by
  have R := Lib.hid hr
  have Hl := Lib.hid hl
  have Z := Lib.hid (Below.refl w.heap.size w)
  clear hr hl
  go_enter Tryz.func29, Tryz.ntmps29
  go_wp2_with fail
  go_loopw [3, 4, 5, 8] (fun v _ _ i wr => ∃ j : Nat, j ≤ l.length ∧ i = .int .i64 j ∧ OwnJ wr w.heap.size v (refsP (l.take j)) ∧ Below w.heap.size w wr) (fun _ _ _ i _ => l.length - (intOf i).toNat)
  case atStart => exact ⟨0, Nat.zero_le _, rfl, OwnJ.nil _ _, Z.out⟩
  case round =>
    obtain ⟨j, hj, rfl, hown, hbw⟩ := hrel
    have Hbw := Lib.hid hbw
    have HO := Lib.hid hown
    have hsz := hbw.size
    have hlen : (refsP (l.take j)).length ≤ 1000 := by
      have := refsF_len (l.take j) 0
      rw [List.length_take] at this
      unfold refsP
      omega
    by_cases hlt : j < l.length
    · obtain ⟨b, o, rfl, hb, hc⟩ := (R.out.below hbw).at_ (k := j) (by simp; omega)
      rw [List.getElem_map] at hc
      have hji : (j : Int) < (l.length : Int) := by omega
      have hj0 : (0 : Int) ≤ (j : Int) := by omega
      have HT := Lib.hid (refs_take hlt)
      have HR := Lib.hid (DescX.ref_any l[j] wr (Hl.out _ (List.getElem_mem hlt)))
      simp only [sv] at hc
      clear hown hbw
      generalize l[j] = d at *
      generalize refsP (l.take j) = p at *
      generalize refB d = rb at *
      cases rb
      · have Hn := Lib.hid (show refsP (l.take (j + 1)) = p by rw [HT.out]; simp)
        go_wp2_with fail
        refine HR.out.mono ?_
        rintro e w' ⟨rfl, rfl⟩
        go_wp2_with fail
        go_roundw
        case rel => exact ⟨j + 1, by omega, by go_num, by rw [Hn.out]; exact HO.out, Hbw.out⟩
        case measure => simp [intOf]; omega
      · have Hn := Lib.hid (show refsP (l.take (j + 1)) = p ++ [(j : Int)] by rw [HT.out]; simp)
        go_wp2_with fail
        refine HR.out.mono ?_
        rintro e w' ⟨rfl, rfl⟩
        go_wp2_with (at_builtin
                     refine appJ rfl (.tmp 15) (.tmp 17) rfl w.heap.size _ p rfl (ownJ_kept HO.out ((Below.refl _ _).alloc (Nat.le_refl _) _)) (some ⟨wr.heap.size, 0, none⟩) 1 1 [(j : Int)] rfl rfl (rds_new wr #[.int .i64 (j : Int)] 3) (by simp; omega) (by simp; omega) ?_
                     intro v2 w2 hown2 hg2
                     have Hb3 := Lib.hid (ownJ_below (ownJ_kept HO.out ((Below.refl _ _).alloc (Nat.le_refl _) _)) (Hbw.out.alloc (by omega) _) (Nat.le_refl _) (by simp; omega) hg2)
                     have Hown2 := Lib.hid hown2
                     clear hown2 hg2)
        go_roundw
        case rel => exact ⟨j + 1, by omega, by go_num, by rw [Hn.out]; exact Hown2.out, Hb3.out⟩
        case measure => simp [intOf]; omega
    · have e : l.take j = l := List.take_of_length_le (by omega)
      rw [e] at hown
      have HF := Lib.hid hown
      clear hown hbw e
      go_wp2_with fail
      go_ret
      exact ⟨_, rfl, HF.out, Hbw.out⟩

set_option maxRecDepth 100000 in
set_option maxHeartbeats 2000000 in
theorem refsA_any (A B : Option Addr) (c d : Nat) (ls ss : List T) (w : World) (hm : ls.length ≤ 1000) (hk : ss.length ≤ 1000) (hr : Rds w A (ls.map sv)) (hr2 : Rds w B (ss.map sv)) (hl : ∀ x ∈ ls, x.length ≤ 140737488355328) (hs : ∀ x ∈ ss, x.length ≤ 140737488355328) :
    Calls Tryz.prog 16 #[.agg #[.slice A ls.length c, .slice B ss.length d]] w fun e w' => ∃ A1 c1 A2 c2, e = .returned (.tuple #[.slice A1 (refsP ls).length c1, .slice A2 (refsP ss).length c2]) ∧ Rds w' A1 ((refsP ls).map (Value.int .i64)) ∧ Rds w' A2 ((refsP ss).map (Value.int .i64)) ∧ Below w.heap.size w w' := by
  have hb1 : Below w.heap.size w (w.alloc (.cells #[.slice A ls.length c, .slice B ss.length d] 28)) := (Below.refl _ _).alloc (Nat.le_refl _) _
  have hx := Bx.new w #[.slice A ls.length c, .slice B ss.length d] 28
  have hs0 : w.heap.size < (w.alloc (.cells #[.slice A ls.length c, .slice B ss.length d] 28)).heap.size := by simp
  obtain ⟨W3, hW3⟩ : ∃ W, (w.alloc (.cells #[.slice A ls.length c, .slice B ss.length d] 28)) = W := ⟨_, rfl⟩
  rw [hW3] at hb1 hx hs0
  have HC1 : Hid (∀ W, Below W3.heap.size W3 W → Calls Tryz.prog 29 #[.slice A ls.length c] W fun e w' => ∃ A1 c1, e = .returned (.slice A1 (refsP ls).length c1) ∧ Rds w' A1 ((refsP ls).map (Value.int .i64)) ∧ Below W.heap.size W w') := Lib.hid (fun W hb => (refs_any A c ls W hm ((hr.below hb1).below hb) hl).mono (fun e w' ⟨v, h1, h2, h3⟩ => by
    obtain ⟨A1, c1, rfl, _, _, r, _⟩ := h2.slice
    exact ⟨A1, c1, h1, r, h3⟩))
  have HC2 : Hid (∀ W, Below W3.heap.size W3 W → Calls Tryz.prog 29 #[.slice B ss.length d] W fun e w' => ∃ A1 c1, e = .returned (.slice A1 (refsP ss).length c1) ∧ Rds w' A1 ((refsP ss).map (Value.int .i64)) ∧ Below W.heap.size W w') := Lib.hid (fun W hb => (refs_any B d ss W hk ((hr2.below hb1).below hb) hs).mono (fun e w' ⟨v, h1, h2, h3⟩ => by
    obtain ⟨A1, c1, rfl, _, _, r, _⟩ := h2.slice
    exact ⟨A1, c1, h1, r, h3⟩))
  have H1 := Lib.hid hx
  have HB := Lib.hid hb1
  have a0 : W3.cell? ⟨w.heap.size, 0, none⟩ = some (.slice A ls.length c) := hx.cell 0
  have a1 : W3.cell? ⟨w.heap.size, 1, none⟩ = some (.slice B ss.length d) := hx.cell 1
  clear hx hb1 hr hr2 hl hs
  generalize refsP ls = P1 at *
  generalize refsP ss = P2 at *
  go_enter Tryz.func16, Tryz.ntmps16
  go_wp2_with fail
  clear hW3
  have hB0 := Below.refl W3.heap.size W3
  have hB1 := hB0.drew
  go_region_held3 (fun w' => w'.cell? ⟨w.heap.size, 0, none⟩ = some (.slice A ls.length c) ∧ w'.cell? ⟨w.heap.size, 1, none⟩ = some (.slice B ss.length d))
    (first | (with_reducible exact ⟨a0, a1⟩) | (with_reducible exact ⟨x0, x1⟩) | (with_reducible exact ⟨y0, y1⟩) | go_keep)
    (first
      | (go_at_call 29
         have hG := hG1
         clear hG
         with_reducible refine (HC2.out _ hB4).mono ?_
         rintro e w5 ⟨A5, c5, rfl, r5, hb5⟩
         have hB5 := hB4.trans (hb5.mono hB4.size)
         have R4 := Lib.hid (r4.below hb5)
         have y0 : w5.cell? ⟨w.heap.size, 0, none⟩ = some (.slice A ls.length c) := (H1.out.after hB5).cell 0
         have y1 : w5.cell? ⟨w.heap.size, 1, none⟩ = some (.slice B ss.length d) := (H1.out.after hB5).cell 1)
      | (go_at_call 29
         with_reducible refine (HC1.out _ hB1).mono ?_
         rintro e w4 ⟨A4, c4, rfl, r4, hb4⟩
         have hG1 := hb4
         have hB4 := hB1.trans (hb4.mono hB1.size)
         have x0 : w4.cell? ⟨w.heap.size, 0, none⟩ = some (.slice A ls.length c) := (H1.out.after hB4).cell 0
         have x1 : w4.cell? ⟨w.heap.size, 1, none⟩ = some (.slice B ss.length d) := (H1.out.after hB4).cell 1))
  all_goals
    go_wp2_with fail
    go_ret2
    exact ⟨_, _, _, _, rfl, R4.out, r5, HB.out.trans (hB5.mono HB.out.size)⟩

theorem ints_same (A B : Option Addr) (a : List Int) (m k c d : Nat) (w : World) (hm : m = a.length) (hk : k = a.length) (hmx : m ≤ maxLen) (hr : Rds w A (a.map (Value.int .i64))) (hr2 : Rds w B (a.map (Value.int .i64))) :
    Calls Tryz.prog 17 #[.slice A m c, .slice B k d] w fun e w' => e = .returned (.bool true) ∧ Below w.heap.size w w' :=
  (ints_any A B a a m k c d w hm hk hmx hr hr2).mono fun e w' ⟨h1, h2⟩ => ⟨by rw [h1]; simp, h2⟩

/-- the table that the base makes -/
theorem tb_of {w : World} {t r : Nat} (h : Bases w t r) : ∃ (g : Nat) (hr : Hr), Tb w.heap.size w t g hr ∧ ∃ s0 s1 ff m0 m1, hr = mk (pairs (BL s0 s1 ff m0 m1)) := by
  obtain ⟨⟨lo, g, mb, n, A, c, C, f, s0, s1, ff, m0, m1, hTa, _, _, hwhy, _⟩, _⟩ := h
  exact ⟨g, _, ⟨⟨_, _, hTa.box⟩, hTa.box.lt, hTa.hier.mono hTa.base, (why_good hwhy).1⟩, s0, s1, ff, m0, m1, rfl⟩
set_option maxRecDepth 100000 in
theorem step_b1 (s0 s1 ff m0 m1 : Nat) : stepP (mk (pairs (BL s0 s1 ff m0 m1))) 10 [] [[73], [73]] = some ([], [[73]]) := by kernel_rfl
set_option maxRecDepth 100000 in
theorem step_b2 (s0 s1 ff m0 m1 : Nat) : stepP (mk (pairs (BL s0 s1 ff m0 m1))) 29 [] [[78], [73]] = none := by kernel_rfl
theorem refs_k1 : refsP [[76, 65, 59], [73], []] = [0] := by decide
theorem refs_k2 : refsP [[78]] = [0] := by decide

set_option maxRecDepth 100000 in
set_option maxHeartbeats 4000000 in
theorem known_any (w : World) (hL : InsA.Laid w) : Calls Tryz.prog 9 #[] w fun e w' => e = .returned (.bool true) ∧ Below w.heap.size w w' := by
  have HO := Lib.hid (open_any w hL)
  clear hL
  go_enter Tryz.func9, Tryz.ntmps9
  go_wp2_with fail
  refine HO.out.mono ?_
  rintro e w1 ⟨t, r, rfl, hbs, hb1⟩
  obtain ⟨g, hr, hTb, s0, s1, ff, m0, m1, rfl⟩ := tb_of hbs
  have B1 := Lib.hid hb1
  have HT := Lib.hid hTb
  have hal : Below w1.heap.size w1 (w1.alloc (.cells #[.string ⟨#[73]⟩, .string ⟨#[73]⟩] 9)) := (Below.refl _ _).alloc (Nat.le_refl _) _
  have HS := Lib.hid (step_any (lo0 := w1.heap.size) hal.size (hTb.below hal) none 0 0 [86] 10 (.inl rfl) none 0 [] (some ⟨w1.heap.size, 0, none⟩) 2 [[73], [73]] (.inl rfl) (rds_new w1 #[sv [73], sv [73]] 9) (by simp) (by simp) (by simp))
  have G2 := Lib.hid hal
  rw [step_b1] at HS
  clear hbs hb1 hTb hal
  go_wp2_with fail
  refine HS.out.mono ?_
  rintro e w3 ⟨⟨A3, c3, B3, d3, rfl, r3, r3'⟩, hb3⟩
  obtain ⟨b3, o3, rfl, hb3l, hc3⟩ := r3'.at_ (k := 0) (by simp)
  have K3 := Lib.hid (show Below w1.heap.size w1 w3 from G2.out.trans (hb3.mono G2.out.size))
  have C3 := Lib.hid hc3
  have L3 := Lib.hid hb3l
  have ha1 : Below w3.heap.size w3 (w3.alloc (.cells #[.slice A3 0 c3, .slice (some ⟨b3, o3, none⟩) 1 d3] 28)) := (Below.refl _ _).alloc (Nat.le_refl _) _
  have ha2 : Below w3.heap.size w3 ((w3.alloc (.cells #[.slice A3 0 c3, .slice (some ⟨b3, o3, none⟩) 1 d3] 28)).alloc (.cells #[.string ⟨#[78]⟩, .string ⟨#[73]⟩] 9)) := ha1.alloc (by simp) _
  have X3 := Lib.hid (TabZ.bx_al (Bx.new w3 #[.slice A3 0 c3, .slice (some ⟨b3, o3, none⟩) 1 d3] 28) (.cells #[.string ⟨#[78]⟩, .string ⟨#[73]⟩] 9))
  have hr2 := rds_new (w3.alloc (.cells #[.slice A3 0 c3, .slice (some ⟨b3, o3, none⟩) 1 d3] 28)) #[sv [78], sv [73]] 9
  have es : (w3.alloc (.cells #[.slice A3 0 c3, .slice (some ⟨b3, o3, none⟩) 1 d3] 28)).heap.size = w3.heap.size + 1 := by simp
  rw [es] at hr2
  have G4 := Lib.hid ha2
  have hK4 := K3.out.trans (ha2.mono K3.out.size)
  have HS2 := Lib.hid (step_any (lo0 := w1.heap.size) hK4.size (HT.out.below hK4) none 0 0 [86] 29 (.inr rfl) none 0 [] (some ⟨w3.heap.size + 1, 0, none⟩) 2 [[78], [73]] (.inl rfl) hr2 (by simp) (by simp) (by simp))
  rw [step_b2] at HS2
  have B4 := Lib.hid (B1.out.trans (hK4.mono B1.out.size))
  clear ha1 ha2 hr2 es hK4 hb3 r3 r3' hb3l hc3 HS
  simp only [List.length_nil, List.length_cons] at *
  go_wp2_with fail
  refine HS2.out.mono ?_
  rintro e w5 ⟨rfl, hb5⟩
  have B5 := Lib.hid (B4.out.trans (hb5.mono B4.out.size))
  have G5 := Lib.hid (G4.out.trans (hb5.mono G4.out.size))
  have X5 := Lib.hid (X3.out.after hb5)
  have hc1 : Below w5.heap.size w5 (w5.alloc (.cells #[.slice none 0 0, .slice none 0 0] 28)) := (Below.refl _ _).alloc (Nat.le_refl _) _
  have e1 : (w5.alloc (.cells #[.slice none 0 0, .slice none 0 0] 28)).heap.size = w5.heap.size + 1 := by simp
  have e2 : ((w5.alloc (.cells #[.slice none 0 0, .slice none 0 0] 28)).alloc (.cells #[.string ⟨#[76, 65, 59]⟩, .string ⟨#[73]⟩, .string ⟨#[]⟩] 9)).heap.size = w5.heap.size + 1 + 1 := by simp
  have hc2 := hc1.alloc (by simp) (.cells #[.string ⟨#[76, 65, 59]⟩, .string ⟨#[73]⟩, .string ⟨#[]⟩] 9)
  have hc3 := hc2.alloc (by simp; omega) (.cells #[.string ⟨#[78]⟩] 9)
  have hr5 := (rds_new (w5.alloc (.cells #[.slice none 0 0, .slice none 0 0] 28)) #[sv [76, 65, 59], sv [73], sv []] 9).below ((Below.refl _ _).alloc (Nat.le_refl _) (.cells #[.string ⟨#[78]⟩] 9))
  have hr6 := rds_new ((w5.alloc (.cells #[.slice none 0 0, .slice none 0 0] 28)).alloc (.cells #[.string ⟨#[76, 65, 59]⟩, .string ⟨#[73]⟩, .string ⟨#[]⟩] 9)) #[sv [78]] 9
  rw [e1] at hr5
  rw [e2] at hr6
  have HRf := Lib.hid (refsA_any (some ⟨w5.heap.size + 1, 0, none⟩) (some ⟨w5.heap.size + 1 + 1, 0, none⟩) 3 1 [[76, 65, 59], [73], []] [[78]] _ (by simp) (by simp) hr5 hr6 (by simp) (by simp))
  rw [refs_k1, refs_k2] at HRf
  have B6 := Lib.hid (B5.out.trans (hc3.mono B5.out.size))
  have G6 := Lib.hid (G5.out.trans (hc3.mono G5.out.size))
  have X6 := Lib.hid (X5.out.after hc3)
  clear hb5 hc1 e1 e2 hc2 hc3 hr5 hr6 HS2
  simp only [List.length_nil, List.length_cons] at HRf
  go_wp2_with fail
  refine HRf.out.mono ?_
  rintro e w7 ⟨A1, c1, A2, c2, rfl, r71, r72, hb7⟩
  have B7 := Lib.hid (B6.out.trans (hb7.mono B6.out.size))
  have G7 := Lib.hid (G6.out.trans (hb7.mono G6.out.size))
  have x71 : w7.cell? ⟨w3.heap.size, 1, none⟩ = some (.slice (some ⟨b3, o3, none⟩) 1 d3) := (X6.out.after hb7).cell 1
  have x7l := (X6.out.after hb7).lt
  have y7 : w7.cell? ⟨b3, o3, none⟩ = some (.string ⟨#[73]⟩) := (G7.out.cell (p := ⟨b3, o3, none⟩) L3.out).trans C3.out
  have hd : Below w7.heap.size w7 (w7.alloc (.cells #[.int .i64 0] 3)) := (Below.refl _ _).alloc (Nat.le_refl _) _
  have HI1 := Lib.hid (ints_same A1 (some ⟨w7.heap.size, 0, none⟩) [0] 1 1 c1 1 _ rfl rfl (by unfold maxLen; omega) (r71.below hd) (rds_new w7 #[.int .i64 0] 3))
  have R72 := Lib.hid (r72.below hd)
  have B8 := Lib.hid (B7.out.trans (hd.mono B7.out.size))
  clear hd r71 r72 hb7 HRf
  go_wp2_with fail
  refine HI1.out.mono ?_
  rintro e w9 ⟨rfl, hb9⟩
  have B9 := Lib.hid (B8.out.trans (hb9.mono B8.out.size))
  have hd : Below w9.heap.size w9 (w9.alloc (.cells #[.int .i64 0] 3)) := (Below.refl _ _).alloc (Nat.le_refl _) _
  have HI2 := Lib.hid (ints_same A2 (some ⟨w9.heap.size, 0, none⟩) [0] 1 1 c2 1 _ rfl rfl (by unfold maxLen; omega) ((R72.out.below hb9).below hd) (rds_new w9 #[.int .i64 0] 3))
  have B10 := Lib.hid (B9.out.trans (hd.mono B9.out.size))
  clear hd hb9 HI1
  go_wp2_with fail
  refine HI2.out.mono ?_
  rintro e w11 ⟨rfl, hb11⟩
  have B11 := Lib.hid (B10.out.trans (hb11.mono B10.out.size))
  clear hb11
  go_wp2_with fail
  go_ret
  exact ⟨rfl, B11.out⟩

set_option maxRecDepth 100000 in
/-- without a table -/
theorem step_nil (kA : Option Addr) (km kc : Nat) (gv : T) (op a : Int) (A B : Option Addr) (m c k d : Nat) (w : World) :
    Calls Tryz.prog 10 #[.pointer none, .slice kA km kc, .string ⟨gv.toArray⟩, .agg #[.int .i64 op, .int .i64 a], .agg #[.slice A m c, .slice B k d]] w fun e w' => e = .returned (.tuple #[.agg #[.slice none 0 0, .slice none 0 0], .int .i64 16]) ∧ Below w.heap.size w w' := by
  have hb1 : Below w.heap.size w (((w.alloc (.cells #[.int .i64 op, .int .i64 a] 40)).alloc (.cells #[.slice A m c, .slice B k d] 28)).alloc (.cells #[.slice none 0 0, .slice none 0 0] 28)) := (((Below.refl _ _).alloc (Nat.le_refl _) _).alloc (by simp) _).alloc (by simp; omega) _
  have e2 : ((w.alloc (.cells #[.int .i64 op, .int .i64 a] 40)).alloc (.cells #[.slice A m c, .slice B k d] 28)).heap.size = w.heap.size + 1 + 1 := by simp
  have hx3 := Bx.new ((w.alloc (.cells #[.int .i64 op, .int .i64 a] 40)).alloc (.cells #[.slice A m c, .slice B k d] 28)) #[.slice none 0 0, .slice none 0 0] 28
  rw [e2] at hx3
  have HX := Lib.hid hx3
  have HB := Lib.hid hb1
  clear hb1 e2 hx3
  go_enter Tryz.func10, Tryz.ntmps10
  go_wp2_with fail
  exact bodyPost_ret (v := .tuple #[.agg #[.slice none 0 0, .slice none 0 0], .int .i64 16]) (result2 Tryz.results10 _ _ _ _ rfl (run_loadVar_row _ _ _ _ #[.slice none 0 0, .slice none 0 0] (0, 0) _ HX.out Tryz.underlying28 rfl sizeFr)) rfl ⟨rfl, HB.out⟩
end KndK
end Go.Proofs.YtdebambmcjcopaaGreatDoor
