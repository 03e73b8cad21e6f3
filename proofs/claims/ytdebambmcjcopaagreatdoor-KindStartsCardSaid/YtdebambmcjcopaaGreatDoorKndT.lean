/-
  How a method begins: kind.Start and the document's own.
-/
import Derived.Test.YtdebambmcjcopaaGreatDoorKndK
import Derived.Laws.CopyOwn
import Derived.OwnWalk
namespace Go.Proofs.YtdebambmcjcopaaGreatDoor
namespace KndT
open Go.RowKit Base BinM Stru DescM DescW DescX DescS DescG DescP DescQ HierS HierT HierM HierC HierD HierN HierV HierR HierU HierY Kls KlsP KlsQ OpenK TabC TabM TabK TabP TabE TabB TabG TabH TabT TabU TabV TabX TabW TabF TabN TabO TabY TabR TabQ TabL TabZ KndB KndM KndS KndK

/-- how a method begins -/
def startL (cls : T) (ts : List T) (n : Nat) : List T := ofT cls :: (ts ++ List.replicate (n - 1 - ts.length) [])
def startE (cls sig : T) (n : Int) : List T × Int :=
  if (splitT sig).2.2 ≠ 0 then ([], 5) else if n < (splitT sig).2.1.length + 1 ∨ 24 < n then ([], 2) else (startL cls (splitT sig).2.1 n.toNat, 0)
theorem split_errs (u : T) : (splitT u).2.2 = 0 ∨ (splitT u).2.2 = 5 := by
  unfold splitT
  split
  · split
    · split
      · exact .inl rfl
      · exact .inr rfl
    · exact .inr rfl
  · exact .inr rfl
theorem parse_len : ∀ (n : Nat) (l : T) (ts : List T) (g : T), parse n l = some (ts, g) → ts.length ≤ n := by
  intro n
  induction n with
  | zero =>
    intro l ts g h
    by_cases h41 : l.head? = some 41
    · rw [parse_41 0 h41] at h; injection h with h; injection h with h _; subst h; simp
    · rw [parse_zero h41] at h; cases h
  | succ n ih =>
    intro l ts g h
    by_cases h41 : l.head? = some 41
    · rw [parse_41 _ h41] at h; injection h with h; injection h with h _; subst h; simp
    · cases hl : leadT l with
      | none => rw [parse_none _ h41 hl] at h; cases h
      | some k =>
        rw [parse_some n h41 hl] at h
        cases hp : parse n (l.drop k) with
        | none => rw [hp] at h; cases h
        | some r =>
          rw [hp] at h
          injection h with h
          injection h with h _
          subst h
          have := ih (l.drop k) r.1 r.2 hp
          simp; omega
theorem split_few (u : T) : (splitT u).2.1.length ≤ 6 := by
  unfold splitT
  split
  · split
    · rename_i h
      split
      · exact parse_len 6 _ _ _ h
      · simp
    · simp
  · simp
/-- a frame without a stack, and an error -/
def GivesB (w : World) (r : List T × Int) (e : Ending) (w' : World) : Prop :=
  ∃ A c, e = .returned (.tuple #[.agg #[.slice A r.1.length c, .slice none 0 0], .int .i64 r.2]) ∧ Rds w' A (r.1.map sv) ∧ Below w.heap.size w w'
theorem cat_of (l : T) : (ByteArray.mk #[76] ++ ⟨l.toArray⟩ ++ ByteArray.mk #[59]) = ⟨(ofT l).toArray⟩ := by
  rw [show (ByteArray.mk #[76]) = ByteArray.mk [76].toArray from rfl, show (ByteArray.mk #[59]) = ByteArray.mk [59].toArray from rfl, app_mk, app_mk]; rfl
theorem made_s (n : Nat) : (madeCells (Value.string ⟨#[]⟩).cells (n * 1)).toList = List.replicate n (sv []) := by
  unfold madeCells
  rw [Nat.mul_one]
  apply List.ext_getElem
  · simp
  · intro i h1 h2
    simp [Value.cells, sv, Nat.mod_one]
theorem split_start (cls : T) (ts : List T) (n : Nat) : splice (sv (ofT cls) :: List.replicate (n - 1) (sv [])) 1 (ts.map sv) = (startL cls ts n).map sv := by
  unfold splice startL
  simp only [List.take_succ_cons, List.take_zero, List.length_map, List.map_cons, List.map_append, List.map_replicate, List.cons_append, List.nil_append]
  congr 2
  rw [Nat.add_comm 1, List.drop_succ_cons, List.drop_replicate]

theorem row_bx {w : World} {base g n : Nat} {e : TypeId} {xs : List Value} (h : w.ownsRow base e 1 (.slice (some ⟨g, 0, none⟩) n n) n xs) : Bx w g xs.toArray e := by
  rcases h.2 with ⟨h1, _⟩ | ⟨g', cap, cur, hv, _, hh, _, _, hsz, hx⟩
  · cases h1
  · injection hv with e1 _ e3
    injection e1 with e1
    injection e1 with e1
    subst e1
    subst e3
    have e : cur = xs.toArray := by
      rw [← hx]
      apply Array.ext'
      rw [List.take_of_length_le]
      have : cur.toList.length = cur.size := rfl
      omega
    rw [e] at hh
    exact hh
theorem below_none {w w' : World} (h : w.grownBy w' none) : Below w.heap.size w w' := (Below.refl _ _).grown h (Nat.le_refl _) (fun k hk => by cases hk)
theorem start_len {cls : T} {ts : List T} {n : Nat} (h : ts.length + 1 ≤ n) : (startL cls ts n).length = n := by unfold startL; simp; omega
theorem rep_one {n : Nat} (h : 1 ≤ n) : List.replicate n (sv []) = sv [] :: List.replicate (n - 1) (sv []) := by
  obtain ⟨m, rfl⟩ : ∃ m, n = m + 1 := ⟨n - 1, by omega⟩
  rfl

set_option maxRecDepth 100000 in
set_option maxHeartbeats 4000000 in
theorem start_any (cls sig nm : T) (n : Int) (w : World) (hc : cls.length ≤ 140737488351232) (hs : sig.length ≤ 140737488351232) :
    Calls Tryz.prog 5 #[.string ⟨cls.toArray⟩, .agg #[.string ⟨nm.toArray⟩, .string ⟨sig.toArray⟩, .int .i64 n, .slice none 0 0, .slice none 0 0]] w (GivesB w (startE cls sig n)) := by
  have hb1 : Below w.heap.size w ((w.alloc (.cells #[.string ⟨nm.toArray⟩, .string ⟨sig.toArray⟩, .int .i64 n, .slice none 0 0, .slice none 0 0] 25)).alloc (.cells #[.slice none 0 0, .slice none 0 0] 28)) := ((Below.refl _ _).alloc (Nat.le_refl _) _).alloc (by simp) _
  have e1 : (w.alloc (.cells #[.string ⟨nm.toArray⟩, .string ⟨sig.toArray⟩, .int .i64 n, .slice none 0 0, .slice none 0 0] 25)).heap.size = w.heap.size + 1 := by simp
  have hx1 := TabZ.bx_al (Bx.new w #[.string ⟨nm.toArray⟩, .string ⟨sig.toArray⟩, .int .i64 n, .slice none 0 0, .slice none 0 0] 25) (.cells #[.slice none 0 0, .slice none 0 0] 28)
  have hx2 := Bx.new (w.alloc (.cells #[.string ⟨nm.toArray⟩, .string ⟨sig.toArray⟩, .int .i64 n, .slice none 0 0, .slice none 0 0] 25)) #[.slice none 0 0, .slice none 0 0] 28
  rw [e1] at hx2
  have H1 := Lib.hid hx1
  have H2 := Lib.hid hx2
  have HB := Lib.hid hb1
  have HS := Lib.hid (split_any sig ((w.alloc (.cells #[.string ⟨nm.toArray⟩, .string ⟨sig.toArray⟩, .int .i64 n, .slice none 0 0, .slice none 0 0] 25)).alloc (.cells #[.slice none 0 0, .slice none 0 0] 28)) (by omega))
  have hse := split_errs sig
  have hts := split_few sig
  have hst : startE cls sig n = if (splitT sig).2.2 ≠ 0 then ([], 5) else if n < (splitT sig).2.1.length + 1 ∨ 24 < n then ([], 2) else (startL cls (splitT sig).2.1 n.toNat, 0) := rfl
  have HE := Lib.hid hst
  clear hb1 e1 hx1 hx2 hst hs
  generalize startE cls sig n = F at *
  generalize splitT sig = sp at *
  obtain ⟨g, ts, er⟩ := sp
  simp only at hse hts HE
  unfold DescP.GivesS at HS
  simp only at HS
  go_enter Tryz.func5, Tryz.ntmps5
  go_wp2_with fail
  refine HS.out.mono ?_
  rintro e w1 ⟨v1, rfl, ho1, hb1⟩
  obtain ⟨A1, c1, rfl, _, _, r1, _⟩ := own_slice ho1
  have R1 : Hid (Rds w1 A1 (ts.map sv)) := Lib.hid (Rds.own ho1)
  have B1 := Lib.hid (HB.out.trans (hb1.mono HB.out.size))
  have X1 := Lib.hid (H1.out.after hb1)
  have X2 := Lib.hid (H2.out.after hb1)
  have a1 : w1.cell? ⟨w.heap.size, 1, none⟩ = some (.string ⟨sig.toArray⟩) := X1.out.cell 1
  have a2 : w1.cell? ⟨w.heap.size, 2, none⟩ = some (.int .i64 n) := X1.out.cell 2
  have al := X1.out.lt
  have b0 : w1.cell? ⟨w.heap.size + 1, 0, none⟩ = some (.slice none 0 0) := X2.out.cell 0
  have b1 : w1.cell? ⟨w.heap.size + 1, 1, none⟩ = some (.slice none 0 0) := X2.out.cell 1
  have f0 := X2.out.free 0
  have f1 := X2.out.free 1
  have bl := X2.out.lt
  clear ho1 hb1 HS H1 H2
  have hfail : ∀ k : Int, Hid (Bx ((w1.setCell ⟨w.heap.size + 1, 0, none⟩ (.slice none 0 0)).setCell ⟨w.heap.size + 1, 1, none⟩ (.slice none 0 0)) (w.heap.size + 1) #[.slice none 0 0, .slice none 0 0] 28) := fun _ => Lib.hid (KndS.two_bx X2.out _ _)
  have HFail := hfail 0
  clear hfail
  rcases hse with rfl | rfl
  · by_cases hbad : n < (ts.length : Int) + 1 ∨ 24 < n
    · have HF := Lib.hid (show F = ([], 2) by rw [HE.out, if_neg (by simp), if_pos hbad])
      by_cases h1 : n < (ts.length : Int) + 1
      · have h1' : n < 1 + (ts.length : Int) := by omega
        clear hbad h1
        go_wp2_with fail
        rw [HF.out]
        exact bodyPost_ret (v := .tuple #[.agg #[.slice none 0 0, .slice none 0 0], .int .i64 2]) (result2 Tryz.results5 _ _ _ _ rfl (run_loadVar_row _ _ _ _ #[.slice none 0 0, .slice none 0 0] (0, 0) _ HFail.out Tryz.underlying28 rfl sizeFr)) rfl ⟨none, 0, rfl, .inl rfl, KndS.two_below B1.out (by omega) _ _⟩
      · have h1' : ¬ n < 1 + (ts.length : Int) := by omega
        have h2 : 24 < n := by omega
        clear hbad h1
        go_wp2_with fail
        rw [HF.out]
        exact bodyPost_ret (v := .tuple #[.agg #[.slice none 0 0, .slice none 0 0], .int .i64 2]) (result2 Tryz.results5 _ _ _ _ rfl (run_loadVar_row _ _ _ _ #[.slice none 0 0, .slice none 0 0] (0, 0) _ HFail.out Tryz.underlying28 rfl sizeFr)) rfl ⟨none, 0, rfl, .inl rfl, KndS.two_below B1.out (by omega) _ _⟩
    · obtain ⟨q, rfl⟩ : ∃ q : Nat, n = ((q : Nat) : Int) := ⟨n.toNat, by omega⟩
      have HF := Lib.hid (show F = (startL cls ts q, 0) by rw [HE.out, if_neg (by simp), if_neg hbad, Int.toNat_natCast])
      have hq1 : ts.length + 1 ≤ q := by omega
      have hq2 : q ≤ 24 := by omega
      have h1' : ¬ (q : Int) < 1 + (ts.length : Int) := by omega
      have h2' : ¬ (24 : Int) < (q : Int) := by omega
      obtain ⟨i0, hi, hz, hs1, hb16⟩ := info_parts HierM.infoS
      have I0 := Lib.hid hi
      have I1 := Lib.hid hz
      have I2 := Lib.hid hs1
      have I3 := Lib.hid hb16
      have HSp := Lib.hid (split_start cls ts q)
      have HOf := Lib.hid (fun W => of_any cls W (by omega))
      clear hi hz hs1 hb16 hbad HE
      go_wp2_with (with_reducible refine wpList_make_full _ rfl (.tmp 34) (.tmp 34) 26 rfl w1.heap.size 9 i0 _ 1 Tryz.underlying26 I0.out I1.out I2.out .i64 .i64 _ _ q rfl rfl rfl rfl (by rw [I3.out]; omega) (by unfold maxLen; omega) (Nat.le_refl _) ?_
                   intro w2 hown2 hg2
                   rw [made_s, rep_one (by omega)] at hown2
                   have hbx := row_bx hown2
                   have hB2 := below_none hg2
                   have c0 : w2.cell? ⟨w1.heap.size, 0, none⟩ = some (.string ⟨#[]⟩) := hbx.cell 0
                   have c1f := hbx.free 0
                   have cl := hbx.lt
                   have HBx : Hid (Bx (w2.setCell ⟨w1.heap.size, 0, none⟩ (.string ⟨(ofT cls).toArray⟩)) w1.heap.size (sv (ofT cls) :: List.replicate (q - 1) (sv [])).toArray 9) := Lib.hid (by
                     have h := hbx.set 0 (.string ⟨(ofT cls).toArray⟩)
                     simpa [sv] using h)
                   have HB2 : Hid (Below w1.heap.size w1 (w2.setCell ⟨w1.heap.size, 0, none⟩ (.string ⟨(ofT cls).toArray⟩))) := Lib.hid (hB2.setCell (Nat.le_refl _) _ (p := ⟨w1.heap.size, 0, none⟩))
                   clear hown2 hg2 hbx hB2)
      refine (HOf.out _).mono ?_
      rintro e w3 ⟨rfl, rfl⟩
      have hq0 : 1 ≤ q := by omega
      have HNl : Hid ((ts.map sv).length = Nat.min ts.length (q - 1)) := Lib.hid (by
        rw [List.length_map]
        show ts.length = min ts.length (q - 1)
        omega)
      have HFt : Hid (1 + (ts.map sv).length ≤ (sv (ofT cls) :: List.replicate (q - 1) (sv [])).length) := Lib.hid (by simp; omega)
      have HP : Hid (∃ ad, ts.length = 0 ∨ A1 = some ad ∧ ∀ j v, (ts.map sv)[j]? = some v → (w2.setCell ⟨w1.heap.size, 0, none⟩ (.string ⟨(ofT cls).toArray⟩)).cell? (ad.add j) = some v) := Lib.hid (by
        by_cases h0 : ts.length = 0
        · exact ⟨⟨0, 0, none⟩, .inl h0⟩
        · obtain ⟨b, o, hA, _, _⟩ := R1.out.at_ (k := 0) (by simp; omega)
          exact ⟨⟨b, o, none⟩, .inr ⟨hA, cells_of (R1.out.below HB2.out) _ hA⟩⟩)
      have HP2 : Hid (0 < (ts.map sv).length → ∃ ad, A1 = some ad ∧ ∀ j v, (ts.map sv)[j]? = some v → (w2.setCell ⟨w1.heap.size, 0, none⟩ (.string ⟨(ofT cls).toArray⟩)).cell? (ad.add j) = some v) := Lib.hid (fun hp => by
        obtain ⟨ad, h⟩ := HP.out
        rcases h with h | h
        · rw [List.length_map] at hp; omega
        · exact ⟨ad, h⟩)
      have HSp2 : Hid (∀ w4 : World, Hid (w4.heap[w1.heap.size]? = some (.cells (splice (sv (ofT cls) :: List.replicate (q - 1) (sv [])) 1 (ts.map sv)).toArray 9 (0, 0))) → Bx w4 w1.heap.size ((startL cls ts q).map sv).toArray 9) := Lib.hid (fun w4 h => by
        have h2 := h.out
        rw [HSp.out] at h2
        exact h2)
      have hwq : w.heap.size + 1 < w1.heap.size := by have := X2.out.lt; omega
      have HBx0 : Hid ((w2.setCell ⟨w1.heap.size, 0, none⟩ (.string ⟨(ofT cls).toArray⟩)).heap[w1.heap.size]? = some (.cells (sv (ofT cls) :: List.replicate (q - 1) (sv [])).toArray 9 (0, 0))) := Lib.hid HBx.out
      by_cases hq3 : q = 1
      · subst hq3
        have h0 : ts.length = 0 := by omega
        have h0' : ts = [] := List.eq_nil_of_length_eq_zero h0
        subst h0'
        have H4 := Lib.hid (HSp2.out (w2.setCell ⟨w1.heap.size, 0, none⟩ (.string ⟨(ofT cls).toArray⟩)) (Lib.hid HBx.out))
        have Hb4 := HB2
        clear hq2 h0 h1' h2' HSp2 HP HP2 HFt HNl HBx HBx0
        have HN := X2.out.after Hb4.out
        have d0 : (w2.setCell ⟨w1.heap.size, 0, none⟩ (.string ⟨(ofT cls).toArray⟩)).cell? ⟨w.heap.size + 1, 0, none⟩ = some (.slice none 0 0) := HN.cell 0
        have d1 : (w2.setCell ⟨w1.heap.size, 0, none⟩ (.string ⟨(ofT cls).toArray⟩)).cell? ⟨w.heap.size + 1, 1, none⟩ = some (.slice none 0 0) := HN.cell 1
        have d2 := HN.free 0
        have d3 := HN.free 1
        have d4 := HN.lt
        have HW := Lib.hid (KndS.two_bx HN (.slice (some ⟨w1.heap.size, 0, none⟩) 1 1) (.slice none 0 0))
        have HR := Lib.hid (KndS.two_rds (TabZ.rds_bx H4.out) (g := w.heap.size + 1) (.slice (some ⟨w1.heap.size, 0, none⟩) 1 1) (.slice none 0 0) (fun a ha => by cases ha; show w1.heap.size ≠ w.heap.size + 1; omega))
        have HBl := Lib.hid (KndS.two_below (B1.out.trans (Hb4.out.mono B1.out.size)) (g := w.heap.size + 1) (by omega) (.slice (some ⟨w1.heap.size, 0, none⟩) 1 1) (.slice none 0 0))
        clear HN
        go_wp2_with (with_reducible refine wpList_copy_nothing rfl (.tmp 41) (.tmp 42) 26 26 rfl 9 Tryz.underlying26 (by kernel_rfl) (some ⟨w1.heap.size, 0, none⟩) A1 0 0 0 c1 rfl rfl rfl ?_)
        rw [HF.out]
        exact bodyPost_ret (v := .tuple #[.agg #[.slice (some ⟨w1.heap.size, 0, none⟩) 1 1, .slice none 0 0], .int .i64 0]) (result2 Tryz.results5 _ _ _ _ rfl (run_loadVar_row _ _ _ _ #[.slice (some ⟨w1.heap.size, 0, none⟩) 1 1, .slice none 0 0] (0, 0) _ HW.out Tryz.underlying28 rfl sizeFr)) rfl
          ⟨some ⟨w1.heap.size, 0, none⟩, 1, by rw [start_len hq1], HR.out, HBl.out⟩
      · go_wp2_with (with_reducible refine wpList_copy_splice rfl (.tmp 41) (.tmp 42) 26 26 rfl 9 Tryz.underlying26 (by kernel_rfl) (some ⟨w1.heap.size, 1, none⟩) A1 (q - 1) (q - 1) ts.length c1 rfl rfl w1.heap.size 1 (sv (ofT cls) :: List.replicate (q - 1) (sv [])) 9 HBx0.out (ts.map sv) HNl.out (fun hp => ⟨rfl, HP2.out hp⟩) HFt.out (one_sv ts) w1.heap.size w1 HB2.out (Nat.le_refl _) ?_
                     intro w4 Hh hb4
                     have H4 := Lib.hid (HSp2.out w4 Hh)
                     have Hb4 := Lib.hid hb4
                     have HN := X2.out.after Hb4.out
                     have d0 : w4.cell? ⟨w.heap.size + 1, 0, none⟩ = some (.slice none 0 0) := HN.cell 0
                     have d1 : w4.cell? ⟨w.heap.size + 1, 1, none⟩ = some (.slice none 0 0) := HN.cell 1
                     have d2 := HN.free 0
                     have d3 := HN.free 1
                     have d4 := HN.lt
                     have HW := Lib.hid (KndS.two_bx HN (.slice (some ⟨w1.heap.size, 0, none⟩) q q) (.slice none 0 0))
                     have HR := Lib.hid (KndS.two_rds (TabZ.rds_bx H4.out) (g := w.heap.size + 1) (.slice (some ⟨w1.heap.size, 0, none⟩) q q) (.slice none 0 0) (fun a ha => by cases ha; show w1.heap.size ≠ w.heap.size + 1; omega))
                     have HBl := Lib.hid (KndS.two_below (B1.out.trans (Hb4.out.mono B1.out.size)) (g := w.heap.size + 1) (by omega) (.slice (some ⟨w1.heap.size, 0, none⟩) q q) (.slice none 0 0))
                     clear HN
                     clear Hh hb4 HSp2 HP HP2 HFt HNl HBx HBx0)
        rw [HF.out]
        exact bodyPost_ret (v := .tuple #[.agg #[.slice (some ⟨w1.heap.size, 0, none⟩) q q, .slice none 0 0], .int .i64 0]) (result2 Tryz.results5 _ _ _ _ rfl (run_loadVar_row _ _ _ _ #[.slice (some ⟨w1.heap.size, 0, none⟩) q q, .slice none 0 0] (0, 0) _ HW.out Tryz.underlying28 rfl sizeFr)) rfl
          ⟨some ⟨w1.heap.size, 0, none⟩, q, by rw [start_len hq1], HR.out, HBl.out⟩
  · have HF := Lib.hid (show F = ([], 5) by rw [HE.out, if_pos (by simp)])
    go_wp2_with fail
    rw [HF.out]
    exact bodyPost_ret (v := .tuple #[.agg #[.slice none 0 0, .slice none 0 0], .int .i64 5]) (result2 Tryz.results5 _ _ _ _ rfl (run_loadVar_row _ _ _ _ #[.slice none 0 0, .slice none 0 0] (0, 0) _ HFail.out Tryz.underlying28 rfl sizeFr)) rfl ⟨none, 0, rfl, .inl rfl, KndS.two_below B1.out (by omega) _ _⟩

theorem own_ne {w : World} {base b : Nat} {v : Value} {p : List T} {C : Array Value} {ty : TypeId} (h : OwnT w base v p) (hb : Bx w b C ty) (hne : ty ≠ 9) : v.ownBlock ≠ some b := by
  intro e
  rcases h.2 with ⟨hv, _⟩ | ⟨g, cap, cur, hv, _, hh, _⟩
  · rw [hv] at e; cases e
  · rw [hv] at e
    have e2 : g = b := by injection e
    subst e2
    have hb2 : w.heap[g]? = some (.cells C ty (0, 0)) := hb
    rw [hh] at hb2
    injection hb2 with hb2
    injection hb2 with _ hb3 _
    exact hne hb3.symm
/-- the locals so far -/
def soFar (cls : T) (ts : List T) (j : Nat) : List T := ofT cls :: (ts ++ List.replicate j [])
theorem soFar_len (cls : T) (ts : List T) (j : Nat) : (soFar cls ts j).length = 1 + ts.length + j := by unfold soFar; simp; omega
theorem soFar_next (cls : T) (ts : List T) (j : Nat) : soFar cls ts (j + 1) = soFar cls ts j ++ [[]] := by
  unfold soFar
  rw [List.replicate_succ', ← List.append_assoc]
  rfl
theorem soFar_end (cls : T) (ts : List T) (n : Nat) : soFar cls ts (n - 1 - ts.length) = startL cls ts n := rfl
def lenC : Option Value → Nat
  | some (.slice _ n _) => n
  | _ => 0
theorem sizeFrR : (Tryz.prog.info? 32).map (·.size) = some 2 := by kernel_rfl

set_option maxRecDepth 100000 in
set_option maxHeartbeats 4000000 in
/-- the document's Start -/
theorem startR_any (cls sig nm : T) (n : Int) (w : World) (hc : cls.length ≤ 140737488351232) (hs : sig.length ≤ 140737488351232) :
    Calls Tryz.prog 6 #[.string ⟨cls.toArray⟩, .agg #[.string ⟨nm.toArray⟩, .string ⟨sig.toArray⟩, .int .i64 n, .slice none 0 0, .slice none 0 0]] w (GivesB w (startE cls sig n)) := by
  have hb1 : Below w.heap.size w ((w.alloc (.cells #[.string ⟨nm.toArray⟩, .string ⟨sig.toArray⟩, .int .i64 n, .slice none 0 0, .slice none 0 0] 25)).alloc (.cells #[.slice none 0 0, .slice none 0 0] 32)) := ((Below.refl _ _).alloc (Nat.le_refl _) _).alloc (by simp) _
  have e1 : (w.alloc (.cells #[.string ⟨nm.toArray⟩, .string ⟨sig.toArray⟩, .int .i64 n, .slice none 0 0, .slice none 0 0] 25)).heap.size = w.heap.size + 1 := by simp
  have hx1 := TabZ.bx_al (Bx.new w #[.string ⟨nm.toArray⟩, .string ⟨sig.toArray⟩, .int .i64 n, .slice none 0 0, .slice none 0 0] 25) (.cells #[.slice none 0 0, .slice none 0 0] 32)
  have hx2 := Bx.new (w.alloc (.cells #[.string ⟨nm.toArray⟩, .string ⟨sig.toArray⟩, .int .i64 n, .slice none 0 0, .slice none 0 0] 25)) #[.slice none 0 0, .slice none 0 0] 32
  rw [e1] at hx2
  have H1 := Lib.hid hx1
  have H2 := Lib.hid hx2
  have HB := Lib.hid hb1
  have HS := Lib.hid (refSplit_any sig ((w.alloc (.cells #[.string ⟨nm.toArray⟩, .string ⟨sig.toArray⟩, .int .i64 n, .slice none 0 0, .slice none 0 0] 25)).alloc (.cells #[.slice none 0 0, .slice none 0 0] 32)) (by omega))
  have hse := split_errs sig
  have hts := split_few sig
  have hst : startE cls sig n = if (splitT sig).2.2 ≠ 0 then ([], 5) else if n < (splitT sig).2.1.length + 1 ∨ 24 < n then ([], 2) else (startL cls (splitT sig).2.1 n.toNat, 0) := rfl
  have HE := Lib.hid hst
  clear hb1 e1 hx1 hx2 hst hs
  generalize startE cls sig n = F at *
  generalize splitT sig = sp at *
  obtain ⟨g, ts, er⟩ := sp
  simp only at hse hts HE
  unfold DescP.GivesS at HS
  simp only at HS
  go_enter Tryz.func6, Tryz.ntmps6
  go_wp2_with fail
  refine HS.out.mono ?_
  rintro e w1 ⟨v1, rfl, ho1, hb1⟩
  obtain ⟨A1, c1, rfl, _, _, r1, _⟩ := own_slice ho1
  have R1 : Hid (Rds w1 A1 (ts.map sv)) := Lib.hid (Rds.own ho1)
  have B1 := Lib.hid (HB.out.trans (hb1.mono HB.out.size))
  have X1 := Lib.hid (H1.out.after hb1)
  have X2 := Lib.hid (H2.out.after hb1)
  have a1 : w1.cell? ⟨w.heap.size, 1, none⟩ = some (.string ⟨sig.toArray⟩) := X1.out.cell 1
  have a2 : w1.cell? ⟨w.heap.size, 2, none⟩ = some (.int .i64 n) := X1.out.cell 2
  have al := X1.out.lt
  have b0 : w1.cell? ⟨w.heap.size + 1, 0, none⟩ = some (.slice none 0 0) := X2.out.cell 0
  have b1 : w1.cell? ⟨w.heap.size + 1, 1, none⟩ = some (.slice none 0 0) := X2.out.cell 1
  have f0 := X2.out.free 0
  have f1 := X2.out.free 1
  have bl := X2.out.lt
  clear ho1 hb1 HS H1 H2
  have HFail := Lib.hid (KndS.two_bx X2.out (.slice none 0 0) (.slice none 0 0))
  rcases hse with rfl | rfl
  · by_cases hbad : n < (ts.length : Int) + 1 ∨ 24 < n
    · have HF := Lib.hid (show F = ([], 2) by rw [HE.out, if_neg (by simp), if_pos hbad])
      by_cases h1 : n < (ts.length : Int) + 1
      · clear hbad
        go_wp2_with fail
        rw [HF.out]
        exact bodyPost_ret (v := .tuple #[.agg #[.slice none 0 0, .slice none 0 0], .int .i64 2]) (result2 Tryz.results6 _ _ _ _ rfl (run_loadVar_row _ _ _ _ #[.slice none 0 0, .slice none 0 0] (0, 0) _ HFail.out Tryz.underlying32 rfl sizeFrR)) rfl ⟨none, 0, rfl, .inl rfl, KndS.two_below B1.out (by omega) _ _⟩
      · have h2 : 24 < n := by omega
        clear hbad
        go_wp2_with fail
        rw [HF.out]
        exact bodyPost_ret (v := .tuple #[.agg #[.slice none 0 0, .slice none 0 0], .int .i64 2]) (result2 Tryz.results6 _ _ _ _ rfl (run_loadVar_row _ _ _ _ #[.slice none 0 0, .slice none 0 0] (0, 0) _ HFail.out Tryz.underlying32 rfl sizeFrR)) rfl ⟨none, 0, rfl, .inl rfl, KndS.two_below B1.out (by omega) _ _⟩
    · obtain ⟨q, rfl⟩ : ∃ q : Nat, n = ((q : Nat) : Int) := ⟨n.toNat, by omega⟩
      have HF := Lib.hid (show F = (startL cls ts q, 0) by rw [HE.out, if_neg (by simp), if_neg hbad, Int.toNat_natCast])
      have hq1 : ts.length + 1 ≤ q := by omega
      have hq2 : q ≤ 24 := by omega
      have h1' : ¬ (q : Int) < (ts.length : Int) + 1 := by omega
      have h2' : ¬ (24 : Int) < (q : Int) := by omega
      have hcat := cat_of cls
      have hz0 := rds_new w1 #[sv (ofT cls)] 9
      have O1 : Hid (OwnT ((w1.alloc (.cells #[.string ⟨(ofT cls).toArray⟩] 9)).alloc (.cells #[.slice (some ⟨w1.heap.size, 0, none⟩) 1 1, .slice none 0 0] 32)) w1.heap.size (.slice (some ⟨w1.heap.size, 0, none⟩) 1 1) [ofT cls]) := Lib.hid (World.ownsRow.alloc (OwnT.one w1 (ofT cls)) _)
      clear hbad HE hz0
      have hal : Below w1.heap.size w1 ((w1.alloc (.cells #[.string ⟨(ofT cls).toArray⟩] 9)).alloc (.cells #[.slice (some ⟨w1.heap.size, 0, none⟩) 1 1, .slice none 0 0] 32)) := ((Below.refl _ _).alloc (Nat.le_refl _) _).alloc (by simp) _
      have eb : (w1.alloc (.cells #[.string ⟨(ofT cls).toArray⟩] 9)).heap.size = w1.heap.size + 1 := by simp
      have hx9 := Bx.new (w1.alloc (.cells #[.string ⟨(ofT cls).toArray⟩] 9)) #[.slice (some ⟨w1.heap.size, 0, none⟩) 1 1, .slice none 0 0] 32
      rw [eb] at hx9
      have X9 := Lib.hid hx9
      have Ba := Lib.hid hal
      have RA := Lib.hid (R1.out.below hal)
      have hw9 : w.heap.size + 1 < w1.heap.size := by have := X2.out.lt; omega
      clear hal eb hx9
      go_wp2_with (at_builtin
                   refine appT rfl (.tmp 38) (.tmp 39) rfl w1.heap.size _ [ofT cls] rfl O1.out A1 ts.length c1 ts rfl rfl RA.out (by simp; omega) (by simp; omega) ?_
                   intro v2 w2 hown2 hg2
                   have hx2 : Bx w2 (w1.heap.size + 1) #[.slice (some ⟨w1.heap.size, 0, none⟩) 1 1, .slice none 0 0] 32 := (hg2.block _ X9.out.lt (fun e => by have e2 : some (w1.heap.size + 1) = some w1.heap.size := e; injection e2 with e2; omega)).trans X9.out
                   have hb2 : Below w1.heap.size w1 w2 := below_own Ba.out O1.out (Nat.le_refl _) (by simp; omega) hg2
                   obtain ⟨A2, n2, c2, rfl⟩ : ∃ A n c, v2 = .slice A n c := by obtain ⟨A, c, h, _⟩ := OwnT.slice hown2; exact ⟨A, _, c, h⟩
                   have hne2 := own_ne hown2 hx2 (by decide)
                   have HO2 : Hid (OwnT (w2.setCell ⟨w1.heap.size + 1, 0, none⟩ (.slice A2 n2 c2)) w1.heap.size (.slice A2 n2 c2) (soFar cls ts 0)) := Lib.hid (by
                     have e : soFar cls ts 0 = [ofT cls] ++ ts := by simp [soFar]
                     rw [e]
                     exact TabM.own_same hown2 (fun k hk => heap_setCell_other w2 ⟨w1.heap.size + 1, 0, none⟩ k _ (fun e2 => hne2 (by rw [hk]; exact congrArg some e2))))
                   have HX2 : Hid (Bx (w2.setCell ⟨w1.heap.size + 1, 0, none⟩ (.slice A2 n2 c2)) (w1.heap.size + 1) #[.slice A2 n2 c2, .slice none 0 0] 32) := Lib.hid (hx2.set 0 _)
                   have HB2 : Hid (Below w1.heap.size w1 (w2.setCell ⟨w1.heap.size + 1, 0, none⟩ (.slice A2 n2 c2))) := Lib.hid (hb2.setCell (by show w1.heap.size ≤ w1.heap.size + 1; omega) _ (p := ⟨w1.heap.size + 1, 0, none⟩))
                   have u0 : w2.cell? ⟨w1.heap.size + 1, 0, none⟩ = some (.slice (some ⟨w1.heap.size, 0, none⟩) 1 1) := hx2.cell 0
                   have u1 := hx2.free 0
                   have u2 := hx2.lt
                   clear hown2 hg2 hx2 hb2 hne2)
      have HE3 : Hid (∃ A n c, Bx (w2.setCell ⟨w1.heap.size + 1, 0, none⟩ (.slice A2 n2 c2)) (w1.heap.size + 1) #[.slice A n c, .slice none 0 0] 32 ∧ OwnT (w2.setCell ⟨w1.heap.size + 1, 0, none⟩ (.slice A2 n2 c2)) w1.heap.size (.slice A n c) (soFar cls ts 0)) := Lib.hid ⟨A2, n2, c2, HX2.out, HO2.out⟩
      clear u0 u1 u2 HX2 HO2 O1 X9 Ba RA hcat
      generalize w2.setCell ⟨w1.heap.size + 1, 0, none⟩ (.slice A2 n2 c2) = w3 at *
      go_loopw [42] (fun _ wr => ∃ j : Nat, 1 + ts.length + j ≤ q ∧ Hid (∃ A n c, Bx wr (w1.heap.size + 1) #[.slice A n c, .slice none 0 0] 32 ∧ OwnT wr w1.heap.size (.slice A n c) (soFar cls ts j)) ∧ Below w1.heap.size w1 wr) (fun _ wr => q - lenC (wr.cell? ⟨w1.heap.size + 1, 0, none⟩))
      case atStart => exact ⟨0, by omega, HE3, HB2.out⟩
      case round =>
        obtain ⟨j, hj, HRel, hbw⟩ := hrel
        obtain ⟨A, n, c, hbx, hown⟩ := HRel.out
        have hn : n = (soFar cls ts j).length := by obtain ⟨A', c', e, _⟩ := OwnT.slice hown; injection e with _ e2 _
        rw [soFar_len] at hn
        subst hn
        have Hbw := Lib.hid hbw
        have HX := Lib.hid hbx
        have HO := Lib.hid hown
        have hsz := hbw.size
        have k0 : wr.cell? ⟨w1.heap.size + 1, 0, none⟩ = some (.slice A (1 + ts.length + j) c) := hbx.cell 0
        have k1 : wr.cell? ⟨w1.heap.size + 1, 1, none⟩ = some (.slice none 0 0) := hbx.cell 1
        have k2 := hbx.free 0
        have k3 := hbx.lt
        have hX1 := X1.out.after hbw
        have m2 : wr.cell? ⟨w.heap.size, 2, none⟩ = some (.int .i64 q) := hX1.cell 2
        have m3 := hX1.lt
        have hX2 := X2.out.after hbw
        have p0 : wr.cell? ⟨w.heap.size + 1, 0, none⟩ = some (.slice none 0 0) := hX2.cell 0
        have p1 : wr.cell? ⟨w.heap.size + 1, 1, none⟩ = some (.slice none 0 0) := hX2.cell 1
        have p2 := hX2.free 0
        have p3 := hX2.free 1
        have p4 := hX2.lt
        by_cases hlt : 1 + ts.length + j < q
        · have hne := own_ne hown hbx (by decide)
          have HNe := Lib.hid hne
          have hli : ((1 + ts.length + j : Nat) : Int) < (q : Int) := by omega
          have HNx := Lib.hid (soFar_next cls ts j)
          have HLn := Lib.hid (soFar_len cls ts j)
          generalize soFar cls ts j = pp at *
          clear hbx hown hbw hX1 hX2 hne
          go_wp2_with (at_builtin
                       refine appT rfl (.tmp 49) (.tmp 50) rfl w1.heap.size _ pp rfl (by have h := World.ownsRow.alloc HO.out (.cells #[.string ⟨#[]⟩] 9); exact h) (some ⟨wr.heap.size, 0, none⟩) 1 1 [[]] rfl rfl (rds_new wr #[sv []] 9) (by have := HLn.out; simp; omega) (by simp; omega) ?_
                       intro v2 w2 hown2 hg2
                       have hx2 : Bx w2 (w1.heap.size + 1) #[.slice A (1 + ts.length + j) c, .slice none 0 0] 32 := (hg2.block _ (by simp; omega) (fun e => HNe.out e.symm)).trans ((HX.out.after ((Below.refl _ _).alloc (Nat.le_refl _) _)))
                       have hb2 : Below w1.heap.size w1 w2 := below_own (Hbw.out.alloc (by omega) _) (World.ownsRow.alloc HO.out _) (Nat.le_refl _) (by simp; omega) hg2
                       obtain ⟨A2, n2, c2, rfl⟩ : ∃ A n c, v2 = .slice A n c := by obtain ⟨A, c, h, _⟩ := OwnT.slice hown2; exact ⟨A, _, c, h⟩
                       have hne2 := own_ne hown2 hx2 (by decide)
                       have HO2 : Hid (OwnT (w2.setCell ⟨w1.heap.size + 1, 0, none⟩ (.slice A2 n2 c2)) w1.heap.size (.slice A2 n2 c2) (soFar cls ts (j + 1))) := Lib.hid (by
                         rw [HNx.out]
                         exact TabM.own_same hown2 (fun k hk => heap_setCell_other w2 ⟨w1.heap.size + 1, 0, none⟩ k _ (fun e2 => hne2 (by rw [hk]; exact congrArg some e2))))
                       have HX2 : Hid (Bx (w2.setCell ⟨w1.heap.size + 1, 0, none⟩ (.slice A2 n2 c2)) (w1.heap.size + 1) #[.slice A2 n2 c2, .slice none 0 0] 32) := Lib.hid (hx2.set 0 _)
                       have HB4 : Hid (Below w1.heap.size w1 (w2.setCell ⟨w1.heap.size + 1, 0, none⟩ (.slice A2 n2 c2))) := Lib.hid (hb2.setCell (by show w1.heap.size ≤ w1.heap.size + 1; omega) _ (p := ⟨w1.heap.size + 1, 0, none⟩))
                       have u0 : w2.cell? ⟨w1.heap.size + 1, 0, none⟩ = some (.slice A (1 + ts.length + j) c) := hx2.cell 0
                       have u1 := hx2.free 0
                       have u2 := hx2.lt
                       have HLn2 : Hid (n2 = 1 + ts.length + j + 1) := Lib.hid (by obtain ⟨A', c', e, _⟩ := OwnT.slice hown2; injection e with _ e2 _; rw [e2, List.length_append, HLn.out]; rfl)
                       have HC4 : Hid (lenC ((w2.setCell ⟨w1.heap.size + 1, 0, none⟩ (.slice A2 n2 c2)).cell? ⟨w1.heap.size + 1, 0, none⟩) = n2) := Lib.hid (by rw [HX2.out.cell 0]; rfl)
                       clear hown2 hg2 hx2 hb2 hne2)
          go_roundw
          case rel => exact ⟨j + 1, by omega, Lib.hid ⟨A2, n2, c2, HX2.out, HO2.out⟩, HB4.out⟩
          case measure =>
            have h1 := HC4.out
            have h2 := HLn2.out
            have h3 : lenC (wr.cell? ⟨w1.heap.size + 1, 0, none⟩) = 1 + ts.length + j := by rw [k0]; rfl
            rw [h1, h3]
            omega
        · have hjq : j = q - 1 - ts.length := by omega
          have HR0 := Lib.hid (show Rds wr A ((startL cls ts q).map sv) by
            obtain ⟨A', c', e, _, _, r, _⟩ := OwnT.slice hown
            injection e with e1 _ _
            subst e1
            rw [← soFar_end, ← hjq]
            exact r)
          have HA0 : Hid (∀ a, A = some a → a.block ≠ w.heap.size + 1) := Lib.hid (fun a ha => by
            have := (World.ownsRow.lt hown a.block (by rw [ha]; rfl)).1
            omega)
          have HLq : Hid (1 + ts.length + j = (startL cls ts q).length) := Lib.hid (by rw [start_len hq1]; omega)
          have HW := Lib.hid (KndS.two_bx hX2 (.slice A (1 + ts.length + j) c) (.slice none 0 0))
          have HR := Lib.hid (KndS.two_rds HR0.out (g := w.heap.size + 1) (.slice A (1 + ts.length + j) c) (.slice none 0 0) HA0.out)
          have HBl := Lib.hid (KndS.two_below (B1.out.trans (hbw.mono B1.out.size)) (g := w.heap.size + 1) (by omega) (.slice A (1 + ts.length + j) c) (.slice none 0 0))
          clear hbx hown hbw hX1 hX2 hjq
          go_wp2_with fail
          rw [HF.out]
          exact bodyPost_ret (v := .tuple #[.agg #[.slice A (1 + ts.length + j) c, .slice none 0 0], .int .i64 0]) (result2 Tryz.results6 _ _ _ _ rfl (run_loadVar_row _ _ _ _ #[.slice A (1 + ts.length + j) c, .slice none 0 0] (0, 0) _ HW.out Tryz.underlying32 rfl sizeFrR)) rfl
            ⟨A, c, by rw [HLq.out], HR.out, HBl.out⟩
  · have HF := Lib.hid (show F = ([], 5) by rw [HE.out, if_pos (by simp)])
    go_wp2_with fail
    rw [HF.out]
    exact bodyPost_ret (v := .tuple #[.agg #[.slice none 0 0, .slice none 0 0], .int .i64 5]) (result2 Tryz.results6 _ _ _ _ rfl (run_loadVar_row _ _ _ _ #[.slice none 0 0, .slice none 0 0] (0, 0) _ HFail.out Tryz.underlying32 rfl sizeFrR)) rfl ⟨none, 0, rfl, .inl rfl, KndS.two_below B1.out (by omega) _ _⟩
end KndT
end Go.Proofs.YtdebambmcjcopaaGreatDoor
