/-
  What the calls of a hierarchy return: Join, loops; and what there is of none.
-/
import Derived.Test.YtilakpbgpdbchaaDoorHierJ
namespace Go.Proofs.YtilakpbgpdbchaaDoor
namespace HierK
open Go.RowKit BinM Base DescM DescW DescX HierS HierT HierM HierC HierD HierJ
open BinName (ret_bool)

theorem retJ {J : T × Bool} {t : T} {b : Bool} (h : J = (t, b)) : Ending.returned (.tuple #[.string ⟨t.toArray⟩, .bool b]) = .returned (.tuple #[.string ⟨J.1.toArray⟩, .bool J.2]) := by subst h; rfl
theorem meet_len {h : Hr} (hl : ∀ c ∈ h.names, c.length ≤ 140737488355000) (hg : GoodH h) (a b : T) : (h.meet a b).length ≤ 140737488355000 := by
  unfold Hr.meet
  split
  · cases hf : (h.chain (classT a).1).find? (fun c => h.under (classT b).1 c) with
    | none => simp
    | some m => exact hl _ (chain_in hg (List.mem_of_find?_eq_some hf))
  · decide

set_option maxRecDepth 100000 in
set_option maxHeartbeats 4000000 in
theorem join_any (B g : Nat) (h : Hr) (a b : T) (w : World) (H : IsH B w g h) (hB : B ≤ w.heap.size) (hg : GoodH h) (ha : a.length ≤ 140737488355328) (hb : b.length ≤ 140737488355328) :
    Calls Tryd.prog 25 #[.pointer (some ⟨g, 0, none⟩), .string ⟨a.toArray⟩, .string ⟨b.toArray⟩] w fun e w' => e = .returned (.tuple #[.string ⟨(h.join a b).1.toArray⟩, .bool (h.join a b).2]) ∧ Below w.heap.size w w' := by
  have HO := Lib.hid (of_obj w)
  have HS := Lib.hid (fun (wr : World) (hbel : Below w.heap.size w wr) (x y : T) (hx : x.length ≤ 140737488355328) (hy : y.length ≤ 140737488355328) => (sub_any w.heap.size g h x y wr ((H.mono hB).below hbel) hbel.size hg hx hy).mono (R' := fun e w' => e = .returned (.bool (h.sub x y)) ∧ Below w.heap.size w w') fun e w' ⟨h1, h2⟩ => ⟨h1, hbel.trans (h2.mono hbel.size)⟩)
  have HM := Lib.hid (fun (wr : World) (hbel : Below w.heap.size w wr) ka kb => (meet_any w.heap.size g h a b wr ((H.mono hB).below hbel) hbel.size hg ha hb ka kb).mono (R' := fun e w' => e = .returned (.string ⟨(h.meet a b).toArray⟩) ∧ Below w.heap.size w w') fun e w' ⟨h1, h2⟩ => ⟨h1, hbel.trans (h2.mono hbel.size)⟩)
  have h0 := Lib.hid (Below.refl w.heap.size w)
  have Ha := Lib.hid ha
  have Hb := Lib.hid hb
  have Hol := Lib.hid (show (ofT objN).length ≤ 140737488355328 by decide)
  have HOf := Lib.hid (fun wr => of_any (h.meet a b) wr (by have := meet_len H.long hg a b; omega))
  have hj : h.join a b = if h.sub a b then (b, true) else if h.sub b a then (a, true) else if h.sub a (ofT objN) && h.sub b (ofT objN) then (ofT (h.meet a b), true) else ([], false) := rfl
  have hka := fun hs => sub_kon (h := h) (a := a) (b := ofT objN) hs
  have hkb := fun hs => sub_kon (h := h) (a := b) (b := ofT objN) hs
  have Hka := Lib.hid hka
  have Hkb := Lib.hid hkb
  generalize hs1 : h.sub a b = s1 at *
  generalize hs2 : h.sub b a = s2 at *
  generalize hs3 : h.sub a (ofT objN) = s3 at *
  generalize hs4 : h.sub b (ofT objN) = s4 at *
  have HS1 := Lib.hid (fun wr hbel => (HS.out wr hbel a b Ha.out Hb.out))
  have HS2 := Lib.hid (fun wr hbel => (HS.out wr hbel b a Hb.out Ha.out))
  have HS3 := Lib.hid (fun wr hbel => (HS.out wr hbel a (ofT objN) Ha.out Hol.out))
  have HS4 := Lib.hid (fun wr hbel => (HS.out wr hbel b (ofT objN) Hb.out Hol.out))
  rw [hs1] at HS1; rw [hs2] at HS2; rw [hs3] at HS3; rw [hs4] at HS4
  clear hs1 hs2 hs3 hs4 hka hkb ha hb H hB hg
  generalize h.join a b = J at *
  generalize h.meet a b = M at *
  cases s1
  · cases s2
    · cases s3
      · have Hfin := Lib.hid (show J = ([], false) from hj)
        clear hj
        go_enter Tryd.func25, Tryd.ntmps25
        go_wp2_with fail
        refine HO.out.mono ?_; rintro e w' ⟨rfl, rfl⟩
        go_wp2_with fail
        refine (HS1.out _ h0.out).mono ?_; rintro e w1 ⟨rfl, hb1⟩
        go_wp2_with fail
        refine (HS2.out _ hb1).mono ?_; rintro e w2 ⟨rfl, hb2⟩
        go_wp2_with fail
        refine (HS3.out _ hb2).mono ?_; rintro e w3 ⟨rfl, hb3⟩
        go_wp2_with fail
        go_ret2
        exact ⟨retJ Hfin.out, hb3⟩
      · cases s4
        · have Hfin := Lib.hid (show J = ([], false) from hj)
          clear hj
          go_enter Tryd.func25, Tryd.ntmps25
          go_wp2_with fail
          refine HO.out.mono ?_; rintro e w' ⟨rfl, rfl⟩
          go_wp2_with fail
          refine (HS1.out _ h0.out).mono ?_; rintro e w1 ⟨rfl, hb1⟩
          go_wp2_with fail
          refine (HS2.out _ hb1).mono ?_; rintro e w2 ⟨rfl, hb2⟩
          go_wp2_with fail
          refine (HS3.out _ hb2).mono ?_; rintro e w3 ⟨rfl, hb3⟩
          go_wp2_with fail
          refine (HS4.out _ hb3).mono ?_; rintro e w4 ⟨rfl, hb4⟩
          go_wp2_with fail
          go_ret2
          exact ⟨retJ Hfin.out, hb4⟩
        · have Hfin := Lib.hid (show J = (ofT M, true) from hj)
          clear hj
          go_enter Tryd.func25, Tryd.ntmps25
          go_wp2_with fail
          refine HO.out.mono ?_; rintro e w' ⟨rfl, rfl⟩
          go_wp2_with fail
          refine (HS1.out _ h0.out).mono ?_; rintro e w1 ⟨rfl, hb1⟩
          go_wp2_with fail
          refine (HS2.out _ hb1).mono ?_; rintro e w2 ⟨rfl, hb2⟩
          go_wp2_with fail
          refine (HS3.out _ hb2).mono ?_; rintro e w3 ⟨rfl, hb3⟩
          go_wp2_with fail
          refine (HS4.out _ hb3).mono ?_; rintro e w4 ⟨rfl, hb4⟩
          go_wp2_with fail
          refine (HM.out _ hb4 (Hka.out trivial) (Hkb.out trivial)).mono ?_; rintro e w5 ⟨rfl, hb5⟩
          go_wp2_with fail
          refine (HOf.out _).mono ?_; rintro e w' ⟨rfl, rfl⟩
          go_wp2_with fail
          go_ret2
          exact ⟨retJ Hfin.out, hb5⟩
    · have Hfin := Lib.hid (show J = (a, true) from hj)
      clear hj
      go_enter Tryd.func25, Tryd.ntmps25
      go_wp2_with fail
      refine HO.out.mono ?_; rintro e w' ⟨rfl, rfl⟩
      go_wp2_with fail
      refine (HS1.out _ h0.out).mono ?_; rintro e w1 ⟨rfl, hb1⟩
      go_wp2_with fail
      refine (HS2.out _ hb1).mono ?_; rintro e w2 ⟨rfl, hb2⟩
      go_wp2_with fail
      go_ret2
      exact ⟨retJ Hfin.out, hb2⟩
  · have Hfin := Lib.hid (show J = (b, true) from hj)
    clear hj
    go_enter Tryd.func25, Tryd.ntmps25
    go_wp2_with fail
    refine HO.out.mono ?_; rintro e w' ⟨rfl, rfl⟩
    go_wp2_with fail
    refine (HS1.out _ h0.out).mono ?_; rintro e w1 ⟨rfl, hb1⟩
    go_wp2_with fail
    go_ret2
    exact ⟨retJ Hfin.out, hb1⟩

set_option maxRecDepth 100000 in
theorem join_nil (a b : ByteArray) (w : World) :
    Calls Tryd.prog 25 #[.pointer none, .string a, .string b] w fun e w' => e = .returned (.tuple #[.string ⟨#[]⟩, .bool false]) ∧ w = w' := by
  have HO := Lib.hid (of_obj w)
  have HS := Lib.hid (fun a b => sub_nil a b w)
  go_enter Tryd.func25, Tryd.ntmps25
  go_wp2_with fail
  refine HO.out.mono ?_; rintro e w' ⟨rfl, rfl⟩
  go_wp2_with fail
  refine (HS.out _ _).mono ?_; rintro e w' ⟨rfl, rfl⟩
  go_wp2_with fail
  refine (HS.out _ _).mono ?_; rintro e w' ⟨rfl, rfl⟩
  go_wp2_with fail
  refine (HS.out _ _).mono ?_; rintro e w' ⟨rfl, rfl⟩
  go_wp2_with fail
  go_ret2
  exact ⟨rfl, rfl⟩
theorem chain_nil (c : ByteArray) (w : World) :
    Calls Tryd.prog 17 #[.pointer none, .string c] w fun e w' => e = .returned (.slice none 0 0) ∧ w = w' := by
  have HK := Lib.hid (has_nil c w)
  go_enter Tryd.func17, Tryd.ntmps17
  go_wp2_with (go_at_call 15; refine HK.out.mono ?_; rintro e w' ⟨rfl, rfl⟩)
  go_ret
  exact ⟨rfl, rfl⟩

/-- where one stands -/
def curT (o : T × Bool) : Option T := if o.2 then some o.1 else none
theorem cur_super (h : Hr) (c : T) : curT (superT h c) = h.up c := by
  unfold superT curT
  cases h.up c <;> rfl
set_option maxRecDepth 100000 in
set_option maxHeartbeats 2000000 in
theorem loops_any (B g : Nat) (h : Hr) (c : T) (w : World) (H : IsH B w g h) (hc : c.length ≤ 140737488355328) :
    Calls Tryd.prog 40 #[.pointer (some ⟨g, 0, none⟩), .string ⟨c.toArray⟩] w fun e w' => e = .returned (.bool (loopF h.up h.names.length (h.up c) c)) ∧ w = w' := by
  have HS := Lib.hid (fun c o (hl : c.length ≤ 140737488355328) ho => super_t B g h c o w H hl ho)
  have Hlong := Lib.hid H.long
  obtain ⟨A, n, cap, mb, h1, h2, h3, h4, h5, _⟩ := H.cells
  have hfew := H.few
  have c0 : w.cell? ⟨g, 0, none⟩ = some (.slice A n cap) := cell_of_row _ _ _ _ _ (0, 0) h1
  have hn41 : n ≤ 41 := by omega
  have hnl : n ≤ h.names.length := by omega
  have hnl2 : h.names.length ≤ n := by omega
  generalize hS : superT h c = S at *
  have HS1 := Lib.hid (HS.out c S hc hS)
  have Hst := Lib.hid (show loopF h.up h.names.length (h.up c) c = loopF h.up (h.names.length - 0) (curT S) c by rw [← hS, cur_super]; rfl)
  have Hst1 := Lib.hid (show S.2 = true → S.1 ∈ h.names by
    intro h
    rw [← hS] at h ⊢
    unfold superT at h ⊢
    cases hu : Hr.up _ c with
    | none => rw [hu] at h; cases h
    | some d => exact up_in hu)
  clear h1 h2 h3 h4 h5 H hS hc
  go_enter Tryd.func40, Tryd.ntmps40
  go_wp2_with (go_at_call 10; refine HS1.out.mono ?_; rintro e w' ⟨rfl, rfl⟩)
  go_loop [5, 6, 18] (fun u ok i => ∃ (k : Nat) (o : T × Bool), k ≤ n ∧ i = .int .i64 k ∧ u = .string ⟨o.1.toArray⟩ ∧ ok = .bool o.2 ∧ (o.2 = true → o.1 ∈ h.names) ∧ loopF h.up h.names.length (h.up c) c = loopF h.up (h.names.length - k) (curT o) c) (fun _ _ i => n - (intOf i).toNat)
  case atStart => exact ⟨0, S, Nat.zero_le _, rfl, rfl, rfl, Hst1.out, Hst.out⟩
  case round =>
    obtain ⟨k, o, hk, rfl, rfl, rfl, hin, hst⟩ := hrel
    obtain ⟨u, ok⟩ := o
    simp only at hin
    by_cases hlt : k < n
    · obtain ⟨m, hm⟩ : ∃ m, h.names.length - k = m + 1 := ⟨h.names.length - k - 1, by omega⟩
      have hm2 : m = h.names.length - (k + 1) := by omega
      rw [hm] at hst
      cases ok
      · have Hfin := Lib.hid (show loopF h.up h.names.length (h.up c) c = false from hst)
        clear hst hm hin
        go_wp2_with fail
        go_ret
        exact ⟨ret_bool (by rw [Hfin.out]), rfl⟩
      · cases hE : u == c
        · have hst2 : loopF h.up h.names.length (h.up c) c = loopF h.up (h.names.length - (k + 1)) (h.up u) c := by
            rw [hst, ← hm2]
            show (u == c || loopF h.up m (h.up u) c) = _
            rw [hE]; rfl
          generalize hS2 : superT h u = S2 at *
          have Hul := Lib.hid (Hlong.out u (hin rfl))
          have HS2 := Lib.hid (HS.out u S2 (Nat.le_trans Hul.out (by omega)) hS2)
          have Hst2 := Lib.hid (show loopF h.up h.names.length (h.up c) c = loopF h.up (h.names.length - (k + 1)) (curT S2) c by rw [hst2, ← hS2, cur_super])
          have Hin2 := Lib.hid (show S2.2 = true → S2.1 ∈ h.names by
            intro h
            rw [← hS2] at h ⊢
            unfold superT at h ⊢
            cases hu : Hr.up _ u with
            | none => rw [hu] at h; cases h
            | some d => exact up_in hu)
          clear hst hst2 hm hm2 hin hS2
          go_wp2_with (go_at_call 10; refine HS2.out.mono ?_; rintro e w' ⟨rfl, rfl⟩)
          go_round
          case rel => exact ⟨k + 1, S2, by omega, by go_num, rfl, rfl, Hin2.out, Hst2.out⟩
          case measure => simp [intOf]; omega
        · have Hfin := Lib.hid (show loopF h.up h.names.length (h.up c) c = true by
            rw [hst]
            show (u == c || loopF h.up m (h.up u) c) = _
            rw [hE]; rfl)
          clear hst hm hin
          go_wp2_with fail
          go_ret
          exact ⟨ret_bool (by rw [Hfin.out]), rfl⟩
    · have Hfin := Lib.hid (show loopF h.up h.names.length (h.up c) c = false by
        rw [hst, show h.names.length - k = 0 by omega]; rfl)
      clear hst hin
      go_wp2_with fail
      go_ret
      exact ⟨ret_bool (by rw [Hfin.out]), rfl⟩
end HierK
end Go.Proofs.YtilakpbgpdbchaaDoor
