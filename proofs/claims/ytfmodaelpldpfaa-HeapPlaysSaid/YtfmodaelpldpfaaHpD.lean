/-
  What law 12's do does to a heap and to the document's heap: they answer alike, and stay alike.
-/
import Derived.Test.YtfmodaelpldpfaaHpW
import Derived.Test.YtfmodaelpldpfaaOpenA
namespace Go.Proofs.Ytfmodaelpldpfaa
namespace HpD
open Go.RowKit Base BinM HpM HpA HpS HpB HpG HpP HpT HpY HpZ HpR HpQ HpE HpF HpI HpJ HpL HpO HpU HpW

section
variable {w0 wr w' w1 : World} {g mb : Nat} {Aw : Option Addr} {cw : Nat} {Aa : Option Addr} {ca r : Nat} {AL : Option Addr} {cL most : Nat} {ms : List ThM} {n : Nat} {f : Int → Option Int}

theorem ms_split {ms : List ThM} {x : Int} (h : x ∈ adr 0 (things ms)) : ∃ p m q, ms = p ++ m :: q ∧ x = (((raw (things p)).length + 1 : Nat) : Int) := by
  obtain ⟨P, t, R, h1, h2⟩ := adr_split h
  rw [Nat.zero_add] at h2
  unfold things at h1
  obtain ⟨p, q', rfl, hp, hq⟩ := List.map_eq_append_iff.1 h1
  obtain ⟨m, q, rfl, _, _⟩ := List.map_eq_cons_iff.1 hq
  exact ⟨p, m, q, rfl, by rw [h2, ← hp]; rfl⟩
theorem at_ne {p : List ThM} {m : ThM} {q : List ThM} (h : (p ++ m :: q).map ThM.at_ = adr 0 (things (p ++ m :: q))) {u : ThM} (hu : u ∈ p ∨ u ∈ q) : u.at_ ≠ m.at_ := by
  have hpw := adr_lt (things (p ++ m :: q)) 0
  rw [← h, List.map_append, List.map_cons, List.pairwise_append, List.pairwise_cons] at hpw
  rcases hu with hu | hu
  · have := hpw.2.2 u.at_ (List.mem_map.2 ⟨u, hu, rfl⟩) m.at_ (by simp)
    omega
  · have := hpw.2.1.1 u.at_ (List.mem_map.2 ⟨u, hu, rfl⟩)
    omega

theorem boxN {w2 : World} {F : Nat → Prop} {ms' : List ThM} (N : NextR w1 w2 F r most ms') {b : Nat} {C : Array Value} {ty : TypeId} (h : Bx w1 b C ty) (hF : ¬ F b) : Bx w2 b C ty := by
  obtain ⟨_, _, _, T, _⟩ := N
  exact (T.block b h.lt hF).trans h
theorem both_set {K : Nat} (hK : ms.length ≤ K) (hn : n ≤ K) (hK' : K ≤ 1000) (S : Sim w0 wr g mb Aw cw Aa ca r AL cL most ms n f) {b : Nat} {C : Array Value} {ty : TypeId} (hx : Bx wr b C ty) (hb : ¬ feet g mb Aw Aa b) (hrb : ¬ rfeet r AL ms b) (x i v : Int) (hv : fitI v) :
    ∃ E : Int, Calls Try.prog 22 #[.pointer (some ⟨g, 0, none⟩), .int .i64 x, .int .i64 i, .int .i64 v] wr fun e w1 => e = .returned (.int .i64 E) ∧ (Bx w1 b C ty ∧ Calls Try.prog 35 #[.pointer (some ⟨r, 0, none⟩), .int .i64 x, .int .i64 i, .int .i64 v] w1 fun e w2 => e = .returned (.int .i64 E) ∧ SimE w0 w2 g r most (K + 1) ∧ Bx w2 b C ty) := by
  by_cases hin : x ∈ adr 0 (things ms)
  · obtain ⟨p, m, q, rfl, rfl⟩ := ms_split hin
    have hat := at_val S.rf.ats
    have hp := S.hp
    have hF := S.fits
    rw [things_mid] at hp hF
    have HP := set_yes hp hF i v
    have hWl : m.t.W.length ≤ 4096 := by
      have := hF.len
      have := hF.top
      rw [raw_mid_len] at *
      omega
    rw [← hat] at HP ⊢
    by_cases hr : 0 ≤ i ∧ i < (m.t.W.length : Int)
    · refine ⟨0, HP.mono ?_⟩
      rintro e w1 (⟨h1, _⟩ | ⟨h1, h2, rfl, h3⟩)
      · exact absurd hr h1
      · have M := S.mid_next h3 hx hb
        refine ⟨rfl, M.box _ _ _ rfl, (rset_yes M.rf (by omega) hWl i v).mono ?_⟩
        rintro e w2 (⟨k1, _⟩ | ⟨_, _, rfl, N⟩)
        · exact absurd hr k1
        · refine ⟨rfl, M.fin_next N (things_set _ _ _ _ _) (fits_set hF _ hv) (fun u hu => ?_) (fun a ha => S.none_ a (fun h => ha ?_)) (by simpa using Nat.le_succ_of_le hK) (by omega), boxN N (M.box _ _ _ rfl) hrb⟩
          · rw [List.mem_append, List.mem_cons] at hu
            rcases hu with hu | rfl | hu
            · exact S.sent u (by simp [hu])
            · exact S.sent m (by simp)
            · exact S.sent u (by simp [hu])
          · rw [adr_set, ← things_mid]
            exact h
    · refine ⟨3, HP.mono ?_⟩
      rintro e w1 (⟨h1, rfl, h3⟩ | ⟨h1, h2, _⟩)
      · have M := S.mid_below h3 hx
        refine ⟨rfl, M.box _ _ _ rfl, (rset_yes M.rf (by omega) hWl i v).mono ?_⟩
        rintro e w2 (⟨_, rfl, rfl⟩ | ⟨k1, k2, _⟩)
        · exact ⟨rfl, M.fin_below (Below.refl _ _) rfl S.fits S.sent S.none_ (by omega) (by omega), M.box _ _ _ rfl⟩
        · exact absurd ⟨k1, k2⟩ hr
      · exact absurd ⟨h1, h2⟩ hr
  · refine ⟨3, (set_no S.hp S.fits x i v hin).mono ?_⟩
    rintro e w1 ⟨rfl, d, rfl⟩
    have M := S.mid_below (drewN_below wr d) hx
    refine ⟨rfl, M.box _ _ _ rfl, (rset_no M.rf (by omega) x i v hin).mono ?_⟩
    rintro e w2 ⟨rfl, rfl⟩
    exact ⟨rfl, M.fin_below (Below.refl _ _) rfl S.fits S.sent S.none_ (by omega) (by omega), M.box _ _ _ rfl⟩

theorem both_send {K : Nat} (hK : ms.length ≤ K) (hn : n ≤ K) (hK' : K ≤ 1000) (S : Sim w0 wr g mb Aw cw Aa ca r AL cL most ms n f) {b : Nat} {C : Array Value} {ty : TypeId} (hx : Bx wr b C ty) (hb : ¬ feet g mb Aw Aa b) (hrb : ¬ rfeet r AL ms b) (x v : Int) (hv : fitI v) :
    ∃ E : Int, Calls Try.prog 31 #[.pointer (some ⟨g, 0, none⟩), .int .i64 x, .int .i64 v] wr fun e w1 => e = .returned (.int .i64 E) ∧ (Bx w1 b C ty ∧ Calls Try.prog 36 #[.pointer (some ⟨r, 0, none⟩), .int .i64 x, .int .i64 v] w1 fun e w2 => e = .returned (.int .i64 E) ∧ SimE w0 w2 g r most (K + 1) ∧ Bx w2 b C ty) := by
  by_cases hin : x ∈ adr 0 (things ms)
  · obtain ⟨p, m, q, rfl, rfl⟩ := ms_split hin
    have hat := at_val S.rf.ats
    have hp := S.hp
    have hF := S.fits
    rw [things_mid] at hp hF
    have HP := send_yes hp hF (by omega) v hv
    rw [← hat] at HP ⊢
    have hs := S.sent m (by simp)
    refine ⟨sendE (f m.at_) v, HP.mono ?_⟩
    rintro e w1 ⟨rfl, h | ⟨h1, h2⟩⟩
    · have M := S.mid_below h.2 hx
      refine ⟨rfl, M.box _ _ _ rfl, (rsend_yes M.rf (by omega) v).mono ?_⟩
      rintro e w2 ⟨rfl, ⟨_, rfl⟩ | ⟨k1, _⟩⟩
      · exact ⟨by rw [hs], M.fin_below (Below.refl _ _) rfl S.fits S.sent S.none_ (by omega) (by omega), M.box _ _ _ rfl⟩
      · exact absurd (by rw [hs]; exact k1) h.1
    · rw [← things_mid] at h2
      have M := S.mid_next h2 hx hb
      refine ⟨rfl, M.box _ _ _ rfl, (rsend_yes M.rf (by omega) v).mono ?_⟩
      rintro e w2 ⟨rfl, ⟨k1, _⟩ | ⟨_, N⟩⟩
      · exact absurd (by rw [← hs]; exact h1) k1
      · have hv1 : ¬ v < 1 := fun hlt => by
          unfold sendE at h1
          rw [if_pos hlt] at h1
          omega
        obtain ⟨Aw', cw', Aa', ca', q1, q2, q3⟩ := M.ex
        have hts : things (p ++ sentM m v :: q) = things p ++ ⟨m.t.id, m.t.W, v⟩ :: things q := by simp [things, sentM]
        have M' : Mid w0 w1 g mb r AL cL most (p ++ m :: q) (things (p ++ sentM m v :: q)) (n + 1) (fun c => if c = m.at_ then some v else f c) (some (b, C, ty)) :=
          ⟨⟨Aw', cw', Aa', ca', by rw [hts, raw_sent, adr_sent, ← things_mid]; exact q1, q2, q3⟩, M.rf, M.rown, M.bel, M.box⟩
        refine ⟨by rw [hs], M'.fin_next N rfl ?_ (fun u hu => ?_) (fun a ha => ?_) (by simpa using Nat.le_succ_of_le hK) (by omega), boxN N (M.box _ _ _ rfl) hrb⟩
        · rw [hts]
          refine ⟨hF.top, by rw [raw_sent]; exact hF.len, fun u hu => ?_, fun u hu => ?_⟩
          · simp only [List.mem_append, List.mem_cons] at hu
            rcases hu with hu | rfl | hu
            · exact hF.ids u (by simp [hu])
            · exact hF.ids m.t (by simp)
            · exact hF.ids u (by simp [hu])
          · simp only [List.mem_append, List.mem_cons] at hu
            rcases hu with hu | rfl | hu
            · exact hF.fit u (by simp [hu])
            · exact hF.fit m.t (by simp)
            · exact hF.fit u (by simp [hu])
        · rw [List.mem_append, List.mem_cons] at hu
          rcases hu with hu | rfl | hu
          · rw [if_neg (at_ne S.rf.ats (.inl hu))]
            exact S.sent u (by simp [hu])
          · show (if m.at_ = m.at_ then some v else f m.at_) = (if v = 0 then none else some v)
            rw [if_pos rfl, if_neg (by omega)]
          · rw [if_neg (at_ne S.rf.ats (.inr hu))]
            exact S.sent u (by simp [hu])
        · rw [hts, adr_sent, ← things_mid] at ha
          rw [if_neg (fun e => ha (by rw [e, hat]; exact hin))]
          exact S.none_ a ha
  · refine ⟨3, (send_no S.hp S.fits x v hin).mono ?_⟩
    rintro e w1 ⟨rfl, d, rfl⟩
    have M := S.mid_below (drewN_below wr d) hx
    refine ⟨rfl, M.box _ _ _ rfl, (rsend_no M.rf (by omega) x v hin).mono ?_⟩
    rintro e w2 ⟨rfl, rfl⟩
    exact ⟨rfl, M.fin_below (Below.refl _ _) rfl S.fits S.sent S.none_ (by omega) (by omega), M.box _ _ _ rfl⟩
end

end HpD
end Go.Proofs.Ytfmodaelpldpfaa
