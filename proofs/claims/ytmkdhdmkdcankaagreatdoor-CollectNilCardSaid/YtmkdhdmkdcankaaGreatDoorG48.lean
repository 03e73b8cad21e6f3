/-
  collect of no heap, or of no Prog.
-/
import Derived.Test.YtmkdhdmkdcankaaGreatDoorG37
import Derived.Test.YtmkdhdmkdcankaaGreatDoorG47
import Derived.StillTailTactics
import Derived.Deep.RegionHeld3
import Derived.Test.YtmkdhdmkdcankaaGreatDoorRows
import Derived.Test.YtmkdhdmkdcankaaGreatDoorG12
import Derived.OpenShut
import Derived.ChangeArms
import Derived.ChangeSame
import Derived.FnData
namespace Go.Proofs.YtmkdhdmkdcankaaGreatDoor
namespace ClN
open Go.RowKit Base BinM HpM HpA

section
variable (w : World) (h p : Option Addr) (A : Option Addr) (m c : Nat) (hn : h = none ∨ p = none)
include hn
theorem reach_nil : Calls Tryz.prog 10 #[.pointer h, .pointer p, .slice A m c] w fun e w' => e = .returned (.tuple #[.slice none 0 0, .int .i64 1]) ∧ w = w' := by
  rcases hn with rfl | rfl
  · go_enter Tryz.func10, Tryz.ntmps10
    go_wp2_with fail
    go_ret2
    exact ⟨rfl, rfl⟩
  · cases h with
    | none =>
      go_enter Tryz.func10, Tryz.ntmps10
      go_wp2_with fail
      go_ret2
      exact ⟨rfl, rfl⟩
    | some a =>
      go_enter Tryz.func10, Tryz.ntmps10
      go_wp2_with fail
      go_ret2
      exact ⟨rfl, rfl⟩
theorem refs_nil (x : Int) : Calls Tryz.prog 16 #[.pointer h, .pointer p, .int .i64 x] w fun e w' => e = .returned (.tuple #[.slice none 0 0, .int .i64 1]) ∧ w = w' := by
  rcases hn with rfl | rfl
  · go_enter Tryz.func16, Tryz.ntmps16
    go_wp2_with fail
    go_ret2
    exact ⟨rfl, rfl⟩
  · cases h with
    | none =>
      go_enter Tryz.func16, Tryz.ntmps16
      go_wp2_with fail
      go_ret2
      exact ⟨rfl, rfl⟩
    | some a =>
      go_enter Tryz.func16, Tryz.ntmps16
      go_wp2_with fail
      go_ret2
      exact ⟨rfl, rfl⟩
theorem live_nil : Calls Tryz.prog 13 #[.pointer h, .pointer p, .slice A m c] w fun e w' => e = .returned (.tuple #[.int .i64 0, .int .i64 1]) ∧ w = w' := by
  have HR := Lib.hid (reach_nil w h p A m c hn)
  go_enter Tryz.func13, Tryz.ntmps13
  go_wp2_with fail
  refine HR.out.mono ?_
  rintro e w' ⟨rfl, rfl⟩
  go_wp2_with fail
  go_ret2
  exact ⟨rfl, rfl⟩
theorem run_nil : Calls Tryz.prog 21 #[.pointer h, .pointer p, .slice A m c] w fun e w' => e = .returned (.tuple #[.pointer none, .slice none 0 0, .int .i64 1]) ∧ w = w' := by
  have HR := Lib.hid (reach_nil w h p A m c hn)
  go_enter Tryz.func21, Tryz.ntmps21
  go_wp2_with fail
  refine HR.out.mono ?_
  rintro e w' ⟨rfl, rfl⟩
  go_wp2_with fail
  go_ret3
  exact ⟨rfl, rfl⟩
end
end ClN
end Go.Proofs.YtmkdhdmkdcankaaGreatDoor
/-
  Law 13: Refs, Reach, Live of a play.
-/
namespace Go.Proofs.YtmkdhdmkdcankaaGreatDoor
namespace ClP
open Go.RowKit Base BinM HpM HpA HpB HpG HpP HpT HpZ HpR HpQ HpW ClM ClX ClY ClZ ClI ClJ ClA ClC ClL

theorem Play.later {w wr w' : World} {x g r p u : Nat} {ts : List Th} (P : Play w wr x g r p u ts) (hb : Below wr.heap.size wr w') : Play w w' x g r p u ts := by
  obtain ⟨⟨w1, h1, S, h2, h3⟩, h4⟩ := P
  exact ⟨⟨w1, h1, S.beside hb, h2, h3⟩, h4⟩
theorem Play.low {w wr : World} {x g r p u : Nat} {ts : List Th} (P : Play w wr x g r p u ts) : Below w.heap.size w wr := by
  obtain ⟨⟨w1, h1, S, h2, h3⟩, h4⟩ := P
  exact h1.trans ((sim_low S).mono h1.size)
theorem Play.box {w wr : World} {x g r p u : Nat} {ts : List Th} (P : Play w wr x g r p u ts) : Bx wr x (bx x g r p u).2.1 (bx x g r p u).2.2 := by
  obtain ⟨⟨w1, h1, S, h2, h3⟩, h4⟩ := P
  exact sim_box S (List.mem_singleton.2 rfl)
section
variable {w wr : World} {x g r p u : Nat} {ts : List Th}
theorem play_reach (P : Play w wr x g r p u ts) {Ar : Option Addr} {cr : Nat} {roots : List Int} (R : Rds wr Ar (roots.map (Value.int .i64))) (hrl : roots.length ≤ 100000) (hfr : ∀ x ∈ roots, fitI x) :
    Calls Tryz.prog 10 #[.pointer (some ⟨g, 0, none⟩), .pointer (some ⟨p, 0, none⟩), .slice Ar roots.length cr] wr (GivesReach wr (reachE ts roots)) := by
  obtain ⟨⟨w1, h1, S, ⟨lo, y, t, gg, mb, n, A, c, h, L, f, hP, hs⟩, h3⟩, h4⟩ := P
  have hl := sim_low S
  obtain ⟨a1, a2, a3, a4, a5, a6, a7, a8, a9, S, rfl, h2, h5⟩ := S
  exact reach_any (hP wr hl) hs S.hp S.fits (by omega) R hrl hfr
theorem play_live (P : Play w wr x g r p u ts) {Ar : Option Addr} {cr : Nat} {roots : List Int} (R : Rds wr Ar (roots.map (Value.int .i64))) (hrl : roots.length ≤ 100000) (hfr : ∀ x ∈ roots, fitI x) :
    Calls Tryz.prog 13 #[.pointer (some ⟨g, 0, none⟩), .pointer (some ⟨p, 0, none⟩), .slice Ar roots.length cr] wr fun e w' => e = .returned (.tuple #[.int .i64 (liveE ts roots).1, .int .i64 (liveE ts roots).2]) ∧ Below wr.heap.size wr w' := by
  obtain ⟨⟨w1, h1, S, ⟨lo, y, t, gg, mb, n, A, c, h, L, f, hP, hs⟩, h3⟩, h4⟩ := P
  have hl := sim_low S
  obtain ⟨a1, a2, a3, a4, a5, a6, a7, a8, a9, S, rfl, h2, h5⟩ := S
  exact live_any (hP wr hl) hs S.hp S.fits (by omega) R hrl hfr
/-- nothing of a play is sent anywhere -/
theorem unsent {w0 : World} {mb : Nat} {Aw Aa AL : Option Addr} {cw ca cL most : Nat} {ms : List HpR.ThM} {n : Nat} {f : Int → Option Int} (S : Sim w0 wr g mb Aw cw Aa ca r AL cL most ms n f) (h : ∀ t ∈ things ms, t.s = 0) : f = fun _ => none := by
  funext v
  by_cases hv : v ∈ adr 0 (things ms)
  · rw [← S.rf.ats, List.mem_map] at hv
    obtain ⟨m, hm, rfl⟩ := hv
    rw [S.sent m hm, if_pos (h m.t (by unfold things; exact List.mem_map.2 ⟨m, hm, rfl⟩))]
  · exact S.none_ v hv
end
/-- the makes and the sets of known -/
def kM : List OpenMk.MkT := [⟨1, 0, []⟩, ⟨0, 0, []⟩, ⟨0, 0, []⟩]
def kS : List OpenMk.StT := [⟨1, 1, 2, false, 0⟩, ⟨2, 1, 1, false, 0⟩]
set_option maxRecDepth 100000 in
theorem known_live : liveE (playT kM kS) [2] = (8, 0) := by kernel_rfl
set_option maxRecDepth 100000 in
theorem known_reach : reachE (playT kM kS) [2] = (0, [2, 6]) := by kernel_rfl
end ClP
end Go.Proofs.YtmkdhdmkdcankaaGreatDoor
/-
  Law 13: the roots that a play is asked with.
-/
namespace Go.Proofs.YtmkdhdmkdcankaaGreatDoor
namespace ClQ
open Go.RowKit Base BinM HpM HpA HpB HpG HpP HpT HpZ HpR HpQ HpW ClM ClX ClY ClZ ClI ClJ ClP

end ClQ
end Go.Proofs.YtmkdhdmkdcankaaGreatDoor
/-
  Law 13: what must come of fixed calls.
-/
namespace Go.Proofs.YtmkdhdmkdcankaaGreatDoor
namespace ClO
open Go.RowKit Base BinM HpM HpA HpB HpG HpP HpT HpZ HpR HpQ HpW ClM ClX ClY ClZ ClI ClJ ClP

set_option maxRecDepth 100000 in
theorem known_run : ClW.runE (playT kM kS) (fun _ => none) [2] = (0, [2, 6]) := by kernel_rfl
set_option maxRecDepth 100000 in
theorem known_words : (raw ([2, 6].map (ClV.cpT (playT kM kS) (ClS.sentF (playT kM kS) (fun _ => none) [2, 6])))).length = 8 := by kernel_rfl
set_option maxRecDepth 100000 in
theorem known_now : ([2] : List Int).map (fun x => (ClS.sentF (playT kM kS) (fun _ => none) [2, 6] x).getD 0) = [1] := by kernel_rfl
theorem play_run2 {w wq wr : World} {x g r p u : Nat} {ts : List Th} (P : Play w wq x g r p u ts) (hb : Below wq.heap.size wq wr) {Ar : Option Addr} {cr : Nat} {roots : List Int} (R : Rds wr Ar (roots.map (Value.int .i64))) (hA : ∀ a, Ar = some a → wq.heap.size ≤ a.block) (hrl : roots.length ≤ 100000) (hfr : ∀ x ∈ roots, fitI x) :
    ∃ mb Aw Aa, ((∀ k, feet g mb Aw Aa k → w.heap.size ≤ k ∧ k < wq.heap.size) ∧ ¬ feet g mb Aw Aa x ∧ (∃ AL cL ms, RfX wr r AL cL 400 ms ∧ things ms = ts ∧ ∀ k, feet g mb Aw Aa k → ¬ rfeet r AL ms k) ∧ ∃ cw ca, HpX wr g mb Aw cw Aa ca 400 (raw ts) (adr 0 ts) 0 (fun _ => none)) ∧ Calls Tryz.prog 21 #[.pointer (some ⟨g, 0, none⟩), .pointer (some ⟨p, 0, none⟩), .slice Ar roots.length cr] wr (ClW.GivesRun (feet g mb Aw Aa) wr g 400 ts 0 (fun _ => none) roots) := by
  obtain ⟨⟨w1, h1, S0, ⟨lo, y, t, gg, mb, n, A, c, h, L, f, hP, hs⟩, h3⟩, h4⟩ := P
  have hl := sim_low S0
  obtain ⟨a1, a2, a3, a4, a5, a6, a7, a8, a9, S0, rfl, h2, h5⟩ := S0
  have S := S0.beside hb
  have hf := unsent S h2
  subst hf
  refine ⟨a1, a2, a4, ⟨fun k hk => ⟨Nat.le_trans h1.size (S.own k hk), S0.hp.lt hk⟩, (h5 _ (List.mem_singleton.2 rfl)).2.1, ⟨a6, a7, a8, S.rf, rfl, S.apart⟩, a3, a5, S.hp⟩, ClW.run_any (fun w' T => hP w' ((hl.trans (hb.mono hl.size)).trans (T.below S.own S.bel.size))) hs S.hp S.fits (by omega) (by omega) (by omega) (fun v => by show fitI 0; unfold fitI; omega) R (fun a ha _ hk => ?_) hrl hfr⟩
  have h6 := S0.hp.lt hk
  have h7 := hA a ha
  omega
/-- what Run gives of known's play -/
theorem run_known {w wq wr : World} {x g r p u : Nat} (P : Play w wq x g r p u (playT kM kS)) (hb : Below wq.heap.size wq wr) {b : Nat} (hx : Bx wr b #[.int .i64 2] 2) (hbl : wq.heap.size ≤ b) :
    Calls Tryz.prog 21 #[.pointer (some ⟨g, 0, none⟩), .pointer (some ⟨p, 0, none⟩), .slice (some ⟨b, 0, none⟩) 1 1] wr fun e w' => ∃ g2 b2 mp2 Aw2 cw2 Aa2 ca2 al n2 f2 ws, e = .returned (.tuple #[.pointer (some ⟨g2, 0, none⟩), .slice (some ⟨b2, 0, none⟩) 1 1, .int .i64 0]) ∧ ws.length = 8 ∧ HpX w' g2 mp2 Aw2 cw2 Aa2 ca2 400 ws al n2 f2 ∧ Rds w' (some ⟨b2, 0, none⟩) ([1].map (Value.int .i64)) ∧ Below w.heap.size w w' ∧ w'.heap[x]? = wr.heap[x]? := by
  have hlow := ClP.Play.low P
  obtain ⟨mb, Aw, Aa, ⟨hlo, hxf, _⟩, H⟩ := play_run2 P hb (TabZ.rds_bx hx) (fun a ha => by injection ha with ha; subst ha; exact hbl) (cr := 1) (roots := [2]) (by simp) (by intro y hy; rw [List.mem_singleton] at hy; subst hy; unfold fitI; omega)
  refine H.mono ?_
  rintro e w' (⟨h, _⟩ | ⟨_, g2, b2, out, hr, rfl, T, _, hbl2⟩)
  · rw [known_run] at h; exact absurd rfl h
  · rw [known_reach] at hr
    injection hr with _ hr
    subst hr
    obtain ⟨mp, Aw1, cw, Aa1, ca, mp2, Aw2, cw2, Aa2, ca2, n2, f2, T, hS⟩ := T
    refine ⟨g2, b2, mp2, Aw2, cw2, Aa2, ca2, _, n2, f2, _, rfl, known_words, T.g, ?_, ?_, ?_⟩
    · have h2 := (hS _ (List.mem_singleton.2 rfl)).1
      rw [known_now] at h2
      exact h2
    · exact (hlow.trans (hb.mono hlow.size)).trans (T.tur.below (fun k hk => (hlo k hk).1) (Nat.le_trans hlow.size hb.size))
    · exact T.tur.block x (Nat.lt_of_lt_of_le (ClP.Play.box P).lt hb.size) hxf

set_option maxRecDepth 100000 in
set_option maxHeartbeats 16000000 in
theorem known_any (w : World) (hL : InsA.Laid w) : Calls Tryz.prog 19 #[] w fun e w' => e = .returned (.bool true) ∧ Below w.heap.size w w' := by
  have b1 := Bx.new w #[.int .i64 1, .int .i64 0, .string ⟨#[]⟩, .int .i64 0, .int .i64 0, .string ⟨#[]⟩, .int .i64 0, .int .i64 0, .string ⟨#[]⟩] 89
  have b2 := Bx.new (w.alloc (.cells #[.int .i64 1, .int .i64 0, .string ⟨#[]⟩, .int .i64 0, .int .i64 0, .string ⟨#[]⟩, .int .i64 0, .int .i64 0, .string ⟨#[]⟩] 89)) #[.int .i64 1, .int .i64 1, .int .i64 2, .bool false, .int .i64 0, .int .i64 2, .int .i64 1, .int .i64 1, .bool false, .int .i64 0] 92
  have hal : Below w.heap.size w ((w.alloc (.cells #[.int .i64 1, .int .i64 0, .string ⟨#[]⟩, .int .i64 0, .int .i64 0, .string ⟨#[]⟩, .int .i64 0, .int .i64 0, .string ⟨#[]⟩] 89)).alloc (.cells #[.int .i64 1, .int .i64 1, .int .i64 2, .bool false, .int .i64 0, .int .i64 2, .int .i64 1, .int .i64 1, .bool false, .int .i64 0] 92)) := ((Below.refl _ w).alloc (Nat.le_refl _) _).alloc (by simp) _
  have b1' := b1.after (((Below.refl _ _).alloc (Nat.le_refl _) (.cells #[.int .i64 1, .int .i64 1, .int .i64 2, .bool false, .int .i64 0, .int .i64 2, .int .i64 1, .int .i64 1, .bool false, .int .i64 0] 92)) : Below (w.alloc (.cells #[.int .i64 1, .int .i64 0, .string ⟨#[]⟩, .int .i64 0, .int .i64 0, .string ⟨#[]⟩, .int .i64 0, .int .i64 0, .string ⟨#[]⟩] 89)).heap.size _ _)
  rw [World.size_alloc] at b2
  have HBg := Lib.hid (ClK.begin_any (some ⟨w.heap.size, 0, none⟩) (some ⟨w.heap.size + 1, 0, none⟩) 3 2 kM kS ((w.alloc (.cells #[.int .i64 1, .int .i64 0, .string ⟨#[]⟩, .int .i64 0, .int .i64 0, .string ⟨#[]⟩, .int .i64 0, .int .i64 0, .string ⟨#[]⟩] 89)).alloc (.cells #[.int .i64 1, .int .i64 1, .int .i64 2, .bool false, .int .i64 0, .int .i64 2, .int .i64 1, .int .i64 1, .bool false, .int .i64 0] 92)) (TabZ.rds_bx b1') (by intro m hm; simp [kM] at hm; rcases hm with rfl | rfl <;> exact ⟨by unfold Stru.fitI; decide, by unfold Stru.fitI; decide, by simp⟩) (TabZ.rds_bx b2) (by intro m hm; simp [kS] at hm; rcases hm with rfl | rfl <;> exact ⟨by unfold Stru.fitI; decide, by unfold Stru.fitI; decide, by unfold Stru.fitI; decide, by unfold Stru.fitI; decide⟩) (hL.below hal hL.1))
  have HAl := Lib.hid hal
  clear b1 b1' b2 hal hL
  go_enter Tryz.func19, Tryz.ntmps19
  go_wp2_with fail
  generalize ((w.alloc (.cells #[.int .i64 1, .int .i64 0, .string ⟨#[]⟩, .int .i64 0, .int .i64 0, .string ⟨#[]⟩, .int .i64 0, .int .i64 0, .string ⟨#[]⟩] 89)).alloc (.cells #[.int .i64 1, .int .i64 1, .int .i64 2, .bool false, .int .i64 0, .int .i64 2, .int .i64 1, .int .i64 1, .bool false, .int .i64 0] 92)) = w2 at *
  refine HBg.out.mono ?_
  rintro e w3 ⟨x, rfl, g, r, p, u, hP⟩
  have hx := ClP.Play.box hP
  have a0 : w3.cell? ⟨x, 0, none⟩ = some (.pointer (some ⟨g, 0, none⟩)) := hx.cell 0
  have a1 : w3.cell? ⟨x, 2, none⟩ = some (.pointer (some ⟨p, 0, none⟩)) := hx.cell 2
  have hxl := hx.lt
  have HP := Lib.hid hP
  have HX := Lib.hid hx
  have B3 := Lib.hid (HAl.out.trans ((ClP.Play.low hP).mono HAl.out.size))
  clear hP hx HBg
  go_wp2_with fail
  have HLv : Hid (∀ (v : World) (k : Nat), Below w3.heap.size w3 v → Bx v k #[.int .i64 2] 2 → Calls Tryz.prog 13 #[.pointer (some ⟨g, 0, none⟩), .pointer (some ⟨p, 0, none⟩), .slice (some ⟨k, 0, none⟩) 1 1] v fun e w' => e = .returned (.tuple #[.int .i64 8, .int .i64 0]) ∧ Below v.heap.size v w') := Lib.hid (fun v k hv hk => by
    have h := play_live (ClP.Play.later HP.out hv) (TabZ.rds_bx hk) (cr := 1) (roots := [2]) (by simp) (by intro y hy; rw [List.mem_singleton] at hy; subst hy; unfold fitI; omega)
    rw [known_live] at h
    exact h)
  have HRn : Hid (∀ (v : World) (k : Nat), Below w3.heap.size w3 v → Bx v k #[.int .i64 2] 2 → w3.heap.size ≤ k → Calls Tryz.prog 21 #[.pointer (some ⟨g, 0, none⟩), .pointer (some ⟨p, 0, none⟩), .slice (some ⟨k, 0, none⟩) 1 1] v fun e w' => ∃ g2 b2 mp2 Aw2 cw2 Aa2 ca2 al n2 f2 ws, e = .returned (.tuple #[.pointer (some ⟨g2, 0, none⟩), .slice (some ⟨b2, 0, none⟩) 1 1, .int .i64 0]) ∧ ws.length = 8 ∧ HpX w' g2 mp2 Aw2 cw2 Aa2 ca2 400 ws al n2 f2 ∧ Rds w' (some ⟨b2, 0, none⟩) ([1].map (Value.int .i64)) ∧ Below w2.heap.size w2 w' ∧ w'.heap[x]? = v.heap[x]?) := Lib.hid (fun v k hv hk hl => run_known HP.out hv hk hl)
  have hB0 : Below w3.heap.size w3 w3 := Below.refl _ _
  have hA1 : Below w3.heap.size w3 (w3.alloc (.cells #[.int .i64 2] 2)) := hB0.alloc (Nat.le_refl _) _
  have hBx : Bx (w3.alloc (.cells #[.int .i64 2] 2)) w3.heap.size #[.int .i64 2] 2 := Bx.new _ _ _
  have hBxd : Bx (w3.alloc (.cells #[.int .i64 2] 2)).drew w3.heap.size #[.int .i64 2] 2 := hBx
  go_region_held3 (fun w' => w'.cell? ⟨x, 0, none⟩ = some (.pointer (some ⟨g, 0, none⟩)) ∧ w'.cell? ⟨x, 2, none⟩ = some (.pointer (some ⟨p, 0, none⟩)))
    (first | (with_reducible exact ⟨a0, a1⟩) | (with_reducible exact ⟨c0, c1⟩) | go_keep)
    (first
      | (go_at_call 13
         refine (HLv.out _ _ hA1.drew hBxd).mono ?_
         rintro e w5 ⟨rfl, hb5⟩
         have B5 := Lib.hid (hA1.drew.trans (hb5.mono hA1.drew.size))
         have c0 : w5.cell? ⟨x, 0, none⟩ = some (.pointer (some ⟨g, 0, none⟩)) := (HX.out.after B5.out).cell 0
         have c1 : w5.cell? ⟨x, 2, none⟩ = some (.pointer (some ⟨p, 0, none⟩)) := (HX.out.after B5.out).cell 2
         clear hb5))
  clear hA1 hBx hBxd hB0 a0 a1 HLv
  go_wp2_with fail
  have hA1 : Below w3.heap.size w3 (w5.alloc (.cells #[.int .i64 2] 2)) := B5.out.alloc B5.out.size _
  have hBxd : Bx (w5.alloc (.cells #[.int .i64 2] 2)).drew w5.heap.size #[.int .i64 2] 2 := Bx.new _ _ _
  have hxl5 : x < w5.heap.size := Nat.lt_of_lt_of_le hxl B5.out.size
  go_region_held3 (fun w' => w'.cell? ⟨x, 0, none⟩ = some (.pointer (some ⟨g, 0, none⟩)) ∧ w'.cell? ⟨x, 2, none⟩ = some (.pointer (some ⟨p, 0, none⟩)))
    (first | (with_reducible exact ⟨c0, c1⟩) | (with_reducible exact ⟨d0, d1⟩) | go_keep)
    (first
      | (go_at_call 21
         refine (HRn.out _ _ hA1.drew hBxd B5.out.size).mono ?_
         rintro e w6 ⟨g2, b2, mp2, Aw2, cw2, Aa2, ca2, al, n2, f2, ws, rfl, hws, hpx, hrd, hb6, hx6⟩
         have HPX := Lib.hid hpx
         have HRD := Lib.hid hrd
         have B6 := Lib.hid hb6
         have HWS := Lib.hid hws
         have hX6 := Lib.hid (show Bx w6 x (bx x g r p u).2.1 (bx x g r p u).2.2 from hx6.trans (HX.out.after hA1.drew))
         have d0 : w6.cell? ⟨x, 0, none⟩ = some (.pointer (some ⟨g, 0, none⟩)) := hX6.out.cell 0
         have d1 : w6.cell? ⟨x, 2, none⟩ = some (.pointer (some ⟨p, 0, none⟩)) := hX6.out.cell 2
         clear hpx hrd hb6 hws hx6))
  have HU := Lib.hid (HpG.used_any HPX.out)
  rw [HWS.out] at HU
  have hal6 : Below w6.heap.size w6 (w6.alloc (.cells #[.int .i64 1] 2)) := (Below.refl _ _).alloc (Nat.le_refl _) _
  have HSm := Lib.hid (HpS.same_any (some ⟨b2, 0, none⟩) (some ⟨w6.heap.size, 0, none⟩) 1 1 1 1 [1] [1] (w6.alloc (.cells #[.int .i64 1] 2)) rfl rfl (by omega) (by omega) (HRD.out.below hal6) (TabZ.rds_bx (Bx.new w6 #[.int .i64 1] 2)))
  rw [show decide (([1] : List Int) = [1]) = true from rfl] at HSm
  have B7 := Lib.hid (HAl.out.trans ((B6.out.trans (hal6.mono B6.out.size)).mono HAl.out.size))
  clear hal6
  go_wp2_with (first
    | (go_at_call 51; refine HU.out.mono ?_; rintro e v1 ⟨rfl, rfl⟩)
    | (go_at_call 15; refine HSm.out.mono ?_; rintro e v2 ⟨rfl, q, rfl⟩))
  go_ret
  exact ⟨rfl, ⟨B7.out.os, B7.out.tape, B7.out.output, B7.out.size, B7.out.block⟩⟩
end ClO
end Go.Proofs.YtmkdhdmkdcankaaGreatDoor
/-
  Law CollectNil: without a heap, or a program, nothing is collected.
-/
namespace Go.Proofs.YtmkdhdmkdcankaaGreatDoor
namespace WCollectNil
open Go.RowKit Base BinM HpM HpA ClJ ClN ClO

set_option maxRecDepth 100000 in
set_option maxHeartbeats 8000000 in
theorem walk (a0 : Int) (w : World) (hl : InsA.Laid w) (_ : (Lit.int .i64 a0).wf = true) :
    Calls Tryz.prog 7 #[.int .i64 a0] w fun e w' => e = .returned (.bool true) ∧ Below w.heap.size w w' := by
  have HBg := Lib.hid (ClK.begin_any none none 0 0 [] [] w (.inl rfl) (by intro m hm; cases hm) (.inl rfl) (by intro m hm; cases hm) hl)
  have HK := Lib.hid (fun v (hv : Below w.heap.size w v) => (known_any v (hl.below hv hl.1)).mono fun e w' (h : e = .returned (.bool true) ∧ Below v.heap.size v w') => (⟨h.1, hv.trans (h.2.mono hv.size)⟩ : e = .returned (.bool true) ∧ Below w.heap.size w w'))
  clear hl
  go_enter Tryz.func7, Tryz.ntmps7
  go_wp2_with fail
  refine HBg.out.mono ?_
  rintro e w3 ⟨x, rfl, g, r, p, u, hP⟩
  have hx := ClP.Play.box hP
  have a0' : w3.cell? ⟨x, 0, none⟩ = some (.pointer (some ⟨g, 0, none⟩)) := hx.cell 0
  have a1' : w3.cell? ⟨x, 2, none⟩ = some (.pointer (some ⟨p, 0, none⟩)) := hx.cell 2
  have hxl := hx.lt
  have B3 := Lib.hid (ClP.Play.low hP)
  clear hP hx HBg
  go_wp2_with (first
    | (go_at_call 10; refine (reach_nil _ _ _ _ _ _ (by first | exact .inl rfl | exact .inr rfl)).mono ?_; rintro e v ⟨rfl, rfl⟩)
    | (go_at_call 13; refine (live_nil _ _ _ _ _ _ (by first | exact .inl rfl | exact .inr rfl)).mono ?_; rintro e v ⟨rfl, rfl⟩)
    | (go_at_call 21; refine (run_nil _ _ _ _ _ _ (by first | exact .inl rfl | exact .inr rfl)).mono ?_; rintro e v ⟨rfl, rfl⟩)
    | (go_at_call 16; refine (refs_nil _ _ _ (by first | exact .inl rfl | exact .inr rfl) _).mono ?_; rintro e v ⟨rfl, rfl⟩))
  refine (HK.out _ ((B3.out.alloc B3.out.size _).alloc (by have := B3.out.size; simp; omega) _)).mono ?_
  rintro e v8 ⟨rfl, hb8⟩
  go_wp2_with fail
  go_ret
  exact ⟨rfl, hb8⟩
end WCollectNil
end Go.Proofs.YtmkdhdmkdcankaaGreatDoor
/-
  The table of instructions, as the row lists it: from the row's condition to the cells that the walks read.
-/
namespace Go.Proofs.YtmkdhdmkdcankaaGreatDoor
namespace LaidM
open Go.RowKit Go.ChangeShapes Go.WideShapes InsM InsA

/-- one row of the table, as it reads -/
def rowD (r : List UInt8 × Int) : DataW Unit := .agg [.lit (.string r.1), .lit (.int .i64 r.2)]
theorem table_rows : (Rows.laid_hornbook_ins_rows : DataW Unit) = .agg (rowsL.map rowD) := by rfl

theorem row_at (k : Nat) (hk : k < 46) : rowsL[k]? = some (nameN k, kindN k) := by
  have hl : rowsL.length = 46 := rfl
  rw [List.getElem?_eq_getElem (by omega)]
  congr 1
  unfold nameN kindN
  rw [List.getD_eq_getElem?_getD, List.getElem?_eq_getElem (by omega)]
  rfl

/-- one of the listed variables, as it reads -/
theorem laid_var {P : Program} {w : World} {n : String} {d : DataW Unit} : ∀ {L : List (String × DataW Unit)} {ps : List MemPlace}, DataW.LaidVars P w L ps → (n, d) ∈ L →
    ∃ g t cs fuel p, P.globalNamed n = some g ∧ (P.globals[g]?).map (·.type) = some t ∧ w.var? P n = some cs ∧ DataW.trod (fun _ => ()) P w 0 (fun _ => true) false fuel t cs.toList = some (d, p)
  | (n', d') :: r, ps, h, hm => by
    obtain ⟨g, t, cs, fuel, p, q, hg, ht, hvar, hd, hr, _⟩ := h
    rcases List.mem_cons.1 hm with e | hm
    · obtain ⟨rfl, rfl⟩ := Prod.mk.inj e
      exact ⟨g, t, cs, fuel, p, hg, ht, hvar, hd⟩
    · exact laid_var hr hm

theorem laid_in (W : World) (L : List (String × DataW Unit)) (hm : ("hornbook/ins.rows", Rows.laid_hornbook_ins_rows) ∈ L) (h : laidMet Tryz.prog L W) : Laid W := by
  obtain ⟨ps, h1, _⟩ := h
  obtain ⟨g, t, cs, fuel, p, hg, ht, hvar, hd⟩ := laid_var h1 hm
  have hg0 : Tryz.prog.globalNamed "hornbook/ins.rows" = some 0 := by kernel_rfl
  obtain rfl := Option.some.inj (hg0.symm.trans hg)
  have ht0 : (Tryz.prog.globals[0]?).map (·.type) = some 314 := by kernel_rfl
  obtain rfl := Option.some.inj (ht0.symm.trans ht)
  have hcell : ∀ i, W.cell? ⟨0, i, none⟩ = cs[i]? := fun i => World.var?_cell hg0 hvar i
  have hc86 : Tryz.prog.cellsOf 313 = 2 := by kernel_rfl
  have hc3 : Tryz.prog.cellsOf 3 = 1 := by kernel_rfl
  have hc9 : Tryz.prog.cellsOf 9 = 1 := by kernel_rfl
  obtain ⟨xs, m, _, hx, _, _, hrow⟩ := DataW.trod_array Tryz.underlying314 hd
  rw [table_rows] at hx
  simp only [Prod.mk.injEq, DataW.agg.injEq] at hx
  have key : ∀ k, k < 46 → cs[k * 2]? = some (.string ⟨(nameN k).toArray⟩) ∧ cs[k * 2 + 1]? = some (.int .i64 (kindN k)) := by
    intro k hk
    have h1 := hrow k hk
    have h2 : (xs.map (·.1))[k]? = some (rowD (nameN k, kindN k)) := by rw [← hx.1, List.getElem?_map, row_at k hk]; rfl
    rw [List.getElem?_map] at h2
    obtain ⟨y, hy, hy1⟩ := Option.map_eq_some_iff.1 h2
    rw [hy, hc86] at h1
    obtain ⟨y0, y1, n, hyy, hlen, t0, t1⟩ := trod_struct2 Tryz.underlying313 h1
    rw [hc86] at hlen
    simp only [hc3, hc9, List.drop_zero] at t0 t1
    obtain ⟨s, hs, e0, _⟩ := DataW.trod_string Tryz.underlying9 t0
    obtain ⟨z, hz, e1, _⟩ := DataW.trod_int Tryz.underlying3 t1
    rw [hyy] at hy1
    simp only [rowD, DataW.agg.injEq, List.cons.injEq, and_true] at hy1
    rw [e0, e1] at hy1
    simp only [DataW.lit.injEq, Lit.string.injEq, Lit.int.injEq, true_and] at hy1
    obtain ⟨hy0, rfl⟩ := hy1
    have hs' : s = ⟨(nameN k).toArray⟩ := by rw [← hy0]
    subst hs'
    have g0 : (cs.toList.drop (k * 2))[0]? = some (.string ⟨(nameN k).toArray⟩) := by
      have := congrArg (·[0]?) hs
      simpa [List.getElem?_take] using this
    have g1 : (cs.toList.drop (k * 2))[1]? = some (.int .i64 (kindN k)) := by
      have := congrArg (·[0]?) hz
      simpa [List.getElem?_take, List.getElem?_drop] using this
    rw [List.getElem?_drop] at g0 g1
    exact ⟨by simpa using g0, by simpa using g1⟩
  have hc0 := (hcell (0 * 2)).trans (key 0 (by omega)).1
  exact ⟨World.block_lt_of_cell? W _ hc0, fun k hk => ⟨(hcell _).trans (key k hk).1, (hcell _).trans (key k hk).2⟩⟩

/-- the table's cells, for a witness -/
def tableCells : Array Value := (rowsL.flatMap fun r => [.string ⟨r.1.toArray⟩, .int .i64 r.2]).toArray

end LaidM
end Go.Proofs.YtmkdhdmkdcankaaGreatDoor
