/-
  The document's list of holds: Put.
-/
import Derived.Test.YtkjkofdjnjihjaaLkG
import Derived.Test.YtkjkofdjnjihjaaLkT
import Derived.Deep.RegionLaw
namespace Go.Proofs.Ytkjkofdjnjihjaa
namespace LkU
open Go.RowKit Go.Shelf Base BinM LkM LkA LkB LkE LkR LkP LkS LkG

theorem Rw.pushD {α : Type} {te : TypeId} {sz : Nat} {f : α → List Value} {w wr w5 : World} {A : Option Addr} {n c b5 c5 : Nat} {ks : List α} (h : Rw te sz f w wr A n c ks) (C : Array Value) (ty : TypeId) (x : α)
    (hg : ((wr.alloc (.cells C ty)).drew).grownBy w5 (Value.slice A n c).ownBlock) (h5 : w5.ownsRow w.heap.size te sz (.slice (some ⟨b5, 0, none⟩) (n + 1) c5) (n + 1) (ks.flatMap f ++ f x)) : Rw te sz f w w5 (some ⟨b5, 0, none⟩) (n + 1) c5 (ks ++ [x]) := by
  refine ⟨by rw [h.len, List.length_append]; rfl, ?_, ?_⟩
  · exact ((h.bel.alloc h.bel.size (.cells C ty)).drew).grown hg (by have := h.bel.size; simp; omega) (fun k hk => (h.own.lt k hk).1)
  · rw [List.flatMap_append]
    simpa using h5

set_option maxRecDepth 100000 in
set_option maxHeartbeats 8000000 in
theorem put_any {w : World} {b : Nat} {A : Option Addr} {c : Nat} {hs : List Ho} (H : LR w b A c hs) (hl : hs.length ≤ 10000) (B : Option Addr) (now : List Int) (m cc : Nat) (hm : m = now.length) (hml : m ≤ 10000) (hr : Rds w B (now.map (Value.int .i64))) :
    Calls Try.prog 23 #[.pointer (some ⟨b, 0, none⟩), .slice B m cc] w fun e w' => e = .returned (.int .i64 (putT hs now).1) ∧ NextL 28 56 w w' b A (putT hs now).2 := by
  subst hm
  have c0 := H.box.cell 0
  have HH := Lib.hid H
  have HR := Lib.hid hr
  clear H hr
  by_cases hlen : now.length = hs.length
  · have hle : ((now.length : Int) != (hs.length : Int)) = false := by simp; omega
    have HNo : Hid (¬ GoodL now → putT hs now = (2, hs)) := Lib.hid (fun h => by unfold putT; rw [if_neg (fun k => h k.2)])
    have HYe : Hid (GoodL now → putT hs now = (0, putL hs now)) := Lib.hid (fun h => by unfold putT; rw [if_pos ⟨hlen, h⟩])
    have HLen := Lib.hid hlen
    clear hlen
    go_enter Try.func23, Try.ntmps23
    go_wp2_with fail
    go_loopw [5, 6] (fun i _ wr => ∃ j q : Nat, j ≤ now.length ∧ i = .int .i64 j ∧ wr = w.drewN q ∧ GoodL (now.take j)) (fun i _ _ => now.length - (intOf i).toNat)
    case atStart => exact ⟨0, 0, Nat.zero_le _, rfl, rfl, by simp [GoodL]⟩
    case round =>
      obtain ⟨j, q, hj, rfl, rfl, hg⟩ := hrel
      have HG := Lib.hid hg
      clear hg
      by_cases hlt : j < now.length
      · obtain ⟨bb, oo, rfl, _, p0⟩ := LkT.rds_getD HR.out hlt
        have hj1 : (j : Int) < (now.length : Int) := by omega
        have HX : Hid (now.getD j 0 = now[j]) := Lib.hid (by rw [List.getD_eq_getElem?_getD, List.getElem?_eq_getElem hlt]; rfl)
        have HLow : Hid (now.getD j 0 < 1 → putT hs now = (2, hs)) := Lib.hid (fun h => HNo.out (good_low hlt (by rw [← HX.out]; exact h)))
        have HTw : Hid (∀ m, m < j → now.getD m 0 = now.getD j 0 → putT hs now = (2, hs)) := Lib.hid (fun m hm h => HNo.out (good_twice hlt hm (by
          rw [← HX.out, ← h, List.getD_eq_getElem?_getD, List.getElem?_eq_getElem (by omega : m < now.length)]; rfl)))
        have HNx : Hid (1 ≤ now.getD j 0 → (∀ m, m < j → now.getD m 0 ≠ now.getD j 0) → GoodL (now.take (j + 1))) := Lib.hid (fun h1 h2 => good_next hlt HG.out (by rw [← HX.out]; exact h1) (fun m hm hm2 => by
          have := h2 m hm
          rw [HX.out, List.getD_eq_getElem?_getD, List.getElem?_eq_getElem hm2] at this
          exact this))
        have HBar : Hid (Turned (feet b A) w (w.drewN q)) := Lib.hid ⟨rfl, rfl, rfl, Nat.le_refl _, fun _ _ _ => rfl⟩
        clear HX
        generalize hx : now.getD j 0 = x at *
        clear hx
        by_cases hx1 : x < 1
        · have HZ := Lib.hid (HLow.out hx1)
          go_wp2_with fail
          go_ret
          rw [HZ.out]
          exact ⟨rfl, A, c, HH.out.drew q, HBar.out, fun _ h => .inl h⟩
        · go_wp2_with fail
          go_loopw [6] (fun i wr => ∃ k q : Nat, k ≤ j ∧ i = .int .i64 k ∧ wr = w.drewN q ∧ ∀ m, m < k → now.getD m 0 ≠ x) (fun i _ => j - (intOf i).toNat)
          case atStart => exact ⟨0, q, Nat.zero_le _, rfl, rfl, fun m h => absurd h (Nat.not_lt_zero _)⟩
          case round =>
            obtain ⟨k, q2, hk, rfl, rfl, hno⟩ := hrel
            have HNn := Lib.hid hno
            clear hno
            by_cases hkj : k < j
            · obtain ⟨bb', oo', hbb, _, p1⟩ := LkT.rds_getD HR.out (k := k) (by omega)
              injection hbb with hbb
              injection hbb with hbb1 hbb2
              subst hbb1
              subst hbb2
              have hk1 : (k : Int) < (j : Int) := by omega
              have hk2 : (k : Int) < (now.length : Int) := by omega
              have HTk := Lib.hid (fun h => HTw.out k hkj h)
              have HSt : Hid (now.getD k 0 ≠ x → ∀ m, m < k + 1 → now.getD m 0 ≠ x) := Lib.hid (fun h m hm => by
                rcases Nat.lt_or_ge m k with h1 | h1
                · exact HNn.out m h1
                · obtain rfl : m = k := by omega
                  exact h)
              have HBar2 : Hid (∀ q r, Turned (feet b A) w ((w.drewN q).drewN r)) := Lib.hid (fun q r => ⟨rfl, rfl, rfl, Nat.le_refl _, fun _ _ _ => rfl⟩)
              generalize now.getD k 0 = y at *
              by_cases hy : y = x
              · have hy1 : (y == x) = true := by simpa using hy
                have HZ := Lib.hid (HTk.out hy)
                clear hy
                go_wp2_with fail
                go_quiet (fail)
                go_wp2_with fail
                go_ret
                rw [HZ.out]
                exact ⟨rfl, A, c, (HH.out.drew _).drew _, HBar2.out _ _, fun _ h => .inl h⟩
              · have hy1 : (y == x) = false := by simpa using hy
                have HZ := Lib.hid (HSt.out hy)
                go_wp2_with fail
                go_quiet (fail)
                go_wp2_with fail
                go_roundw
                case rel => exact ⟨k + 1, _, by omega, by go_num, rfl, HZ.out⟩
                case measure => simp [intOf]; omega
            · have hk1 : ¬ (k : Int) < (j : Int) := by omega
              have HZ := Lib.hid (HNx.out (by omega) (fun m hm => HNn.out m (by omega)))
              go_wp2_with fail
              go_roundw
              case rel => exact ⟨j + 1, q2, by omega, by go_num, rfl, HZ.out⟩
              case measure => simp [intOf]; omega
      · have hj1 : ¬ (j : Int) < (now.length : Int) := by omega
        have HZ : Hid (GoodL now) := Lib.hid (by have := HG.out; rwa [List.take_of_length_le (by omega)] at this)
        have HS := Lib.hid (HH.out.drew q)
        have HE := Lib.hid (HYe.out HZ.out)
        have HBar : Hid (Turned (feet b A) w (w.drewN q)) := Lib.hid ⟨rfl, rfl, rfl, Nat.le_refl _, fun _ _ _ => rfl⟩
        have HRd : Hid (Rds (w.drewN q) B (now.map (Value.int .i64))) := Lib.hid HR.out
        have c1 : (w.drewN q).cell? ⟨b, 0, none⟩ = some (.slice A hs.length c) := HS.out.box.cell 0
        obtain ⟨i0, hi, hz, hz1, hz2⟩ := info_parts infoR
        have I0 := Lib.hid hi
        have I1 := Lib.hid hz
        have I2 := Lib.hid hz1
        have I3 := Lib.hid hz2
        clear hi hz hz1 hz2 HR HH HNo HYe HG c0
        generalize w.drewN q = w2 at *
        go_wp2_with fail
        have hlen := HLen.out
        go_loopw [7, 8] (fun s i wr => ∃ (k n : Nat) (A' : Option Addr) (c' : Nat), k ≤ now.length ∧ i = .int .i64 k ∧ s = .slice A' n c' ∧ RwH w2 wr A' n c' ((putL hs now).take k)) (fun _ i _ => now.length - (intOf i).toNat)
        case atStart => exact ⟨0, 0, none, 0, Nat.zero_le _, rfl, rfl, Rw.start _ _ _ _⟩
        case round =>
          obtain ⟨k, n, A', c', hk, rfl, rfl, hrw⟩ := hrel
          have HW := Lib.hid hrw
          have hH := HS.out.beside hrw.bel
          have hsz := hrw.bel.size
          have hn : n ≤ k := by rw [hrw.len]; simp; omega
          have c2 := hH.box.cell 0
          have HRw := Lib.hid (HRd.out.below hrw.bel)
          clear hrw
          by_cases hkl : k < now.length
          · have hkh : k < hs.length := by omega
            obtain ⟨g, rfl, _, hgl⟩ := HS.out.at_ (by omega)
            obtain ⟨bb, oo, rfl, hbb, p0⟩ := LkT.rds_getD HRw.out hkl
            obtain ⟨q0, q1, q2⟩ := hH.cells hkh
            have hk1 : (k : Int) < (now.length : Int) := by omega
            have hk2 : (k : Int) < (hs.length : Int) := by omega
            have hpl : k < (putL hs now).length := by rw [putL_len hlen]; exact hkh
            have HN : Hid ((putL hs now).take (k + 1) = (putL hs now).take k ++ [⟨now.getD k 0, hs[k].w, hs[k].n⟩]) := Lib.hid (by
              rw [List.take_succ_eq_append_getElem hpl, putL_at hkh hkl, List.getD_eq_getElem?_getD, List.getElem?_eq_getElem hkl]
              rfl)
            have HB2 := Lib.hid hbb
            clear hH hbb hpl hlen
            generalize (putL hs now).take k = ks at *
            generalize now.getD k 0 = ya at *
            generalize hs[k].w = yw at *
            generalize hs[k].n = yn at *
            go_wp2_with fail
            go_region_law ((refine step_append_lies _ (by rfl) _ _ _ (by rfl) w2.heap.size 56 i0 _ 3 24 Try.underlying26 I0.out I1.out I2.out I3.out rfl (by omega) (.slice A' n c') n (ks.flatMap hoV) (by rfl) ((HW.out.alloc _).drew) ⟨wr.heap.size, 0, none⟩ 1 1 [.int .i64 ya, .int .i64 yw, .int .i64 yn] (by rfl) (by rfl) (World.news_of_block (cs := #[.int .i64 ya, .int .i64 yw, .int .i64 yn]) (t := 56) (fr := (0, 0)) (heap_alloc_new wr _)) (by simp [Value.oneCell']) (by omega) (by unfold maxLen; omega) (by omega) (by simp; omega) (wr.heap.size + 1) (by simp) ?_; intro b5 c5 w5 hown5 hg5 hat5 hlt5))
            all_goals
              have P5 := Lib.hid (Rw.pushD HW.out (b5 := b5) (c5 := c5) _ _ ⟨ya, yw, yn⟩ hg5 hown5)
              clear hown5 hg5 hat5 q0 q1 q2 p0
              go_wp2_with fail
              go_roundw
              case rel => exact ⟨k + 1, n + 1, _, _, by omega, by go_num, rfl, by rw [HN.out]; exact P5.out⟩
              case measure => simp [intOf]; omega
          · have hk1 : ¬ (k : Int) < (now.length : Int) := by omega
            have HZ2 : Hid ((putL hs now).take k = putL hs now) := Lib.hid (List.take_of_length_le (by rw [putL_len hlen]; omega))
            have HF0 := Lib.hid (hH.box.free 0)
            have f0 := hH.box.free 0
            clear hH
            go_wp2_with fail
            go_ret
            rw [HE.out]
            have hP := HW.out
            rw [HZ2.out] at hP
            exact ⟨rfl, NextL.trans HBar.out (fun _ h => .inl h) (Rw.next hP HS.out)⟩
  · have hle : ((now.length : Int) != (hs.length : Int)) = true := by simp; omega
    have HZ := Lib.hid (show putT hs now = (2, hs) by unfold putT; rw [if_neg (fun h => hlen h.1)])
    go_enter Try.func23, Try.ntmps23
    go_wp2_with fail
    go_ret
    rw [HZ.out]
    exact ⟨rfl, A, c, HH.out, Turned.refl _ _, fun _ h => .inl h⟩
end LkU
end Go.Proofs.Ytkjkofdjnjihjaa
