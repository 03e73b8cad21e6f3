/- pieces -/
import Derived.Test.YtehainbhoflpnaaGreatDoorK23
namespace Go.Proofs.YtehainbhoflpnaaGreatDoor
namespace HierY
open Go.RowKit BinM Base Stru DescM DescW DescX HierS HierT HierM HierC HierK HierN HierV HierW HierG HierR HierU HierQ
open BinName (ze)
def zx4 (w : World) (base : Nat) (v : Value) (l : List P2) : Prop := w.ownsRow base 168 2 v l.length (l.flatMap pv)
theorem infoP : (Tryz.prog.info? 168).map (fun i => (i.zero, i.size, i.bytes)) = some (some (.agg #[.string ⟨#[]⟩, .string ⟨#[]⟩]), 2, 32) := by kernel_rfl
theorem zx4.slice {w : World} {base : Nat} {v : Value} {l : List P2} (h : zx4 w base v l) :
 ∃ A c, v = .slice A l.length c ∧ l.length ≤ c ∧ c ≤ maxLen ∧ Rds w A (l.flatMap pv) ∧ ∀ a, A = some a → base ≤ a.block ∧ a.block < w.heap.size := by
 obtain ⟨A, c, rfl, h1, h2, h3, _⟩ := zS h
 exact ⟨A, c, rfl, h1, h2, Rds.qU h, fun a ha => ⟨(h3 a ha).1, (h3 a ha).2.1⟩⟩
def jF : List P2 := (Zc, []) :: alw
theorem zy8 (l : List P2) : jE l = jF ++ l := rfl
structure MkR (w wr : World) (L : List P2) : Prop where
 row : ∃ A c, wr.heap[w.heap.size + 1]? = some (.cells #[.slice A L.length c] 166 (0, 0)) ∧ zx4 wr w.heap.size (.slice A L.length c) L ∧ (∀ a, A = some a → a.block ≠ w.heap.size + 1)
 hi : w.heap.size + 1 < wr.heap.size
 bel : Below w.heap.size w wr
theorem MkR.ext {w wr w' : World} {L : List P2} (h : MkR w wr L) (hb : Below wr.heap.size wr w') : MkR w w' L := by
 obtain ⟨⟨A, c, h1, h2, h3⟩, h7, h8⟩ := h
 have hs := hb.size
 exact ⟨⟨A, c, (hb.block _ h7).trans h1, zh h2 (fun k hk => hb.block k (h2.lt k hk).2), h3⟩, by omega, h8.trans (hb.mono h8.size)⟩
theorem MkR.isR {w wr : World} {L : List P2} (h : MkR w wr L) (few : L.length ≤ 41) : IsR wr.heap.size wr (w.heap.size + 1) L := by
 obtain ⟨⟨A, c, h1, h2, h3⟩, h7, h8⟩ := h
 obtain ⟨A', c', e, k1, k2, k3, k4⟩ := h2.slice
 cases e
 exact ⟨⟨A, _, c, h1, rfl, k1, k2, k3, fun a ha => (k4 a ha).2⟩, h7, few⟩
theorem MkR.app {w wr w1 : World} {L : List P2} {A : Option Addr} {c gg cap : Nat} {x : P2} (h : MkR w wr L) (hA : wr.heap[w.heap.size + 1]? = some (.cells #[.slice A L.length c] 166 (0, 0)))
 (hown : zx4 w1 w.heap.size (.slice (some ⟨gg, 0, none⟩) (L ++ [x]).length cap) (L ++ [x])) (hg : wr.grownBy w1 (Value.slice A L.length c).ownBlock) (hat : (Value.slice A L.length c).ownBlock = some gg ∨ wr.heap.size ≤ gg) :
 MkR w (w1.setCell ⟨w.heap.size + 1, 0, none⟩ (.slice (some ⟨gg, 0, none⟩) (L ++ [x]).length cap)) (L ++ [x]) := by
 obtain ⟨⟨A', c', h1, h2, h3⟩, h7, h8⟩ := h
 have e := h1.symm.trans hA
 injection e with e
 injection e with e
 have e1 : Value.slice A' L.length c' = Value.slice A L.length c := by injection e with e; injection e
 cases e1
 have hs := hg.size
 have hs8 := h8.size
 have hgn : gg ≠ w.heap.size + 1 := by
  rcases hat with hat | hat
  · cases A with
    | none => cases hat
    | some a =>
      have := h3 a rfl
      simp [Value.ownBlock] at hat
      omega
  · omega
 have hnb : some (w.heap.size + 1) ≠ (Value.slice A L.length c).ownBlock := by
  intro e
  cases A with
  | none => cases e
  | some a =>
    have := h3 a rfl
    simp [Value.ownBlock] at e
    omega
 have b2 : w1.heap[w.heap.size + 1]? = wr.heap[w.heap.size + 1]? := hg.block _ h7 hnb
 have hbel : Below w.heap.size w w1 := zV h8 h2 (Nat.le_refl _) hs8 hg
 refine ⟨⟨some ⟨gg, 0, none⟩, cap, ?_, ?_, ?_⟩, ?_, ?_⟩
 · have := heap_setCell_same w1 (w.heap.size + 1) 0 _ _ (.slice (some ⟨gg, 0, none⟩) (L ++ [x]).length cap) (b2.trans h1)
   rw [this]; rfl
 · refine zh hown (fun k hk => heap_setCell_other w1 _ k _ ?_)
   simp [Value.ownBlock] at hk
   show k ≠ w.heap.size + 1
   omega
 · intro a ha
   cases ha
   exact hgn
 · simp; omega
 · exact hbel.setCell (by show w.heap.size ≤ w.heap.size + 1; omega) _
def zw (ps : List P2) (w : World) (e : Ending) (w' : World) : Prop :=
 Below w.heap.size w w' ∧ (((qg ps).2 = 0 ∧ ∃ g, e = .returned (.tuple #[.pointer (some ⟨g, 0, none⟩), .string ⟨#[]⟩, .int .i64 0]) ∧ IsR w'.heap.size w' g (jE ps)) ∨
  ((qg ps).2 ≠ 0 ∧ e = .returned (.tuple #[.pointer none, .string ⟨(qg ps).1.toArray⟩, .int .i64 (qg ps).2])))
theorem yP {ps : List P2} {w w' : World} {c : T} {n : Int} (h : qg ps = (c, n)) (hn : n ≠ 0) (hb : Below w.heap.size w w') : zw ps w (.returned (.tuple #[.pointer none, .string ⟨c.toArray⟩, .int .i64 n])) w' :=
 ⟨hb, .inr ⟨by rw [h]; exact hn, by rw [h]⟩⟩
theorem Gy {ps : List P2} {w w' : World} {g : Nat} (h : qg ps = ([], 0)) (hb : Below w.heap.size w w') (H : IsR w'.heap.size w' g (jE ps)) : zw ps w (.returned (.tuple #[.pointer (some ⟨g, 0, none⟩), .string ⟨#[]⟩, .int .i64 0])) w' :=
 ⟨hb, .inl ⟨by rw [h], g, rfl, H⟩⟩
theorem Zi7 {l : List P2} (ht : twice [Zc] (full l) = none) (hs : qH (nms (full l)) (full l) = none) {p : P2} (hp : p ∈ full l) : (mk l).up p.1 = some p.2 := by
 obtain ⟨_, t2⟩ := jC _ _ ht
 have s1 := jJ _ _ hs
 have hf : (full l).find? (fun q => q.1 == p.1) = some p := by
  obtain ⟨i, hi, rfl⟩ := List.mem_iff_getElem.1 hp
  refine jU hi ?_ (by simp)
  rw [List.any_eq_false]
  intro q hq he
  obtain ⟨j, hj, rfl⟩ := List.mem_iff_getElem.1 hq
  rw [List.length_take] at hj
  rw [List.getElem_take] at he
  have h3 := List.pairwise_iff_getElem.1 t2 j i (by simp; omega) (by simpa using hi) (by omega)
  apply h3
  simpa using eq_of_beq he
 unfold Hr.up mk abv
 simp only [hf, Option.map_some, Option.bind_some]
 exact yN (s1 p hp)
set_option maxRecDepth 100000 in
theorem UE (w : World) :
 Calls Tryz.prog 91 #[] w fun e w' => e = .returned (.slice (some ⟨w.heap.size, 0, none⟩) 9 9) ∧ w' = w.alloc (.cells #[.string ⟨Zc.toArray⟩, .string ⟨#[]⟩, .string ⟨ZP.toArray⟩, .string ⟨Zc.toArray⟩, .string ⟨zi8.toArray⟩, .string ⟨ZP.toArray⟩, .string ⟨vX.toArray⟩, .string ⟨ZP.toArray⟩, .string ⟨xO.toArray⟩, .string ⟨ZP.toArray⟩, .string ⟨divN.toArray⟩, .string ⟨ZP.toArray⟩, .string ⟨vU.toArray⟩, .string ⟨ZP.toArray⟩, .string ⟨zi9.toArray⟩, .string ⟨ZP.toArray⟩, .string ⟨vG.toArray⟩, .string ⟨ZP.toArray⟩] 168) := by
 go_enter Tryz.func91, Tryz.ntmps91
 go_wp2
 go_ret
 exact ⟨rfl, rfl⟩
def V0 (w : World) : World := (w.alloc (.cells #[.string ⟨Zc.toArray⟩, .string ⟨#[]⟩, .string ⟨ZP.toArray⟩, .string ⟨Zc.toArray⟩, .string ⟨zi8.toArray⟩, .string ⟨ZP.toArray⟩, .string ⟨vX.toArray⟩, .string ⟨ZP.toArray⟩, .string ⟨xO.toArray⟩, .string ⟨ZP.toArray⟩, .string ⟨divN.toArray⟩, .string ⟨ZP.toArray⟩, .string ⟨vU.toArray⟩, .string ⟨ZP.toArray⟩, .string ⟨zi9.toArray⟩, .string ⟨ZP.toArray⟩, .string ⟨vG.toArray⟩, .string ⟨ZP.toArray⟩] 168)).alloc (.cells #[.slice (some ⟨w.heap.size, 0, none⟩) 9 9] 166)
theorem MkR.start (w : World) : MkR w (V0 w) jF := by
 have e1 : (V0 w).heap.size = w.heap.size + 2 := by simp [V0]
 refine ⟨⟨some ⟨w.heap.size, 0, none⟩, 9, ?_, ?_, ?_⟩, by omega, ?_⟩
 · have := heap_alloc_new (w.alloc (.cells #[.string ⟨Zc.toArray⟩, .string ⟨#[]⟩, .string ⟨ZP.toArray⟩, .string ⟨Zc.toArray⟩, .string ⟨zi8.toArray⟩, .string ⟨ZP.toArray⟩, .string ⟨vX.toArray⟩, .string ⟨ZP.toArray⟩, .string ⟨xO.toArray⟩, .string ⟨ZP.toArray⟩, .string ⟨divN.toArray⟩, .string ⟨ZP.toArray⟩, .string ⟨vU.toArray⟩, .string ⟨ZP.toArray⟩, .string ⟨zi9.toArray⟩, .string ⟨ZP.toArray⟩, .string ⟨vG.toArray⟩, .string ⟨ZP.toArray⟩] 168)) (.cells #[.slice (some ⟨w.heap.size, 0, none⟩) 9 9] 166)
   have e2 : ∀ o, (w.alloc o).heap.size = w.heap.size + 1 := fun o => by simp
   rw [e2] at this
   exact this
 · exact (World.ownsRow_lit w #[.string ⟨Zc.toArray⟩, .string ⟨#[]⟩, .string ⟨ZP.toArray⟩, .string ⟨Zc.toArray⟩, .string ⟨zi8.toArray⟩, .string ⟨ZP.toArray⟩, .string ⟨vX.toArray⟩, .string ⟨ZP.toArray⟩, .string ⟨xO.toArray⟩, .string ⟨ZP.toArray⟩, .string ⟨divN.toArray⟩, .string ⟨ZP.toArray⟩, .string ⟨vU.toArray⟩, .string ⟨ZP.toArray⟩, .string ⟨zi9.toArray⟩, .string ⟨ZP.toArray⟩, .string ⟨vG.toArray⟩, .string ⟨ZP.toArray⟩] 9 (Nat.le_refl _) (by unfold maxLen; omega) rfl).alloc _
 · intro a ha
   cases ha
   simp
 · exact ((Below.refl _ _).alloc (Nat.le_refl _) _).alloc (by simp) _
theorem zr2 {l : List CE} {k : Nat} (h : k < l.length) : nms alw ++ (l.take (k + 1)).map CE.name = (nms alw ++ (l.take k).map CE.name) ++ [l[k].name] := by
 rw [List.take_succ_eq_append_getElem h, List.map_append, List.append_assoc]; rfl
theorem zo4 {l : List CE} {k : Nat} (h : k < l.length) : jF ++ (l.take (k + 1)).map CE.p2 = (jF ++ (l.take k).map CE.p2) ++ [l[k].p2] := by
 rw [List.take_succ_eq_append_getElem h, List.map_append, List.append_assoc]; rfl
theorem zz1 (l : List CE) (k : Nat) : (jF ++ (l.take k).map CE.p2).map (·.1) = nms alw ++ (l.take k).map CE.name := by
 rw [List.map_append, List.map_map]; rfl
set_option maxRecDepth 100000 in
set_option maxHeartbeats 16000000 in
theorem uQ (A : Option Addr) (l : List CE) (m c : Nat) (w : World) (hm : m = l.length) (hr : Rds w A (l.flatMap CE.vals)) (hlong : ∀ x ∈ l, x.name.length ≤ 140737488355000) :
 Calls Tryz.prog 39 #[.slice A m c] w (zw (l.map CE.p2) w) := by
 have h0 := zH (Below.refl w.heap.size w)
 obtain ⟨i0, hi0, hz0, hz1, hz2⟩ := info_parts infoP
 have I0 := zH hi0
 have I1 := zH hz0
 have I2 := zH hz1
 have I3 := zH hz2
 clear hi0 hz0 hz1 hz2
 by_cases h32 : 32 < m
 · have hw := zH (kF (ps := l.map CE.p2) (by simp; omega))
   have h32' : (32 : Int) < (m : Int) := by omega
   clear hm hr hlong
   go_enter Tryz.func39, Tryz.ntmps39
   go_wp2_with fail
   go_ret3
   exact yP (c := []) hw.out (by decide) h0.out
 · have h32' : ¬ (32 : Int) < (m : Int) := by omega
   have Hrd := zH hr
   have hml : m ≤ l.length := Nat.le_of_eq hm
   have hml2 : l.length ≤ m := Nat.le_of_eq hm.symm
   have Hp32 := zH (show (l.map CE.p2).length ≤ 32 by simp; omega)
   have HFlong := zH hlong
   have HPS := zH (show ∀ k, (l.drop k).map CE.p2 = (l.map CE.p2).drop k by intro k; rw [List.map_drop])
   have Hmem := zH (show ∀ x ∈ l, x.p2 ∈ full (l.map CE.p2) by
    intro x hx
    unfold full
    exact List.mem_append_right _ (List.mem_map.2 ⟨x, hx, rfl⟩))
   have HRfew := zH (show (jE (l.map CE.p2)).length ≤ 41 by simp [jE, full, alw]; omega)
   have Hlp := zH (show jF ++ (l.take m).map CE.p2 = jE (l.map CE.p2) by rw [zy8, List.take_of_length_le (by omega)])
   have Hln := zH (show nms alw ++ (l.take m).map CE.name = nms (full (l.map CE.p2)) by
    rw [List.take_of_length_le (by omega)]
    unfold nms full
    rw [List.map_append, List.map_map]
    rfl)
   have hb : ∀ b o, A = some ⟨b, o, none⟩ → 0 < l.length → b < w.heap.size := by
    intro b o hA hpos
    obtain ⟨b', o', hA', hb', _⟩ := Uk hr hpos
    rw [hA] at hA'
    cases hA'
    exact hb'
   have Hblk := zH hb
   generalize hps : l.map CE.p2 = ps at *
   have Hps := zH hps
   clear hr hm hlong hps hb
   go_enter Tryz.func39, Tryz.ntmps39
   go_wp2_with fail
   refine (UE w).mono ?_
   rintro e w2 ⟨rfl, rfl⟩
   go_wp2_with fail
   go_loopw [6] (fun i wr => ∃ k : Nat, k ≤ m ∧ i = .int .i64 k ∧ MkR w wr (jF ++ (l.take k).map CE.p2) ∧ twice [Zc] (full ps) = twice (nms alw ++ (l.take k).map CE.name) ((l.drop k).map CE.p2)) (fun i _ => m - (intOf i).toNat)
   case atStart => exact ⟨0, by omega, rfl, MkR.start w, by rw [zh0, HPS.out]; simp⟩
   case round =>
    obtain ⟨k, hk, rfl, hmk, htw⟩ := hrel
    have Hmk := zH hmk
    by_cases hlt : k < m
    · have hkl : k < l.length := by omega
      have hns := zr2 hkl
      have hprs := zo4 hkl
      have hdr := yX hkl
      rw [hdr] at htw
      obtain ⟨b, o, rfl, hb, hc0, hc1, hc2, hc3, hc4⟩ := Uk (Hrd.out.below hmk.bel) hkl
      have hk1 : (k : Int) < (m : Int) := by omega
      have hk0 : (0 : Int) ≤ (k : Int) := by omega
      have hnl : (jF ++ (l.take k).map CE.p2).length ≤ 41 := by simp [jF, alw]; omega
      have hnm := zz1 l k
      have hbw : b < w.heap.size := Hblk.out b o rfl (by omega)
      generalize l[k] = x at *
      obtain ⟨xn, xs, xkA, xkm, xkc, xfA, xfm, xfc, xmA, xmm, xmc⟩ := x
      simp only at hc0 hc1 hc2 hc3 hc4 hns htw
      generalize hN : nms alw ++ (l.take k).map CE.name = ns at *
      generalize hLL : jF ++ (l.take k).map CE.p2 = L at *
      have HH := zH (yt wr.heap.size (w.heap.size + 1) L xn wr (hmk.isR hnl))
      rw [YS, hnm] at HH
      have Htw := zH htw
      have Hns := zH hns
      have Hprs := zH (show jF ++ (l.take (k + 1)).map CE.p2 = L ++ [(xn, xs)] from hprs)
      obtain ⟨A0, cc, hrow, hownN, hA0⟩ := hmk.row
      have cN : wr.cell? ⟨w.heap.size + 1, 0, none⟩ = some (.slice A0 L.length cc) := cell_of_row _ _ _ _ _ (0, 0) hrow
      have hszw := hmk.bel.size
      have hgl : w.heap.size + 1 < wr.heap.size := hmk.hi
      have hgl2 : w.heap.size + 1 < wr.heap.size + 1 := by omega
      have hbr : b < wr.heap.size := by omega
      have HownN := zH hownN
      have Hrow2 := zH (fun (W : World) (hb : Below wr.heap.size wr W) => (hb.block (w.heap.size + 1) hgl).trans hrow)
      have cN2 : (wr.alloc (.cells #[.string ⟨xn.toArray⟩, .string ⟨xs.toArray⟩] 168)).cell? ⟨w.heap.size + 1, 0, none⟩ = some (.slice A0 L.length cc) := ((Below.refl wr.heap.size wr).alloc (Nat.le_refl _) _).cell (p := ⟨w.heap.size + 1, 0, none⟩) hgl |>.trans cN
      have Hne := zH (show some (w.heap.size + 1) ≠ (Value.slice A0 L.length cc).ownBlock by
       cases A0 with
       | none => simp [Value.ownBlock]
       | some a => have := hA0 a rfl; simp [Value.ownBlock]; omega)
      clear hrow hownN hA0 hprs hnm
      cases hin : ns.contains xn
      · rw [hin] at HH
        have Htw2 := zH (show twice [Zc] (full ps) = twice (ns ++ [xn]) ((l.drop (k + 1)).map CE.p2) by rw [Htw.out]; show (if ns.contains xn then _ else _) = _; rw [hin]; rfl)
        clear hmk htw hns hdr hin hN hLL
        go_wp2_with (go_at_call 57; refine HH.out.mono ?_; rintro e w' ⟨rfl, rfl⟩)
        go_region_law ((refine step_append_lies _ (by rfl) _ _ _ (by rfl) w.heap.size 168 i0 _ 2 32 Tryz.underlying163 I0.out I1.out I2.out I3.out rfl (by omega) (.slice A0 L.length cc) L.length (L.flatMap pv) (by rfl) ((HownN.out.alloc _).drew) ⟨wr.heap.size, 0, none⟩ 1 1 [.string ⟨xn.toArray⟩, .string ⟨xs.toArray⟩] (by rfl) (by rfl) (World.news_of_block (cs := #[.string ⟨xn.toArray⟩, .string ⟨xs.toArray⟩]) (t := 168) (fr := (0, 0)) (heap_alloc_new wr _)) (by simp [Value.oneCell']) (by omega) (by unfold maxLen; omega) (by omega) (by simp; omega) (wr.heap.size + 1) (by simp) ?_; intro gg cap5 w5 hown5 hg5 hat5 hlt5; have hb5 := (hg5.block (w.heap.size + 1) (by simp; omega) Hne.out).trans (Hrow2.out _ ((Below.refl wr.heap.size wr).alloc (Nat.le_refl _) _).drew); have hs5 : w5.cell? ⟨w.heap.size + 1, 0, none⟩ = some (.slice A0 L.length cc) := cell_of_row _ _ _ _ _ (0, 0) hb5; have hf5 : w5.frozen? ⟨w.heap.size + 1, 0, none⟩ = false := frozen_of_row w5 _ 0 _ _ hb5; clear hb5))
        all_goals
         have HM5 : Hid (MkR w (w5.setCell ⟨w.heap.size + 1, 0, none⟩ (.slice (some ⟨gg, 0, none⟩) (L.length + 1) cap5)) (L ++ [(xn, xs)])) := zH (by
          have e : (L ++ [(xn, xs)]).length = L.length + 1 := by simp
          have h5 := MkR.app (x := (xn, xs)) (w1 := w5) (cap := cap5) (gg := gg) (Hmk.out.ext ((Below.refl wr.heap.size wr).alloc (Nat.le_refl _) _).drew) (Hrow2.out _ ((Below.refl wr.heap.size wr).alloc (Nat.le_refl _) _).drew) (by unfold zx4; rw [e, List.flatMap_append]; exact hown5) hg5 (by
           rcases hat5 with h | h
           · exact .inl h
           · exact .inr (by simp; omega))
          rw [e] at h5
          exact h5)
         clear hown5 hg5 hat5 hs5 hf5
         go_wp2_with fail
         go_roundw
         case rel => exact ⟨k + 1, by omega, by go_num, by rw [Hprs.out]; exact HM5.out, by rw [Hns.out]; exact Htw2.out⟩
         case measure => simp [intOf]; omega
      · rw [hin] at HH
        have Hwhy := zH (UN (c := xn) Hp32.out (by rw [Htw.out]; show (if ns.contains xn then _ else _) = _; rw [hin]; rfl))
        clear hmk htw hns hdr hin hN hLL
        go_wp2_with (go_at_call 57; refine HH.out.mono ?_; rintro e w' ⟨rfl, rfl⟩)
        go_quiet (fail)
        go_wp2_with fail
        go_ret3
        exact yP Hwhy.out (by decide) (drawn Hmk.out.bel _)
    · have hkm : k = m := by omega
      subst hkm
      rw [Hlp.out] at hmk
      rw [Hln.out] at htw
      have htn : twice [Zc] (full ps) = none := by rw [htw, List.drop_of_length_le (by omega)]; rfl
      have Htn := zH htn
      have HM2 := zH hmk
      clear hmk htw htn Hmk
      go_wp2_with fail
      go_loopw [7] (fun i wr => ∃ j : Nat, j ≤ k ∧ i = .int .i64 j ∧ MkR w wr (jE ps) ∧ qH (nms (full ps)) (full ps) = qH (nms (full ps)) ((l.drop j).map CE.p2)) (fun i _ => k - (intOf i).toNat)
      case atStart => exact ⟨0, by omega, rfl, HM2.out, by rw [zi7, HPS.out]; simp⟩
      case round =>
       obtain ⟨j, hj, rfl, hmk, hsu⟩ := hrel
       have Hmk := zH hmk
       by_cases hlt : j < k
       · have hkl : j < l.length := by omega
         have hdr := yX hkl
         rw [hdr] at hsu
         obtain ⟨b, o, rfl, hb, hc0, hc1, hc2, hc3, hc4⟩ := Uk (Hrd.out.below hmk.bel) hkl
         have hk1 : (j : Int) < (k : Int) := by omega
         have hk0 : (0 : Int) ≤ (j : Int) := by omega
         generalize l[j] = x at *
         obtain ⟨xn, xs, xkA, xkm, xkc, xfA, xfm, xfc, xmA, xmm, xmc⟩ := x
         simp only at hc0 hc1 hc2 hc3 hc4 hsu
         have HH := zH (yt wr.heap.size (w.heap.size + 1) (jE ps) xs wr (hmk.isR HRfew.out))
         rw [YR] at HH
         have Hsu := zH hsu
         generalize hNS : nms (full ps) = NS at *
         have hHN : (mk ps).has xs = NS.contains xs := by rw [← hNS]; rfl
         rw [hHN] at HH
         cases hin : NS.contains xs
         · rw [hin] at HH
           have Hwhy := zH (za3 (c := xn) Hp32.out Htn.out (by rw [hNS, Hsu.out]; show (if NS.contains xs then _ else _) = _; rw [hin]; rfl))
           clear hmk hsu hdr hin hNS hHN
           go_wp2_with (go_at_call 57; refine HH.out.mono ?_; rintro e w' ⟨rfl, rfl⟩)
           go_quiet (fail)
           go_wp2_with fail
           go_ret3
           exact yP Hwhy.out (by decide) (drawn Hmk.out.bel _)
         · rw [hin] at HH
           have Hsu2 := zH (show qH NS (full ps) = qH NS ((l.drop (j + 1)).map CE.p2) by rw [Hsu.out]; show (if NS.contains xs then _ else _) = _; rw [hin]; rfl)
           clear hmk hsu hdr hin hNS hHN
           go_wp2_with (go_at_call 57; refine HH.out.mono ?_; rintro e w' ⟨rfl, rfl⟩)
           go_roundw
           case rel => exact ⟨j + 1, by omega, by go_num, Hmk.out, Hsu2.out⟩
           case measure => simp [intOf]; omega
       · have hsn : qH (nms (full ps)) (full ps) = none := by rw [hsu, List.drop_of_length_le (by omega)]; rfl
         have Hsn := zH hsn
         have HM3 := zH hmk
         clear hmk hsu hsn Hmk
         go_wp2_with fail
         go_loopw [8] (fun i wr => ∃ q : Nat, q ≤ k ∧ i = .int .i64 q ∧ MkR w wr (jE ps) ∧ inLoop (mk ps) (full ps) = inLoop (mk ps) ((l.drop q).map CE.p2)) (fun i _ => k - (intOf i).toNat)
         case atStart => exact ⟨0, by omega, rfl, HM3.out, by rw [Gu ps Htn.out, HPS.out]; simp⟩
         case round =>
          obtain ⟨q, hq, rfl, hmk, hlo⟩ := hrel
          have Hmk := zH hmk
          by_cases hlt : q < k
          · have hkl : q < l.length := by omega
            have hdr := yX hkl
            rw [hdr] at hlo
            obtain ⟨b, o, rfl, hb, hc0, hc1, hc2, hc3, hc4⟩ := Uk (Hrd.out.below hmk.bel) hkl
            have hk1 : (q : Int) < (k : Int) := by omega
            have hk0 : (0 : Int) ≤ (q : Int) := by omega
            have hmem := Hmem.out _ (List.getElem_mem hkl)
            generalize l[q] = x at *
            obtain ⟨xn, xs, xkA, xkm, xkc, xfA, xfm, xfc, xmA, xmm, xmc⟩ := x
            simp only at hc0 hc1 hc2 hc3 hc4 hlo
            have hup : (mk ps).up xn = some xs := Zi7 Htn.out Hsn.out hmem
            have hmore : Zm (mk ps).up 60 ((mk ps).up xn) xn = Zm (mk ps).up (mk ps).names.length ((mk ps).up xn) xn :=
             zj1 (mk ps).names (fun _ _ _ hu => kI hu) (by show xn ∈ nms (full ps); unfold nms; exact List.mem_cons_of_mem _ (List.mem_map.2 ⟨_, hmem, rfl⟩)) (by have := Hp32.out; simp [mk, nms, full, alw]; omega)
            have HS := zH (fun (u : T) (S : T × Bool) (hS : qy (mk ps) u = S) => kL wr.heap.size (w.heap.size + 1) (jE ps) u S ((kK Htn.out Hsn.out u).trans hS) wr (hmk.isR HRfew.out))
            have Hlo := zH hlo
            have Hst := zH (show Zm (mk ps).up 60 ((mk ps).up xn) xn = Zm (mk ps).up (60 - 0) (KX (xs, true)) xn by rw [hup]; rfl)
            have Hno := zH (show Zm (mk ps).up 60 ((mk ps).up xn) xn = false → inLoop (mk ps) (full ps) = inLoop (mk ps) ((l.drop (q + 1)).map CE.p2) by
             intro h
             rw [Hlo.out]
             show (if Zm (mk ps).up (mk ps).names.length ((mk ps).up xn) xn = true then _ else _) = _
             rw [← hmore, h]; rfl)
            have Hyes := zH (show Zm (mk ps).up 60 ((mk ps).up xn) xn = true → qg ps = (xn, 14) by
             intro h
             refine kG (c := xn) Hp32.out Htn.out Hsn.out ?_
             rw [Hlo.out]
             show (if Zm (mk ps).up (mk ps).names.length ((mk ps).up xn) xn = true then _ else _) = _
             rw [← hmore, h]; rfl)
            clear hmk hlo hdr hup hmore hmem
            generalize Zm (mk ps).up 60 ((mk ps).up xn) xn = LF at *
            go_wp2_with fail
            go_loop [9, 10, 11] (fun s ok i => ∃ (n : Nat) (o : T × Bool), n ≤ 60 ∧ i = .int .i64 n ∧ s = .string ⟨o.1.toArray⟩ ∧ ok = .bool o.2 ∧ LF = Zm (mk ps).up (60 - n) (KX o) xn) (fun _ _ i => 60 - (intOf i).toNat)
            case atStart => exact ⟨0, (xs, true), by omega, rfl, rfl, rfl, Hst.out⟩
            case round =>
             obtain ⟨n, o2, hn, rfl, rfl, rfl, hst⟩ := hrel
             obtain ⟨u, ok⟩ := o2
             by_cases hn60 : n < 60
             · obtain ⟨r, hr⟩ : ∃ r, 60 - n = r + 1 := ⟨60 - n - 1, by omega⟩
               have hr2 : r = 60 - (n + 1) := by omega
               rw [hr] at hst
               have hn60' : (n : Int) < 60 := by omega
               cases ok
               · have Hq := zH (Hno.out hst)
                 clear hst hr hr2
                 go_wp2_with fail
                 go_roundw
                 case rel => exact ⟨q + 1, by omega, by go_num, Hmk.out, Hq.out⟩
                 case measure => simp [intOf]; omega
               · cases hE : u == xn
                 · generalize hS2 : qy (mk ps) u = S2 at *
                   have HS2 := zH (HS.out u S2 hS2)
                   have Hst2 := zH (show LF = Zm (mk ps).up (60 - (n + 1)) (KX S2) xn by
                    rw [hst, ← hS2, xV, ← hr2]
                    show (u == xn || Zm (mk ps).up r ((mk ps).up u) xn) = _
                    rw [hE]; rfl)
                   clear hst hr hr2 hS2
                   go_wp2_with (go_at_call 92; refine HS2.out.mono ?_; rintro e w' ⟨rfl, rfl⟩)
                   go_round
                   case rel => exact ⟨n + 1, S2, by omega, by go_num, rfl, rfl, Hst2.out⟩
                   case measure => simp [intOf]; omega
                 · have Hwhy := zH (Hyes.out (by
                    rw [hst]
                    show (u == xn || Zm (mk ps).up r ((mk ps).up u) xn) = _
                    rw [hE]; rfl))
                   clear hst hr hr2
                   go_wp2_with fail
                   go_quiet (fail)
                   go_wp2_with fail
                   go_ret3
                   exact yP Hwhy.out (by decide) (drawn Hmk.out.bel _)
             · have hn60' : ¬ (n : Int) < 60 := by omega
               have Hq := zH (Hno.out (by rw [hst, show 60 - n = 0 by omega]; rfl))
               clear hst
               go_wp2_with fail
               go_roundw
               case rel => exact ⟨q + 1, by omega, by go_num, Hmk.out, Hq.out⟩
               case measure => simp [intOf]; omega
          · have hln : inLoop (mk ps) (full ps) = none := by rw [hlo, List.drop_of_length_le (by omega)]; rfl
            have Hwhy := zH (zm7 Hp32.out Htn.out Hsn.out hln)
            have HIs := zH (hmk.isR HRfew.out)
            clear hmk hlo hln
            go_wp2_with fail
            go_ret3
            exact Gy Hwhy.out Hmk.out.bel HIs.out
end HierY
end Go.Proofs.YtehainbhoflpnaaGreatDoor
