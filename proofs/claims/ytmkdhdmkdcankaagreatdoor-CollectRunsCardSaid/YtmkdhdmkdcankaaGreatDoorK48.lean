/- pieces -/
import Derived.Test.YtmkdhdmkdcankaaGreatDoorK47
namespace Go.Proofs.YtmkdhdmkdcankaaGreatDoor
set_option maxRecDepth 100000
set_option maxHeartbeats 16000000
namespace ClN
open Go.RowKit Base BinM HpM HpA
section
variable (w : World) (h p : Option Addr) (A : Option Addr) (m c : Nat) (hn : h = none ∨ p = none)
include hn
end
end ClN
namespace ClP
open Go.RowKit Base BinM HpM HpA HpB HpG HpP HpT HpZ HpR HpQ HpW ClM ClX ClY ClZ ClI ClJ ClA ClC ClL
theorem Qb.later {w wr w' : World} {x g r p u : Nat} {ts : List Th} (P : Qb w wr x g r p u ts) (hb : Below wr.heap.size wr w') : Qb w w' x g r p u ts := by
 obtain ⟨⟨w1, h1, S, h2, h3⟩, h4⟩ := P
 exact ⟨⟨w1, h1, S.beside hb, h2, h3⟩, h4⟩
theorem Qb.low {w wr : World} {x g r p u : Nat} {ts : List Th} (P : Qb w wr x g r p u ts) : Below w.heap.size w wr := by
 obtain ⟨⟨w1, h1, S, h2, h3⟩, h4⟩ := P
 exact h1.trans ((qZ S).mono h1.size)
theorem Qb.box {w wr : World} {x g r p u : Nat} {ts : List Th} (P : Qb w wr x g r p u ts) : Bx wr x (bx x g r p u).2.1 (bx x g r p u).2.2 := by
 obtain ⟨⟨w1, h1, S, h2, h3⟩, h4⟩ := P
 exact Vw S (List.mem_singleton.2 rfl)
section
variable {w wr : World} {x g r p u : Nat} {ts : List Th}
theorem play_reach (P : Qb w wr x g r p u ts) {Ar : Option Addr} {cr : Nat} {roots : List Int} (R : Rds wr Ar (roots.map (Value.int .i64))) (hrl : roots.length ≤ 100000) (hfr : ∀ x ∈ roots, zo x) :
 Calls Tryz.prog 10 #[.pointer (some ⟨g, 0, none⟩), .pointer (some ⟨p, 0, none⟩), .slice Ar roots.length cr] wr (Yr wr (zn ts roots)) := by
 obtain ⟨⟨w1, h1, S, ⟨lo, y, t, gg, mb, n, A, c, h, L, f, hP, hs⟩, h3⟩, h4⟩ := P
 have hl := qZ S
 obtain ⟨a1, a2, a3, a4, a5, a6, a7, a8, a9, S, rfl, h2, h5⟩ := S
 exact xH (hP wr hl) hs S.hp S.fits (by omega) R hrl hfr
theorem play_live (P : Qb w wr x g r p u ts) {Ar : Option Addr} {cr : Nat} {roots : List Int} (R : Rds wr Ar (roots.map (Value.int .i64))) (hrl : roots.length ≤ 100000) (hfr : ∀ x ∈ roots, zo x) :
 Calls Tryz.prog 13 #[.pointer (some ⟨g, 0, none⟩), .pointer (some ⟨p, 0, none⟩), .slice Ar roots.length cr] wr fun e w' => e = .returned (.tuple #[.int .i64 (uZ ts roots).1, .int .i64 (uZ ts roots).2]) ∧ Below wr.heap.size wr w' := by
 obtain ⟨⟨w1, h1, S, ⟨lo, y, t, gg, mb, n, A, c, h, L, f, hP, hs⟩, h3⟩, h4⟩ := P
 have hl := qZ S
 obtain ⟨a1, a2, a3, a4, a5, a6, a7, a8, a9, S, rfl, h2, h5⟩ := S
 exact live_any (hP wr hl) hs S.hp S.fits (by omega) R hrl hfr
theorem Gu {w0 : World} {mb : Nat} {Aw Aa AL : Option Addr} {cw ca cL most : Nat} {ms : List HpR.ThM} {n : Nat} {f : Int → Option Int} (S : Sim w0 wr g mb Aw cw Aa ca r AL cL most ms n f) (h : ∀ t ∈ things ms, t.s = 0) : f = fun _ => none := by
 funext v
 by_cases hv : v ∈ adr 0 (things ms)
 · rw [← S.rf.ats, List.mem_map] at hv
   obtain ⟨m, hm, rfl⟩ := hv
   rw [S.sent m hm, if_pos (h m.t (by unfold things; exact List.mem_map.2 ⟨m, hm, rfl⟩))]
 · exact S.none_ v hv
theorem play_run {wq : World} (P : Qb w wq x g r p u ts) (hb : Below wq.heap.size wq wr) {Ar : Option Addr} {cr : Nat} {roots : List Int} (R : Rds wr Ar (roots.map (Value.int .i64))) (hA : ∀ a, Ar = some a → wq.heap.size ≤ a.block) (hrl : roots.length ≤ 100000) (hfr : ∀ x ∈ roots, zo x) :
 ∃ mb Aw Aa, Calls Tryz.prog 21 #[.pointer (some ⟨g, 0, none⟩), .pointer (some ⟨p, 0, none⟩), .slice Ar roots.length cr] wr (ClW.Us (zQ g mb Aw Aa) wr g 400 ts 0 (fun _ => none) roots) := by
 obtain ⟨⟨w1, h1, S0, ⟨lo, y, t, gg, mb, n, A, c, h, L, f, hP, hs⟩, h3⟩, h4⟩ := P
 have hl := qZ S0
 obtain ⟨a1, a2, a3, a4, a5, a6, a7, a8, a9, S0, rfl, h2, h5⟩ := S0
 have S := S0.beside hb
 have hf := Gu S h2
 subst hf
 refine ⟨a1, a2, a4, ClW.XJ (fun w' T => hP w' ((hl.trans (hb.mono hl.size)).trans (T.below S.own S.bel.size))) hs S.hp S.fits (by omega) (by omega) (by omega) (fun v => by show zo 0; unfold zo; omega) R (fun a ha _ hk => ?_) hrl hfr⟩
 have h6 := S0.hp.lt hk
 have h7 := hA a ha
 omega
end
def kM : List OpenMk.MkT := [⟨1, 0, []⟩, ⟨0, 0, []⟩, ⟨0, 0, []⟩]
def kS : List OpenMk.StT := [⟨1, 1, 2, false, 0⟩, ⟨2, 1, 1, false, 0⟩]
theorem zb1 : uZ (JB kM kS) [2] = (8, 0) := by kernel_rfl
theorem KP : zn (JB kM kS) [2] = (0, [2, 6]) := by kernel_rfl
end ClP
namespace ClQ
open Go.RowKit Base BinM HpM HpA HpB HpG HpP HpT HpZ HpR HpQ HpW ClM ClX ClY ClZ ClI ClJ ClP
def Qp (ts : List Th) (raw : Bool) (x : Int) : Int := if raw = true then x else if x ≤ 0 then 0 else if 0 < ts.length then (adr 0 ts).getD (x.tmod (ts.length : Int)).toNat 0 else x
def Y5 (ts : List Th) (l : List Int) (raw : Bool) : List Int := (l.take 20).map (Qp ts raw)
theorem Jp {w w' : World} {base : Nat} {v : Value} {l : List Int} (h : zT w base v l) (hb : Below w.heap.size w w') : zT w' base v l :=
 ze h (fun k hk => hb.block k (World.ownsRow.lt h k hk).2)
theorem XU {w0 wr W w5 : World} {v : Value} {l : List Int} (Hbw : Below w0.heap.size w0 wr) (h : zT wr w0.heap.size v l) (hW : Below wr.heap.size wr W) (o : Obj) (hg : (W.alloc o).grownBy w5 v.ownBlock) : Below w0.heap.size w0 w5 := by
 have h1 := Hbw.trans (hW.mono Hbw.size)
 have h2 := h1.alloc h1.size o
 exact h2.grown hg h2.size (fun k hk => (World.ownsRow.lt h k hk).1)
theorem roots_any {w w0 : World} {x g r p u : Nat} {ts : List Th} (P : Qb w w0 x g r p u ts) (A : Option Addr) (c : Nat) (l : List Int) (R : Rds w0 A (l.map (Value.int .i64))) (raw : Bool) :
 Calls Tryz.prog 9 #[.pointer (some ⟨x, 0, none⟩), .slice A l.length c, .bool raw] w0 fun e w' => ∃ v, e = .returned v ∧ zT w' w0.heap.size v (Y5 ts l raw) ∧ Below w0.heap.size w0 w' := by
 have HP := zH P
 have HR := zH R
 clear P R
 go_enter Tryz.func9, Tryz.ntmps9
 go_wp2_with fail
 go_loopw [7, 8, 9] (fun v i _ wr => ∃ j : Nat, j ≤ l.length ∧ j ≤ 20 ∧ i = .int .i64 j ∧ zT wr w0.heap.size v ((l.take j).map (Qp ts raw)) ∧ Below w0.heap.size w0 wr) (fun _ i _ _ => l.length - (intOf i).toNat)
 case atStart => exact ⟨0, Nat.zero_le _, by omega, rfl, World.ownsRow_nil _ _ _ _, Below.refl _ _⟩
 case round =>
  obtain ⟨j, hj, hj20, rfl, hown, hbw⟩ := hrel
  have Hown := zH hown
  have Hbw := zH hbw
  have HPr := zH (ClP.Qb.later HP.out hbw)
  have hx := ClP.Qb.box HPr.out
  have c1 : wr.cell? ⟨x, 1, none⟩ = some (.pointer (some ⟨r, 0, none⟩)) := hx.cell 1
  have hxl := hx.lt
  obtain ⟨AL, cL, hbox, hcells⟩ : ∃ AL cL, Bx wr r #[.int .i64 400, .slice AL ts.length cL] 63 ∧ ∀ k (_ : k < ts.length), ∃ b o, AL = some ⟨b, o, none⟩ ∧ wr.cell? ⟨b, o + k * 4, none⟩ = some (.int .i64 ((adr 0 ts).getD k 0)) := by
   obtain ⟨⟨w1, h1, S, h2⟩, h3⟩ := HPr.out
   exact uy S
  have l0 : wr.cell? ⟨r, 1, none⟩ = some (.slice AL ts.length cL) := hbox.cell 1
  have hrl := hbox.lt
  have hol : ((l.take j).map (Qp ts raw)).length ≤ 100000 := by rw [List.length_map, List.length_take]; omega
  clear hown hbox hx
  by_cases hgo : j < l.length ∧ j < 20
  · obtain ⟨hlt, h20⟩ := hgo
    obtain ⟨b, o1, rfl, hbl, k0⟩ := (HR.out.below hbw).at_ (k := j) (by simpa using hlt)
    rw [List.getElem_map] at k0
    have hj1 : (j : Int) < (l.length : Int) := by omega
    have hj2 : (j : Int) < 20 := by omega
    have HE : Hid ((l.take (j + 1)).map (Qp ts raw) = (l.take j).map (Qp ts raw) ++ [Qp ts raw l[j]]) := zH (by rw [List.take_succ_eq_append_getElem hlt, List.map_append]; rfl)
    generalize l[j] = n at *
    generalize (l.take j).map (Qp ts raw) = o at *
    clear hbw
    cases raw
    · by_cases hn : n ≤ 0
      · have hV : Qp ts false n = 0 := by unfold Qp; rw [if_neg (by simp), if_pos hn]
        rw [hV] at HE
        have hn1 : ¬ 0 < n := by omega
        clear hcells hV
        have HO := zH (fun (W : World) (hW : Below wr.heap.size wr W) => Jp (Jp Hown.out hW) ((Below.refl W.heap.size W).alloc (Nat.le_refl _) (.cells #[.int .i64 0] 2)))
        have HRd := zH (fun (W : World) => TabZ.ZG (Bx.new W #[.int .i64 0] 2))
        have HG := zH (fun (W : World) (hW : Below wr.heap.size wr W) (v5 : Value) (w5 : World) (hg : (W.alloc (.cells #[.int .i64 0] 2)).grownBy w5 u7.ownBlock) => XU Hbw.out Hown.out hW (.cells #[.int .i64 0] 2) hg)
        go_wp2_with (at_builtin; refine ClB.xB rfl (.tmp 76) (.tmp 78) rfl w0.heap.size _ (o) rfl (HO.out (wr) (Below.refl _ _)) wr.heap.size 1 (0) rfl (HRd.out (wr)) hol (by have := Hbw.out.size; simp; omega) ?_; intro v5 w5 hown5 hg5 _; have H5 := zH hown5; have B5 := zH (HG.out _ (Below.refl _ _) v5 w5 hg5); clear hown5 hg5)
        all_goals
         go_roundw
         case rel => exact ⟨j + 1, by omega, by omega, by go_num, by rw [HE.out]; exact H5.out, B5.out⟩
         case measure => simp [intOf]; omega
      · have hn1 : 0 < n := by omega
        by_cases ht : 0 < ts.length
        · have ht1 : (0 : Int) < (ts.length : Int) := by omega
          have ht2 : 0 ≤ n.tmod (ts.length : Int) := Int.tmod_nonneg _ (by omega)
          have ht3 : n.tmod (ts.length : Int) < (ts.length : Int) := Int.tmod_lt_of_pos _ (by omega)
          have hnz : ((ts.length : Int) == 0) = false := by rw [beq_eq_false_iff_ne]; omega
          have hnn : ¬ ts = [] := by rintro rfl; simp at ht
          obtain ⟨b3, o3, rfl, c3⟩ := hcells (n.tmod (ts.length : Int)).toNat (by omega)
          have hV : Qp ts false n = (adr 0 ts).getD (n.tmod (ts.length : Int)).toNat 0 := by unfold Qp; rw [if_neg (by simp), if_neg hn, if_pos ht]
          rw [hV] at HE
          generalize (adr 0 ts).getD (n.tmod (ts.length : Int)).toNat 0 = z at *
          clear hcells hV
          go_wp2_with fail
          go_quiet (fail)
          have HO := zH (fun (W : World) (hW : Below wr.heap.size wr W) => Jp (Jp Hown.out hW) ((Below.refl W.heap.size W).alloc (Nat.le_refl _) (.cells #[.int .i64 z] 2)))
          have HRd := zH (fun (W : World) => TabZ.ZG (Bx.new W #[.int .i64 z] 2))
          have HG := zH (fun (W : World) (hW : Below wr.heap.size wr W) (v5 : Value) (w5 : World) (hg : (W.alloc (.cells #[.int .i64 z] 2)).grownBy w5 u7.ownBlock) => XU Hbw.out Hown.out hW (.cells #[.int .i64 z] 2) hg)
          go_wp2_with (at_builtin; refine ClB.xB rfl (.tmp 76) (.tmp 78) rfl w0.heap.size _ (o) rfl (HO.out (wr.drewN nq) (below_drewN wr _)) wr.heap.size 1 (z) rfl (HRd.out (wr.drewN nq)) hol (by have := Hbw.out.size; simp; omega) ?_; intro v5 w5 hown5 hg5 _; have H5 := zH hown5; have B5 := zH (HG.out _ (below_drewN wr _) v5 w5 hg5); clear hown5 hg5)
          go_roundw
          case rel => exact ⟨j + 1, by omega, by omega, by go_num, by rw [HE.out]; exact H5.out, B5.out⟩
          case measure => simp [intOf]; omega
        · have ht1 : ¬ (0 : Int) < (ts.length : Int) := by omega
          have hV : Qp ts false n = n := by unfold Qp; rw [if_neg (by simp), if_neg hn, if_neg ht]
          rw [hV] at HE
          clear hcells hV
          have HO := zH (fun (W : World) (hW : Below wr.heap.size wr W) => Jp (Jp Hown.out hW) ((Below.refl W.heap.size W).alloc (Nat.le_refl _) (.cells #[.int .i64 n] 2)))
          have HRd := zH (fun (W : World) => TabZ.ZG (Bx.new W #[.int .i64 n] 2))
          have HG := zH (fun (W : World) (hW : Below wr.heap.size wr W) (v5 : Value) (w5 : World) (hg : (W.alloc (.cells #[.int .i64 n] 2)).grownBy w5 u7.ownBlock) => XU Hbw.out Hown.out hW (.cells #[.int .i64 n] 2) hg)
          go_wp2_with (at_builtin; refine ClB.xB rfl (.tmp 76) (.tmp 78) rfl w0.heap.size _ (o) rfl (HO.out (wr) (Below.refl _ _)) wr.heap.size 1 (n) rfl (HRd.out (wr)) hol (by have := Hbw.out.size; simp; omega) ?_; intro v5 w5 hown5 hg5 _; have H5 := zH hown5; have B5 := zH (HG.out _ (Below.refl _ _) v5 w5 hg5); clear hown5 hg5)
          go_roundw
          case rel => exact ⟨j + 1, by omega, by omega, by go_num, by rw [HE.out]; exact H5.out, B5.out⟩
          case measure => simp [intOf]; omega
    · have hV : Qp ts true n = n := by unfold Qp; rw [if_pos rfl]
      rw [hV] at HE
      clear hcells hV
      have HO := zH (fun (W : World) (hW : Below wr.heap.size wr W) => Jp (Jp Hown.out hW) ((Below.refl W.heap.size W).alloc (Nat.le_refl _) (.cells #[.int .i64 n] 2)))
      have HRd := zH (fun (W : World) => TabZ.ZG (Bx.new W #[.int .i64 n] 2))
      have HG := zH (fun (W : World) (hW : Below wr.heap.size wr W) (v5 : Value) (w5 : World) (hg : (W.alloc (.cells #[.int .i64 n] 2)).grownBy w5 u7.ownBlock) => XU Hbw.out Hown.out hW (.cells #[.int .i64 n] 2) hg)
      go_wp2_with (at_builtin; refine ClB.xB rfl (.tmp 76) (.tmp 78) rfl w0.heap.size _ (o) rfl (HO.out (wr) (Below.refl _ _)) wr.heap.size 1 (n) rfl (HRd.out (wr)) hol (by have := Hbw.out.size; simp; omega) ?_; intro v5 w5 hown5 hg5 _; have H5 := zH hown5; have B5 := zH (HG.out _ (Below.refl _ _) v5 w5 hg5); clear hown5 hg5)
      go_roundw
      case rel => exact ⟨j + 1, by omega, by omega, by go_num, by rw [HE.out]; exact H5.out, B5.out⟩
      case measure => simp [intOf]; omega
  · have hE : Y5 ts l raw = (l.take j).map (Qp ts raw) := by unfold Y5; rw [Yx hj20 (by omega)]
    have HE := zH hE
    clear hE hcells hbw
    generalize (l.take j).map (Qp ts raw) = o at *
    by_cases hx1 : j < l.length
    · have hy1 : (j : Int) < (l.length : Int) := by omega
      have hy2 : ¬ (j : Int) < 20 := by omega
      go_wp2_with fail
      go_ret
      exact ⟨u7, rfl, by rw [HE.out]; exact Hown.out, Hbw.out⟩
    · have hy1 : ¬ (j : Int) < (l.length : Int) := by omega
      go_wp2_with fail
      go_ret
      exact ⟨u7, rfl, by rw [HE.out]; exact Hown.out, Hbw.out⟩
end ClQ
namespace ClO
open Go.RowKit Base BinM HpM HpA HpB HpG HpP HpT HpZ HpR HpQ HpW ClM ClX ClY ClZ ClI ClJ ClP
theorem known_run : ClW.UC (JB kM kS) (fun _ => none) [2] = (0, [2, 6]) := by kernel_rfl
theorem KO : (raw ([2, 6].map (ClV.cpT (JB kM kS) (ClS.zh (JB kM kS) (fun _ => none) [2, 6])))).length = 8 := by kernel_rfl
theorem known_now : ([2] : List Int).map (fun x => (ClS.zh (JB kM kS) (fun _ => none) [2, 6] x).getD 0) = [1] := by kernel_rfl
theorem play_run2 {w wq wr : World} {x g r p u : Nat} {ts : List Th} (P : Qb w wq x g r p u ts) (hb : Below wq.heap.size wq wr) {Ar : Option Addr} {cr : Nat} {roots : List Int} (R : Rds wr Ar (roots.map (Value.int .i64))) (hA : ∀ a, Ar = some a → wq.heap.size ≤ a.block) (hrl : roots.length ≤ 100000) (hfr : ∀ x ∈ roots, zo x) :
 ∃ mb Aw Aa, ((∀ k, zQ g mb Aw Aa k → w.heap.size ≤ k ∧ k < wq.heap.size) ∧ ¬ zQ g mb Aw Aa x ∧ (∃ AL cL ms, RfX wr r AL cL 400 ms ∧ things ms = ts ∧ ∀ k, zQ g mb Aw Aa k → ¬ Z6 r AL ms k) ∧ ∃ cw ca, HpX wr g mb Aw cw Aa ca 400 (raw ts) (adr 0 ts) 0 (fun _ => none)) ∧ Calls Tryz.prog 21 #[.pointer (some ⟨g, 0, none⟩), .pointer (some ⟨p, 0, none⟩), .slice Ar roots.length cr] wr (ClW.Us (zQ g mb Aw Aa) wr g 400 ts 0 (fun _ => none) roots) := by
 obtain ⟨⟨w1, h1, S0, ⟨lo, y, t, gg, mb, n, A, c, h, L, f, hP, hs⟩, h3⟩, h4⟩ := P
 have hl := qZ S0
 obtain ⟨a1, a2, a3, a4, a5, a6, a7, a8, a9, S0, rfl, h2, h5⟩ := S0
 have S := S0.beside hb
 have hf := Gu S h2
 subst hf
 refine ⟨a1, a2, a4, ⟨fun k hk => ⟨Nat.le_trans h1.size (S.own k hk), S0.hp.lt hk⟩, (h5 _ (List.mem_singleton.2 rfl)).2.1, ⟨a6, a7, a8, S.rf, rfl, S.apart⟩, a3, a5, S.hp⟩, ClW.XJ (fun w' T => hP w' ((hl.trans (hb.mono hl.size)).trans (T.below S.own S.bel.size))) hs S.hp S.fits (by omega) (by omega) (by omega) (fun v => by show zo 0; unfold zo; omega) R (fun a ha _ hk => ?_) hrl hfr⟩
 have h6 := S0.hp.lt hk
 have h7 := hA a ha
 omega
theorem run_known {w wq wr : World} {x g r p u : Nat} (P : Qb w wq x g r p u (JB kM kS)) (hb : Below wq.heap.size wq wr) {b : Nat} (hx : Bx wr b #[.int .i64 2] 2) (hbl : wq.heap.size ≤ b) :
 Calls Tryz.prog 21 #[.pointer (some ⟨g, 0, none⟩), .pointer (some ⟨p, 0, none⟩), .slice (some ⟨b, 0, none⟩) 1 1] wr fun e w' => ∃ g2 b2 mp2 Aw2 cw2 Aa2 ca2 al n2 f2 ws, e = .returned (.tuple #[.pointer (some ⟨g2, 0, none⟩), .slice (some ⟨b2, 0, none⟩) 1 1, .int .i64 0]) ∧ ws.length = 8 ∧ HpX w' g2 mp2 Aw2 cw2 Aa2 ca2 400 ws al n2 f2 ∧ Rds w' (some ⟨b2, 0, none⟩) ([1].map (Value.int .i64)) ∧ Below w.heap.size w w' ∧ w'.heap[x]? = wr.heap[x]? := by
 have hlow := ClP.Qb.low P
 obtain ⟨mb, Aw, Aa, ⟨hlo, hxf, _⟩, H⟩ := play_run2 P hb (TabZ.ZG hx) (fun a ha => by injection ha with ha; subst ha; exact hbl) (cr := 1) (roots := [2]) (by simp) (by intro y hy; rw [List.mem_singleton] at hy; subst hy; unfold zo; omega)
 refine H.mono ?_
 rintro e w' (⟨h, _⟩ | ⟨_, g2, b2, out, hr, rfl, T, _, hbl2⟩)
 · rw [known_run] at h; exact absurd rfl h
 · rw [KP] at hr
   injection hr with _ hr
   subst hr
   obtain ⟨mp, Aw1, cw, Aa1, ca, mp2, Aw2, cw2, Aa2, ca2, n2, f2, T, hS⟩ := T
   refine ⟨g2, b2, mp2, Aw2, cw2, Aa2, ca2, _, n2, f2, _, rfl, KO, T.g, ?_, ?_, ?_⟩
   · have h2 := (hS _ (List.mem_singleton.2 rfl)).1
     rw [known_now] at h2
     exact h2
   · exact (hlow.trans (hb.mono hlow.size)).trans (T.tur.below (fun k hk => (hlo k hk).1) (Nat.le_trans hlow.size hb.size))
   · exact T.tur.block x (Nat.lt_of_lt_of_le (ClP.Qb.box P).lt hb.size) hxf
theorem J9 (w : World) (hL : InsA.Laid w) : Calls Tryz.prog 19 #[] w fun e w' => e = .returned (.bool true) ∧ Below w.heap.size w w' := by
 have b1 := Bx.new w #[.int .i64 1, .int .i64 0, .string ⟨#[]⟩, .int .i64 0, .int .i64 0, .string ⟨#[]⟩, .int .i64 0, .int .i64 0, .string ⟨#[]⟩] 89
 have b2 := Bx.new (w.alloc (.cells #[.int .i64 1, .int .i64 0, .string ⟨#[]⟩, .int .i64 0, .int .i64 0, .string ⟨#[]⟩, .int .i64 0, .int .i64 0, .string ⟨#[]⟩] 89)) #[.int .i64 1, .int .i64 1, .int .i64 2, .bool false, .int .i64 0, .int .i64 2, .int .i64 1, .int .i64 1, .bool false, .int .i64 0] 92
 have hal : Below w.heap.size w ((w.alloc (.cells #[.int .i64 1, .int .i64 0, .string ⟨#[]⟩, .int .i64 0, .int .i64 0, .string ⟨#[]⟩, .int .i64 0, .int .i64 0, .string ⟨#[]⟩] 89)).alloc (.cells #[.int .i64 1, .int .i64 1, .int .i64 2, .bool false, .int .i64 0, .int .i64 2, .int .i64 1, .int .i64 1, .bool false, .int .i64 0] 92)) := ((Below.refl _ w).alloc (Nat.le_refl _) _).alloc (by simp) _
 have b1' := b1.after (((Below.refl _ _).alloc (Nat.le_refl _) (.cells #[.int .i64 1, .int .i64 1, .int .i64 2, .bool false, .int .i64 0, .int .i64 2, .int .i64 1, .int .i64 1, .bool false, .int .i64 0] 92)) : Below (w.alloc (.cells #[.int .i64 1, .int .i64 0, .string ⟨#[]⟩, .int .i64 0, .int .i64 0, .string ⟨#[]⟩, .int .i64 0, .int .i64 0, .string ⟨#[]⟩] 89)).heap.size _ _)
 rw [World.size_alloc] at b2
 have HBg := zH (ClK.Vj (some ⟨w.heap.size, 0, none⟩) (some ⟨w.heap.size + 1, 0, none⟩) 3 2 kM kS ((w.alloc (.cells #[.int .i64 1, .int .i64 0, .string ⟨#[]⟩, .int .i64 0, .int .i64 0, .string ⟨#[]⟩, .int .i64 0, .int .i64 0, .string ⟨#[]⟩] 89)).alloc (.cells #[.int .i64 1, .int .i64 1, .int .i64 2, .bool false, .int .i64 0, .int .i64 2, .int .i64 1, .int .i64 1, .bool false, .int .i64 0] 92)) (TabZ.ZG b1') (by intro m hm; simp [kM] at hm; rcases hm with rfl | rfl <;> exact ⟨by unfold Stru.zo; decide, by unfold Stru.zo; decide, by simp⟩) (TabZ.ZG b2) (by intro m hm; simp [kS] at hm; rcases hm with rfl | rfl <;> exact ⟨by unfold Stru.zo; decide, by unfold Stru.zo; decide, by unfold Stru.zo; decide, by unfold Stru.zo; decide⟩) (hL.below hal hL.1))
 have HAl := zH hal
 clear b1 b1' b2 hal hL
 go_enter Tryz.func19, Tryz.ntmps19
 go_wp2_with fail
 generalize ((w.alloc (.cells #[.int .i64 1, .int .i64 0, .string ⟨#[]⟩, .int .i64 0, .int .i64 0, .string ⟨#[]⟩, .int .i64 0, .int .i64 0, .string ⟨#[]⟩] 89)).alloc (.cells #[.int .i64 1, .int .i64 1, .int .i64 2, .bool false, .int .i64 0, .int .i64 2, .int .i64 1, .int .i64 1, .bool false, .int .i64 0] 92)) = w2 at *
 refine HBg.out.mono ?_
 rintro e w3 ⟨x, rfl, g, r, p, u, hP⟩
 have hx := ClP.Qb.box hP
 have a0 : w3.cell? ⟨x, 0, none⟩ = some (.pointer (some ⟨g, 0, none⟩)) := hx.cell 0
 have a1 : w3.cell? ⟨x, 2, none⟩ = some (.pointer (some ⟨p, 0, none⟩)) := hx.cell 2
 have hxl := hx.lt
 have HP := zH hP
 have HX := zH hx
 have B3 := zH (HAl.out.trans ((ClP.Qb.low hP).mono HAl.out.size))
 clear hP hx HBg
 go_wp2_with fail
 have HLv : Hid (∀ (v : World) (k : Nat), Below w3.heap.size w3 v → Bx v k #[.int .i64 2] 2 → Calls Tryz.prog 13 #[.pointer (some ⟨g, 0, none⟩), .pointer (some ⟨p, 0, none⟩), .slice (some ⟨k, 0, none⟩) 1 1] v fun e w' => e = .returned (.tuple #[.int .i64 8, .int .i64 0]) ∧ Below v.heap.size v w') := zH (fun v k hv hk => by
  have h := play_live (ClP.Qb.later HP.out hv) (TabZ.ZG hk) (cr := 1) (roots := [2]) (by simp) (by intro y hy; rw [List.mem_singleton] at hy; subst hy; unfold zo; omega)
  rw [zb1] at h
  exact h)
 have HRn : Hid (∀ (v : World) (k : Nat), Below w3.heap.size w3 v → Bx v k #[.int .i64 2] 2 → w3.heap.size ≤ k → Calls Tryz.prog 21 #[.pointer (some ⟨g, 0, none⟩), .pointer (some ⟨p, 0, none⟩), .slice (some ⟨k, 0, none⟩) 1 1] v fun e w' => ∃ g2 b2 mp2 Aw2 cw2 Aa2 ca2 al n2 f2 ws, e = .returned (.tuple #[.pointer (some ⟨g2, 0, none⟩), .slice (some ⟨b2, 0, none⟩) 1 1, .int .i64 0]) ∧ ws.length = 8 ∧ HpX w' g2 mp2 Aw2 cw2 Aa2 ca2 400 ws al n2 f2 ∧ Rds w' (some ⟨b2, 0, none⟩) ([1].map (Value.int .i64)) ∧ Below w2.heap.size w2 w' ∧ w'.heap[x]? = v.heap[x]?) := zH (fun v k hv hk hl => run_known HP.out hv hk hl)
 have hB0 : Below w3.heap.size w3 w3 := Below.refl _ _
 have hA1 : Below w3.heap.size w3 (w3.alloc (.cells #[.int .i64 2] 2)) := hB0.alloc (Nat.le_refl _) _
 have hBx : Bx (w3.alloc (.cells #[.int .i64 2] 2)) w3.heap.size #[.int .i64 2] 2 := Bx.new _ _ _
 have hBxd : Bx (w3.alloc (.cells #[.int .i64 2] 2)).drew w3.heap.size #[.int .i64 2] 2 := hBx
 go_region_held3 (fun w' => w'.cell? ⟨x, 0, none⟩ = some (.pointer (some ⟨g, 0, none⟩)) ∧ w'.cell? ⟨x, 2, none⟩ = some (.pointer (some ⟨p, 0, none⟩)))
  (first | (with_reducible exact ⟨a0, a1⟩) | (with_reducible exact ⟨c0, c1⟩) | go_keep)
  (first
   | (go_at_call 13
      refine (HLv.out _ _ hA1.drew hBxd).mono ?_
      rintro e w5 ⟨rfl, hb5⟩
      have B5 := zH (hA1.drew.trans (hb5.mono hA1.drew.size))
      have c0 : w5.cell? ⟨x, 0, none⟩ = some (.pointer (some ⟨g, 0, none⟩)) := (HX.out.after B5.out).cell 0
      have c1 : w5.cell? ⟨x, 2, none⟩ = some (.pointer (some ⟨p, 0, none⟩)) := (HX.out.after B5.out).cell 2
      clear hb5))
 clear hA1 hBx hBxd hB0 a0 a1 HLv
 go_wp2_with fail
 have hA1 : Below w3.heap.size w3 (w5.alloc (.cells #[.int .i64 2] 2)) := B5.out.alloc B5.out.size _
 have hBxd : Bx (w5.alloc (.cells #[.int .i64 2] 2)).drew w5.heap.size #[.int .i64 2] 2 := Bx.new _ _ _
 have hxl5 : x < w5.heap.size := Nat.lt_of_lt_of_le hxl B5.out.size
 go_region_held3 (fun w' => w'.cell? ⟨x, 0, none⟩ = some (.pointer (some ⟨g, 0, none⟩)) ∧ w'.cell? ⟨x, 2, none⟩ = some (.pointer (some ⟨p, 0, none⟩)))
  (first | (with_reducible exact ⟨c0, c1⟩) | (with_reducible exact ⟨d0, d1⟩) | go_keep)
  (first
   | (go_at_call 21
      refine (HRn.out _ _ hA1.drew hBxd B5.out.size).mono ?_
      rintro e w6 ⟨g2, b2, mp2, Aw2, cw2, Aa2, ca2, al, n2, f2, ws, rfl, hws, hpx, hrd, hb6, hx6⟩
      have HPX := zH hpx
      have HRD := zH hrd
      have B6 := zH hb6
      have HWS := zH hws
      have hX6 := zH (show Bx w6 x (bx x g r p u).2.1 (bx x g r p u).2.2 from hx6.trans (HX.out.after hA1.drew))
      have d0 : w6.cell? ⟨x, 0, none⟩ = some (.pointer (some ⟨g, 0, none⟩)) := hX6.out.cell 0
      have d1 : w6.cell? ⟨x, 2, none⟩ = some (.pointer (some ⟨p, 0, none⟩)) := hX6.out.cell 2
      clear hpx hrd hb6 hws hx6))
 have HU := zH (HpG.used_any HPX.out)
 rw [HWS.out] at HU
 have hal6 : Below w6.heap.size w6 (w6.alloc (.cells #[.int .i64 1] 2)) := (Below.refl _ _).alloc (Nat.le_refl _) _
 have HSm := zH (HpS.j6 (some ⟨b2, 0, none⟩) (some ⟨w6.heap.size, 0, none⟩) 1 1 1 1 [1] [1] (w6.alloc (.cells #[.int .i64 1] 2)) rfl rfl (by omega) (by omega) (HRD.out.below hal6) (TabZ.ZG (Bx.new w6 #[.int .i64 1] 2)))
 rw [show decide (([1] : List Int) = [1]) = true from rfl] at HSm
 have B7 := zH (HAl.out.trans ((B6.out.trans (hal6.mono B6.out.size)).mono HAl.out.size))
 clear hal6
 go_wp2_with (first
  | (go_at_call 51; refine HU.out.mono ?_; rintro e v1 ⟨rfl, rfl⟩)
  | (go_at_call 15; refine HSm.out.mono ?_; rintro e v2 ⟨rfl, q, rfl⟩))
 go_ret
 exact ⟨rfl, ⟨B7.out.os, B7.out.tape, B7.out.output, B7.out.size, B7.out.block⟩⟩
end ClO
end Go.Proofs.YtmkdhdmkdcankaaGreatDoor
