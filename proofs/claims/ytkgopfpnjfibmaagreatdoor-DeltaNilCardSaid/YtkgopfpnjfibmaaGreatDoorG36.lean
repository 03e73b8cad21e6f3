/-
  Which classes of two tables have not the same: table.same, Changed, and the document's alike and Changed.
-/
import Derived.Test.YtkgopfpnjfibmaaGreatDoorG35
import Derived.Deep.Onto
import Derived.Test.YtkgopfpnjfibmaaGreatDoorG10
namespace Go.Proofs.YtkgopfpnjfibmaaGreatDoor
namespace TabCg
open Go.RowKit Base BinM Stru DescM DescW DescX HierS HierT HierM HierC HierD HierN HierR HierU Kls KlsP KlsQ TabC TabM TabK TabP TabE TabB TabG TabH TabT TabU TabV TabW TabN TabO TabY TabR TabQ TabEq

theorem own_ext {w w' : World} {base : Nat} {e : TypeId} {size n : Nat} {v : Value} {xs : List Value} (h : w.ownsRow base e size v n xs) (hb : Below w.heap.size w w') : w'.ownsRow base e size v n xs :=
  TabM.own_same h (fun k hk => hb.block k (h.lt k hk).2)
/-- whether a class has the same in two tables -/
def chg (C D : List ClsT) (q : T) : Bool := decide ((hav C q).1.map fldOf = (hav D q).1.map fldOf) && decide ((hav C q).2.map nsE = (hav D q).2.map nsE)
def chL (ns : List T) (has : T → Bool) (C D : List ClsT) : List T := ns.filter (fun q => has q && !chg C D q)
theorem chL_take {ns : List T} {has : T → Bool} {C D : List ClsT} {j : Nat} (hj : j < ns.length) : chL (ns.take (j + 1)) has C D = chL (ns.take j) has C D ++ (if (has ns[j] && !chg C D ns[j]) = true then [ns[j]] else []) := by
  unfold chL
  rw [List.take_succ_eq_append_getElem hj, List.filter_append]
  congr 1
  cases h : (has ns[j] && !chg C D ns[j]) <;> simp [h]
theorem app_no {cs cs' : List T} {q : T} {b : Bool} (h : cs' = cs ++ (if b = true then [q] else [])) (hb : b = false) : cs' = cs := by rw [h, hb]; simp
theorem app_yes {cs cs' : List T} {q : T} {b : Bool} (h : cs' = cs ++ (if b = true then [q] else [])) (hb : b = true) : cs' = cs ++ [q] := by rw [h, hb]; simp
theorem chL_len (ns : List T) (has : T → Bool) (C D : List ClsT) : (chL ns has C D).length ≤ ns.length := List.length_filter_le _ _
set_option maxRecDepth 100000 in
set_option maxHeartbeats 2000000 in
theorem same_any (x y : HavT) (w : World) (hx : x.is w) (hy : y.is w) (h1 : x.fields.length ≤ 100000 ∧ x.meths.length ≤ 100000) (h2 : y.fields.length ≤ 100000 ∧ y.meths.length ≤ 100000) :
    Calls Tryz.prog 199 #[x.V, y.V] w fun e w' => e = .returned (.bool (decide (x.fields.map fldOf = y.fields.map fldOf) && decide (x.meths.map nsE = y.meths.map nsE))) ∧ Below w.heap.size w w' := by
  obtain ⟨fA, fn, fc, mA, mn, mc, fs, ms⟩ := x
  obtain ⟨fB, gn, gc, mB, kn, kc, gs, ks⟩ := y
  obtain ⟨a1, a2, a3, a4, a5, a6, a7, a8⟩ := hx
  obtain ⟨b1, b2, b3, b4, b5, b6, b7, b8⟩ := hy
  simp only at a1 a2 a3 a4 a5 a6 a7 a8 b1 b2 b3 b4 b5 b6 b7 b8 h1 h2
  simp only [HavT.V]
  subst a1
  subst a5
  subst b1
  subst b5
  have hA1 : Below w.heap.size w (w.alloc (.cells #[.slice fA fs.length fc, .slice mA ms.length mc] 167)) := (Below.refl _ _).alloc (Nat.le_refl _) _
  have hA2 : Below w.heap.size w ((w.alloc (.cells #[.slice fA fs.length fc, .slice mA ms.length mc] 167)).alloc (.cells #[.slice fB gs.length gc, .slice mB ks.length kc] 167)) := hA1.alloc (by simp) _
  have hs1 : (w.alloc (.cells #[.slice fA fs.length fc, .slice mA ms.length mc] 167)).heap.size = w.heap.size + 1 := by simp
  have X2 := Lib.hid ((Bx.new w #[.slice fA fs.length fc, .slice mA ms.length mc] 167).after ((Below.refl _ _).alloc (Nat.le_refl _) (.cells #[.slice fB gs.length gc, .slice mB ks.length kc] 167)))
  have Y0 := Bx.new (w.alloc (.cells #[.slice fA fs.length fc, .slice mA ms.length mc] 167)) #[.slice fB gs.length gc, .slice mB ks.length kc] 167
  rw [hs1] at Y0
  have Y2 := Lib.hid Y0
  have B2 := Lib.hid hA2
  have HF := Lib.hid (equalFF_any fA fB fs gs fs.length gs.length fc gc _ rfl rfl h1.1 h2.1 (a4.below hA2) (b4.below hA2))
  have HE := Lib.hid (fun W (hb : Below w.heap.size w W) => equalEE_any mA mB ms ks ms.length ks.length mc kc W rfl rfl h1.2 h2.2 (a8.below hb) (b8.below hb))
  clear hA1 hA2 hs1 Y0 a2 a3 a4 a6 a7 a8 b2 b3 b4 b6 b7 b8 h1 h2
  generalize decide (fs.map fldOf = gs.map fldOf) = D1 at *
  generalize decide (ms.map nsE = ks.map nsE) = D2 at *
  go_enter Tryz.func199, Tryz.ntmps199
  go_wp2_with fail
  refine HF.out.mono ?_
  rintro e w3 ⟨rfl, hb3⟩
  have B3 := Lib.hid (B2.out.trans (hb3.mono B2.out.size))
  have x1 := (X2.out.after hb3).cell 1
  have y1 := (Y2.out.after hb3).cell 1
  clear hb3
  cases D1
  · go_wp2_with fail
    go_ret
    exact ⟨rfl, B3.out⟩
  · go_wp2_with fail
    refine (HE.out _ B3.out).mono ?_
    rintro e w4 ⟨rfl, hb4⟩
    have B4 := Lib.hid (B3.out.trans (hb4.mono B3.out.size))
    clear hb4
    go_wp2_with fail
    go_ret
    exact ⟨by simp, B4.out⟩

set_option maxRecDepth 100000 in
set_option maxHeartbeats 8000000 in
theorem changed_any {lo : Nat} {w : World} {t g mb n : Nat} {A : Option Addr} {c : Nat} {h : Hr} {L : List ClsT} {f : T → Option HavT} (H : Ta lo w t g mb n A c h L f) (ht : Total L f) (hfew : ∀ k ∈ L, k.fields.length ≤ 16 ∧ k.meths.length ≤ 32)
    {lo2 : Nat} {t2 g2 mb2 n2 : Nat} {A2 : Option Addr} {c2 : Nat} {h2 : Hr} {L2 : List ClsT} {f2 : T → Option HavT} (H2 : Ta lo2 w t2 g2 mb2 n2 A2 c2 h2 L2 f2) (ht2 : Total L2 f2) (hfew2 : ∀ k ∈ L2, k.fields.length ≤ 16 ∧ k.meths.length ≤ 32)
    (hnm : ∀ q ∈ h.names, q.length ≤ 140737488351232) :
    Calls Tryz.prog 117 #[.pointer (some ⟨t, 0, none⟩), .pointer (some ⟨t2, 0, none⟩)] w fun e w' => ∃ v, e = .returned v ∧ OwnT w' w.heap.size v (chL h.names h2.has L L2) ∧ Below w.heap.size w w' := by
  have hn41 := H.hier.few
  have HT1 := Lib.hid (fun W (hb : Below w.heap.size w W) => H.ext hb)
  have HT2 := Lib.hid (fun W (hb : Below w.heap.size w W) => H2.ext hb)
  have HNs := Lib.hid (fun W (hb : Below w.heap.size w W) => names_any lo g h W (H.ext hb).hier)
  have HHs := Lib.hid (fun W (hb : Below w.heap.size w W) (q : T) => HierM.has_any lo2 g2 h2 q W (H2.ext hb).hier)
  have HV1 := Lib.hid (fun W (hb : Below w.heap.size w W) (q : T) (hq : q.length ≤ 140737488351232) => TabU.has_any (H.ext hb) ht q hq)
  have HV2 := Lib.hid (fun W (hb : Below w.heap.size w W) (q : T) (hq : q.length ≤ 140737488351232) => TabU.has_any (H2.ext hb) ht2 q hq)
  have HL1 := Lib.hid (fun q => hav_len hfew q)
  have HL2 := Lib.hid (fun q => hav_len hfew2 q)
  have Hnm := Lib.hid hnm
  have b0 := H.box.cell 0
  have b20 := H2.box.cell 0
  have Z := Lib.hid (Below.refl w.heap.size w)
  clear H H2 ht ht2 hfew hfew2 hnm
  generalize hns : h.names = ns at *
  clear hns
  go_enter Tryz.func117, Tryz.ntmps117
  go_wp2_with fail
  refine (HNs.out _ Z.out).mono ?_
  rintro e w1 ⟨v1, rfl, ho1, hb1⟩
  obtain ⟨A1, c1, rfl, _, _, r1, _⟩ := ho1.slice
  have R1 := Lib.hid r1
  have B1 := Lib.hid hb1
  have Z1 := Lib.hid (Below.refl w1.heap.size w1)
  clear ho1 hb1 b0 r1
  go_wp2_with fail
  go_loopw [5, 7, 20] (fun v _ i wr => ∃ (j : Nat), j ≤ ns.length ∧ i = .int .i64 j ∧ OwnT wr w1.heap.size v (chL (ns.take j) h2.has L L2) ∧ Below w1.heap.size w1 wr) (fun _ _ i _ => ns.length - (intOf i).toNat)
  case atStart => exact ⟨0, Nat.zero_le _, rfl, World.ownsRow_nil _ _ _ _, Z1.out⟩
  case round =>
    obtain ⟨j, hj, rfl, hown, hbw⟩ := hrel
    have Hbw := Lib.hid hbw
    have HO := Lib.hid hown
    have GB := Lib.hid (B1.out.trans (hbw.mono B1.out.size))
    obtain ⟨A5, c5, rfl, _, _, _, _⟩ := hown.slice
    by_cases hlt : j < ns.length
    · obtain ⟨b9, o9, hA9, hb9, hc9⟩ := (R1.out.below hbw).at_ (k := j) (by simp; omega)
      subst hA9
      rw [List.getElem_map] at hc9
      have hj1 : (j : Int) < (ns.length : Int) := by omega
      have hj0 : (0 : Int) ≤ (j : Int) := by omega
      have HT := Lib.hid (chL_take (has := h2.has) (C := L) (D := L2) hlt)
      have hl := chL_len (ns.take j) h2.has L L2
      rw [List.length_take] at hl
      have Hq := Lib.hid (Hnm.out _ (List.getElem_mem hlt))
      have x20 := (HT2.out _ GB.out).box.cell 0
      have xlt := (HT2.out _ GB.out).box.lt
      have hsz := hbw.size
      clear hbw hown
      generalize ns[j] = q at *
      generalize chL (ns.take j) h2.has L L2 = cs at *
      generalize hhas : h2.has q = hb at *
      have Hhas := Lib.hid hhas
      clear hhas
      simp only [sv] at hc9
      cases hb
      · go_wp2_with fail
        refine (HHs.out _ GB.out q).mono ?_
        rw [Hhas.out]
        rintro e w' ⟨rfl, rfl⟩
        go_wp2_with fail
        go_roundw
        case rel => exact ⟨j + 1, by omega, by go_num, by rw [app_no HT.out rfl]; exact HO.out, Hbw.out⟩
        case measure => simp [intOf]; omega
      · go_wp2_with fail
        refine (HHs.out _ GB.out q).mono ?_
        rw [Hhas.out]
        rintro e w' ⟨rfl, rfl⟩
        go_wp2_with fail
        refine (HV1.out _ GB.out q Hq.out).mono ?_
        rintro e w3 ⟨x, rfl, hx, hxf, hxm, hb3⟩
        have B3 := Lib.hid (Hbw.out.trans (hb3.mono hsz))
        have G3 := Lib.hid (GB.out.trans (hb3.mono GB.out.size))
        have O3 := Lib.hid (own_ext HO.out hb3)
        have HX := Lib.hid (And.intro (keeps_hav hx (keeps_below hb3)) (And.intro hxf hxm))
        clear hx hxf hxm hb3
        go_wp2_with fail
        refine (HV2.out _ G3.out q Hq.out).mono ?_
        rintro e w4 ⟨y, rfl, hy, hyf, hym, hb4⟩
        have B4 := Lib.hid (B3.out.trans (hb4.mono B3.out.size))
        have G4 := Lib.hid (G3.out.trans (hb4.mono G3.out.size))
        have O4 := Lib.hid (own_ext O3.out hb4)
        have l1 := HL1.out q
        have l2 := HL2.out q
        have HS := Lib.hid (same_any x y w4 (keeps_hav HX.out.1 (keeps_below hb4)) (keeps_hav hy (keeps_below hb4)) (by rw [HX.out.2.1, HX.out.2.2]; omega) (by rw [hyf, hym]; omega))
        rw [HX.out.2.1, HX.out.2.2, hyf, hym] at HS
        have HT3 := HT.out
        unfold chg at HT3
        generalize (decide ((hav L q).1.map fldOf = (hav L2 q).1.map fldOf) && decide ((hav L q).2.map nsE = (hav L2 q).2.map nsE)) = D at *
        have HT4 := Lib.hid HT3
        clear hy hyf hym hb4 l1 l2 HT3
        go_wp2_with fail
        refine HS.out.mono ?_
        rintro e w5 ⟨rfl, hb5⟩
        have B5 := Lib.hid (B4.out.trans (hb5.mono B4.out.size))
        have O5 := Lib.hid (own_ext O4.out hb5)
        have hs5 := B5.out.size
        clear hb5
        cases D
        · go_wp2_with (at_builtin
                       refine appT rfl (.tmp 40) (.tmp 42) rfl w1.heap.size _ cs rfl (World.ownsRow.alloc O5.out _) (some ⟨w5.heap.size, 0, none⟩) 1 1 [q] rfl rfl (rds_new _ #[sv q] 9) (by simp; omega) (by simp; omega) ?_
                       intro v6 w6 hown6 hg6
                       have B6 := Lib.hid (below_own (B5.out.alloc hs5 _) (World.ownsRow.alloc O5.out _) (Nat.le_refl _) (by simp; omega) hg6)
                       have O6 := Lib.hid hown6
                       clear hown6 hg6)
          go_roundw
          case rel => exact ⟨j + 1, by omega, by go_num, by rw [app_yes HT4.out rfl]; exact O6.out, B6.out⟩
          case measure => simp [intOf]; omega
        · go_wp2_with fail
          go_roundw
          case rel => exact ⟨j + 1, by omega, by go_num, by rw [app_no HT4.out rfl]; exact O5.out, B5.out⟩
          case measure => simp [intOf]; omega
    · have hjm : j = ns.length := by omega
      have HF := Lib.hid (show OwnT wr w.heap.size (.slice A5 (chL (ns.take j) h2.has L L2).length c5) (chL ns h2.has L L2) by
        have e : ns.take j = ns := List.take_of_length_le (by omega)
        have h := HO.out
        rw [e] at h ⊢
        exact World.ownsRow.mono h B1.out.size)
      clear hbw hown
      go_wp2_with fail
      go_ret
      exact ⟨_, rfl, HF.out, GB.out⟩
end TabCg
end Go.Proofs.YtkgopfpnjfibmaaGreatDoor
/-
  The document's own Same, of classes: what it returns.
-/
namespace Go.Proofs.YtkgopfpnjfibmaaGreatDoor
namespace Kls
open Go.RowKit Base BinM Stru PoolM PoolA PoolJ InsJ

end Kls
end Go.Proofs.YtkgopfpnjfibmaaGreatDoor
