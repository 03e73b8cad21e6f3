/-
  The document's Merge.
-/
import Derived.Test.YtiagjnimafdbhaaGreatDoorG43
import Derived.Test.YtiagjnimafdbhaaGreatDoorG27
import Derived.Test.YtiagjnimafdbhaaGreatDoorG13
namespace Go.Proofs.YtiagjnimafdbhaaGreatDoor
namespace DlR
open Go.RowKit Base BinM Stru DescM DescW DescX HierS HierT HierM HierC HierD HierN HierY Kls KlsP KlsQ OpenK TabC TabM TabK TabP TabE TabB TabG TabH TabT TabU TabV TabW TabN TabO TabY TabR TabCs TabCl DlP
open TabZ (bx_al bx_at rds_bx)

/-- so many classes put into a row -/
structure Nr (w0 wr : World) (A : Option Addr) (cap : Nat) (D : List ClsT) : Prop where
  own : wr.ownsRow w0.heap.size 43 5 (.slice A D.length cap) D.length (D.flatMap valsC)
  bel : Below w0.heap.size w0 wr
theorem Nr.start (w : World) : Nr w w none 0 [] := ⟨World.ownsRow_nil _ _ _ _, Below.refl _ _⟩
theorem Nr.ext {w0 wr w' : World} {A : Option Addr} {cap : Nat} {D : List ClsT} (h : Nr w0 wr A cap D) (hb : Below wr.heap.size wr w') : Nr w0 w' A cap D :=
  ⟨TabM.own_same h.own (fun q hq => hb.block q (h.own.lt q hq).2), h.bel.trans (hb.mono h.bel.size)⟩
theorem Nr.push {w0 W W2 : World} {A : Option Addr} {cap : Nat} {D : List ClsT} (h : Nr w0 W A cap D) {y : ClsT} (v : Value)
    (hF : W2.ownsRow w0.heap.size 43 5 v (D.length + 1) ((D ++ [y]).flatMap valsC)) (hg : W.grownBy W2 (Value.slice A D.length cap).ownBlock) :
    ∃ A' cap', v = .slice A' (D ++ [y]).length cap' ∧ Nr w0 W2 A' cap' (D ++ [y]) := by
  obtain ⟨A', cap', rfl, _, _, _, _⟩ := own_slice hF
  have hl : (D ++ [y]).length = D.length + 1 := by simp
  exact ⟨A', cap', by rw [hl], by rw [hl]; exact hF, below_own h.bel h.own (Nat.le_refl _) h.bel.size hg⟩
/-- the class in a place, so many of the others looked at from the end -/
def cur (X : List ClsT) (x : ClsT) (j : Nat) : ClsT := ((X.drop (X.length - j)).find? (named x.name)).getD x
theorem cur_zero (X : List ClsT) (x : ClsT) : cur X x 0 = x := by simp [cur]
theorem cur_all (X : List ClsT) (x : ClsT) : cur X x X.length = rep X x := by simp [cur, rep]
theorem cur_next {X : List ClsT} (x : ClsT) {j : Nat} (hj : j < X.length) (hk : X.length - 1 - j < X.length) : cur X x (j + 1) = if X[X.length - 1 - j].name == x.name then X[X.length - 1 - j] else cur X x j := by
  unfold cur
  have e : X.drop (X.length - (j + 1)) = X[X.length - 1 - j] :: X.drop (X.length - j) := by
    rw [show X.length - (j + 1) = X.length - 1 - j by omega, List.drop_eq_getElem_cons hk, show X.length - 1 - j + 1 = X.length - j by omega]
  rw [e, List.find?_cons]
  unfold named
  cases h : (X[X.length - 1 - j].name == x.name) <;> simp

theorem classR0 {lo : Nat} {w : World} {r g : Nat} {A : Option Addr} {c : Nat} {ps : List P2} {L : List ClsT} (H : RT lo w r g A c ps L) (hml : L.length ≤ 100000) (q : T) (hf : L.find? (named q) = none) :
    Calls Tryz.prog 30 #[.pointer (some ⟨r, 0, none⟩), .string ⟨q.toArray⟩] w fun e w' => e = .returned (.tuple #[.agg #[.string ⟨#[]⟩, .string ⟨#[]⟩, .slice none 0 0, .slice none 0 0, .slice none 0 0], .bool false]) ∧ Below w.heap.size w w' := by
  have h := classR_any H hml q
  rw [show keptC q L = noC from by unfold keptC; rw [hf]; rfl, hf] at h
  exact h
theorem classR1 {lo : Nat} {w : World} {r g : Nat} {A : Option Addr} {c : Nat} {ps : List P2} {L : List ClsT} (H : RT lo w r g A c ps L) (hml : L.length ≤ 100000) (q : T) (k : ClsT) (hf : L.find? (named q) = some k) :
    Calls Tryz.prog 30 #[.pointer (some ⟨r, 0, none⟩), .string ⟨q.toArray⟩] w fun e w' => e = .returned (.tuple #[.agg #[.string ⟨k.name.toArray⟩, .string ⟨k.sup.toArray⟩, .slice k.kA k.km k.kc, .slice k.fA k.fm k.fc, .slice k.mA k.mm k.mc], .bool true]) ∧ Below w.heap.size w w' := by
  have h := classR_any H hml q
  rw [show keptC q L = k from by unfold keptC; rw [hf]; rfl, hf] at h
  exact h

set_option maxRecDepth 100000 in
set_option maxHeartbeats 16000000 in
theorem mergeR_any {lo : Nat} {w : World} {r g : Nat} {A : Option Addr} {c : Nat} {ps : List P2} {L : List ClsT} (H : RT lo w r g A c ps L) (hml : L.length ≤ 1000)
    (A2 : Option Addr) (c2 : Nat) (X : List ClsT) (hX : X.length ≤ 1000) (hr : Rds w A2 (X.flatMap valsC)) (his : ∀ x ∈ X, x.is w) :
    Calls Tryz.prog 10 #[.pointer (some ⟨r, 0, none⟩), .agg #[.slice A2 X.length c2, .slice none 0 0]] w (GivesM L X w) := by
  have HT := Lib.hid H
  have HX := Lib.hid (And.intro hr his)
  have hb3 := Lib.hid ((Below.refl w.heap.size w).alloc (Nat.le_refl _) (.cells #[.slice A2 X.length c2, .slice none 0 0] 36))
  have X3 := Lib.hid (Bx.new w #[.slice A2 X.length c2, .slice none 0 0] 36)
  clear H hr his
  go_enter Tryz.func10, Tryz.ntmps10
  go_wp2_with fail
  obtain ⟨w1, hw1⟩ : ∃ w1, w1 = w.alloc (.cells #[.slice A2 X.length c2, .slice none 0 0] 36) := ⟨_, rfl⟩
  rw [← hw1] at hb3 X3 ⊢
  clear hw1
  have Z1 := Lib.hid (Below.refl w1.heap.size w1)
  go_loopw [7] (fun i wr => ∃ j : Nat, j ≤ X.length ∧ i = .int .i64 j ∧ (∀ x ∈ X.take j, badS L x = false) ∧ Below w1.heap.size w1 wr) (fun i _ => X.length - (intOf i).toNat)
  case atStart => exact ⟨0, Nat.zero_le _, rfl, by simp, Z1.out⟩
  case round =>
    obtain ⟨j, hj, rfl, hno, hbel⟩ := hrel
    have Hno := Lib.hid hno
    have Hbel := Lib.hid hbel
    have hbw := hb3.out.trans (hbel.mono hb3.out.size)
    have Hbw := Lib.hid hbw
    have e0 := (X3.out.after hbel).cell 0
    clear hno
    by_cases hlt : j < X.length
    · obtain ⟨b, o, hA, hb1, hc0, hc1, hc2, hc3, hc4⟩ := cls_at (HX.out.1.below hbw) hlt
      have HAt := Lib.hid (fun W (hb : Below w.heap.size w W) => cls_at (HX.out.1.below hb) hlt)
      subst hA
      have hj1 : (j : Int) < (X.length : Int) := by omega
      have hj0 : (0 : Int) ≤ (j : Int) := by omega
      have Hnext := Lib.hid (fun he => find_next (badS L) hlt Hno.out he)
      have Hat := Lib.hid (fun he => find_at (badS L) hlt Hno.out he)
      generalize X[j] = x at *
      have HT2 := Lib.hid (HT.out.ext hbw)
      clear hbel hbw hc1 hc2 hc3 hc4
      cases hf : L.find? (named x.name) with
      | none =>
        have Hq := Lib.hid (Hnext.out (show badS L x = false by unfold badS; rw [hf]))
        have HCl := Lib.hid (classR0 HT2.out (by omega) x.name hf)
        go_wp2_with fail
        refine HCl.out.mono ?_
        rintro e w5 ⟨rfl, hb5⟩
        have B15 := Lib.hid (Hbel.out.trans (hb5.mono Hbel.out.size))
        clear hb5
        go_wp2_with fail
        go_quiet (fail)
        go_wp2_with fail
        go_roundw
        case rel => exact ⟨j + 1, by omega, by go_num, Hq.out, drawn (B15.out.alloc B15.out.size _) _⟩
        case measure => simp [intOf]; omega
      | some k =>
        have HCl := Lib.hid (classR1 HT2.out (by omega) x.name k hf)
        go_wp2_with fail
        refine HCl.out.mono ?_
        rintro e w5 ⟨rfl, hb5⟩
        have B15 := Lib.hid (Hbel.out.trans (hb5.mono Hbel.out.size))
        have YB5 := Lib.hid (Bx.new w5 #[.string ⟨k.name.toArray⟩, .string ⟨k.sup.toArray⟩, .slice k.kA k.km k.kc, .slice k.fA k.fm k.fc, .slice k.mA k.mm k.mc] 43)
        have hb6 := B15.out.alloc B15.out.size (.cells #[.string ⟨k.name.toArray⟩, .string ⟨k.sup.toArray⟩, .slice k.kA k.km k.kc, .slice k.fA k.fm k.fc, .slice k.mA k.mm k.mc] 43)
        have e0 := (X3.out.after hb6).cell 0
        have d1 := YB5.out.cell 1
        have d0 := YB5.out.cell 0
        obtain ⟨b', o', hA', hb1', hc0', hc1, _, _, _⟩ := HAt.out _ (hb3.out.trans (hb6.mono hb3.out.size))
        cases hA'
        clear hb5 hc0' hb6
        cases hq : (k.sup == x.sup)
        · have Hq := Lib.hid (Hat.out (show badS L x = true by unfold badS; rw [hf]; show (!(k.sup == x.sup)) = true; rw [hq]; rfl))
          have HKN := Lib.hid (find_name hf)
          go_wp2_with fail
          go_quiet (fail)
          go_wp2_with fail
          go_quiet (fail)
          go_wp2_with fail
          go_ret3
          exact ⟨hb3.out.trans ((drawn (drawn (B15.out.alloc B15.out.size _) _) _).mono hb3.out.size), .inl ⟨x, Hq.out, by rw [HKN.out]; rfl⟩⟩
        · have Hq := Lib.hid (Hnext.out (show badS L x = false by unfold badS; rw [hf]; show (!(k.sup == x.sup)) = false; rw [hq]; rfl))
          go_wp2_with fail
          go_quiet (fail)
          go_wp2_with fail
          go_roundw
          case rel => exact ⟨j + 1, by omega, by go_num, Hq.out, drawn (B15.out.alloc B15.out.size _) _⟩
          case measure => simp [intOf]; omega
    · obtain ⟨wA, hwA⟩ : ∃ x, x = wr := ⟨_, rfl⟩
      subst hwA
      have Hnone := Lib.hid (find_not (badS L) (X := X) (by have := Hno.out; rwa [List.take_of_length_le (by omega)] at this))
      clear hbel
      go_wp2_with fail
      clear e0
      have Z0 := Lib.hid (Nr.start wA)
      go_loopw [10, 11] (fun v i wx => ∃ (k : Nat) (A' : Option Addr) (cap' : Nat) (D : List ClsT), k ≤ L.length ∧ v = .slice A' D.length cap' ∧ i = .int .i64 k ∧ D = (L.take k).map (rep X) ∧ Nr wA wx A' cap' D) (fun _ i _ => L.length - (intOf i).toNat)
      case atStart => exact ⟨0, none, 0, [], Nat.zero_le _, rfl, rfl, by simp, Z0.out⟩
      case round =>
        obtain ⟨k, A', cap', D, hk, rfl, rfl, rfl, hN⟩ := hrel
        have HN := Lib.hid hN
        have hbx := Hbw.out.trans (hN.bel.mono Hbw.out.size)
        have Hbx := Lib.hid hbx
        have hb1x := Hbel.out.trans (hN.bel.mono Hbel.out.size)
        have Hb1x := Lib.hid hb1x
        have t1 := (HT.out.ext hbx).box.cell 1
        have htl := (HT.out.ext hbx).box.lt
        have hsx := hN.bel.size
        clear hN
        by_cases hlk : k < L.length
        · obtain ⟨b, o, hA, hbl, hc0, hc1, hc2, hc3, hc4⟩ := cls_at (HT.out.rds.below hbx) hlk
          have HAtL := Lib.hid (fun W (hb : Below w.heap.size w W) => cls_at (HT.out.rds.below hb) hlk)
          subst hA
          have hk1 : (k : Int) < (L.length : Int) := by omega
          have hk0 : (0 : Int) ≤ (k : Int) := by omega
          have e0 := (X3.out.after hb1x).cell 0
          have HTk := Lib.hid (show (L.take (k + 1)).map (rep X) = (L.take k).map (rep X) ++ [rep X L[k]] from by rw [List.take_succ_eq_append_getElem hlk, List.map_append]; rfl)
          have Hlen := Lib.hid (show ((L.take k).map (rep X)).length = k by simp; omega)
          generalize (L.take k).map (rep X) = D at *
          generalize L[k] = x at *
          have XB := Lib.hid (Bx.new wr #[.string ⟨x.name.toArray⟩, .string ⟨x.sup.toArray⟩, .slice x.kA x.km x.kc, .slice x.fA x.fm x.fc, .slice x.mA x.mm x.mc] 43)
          have hbA := (Below.refl wr.heap.size wr).alloc (Nat.le_refl _) (.cells #[.string ⟨x.name.toArray⟩, .string ⟨x.sup.toArray⟩, .slice x.kA x.km x.kc, .slice x.fA x.fm x.fc, .slice x.mA x.mm x.mc] 43)
          have HbA := Lib.hid hbA
          have e0 := (X3.out.after (hb1x.trans (hbA.mono hb1x.size))).cell 0
          clear hbx hb1x hbA
          go_wp2_with fail
          clear hc0 hc1 hc2 hc3 hc4 e0 t1
          obtain ⟨wB, hwB⟩ : ∃ x, x = wr := ⟨_, rfl⟩
          subst hwB
          have Z2 := Lib.hid (Below.refl wB.heap.size wB)
          go_loopw [13] (fun i wy => ∃ j2 : Nat, j2 ≤ X.length ∧ i = .int .i64 ((X.length : Int) - 1 - j2) ∧ Bx wy wB.heap.size #[.string ⟨(cur X x j2).name.toArray⟩, .string ⟨(cur X x j2).sup.toArray⟩, .slice (cur X x j2).kA (cur X x j2).km (cur X x j2).kc, .slice (cur X x j2).fA (cur X x j2).fm (cur X x j2).fc, .slice (cur X x j2).mA (cur X x j2).mm (cur X x j2).mc] 43 ∧ Below wB.heap.size wB wy) (fun i _ => (intOf i + 1).toNat)
          case atStart => exact ⟨0, Nat.zero_le _, by simp, by rw [cur_zero]; exact XB.out, HbA.out⟩
          case round =>
            obtain ⟨j2, hj2, rfl, hcx, hby⟩ := hrel
            have Hby := Lib.hid hby
            have Hcx := Lib.hid hcx
            have hbW := Hbx.out.trans (hby.mono Hbx.out.size)
            have hb1W := Hb1x.out.trans (hby.mono Hb1x.out.size)
            by_cases hlt2 : j2 < X.length
            · have hlt3 : X.length - 1 - j2 < X.length := by omega
              obtain ⟨b2, o2, hA2, hbl2, g0, g1, g2, g3, g4⟩ := cls_at (HX.out.1.below hbW) hlt3
              obtain ⟨b', o', hA', _, hc0, _, _, _, _⟩ := HAtL.out _ hbW
              cases hA'
              have HAtX := Lib.hid (fun W (hb : Below w.heap.size w W) => cls_at (HX.out.1.below hb) hlt3)
              subst hA2
              have hix : ((X.length - 1 - j2 : Nat) : Int) = (X.length : Int) - 1 - j2 := by omega
              have hi0 : (0 : Int) ≤ (X.length : Int) - 1 - j2 := by omega
              have hi1 : (X.length : Int) - 1 - j2 < (X.length : Int) := by omega
              have e0 := (X3.out.after hb1W).cell 0
              have t1 := (HT.out.ext hbW).box.cell 1
              have htl := (HT.out.ext hbW).box.lt
              have Hcur := Lib.hid (cur_next x hlt2 hlt3)
              have hti : ((X.length : Int) - 1 - j2).toNat = X.length - 1 - j2 := by omega
              generalize X[X.length - 1 - j2] = y at *
              cases hq : (y.name == x.name)
              · have HC1 := Lib.hid (show cur X x (j2 + 1) = cur X x j2 by rw [Hcur.out, hq]; rfl)
                clear hcx hby hbW hb1W
                go_wp2_with fail
                go_quiet (fail)
                go_wp2_with fail
                go_roundw
                case rel => exact ⟨j2 + 1, by omega, by go_num, by rw [HC1.out]; exact Hcx.out, drawn Hby.out _⟩
                case measure => simp [intOf]; omega
              · have HC1 := Lib.hid (show cur X x (j2 + 1) = y by rw [Hcur.out, hq]; rfl)
                have f0 := hcx.free 0
                have f1 := hcx.free 1
                have f2 := hcx.free 2
                have f3 := hcx.free 3
                have f4 := hcx.free 4
                have c0 := hcx.cell 0
                have c1 := hcx.cell 1
                have c2 := hcx.cell 2
                have c3 := hcx.cell 3
                have c4 := hcx.cell 4
                have K0 := Lib.hid (((((hcx.set 0 (.string ⟨y.name.toArray⟩)).set 1 (.string ⟨y.sup.toArray⟩)).set 2 (.slice y.kA y.km y.kc)).set 3 (.slice y.fA y.fm y.fc)).set 4 (.slice y.mA y.mm y.mc))
                clear hcx hby hbW hb1W
                go_wp2_with fail
                go_quiet (fail)
                go_wp2_with fail
                go_roundw
                case rel => exact ⟨j2 + 1, by omega, by go_num, by rw [HC1.out]; exact K0.out, (((((drawn Hby.out _).setCell (p := ⟨wB.heap.size, 0, none⟩) (Nat.le_refl _) _).setCell (p := ⟨wB.heap.size, 1, none⟩) (Nat.le_refl _) _).setCell (p := ⟨wB.heap.size, 2, none⟩) (Nat.le_refl _) _).setCell (p := ⟨wB.heap.size, 3, none⟩) (Nat.le_refl _) _).setCell (p := ⟨wB.heap.size, 4, none⟩) (Nat.le_refl _) _⟩
                case measure => simp [intOf]; omega
            · obtain rfl : j2 = X.length := by omega
              have c0 := hcx.cell 0
              have c1 := hcx.cell 1
              have c2 := hcx.cell 2
              have c3 := hcx.cell 3
              have c4 := hcx.cell 4
              rw [cur_all] at Hcx c0 c1 c2 c3 c4
              generalize rep X x = y at *
              have hb9 := hby.alloc hby.size (.cells #[.string ⟨y.name.toArray⟩, .string ⟨y.sup.toArray⟩, .slice y.kA y.km y.kc, .slice y.fA y.fm y.fc, .slice y.mA y.mm y.mc] 43)
              have N8 := Lib.hid (HN.out.ext hb9)
              have hsy := hby.size
              clear hcx hby hbW hb1W hb9
              go_wp2_with (at_builtin
                           refine appCl rfl (.tmp 93) (.tmp 95) rfl wA.heap.size (.slice A' D.length cap') D rfl N8.out.own wr.heap.size 1 y rfl (Base.rds_new wr _ _) (by have := Hlen.out; omega) (by simp; omega) ?_
                           intro v9 w9 hF9 hg9 hat9
                           obtain ⟨A9, c9, rfl, hN9⟩ := N8.out.push v9 hF9 hg9
                           have N9 := Lib.hid hN9
                           clear hF9 hg9 hat9 hN9)
              go_roundw
              case rel => exact ⟨k + 1, A9, c9, D ++ [y], by omega, by simp, by go_num, HTk.out.symm, N9.out⟩
              case measure => simp [intOf]; omega
        · obtain rfl : k = L.length := by omega
          have e0 := (X3.out.after hb1x).cell 0
          obtain ⟨wB, hwB⟩ : ∃ x, x = wr := ⟨_, rfl⟩
          subst hwB
          rw [List.take_length] at HN ⊢
          have Hll := Lib.hid (show (L.map (rep X)).length = L.length by simp)
          clear hbx hb1x
          go_wp2_with fail
          clear e0 t1
          go_loopw [10, 14] (fun v i wy => ∃ (j2 : Nat) (A' : Option Addr) (cap' : Nat) (D : List ClsT), j2 ≤ X.length ∧ v = .slice A' D.length cap' ∧ i = .int .i64 j2 ∧ D = L.map (rep X) ++ (X.take j2).filter (newC L) ∧ D.length ≤ L.length + j2 ∧ Nr wA wy A' cap' D) (fun _ i _ => X.length - (intOf i).toNat)
          case atStart => exact ⟨0, A', cap', L.map (rep X), Nat.zero_le _, by first | rfl | simp, rfl, by simp, by simp, HN.out⟩
          case round =>
            obtain ⟨j2, A2', cap2', D, hj2, rfl, rfl, hD, hdl, hN2⟩ := hrel
            have N2 := Lib.hid hN2
            have HD := Lib.hid hD
            have hbx := Hbw.out.trans (hN2.bel.mono Hbw.out.size)
            have Hbx2 := Lib.hid hbx
            have hb1x := Hbel.out.trans (hN2.bel.mono Hbel.out.size)
            have Hb1x2 := Lib.hid hb1x
            have e0 := (X3.out.after hb1x).cell 0
            have hsx2 := hN2.bel.size
            clear hN2 hD
            by_cases hlt2 : j2 < X.length
            · obtain ⟨b2, o2, hA2, hbl2, hc0, hc1, hc2, hc3, hc4⟩ := cls_at (HX.out.1.below hbx) hlt2
              have HAtX := Lib.hid (fun W (hb : Below w.heap.size w W) => cls_at (HX.out.1.below hb) hlt2)
              subst hA2
              have hj1 : (j2 : Int) < (X.length : Int) := by omega
              have hj0 : (0 : Int) ≤ (j2 : Int) := by omega
              have Htk := Lib.hid (filter_next (newC L) hlt2)
              have HT2 := Lib.hid (HT.out.ext hbx)
              generalize X[j2] = x at *
              clear hbx hb1x hc1 hc2 hc3 hc4
              cases hf : L.find? (named x.name) with
              | some k2 =>
                have hno : newC L x = false := by unfold newC; rw [hf]; rfl
                have HT1 := Lib.hid (show (X.take (j2 + 1)).filter (newC L) = (X.take j2).filter (newC L) by rw [Htk.out, hno]; simp)
                have HCl := Lib.hid (classR1 HT2.out (by omega) x.name k2 hf)
                go_wp2_with fail
                refine HCl.out.mono ?_
                rintro e w5 ⟨rfl, hb5⟩
                have hb6 := hb5.alloc hb5.size (.cells #[.string ⟨k2.name.toArray⟩, .string ⟨k2.sup.toArray⟩, .slice k2.kA k2.km k2.kc, .slice k2.fA k2.fm k2.fc, .slice k2.mA k2.mm k2.mc] 43)
                have N6 := Lib.hid (N2.out.ext hb6)
                clear hb5 hb6
                go_wp2_with fail
                go_roundw
                case rel => exact ⟨j2 + 1, A2', cap2', D, by omega, rfl, by go_num, by rw [HT1.out]; exact HD.out, by omega, N6.out⟩
                case measure => simp [intOf]; omega
              | none =>
                have hyes : newC L x = true := by unfold newC; rw [hf]; rfl
                have HT1 := Lib.hid (show (X.take (j2 + 1)).filter (newC L) = (X.take j2).filter (newC L) ++ [x] by rw [Htk.out, hyes]; simp)
                have HCl := Lib.hid (classR0 HT2.out (by omega) x.name hf)
                go_wp2_with fail
                refine HCl.out.mono ?_
                rintro e w5 ⟨rfl, hb5⟩
                have hb6 := hb5.alloc hb5.size (.cells #[.string ⟨#[]⟩, .string ⟨#[]⟩, .slice none 0 0, .slice none 0 0, .slice none 0 0] 43)
                have e0 := (X3.out.after (Hb1x2.out.trans (hb6.mono Hb1x2.out.size))).cell 0
                obtain ⟨b', o', hA', hbl3, g0, g1, g2, g3, g4⟩ := HAtX.out _ (Hbx2.out.trans (hb6.mono Hbx2.out.size))
                cases hA'
                have N6 := Lib.hid (N2.out.ext (hb6.alloc hb6.size (.cells #[.string ⟨x.name.toArray⟩, .string ⟨x.sup.toArray⟩, .slice x.kA x.km x.kc, .slice x.fA x.fm x.fc, .slice x.mA x.mm x.mc] 43)))
                have hs6 := hb6.size
                clear hb5 hb6
                go_wp2_with (at_builtin
                             refine appCl rfl (.tmp 117) (.tmp 123) rfl wA.heap.size (.slice A2' D.length cap2') D rfl N6.out.own (w5.heap.size + 1) 1 x rfl (rds_bx (bx_at _ _ _ _ (by simp))) (by omega) (by simp at *; omega) ?_
                             intro v9 w9 hF9 hg9 hat9
                             obtain ⟨A9, c9, rfl, hN9⟩ := N6.out.push v9 hF9 hg9
                             have N9 := Lib.hid hN9
                             clear hF9 hg9 hat9 hN9)
                go_roundw
                case rel => exact ⟨j2 + 1, A9, c9, D ++ [x], by omega, by simp, by go_num, by rw [HT1.out, HD.out, List.append_assoc], by simp; omega, N9.out⟩
                case measure => simp [intOf]; omega
            · have htk : X.take j2 = X := List.take_of_length_le (by omega)
              rw [htk] at HD
              have HI := Lib.hid (show ∀ x ∈ D, x.is wr from fun x hx => by
                rw [HD.out] at hx
                rcases List.mem_append.1 hx with hx | hx
                · obtain ⟨y, hy, rfl⟩ := List.mem_map.1 hx
                  rcases rep_in X y with e | e
                  · rw [e]; exact (HT.out.ext hbx).each _ hy
                  · exact (HX.out.2 _ e).below hbx
                · exact (HX.out.2 _ (List.mem_filter.1 hx).1).below hbx)
              clear hbx hb1x htk
              go_wp2_with fail
              go_ret3
              exact ⟨Hbx2.out, .inr ⟨Hnone.out, A2', cap2', D, rfl, Rds.ownN N2.out.own, HI.out, by rw [HD.out]; rfl⟩⟩
end DlR
end Go.Proofs.YtiagjnimafdbhaaGreatDoor
/-
  Lists of classes that came in, opened; with how long code may be.
-/
namespace Go.Proofs.YtiagjnimafdbhaaGreatDoor
namespace OpenD
open Go.RowKit Go.ChangeShapes Go.WideShapes Go.Deep Base BinM Stru Opened OpenS OpenG OpenK Kls

/-- lists that memory has room for -/
structure LensM (x : MthT) : Prop where
  code : x.code.length ≤ 140737488351232
  hand : x.hand.length ≤ 140737488351232
def ltD (x : ClsT) : Prop := ClsT.lt x ∧ ∀ m ∈ x.meths, LensM m
section
variable {H : Type} {enc : TypeId × Value → H} {w : World}
theorem open_len {T E : TypeId} {P : Program} (hu : P.underlying T = some (.slice E)) {k : Nat} (hk : P.bytesOf E = k) (h0 : 0 < k) {fuel : Nat} {A : Option Addr} {m c : Nat} {d : DataW H} {p : List MemPlace}
    (h : DataW.trod enc P w 0 (fun _ => true) true fuel T [.slice A m c] = some (d, p)) (hl : Light P T d) : m ≤ 140737488351232 := by
  rcases open_slice hu h with ⟨hcs, hd⟩ | ⟨a, len, cap, mm, n, D, Pl, hcs, _, hle, hmx, hmm, hd, hi⟩
  · have := (List.cons.inj hcs).1
    injection this with _ h2 _
    omega
  · have e := (List.cons.inj hcs).1
    injection e with _ h2 _
    obtain ⟨rfl, _⟩ := Prod.mk.inj hd
    have h3 := hl _ (by simp only [DataW.weights, hu]; exact List.mem_cons_self)
    simp only [List.length_map, List.length_range] at h3
    refine Nat.le_trans ?_ h3
    refine Nat.le_trans ?_ (Nat.le_mul_of_pos_right _ (hk ▸ h0))
    omega
set_option maxRecDepth 100000 in
theorem open_mthD {n : Nat} {cs : List Value} {d : DataW H} {p : List MemPlace} (h : Tr enc w n 55 cs d p) (hl : Light Tryz.prog 55 d) : ∃ x : MthT, cs = x.vals ∧ x.is w ∧ MthT.lt x ∧ LensM x := by
  have ce : Tryz.prog.cellsOf 55 = 5 := by kernel_rfl
  obtain ⟨hcl, hf⟩ := field_of Tryz.underlying55 h hl
  rw [ce] at hcl
  obtain ⟨n0, y0, q0, t0, l0⟩ := hf 0 { name := "Name", type := 9, offset := 0, embedded := false, tag := "", pkgPath := "", byteOffset := 0 } rfl
  dsimp only at t0 l0
  rw [show Tryz.prog.cellsOf 9 = 1 by kernel_rfl] at t0
  obtain ⟨n1, y1, q1, t1, l1⟩ := hf 1 { name := "Sig", type := 9, offset := 1, embedded := false, tag := "", pkgPath := "", byteOffset := 16 } rfl
  dsimp only at t1 l1
  rw [show Tryz.prog.cellsOf 9 = 1 by kernel_rfl] at t1
  obtain ⟨n2, y2, q2, t2, l2⟩ := hf 2 { name := "Locals", type := 3, offset := 2, embedded := false, tag := "", pkgPath := "", byteOffset := 32 } rfl
  dsimp only at t2 l2
  rw [show Tryz.prog.cellsOf 3 = 1 by kernel_rfl] at t2
  obtain ⟨n3, y3, q3, t3, l3⟩ := hf 3 { name := "Code", type := 52, offset := 3, embedded := false, tag := "", pkgPath := "", byteOffset := 40 } rfl
  dsimp only at t3 l3
  rw [show Tryz.prog.cellsOf 52 = 1 by kernel_rfl] at t3
  obtain ⟨n4, y4, q4, t4, l4⟩ := hf 4 { name := "Hand", type := 53, offset := 4, embedded := false, tag := "", pkgPath := "", byteOffset := 64 } rfl
  dsimp only at t4 l4
  rw [show Tryz.prog.cellsOf 53 = 1 by kernel_rfl] at t4
  match cs, hcl with
  | [x0, x1, x2, x3, x4], _ =>
    obtain ⟨s0, rfl, b0⟩ := leaf_text Tryz.underlying9 t0 l0
    obtain ⟨s1, rfl, b1⟩ := leaf_text Tryz.underlying9 t1 l1
    obtain ⟨s2, rfl, b2⟩ := leaf_int Tryz.underlying3 t2
    obtain ⟨A3, m3, c3, s3, e3, hm3, hc3, hx3, hr3, hok3⟩ := open_list (k := 2) Tryz.underlying52 (by kernel_rfl) (by omega) insV (fun x => fitI x.1 ∧ fitI x.2) (fun _ => rfl) (fun _ _ _ _ h hl => open_ins h hl) t3 l3
    obtain rfl := (List.cons.inj e3).1
    obtain ⟨A4, m4, c4, s4, e4, hm4, hc4, hx4, hr4, hok4⟩ := open_list (k := 4) Tryz.underlying53 (by kernel_rfl) (by omega) HndT.vals (fun x => (fitI x.frm ∧ fitI x.til ∧ fitI x.pos) ∧ HndT.lt x) (fun _ => rfl) (fun _ _ _ _ h hl => open_hnd h hl) t4 l4
    obtain rfl := (List.cons.inj e4).1
    exact ⟨⟨s0, s1, s2, A3, m3, c3, A4, m4, c4, s3, s4⟩, rfl, ⟨b2, ⟨hm3, hc3, hx3, hr3, hok3⟩, ⟨hm4, hc4, hx4, hr4, fun x hx => (hok4 x hx).1⟩⟩, ⟨b0, b1, fun x hx => (hok4 x hx).2⟩, ⟨by rw [← hm3]; exact open_len (k := 16) Tryz.underlying52 (by kernel_rfl) (by omega) t3 l3, by rw [← hm4]; exact open_len (k := 40) Tryz.underlying53 (by kernel_rfl) (by omega) t4 l4⟩⟩
set_option maxRecDepth 100000 in
theorem open_clsD {n : Nat} {cs : List Value} {d : DataW H} {p : List MemPlace} (h : Tr enc w n 43 cs d p) (hl : Light Tryz.prog 43 d) : ∃ x : ClsT, cs = ClsT.vals x ∧ x.is w ∧ ltD x := by
  have ce : Tryz.prog.cellsOf 43 = 5 := by kernel_rfl
  obtain ⟨hcl, hf⟩ := field_of Tryz.underlying43 h hl
  rw [ce] at hcl
  obtain ⟨n0, y0, q0, t0, l0⟩ := hf 0 { name := "Name", type := 9, offset := 0, embedded := false, tag := "", pkgPath := "", byteOffset := 0 } rfl
  dsimp only at t0 l0
  rw [show Tryz.prog.cellsOf 9 = 1 by kernel_rfl] at t0
  obtain ⟨n1, y1, q1, t1, l1⟩ := hf 1 { name := "Super", type := 9, offset := 1, embedded := false, tag := "", pkgPath := "", byteOffset := 16 } rfl
  dsimp only at t1 l1
  rw [show Tryz.prog.cellsOf 9 = 1 by kernel_rfl] at t1
  obtain ⟨n2, y2, q2, t2, l2⟩ := hf 2 { name := "Consts", type := 39, offset := 2, embedded := false, tag := "", pkgPath := "", byteOffset := 32 } rfl
  dsimp only at t2 l2
  rw [show Tryz.prog.cellsOf 39 = 1 by kernel_rfl] at t2
  obtain ⟨n3, y3, q3, t3, l3⟩ := hf 3 { name := "Fields", type := 40, offset := 3, embedded := false, tag := "", pkgPath := "", byteOffset := 56 } rfl
  dsimp only at t3 l3
  rw [show Tryz.prog.cellsOf 40 = 1 by kernel_rfl] at t3
  obtain ⟨n4, y4, q4, t4, l4⟩ := hf 4 { name := "Methods", type := 41, offset := 4, embedded := false, tag := "", pkgPath := "", byteOffset := 80 } rfl
  dsimp only at t4 l4
  rw [show Tryz.prog.cellsOf 41 = 1 by kernel_rfl] at t4
  match cs, hcl with
  | [x0, x1, x2, x3, x4], _ =>
    obtain ⟨s0, rfl, b0⟩ := leaf_text Tryz.underlying9 t0 l0
    obtain ⟨s1, rfl, b1⟩ := leaf_text Tryz.underlying9 t1 l1
    obtain ⟨A2, m2, c2, s2, e2, hm2, hc2, hx2, hr2, hok2⟩ := open_list (k := 5) Tryz.underlying39 (by kernel_rfl) (by omega) Cst.vals (fun x => (fitI x.kind ∧ fitI x.n) ∧ CstT.lt x) (fun _ => rfl) (fun _ _ _ _ h hl => open_con h hl) t2 l2
    obtain rfl := (List.cons.inj e2).1
    obtain ⟨A3, m3, c3, s3, e3, hm3, hc3, hx3, hr3, hok3⟩ := open_list (k := 2) Tryz.underlying40 (by kernel_rfl) (by omega) FldT.vals FldT.lt (fun _ => rfl) (fun _ _ _ _ h hl => open_fld h hl) t3 l3
    obtain rfl := (List.cons.inj e3).1
    obtain ⟨A4, m4, c4, s4, e4, hm4, hc4, hx4, hr4, hok4⟩ := open_list (k := 5) Tryz.underlying41 (by kernel_rfl) (by omega) MthT.vals (fun x => x.is w ∧ MthT.lt x ∧ LensM x) (fun _ => rfl) (fun _ _ _ _ h hl => open_mthD h hl) t4 l4
    obtain rfl := (List.cons.inj e4).1
    exact ⟨⟨s0, s1, A2, m2, c2, A3, m3, c3, A4, m4, c4, s2, s3, s4⟩, rfl, ⟨⟨hm2, hc2, hx2, hr2, fun x hx => (hok2 x hx).1⟩, ⟨hm3, hc3, hx3, hr3⟩, ⟨hm4, hc4, hx4, hr4, fun x hx => (hok4 x hx).1⟩⟩, ⟨⟨b0, b1, fun x hx => (hok2 x hx).2, hok3, fun x hx => (hok4 x hx).2.1⟩, fun x hx => (hok4 x hx).2.2⟩⟩

set_option maxRecDepth 100000 in
theorem open_clss {n : Nat} {cs : List Value} {d : DataW H} {p : List MemPlace} (h : Tr enc w n 22 cs d p) (hl : Light Tryz.prog 22 d) :
    ∃ (A : Option Addr) (m c : Nat) (l : List ClsT), cs = [.slice A m c] ∧ m = l.length ∧ m ≤ c ∧ c ≤ maxLen ∧ Rds w A (l.flatMap OpenK.ClsT.vals) ∧ ∀ x ∈ l, x.is w ∧ ltD x :=
  open_list (k := 5) Tryz.underlying22 (by kernel_rfl) (by omega) OpenK.ClsT.vals (fun x => x.is w ∧ ltD x) (fun _ => rfl) (fun _ _ _ _ h hl => open_clsD h hl) h hl
end
end OpenD
end Go.Proofs.YtiagjnimafdbhaaGreatDoor
