/-
  Whether some class of those a method speaks of has changed (slices.ContainsFunc with Held's own function); delta.Held; delta.Layouts.
-/
import Derived.Test.YtiagjnimafdbhaaGreatDoorG31
import Derived.Test.YtiagjnimafdbhaaGreatDoorG35
import Derived.Test.YtiagjnimafdbhaaGreatDoorG38
import Derived.Test.YtiagjnimafdbhaaGreatDoorG39
namespace Go.Proofs.YtiagjnimafdbhaaGreatDoor
namespace DlB
open Go.RowKit Base BinM Stru PoolM InsM DescM DescW DescX HierS HierT HierM HierC HierD HierN Kls KlsP KlsQ TabC TabM TabK TabP TabE TabB TabG TabH TabT TabU TabI TabV TabW TabN TabO TabY TabCl TabHc TabDp TabEq TabCg DlA

set_option maxRecDepth 100000 in
/-- Held's own function: is a class among those that changed? -/
theorem clo_any (q : T) (g : Nat) (A : Option Addr) (c : Nat) (ns : List T) (w : World) (hg : w.cell? ⟨g, 0, none⟩ = some (.slice A ns.length c)) (hr : Rds w A (ns.map sv)) (hn : ns.length ≤ 100000) :
    Calls Tryz.prog 46 #[.string ⟨q.toArray⟩, .pointer (some ⟨g, 0, none⟩)] w fun e w' => e = .returned (.bool (ns.contains q)) ∧ w = w' := by
  have HC := Lib.hid (contains_l A ns.length c ns q w rfl (by omega) hr)
  go_enter Tryz.func46, Tryz.ntmps46
  go_wp2_with fail
  refine HC.out.mono ?_
  rintro e w' ⟨rfl, rfl⟩
  go_wp2_with fail
  go_ret
  exact ⟨InsA.ret_bool (by simp), rfl⟩

/-- the first one that is among others -/
def firstIn (ns : List T) (ds : List T) : Int := findP (fun d => ns.contains d) ds
set_option maxRecDepth 100000 in
set_option maxHeartbeats 2000000 in
theorem indexIn_any (B : Option Addr) (d : Nat) (ds : List T) (g : Nat) (A : Option Addr) (c : Nat) (ns : List T) (w : World) (hg : w.cell? ⟨g, 0, none⟩ = some (.slice A ns.length c)) (hr : Rds w A (ns.map sv)) (hn : ns.length ≤ 100000) (hd : ds.length ≤ 100000) (hr2 : Rds w B (ds.map sv)) :
    Calls Tryz.prog 98 #[.slice B ds.length d, .func (.func 46) #[] #[.pointer (some ⟨g, 0, none⟩)]] w fun e w' => e = .returned (.int .i64 (firstIn ns ds)) ∧ w = w' := by
  have eg : ∀ args w, (callFunc 46 args).run Tryz.prog w = .ok (.enter 46 args) w := enters_of Tryz.func46 (by kernel_rfl) rfl
  have HC := Lib.hid (fun q => clo_any q g A c ns w hg hr hn)
  have Hr := Lib.hid hr2
  clear hg hr hr2
  unfold firstIn
  go_enter Tryz.func98, Tryz.ntmps98
  go_wp2_with fail
  go_loopw [5, 8] (fun _ i wr => ∃ j : Nat, j ≤ ds.length ∧ i = .int .i64 j ∧ Hid (∀ x ∈ ds.take j, ns.contains x = false) ∧ w = wr) (fun _ i _ => ds.length - (intOf i).toNat)
  case atStart => exact ⟨0, Nat.zero_le _, rfl, Lib.hid (by simp), rfl⟩
  case round =>
    obtain ⟨j, hj, rfl, Hno, rfl⟩ := hrel
    by_cases hlt : j < ds.length
    · obtain ⟨b1, o1, rfl, hb1, hc1⟩ := Hr.out.at_ (k := j) (by simp; omega)
      rw [List.getElem_map] at hc1
      have hj1 : (j : Int) < (ds.length : Int) := by omega
      have hj0 : (0 : Int) ≤ (j : Int) := by omega
      have Hat := Lib.hid (fun he => findP_at (p := fun d => ns.contains d) hlt Hno.out he)
      have Hnext := Lib.hid (fun he => none_next (p := fun d => ns.contains d) hlt Hno.out he)
      have HCj := Lib.hid (HC.out ds[j])
      simp only [sv] at hc1
      generalize ds[j] = x at *
      generalize ns.contains x = D at *
      go_wp2_with fail
      refine HCj.out.mono ?_
      rintro e w' ⟨rfl, rfl⟩
      cases D
      · have Hq := Lib.hid (Hnext.out rfl)
        go_wp2_with fail
        go_roundw
        case rel => exact ⟨j + 1, by omega, by go_num, Hq, trivial⟩
        case measure => simp [intOf]; omega
      · have Hq := Lib.hid (Hat.out rfl)
        go_wp2_with fail
        go_ret
        exact ⟨KlsP.ret_i Hq.out.symm, rfl⟩
    · have Hfin := Lib.hid (show findP (fun d => ns.contains d) ds = -1 by
        have h := Hno.out
        rw [List.take_of_length_le (by omega)] at h
        exact findP_none h)
      go_wp2_with fail
      go_ret
      exact ⟨KlsP.ret_i Hfin.out.symm, rfl⟩

theorem findP_any {α : Type} (p : α → Bool) : ∀ l : List α, decide (0 ≤ findP p l) = l.any p
  | [] => rfl
  | x :: r => by
    have ih := findP_any p r
    have hge := findP_ge p r
    unfold findP
    rw [List.any_cons]
    cases hx : p x
    · simp only [Bool.false_eq_true, if_false, Bool.false_or]
      rw [← ih]
      by_cases h : findP p r = -1
      · rw [if_pos h, h]
      · rw [if_neg h, decide_eq_true (by omega : (0:Int) ≤ findP p r), decide_eq_true (by omega)]
    · simp
set_option maxRecDepth 100000 in
theorem containsIn_any (B : Option Addr) (d : Nat) (ds : List T) (g : Nat) (A : Option Addr) (c : Nat) (ns : List T) (w : World) (hg : w.cell? ⟨g, 0, none⟩ = some (.slice A ns.length c)) (hr : Rds w A (ns.map sv)) (hn : ns.length ≤ 100000) (hd : ds.length ≤ 100000) (hr2 : Rds w B (ds.map sv)) :
    Calls Tryz.prog 42 #[.slice B ds.length d, .func (.func 46) #[] #[.pointer (some ⟨g, 0, none⟩)]] w fun e w' => e = .returned (.bool (ds.any fun d => ns.contains d)) ∧ w = w' := by
  have HI := Lib.hid (indexIn_any B d ds g A c ns w hg hr hn hd hr2)
  have HF := Lib.hid (findP_any (fun d => ns.contains d) ds)
  clear hg hr hr2
  unfold firstIn at HI
  generalize findP (fun d => ns.contains d) ds = k at *
  go_enter Tryz.func42, Tryz.ntmps42
  go_wp2_with fail
  refine HI.out.mono ?_
  rintro e w' ⟨rfl, rfl⟩
  go_wp2_with fail
  go_ret
  exact ⟨InsA.ret_bool HF.out, rfl⟩

/-- the classes of both with other fields -/
def layF (C D : List ClsT) (q : T) : Bool := decide ((hav C q).1.map fldOf = (hav D q).1.map fldOf)
def layL (ns : List T) (has : T → Bool) (C D : List ClsT) : List T := ns.filter (fun q => has q && !layF C D q)
theorem layL_take {ns : List T} {has : T → Bool} {C D : List ClsT} {j : Nat} (hj : j < ns.length) : layL (ns.take (j + 1)) has C D = layL (ns.take j) has C D ++ (if (has ns[j] && !layF C D ns[j]) = true then [ns[j]] else []) := by
  unfold layL
  rw [List.take_succ_eq_append_getElem hj, List.filter_append]
  congr 1
  cases h : (has ns[j] && !layF C D ns[j]) <;> simp [h]
theorem layL_len (ns : List T) (has : T → Bool) (C D : List ClsT) : (layL ns has C D).length ≤ ns.length := List.length_filter_le _ _

set_option maxRecDepth 100000 in
set_option maxHeartbeats 8000000 in
theorem layouts_any {lo : Nat} {w : World} {t g mb n : Nat} {A : Option Addr} {c : Nat} {h : Hr} {L : List ClsT} {f : T → Option HavT} (H : Ta lo w t g mb n A c h L f) (ht : Total L f) (hfew : ∀ k ∈ L, k.fields.length ≤ 16 ∧ k.meths.length ≤ 32)
    {lo2 : Nat} {t2 g2 mb2 n2 : Nat} {A2 : Option Addr} {c2 : Nat} {h2 : Hr} {L2 : List ClsT} {f2 : T → Option HavT} (H2 : Ta lo2 w t2 g2 mb2 n2 A2 c2 h2 L2 f2) (ht2 : Total L2 f2) (hfew2 : ∀ k ∈ L2, k.fields.length ≤ 16 ∧ k.meths.length ≤ 32)
    (hnm : ∀ q ∈ h.names, q.length ≤ 140737488351232) :
    Calls Tryz.prog 17 #[.pointer (some ⟨t, 0, none⟩), .pointer (some ⟨t2, 0, none⟩)] w fun e w' => ∃ v, e = .returned v ∧ OwnT w' w.heap.size v (layL h.names h2.has L L2) ∧ Below w.heap.size w w' := by
  have hn41 := H.hier.few
  have HT2 := Lib.hid (fun W (hb : Below w.heap.size w W) => H2.ext hb)
  have HNs := Lib.hid (fun W (hb : Below w.heap.size w W) => names_any lo g h W (H.ext hb).hier)
  have HHs := Lib.hid (fun W (hb : Below w.heap.size w W) (q : T) => HierM.has_any lo2 g2 h2 q W (H2.ext hb).hier)
  have HV1 := Lib.hid (fun W (hb : Below w.heap.size w W) (q : T) (hq : q.length ≤ 140737488351232) => layout_any (H.ext hb) ht q hq hfew)
  have HV2 := Lib.hid (fun W (hb : Below w.heap.size w W) (q : T) (hq : q.length ≤ 140737488351232) => layout_any (H2.ext hb) ht2 q hq hfew2)
  have HL1 := Lib.hid (fun q => (hav_len hfew q).1)
  have HL2 := Lib.hid (fun q => (hav_len hfew2 q).1)
  have Hnm := Lib.hid hnm
  have b0 := H.box.cell 0
  have b20 := H2.box.cell 0
  have Z := Lib.hid (Below.refl w.heap.size w)
  clear H H2 ht ht2 hfew hfew2 hnm
  generalize hns : h.names = ns at *
  clear hns
  go_enter Tryz.func17, Tryz.ntmps17
  go_wp2_with fail
  refine (HNs.out _ Z.out).mono ?_
  rintro e w1 ⟨v1, rfl, ho1, hb1⟩
  obtain ⟨A1, c1, rfl, _, _, r1, _⟩ := ho1.slice
  have R1 := Lib.hid r1
  have B1 := Lib.hid hb1
  have Z1 := Lib.hid (Below.refl w1.heap.size w1)
  clear ho1 hb1 b0 r1
  go_wp2_with fail
  go_loopw [5, 7, 20] (fun v _ i wr => ∃ (j : Nat), j ≤ ns.length ∧ i = .int .i64 j ∧ OwnT wr w1.heap.size v (layL (ns.take j) h2.has L L2) ∧ Below w1.heap.size w1 wr) (fun _ _ i _ => ns.length - (intOf i).toNat)
  case atStart => exact ⟨0, Nat.zero_le _, rfl, World.ownsRow_nil _ _ _ _, Z1.out⟩
  case round =>
    obtain ⟨j, hj, rfl, hown, hbw⟩ := hrel
    have Hbw := Lib.hid hbw
    have HO := Lib.hid hown
    have GB := Lib.hid (B1.out.trans (hbw.mono B1.out.size))
    obtain ⟨A5, c5, rfl, _, _, _, _⟩ := hown.slice
    by_cases hlt : j < ns.length
    · obtain ⟨b9, o9, hA9, hb9, hc9⟩ := (R1.out.below hbw).at_ (k := j) (by simp; omega)
      subst hA9
      rw [List.getElem_map] at hc9
      have hj1 : (j : Int) < (ns.length : Int) := by omega
      have hj0 : (0 : Int) ≤ (j : Int) := by omega
      have HT := Lib.hid (layL_take (has := h2.has) (C := L) (D := L2) hlt)
      have hl := layL_len (ns.take j) h2.has L L2
      rw [List.length_take] at hl
      have Hq := Lib.hid (Hnm.out _ (List.getElem_mem hlt))
      have x20 := (HT2.out _ GB.out).box.cell 0
      have xlt := (HT2.out _ GB.out).box.lt
      have hsz := hbw.size
      clear hbw hown
      generalize ns[j] = q at *
      generalize layL (ns.take j) h2.has L L2 = cs at *
      generalize hhas : h2.has q = hb at *
      have Hhas := Lib.hid hhas
      clear hhas
      simp only [sv] at hc9
      cases hb
      · go_wp2_with fail
        refine (HHs.out _ GB.out q).mono ?_
        rw [Hhas.out]
        rintro e w' ⟨rfl, rfl⟩
        go_wp2_with fail
        go_roundw
        case rel => exact ⟨j + 1, by omega, by go_num, by rw [app_no HT.out rfl]; exact HO.out, Hbw.out⟩
        case measure => simp [intOf]; omega
      · go_wp2_with fail
        refine (HHs.out _ GB.out q).mono ?_
        rw [Hhas.out]
        rintro e w' ⟨rfl, rfl⟩
        have Hl1 := HL1.out q
        have Hl2 := HL2.out q
        have HF : Hid (layF L L2 q = decide ((hav L q).1.map fldOf = (hav L2 q).1.map fldOf)) := Lib.hid rfl
        have HV1q := Lib.hid (HV1.out _ GB.out q Hq.out)
        have HV2q := Lib.hid (fun W (hW : Below w.heap.size w W) => HV2.out W hW q Hq.out)
        generalize (hav L q).1.map fldOf = f1 at *
        generalize (hav L2 q).1.map fldOf = f2 at *
        generalize layF L L2 q = D at *
        go_wp2_with fail
        refine HV1q.out.mono ?_
        rintro e w6 ⟨v6, rfl, ho6, hb6⟩
        obtain ⟨A6, c6, rfl, h61, h62, _, _⟩ := own_slice ho6
        have R6 := Lib.hid (Rds.ownN ho6)
        have G6 := Lib.hid (GB.out.trans (hb6.mono GB.out.size))
        have W6 := Lib.hid (Hbw.out.trans (hb6.mono hsz))
        have O6 := Lib.hid (TabDp.own_ext HO.out hb6)
        clear ho6 hb6
        go_wp2_with fail
        refine (HV2q.out _ G6.out).mono ?_
        rintro e w7 ⟨v7, rfl, ho7, hb7⟩
        obtain ⟨A7, c7, rfl, h71, h72, _, _⟩ := own_slice ho7
        have HE := Lib.hid (equalF_any A6 A7 f1 f2 f1.length f2.length c6 c7 w7 rfl rfl (Nat.le_trans h61 h62) (R6.out.below hb7) (Rds.ownN ho7))
        have W7 := Lib.hid (W6.out.trans (hb7.mono W6.out.size))
        have O7 := Lib.hid (TabDp.own_ext O6.out hb7)
        have G7 := Lib.hid (G6.out.trans (hb7.mono G6.out.size))
        clear ho7 hb7 HV1q HV2q
        go_wp2_with fail
        refine HE.out.mono ?_
        rintro e w8 ⟨rfl, hb8⟩
        have W8 := Lib.hid (W7.out.trans (hb8.mono W7.out.size))
        have O8 := Lib.hid (TabDp.own_ext O7.out hb8)
        have h8s := W8.out.size
        clear hb8 HE
        rw [← HF.out]
        clear HF
        cases D
        · go_wp2_with (at_builtin
                       refine appT rfl (.tmp 40) (.tmp 42) rfl w1.heap.size _ cs rfl (World.ownsRow.alloc O8.out _) (some ⟨w8.heap.size, 0, none⟩) 1 1 [q] rfl rfl (rds_new _ #[sv q] 9) (by simp; omega) (by simp; omega) ?_
                       intro v9 w9 hown9 hg9
                       have B9 := Lib.hid (below_own (W8.out.alloc h8s _) (World.ownsRow.alloc O8.out _) (Nat.le_refl _) (by simp; omega) hg9)
                       have O9 := Lib.hid hown9
                       clear hown9 hg9)
          go_roundw
          case rel => exact ⟨j + 1, by omega, by go_num, by rw [app_yes HT.out rfl]; exact O9.out, B9.out⟩
          case measure => simp [intOf]; omega
        · go_wp2_with fail
          go_roundw
          case rel => exact ⟨j + 1, by omega, by go_num, by rw [app_no HT.out rfl]; exact O8.out, W8.out⟩
          case measure => simp [intOf]; omega
    · have hjm : j = ns.length := by omega
      have HF := Lib.hid (show OwnT wr w.heap.size (.slice A5 (layL (ns.take j) h2.has L L2).length c5) (layL ns h2.has L L2) by
        have e : ns.take j = ns := List.take_of_length_le (by omega)
        have h := HO.out
        rw [e] at h ⊢
        exact World.ownsRow.mono h B1.out.size)
      clear hbw hown
      go_wp2_with fail
      go_ret
      exact ⟨_, rfl, HF.out, GB.out⟩
end DlB
end Go.Proofs.YtiagjnimafdbhaaGreatDoor
