/-
  Whether a method of a class can be, by the document's own; whether a class can be, by both.
  Whether a class can be: klass.Right, the document's own.
-/
import Derived.Test.YtgnajafkdbiiaaaDoorKlsV
namespace Go.Proofs.YtgnajafkdbiiaaaDoor
namespace KlsW
open Go.RowKit Base BinM DescM DescW DescX DescR DescP DescQ Stru PoolM InsM InsA InsC InsD InsE Kls KlsP KlsQ KlsU KlsV OpenK

theorem code_bad {cd : List InsT} {hd : List HndT} {lo : Int} {ks : List Cst} {K : Int × Int} (h : checkI cd ks lo = K) (h2 : K.2 ≠ 0) : codeE cd hd lo ks = K.2 := by unfold codeE; rw [h, if_pos h2]
theorem code_old {cd : List InsT} {hd : List HndT} {lo : Int} {ks : List Cst} {K : Int × Int} (h : checkI cd ks lo = K) (h2 : K.2 = 0) (h3 : 0 ≤ findP oldP cd) : codeE cd hd lo ks = 12 := by unfold codeE; rw [h, if_neg (by simp [h2]), if_pos h3]
theorem code_hnd {cd : List InsT} {hd : List HndT} {lo : Int} {ks : List Cst} {K : Int × Int} (h : checkI cd ks lo = K) (h2 : K.2 = 0) (h3 : ¬ 0 ≤ findP oldP cd) : codeE cd hd lo ks = hndsE (cd.length : Int) hd := by unfold codeE; rw [h, if_neg (by simp [h2]), if_neg h3]


end KlsW
end Go.Proofs.YtgnajafkdbiiaaaDoor

namespace Go.Proofs.YtgnajafkdbiiaaaDoor
namespace KlsX
open Go.RowKit Base BinM DescM DescW DescX DescR DescP DescQ Stru PoolM InsM InsA InsC InsD InsE InsP PutN Kls KlsP KlsQ KlsU KlsV KlsW OpenK

theorem cls_name {x : ClsT} (h : nameB x.name = false ∨ nameB x.sup = false) : clsE x = 7 := by unfold clsE; rw [if_pos h]
theorem cls_consts {x : ClsT} (h : nameB x.name = true) (h1 : nameB x.sup = true) {E : Int} (h2 : (allC [] x.consts).2 = E) (h3 : E ≠ 0) : clsE x = E := by unfold clsE; rw [if_neg (by simp [h, h1]), h2, if_pos h3]
theorem cls_fields {x : ClsT} (h : nameB x.name = true) (h1 : nameB x.sup = true) (h2 : (allC [] x.consts).2 = 0) {E : Int} (h3 : fldsE x.fields = E) (h4 : E ≠ 0) : clsE x = E := by unfold clsE; rw [if_neg (by simp [h, h1]), if_neg (by simp [h2]), h3, if_pos h4]
theorem cls_meths {x : ClsT} (h : nameB x.name = true) (h1 : nameB x.sup = true) (h2 : (allC [] x.consts).2 = 0) (h3 : fldsE x.fields = 0) : clsE x = mthsE x.meths x.consts := by unfold clsE; rw [if_neg (by simp [h, h1]), if_neg (by simp [h2]), if_neg (by simp [h3])]


set_option maxRecDepth 100000 in
set_option maxHeartbeats 4000000 in
theorem right_any (x : ClsT) (w : World) (hL : Laid w) (hx : x.is w) (hl : ClsT.lt x) :
    Calls Tryd.prog 14 #[x.V] w fun e w' => e = .returned (.int .i64 (clsE x)) ∧ Below w.heap.size w w' := by
  have Hflds := Lib.hid (fun (W : World) (hb : Below w.heap.size w W) => fields_any x W (hx.below hb) hl)
  have Hmths := Lib.hid (fun (W : World) (hb : Below w.heap.size w W) => methods_any x W (hL.below hb hL.1) (hx.below hb) hl)
  have Hput := Lib.hid (fun (W : World) (hb : Below w.heap.size w W) => putAll_any none 0 0 [] x.kA x.km x.kc x.consts W rfl (.inl rfl) (by omega) (hx.consts.below hb) hl.consts)
  have hl0 : x.name.length ≤ 140737488351232 := hl.name
  have hl1 : x.sup.length ≤ 140737488351232 := hl.sup
  have Hcn := Lib.hid (@cls_name x)
  have Hcc := Lib.hid (@cls_consts x)
  have Hcf := Lib.hid (@cls_fields x)
  have Hcm := Lib.hid (@cls_meths x)
  clear hx hl hL
  have HB := Lib.hid ((Below.refl w.heap.size w).alloc (Nat.le_refl _) (.cells #[.string ⟨x.name.toArray⟩, .string ⟨x.sup.toArray⟩, .slice x.kA x.km x.kc, .slice x.fA x.fm x.fc, .slice x.mA x.mm x.mc] 44))
  have E1 := Lib.hid (Box5.new w (.string ⟨x.name.toArray⟩) (.string ⟨x.sup.toArray⟩) (.slice x.kA x.km x.kc) (.slice x.fA x.fm x.fc) (.slice x.mA x.mm x.mc) 44)
  generalize clsE x = R at *
  generalize allC [] x.consts = KK at *
  generalize fldsE x.fields = FF at *
  generalize mthsE x.meths x.consts = MM at *
  obtain ⟨n, s, kA, km, kc, fA, fm, fc, mA, mm, mc, ks, fs, ms⟩ := x
  obtain ⟨K0, K1⟩ := KK
  simp only [ClsT.V] at *
  obtain ⟨g0, g1, g2, g3, g4⟩ := E1.out
  go_enter Tryd.func14, Tryd.ntmps14
  go_wp2_with fail
  refine Calls.mono (nm_any n _ (by omega)) ?_
  rintro e w3 ⟨rfl, rfl⟩
  cases hN : nameB n
  · have Hq := Lib.hid (Hcn.out (.inl hN))
    clear hN
    go_wp2_with fail
    go_ret
    exact ⟨ret_i Hq.out.symm, HB.out⟩
  · have HN := Lib.hid hN
    clear hN
    go_wp2_with fail
    refine Calls.mono (nm_any s _ (by omega)) ?_
    rintro e w3 ⟨rfl, rfl⟩
    cases hS : nameB s
    · have Hq := Lib.hid (Hcn.out (.inr hS))
      clear hS
      go_wp2_with fail
      go_ret
      exact ⟨ret_i Hq.out.symm, HB.out⟩
    · have HS := Lib.hid hS
      clear hS
      go_wp2_with fail
      refine Calls.mono (Hput.out _ HB.out) ?_
      rintro e w1 ⟨v1, rfl, -, hb1⟩
      have B1 := Lib.hid (HB.out.trans (hb1.mono HB.out.size))
      have P1 := Lib.hid (E1.out.after hb1)
      clear hb1 g0 g1 g2 g3 g4
      by_cases hK : K1 = 0
      · have Hcf2 := Lib.hid (fun (E : Int) h4 h5 => Hcf.out HN.out HS.out hK (E := E) h4 h5)
        have Hcm2 := Lib.hid (fun h3 => Hcm.out HN.out HS.out hK h3)
        subst hK
        obtain ⟨g0, g1, g2, g3, g4⟩ := P1.out
        go_wp2_with fail
        refine Calls.mono (Hflds.out _ B1.out) ?_
        rintro e w2 ⟨rfl, hb2⟩
        have B2 := Lib.hid (B1.out.trans (hb2.mono B1.out.size))
        have P2 := Lib.hid (P1.out.after hb2)
        clear hb2 g0 g1 g2 g3 g4
        by_cases hF : FF = 0
        · have Hq := Lib.hid (Hcm2.out hF)
          subst hF
          obtain ⟨g0, g1, g2, g3, g4⟩ := P2.out
          go_wp2_with fail
          refine Calls.mono (Hmths.out _ B2.out) ?_
          rintro e w4 ⟨rfl, hb4⟩
          have B4 := Lib.hid (B2.out.trans (hb4.mono B2.out.size))
          clear hb4
          go_wp2_with fail
          go_ret
          exact ⟨ret_i Hq.out.symm, B4.out⟩
        · have Hq := Lib.hid (Hcf2.out FF rfl hF)
          have hF2 : (FF != 0) = true := by simp [hF]
          clear hF
          go_wp2_with fail
          go_ret
          exact ⟨ret_i Hq.out.symm, B2.out⟩
      · have Hq := Lib.hid (Hcc.out HN.out HS.out (E := K1) rfl hK)
        have hK2 : (K1 != 0) = true := by simp [hK]
        clear hK
        go_wp2_with fail
        go_ret
        exact ⟨ret_i Hq.out.symm, B1.out⟩


end KlsX
end Go.Proofs.YtgnajafkdbiiaaaDoor
