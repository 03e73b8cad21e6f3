/- pieces -/
import Derived.Test.YtehainbhoflpnaaGreatDoorK31
namespace Go.Proofs.YtehainbhoflpnaaGreatDoor
namespace KrS
open Go.RowKit Base BinM Stru DescM DescW DescX DescR DescS DescG DescP DescQ HierS HierT HierM HierC HierD HierN HierV HierR HierU HierQ TabR
theorem rtb {a b : Bool} (h : a = b) : Ending.returned (.bool a) = .returned (.bool b) := by rw [h]
theorem Vd {h : Hr} {a b : T} (hk : (h.kon a && h.kon b) = false) : h.sub a b = false := by unfold Hr.sub; rw [hk]; rfl
theorem zx8 {h : Hr} {a b : T} (ha : h.kon a = true) (hb : h.kon b = true) (hy : (a == b || (Zr a && b == ofT Zc) || (a == [78] && Zr b)) = true) : h.sub a b = true := by
 unfold Hr.sub Hr.step
 rw [ha, hb]
 have hN : Zr [78] = true := by decide
 have hO : Zr (ofT Zc) = true := by decide
 by_cases h1 : a = b
 · simp [h1]
 · have h1' : (a == b) = false := by simp [h1]
   rw [h1'] at hy ⊢
   simp only [Bool.false_or, Bool.true_and]
   by_cases h2 : a = [78]
   · subst h2
     by_cases h3 : b = ofT Zc
     · subst h3; simp [hN, hO]
     · have h3' : (b == ofT Zc) = false := by simp [h3]
       rw [h3'] at hy
       simpa [hN] using hy
   · have h2' : (a == [78]) = false := by simp [h2]
     rw [h2'] at hy ⊢
     by_cases h3 : b = ofT Zc
     · subst h3; simp [hO] at hy ⊢; exact hy
     · have h3' : (b == ofT Zc) = false := by simp [h3]
       rw [h3'] at hy
       simp at hy
theorem zi2 {a : T} (h : (zq a).2 = true) : Zr a = true := by
 unfold zq at h
 split at h
 · rename_i h2
   unfold JK at h2
   rw [Bool.and_eq_true] at h2
   have h3 := h2.2
   rw [beq_iff_eq] at h3
   unfold Zr
   rw [h2.1]
   cases a with
   | nil => cases h3
   | cons x r =>
     injection h3 with h3
     subst h3
     simp
 · cases h
theorem zx9 {h : Hr} {a b : T} (ha : h.kon a = true) (hb : h.kon b = true) (hy : (a == b || (Zr a && b == ofT Zc) || (a == [78] && Zr b)) = false) : h.sub a b = h.cls a b := by
 unfold Hr.sub Hr.step
 rw [ha, hb]
 simp only [Bool.or_eq_false_iff] at hy
 obtain ⟨⟨h1, h2⟩, h3⟩ := hy
 rw [h1]
 simp only [Bool.false_or, Bool.true_and]
 split
 · rename_i h4
   rw [Bool.or_eq_true] at h4
   have hN : (zq [78]).2 = false := by decide
   rcases h4 with h4 | h4
   · rw [h4] at h3
     simp only [Bool.true_and] at h3
     rw [h3, Bool.and_false]
     rw [beq_iff_eq] at h4
     subst h4
     unfold Hr.cls
     rw [hN]; rfl
   · rw [h4, Bool.and_true] at h2
     rw [h2, Bool.false_and]
     unfold Hr.cls
     cases hc : (zq a).2
     · rfl
     · rw [zi2 hc] at h2; cases h2
 · rfl
theorem zd4 (B g : Nat) (l : List P2) (d : T) (w : World) (H : IsR B w g (jE l)) (hl : d.length ≤ 140737488355328) :
 Calls Tryz.prog 153 #[.pointer (some ⟨g, 0, none⟩), .string ⟨d.toArray⟩] w fun e w' => e = .returned (.bool ((mk l).kon d)) ∧ w = w' := by
 have HK := zH (QL B g l d w H hl)
 have HN := zH (show (mk l).kon d = ((mk l).known d || d == [78]) from rfl)
 clear H
 generalize (mk l).kon d = K at *
 generalize (mk l).known d = k at *
 cases h78 : d == [78]
 · have HR := zH (show K = k by rw [HN.out, h78, Bool.or_false])
   go_enter Tryz.func153, Tryz.ntmps153
   go_wp2_with fail
   refine HK.out.mono ?_
   rintro e w' ⟨rfl, rfl⟩
   go_wp2_with fail
   go_ret
   exact ⟨rtb HR.out.symm, rfl⟩
 · have HR := zH (show K = true by rw [HN.out, h78, Bool.or_true])
   go_enter Tryz.func153, Tryz.ntmps153
   go_wp2_with fail
   go_ret
   exact ⟨rtb HR.out.symm, rfl⟩
theorem vW (f : T → Option T) : ∀ (n : Nat) (o : Option T), (xq f n o).length ≤ n
 | 0, o => by simp [xq]
 | n + 1, none => by simp [xq]
 | n + 1, some c => by
   have := vW f n (f c)
   simp only [xq, List.length_cons]
   omega
theorem jA {l : List P2} (hC : HierQ.Can l) (q : T) : ((mk l).chain q).length ≤ 1000000 := by
 have h := hC.few
 unfold Hr.chain
 split
 · refine Nat.le_trans (vW _ _ _) ?_
   show (Zc :: (alw ++ l).map (·.1)).length ≤ 1000000
   simp only [List.length_cons, List.length_map, List.length_append]
   have : alw.length = 8 := rfl
   omega
 · simp
set_option maxRecDepth 100000 in
set_option maxHeartbeats 4000000 in
theorem kN (B g : Nat) (l : List P2) (a b : T) (w : World) (H : IsR B w g (jE l)) (hB : B ≤ w.heap.size) (hC : HierQ.Can l) (ha : a.length ≤ 140737488355328) (hb : b.length ≤ 140737488355328) :
 Calls Tryz.prog 103 #[.pointer (some ⟨g, 0, none⟩), .string ⟨a.toArray⟩, .string ⟨b.toArray⟩] w fun e w' => e = .returned (.bool ((mk l).sub a b)) ∧ Below w.heap.size w w' := by
 have HA := zH (zd4 B g l a w H ha)
 have HB := zH (zd4 B g l b w H hb)
 have HRa := zH (jD a w ha)
 have HRb := zH (jD b w hb)
 have HCa := zH (Za a w ha)
 have HCb := zH (Za b w hb)
 have HCh := zH (fun q => Uj B g l q w H hB hC)
 have HBl : Hid (∀ q, ((mk l).chain q).length ≤ 1000000) := zH (fun q => jA hC q)
 have Hcl := zH (show (mk l).cls a b = ((zq a).2 && (zq b).2 && ((mk l).chain (zq a).1).contains (zq b).1) from rfl)
 have HN := zH (Vd (h := mk l) (a := a) (b := b))
 have HY := zH (zx8 (h := mk l) (a := a) (b := b))
 have HC := zH (zx9 (h := mk l) (a := a) (b := b))
 have Z := zH (Below.refl w.heap.size w)
 have hO : ofT Zc = [76, 79, 98, 106, 101, 99, 116, 59] := by decide
 rw [hO] at HY HC
 clear H hB hC ha hb hO
 generalize (mk l).cls a b = cl at *
 generalize (mk l).sub a b = R at *
 generalize (mk l).kon a = ka at *
 generalize (mk l).kon b = kb at *
 generalize (mk l).chain = ch at *
 cases ka
 · have HR := zH (HN.out rfl)
   go_enter Tryz.func103, Tryz.ntmps103
   go_wp2_with fail
   refine HA.out.mono ?_
   rintro e w' ⟨rfl, rfl⟩
   go_wp2_with fail
   go_ret
   exact ⟨rtb HR.out.symm, Z.out⟩
 cases kb
 · have HR := zH (HN.out rfl)
   go_enter Tryz.func103, Tryz.ntmps103
   go_wp2_with fail
   refine HA.out.mono ?_
   rintro e w' ⟨rfl, rfl⟩
   go_wp2_with fail
   refine HB.out.mono ?_
   rintro e w' ⟨rfl, rfl⟩
   go_wp2_with fail
   go_ret
   exact ⟨rtb HR.out.symm, Z.out⟩
 have HY2 := zH (HY.out rfl rfl)
 have HC2 := zH (HC.out rfl rfl)
 clear HN HY HC
 cases hE : a == b
 · generalize Zr a = ra at *
   generalize Zr b = rb at *
   generalize zq a = CA at *
   generalize zq b = CB at *
   obtain ⟨ca, oa⟩ := CA
   obtain ⟨cb, ob⟩ := CB
   unfold J7 at HCa HCb
   simp only at HCa HCb Hcl
   have HChA := zH (HCh.out ca)
   clear HCh
   cases ra
   · cases hN : a == [78]
     · rw [hE, hN] at HY2 HC2
       have HR := zH ((HC2.out rfl).trans Hcl.out)
       cases oa
       · have HF := zH (show R = false by rw [HR.out]; rfl)
         go_enter Tryz.func103, Tryz.ntmps103
         go_wp2_with fail
         refine HA.out.mono ?_
         rintro e w' ⟨rfl, rfl⟩
         go_wp2_with fail
         refine HB.out.mono ?_
         rintro e w' ⟨rfl, rfl⟩
         go_wp2_with fail
         refine HRa.out.mono ?_
         rintro e w' ⟨rfl, rfl⟩
         go_wp2_with fail
         refine HCa.out.mono ?_
         rintro e w' ⟨rfl, rfl⟩
         go_wp2_with fail
         refine HCb.out.mono ?_
         rintro e w' ⟨rfl, rfl⟩
         go_wp2_with fail
         go_ret
         exact ⟨rtb HF.out.symm, Z.out⟩
       · cases ob
         · have HF := zH (show R = false by rw [HR.out]; rfl)
           go_enter Tryz.func103, Tryz.ntmps103
           go_wp2_with fail
           refine HA.out.mono ?_
           rintro e w' ⟨rfl, rfl⟩
           go_wp2_with fail
           refine HB.out.mono ?_
           rintro e w' ⟨rfl, rfl⟩
           go_wp2_with fail
           refine HRa.out.mono ?_
           rintro e w' ⟨rfl, rfl⟩
           go_wp2_with fail
           refine HCa.out.mono ?_
           rintro e w' ⟨rfl, rfl⟩
           go_wp2_with fail
           refine HCb.out.mono ?_
           rintro e w' ⟨rfl, rfl⟩
           go_wp2_with fail
           go_ret
           exact ⟨rtb HF.out.symm, Z.out⟩
         · have HF := zH (show R = (ch ca).contains cb by rw [HR.out]; simp)
           go_enter Tryz.func103, Tryz.ntmps103
           go_wp2_with fail
           refine HA.out.mono ?_
           rintro e w' ⟨rfl, rfl⟩
           go_wp2_with fail
           refine HB.out.mono ?_
           rintro e w' ⟨rfl, rfl⟩
           go_wp2_with fail
           refine HRa.out.mono ?_
           rintro e w' ⟨rfl, rfl⟩
           go_wp2_with fail
           refine HCa.out.mono ?_
           rintro e w' ⟨rfl, rfl⟩
           go_wp2_with fail
           refine HCb.out.mono ?_
           rintro e w' ⟨rfl, rfl⟩
           go_wp2_with fail
           refine HChA.out.mono ?_
           rintro e w1 ⟨v1, rfl, ho1, hb1⟩
           obtain ⟨A1, c1, rfl, h1, h2, r1, _⟩ := ho1.slice
           have HAm := zH (Y1 A1 (ch ca).length c1 (ch ca) cb w1 rfl (HBl.out ca) r1)
           have HB1 := zH hb1
           clear ho1 hb1 r1
           go_wp2_with fail
           refine HAm.out.mono ?_
           rintro e w' ⟨rfl, rfl⟩
           go_wp2_with fail
           go_ret
           exact ⟨rtb (by rw [HF.out]; simp), HB1.out⟩
     · cases rb
       · rw [hE, hN] at HY2 HC2
         skip
         have HR := zH ((HC2.out rfl).trans Hcl.out)
         cases oa
         · have HF := zH (show R = false by rw [HR.out]; rfl)
           go_enter Tryz.func103, Tryz.ntmps103
           go_wp2_with fail
           refine HA.out.mono ?_
           rintro e w' ⟨rfl, rfl⟩
           go_wp2_with fail
           refine HB.out.mono ?_
           rintro e w' ⟨rfl, rfl⟩
           go_wp2_with fail
           refine HRa.out.mono ?_
           rintro e w' ⟨rfl, rfl⟩
           go_wp2_with fail
           refine HRb.out.mono ?_
           rintro e w' ⟨rfl, rfl⟩
           go_wp2_with fail
           refine HCa.out.mono ?_
           rintro e w' ⟨rfl, rfl⟩
           go_wp2_with fail
           refine HCb.out.mono ?_
           rintro e w' ⟨rfl, rfl⟩
           go_wp2_with fail
           go_ret
           exact ⟨rtb HF.out.symm, Z.out⟩
         · cases ob
           · have HF := zH (show R = false by rw [HR.out]; rfl)
             go_enter Tryz.func103, Tryz.ntmps103
             go_wp2_with fail
             refine HA.out.mono ?_
             rintro e w' ⟨rfl, rfl⟩
             go_wp2_with fail
             refine HB.out.mono ?_
             rintro e w' ⟨rfl, rfl⟩
             go_wp2_with fail
             refine HRa.out.mono ?_
             rintro e w' ⟨rfl, rfl⟩
             go_wp2_with fail
             refine HRb.out.mono ?_
             rintro e w' ⟨rfl, rfl⟩
             go_wp2_with fail
             refine HCa.out.mono ?_
             rintro e w' ⟨rfl, rfl⟩
             go_wp2_with fail
             refine HCb.out.mono ?_
             rintro e w' ⟨rfl, rfl⟩
             go_wp2_with fail
             go_ret
             exact ⟨rtb HF.out.symm, Z.out⟩
           · have HF := zH (show R = (ch ca).contains cb by rw [HR.out]; simp)
             go_enter Tryz.func103, Tryz.ntmps103
             go_wp2_with fail
             refine HA.out.mono ?_
             rintro e w' ⟨rfl, rfl⟩
             go_wp2_with fail
             refine HB.out.mono ?_
             rintro e w' ⟨rfl, rfl⟩
             go_wp2_with fail
             refine HRa.out.mono ?_
             rintro e w' ⟨rfl, rfl⟩
             go_wp2_with fail
             refine HRb.out.mono ?_
             rintro e w' ⟨rfl, rfl⟩
             go_wp2_with fail
             refine HCa.out.mono ?_
             rintro e w' ⟨rfl, rfl⟩
             go_wp2_with fail
             refine HCb.out.mono ?_
             rintro e w' ⟨rfl, rfl⟩
             go_wp2_with fail
             refine HChA.out.mono ?_
             rintro e w1 ⟨v1, rfl, ho1, hb1⟩
             obtain ⟨A1, c1, rfl, h1, h2, r1, _⟩ := ho1.slice
             have HAm := zH (Y1 A1 (ch ca).length c1 (ch ca) cb w1 rfl (HBl.out ca) r1)
             have HB1 := zH hb1
             clear ho1 hb1 r1
             go_wp2_with fail
             refine HAm.out.mono ?_
             rintro e w' ⟨rfl, rfl⟩
             go_wp2_with fail
             go_ret
             exact ⟨rtb (by rw [HF.out]; simp), HB1.out⟩
       · rw [hE, hN] at HY2 HC2
         skip
         have HR := zH (HY2.out rfl)
         go_enter Tryz.func103, Tryz.ntmps103
         go_wp2_with fail
         refine HA.out.mono ?_
         rintro e w' ⟨rfl, rfl⟩
         go_wp2_with fail
         refine HB.out.mono ?_
         rintro e w' ⟨rfl, rfl⟩
         go_wp2_with fail
         refine HRa.out.mono ?_
         rintro e w' ⟨rfl, rfl⟩
         go_wp2_with fail
         refine HRb.out.mono ?_
         rintro e w' ⟨rfl, rfl⟩
         go_wp2_with fail
         go_ret
         exact ⟨rtb HR.out.symm, Z.out⟩
   · cases hO : b == [76, 79, 98, 106, 101, 99, 116, 59]
     · cases hN : a == [78]
       · rw [hE, hO, hN] at HY2 HC2
         skip
         have HR := zH ((HC2.out rfl).trans Hcl.out)
         cases oa
         · have HF := zH (show R = false by rw [HR.out]; rfl)
           go_enter Tryz.func103, Tryz.ntmps103
           go_wp2_with fail
           refine HA.out.mono ?_
           rintro e w' ⟨rfl, rfl⟩
           go_wp2_with fail
           refine HB.out.mono ?_
           rintro e w' ⟨rfl, rfl⟩
           go_wp2_with fail
           refine HRa.out.mono ?_
           rintro e w' ⟨rfl, rfl⟩
           go_wp2_with fail
           refine HCa.out.mono ?_
           rintro e w' ⟨rfl, rfl⟩
           go_wp2_with fail
           refine HCb.out.mono ?_
           rintro e w' ⟨rfl, rfl⟩
           go_wp2_with fail
           go_ret
           exact ⟨rtb HF.out.symm, Z.out⟩
         · cases ob
           · have HF := zH (show R = false by rw [HR.out]; rfl)
             go_enter Tryz.func103, Tryz.ntmps103
             go_wp2_with fail
             refine HA.out.mono ?_
             rintro e w' ⟨rfl, rfl⟩
             go_wp2_with fail
             refine HB.out.mono ?_
             rintro e w' ⟨rfl, rfl⟩
             go_wp2_with fail
             refine HRa.out.mono ?_
             rintro e w' ⟨rfl, rfl⟩
             go_wp2_with fail
             refine HCa.out.mono ?_
             rintro e w' ⟨rfl, rfl⟩
             go_wp2_with fail
             refine HCb.out.mono ?_
             rintro e w' ⟨rfl, rfl⟩
             go_wp2_with fail
             go_ret
             exact ⟨rtb HF.out.symm, Z.out⟩
           · have HF := zH (show R = (ch ca).contains cb by rw [HR.out]; simp)
             go_enter Tryz.func103, Tryz.ntmps103
             go_wp2_with fail
             refine HA.out.mono ?_
             rintro e w' ⟨rfl, rfl⟩
             go_wp2_with fail
             refine HB.out.mono ?_
             rintro e w' ⟨rfl, rfl⟩
             go_wp2_with fail
             refine HRa.out.mono ?_
             rintro e w' ⟨rfl, rfl⟩
             go_wp2_with fail
             refine HCa.out.mono ?_
             rintro e w' ⟨rfl, rfl⟩
             go_wp2_with fail
             refine HCb.out.mono ?_
             rintro e w' ⟨rfl, rfl⟩
             go_wp2_with fail
             refine HChA.out.mono ?_
             rintro e w1 ⟨v1, rfl, ho1, hb1⟩
             obtain ⟨A1, c1, rfl, h1, h2, r1, _⟩ := ho1.slice
             have HAm := zH (Y1 A1 (ch ca).length c1 (ch ca) cb w1 rfl (HBl.out ca) r1)
             have HB1 := zH hb1
             clear ho1 hb1 r1
             go_wp2_with fail
             refine HAm.out.mono ?_
             rintro e w' ⟨rfl, rfl⟩
             go_wp2_with fail
             go_ret
             exact ⟨rtb (by rw [HF.out]; simp), HB1.out⟩
       · cases rb
         · rw [hE, hO, hN] at HY2 HC2
           skip
           have HR := zH ((HC2.out rfl).trans Hcl.out)
           cases oa
           · have HF := zH (show R = false by rw [HR.out]; rfl)
             go_enter Tryz.func103, Tryz.ntmps103
             go_wp2_with fail
             refine HA.out.mono ?_
             rintro e w' ⟨rfl, rfl⟩
             go_wp2_with fail
             refine HB.out.mono ?_
             rintro e w' ⟨rfl, rfl⟩
             go_wp2_with fail
             refine HRa.out.mono ?_
             rintro e w' ⟨rfl, rfl⟩
             go_wp2_with fail
             refine HRb.out.mono ?_
             rintro e w' ⟨rfl, rfl⟩
             go_wp2_with fail
             refine HCa.out.mono ?_
             rintro e w' ⟨rfl, rfl⟩
             go_wp2_with fail
             refine HCb.out.mono ?_
             rintro e w' ⟨rfl, rfl⟩
             go_wp2_with fail
             go_ret
             exact ⟨rtb HF.out.symm, Z.out⟩
           · cases ob
             · have HF := zH (show R = false by rw [HR.out]; rfl)
               go_enter Tryz.func103, Tryz.ntmps103
               go_wp2_with fail
               refine HA.out.mono ?_
               rintro e w' ⟨rfl, rfl⟩
               go_wp2_with fail
               refine HB.out.mono ?_
               rintro e w' ⟨rfl, rfl⟩
               go_wp2_with fail
               refine HRa.out.mono ?_
               rintro e w' ⟨rfl, rfl⟩
               go_wp2_with fail
               refine HRb.out.mono ?_
               rintro e w' ⟨rfl, rfl⟩
               go_wp2_with fail
               refine HCa.out.mono ?_
               rintro e w' ⟨rfl, rfl⟩
               go_wp2_with fail
               refine HCb.out.mono ?_
               rintro e w' ⟨rfl, rfl⟩
               go_wp2_with fail
               go_ret
               exact ⟨rtb HF.out.symm, Z.out⟩
             · have HF := zH (show R = (ch ca).contains cb by rw [HR.out]; simp)
               go_enter Tryz.func103, Tryz.ntmps103
               go_wp2_with fail
               refine HA.out.mono ?_
               rintro e w' ⟨rfl, rfl⟩
               go_wp2_with fail
               refine HB.out.mono ?_
               rintro e w' ⟨rfl, rfl⟩
               go_wp2_with fail
               refine HRa.out.mono ?_
               rintro e w' ⟨rfl, rfl⟩
               go_wp2_with fail
               refine HRb.out.mono ?_
               rintro e w' ⟨rfl, rfl⟩
               go_wp2_with fail
               refine HCa.out.mono ?_
               rintro e w' ⟨rfl, rfl⟩
               go_wp2_with fail
               refine HCb.out.mono ?_
               rintro e w' ⟨rfl, rfl⟩
               go_wp2_with fail
               refine HChA.out.mono ?_
               rintro e w1 ⟨v1, rfl, ho1, hb1⟩
               obtain ⟨A1, c1, rfl, h1, h2, r1, _⟩ := ho1.slice
               have HAm := zH (Y1 A1 (ch ca).length c1 (ch ca) cb w1 rfl (HBl.out ca) r1)
               have HB1 := zH hb1
               clear ho1 hb1 r1
               go_wp2_with fail
               refine HAm.out.mono ?_
               rintro e w' ⟨rfl, rfl⟩
               go_wp2_with fail
               go_ret
               exact ⟨rtb (by rw [HF.out]; simp), HB1.out⟩
         · rw [hE, hO, hN] at HY2 HC2
           skip
           have HR := zH (HY2.out rfl)
           go_enter Tryz.func103, Tryz.ntmps103
           go_wp2_with fail
           refine HA.out.mono ?_
           rintro e w' ⟨rfl, rfl⟩
           go_wp2_with fail
           refine HB.out.mono ?_
           rintro e w' ⟨rfl, rfl⟩
           go_wp2_with fail
           refine HRa.out.mono ?_
           rintro e w' ⟨rfl, rfl⟩
           go_wp2_with fail
           refine HRb.out.mono ?_
           rintro e w' ⟨rfl, rfl⟩
           go_wp2_with fail
           go_ret
           exact ⟨rtb HR.out.symm, Z.out⟩
     · rw [hE, hO] at HY2 HC2
       skip
       have HR := zH (HY2.out rfl)
       go_enter Tryz.func103, Tryz.ntmps103
       go_wp2_with fail
       refine HA.out.mono ?_
       rintro e w' ⟨rfl, rfl⟩
       go_wp2_with fail
       refine HB.out.mono ?_
       rintro e w' ⟨rfl, rfl⟩
       go_wp2_with fail
       refine HRa.out.mono ?_
       rintro e w' ⟨rfl, rfl⟩
       go_wp2_with fail
       go_ret
       exact ⟨rtb HR.out.symm, Z.out⟩
 · have HR := zH (HY2.out (by rw [hE]; rfl))
   go_enter Tryz.func103, Tryz.ntmps103
   go_wp2_with fail
   refine HA.out.mono ?_
   rintro e w' ⟨rfl, rfl⟩
   go_wp2_with fail
   refine HB.out.mono ?_
   rintro e w' ⟨rfl, rfl⟩
   go_wp2_with fail
   go_ret
   exact ⟨rtb HR.out.symm, Z.out⟩
end KrS
namespace KrA
open Go.RowKit Base BinM Stru DescM DescW DescX DescR DescS DescG DescP DescQ HierS HierT HierM HierC HierD HierN HierV HierR HierU HierY HierQ Kls KlsP KlsQ OpenK TabC TabM TabK TabP TabE TabB TabG TabH TabT TabU TabV TabX TabW TabF TabN TabO TabY TabR TabQ TabL KndM KndS KrS
def Sk (w : World) (b r : Nat) (ss : List T) (bad : Bool) : Prop :=
 ∃ A c, Bx w b #[.pointer (some ⟨r, 0, none⟩), .slice A ss.length c, .bool bad] 70 ∧ Rds w A (ss.map sv) ∧ (ss ≠ [] → ∀ a, A = some a → a.block ≠ b) ∧ ss.length ≤ c ∧ c ≤ maxLen
theorem Sk.lt {w : World} {b r : Nat} {ss : List T} {bad : Bool} (h : Sk w b r ss bad) : b < w.heap.size := by obtain ⟨A, c, h1, _⟩ := h; exact h1.lt
theorem Sk.ext {w w' : World} {b r : Nat} {ss : List T} {bad : Bool} (h : Sk w b r ss bad) (hb : Below w.heap.size w w') : Sk w' b r ss bad := by
 obtain ⟨A, c, h1, h2, h3, h4⟩ := h
 exact ⟨A, c, h1.after hb, h2.below hb, h3, h4⟩
theorem Vk {w : World} {A : Option Addr} {xs : List Value} (h : Rds w A xs) {b : Nat} (hA : ∀ a, A = some a → a.block ≠ b) (j : Nat) (v : Value) : Rds (w.setCell ⟨b, j, none⟩ v) A xs :=
 TabN.ZU h (by simp [World.setCell]) (fun a ha => heap_setCell_other w ⟨b, j, none⟩ a.block v (hA a ha))
theorem QY {w : World} {A : Option Addr} {xs : List Value} (h : Rds w A xs) {b : Nat} (hA : xs ≠ [] → ∀ a, A = some a → a.block ≠ b) (j : Nat) (v : Value) : Rds (w.setCell ⟨b, j, none⟩ v) A xs := by
 by_cases e : xs = []
 · exact .inl e
 · exact Vk h (hA e) j v
theorem Sk.drew {w : World} {b r : Nat} {ss : List T} {bad : Bool} (h : Sk w b r ss bad) : Sk w.drew b r ss bad := h.ext ((Below.refl w.heap.size w).drew)
def J4 (w : World) (b r : Nat) (ss : List T) (bad : Bool) (v : Value) (e : Ending) (w' : World) : Prop := e = .returned v ∧ Sk w' b r ss bad ∧ w.grownBy w' (some b)
theorem qV (w : World) (row : Option Nat) : w.grownBy w row := ⟨rfl, rfl, rfl, Nat.le_refl _, fun _ _ _ => rfl⟩
theorem grown_of {w w' : World} (row : Option Nat) (h : Below w.heap.size w w') : w.grownBy w' row := ⟨h.os, h.tape, h.output, h.size, fun k hk _ => h.block k hk⟩
theorem ZT {w : World} {b : Nat} (j : Nat) (v : Value) : w.grownBy (w.setCell ⟨b, j, none⟩ v) (some b) :=
 ⟨rfl, rfl, rfl, by simp [World.setCell], fun k _ hk => heap_setCell_other w ⟨b, j, none⟩ k v (fun e => hk (by rw [e]))⟩
theorem qW {w w' : World} {row : Option Nat} (h : w.grownBy w' row) : w.grownBy w'.drew row := ⟨h.os, h.tape, h.output, h.size, h.block⟩
theorem za {w1 w2 w3 : World} {row : Option Nat} (h : w1.grownBy w2 row) (k : w2.grownBy w3 row) : w1.grownBy w3 row :=
 ⟨k.os.trans h.os, k.tape.trans h.tape, k.output.trans h.output, Nat.le_trans h.size k.size, fun b hb hn => (k.block b (Nat.lt_of_lt_of_le hb h.size) hn).trans (h.block b hb hn)⟩
set_option maxRecDepth 100000 in
theorem qO {w : World} {b r : Nat} {ss : List T} {bad : Bool} (h : Sk w b r ss bad) (hm : ss.length ≤ 1000) :
 Calls Tryz.prog 29 #[.pointer (some ⟨b, 0, none⟩)] w (J4 w b r (zi ss).2.1 (bad || !(zi ss).2.2) (.string ⟨(zi ss).1.toArray⟩)) := by
 obtain ⟨A, c, hbx, hr, hA, hc1, hc2⟩ := h
 have HB := zH hbx
 have HR := zH hr
 have HA := zH hA
 have c1 : w.cell? ⟨b, 1, none⟩ = some (.slice A ss.length c) := hbx.cell 1
 have c2 : w.cell? ⟨b, 2, none⟩ = some (.bool bad) := hbx.cell 2
 have f1 := hbx.free 1
 have f2 := hbx.free 2
 have hlt := hbx.lt
 unfold maxLen at hc2
 clear hbx hr hA
 by_cases h0 : 0 < ss.length
 · rw [YI h0]
   have HAA := zH (HA.out (by intro e; rw [e] at h0; simp at h0))
   obtain ⟨g, o, rfl, hg, hc⟩ := HR.out.at_ (k := ss.length - 1) (by simp; omega)
   rw [List.getElem_map] at hc
   have HT := zH (show Rds w (some ⟨g, o, none⟩) ((ss.take (ss.length - 1)).map sv) by rw [List.map_take]; exact HR.out.take _)
   simp only [sv] at hc
   generalize ss[ss.length - 1] = d at *
   have HL := zH (show (ss.take (ss.length - 1)).length = ss.length - 1 by simp)
   generalize ss.take (ss.length - 1) = s2 at *
   obtain ⟨m, hm'⟩ : ∃ m, ss.length = m + 1 := ⟨ss.length - 1, by omega⟩
   have hm2 : ss.length - 1 = m := by omega
   rw [hm2] at hc HL
   rw [hm'] at c1 HB hc1
   have hmi : (m : Int) < ((m + 1 : Nat) : Int) := by omega
   have hm0 : (0 : Int) ≤ (m : Int) := by omega
   have hmb : m + 1 ≤ 1000 := by omega
   have HF : Hid (Sk (w.setCell ⟨b, 1, none⟩ (.slice (some ⟨g, o, none⟩) m c)) b r s2 (bad || !true)) := zH ⟨some ⟨g, o, none⟩, c, by rw [HL.out]; simp only [Bool.not_true, Bool.or_false]; exact HB.out.set 1 (.slice (some ⟨g, o, none⟩) m c), Vk HT.out HAA.out 1 _, fun _ => HAA.out, by rw [HL.out]; omega, by unfold maxLen; omega⟩
   clear hm' hm2 h0 hm HL HT
   go_enter Tryz.func29, Tryz.ntmps29
   go_wp2_with fail
   go_region
   go_wp2_with fail
   go_region
   go_wp2_with fail
   go_ret
   exact ⟨rfl, HF.out.drew.drew, qW (qW (ZT 1 _))⟩
 · have e : ss = [] := List.eq_nil_of_length_eq_zero (by omega)
   subst e
   rw [Vn]
   have HF : Hid (Sk (w.setCell ⟨b, 2, none⟩ (.bool true)) b r [] (bad || !false)) := zH ⟨A, c, by simp only [Bool.not_false, Bool.or_true]; exact HB.out.set 2 (.bool true), .inl rfl, fun h => absurd rfl h, hc1, by unfold maxLen; omega⟩
   go_enter Tryz.func29, Tryz.ntmps29
   go_wp2_with fail
   go_ret
   exact ⟨rfl, HF.out, ZT 2 _⟩
theorem Sk.UU {w : World} {b r : Nat} {ss : List T} {bad : Bool} (h : Sk w b r ss bad) (x : Bool) : Sk (w.setCell ⟨b, 2, none⟩ (.bool x)) b r ss x := by
 obtain ⟨A, c, h1, h2, h3, h4⟩ := h
 exact ⟨A, c, h1.set 2 (.bool x), QY h2 (fun hx => h3 (by intro e; subst e; exact hx rfl)) 2 _, h3, h4⟩
theorem Sk.flag {w : World} {b r : Nat} {ss : List T} {bad : Bool} (h : Sk w b r ss bad) : w.cell? ⟨b, 2, none⟩ = some (.bool bad) ∧ w.frozen? ⟨b, 2, none⟩ = false ∧ w.cell? ⟨b, 0, none⟩ = some (.pointer (some ⟨r, 0, none⟩)) := by
 obtain ⟨A, c, h1, _⟩ := h
 exact ⟨h1.cell 2, h1.free 2, h1.cell 0⟩
set_option maxRecDepth 100000 in
theorem zm8 {w : World} {b r : Nat} {ss : List T} {bad : Bool} (h : Sk w b r ss bad) (hm : ss.length ≤ 1000) (d : T) :
 Calls Tryz.prog 60 #[.pointer (some ⟨b, 0, none⟩), .string ⟨d.toArray⟩] w (J4 w b r (zi ss).2.1 (bad || !(zi ss).2.2 || !((zi ss).1 == d)) (.tuple #[])) := by
 have HP := zH (qO h hm)
 clear h
 generalize zi ss = p at *
 obtain ⟨x, s2, ok⟩ := p
 simp only at HP ⊢
 cases hx : x == d
 all_goals
  have hx2 : (x != d) = !(x == d) := rfl
  rw [hx] at hx2
  go_enter Tryz.func60, Tryz.ntmps60
  go_wp2_with fail
  refine HP.out.mono ?_
  rintro e w1 ⟨rfl, hs, hg⟩
  have f2 := hs.flag.2.1
  have c2 := hs.flag.1
  have hlt := hs.lt
  have HS := zH hs
  have HX := zH (hs.UU true)
  have HG := zH hg
  clear hs hg
  go_wp2_with fail
  go_end0
  first
   | exact ⟨rfl, by simpa using HX.out, za HG.out (ZT 2 _)⟩
   | exact ⟨rfl, by simpa using HS.out, HG.out⟩
set_option maxRecDepth 100000 in
theorem Qm {w : World} {b r : Nat} {ss : List T} {bad : Bool} (h : Sk w b r ss bad) (hm : ss.length ≤ 1000) (hsl : ∀ x ∈ ss, x.length ≤ 140737488355328) :
 Calls Tryz.prog 62 #[.pointer (some ⟨b, 0, none⟩)] w (J4 w b r (zi ss).2.1 (bad || !(zi ss).2.2 || !Zr (zi ss).1) (.tuple #[])) := by
 have HP := zH (qO h hm)
 have hl := QT hsl
 clear h hsl
 generalize zi ss = p at *
 obtain ⟨x, s2, ok⟩ := p
 simp only at HP hl ⊢
 have HR := zH (fun W => jD x W hl)
 generalize Zr x = rb at *
 cases rb
 all_goals
  go_enter Tryz.func62, Tryz.ntmps62
  go_wp2_with fail
  refine HP.out.mono ?_
  rintro e w1 ⟨rfl, hs, hg⟩
  have f2 := hs.flag.2.1
  have c2 := hs.flag.1
  have hlt := hs.lt
  have HS := zH hs
  have HX := zH (hs.UU true)
  have HG := zH hg
  clear hs hg
  go_wp2_with fail
  refine (HR.out _).mono ?_
  rintro e w' ⟨rfl, rfl⟩
  go_wp2_with fail
  go_end0
  first
   | exact ⟨rfl, by simpa using HX.out, za HG.out (ZT 2 _)⟩
   | exact ⟨rfl, by simpa using HS.out, HG.out⟩
set_option maxRecDepth 100000 in
theorem zm4 {w : World} {b r : Nat} {ss : List T} {bad : Bool} (h : Sk w b r ss bad) (hm : ss.length ≤ 1000) (hsl : ∀ x ∈ ss, x.length ≤ 140737488355328) :
 Calls Tryz.prog 120 #[.pointer (some ⟨b, 0, none⟩)] w (J4 w b r (zi ss).2.1 (bad || !(zi ss).2.2 || !((zM (zi ss).1).2 == 0)) (.string ⟨(zM (zi ss).1).1.toArray⟩)) := by
 have HP := zH (qO h hm)
 have hl := QT hsl
 clear h hsl
 generalize zi ss = p at *
 obtain ⟨x, s2, ok⟩ := p
 simp only at HP hl ⊢
 have HR := zH (fun W => JY x W hl)
 generalize zM x = el at *
 obtain ⟨y, n⟩ := el
 unfold Xo at HR
 simp only at HR ⊢
 cases hn : n == 0
 all_goals
  have hn2 : (n != 0) = !(n == 0) := rfl
  rw [hn] at hn2
  go_enter Tryz.func120, Tryz.ntmps120
  go_wp2_with fail
  refine HP.out.mono ?_
  rintro e w1 ⟨rfl, hs, hg⟩
  have f2 := hs.flag.2.1
  have c2 := hs.flag.1
  have hlt := hs.lt
  have HS := zH hs
  have HX := zH (hs.UU true)
  have HG := zH hg
  clear hs hg
  go_wp2_with fail
  refine (HR.out _).mono ?_
  rintro e w' ⟨rfl, rfl⟩
  go_wp2_with fail
  go_ret
  first
   | exact ⟨rfl, by simpa using HX.out, za HG.out (ZT 2 _)⟩
   | exact ⟨rfl, by simpa using HS.out, HG.out⟩
set_option maxRecDepth 100000 in
theorem zr3 {w : World} {b r : Nat} {ss : List T} {bad : Bool} (h : Sk w b r ss bad) (x : Bool) :
 Calls Tryz.prog 27 #[.pointer (some ⟨b, 0, none⟩), .bool x] w (J4 w b r ss (bad || !x) (.tuple #[])) := by
 have f2 := h.flag.2.1
 have c2 := h.flag.1
 have hlt := h.lt
 have HS := zH h
 have HX := zH (fun y => h.UU y)
 clear h
 cases bad <;> cases x
 all_goals
  go_enter Tryz.func27, Tryz.ntmps27
  go_wp2_with fail
  go_end0
  exact ⟨rfl, HX.out _, ZT 2 _⟩
theorem below_grown {lo b : Nat} {w w' : World} (h : w.grownBy w' (some b)) (hb : lo ≤ b) (hs : lo ≤ w.heap.size) : Below lo w w' :=
 ⟨h.os, h.tape, h.output, h.size, fun k hk => h.block k (Nat.lt_of_lt_of_le hk hs) (fun e => by injection e with e; omega)⟩
structure TbR (lo : Nat) (w : World) (r g : Nat) (ps : List P2) : Prop where
 box : ∃ y, Bx w r #[.pointer (some ⟨g, 0, none⟩), y] 117
 low : r < lo
 hier : IsR lo w g (jE ps)
 can : HierQ.Can ps
theorem TbR.below {lo : Nat} {w w' : World} {r g : Nat} {ps : List P2} (H : TbR lo w r g ps) (hb : Below lo w w') : TbR lo w' r g ps :=
 ⟨by obtain ⟨y, hy⟩ := H.box; exact ⟨y, (hb.block r H.low).trans hy⟩, H.low, H.hier.below hb, H.can⟩
theorem KY {lo : Nat} {w : World} {r g : Nat} {ps : List P2} (H : TbR lo w r g ps) : w.cell? ⟨r, 0, none⟩ = some (.pointer (some ⟨g, 0, none⟩)) := by
 obtain ⟨y, hy⟩ := H.box
 exact hy.cell 0
set_option maxRecDepth 100000 in
set_option maxHeartbeats 2000000 in
theorem yu {lo : Nat} {w : World} {b r g : Nat} {ps : List P2} {ss : List T} {bad : Bool} (h : Sk w b r ss bad) (H : TbR lo w r g ps) (hb : lo ≤ b) (hm : ss.length ≤ 1000) (hsl : ∀ x ∈ ss, x.length ≤ 140737488355328) (d : T) (hd : d.length ≤ 140737488355328) :
 Calls Tryz.prog 64 #[.pointer (some ⟨b, 0, none⟩), .string ⟨d.toArray⟩] w (J4 w b r (zi ss).2.1 (bad || !(zi ss).2.2 || !(mk ps).sub (zi ss).1 d) (.tuple #[])) := by
 have HP := zH (fun W (hW : Below w.heap.size w W) => qO (h.ext hW) hm)
 have hl := QT hsl
 have hlow : lo ≤ w.heap.size := by have := h.lt; omega
 have HT := zH (fun W (hW : Below lo w W) => H.below hW)
 have c0 := h.flag.2.2
 have hlt := h.lt
 obtain ⟨y, hy⟩ := H.box
 have hrl := H.low
 have cr : w.cell? ⟨r, 0, none⟩ = some (.pointer (some ⟨g, 0, none⟩)) := hy.cell 0
 have hrw := hy.lt
 clear h H hsl hy
 generalize zi ss = p at *
 obtain ⟨x, s2, ok⟩ := p
 simp only at HP hl ⊢
 have HSub := zH (fun W (hW : Below lo w W) => kN lo g ps x d W (HT.out W hW).hier (Nat.le_trans hlow hW.size) (HT.out W hW).can hl hd)
 generalize (mk ps).sub x d = sb at *
 have Z := zH (Below.refl w.heap.size w)
 have Zlo := zH (Below.refl lo w)
 go_enter Tryz.func64, Tryz.ntmps64
 go_wp2_with fail
 have hZd := Z.out.drew
 have hLd := Zlo.out.drew
 go_region_held3 (fun w' => w'.cell? ⟨b, 0, none⟩ = some (.pointer (some ⟨r, 0, none⟩)) ∧ w'.cell? ⟨r, 0, none⟩ = some (.pointer (some ⟨g, 0, none⟩)))
  (first | (with_reducible exact ⟨c0, cr⟩) | (with_reducible exact ⟨x0, x1⟩) | (with_reducible exact ⟨y0, y1⟩) | go_keep)
  (first
   | (go_at_call 103
      have hG := hM1
      clear hG
      with_reducible refine (HSub.out _ hB1).mono ?_
      rintro e w2 ⟨rfl, hb2⟩
      have hS2 := hs1.ext hb2
      have hg2 := za hM1 (grown_of (some b) hb2)
      have y0 := hS2.flag.2.2
      have y1 := KY (HT.out w2 (hB1.trans (hb2.mono (Nat.le_trans hlow hg1s)))))
   | (go_at_call 29
      with_reducible refine (HP.out _ hZd).mono ?_
      rintro e w1 ⟨rfl, hs1, hM1⟩
      have hg1s := hM1.size
      have hB1 := hLd.trans (below_grown hM1 hb hlow)
      have x0 := hs1.flag.2.2
      have x1 := KY (HT.out w1 hB1)))
 rename_i hHeld
 have f2 := hS2.flag.2.1
 have c2 := hS2.flag.1
 have hlt2 := hS2.lt
 have HS := zH hS2
 have HX := zH (hS2.UU true)
 have HG := zH (show w.grownBy w2 (some b) from ⟨hg2.os, hg2.tape, hg2.output, hg2.size, hg2.block⟩)
 clear hHeld hS2 hg2 hM1 hs1 hb2 hB1 x0 x1 y0 y1 hg1s hZd hLd c0 cr HT HP HSub
 cases sb
 · go_wp2_with fail
   go_end0
   exact ⟨rfl, by simpa using HX.out, za HG.out (ZT 2 _)⟩
 · go_wp2_with fail
   go_end0
   exact ⟨rfl, by simpa using HS.out, HG.out⟩
end KrA
end Go.Proofs.YtehainbhoflpnaaGreatDoor
