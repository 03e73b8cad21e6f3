/- pieces -/
import Derived.Test.YtehainbhoflpnaaGreatDoorK25
namespace Go.Proofs.YtehainbhoflpnaaGreatDoor
namespace TabQ
open Go.RowKit Base BinM Stru DescM DescW DescX DescR DescS DescG DescP DescQ HierS HierT HierM HierC HierD HierN HierV HierR HierU Kls KlsP KlsQ OpenK TabC TabM TabK TabP TabE TabB TabG TabH TabT TabU TabV TabX TabW TabF TabN TabO TabY TabI TabR
def Xc (L : List zf) (q : T) (w : World) (e : Ending) (w' : World) : Prop := ∃ v, e = .returned v ∧ Xa w' w.heap.size v (hav L q).2 ∧ Below w.heap.size w w'
set_option maxRecDepth 100000 in
set_option maxHeartbeats 4000000 in
theorem J2 {lo : Nat} {w : World} {r g : Nat} {A : Option Addr} {c : Nat} {ps : List P2} {L : List zf} (H : RT lo w r g A c ps L) (hml : L.length ≤ 100000) (q : T) (hk : L.find? (named q) = none) :
 Calls Tryz.prog 98 #[.pointer (some ⟨r, 0, none⟩), .string ⟨q.toArray⟩] w (Xc L q w) := by
 have HC := zH (jP H hml q)
 rw [show ZR q L = noC from by unfold ZR; rw [hk]; rfl, hk] at HC
 have HZ := zH (jM hk)
 clear H hk
 go_enter Tryz.func98, Tryz.ntmps98
 go_wp2_with fail
 refine HC.out.mono ?_
 rintro e w1 ⟨rfl, hb1⟩
 simp only [zf.V, noC]
 have B1 := zH hb1
 clear hb1
 go_wp2_with fail
 go_ret
 exact ⟨_, rfl, by rw [HZ.out]; exact World.ownsRow_nil _ _ _ _, B1.out.alloc B1.out.size _⟩
theorem zz6 {w : World} {base b c : Nat} {ms : List zG} (h : Xa w base (.slice (some ⟨b, 0, none⟩) ms.length c) ms) {j : Nat} (hj : j < ms.length) (e : zG) :
 Xa (((w.setCell ⟨b, j * 3, none⟩ (.string ⟨e.name.toArray⟩)).setCell ⟨b, j * 3 + 1, none⟩ (.string ⟨e.sig.toArray⟩)).setCell ⟨b, j * 3 + 2, none⟩ (.string ⟨e.cls.toArray⟩)) base (.slice (some ⟨b, 0, none⟩) (ms.set j e).length c) (ms.set j e) := by
 have hl : (ms.set j e).length = ms.length := by simp
 unfold Xa at h ⊢
 have h5 := (((((h.stored (j * 3) (.string ⟨e.name.toArray⟩)).1).stored (j * 3 + 1) (.string ⟨e.sig.toArray⟩)).1).stored (j * 3 + 2) (.string ⟨e.cls.toArray⟩)).1
 have e1 : ms = ms.take j ++ ms[j] :: ms.drop (j + 1) := by rw [← List.drop_eq_getElem_cons hj, List.take_append_drop]
 have e2 : ms.set j e = ms.take j ++ e :: ms.drop (j + 1) := by rw [List.set_eq_take_append_cons_drop, if_pos hj]
 have e3 : (((ms.flatMap zG.vals).set (j * 3) (.string ⟨e.name.toArray⟩)).set (j * 3 + 1) (.string ⟨e.sig.toArray⟩)).set (j * 3 + 2) (.string ⟨e.cls.toArray⟩) = (ms.set j e).flatMap zG.vals := by
  rw [e2, ← Zo2 (ms.take j) (ms.drop (j + 1)) ms[j] e j (by simp; omega), ← e1]
 rw [e3] at h5
 rw [hl]
 exact h5
theorem zk1 {cn : T} {cs : List zO} {ms0 : List zG} {k : Nat} (hk : k < cs.length) : (cs.take (k + 1)).foldl (fun l m => Qt l (JC cn m)) ms0 = Qt ((cs.take k).foldl (fun l m => Qt l (JC cn m)) ms0) (JC cn cs[k]) := by
 rw [List.take_succ_eq_append_getElem hk, List.foldl_append]; rfl
set_option maxRecDepth 100000 in
set_option maxHeartbeats 16000000 in
theorem UG {lo : Nat} {w : World} {r g : Nat} {A : Option Addr} {c : Nat} {ps : List P2} {L : List zf} (H : RT lo w r g A c ps L) (hml : L.length ≤ 100000) (hfew : ∀ k ∈ L, k.fields.length ≤ 16 ∧ k.meths.length ≤ 32) (q : T) (k : zf) (hk : L.find? (named q) = some k) (hhav : hav L q = (qZ (hav L k.sup).1 k, qC (hav L k.sup).2 k))
 (ih : ∀ W, RT lo W r g A c ps L → Calls Tryz.prog 98 #[.pointer (some ⟨r, 0, none⟩), .string ⟨k.sup.toArray⟩] W (Xc L k.sup W)) :
 Calls Tryz.prog 98 #[.pointer (some ⟨r, 0, none⟩), .string ⟨q.toArray⟩] w (Xc L q w) := by
 have HC := zH (jP H hml q)
 rw [show ZR q L = k from by unfold ZR; rw [hk]; rfl, hk] at HC
 have HT := zH (fun W (hb : Below w.heap.size w W) => H.ext hb)
 have HMy := zH (show (hav L q).2 = k.meths.foldl (fun l m => Qt l (JC k.name m)) (hav L k.sup).2 from by rw [hhav]; rfl)
 have hqn : k.name = q := (jK hk).2
 have hmem := List.mem_of_find?_eq_some hk
 have HF := zH (fun W (hb : Below w.heap.size w W) => ((H.ext hb).each k hmem).meths)
 have hfl := (hfew k hmem).2
 have hl5 := (yO hfew k.sup).2
 have hmm : k.mm = k.meths.length := (H.each k hmem).meths.len
 have HI := zH ih
 have Hnd := zH (zj9 L k.sup)
 have HQn := zH hqn
 clear H hk hhav ih hfew hmem hqn
 generalize hkk : k.meths = cms at *
 obtain ⟨kn, ks, kA, km, kc, fA, fm, fc, mA, mm, mc, kcs, kfs, kms⟩ := k
 simp only at hkk hmm HQn HMy HI HF hl5 Hnd
 subst hkk
 subst hmm
 have hqn := HQn.out
 subst hqn
 clear HQn
 go_enter Tryz.func98, Tryz.ntmps98
 go_wp2_with fail
 refine HC.out.mono ?_
 rintro e w1 ⟨rfl, hb1⟩
 simp only [zf.V, Option.isSome_some]
 have B1 := zH hb1
 have B2 := zH (hb1.alloc hb1.size (.cells #[.string ⟨kn.toArray⟩, .string ⟨ks.toArray⟩, .slice kA km kc, .slice fA fm fc, .slice mA kms.length mc] 81))
 have C2 := zH (Bx.new w1 #[.string ⟨kn.toArray⟩, .string ⟨ks.toArray⟩, .slice kA km kc, .slice fA fm fc, .slice mA kms.length mc] 81)
 clear hb1
 go_wp2_with fail
 refine (HI.out _ (HT.out _ B2.out)).mono ?_
 rintro e w3 ⟨v3, rfl, ho3, hb3⟩
 have B3 := zH (B2.out.trans (hb3.mono B2.out.size))
 have C3 := zH (C2.out.after hb3)
 obtain ⟨A3, c3, rfl, _, _, _, _⟩ := zS ho3
 have R3 := zH (Rds.qU ho3)
 have HN := zH (show Xa w3 w3.heap.size (.slice none 0 0) [] from World.ownsRow_nil _ _ _ _)
 generalize (hav L ks).2 = ls at *
 have Z3 := zH (Below.refl w3.heap.size w3)
 clear hb3 ho3
 go_wp2_with (at_builtin
              refine Zi1 rfl (.tmp 20) (.tmp 24) rfl w3.heap.size _ [] rfl HN.out A3 ls.length c3 ls rfl rfl R3.out (by simp; omega) (Nat.le_refl _) ?_
              intro v4 w4 ho4 hg4
              rw [List.nil_append] at ho4
              have HO4 := zH ho4
              have hb4 := zV Z3.out HN.out (Nat.le_refl _) (Nat.le_refl _) hg4
              have HB4 := zH hb4
              clear ho4 hg4 hb4)
 go_loopw [7, 8] (fun v i wr => ∃ (j : Nat), j ≤ kms.length ∧ i = .int .i64 j ∧ Xa wr w3.heap.size v ((kms.take j).foldl (fun l m => Qt l (JC kn m)) ls) ∧ Below w3.heap.size w3 wr) (fun _ i _ => kms.length - (intOf i).toNat)
 case atStart => exact ⟨0, Nat.zero_le _, rfl, HO4.out, HB4.out⟩
 case round =>
  obtain ⟨j, hj, rfl, hown, hbw⟩ := hrel
  have Hown := zH hown
  have Hbw := zH hbw
  have hsz := hbw.size
  have C5 := zH (C3.out.after hbw)
  have x4 := C5.out.cell 4
  have xlt := C5.out.lt
  by_cases hlt : j < kms.length
  · have HT2 := zH (zk1 (cn := kn) (ms0 := ls) hlt)
    have hnd := Yn kn (kms.take j) ls Hnd.out
    have hml2 := YV kn (kms.take j) ls
    rw [List.length_take] at hml2
    obtain ⟨b1, o1, hA, hb1, c0, c1, _, _, _⟩ := jY ((HF.out wr (B3.out.trans (hbw.mono B3.out.size))).rds) hlt
    subst hA
    have hj1 : (j : Int) < (kms.length : Int) := by omega
    have hj0 : (0 : Int) ≤ (j : Int) := by omega
    generalize (kms.take j).foldl (fun l m => Qt l (JC kn m)) ls = ms at *
    generalize kms[j] = z at *
    obtain ⟨z0, z1, z2, zA, zm, zc, zhA, zhm, zhc, zcode, zhand⟩ := z
    simp only at c0 c1
    obtain ⟨A5, c5, rfl, _, _, _, _⟩ := zS hown
    have Hnd2 := zH hnd
    clear hown hbw hnd
    go_wp2_with fail
    go_region_held3 (fun w' => w'.cell? ⟨w1.heap.size, 4, none⟩ = some (.slice (some ⟨b1, o1, none⟩) kms.length mc) ∧ w'.cell? ⟨b1, o1 + j * 5, none⟩ = some (.string ⟨z0.toArray⟩) ∧ w'.cell? ⟨b1, o1 + j * 5 + 1, none⟩ = some (.string ⟨z1.toArray⟩)) (go_keep) (fail)
    have hbE : Below wr.heap.size wr (wr.alloc (.cells #[.string ⟨z0.toArray⟩, .string ⟨z1.toArray⟩, .string ⟨kn.toArray⟩] 138)).drew := ((Below.refl _ _).alloc (Nat.le_refl _) _).drew
    have EB := zH (show Bx (wr.alloc (.cells #[.string ⟨z0.toArray⟩, .string ⟨z1.toArray⟩, .string ⟨kn.toArray⟩] 138)).drew wr.heap.size #[.string ⟨z0.toArray⟩, .string ⟨z1.toArray⟩, .string ⟨kn.toArray⟩] 138 from Bx.new wr #[.string ⟨z0.toArray⟩, .string ⟨z1.toArray⟩, .string ⟨kn.toArray⟩] 138)
    have OE := zH (TabM.zh Hown.out (fun q hq => hbE.block q (Hown.out.lt q hq).2))
    have BE := zH (Hbw.out.trans (hbE.mono hsz))
    clear hbE c0 c1 hb1 x4 xlt
    generalize (wr.alloc (.cells #[.string ⟨z0.toArray⟩, .string ⟨z1.toArray⟩, .string ⟨kn.toArray⟩] 138)).drew = WE at *
    have ZE := zH (Below.refl WE.heap.size WE)
    have hbn := EB.out.lt
    generalize wr.heap.size = bn at *
    go_wp2_with fail
    go_loopw [10, 11] (fun at_ i wx => ∃ k : Nat, k ≤ ms.length ∧ at_ = .int .i64 (Ze (Zl z0) (ms.take k)) ∧ i = .int .i64 k ∧ Below WE.heap.size WE wx) (fun _ i _ => ms.length - (intOf i).toNat)
    case atStart => exact ⟨0, Nat.zero_le _, rfl, rfl, ZE.out⟩
    case round =>
     obtain ⟨k, hk, rfl, rfl, hbx⟩ := hrel
     have Hbx := zH hbx
     have OX := zH (TabM.zh OE.out (fun q hq => hbx.block q (OE.out.lt q hq).2))
     have EX := zH (EB.out.after hbx)
     have ex0 := EX.out.cell 0
     have exl := EX.out.lt
     by_cases hlk : k < ms.length
     · obtain ⟨b2, o2, hA2, hb2, d0, _, _⟩ := xU (Rds.qU OX.out) hlk
       subst hA2
       have hk1 : (k : Int) < (ms.length : Int) := by omega
       have hk0 : (0 : Int) ≤ (k : Int) := by omega
       have HFt := zH (zk2 (n := z0) Hnd2.out hlk)
       clear hbx
       generalize Ze (Zl z0) (ms.take k) = FK at *
       generalize ms[k].name = mk_ at *
       cases hq : (mk_ == z0)
       · have Hq := zH (show Ze (Zl z0) (ms.take (k + 1)) = FK from by rw [HFt.out, hq]; rfl)
         go_wp2_with fail
         go_quiet (fail)
         go_wp2_with fail
         go_roundw
         case rel => exact ⟨k + 1, by omega, by rw [Hq.out], by go_num, Stru.drawn Hbx.out _⟩
         case measure => simp [intOf]; omega
       · have Hq := zH (show Ze (Zl z0) (ms.take (k + 1)) = (k : Int) from by rw [HFt.out, hq]; rfl)
         go_wp2_with fail
         go_quiet (fail)
         go_wp2_with fail
         go_roundw
         case rel => exact ⟨k + 1, by omega, by rw [Hq.out], by go_num, Stru.drawn Hbx.out _⟩
         case measure => simp [intOf]; omega
     · have hkm : ms.take k = ms := List.take_of_length_le (by omega)
       rw [hkm]
       have ex1 := EX.out.cell 1
       have ex2 := EX.out.cell 2
       have BX := zH (BE.out.trans (hbx.mono BE.out.size))
       have hlw := hbx.size
       have hlE := BE.out.size
       clear hbx hkm
       rcases qo (Zl z0) ms with hF | ⟨j2, hj2, hF⟩
       · have HA := zH (X0 (e := ⟨z0, z1, kn⟩) hF)
         rw [hF]
         clear hF
         go_wp2_with (at_builtin
                      refine Zi1 rfl (.tmp 68) (.tmp 70) rfl w3.heap.size _ ms rfl (OX.out.alloc _) (some ⟨wr.heap.size, 0, none⟩) 1 1 [⟨z0, z1, kn⟩] rfl rfl (Base.zB wr #[.string ⟨z0.toArray⟩, .string ⟨z1.toArray⟩, .string ⟨kn.toArray⟩] 138) (by simp; omega) (by simp; omega) ?_
                      intro v7 w7 ho7 hg7
                      have HO7 := zH ho7
                      have HB7 := zH (zV (BX.out.alloc BX.out.size (.cells #[.string ⟨z0.toArray⟩, .string ⟨z1.toArray⟩, .string ⟨kn.toArray⟩] 138)) (OX.out.alloc (.cells #[.string ⟨z0.toArray⟩, .string ⟨z1.toArray⟩, .string ⟨kn.toArray⟩] 138)) (Nat.le_refl _) (by simp; omega) hg7)
                      clear ho7 hg7)
         go_roundw
         case rel => exact ⟨j + 1, by omega, by go_num, by rw [HT2.out]; show Xa _ _ _ (Qt ms ⟨z0, z1, kn⟩); rw [HA.out]; exact HO7.out, HB7.out⟩
         case measure => simp [intOf]; omega
       · have HA := zH (VZ (e := ⟨z0, z1, kn⟩) hF)
         rw [hF]
         clear hF
         obtain ⟨b5, o5, hA5, hb5, d0, d1, d2⟩ := xU (Rds.qU OX.out) hj2
         have ho : o5 = 0 := by
          obtain ⟨h1, h2⟩ := OX.out
          rcases h2 with ⟨e, _⟩ | ⟨g, cap, cur, e, _⟩
          · rw [hA5] at e; cases e
          · rw [hA5] at e; cases e; rfl
         subst ho
         subst hA5
         rw [Nat.zero_add] at d0 d1 d2
         have n0 := OX.out.frozenAt (j2 * 3)
         have n1 := OX.out.frozenAt (j2 * 3 + 1)
         have n2 := OX.out.frozenAt (j2 * 3 + 2)
         have hj1' : (j2 : Int) < (ms.length : Int) := by omega
         have hj0' : (0 : Int) ≤ (j2 : Int) := by omega
         have hP := zz6 OX.out hj2 ⟨z0, z1, kn⟩
         unfold Xa at hP
         rw [List.length_set] at hP
         have HP := zH hP
         clear hP
         have hlb := (OX.out.lt b5 rfl).1
         have HB7 := zH (((BX.out.setCell (p := ⟨b5, j2 * 3, none⟩) hlb (.string ⟨z0.toArray⟩)).setCell (p := ⟨b5, j2 * 3 + 1, none⟩) hlb (.string ⟨z1.toArray⟩)).setCell (p := ⟨b5, j2 * 3 + 2, none⟩) hlb (.string ⟨kn.toArray⟩))
         go_wp2_with fail
         go_roundw
         case rel => exact ⟨j + 1, by omega, by go_num, by rw [HT2.out]; show Xa _ _ _ (Qt ms ⟨z0, z1, kn⟩); rw [HA.out]; unfold Xa; rw [List.length_set]; exact HP.out, HB7.out⟩
         case measure => simp [intOf]; omega
  · have hjm : kms.take j = kms := List.take_of_length_le (by omega)
    rw [hjm] at Hown
    clear hown hbw hjm
    go_wp2_with fail
    go_ret
    exact ⟨_, rfl, by rw [HMy.out]; exact Z6 Hown.out B3.out.size, B3.out.trans (Hbw.out.mono B3.out.size)⟩
theorem Vy {lo r g : Nat} {A : Option Addr} {c : Nat} {ps : List P2} {L : List zf} {up : T → Option T} (hup : ∀ c k, L.find? (named c) = some k → up c = some k.sup) (hml : L.length ≤ 100000) (hfew : ∀ k ∈ L, k.fields.length ≤ 16 ∧ k.meths.length ≤ 32)
 {q : T} {l : List T} (hw : Zz up q l) : l.length ≤ 41 → ∀ w, RT lo w r g A c ps L → Calls Tryz.prog 98 #[.pointer (some ⟨r, 0, none⟩), .string ⟨q.toArray⟩] w (Xc L q w) := by
 induction hw with
 | @top q hu =>
   intro _ w H
   cases hk : L.find? (named q) with
   | none => exact J2 H hml q hk
   | some k => rw [hup q k hk] at hu; cases hu
 | @step q d l hu hw ih =>
   intro hl w H
   cases hk : L.find? (named q) with
   | none => exact J2 H hml q hk
   | some k =>
     have e : k.sup = d := by
      have := (hup q k hk).symm.trans hu
      injection this
     have hl2 : l.length ≤ 41 := by simp at hl; omega
     refine UG H hml hfew q k hk (YQ hup (Zz.step hu hw) hl hk) (fun W HW => ?_)
     rw [e]
     exact ih hl2 W HW
structure Ups (ps : List P2) (L : List zf) : Prop where
 up : ∀ c k, L.find? (named c) = some k → (mk ps).up c = some k.sup
 few : ∀ k ∈ L, k.fields.length ≤ 16 ∧ k.meths.length ≤ 32
 len : L.length ≤ 32
 way : ∀ c, L.find? (named c) ≠ none → ∃ l, Zz (mk ps).up c l ∧ l.length ≤ 41
 no : ∀ c d, L.find? (named c) = none → (mk ps).up c = some d → L.find? (named d) = none
 ins : ∀ c, L.find? (named c) ≠ none → c ∈ (mk ps).names
theorem YL {lo : Nat} {w : World} {r g : Nat} {A : Option Addr} {c : Nat} {ps : List P2} {L : List zf} (H : RT lo w r g A c ps L) (U : Ups ps L) (q : T) :
 Calls Tryz.prog 98 #[.pointer (some ⟨r, 0, none⟩), .string ⟨q.toArray⟩] w (Xc L q w) := by
 by_cases hk : L.find? (named q) = none
 · exact J2 H (by have := U.len; omega) q hk
 · obtain ⟨l, h1, h2⟩ := U.way q hk
   exact Vy U.up (by have := U.len; omega) U.few h1 h2 w H
theorem Xl {lo : Nat} {w : World} {r g : Nat} {A : Option Addr} {c : Nat} {ps : List P2} {L : List zf} (H : RT lo w r g A c ps L) (U : Ups ps L) (q : T) :
 Calls Tryz.prog 97 #[.pointer (some ⟨r, 0, none⟩), .string ⟨q.toArray⟩] w (Xd L q w) := by
 by_cases hk : L.find? (named q) = none
 · exact JF H (by have := U.len; omega) q hk
 · obtain ⟨l, h1, h2⟩ := U.way q hk
   exact Kt U.up (by have := U.len; omega) U.few h1 h2 w H
theorem kS : (Tryz.prog.info? 138).map (·.size) = some 3 := by kernel_rfl
def tri (w : World) (b : Nat) (v0 v1 v2 : Value) : World := ((w.setCell ⟨b, 0, none⟩ v0).setCell ⟨b, 1, none⟩ v1).setCell ⟨b, 2, none⟩ v2
theorem XO {w : World} {b : Nat} {T : TypeId} {u0 u1 u2 : Value} (h : Bx w b #[u0, u1, u2] T) (v0 v1 v2 : Value) : Bx (tri w b v0 v1 v2) b #[v0, v1, v2] T := ((h.set 0 v0).set 1 v1).set 2 v2
theorem J8 {lo : Nat} {a w : World} (h : Below lo a w) {b : Nat} (hb : lo ≤ b) (v0 v1 v2 : Value) : Below lo a (tri w b v0 v1 v2) :=
 ((h.setCell (p := ⟨b, 0, none⟩) hb v0).setCell (p := ⟨b, 1, none⟩) hb v1).setCell (p := ⟨b, 2, none⟩) hb v2
set_option maxRecDepth 100000 in
set_option maxHeartbeats 4000000 in
theorem Xi {lo : Nat} {w : World} {r g : Nat} {A : Option Addr} {c : Nat} {ps : List P2} {L : List zf} (H : RT lo w r g A c ps L) (U : Ups ps L) (q nm : T) :
 Calls Tryz.prog 65 #[.pointer (some ⟨r, 0, none⟩), .string ⟨q.toArray⟩, .string ⟨nm.toArray⟩] w fun e w' => J5 (hav L q).2 nm e ∧ Below w.heap.size w w' := by
 have hb0 : Below w.heap.size w (w.alloc (.cells #[.string ⟨#[]⟩, .string ⟨#[]⟩, .string ⟨#[]⟩] 138)) := (Below.refl _ _).alloc (Nat.le_refl _) _
 have HH := zH (YL (H.ext hb0) U q)
 have HB := zH hb0
 have HR := zH (Bx.new w #[.string ⟨#[]⟩, .string ⟨#[]⟩, .string ⟨#[]⟩] 138)
 have hm5 := (yO U.few q).2
 clear H U hb0
 go_enter Tryz.func65, Tryz.ntmps65
 go_wp2_with fail
 refine HH.out.mono ?_
 rintro e w1 ⟨v1, rfl, ho1, hb1⟩
 obtain ⟨A1, c1, rfl, _, _, _, _⟩ := zS ho1
 have Hrd := zH (Rds.qU ho1)
 have R1 := zH (HR.out.after hb1)
 have B1 := zH (HB.out.trans (hb1.mono HB.out.size))
 clear ho1 hb1
 generalize hEq : (hav L q).2 = l at *
 have HEq := zH hEq
 clear hEq
 go_wp2_with fail
 have f0 := R1.out.free 0
 have f1 := R1.out.free 1
 have f2 := R1.out.free 2
 have r0 := R1.out.cell 0
 have r1 := R1.out.cell 1
 have r2 := R1.out.cell 2
 go_loopw [9] (fun i wr => ∃ j : Nat, j ≤ l.length ∧ i = .int .i64 j ∧ (∀ x ∈ l.take j, Zl nm x = false) ∧ w1 = wr) (fun i _ => l.length - (intOf i).toNat)
 case atStart => exact ⟨0, Nat.zero_le _, rfl, by simp, rfl⟩
 case round =>
  obtain ⟨j, hj, rfl, hno, rfl⟩ := hrel
  have Hno := zH hno
  clear hno
  by_cases hlt : j < l.length
  · obtain ⟨b, o, rfl, hb, d0, d1, d2⟩ := xU Hrd.out hlt
    have hj1 : (j : Int) < (l.length : Int) := by omega
    have hj0 : (0 : Int) ≤ (j : Int) := by omega
    have Hnext := zH (fun he => TabP.qz (p := Zl nm) hlt Hno.out he)
    have HJ := zH (show ∀ e, Zl nm l[j] = true → e = Ending.returned (.tuple #[.agg #[.string ⟨l[j].name.toArray⟩, .string ⟨l[j].sig.toArray⟩, .string ⟨l[j].cls.toArray⟩], .int .i64 (j : Int)]) → J5 l nm e from fun e h1 he => .inr ⟨j, hlt, U8 hlt Hno.out h1, he⟩)
    generalize l[j] = y at *
    obtain ⟨y0, y1, y2⟩ := y
    simp only at d0 d1 d2 HJ
    cases hq : (y0 == nm)
    · have Hq := zH (Hnext.out (show Zl nm _ = false from hq))
      go_wp2_with fail
      go_roundw
      case rel => exact ⟨j + 1, by omega, by go_num, Hq.out, trivial⟩
      case measure => simp [intOf]; omega
    · have Hq := zH (show Zl nm ⟨y0, y1, y2⟩ = true from hq)
      go_wp2_with fail
      have HW := XO R1.out (.string ⟨y0.toArray⟩) (.string ⟨y1.toArray⟩) (.string ⟨y2.toArray⟩)
      exact bodyPost_ret (v := .tuple #[.agg #[.string ⟨y0.toArray⟩, .string ⟨y1.toArray⟩, .string ⟨y2.toArray⟩], .int .i64 (j : Int)]) (zX Tryz.results65 _ _ _ _ rfl (run_loadVar_row _ _ _ _ #[.string ⟨y0.toArray⟩, .string ⟨y1.toArray⟩, .string ⟨y2.toArray⟩] (0, 0) _ HW Tryz.underlying138 rfl kS)) rfl ⟨by rw [HEq.out]; exact HJ.out _ Hq.out rfl, J8 B1.out (Nat.le_refl _) _ _ _⟩
  · have hn := zH (Yo (p := Zl nm) (l := l) (by have := Hno.out; rw [List.take_of_length_le (by omega)] at this; exact this))
    go_wp2_with fail
    have HW := XO R1.out (.string ⟨#[]⟩) (.string ⟨#[]⟩) (.string ⟨#[]⟩)
    exact bodyPost_ret (v := .tuple #[.agg #[.string ⟨#[]⟩, .string ⟨#[]⟩, .string ⟨#[]⟩], .int .i64 (-1)]) (zX Tryz.results65 _ _ _ _ rfl (run_loadVar_row _ _ _ _ #[.string ⟨#[]⟩, .string ⟨#[]⟩, .string ⟨#[]⟩] (0, 0) _ HW Tryz.underlying138 rfl kS)) rfl ⟨by rw [HEq.out]; exact .inl ⟨hn.out, rfl⟩, J8 B1.out (Nat.le_refl _) _ _ _⟩
end TabQ
end Go.Proofs.YtehainbhoflpnaaGreatDoor
