/- pieces -/
import Derived.Test.YtehainbhoflpnaaGreatDoorK27
namespace Go.Proofs.YtehainbhoflpnaaGreatDoor
namespace TabJ
open Go.RowKit Base BinM Stru DescM DescW DescX DescR DescS DescG DescP DescQ HierS HierT HierM HierC HierD HierN HierV HierR HierU HierQ Kls KlsP KlsQ OpenK TabC TabM TabK TabP TabE TabB TabG TabH TabT TabU TabV TabX TabW TabF TabN TabO TabY TabI TabR TabQ TabD
set_option maxRecDepth 100000 in
set_option maxHeartbeats 16000000 in
theorem G9 {lo : Nat} {w : World} {r g : Nat} {A : Option Addr} {c : Nat} {ps : List P2} {L : List zf} (H : RT lo w r g A c ps L) (U : Ups ps L) (hC : HierQ.Can ps) (x : zf) (hx : x.is w) (hl : zf.lt x) :
 Calls Tryz.prog 41 #[.pointer (some ⟨r, 0, none⟩), x.V] w fun e w' => e = .returned (.int .i64 (qL (mk ps) L x)) ∧ Below w.heap.size w w' := by
 have HT := zH (fun (W : World) (hb : Below w.heap.size w W) => H.ext hb)
 have HFd := zH (fun (W : World) (hb : Below w.heap.size w W) (nm : T) => U9 (H.ext hb) U hC x.sup nm)
 have HMt := zH (fun (W : World) (hb : Below w.heap.size w W) (nm : T) => Xi (H.ext hb) U x.sup nm)
 have HLy := zH (fun (W : World) (hb : Below w.heap.size w W) => Xl (H.ext hb) U x.name)
 have HMy := zH (fun (W : World) (hb : Below w.heap.size w W) => YL (H.ext hb) U x.name)
 have HKn := zH (fun (W : World) (hb : Below w.heap.size w W) (d : T) (hd : d.length ≤ 140737488351232) => QL lo g ps d W (H.ext hb).hier (by omega))
 have HFr := zH (fun (W : World) (hb : Below w.heap.size w W) => hx.fields.rds.below hb)
 have HMr := zH (fun (W : World) (hb : Below w.heap.size w W) => hx.meths.rds.below hb)
 have HLf := zH hl.fields
 have HLm := zH hl.meths
 have hk1 : x.fm = x.fields.length := hx.fields.len
 have hk2 : x.mm = x.meths.length := hx.meths.len
 have hk3 : x.fm ≤ 2 ^ 63 - 1 := by have := hx.fields.le; have := hx.fields.max; unfold maxLen at *; omega
 have hk4 : x.mm ≤ 2 ^ 63 - 1 := by have := hx.meths.le; have := hx.meths.max; unfold maxLen at *; omega
 have HE1 := zH (fun (e : Int) => @vO (mk ps) L x e)
 have HE2 := zH (@KM (mk ps) L x)
 have HE3 := zH (fun (e : Int) => @KN (mk ps) L x e)
 have HE4 := zH (@KO (mk ps) L x)
 have HfE := zH (show ∀ i y, ffE (mk ps) L x i y = if (mk ps).known y.desc = false then 10 else if 0 ≤ zD (zY y.name) (hav L x.sup).1 then 8 else 0 from fun _ _ => rfl)
 have HmE := zH (show ∀ i y, fmE (mk ps) L x i y = if Uz (mk ps) y.sig = false then 10 else if YK (hav L x.sup).2 y = true then 15 else 0 from fun _ _ => rfl)
 have hl5 := yO U.few x.name
 have hb1 : Below w.heap.size w (w.alloc (.cells #[.string ⟨x.name.toArray⟩, .string ⟨x.sup.toArray⟩, .slice x.kA x.km x.kc, .slice x.fA x.fm x.fc, .slice x.mA x.mm x.mc] 81)) := (Below.refl _ _).alloc (Nat.le_refl _) _
 have HB1 := zH hb1
 have HX := zH (Bx.new w #[.string ⟨x.name.toArray⟩, .string ⟨x.sup.toArray⟩, .slice x.kA x.km x.kc, .slice x.fA x.fm x.fc, .slice x.mA x.mm x.mc] 81)
 clear H U hC hx hl hb1
 generalize hff : ffE (mk ps) L x = FE at *
 generalize hmm : fmE (mk ps) L x = ME at *
 generalize hft : qL (mk ps) L x = FT at *
 unfold Xd at HLy
 unfold Xc at HMy
 generalize hhv : hav L x.sup = SU at *
 generalize hhn : hav L x.name = SN at *
 clear hff hmm hft hhv hhn
 obtain ⟨hs1, hs2⟩ := hl5
 obtain ⟨x0, x1, kA, km, kc, fA, fm, fc, mA, mm, mc, ks, fs, ms⟩ := x
 simp only [zf.V] at *
 subst hk1
 subst hk2
 go_enter Tryz.func41, Tryz.ntmps41
 have x0 := HX.out.cell 3
 have hxl0 := HX.out.lt
 go_wp2_with fail
 clear x0 hxl0
 have HS1 := zH (show w.heap.size ≤ (w.alloc (.cells #[.string ⟨x0.toArray⟩, .string ⟨x1.toArray⟩, .slice kA km kc, .slice fA fs.length fc, .slice mA ms.length mc] 81)).heap.size from by simp)
 generalize (w.alloc (.cells #[.string ⟨x0.toArray⟩, .string ⟨x1.toArray⟩, .slice kA km kc, .slice fA fs.length fc, .slice mA ms.length mc] 81)) = W1 at *
 have Z1 := zH (Below.refl W1.heap.size W1)
 go_loopw [5] (fun i wr => ∃ j : Nat, j ≤ fs.length ∧ i = .int .i64 j ∧ (∀ k (hk : k < fs.length), k < j → FE k fs[k] = 0) ∧ Below W1.heap.size W1 wr) (fun i _ => fs.length - (intOf i).toNat)
 case atStart => exact ⟨0, Nat.zero_le _, rfl, fun k _ hk => absurd hk (Nat.not_lt_zero k), Z1.out⟩
 case round =>
  obtain ⟨j, hj, rfl, hno, hbel⟩ := hrel
  have Hno := zH hno
  have hbw := HB1.out.trans (hbel.mono HS1.out)
  have Hbw := zH hbw
  have X1 := zH (HX.out.after hbel)
  have hgx := X1.out.lt
  have c3 := X1.out.cell 3
  clear hno
  by_cases hlt : j < fs.length
  · obtain ⟨b1, o1, hA, hb1, hc0, hc1⟩ := JI (HFr.out wr hbw) hlt
    subst hA
    have hj1 : (j : Int) < (fs.length : Int) := by omega
    have hj0 : (0 : Int) ≤ (j : Int) := by omega
    have Hbad := zH (fun he => qp (f := FE) hlt (fun i hi h => Hno.out i hi h) he)
    have Hnext := zH (fun he => ZX (f := FE) (fun i hi h => Hno.out i hi h) hlt he)
    have HfE1 := zH (HfE.out j fs[j])
    have HLd := zH (HLf.out _ (List.getElem_mem hlt))
    have hbox := (HT.out _ hbw).box
    have b0 := hbox.cell 0
    have hgl := hbox.lt
    have c1 := X1.out.cell 1
    have Hbel := zH hbel
    have HK := zH (fun (n : Nat) (hd : fs[j].desc.length ≤ 140737488351232) => (HKn.out _ (Stru.drawn Hbw.out n) fs[j].desc hd).mono (R' := fun e w' => e = .returned (.bool ((mk ps).known fs[j].desc)) ∧ w' = _) fun e w' ⟨h1, h2⟩ => ⟨h1, h2.symm⟩)
    clear hbel hbw hbox
    generalize hFJ : FE j fs[j] = FJ at *
    clear hFJ
    generalize fs[j] = y at *
    obtain ⟨nm, ds⟩ := y
    simp only at hc0 hc1 HfE1 HLd HK
    cases hkn : (mk ps).known ds
    · have Hq := zH (show FJ = 10 from by rw [HfE1.out, if_pos hkn])
      rw [hkn] at HK
      clear hkn
      go_wp2_with fail
      go_quiet ((go_at_call 59; exact Calls.quiet_of_same (HK.out _ (by have := HLd.out.2; omega))))
      go_wp2_with fail
      go_ret
      exact ⟨KlsP.zJ (HE1.out 10 (by have := Hbad.out (by rw [Hq.out]; decide); rw [this, Hq.out]) (by decide)).symm, Stru.drawn Hbw.out _⟩
    · rw [hkn] at HK HfE1
      clear hkn
      go_wp2_with fail
      go_quiet ((go_at_call 59; exact Calls.quiet_of_same (HK.out _ (by have := HLd.out.2; omega))))
      go_wp2_with fail
      have XQ := zH (show Bx (wr.drewN nq) w.heap.size #[.string ⟨x0.toArray⟩, .string ⟨x1.toArray⟩, .slice kA km kc, .slice (some ⟨b1, o1, none⟩) fs.length fc, .slice mA ms.length mc] 81 from X1.out)
      have NQ := zH (show (wr.drewN nq).cell? ⟨b1, o1 + j * 2, none⟩ = some (.string ⟨nm.toArray⟩) from hc0)
      have lQ : b1 < (wr.drewN nq).heap.size := hb1
      have BQ := zH (Stru.drawn Hbw.out nq)
      have ZQ := zH (Stru.drawn Hbel.out nq)
      clear hc0 hc1 c1 c3 b0 hgx hgl hb1
      generalize wr.drewN nq = WQ at *
      have c1 := XQ.out.cell 1
      have c3 := XQ.out.cell 3
      have hgx := XQ.out.lt
      have nc := NQ.out
      have ne1 : ¬ w.heap.size = WQ.heap.size := by omega
      have ne2 : ¬ WQ.heap.size = w.heap.size := by omega
      have ne3 : ¬ b1 = WQ.heap.size := by omega
      have ne4 : ¬ WQ.heap.size = b1 := by omega
      have HFn := zH (fun (W : World) (hb : Below w.heap.size w W) => (HFd.out W hb nm).mono (R' := fun e w' => ∃ sa sb ss : ByteArray, e = .returned (.tuple #[.agg #[.string sa, .string sb], .string ss, .int .i64 (zD (zY nm) SU.1)]) ∧ Below W.heap.size W w') fun e w' h => by
       obtain ⟨sa, sb, ss, h1⟩ := ze6 h.1
       exact ⟨sa, sb, ss, h1, h.2⟩)
      generalize zD (zY nm) SU.1 = F at *
      by_cases hF : 0 ≤ F
      · have Hq := zH (show FJ = 8 from by rw [HfE1.out, if_neg (by simp), if_pos hF])
        go_region_held3 (fun w' => w'.cell? ⟨w.heap.size, 1, none⟩ = some (.string ⟨x1.toArray⟩) ∧ w'.cell? ⟨w.heap.size, 3, none⟩ = some (.slice (some ⟨b1, o1, none⟩) fs.length fc) ∧ w'.cell? ⟨b1, o1 + j * 2, none⟩ = some (.string ⟨nm.toArray⟩)) (go_keep)
         (first
          | (go_at_call 63; refine (HFn.out _ (BQ.out.drew.alloc BQ.out.drew.size _)).mono ?_; rintro e w3 ⟨sa, sb, ss, rfl, hb3⟩; have OB := zH (show Bx w3 WQ.heap.size #[.string ⟨#[]⟩, .string ⟨#[]⟩] 125 from (Bx.new WQ.drew #[.string ⟨#[]⟩, .string ⟨#[]⟩] 125).after hb3); have lOB := OB.out.lt; have p0 := OB.out.cell 0; have p1 := OB.out.cell 1; have g0 := OB.out.free 0; have g1 := OB.out.free 1; have E3 := zH ((BQ.out.drew.alloc BQ.out.drew.size _).trans (hb3.mono (BQ.out.drew.alloc BQ.out.drew.size _).size)); have F3 := zH ((ZQ.out.drew.alloc ZQ.out.drew.size _).trans (hb3.mono (ZQ.out.drew.alloc ZQ.out.drew.size _).size)); have X3 := zH (Bx.after (w := WQ.drew.alloc (.cells #[.string ⟨#[]⟩, .string ⟨#[]⟩] 125)) (Bx.after (w := WQ.drew) XQ.out ((Below.refl _ _).alloc (Nat.le_refl _) _)) hb3); have k1 := X3.out.cell 1; have k3 := X3.out.cell 3; have knm : w3.cell? ⟨b1, o1 + j * 2, none⟩ = some (.string ⟨nm.toArray⟩) := ((((Below.refl WQ.drew.heap.size WQ.drew).alloc (Nat.le_refl _) _).trans (hb3.mono (by simp))).cell (p := ⟨b1, o1 + j * 2, none⟩) lQ).trans NQ.out; clear hb3)
          | (go_at_call 63; refine (HFn.out _ BQ.out.drew).mono ?_; rintro e w3 ⟨sa, sb, ss, rfl, hb3⟩; have E3 := zH (BQ.out.drew.trans (hb3.mono BQ.out.drew.size)); have F3 := zH (ZQ.out.drew.trans (hb3.mono ZQ.out.drew.size)); have X3 := zH (Bx.after (w := WQ.drew) XQ.out hb3); have k1 := X3.out.cell 1; have k3 := X3.out.cell 3; have lX := X3.out.lt; have l3 : b1 < w3.heap.size := Nat.lt_of_lt_of_le lQ hb3.size; have knm : w3.cell? ⟨b1, o1 + j * 2, none⟩ = some (.string ⟨nm.toArray⟩) := (hb3.cell (p := ⟨b1, o1 + j * 2, none⟩) lQ).trans NQ.out; clear hb3))
        all_goals
         go_wp2_with fail
         go_ret
         first
          | exact ⟨KlsP.zJ (HE1.out 8 (by have := Hbad.out (by rw [Hq.out]; decide); rw [this, Hq.out]) (by decide)).symm, E3.out.alloc E3.out.size _⟩
          | exact ⟨KlsP.zJ (HE1.out 8 (by have := Hbad.out (by rw [Hq.out]; decide); rw [this, Hq.out]) (by decide)).symm, (E3.out.setCell (p := ⟨WQ.heap.size, 0, none⟩) BQ.out.size _).setCell (p := ⟨WQ.heap.size, 1, none⟩) BQ.out.size _⟩
      · have Hq := zH (Hnext.out (by rw [HfE1.out, if_neg (by simp), if_neg hF]))
        go_region_held3 (fun w' => w'.cell? ⟨w.heap.size, 1, none⟩ = some (.string ⟨x1.toArray⟩) ∧ w'.cell? ⟨w.heap.size, 3, none⟩ = some (.slice (some ⟨b1, o1, none⟩) fs.length fc) ∧ w'.cell? ⟨b1, o1 + j * 2, none⟩ = some (.string ⟨nm.toArray⟩)) (go_keep)
         (first
          | (go_at_call 63; refine (HFn.out _ (BQ.out.drew.alloc BQ.out.drew.size _)).mono ?_; rintro e w3 ⟨sa, sb, ss, rfl, hb3⟩; have OB := zH (show Bx w3 WQ.heap.size #[.string ⟨#[]⟩, .string ⟨#[]⟩] 125 from (Bx.new WQ.drew #[.string ⟨#[]⟩, .string ⟨#[]⟩] 125).after hb3); have lOB := OB.out.lt; have p0 := OB.out.cell 0; have p1 := OB.out.cell 1; have g0 := OB.out.free 0; have g1 := OB.out.free 1; have E3 := zH ((BQ.out.drew.alloc BQ.out.drew.size _).trans (hb3.mono (BQ.out.drew.alloc BQ.out.drew.size _).size)); have F3 := zH ((ZQ.out.drew.alloc ZQ.out.drew.size _).trans (hb3.mono (ZQ.out.drew.alloc ZQ.out.drew.size _).size)); have X3 := zH (Bx.after (w := WQ.drew.alloc (.cells #[.string ⟨#[]⟩, .string ⟨#[]⟩] 125)) (Bx.after (w := WQ.drew) XQ.out ((Below.refl _ _).alloc (Nat.le_refl _) _)) hb3); have k1 := X3.out.cell 1; have k3 := X3.out.cell 3; have knm : w3.cell? ⟨b1, o1 + j * 2, none⟩ = some (.string ⟨nm.toArray⟩) := ((((Below.refl WQ.drew.heap.size WQ.drew).alloc (Nat.le_refl _) _).trans (hb3.mono (by simp))).cell (p := ⟨b1, o1 + j * 2, none⟩) lQ).trans NQ.out; clear hb3)
          | (go_at_call 63; refine (HFn.out _ BQ.out.drew).mono ?_; rintro e w3 ⟨sa, sb, ss, rfl, hb3⟩; have E3 := zH (BQ.out.drew.trans (hb3.mono BQ.out.drew.size)); have F3 := zH (ZQ.out.drew.trans (hb3.mono ZQ.out.drew.size)); have X3 := zH (Bx.after (w := WQ.drew) XQ.out hb3); have k1 := X3.out.cell 1; have k3 := X3.out.cell 3; have lX := X3.out.lt; have l3 : b1 < w3.heap.size := Nat.lt_of_lt_of_le lQ hb3.size; have knm : w3.cell? ⟨b1, o1 + j * 2, none⟩ = some (.string ⟨nm.toArray⟩) := (hb3.cell (p := ⟨b1, o1 + j * 2, none⟩) lQ).trans NQ.out; clear hb3))
        all_goals
         go_wp2_with fail
         go_roundw
         case rel =>
          first
           | exact ⟨j + 1, by omega, by go_num, Hq.out, F3.out.alloc F3.out.size _⟩
           | exact ⟨j + 1, by omega, by go_num, Hq.out, (F3.out.setCell (p := ⟨WQ.heap.size, 0, none⟩) ZQ.out.size _).setCell (p := ⟨WQ.heap.size, 1, none⟩) ZQ.out.size _⟩
         case measure => simp [intOf]; omega
  · have hjm : j = fs.length := by omega
    have HZ := zH (ZW (f := FE) (l := fs) (fun i hi => Hno.out i hi (by omega)))
    have x0c := X1.out.cell 0
    clear hbel hbw
    go_wp2_with fail
    refine (HLy.out _ Hbw.out).mono ?_
    rintro e w3 ⟨v3, rfl, ho3, hb3⟩
    obtain ⟨A3, c3', rfl, _, _, _, _⟩ := zS ho3
    rw [List.length_map]
    have HB3 := zH (Hbw.out.trans (hb3.mono Hbw.out.size))
    have X3 := zH (X1.out.after hb3)
    clear ho3 hb3 hgx c3 x0c
    by_cases h16 : 16 < SN.1.length
    · have h16' : (16 : Int) < (SN.1.length : Int) := by omega
      have Hq := zH (HE2.out HZ.out h16)
      go_wp2_with fail
      go_ret
      exact ⟨KlsP.zJ Hq.out.symm, HB3.out⟩
    · have h16' : ¬ (16 : Int) < (SN.1.length : Int) := by omega
      have H16 := zH h16
      clear h16
      go_wp2_with fail
      have Z3 := zH (Below.refl w3.heap.size w3)
      go_loopw [9] (fun i wr => ∃ j : Nat, j ≤ ms.length ∧ i = .int .i64 j ∧ (∀ k (hk : k < ms.length), k < j → ME k ms[k] = 0) ∧ Below w3.heap.size w3 wr) (fun i _ => ms.length - (intOf i).toNat)
      case atStart => exact ⟨0, Nat.zero_le _, rfl, fun k _ hk => absurd hk (Nat.not_lt_zero k), Z3.out⟩
      case round =>
       clear Hbw Hno X1 hlt
       obtain ⟨j, hj, rfl, hno, hbel⟩ := hrel
       have Hno := zH hno
       have hbw := HB3.out.trans (hbel.mono HB3.out.size)
       have Hbw := zH hbw
       have X1 := zH (X3.out.after hbel)
       have hgx := X1.out.lt
       have c4 := X1.out.cell 4
       clear hno
       by_cases hlt : j < ms.length
       · obtain ⟨b1, o1, hA, hb1, hc0, hc1, hc2, hc3, hc4⟩ := jY (HMr.out _ hbw) hlt
         subst hA
         have hj1 : (j : Int) < (ms.length : Int) := by omega
         have hj0 : (0 : Int) ≤ (j : Int) := by omega
         have Hbad := zH (fun he => qp (f := ME) hlt (fun i hi h => Hno.out i hi h) he)
         have Hnext := zH (fun he => ZX (f := ME) (fun i hi h => Hno.out i hi h) hlt he)
         have HmE1 := zH (HmE.out j ms[j])
         have HLd := zH (HLm.out _ (List.getElem_mem hlt))
         have Hbel := zH hbel
         clear hbel hbw
         generalize hFJ : ME j ms[j] = FJ at *
         clear hFJ
         generalize ms[j] = z at *
         obtain ⟨z0, z1, z2, zA, zm, zc, zhA, zhm, zhc, zcode, zhand⟩ := z
         simp only at hc0 hc1 hc2 hc3 hc4 HmE1
         have hz1 : z1.length ≤ 140737488351232 := HLd.out.sig
         have HB4 := zH (Hbw.out.alloc Hbw.out.size (.cells #[.string ⟨z0.toArray⟩, .string ⟨z1.toArray⟩, .int .i64 z2, .slice zA zm zc, .slice zhA zhm zhc] 85))
         have ZB := zH (Bx.new wr #[.string ⟨z0.toArray⟩, .string ⟨z1.toArray⟩, .int .i64 z2, .slice zA zm zc, .slice zhA zhm zhc] 85)
         have HSp := zH (jm z1 (wr.alloc (.cells #[.string ⟨z0.toArray⟩, .string ⟨z1.toArray⟩, .int .i64 z2, .slice zA zm zc, .slice zhA zhm zhc] 85)) (by omega))
         have XA := zH (X1.out.after ((Below.refl _ _).alloc (Nat.le_refl _) (.cells #[.string ⟨z0.toArray⟩, .string ⟨z1.toArray⟩, .int .i64 z2, .slice zA zm zc, .slice zhA zhm zhc] 85)))
         have HL4 := zH (Hbel.out.alloc Hbel.out.size (.cells #[.string ⟨z0.toArray⟩, .string ⟨z1.toArray⟩, .int .i64 z2, .slice zA zm zc, .slice zhA zhm zhc] 85))
         have Hlen := zH (Jb z1)
         have Hsk := zH (show Uz (mk ps) z1 = ((zy z1).2.1.all (mk ps).known && ((zy z1).1 == [86] || (mk ps).known (zy z1).1)) from rfl)
         clear hgx
         go_wp2_with fail
         refine HSp.out.mono ?_
         rintro e w5 ⟨v5, rfl, hown5, hb5⟩
         obtain ⟨B5, cap5, rfl, hq1, hq2, hrd5, _⟩ := hown5.slice
         have hmx := Nat.le_trans hq1 hq2
         unfold maxLen at hmx
         have HB5 := zH (HB4.out.trans (hb5.mono HB4.out.size))
         have HL5 := zH (HL4.out.trans (hb5.mono HL4.out.size))
         have ZB5 := zH (ZB.out.after hb5)
         have X5 := zH (XA.out.after hb5)
         have R5 := zH hrd5
         clear hown5 hb5 hrd5 hq1 hq2 hc0 hc1 hc2 hc3 hc4 c4
         generalize zy z1 = S at *
         obtain ⟨gv, tk, er⟩ := S
         simp only at Hsk Hlen R5 hmx
         unfold str
         simp only
         have HKg := zH (HKn.out _ HB5.out gv (by have := Hlen.out.1; omega))
         have Z5 := zH (Below.refl w5.heap.size w5)
         have hbq := (HT.out _ HB5.out).box
         have b0q := hbq.cell 0
         have hglq := hbq.lt
         clear hbq
         rcases (show (gv == [86]) = true ∨ ((gv == [86]) = false ∧ (mk ps).known gv = true) ∨ ((gv == [86]) = false ∧ (mk ps).known gv = false) from by cases gv == [86] <;> cases (mk ps).known gv <;> simp) with hV | ⟨hV, hK⟩ | ⟨hV, hK⟩
         rotate_left 2
         · rw [hK] at HKg
           have hV2 : (!(gv == [86])) = true := by rw [hV]; rfl
           have Hq := zH (show FJ = 10 from by rw [HmE1.out, if_pos (by rw [Hsk.out, hV, hK]; simp)])
           clear hK
           go_wp2_with (go_at_call 59; refine HKg.out.mono ?_; rintro e w' ⟨rfl, rfl⟩)
           go_ret
           exact ⟨KlsP.zJ (HE3.out 10 HZ.out H16.out (by have := Hbad.out (by rw [Hq.out]; decide); rw [this, Hq.out]) (by decide)).symm, HB5.out⟩
         all_goals
          have HG := zH (show (gv == [86] || (mk ps).known gv) = true from by first | (rw [hV]; rfl) | (rw [hV, hK]; rfl))
          have hV2 : (!(gv == [86])) = false ∨ (!(gv == [86])) = true := by first | (left; rw [hV]; rfl) | (right; rw [hV]; rfl)
          rcases hV2 with hV2 | hV2
          all_goals first
           | (exfalso; rw [hV] at hV2; cases hV2; done)
           | skip
          all_goals
           try rw [hK] at HKg
           try clear hK
           go_wp2_with (go_at_call 59; refine HKg.out.mono ?_; rintro e w' ⟨rfl, rfl⟩)
           clear hV hV2 b0q hglq
           go_loopw [14] (fun i wx => ∃ k : Nat, k ≤ tk.length ∧ i = .int .i64 k ∧ (∀ y ∈ tk.take k, (mk ps).known y = true) ∧ Below w5.heap.size w5 wx) (fun i _ => tk.length - (intOf i).toNat)
           case atStart => exact ⟨0, Nat.zero_le _, rfl, by simp, Z5.out⟩
           case round =>
            obtain ⟨k, hk, rfl, hnk, hbx⟩ := hrel
            have Hnk := zH hnk
            have Hbx := zH hbx
            have HBx := zH (HB5.out.trans (hbx.mono HB5.out.size))
            clear hnk
            by_cases hlk : k < tk.length
            · obtain ⟨b2, o2, hA2, hb2, hc⟩ := (R5.out.below hbx).at_ (k := k) (by simpa using hlk)
              rw [List.getElem_map] at hc
              subst hA2
              have hk1 : (k : Int) < (tk.length : Int) := by omega
              have hk0 : (0 : Int) ≤ (k : Int) := by omega
              have hbq := (HT.out _ HBx.out).box
              have b0 := hbq.cell 0
              have hgl := hbq.lt
              have hdl := Hlen.out.2 _ (List.getElem_mem hlk)
              have HK := zH (fun (n : Nat) => (HKn.out _ (Stru.drawn HBx.out n) tk[k] (by omega)).mono (R' := fun e w' => e = .returned (.bool ((mk ps).known tk[k])) ∧ w' = _) fun e w' ⟨h1, h2⟩ => ⟨h1, h2.symm⟩)
              have Hnext2 := zH (fun he => gU (p := (mk ps).known) hlk Hnk.out he)
              have Hbad2 := zH (show (mk ps).known tk[k] = false → Uz (mk ps) z1 = false from fun he => by
               rw [Hsk.out]
               have : tk.all (mk ps).known = false := by rw [List.all_eq_false]; exact ⟨tk[k], List.getElem_mem hlk, by rw [he]; simp⟩
               rw [this]; rfl)
              clear hbx hbq hdl
              generalize tk[k] = d at *
              unfold str at hc
              cases hkd : (mk ps).known d
              · have Hq := zH (show FJ = 10 from by rw [HmE1.out, if_pos (Hbad2.out hkd)])
                rw [hkd] at HK
                clear hkd
                go_wp2_with fail
                go_quiet ((go_at_call 59; exact Calls.quiet_of_same (HK.out _)))
                go_wp2_with fail
                go_ret
                exact ⟨KlsP.zJ (HE3.out 10 HZ.out H16.out (by have := Hbad.out (by rw [Hq.out]; decide); rw [this, Hq.out]) (by decide)).symm, Stru.drawn HBx.out _⟩
              · have Hq := zH (Hnext2.out hkd)
                rw [hkd] at HK
                clear hkd
                go_wp2_with fail
                go_quiet ((go_at_call 59; exact Calls.quiet_of_same (HK.out _)))
                go_wp2_with fail
                go_roundw
                case rel => exact ⟨k + 1, by omega, by go_num, Hq.out, Stru.drawn Hbx.out _⟩
                case measure => simp [intOf]; omega
            · have hall : tk.all (mk ps).known = true := by
               rw [List.all_eq_true]
               have := Hnk.out
               rw [List.take_of_length_le (by omega)] at this
               exact this
              have HS := zH (show Uz (mk ps) z1 = true from by rw [Hsk.out, hall, HG.out]; rfl)
              have ZBx := zH (ZB5.out.after hbx)
              have Xx := zH (X5.out.after hbx)
              have HLx := zH (HL5.out.trans (hbx.mono HL5.out.size))
              have x5c := Xx.out.cell 1
              have zc0 := ZBx.out.cell 0
              have xlt := Xx.out.lt
              have zlt0 := ZBx.out.lt
              clear hbx hall
              go_wp2_with fail
              refine (HMt.out _ HBx.out z0).mono ?_
              rintro e w6 ⟨hgv, hb6⟩
              obtain ⟨sa, sb, ss, at_, rfl, hor⟩ := ze7 (m := ⟨z0, z1, z2, zA, zm, zc, zhA, zhm, zhc, zcode, zhand⟩) hgv
              have HB6 := zH (HBx.out.trans (hb6.mono HBx.out.size))
              have HL6 := zH (HLx.out.trans (hb6.mono HLx.out.size))
              have ZB6 := zH (ZBx.out.after hb6)
              have zc1 := ZB6.out.cell 1
              have zlt := ZB6.out.lt
              rw [HS.out] at HmE1
              simp only at hor
              clear hgv hb6 x5c zc0 xlt zlt0
              generalize YK SU.2 _ = OV at *
              rcases hor with ⟨rfl, rfl⟩ | ⟨hat, hov⟩
              · have Hq := zH (Hnext.out (by rw [HmE1.out, if_neg (by simp), if_neg (by simp)]))
                go_wp2_with fail
                go_roundw
                case rel => exact ⟨j + 1, by omega, by go_num, Hq.out, HL6.out.alloc HL6.out.size _⟩
                case measure => simp [intOf]; omega
              · cases hq : (sb == z1)
                · rw [hq] at hov
                  have Hq := zH (show FJ = 15 from by rw [HmE1.out, if_neg (by simp), if_pos (by rw [hov]; rfl)])
                  have hq2 : (!(sb == z1)) = true := by rw [hq]; rfl
                  clear hov
                  go_wp2_with fail
                  go_ret
                  exact ⟨KlsP.zJ (HE3.out 15 HZ.out H16.out (by have := Hbad.out (by rw [Hq.out]; decide); rw [this, Hq.out]) (by decide)).symm, HB6.out.alloc HB6.out.size _⟩
                · rw [hq] at hov
                  have Hq := zH (Hnext.out (by rw [HmE1.out, if_neg (by simp), if_neg (by rw [hov]; simp)]))
                  have hq2 : (!(sb == z1)) = false := by rw [hq]; rfl
                  clear hov
                  go_wp2_with fail
                  go_roundw
                  case rel => exact ⟨j + 1, by omega, by go_num, Hq.out, HL6.out.alloc HL6.out.size _⟩
                  case measure => simp [intOf]; omega
       · have hjm : j = ms.length := by omega
         have HZ2 := zH (ZW (f := ME) (l := ms) (fun i hi => Hno.out i hi (by omega)))
         have x0c := X1.out.cell 0
         clear hbel hbw
         go_wp2_with fail
         refine (HMy.out _ Hbw.out).mono ?_
         rintro e w7 ⟨v7, rfl, ho7, hb7⟩
         obtain ⟨A7, c7, rfl, _, _, _, _⟩ := zS ho7
         have HB7 := zH (Hbw.out.trans (hb7.mono Hbw.out.size))
         clear ho7 hb7
         by_cases h32 : 32 < SN.2.length
         · have h32' : (32 : Int) < (SN.2.length : Int) := by omega
           have Hq := zH (show FT = 6 from by rw [HE4.out HZ.out H16.out HZ2.out, if_pos h32])
           go_wp2_with fail
           go_ret
           exact ⟨KlsP.zJ Hq.out.symm, HB7.out⟩
         · have h32' : ¬ (32 : Int) < (SN.2.length : Int) := by omega
           have Hq := zH (show FT = 0 from by rw [HE4.out HZ.out H16.out HZ2.out, if_neg h32])
           go_wp2_with fail
           go_ret
           exact ⟨KlsP.zJ Hq.out.symm, HB7.out⟩
end TabJ
end Go.Proofs.YtehainbhoflpnaaGreatDoor
