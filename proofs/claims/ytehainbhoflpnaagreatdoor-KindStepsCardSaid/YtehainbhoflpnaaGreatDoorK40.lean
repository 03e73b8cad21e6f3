/- pieces -/
import Derived.Test.YtehainbhoflpnaaGreatDoorK39
import Derived.Test.YtehainbhoflpnaaGreatDoorK36
namespace Go.Proofs.YtehainbhoflpnaaGreatDoor
namespace KrH
open Go.RowKit Base BinM Stru DescM DescW DescX DescS DescG DescP DescQ HierS HierT HierM HierC HierD HierN HierV HierR HierU HierY HierQ Kls KlsP KlsQ OpenK TabC TabM TabK TabP TabE TabB TabG TabH TabT TabU TabV TabX TabW TabF TabN TabO TabY TabR TabQ TabL KndM KndS KrS KrA KrP KrB KrC KrD
open KndP (Qv)
open KndW (mtE qI QV jh)
open KndY (kJ XP JA)
theorem QD {w : World} {b r : Nat} {s : RS} {lo g : Nat} {ps : List P2} (h : Sk w b r s.1 s.2) (hf : Few 900 s) (H : TbR lo w r g ps) (hb : lo ≤ b) (d : T) (hd : d.length ≤ 140737488355328) : Calls Tryz.prog 64 #[.pointer (some ⟨b, 0, none⟩), .string ⟨d.toArray⟩] w (zw w b r (Zd (mk ps) d s)) := yu h H hb (by have := hf.1; omega) (yw hf) d hd
theorem VR (l : T) : (ByteArray.mk #[76] ++ ⟨l.toArray⟩ ++ ByteArray.mk #[59]) = ⟨(ofT l).toArray⟩ := by
 rw [show (ByteArray.mk #[76]) = ByteArray.mk [76].toArray from rfl, show (ByteArray.mk #[59]) = ByteArray.mk [59].toArray from rfl, JM, JM]; rfl
def mtB (E : T → List zG) (S T' U : T) : Bool := decide (0 ≤ Ze (Zl T') (E S)) && (mtE (E S) T').sig == U
def ZV (h : Hr) (ts : List T) (s : RS) : RS := ts.foldr (fun d s => Zd h d s) s
def jk (gs : T) (s : RS) : RS := if (gs == [86]) = true then s else zC gs s
theorem Qr {n : Nat} {h : Hr} {s : RS} (hf : Few n s) : ∀ ts : List T, Few n (ZV h ts s)
 | [] => hf
 | d :: ts => (Qr hf ts).fits h d
theorem U4 {h : Hr} {ts : List T} {s : RS} {j : Nat} (hj : j < ts.length) : ZV h (ts.drop j) s = Zd h ts[j] (ZV h (ts.drop (j + 1)) s) := by
 rw [List.drop_eq_getElem_cons hj]; rfl
set_option maxRecDepth 100000 in
set_option maxHeartbeats 8000000 in
theorem zk9 {lo g : Nat} {ps : List P2} {F : T → List zG} {w : World} {b r : Nat} {s : RS} (h : Sk w b r s.1 s.2) (hf : Few 800 s) (kk nn : Int) (S T' U : T) (hS : S.length ≤ 140737488351232) (hU : U.length ≤ 140737488351232) (H : TbR lo w r g ps) (hb : lo ≤ b)
 (HM : ∀ W, Below lo w W → Calls Tryz.prog 65 #[.pointer (some ⟨r, 0, none⟩), .string ⟨S.toArray⟩, .string ⟨T'.toArray⟩] W fun e w' => J5 (F S) T' e ∧ Below W.heap.size W w') :
 Calls Tryz.prog 30 #[.pointer (some ⟨b, 0, none⟩), .int .i64 32, .agg #[.int .i64 kk, .int .i64 nn, .string ⟨S.toArray⟩, .string ⟨T'.toArray⟩, .string ⟨U.toArray⟩]] w (zw w b r (jk (zy U).1 (Zd (mk ps) (ofT S) (ZV (mk ps) (zy U).2.1 (zL (mtB F S T' U) s))))) := by
 have hlow : lo ≤ w.heap.size := by have := h.lt; omega
 have HT := zH (fun W (hW : Below lo w W) => H.below hW)
 have hqb : w.heap.size ≠ b := by have := h.lt; omega
 have A0 := ((Below.refl w.heap.size w).alloc (Nat.le_refl _) (.cells #[.int .i64 kk, .int .i64 nn, .string ⟨S.toArray⟩, .string ⟨T'.toArray⟩, .string ⟨U.toArray⟩] 75))
 have HS0 := zH (h.ext A0)
 have HG0 := zH (grown_of (some b) A0)
 have HBx := zH (Bx.new w #[.int .i64 kk, .int .i64 nn, .string ⟨S.toArray⟩, .string ⟨T'.toArray⟩, .string ⟨U.toArray⟩] 75)
 have hCl := zH (fun W => DescR.Za S W (by omega))
 unfold J7 at hCl
 clear A0
 obtain ⟨W0, hW0⟩ : ∃ W, w.alloc (.cells #[.int .i64 kk, .int .i64 nn, .string ⟨S.toArray⟩, .string ⟨T'.toArray⟩, .string ⟨U.toArray⟩] 75) = W := ⟨_, rfl⟩
 rw [hW0] at HS0 HG0 HBx
 have k2 := HBx.out.cell 2
 have kl := HBx.out.lt
 have k3 := HBx.out.cell 3
 have hB0l := below_grown HG0.out hb hlow
 have c0 := HS0.out.flag.2.2
 have hbl := HS0.out.lt
 have HMh := zH (fun W (hW : Below lo w W) => (HM W hW).mono (fun e w' (hh : J5 (F S) T' e ∧ Below W.heap.size W w') => (⟨qI hh.1, hh.2⟩ : e = _ ∧ _)))
 have hcat := VR S
 have HSp := zH (fun W => DescQ.jm U W (by omega))
 have HSl := zH (JA U)
 unfold DescP.Uu at HSp
 simp only [str] at HSp
 have hof : (ofT S).length ≤ 140737488355328 := by unfold ofT; simp; omega
 unfold mtB
 clear HM
 generalize mtE (F S) T' = fd at *
 generalize Ze (Zl T') (F S) = k at *
 obtain ⟨y0, y1, y2⟩ := fd
 simp only at HMh ⊢
 generalize zy U = sp at *
 obtain ⟨gs, ts, er⟩ := sp
 simp only at HSp HSl ⊢
 have hlo0 : lo ≤ W0.heap.size := Nat.le_trans hlow hB0l.size
 go_enter Tryz.func30, Tryz.ntmps30
 go_wp2_with fail
 refine (hCl.out _).mono ?_
 rintro e w' ⟨rfl, rfl⟩
 go_wp2_with fail
 clear hW0
 have hB0 := Below.refl W0.heap.size W0
 have hBd := hB0.drew
 go_region_held3 (fun w' => w'.cell? ⟨b, 0, none⟩ = some (.pointer (some ⟨r, 0, none⟩)) ∧ w'.cell? ⟨w.heap.size, 2, none⟩ = some (.string ⟨S.toArray⟩) ∧ w'.cell? ⟨w.heap.size, 3, none⟩ = some (.string ⟨T'.toArray⟩))
  (first | (with_reducible exact ⟨c0, k2, k3⟩) | (with_reducible exact ⟨x0, x2, x3⟩) | go_keep)
  (first
   | (go_at_call 65
      with_reducible refine (HMh.out _ (hB0l.trans (hBd.mono hlo0))).mono ?_
      rintro e w4 ⟨he, hb4⟩
      subst he
      have hB4 := hBd.trans (hb4.mono hBd.size)
      have x0 := (HS0.out.ext hB4).flag.2.2
      have x2 : w4.cell? ⟨w.heap.size, 2, none⟩ = some (.string ⟨S.toArray⟩) := (HBx.out.after hB4).cell 2
      have x3 : w4.cell? ⟨w.heap.size, 3, none⟩ = some (.string ⟨T'.toArray⟩) := (HBx.out.after hB4).cell 3)
   | (go_at_call 65
      with_reducible refine (HMh.out _ (hB0l.trans ((hB0.alloc hB0.size _).drew.mono hlo0))).mono ?_
      rintro e w4 ⟨he, hb4⟩
      subst he
      have hP := Bx.after (w := (W0.alloc (.cells #[.string ⟨#[]⟩, .string ⟨#[]⟩, .string ⟨#[]⟩] 138)).drew) (Bx.new W0 #[.string ⟨#[]⟩, .string ⟨#[]⟩, .string ⟨#[]⟩] 138) hb4
      have hB4 := (hB0.alloc hB0.size _).drew.trans (hb4.mono (hB0.alloc hB0.size _).drew.size)
      have x0 := (HS0.out.ext hB4).flag.2.2
      have x2 : w4.cell? ⟨w.heap.size, 2, none⟩ = some (.string ⟨S.toArray⟩) := (HBx.out.after hB4).cell 2
      have x3 : w4.cell? ⟨w.heap.size, 3, none⟩ = some (.string ⟨T'.toArray⟩) := (HBx.out.after hB4).cell 3
      have q0 : w4.cell? ⟨W0.heap.size, 0, none⟩ = some (.string ⟨#[]⟩) := hP.cell 0
      have q1 : w4.cell? ⟨W0.heap.size, 1, none⟩ = some (.string ⟨#[]⟩) := hP.cell 1
      have q5 : w4.cell? ⟨W0.heap.size, 2, none⟩ = some (.string ⟨#[]⟩) := hP.cell 2
      have q2 := hP.free 0
      have q3 := hP.free 1
      have q6 := hP.free 2
      have q4 := hP.lt
      have n0 : ¬ W0.heap.size = b := by omega
      have n1 : ¬ b = W0.heap.size := by omega
      have n2 : ¬ W0.heap.size = w.heap.size := by omega
      have n3 : ¬ w.heap.size = W0.heap.size := by omega))
 · rename_i hHeld
   have HFb := zH (Bx.new w4 #[.string ⟨y0.toArray⟩, .string ⟨y1.toArray⟩, .string ⟨y2.toArray⟩] 138)
   have HBF := zH (hB4.alloc hB4.size (.cells #[.string ⟨y0.toArray⟩, .string ⟨y1.toArray⟩, .string ⟨y2.toArray⟩] 138))
   have HXF := zH (HBx.out.after HBF.out)
   have HSF := zH (HS0.out.ext HBF.out)
   have HGF := zH (grown_of (some b) HBF.out)
   clear hHeld hb4 hB4 x0 x2 x3 k2 kl k3 c0 hbl HBF
   generalize w4.alloc (.cells #[.string ⟨y0.toArray⟩, .string ⟨y1.toArray⟩, .string ⟨y2.toArray⟩] 138) = WF at *
   generalize w4.heap.size = bf at *
   have f1 := HFb.out.cell 1
   have fl := HFb.out.lt
   have k2 := HXF.out.cell 2
   have k4 := HXF.out.cell 4
   have kl := HXF.out.lt
   clear HFb
   clear HS0 hB0 hBd hB0l hlo0 HMh hCl
   rcases Int.lt_or_le k 0 with hk | hk
   all_goals
    cases hu : y1 == U
    all_goals
     first
      | have hd : decide (0 ≤ k) = false := by simp; omega
      | have hd : decide (0 ≤ k) = true := by simp; omega
     go_wp2_with fail
     refine (qB HSF.out _).mono ?_
     rintro e w1 ⟨rfl, hs, hg⟩
     have HS1 := zH hs
     have HG1 := zH (za HGF.out hg)
     have k2 := (zo HXF.out hg hqb).cell 2
     have k4 := (zo HXF.out hg hqb).cell 4
     have kl := (zo HXF.out hg hqb).lt
     have HX1 := zH (zo HXF.out hg hqb)
     clear hs hg
     go_wp2_with fail
     refine (HSp.out w1).mono ?_
     rintro e w5 ⟨v5, rfl, ho5, hb5⟩
     obtain ⟨A5, c5, rfl, h51, h52, r5, h53⟩ := jc.slice ho5
     have HX5 := zH (HX1.out.after hb5)
     have k2 := HX5.out.cell 2
     have kl := HX5.out.lt
     have HS5 := zH (HS1.out.ext hb5)
     have HG5 := zH (za HG1.out (grown_of (some b) hb5))
     have R5 := zH r5
     have hA5 : ∀ a, A5 = some a → some a.block ≠ some b := fun a ha e => by
      have h1 := (h53 a ha).1
      have h2 := HS1.out.lt
      injection e with e
      omega
     have Z5 := zH (qV w5 (some b))
     have h8 := HSl.out.1
     clear ho5 hb5 r5 h53 k4
     go_wp2_with fail
     go_loopw [18] (fun i wr => ∃ j : Nat, j ≤ ts.length ∧ i = .int .i64 ((j : Int) - 1) ∧ Sk wr b r (ZV (mk ps) (ts.drop j) (zL (decide (0 ≤ k) && y1 == U) s)).1 (ZV (mk ps) (ts.drop j) (zL (decide (0 ≤ k) && y1 == U) s)).2 ∧ w5.grownBy wr (some b)) (fun i _ => (intOf i + 1).toNat)
     case atStart => exact ⟨ts.length, Nat.le_refl _, by go_num, by rw [List.drop_length, hd, hu]; exact HS5.out, Z5.out⟩
     case round =>
      obtain ⟨j, hj, rfl, hsk, hgw⟩ := hrel
      have HSk := zH hsk
      have HGw := zH hgw
      have HXw := zH (zo HX5.out hgw hqb)
      have kw2 := HXw.out.cell 2
      have kwl := HXw.out.lt
      clear hsk k2 kl
      by_cases hlt : 0 < j
      · obtain ⟨i, rfl⟩ : ∃ i, j = i + 1 := ⟨j - 1, by omega⟩
        have hi : i < ts.length := by omega
        have e1 : ((i + 1 : Nat) : Int) - 1 = (i : Int) := by omega
        rw [e1]
        obtain ⟨p, o, hA, hp, hc⟩ := (R5.out.grown hgw hA5).at_ (k := i) (by simp; omega)
        subst hA
        have hc' : wr.cell? ⟨p, o + i, none⟩ = some (.string ⟨ts[i].toArray⟩) := by simpa [str] using hc
        have hil := HSl.out.2.2 _ (List.getElem_mem hi)
        clear hc hgw
        go_wp2_with fail
        refine (QD HSk.out ((Qr (hf.need _) _).mono (by omega)) (HT.out _ (below_grown (za HG0.out (za HG5.out HGw.out)) hb hlow)) hb ts[i] (by omega)).mono ?_
        rintro e w6 ⟨rfl, hs, hg⟩
        have HS6 := zH hs
        have HG6 := zH (za HGw.out hg)
        clear hs hg
        go_wp2_with fail
        go_roundw
        case rel => exact ⟨i, by omega, by go_num, by rw [U4 hi]; exact HS6.out, HG6.out⟩
        case measure => simp [intOf] <;> omega
      · have j0 : j = 0 := by omega
        subst j0
        clear hgw
        cases hgs : gs == [86]
        all_goals
         go_wp2_with fail
         try rw [hcat]
         refine (QD HSk.out ((Qr (hf.need _) _).mono (by omega)) (HT.out _ (below_grown (za HG0.out (za HG5.out HGw.out)) hb hlow)) hb (ofT S) hof).mono ?_
         rintro e w6 ⟨rfl, hs, hg⟩
         have HS6 := zH hs
         have HG6 := zH (za HG5.out (za HGw.out hg))
         clear hs hg
         go_wp2_with fail
        · refine (Zp HS6.out (((Qr (hf.need _) _).fits _ _).mono (by omega)) gs).mono ?_
          rintro e w7 ⟨rfl, hs, hg⟩
          have HS7 := zH hs
          have HG7 := zH (za HG6.out hg)
          clear hs hg
          go_wp2_with fail
          go_end0
          exact ⟨rfl, by unfold jk; rw [hgs]; exact HS7.out, za HG0.out HG7.out⟩
        · go_end0
          exact ⟨rfl, by unfold jk; rw [hgs]; exact HS6.out, za HG0.out HG6.out⟩
 · rename_i hHeld
   have HFb := zH (KndY.XO hP (.string ⟨y0.toArray⟩) (.string ⟨y1.toArray⟩) (.string ⟨y2.toArray⟩))
   have HBF := zH (KndY.J8 hB4 (Nat.le_refl W0.heap.size) (.string ⟨y0.toArray⟩) (.string ⟨y1.toArray⟩) (.string ⟨y2.toArray⟩))
   have HXF := zH (HBx.out.after HBF.out)
   have HSF := zH (HS0.out.ext HBF.out)
   have HGF := zH (grown_of (some b) HBF.out)
   try rw [XP]
   clear hHeld hb4 hB4 x0 x2 x3 q0 q1 q2 q3 q4 q5 q6 n0 n1 n2 n3 hP k2 kl k3 c0 hbl HBF
   generalize kJ w4 W0.heap.size (.string ⟨y0.toArray⟩) (.string ⟨y1.toArray⟩) (.string ⟨y2.toArray⟩) = WF at *
   generalize W0.heap.size = bf at *
   have f1 := HFb.out.cell 1
   have fl := HFb.out.lt
   have k2 := HXF.out.cell 2
   have k4 := HXF.out.cell 4
   have kl := HXF.out.lt
   clear HFb
   clear HS0 hB0 hBd hB0l hlo0 HMh hCl
   rcases Int.lt_or_le k 0 with hk | hk
   all_goals
    cases hu : y1 == U
    all_goals
     first
      | have hd : decide (0 ≤ k) = false := by simp; omega
      | have hd : decide (0 ≤ k) = true := by simp; omega
     go_wp2_with fail
     refine (qB HSF.out _).mono ?_
     rintro e w1 ⟨rfl, hs, hg⟩
     have HS1 := zH hs
     have HG1 := zH (za HGF.out hg)
     have k2 := (zo HXF.out hg hqb).cell 2
     have k4 := (zo HXF.out hg hqb).cell 4
     have kl := (zo HXF.out hg hqb).lt
     have HX1 := zH (zo HXF.out hg hqb)
     clear hs hg
     go_wp2_with fail
     refine (HSp.out w1).mono ?_
     rintro e w5 ⟨v5, rfl, ho5, hb5⟩
     obtain ⟨A5, c5, rfl, h51, h52, r5, h53⟩ := jc.slice ho5
     have HX5 := zH (HX1.out.after hb5)
     have k2 := HX5.out.cell 2
     have kl := HX5.out.lt
     have HS5 := zH (HS1.out.ext hb5)
     have HG5 := zH (za HG1.out (grown_of (some b) hb5))
     have R5 := zH r5
     have hA5 : ∀ a, A5 = some a → some a.block ≠ some b := fun a ha e => by
      have h1 := (h53 a ha).1
      have h2 := HS1.out.lt
      injection e with e
      omega
     have Z5 := zH (qV w5 (some b))
     have h8 := HSl.out.1
     clear ho5 hb5 r5 h53 k4
     go_wp2_with fail
     go_loopw [18] (fun i wr => ∃ j : Nat, j ≤ ts.length ∧ i = .int .i64 ((j : Int) - 1) ∧ Sk wr b r (ZV (mk ps) (ts.drop j) (zL (decide (0 ≤ k) && y1 == U) s)).1 (ZV (mk ps) (ts.drop j) (zL (decide (0 ≤ k) && y1 == U) s)).2 ∧ w5.grownBy wr (some b)) (fun i _ => (intOf i + 1).toNat)
     case atStart => exact ⟨ts.length, Nat.le_refl _, by go_num, by rw [List.drop_length, hd, hu]; exact HS5.out, Z5.out⟩
     case round =>
      obtain ⟨j, hj, rfl, hsk, hgw⟩ := hrel
      have HSk := zH hsk
      have HGw := zH hgw
      have HXw := zH (zo HX5.out hgw hqb)
      have kw2 := HXw.out.cell 2
      have kwl := HXw.out.lt
      clear hsk k2 kl
      by_cases hlt : 0 < j
      · obtain ⟨i, rfl⟩ : ∃ i, j = i + 1 := ⟨j - 1, by omega⟩
        have hi : i < ts.length := by omega
        have e1 : ((i + 1 : Nat) : Int) - 1 = (i : Int) := by omega
        rw [e1]
        obtain ⟨p, o, hA, hp, hc⟩ := (R5.out.grown hgw hA5).at_ (k := i) (by simp; omega)
        subst hA
        have hc' : wr.cell? ⟨p, o + i, none⟩ = some (.string ⟨ts[i].toArray⟩) := by simpa [str] using hc
        have hil := HSl.out.2.2 _ (List.getElem_mem hi)
        clear hc hgw
        go_wp2_with fail
        refine (QD HSk.out ((Qr (hf.need _) _).mono (by omega)) (HT.out _ (below_grown (za HG0.out (za HG5.out HGw.out)) hb hlow)) hb ts[i] (by omega)).mono ?_
        rintro e w6 ⟨rfl, hs, hg⟩
        have HS6 := zH hs
        have HG6 := zH (za HGw.out hg)
        clear hs hg
        go_wp2_with fail
        go_roundw
        case rel => exact ⟨i, by omega, by go_num, by rw [U4 hi]; exact HS6.out, HG6.out⟩
        case measure => simp [intOf] <;> omega
      · have j0 : j = 0 := by omega
        subst j0
        clear hgw
        cases hgs : gs == [86]
        all_goals
         go_wp2_with fail
         try rw [hcat]
         refine (QD HSk.out ((Qr (hf.need _) _).mono (by omega)) (HT.out _ (below_grown (za HG0.out (za HG5.out HGw.out)) hb hlow)) hb (ofT S) hof).mono ?_
         rintro e w6 ⟨rfl, hs, hg⟩
         have HS6 := zH hs
         have HG6 := zH (za HG5.out (za HGw.out hg))
         clear hs hg
         go_wp2_with fail
        · refine (Zp HS6.out (((Qr (hf.need _) _).fits _ _).mono (by omega)) gs).mono ?_
          rintro e w7 ⟨rfl, hs, hg⟩
          have HS7 := zH hs
          have HG7 := zH (za HG6.out hg)
          clear hs hg
          go_wp2_with fail
          go_end0
          exact ⟨rfl, by unfold jk; rw [hgs]; exact HS7.out, za HG0.out HG7.out⟩
        · go_end0
          exact ⟨rfl, by unfold jk; rw [hgs]; exact HS6.out, za HG0.out HG6.out⟩
end KrH
namespace KrF
open Go.RowKit Base BinM Stru DescM DescW DescX DescS DescG DescP DescQ HierS HierT HierM HierC HierD HierN HierV HierR HierU HierY HierQ Kls KlsP KlsQ OpenK TabC TabM TabK TabP TabE TabB TabG TabH TabT TabU TabV TabX TabW TabF TabN TabO TabY TabR TabQ TabL KndM KndS KrS KrA KrP KrB KrC KrD
open KndP (Qv)
open KndW (mtE qI QV jh)
open KndX (fdE jN zg9 Qu)
theorem QD {w : World} {b r : Nat} {s : RS} {lo g : Nat} {ps : List P2} (h : Sk w b r s.1 s.2) (hf : Few 900 s) (H : TbR lo w r g ps) (hb : lo ≤ b) (d : T) (hd : d.length ≤ 140737488355328) : Calls Tryz.prog 64 #[.pointer (some ⟨b, 0, none⟩), .string ⟨d.toArray⟩] w (zw w b r (Zd (mk ps) d s)) := yu h H hb (by have := hf.1; omega) (yw hf) d hd
theorem VR (l : T) : (ByteArray.mk #[76] ++ ⟨l.toArray⟩ ++ ByteArray.mk #[59]) = ⟨(ofT l).toArray⟩ := by
 rw [show (ByteArray.mk #[76]) = ByteArray.mk [76].toArray from rfl, show (ByteArray.mk #[59]) = ByteArray.mk [59].toArray from rfl, JM, JM]; rfl
def fdB (F : T → List Zi) (S T' U : T) : Bool := decide (0 ≤ zD (zY T') (F S)) && (fdE (F S) T').desc == U
set_option maxRecDepth 100000 in
set_option maxHeartbeats 8000000 in
theorem zl2 {lo g : Nat} {ps : List P2} {F : T → List Zi} {w : World} {b r : Nat} {s : RS} (h : Sk w b r s.1 s.2) (hf : Few 800 s) (kk nn : Int) (S T' U : T) (hS : S.length ≤ 140737488351232) (H : TbR lo w r g ps) (hb : lo ≤ b)
 (HM : ∀ W, Below lo w W → Calls Tryz.prog 63 #[.pointer (some ⟨r, 0, none⟩), .string ⟨S.toArray⟩, .string ⟨T'.toArray⟩] W fun e w' => ZO (F S) T' e ∧ Below W.heap.size W w') :
 Calls Tryz.prog 30 #[.pointer (some ⟨b, 0, none⟩), .int .i64 26, .agg #[.int .i64 kk, .int .i64 nn, .string ⟨S.toArray⟩, .string ⟨T'.toArray⟩, .string ⟨U.toArray⟩]] w (zw w b r (zC U (Zd (mk ps) (ofT S) (zL (fdB F S T' U) s)))) := by
 have hlow : lo ≤ w.heap.size := by have := h.lt; omega
 have HT := zH (fun W (hW : Below lo w W) => H.below hW)
 have hqb : w.heap.size ≠ b := by have := h.lt; omega
 have A0 := ((Below.refl w.heap.size w).alloc (Nat.le_refl _) (.cells #[.int .i64 kk, .int .i64 nn, .string ⟨S.toArray⟩, .string ⟨T'.toArray⟩, .string ⟨U.toArray⟩] 75))
 have HS0 := zH (h.ext A0)
 have HG0 := zH (grown_of (some b) A0)
 have HBx := zH (Bx.new w #[.int .i64 kk, .int .i64 nn, .string ⟨S.toArray⟩, .string ⟨T'.toArray⟩, .string ⟨U.toArray⟩] 75)
 have hCl := zH (fun W => DescR.Za S W (by omega))
 unfold J7 at hCl
 clear A0
 obtain ⟨W0, hW0⟩ : ∃ W, w.alloc (.cells #[.int .i64 kk, .int .i64 nn, .string ⟨S.toArray⟩, .string ⟨T'.toArray⟩, .string ⟨U.toArray⟩] 75) = W := ⟨_, rfl⟩
 rw [hW0] at HS0 HG0 HBx
 have k2 := HBx.out.cell 2
 have kl := HBx.out.lt
 have k3 := HBx.out.cell 3
 have hB0l := below_grown HG0.out hb hlow
 have c0 := HS0.out.flag.2.2
 have hbl := HS0.out.lt
 have HMh := zH (fun W (hW : Below lo w W) => (HM W hW).mono (fun e w' (hh : ZO (F S) T' e ∧ Below W.heap.size W w') => (⟨jN hh.1, hh.2⟩ : e = _ ∧ _)))
 have hcat := VR S
 have hof : (ofT S).length ≤ 140737488355328 := by unfold ofT; simp; omega
 unfold fdB
 clear HM
 generalize fdE (F S) T' = fd at *
 generalize zD (zY T') (F S) = k at *
 obtain ⟨y0, y1, y2⟩ := fd
 simp only at HMh ⊢
 have hlo0 : lo ≤ W0.heap.size := Nat.le_trans hlow hB0l.size
 go_enter Tryz.func30, Tryz.ntmps30
 go_wp2_with fail
 refine (hCl.out _).mono ?_
 rintro e w' ⟨rfl, rfl⟩
 go_wp2_with fail
 clear hW0
 have hB0 := Below.refl W0.heap.size W0
 have hBd := hB0.drew
 go_region_held3 (fun w' => w'.cell? ⟨b, 0, none⟩ = some (.pointer (some ⟨r, 0, none⟩)) ∧ w'.cell? ⟨w.heap.size, 2, none⟩ = some (.string ⟨S.toArray⟩) ∧ w'.cell? ⟨w.heap.size, 3, none⟩ = some (.string ⟨T'.toArray⟩))
  (first | (with_reducible exact ⟨c0, k2, k3⟩) | (with_reducible exact ⟨x0, x2, x3⟩) | go_keep)
  (first
   | (go_at_call 63
      with_reducible refine (HMh.out _ (hB0l.trans (hBd.mono hlo0))).mono ?_
      rintro e w4 ⟨he, hb4⟩
      subst he
      have hB4 := hBd.trans (hb4.mono hBd.size)
      have x0 := (HS0.out.ext hB4).flag.2.2
      have x2 : w4.cell? ⟨w.heap.size, 2, none⟩ = some (.string ⟨S.toArray⟩) := (HBx.out.after hB4).cell 2
      have x3 : w4.cell? ⟨w.heap.size, 3, none⟩ = some (.string ⟨T'.toArray⟩) := (HBx.out.after hB4).cell 3)
   | (go_at_call 63
      with_reducible refine (HMh.out _ (hB0l.trans ((hB0.alloc hB0.size _).drew.mono hlo0))).mono ?_
      rintro e w4 ⟨he, hb4⟩
      subst he
      have hP := Bx.after (w := (W0.alloc (.cells #[.string ⟨#[]⟩, .string ⟨#[]⟩] 125)).drew) (Bx.new W0 #[.string ⟨#[]⟩, .string ⟨#[]⟩] 125) hb4
      have hB4 := (hB0.alloc hB0.size _).drew.trans (hb4.mono (hB0.alloc hB0.size _).drew.size)
      have x0 := (HS0.out.ext hB4).flag.2.2
      have x2 : w4.cell? ⟨w.heap.size, 2, none⟩ = some (.string ⟨S.toArray⟩) := (HBx.out.after hB4).cell 2
      have x3 : w4.cell? ⟨w.heap.size, 3, none⟩ = some (.string ⟨T'.toArray⟩) := (HBx.out.after hB4).cell 3
      have q0 : w4.cell? ⟨W0.heap.size, 0, none⟩ = some (.string ⟨#[]⟩) := hP.cell 0
      have q1 : w4.cell? ⟨W0.heap.size, 1, none⟩ = some (.string ⟨#[]⟩) := hP.cell 1
      have q2 := hP.free 0
      have q3 := hP.free 1
      have q4 := hP.lt
      have n0 : ¬ W0.heap.size = b := by omega
      have n1 : ¬ b = W0.heap.size := by omega
      have n2 : ¬ W0.heap.size = w.heap.size := by omega
      have n3 : ¬ w.heap.size = W0.heap.size := by omega))
 · rename_i hHeld
   have HFb := zH (Bx.new w4 #[.string ⟨y0.toArray⟩, .string ⟨y1.toArray⟩] 125)
   have HBF := zH (hB4.alloc hB4.size (.cells #[.string ⟨y0.toArray⟩, .string ⟨y1.toArray⟩] 125))
   have HXF := zH (HBx.out.after HBF.out)
   have HSF := zH (HS0.out.ext HBF.out)
   have HGF := zH (grown_of (some b) HBF.out)
   clear hHeld hb4 hB4 x0 x2 x3 k2 kl k3 c0 hbl HBF
   generalize w4.alloc (.cells #[.string ⟨y0.toArray⟩, .string ⟨y1.toArray⟩] 125) = WF at *
   generalize w4.heap.size = bf at *
   have f1 := HFb.out.cell 1
   have fl := HFb.out.lt
   have k2 := HXF.out.cell 2
   have k4 := HXF.out.cell 4
   have kl := HXF.out.lt
   clear HFb
   clear HS0 hB0 hBd hB0l hlo0 HMh hCl
   rcases Int.lt_or_le k 0 with hk | hk
   all_goals
    cases hu : y1 == U
    all_goals
     first
      | have hd : decide (0 ≤ k) = false := by simp; omega
      | have hd : decide (0 ≤ k) = true := by simp; omega
     go_wp2_with fail
     refine (qB HSF.out _).mono ?_
     rintro e w1 ⟨rfl, hs, hg⟩
     have HS1 := zH hs
     have HG1 := zH (za HGF.out hg)
     have k2 := (zo HXF.out hg hqb).cell 2
     have k4 := (zo HXF.out hg hqb).cell 4
     have kl := (zo HXF.out hg hqb).lt
     have HX1 := zH (zo HXF.out hg hqb)
     clear hs hg
     go_wp2_with fail
     try rw [hcat]
     refine (QD HS1.out ((hf.need _).mono (by omega)) (HT.out _ (below_grown (za HG0.out HG1.out) hb hlow)) hb (ofT S) hof).mono ?_
     rintro e w2 ⟨rfl, hs, hg⟩
     have HS2 := zH hs
     have HG2 := zH (za HG1.out hg)
     have HX2 := zH (zo HX1.out hg hqb)
     have k2 := HX2.out.cell 2
     have k4 := HX2.out.cell 4
     have kl := HX2.out.lt
     clear hs hg
     go_wp2_with fail
     refine (Zp HS2.out (((hf.need _).fits (mk ps) (ofT S)).mono (by omega)) U).mono ?_
     rintro e w3 ⟨rfl, hs, hg⟩
     have HS3 := zH hs
     have HG3 := zH (za HG2.out hg)
     clear hs hg
     go_wp2_with fail
     go_end0
     exact ⟨rfl, by rw [hd, hu]; exact HS3.out, za HG0.out HG3.out⟩
 · rename_i hHeld
   have HFb := zH (KndS.Zw hP (.string ⟨y0.toArray⟩) (.string ⟨y1.toArray⟩))
   have HBF := zH (KndS.zQ hB4 (Nat.le_refl W0.heap.size) (.string ⟨y0.toArray⟩) (.string ⟨y1.toArray⟩))
   have HXF := zH (HBx.out.after HBF.out)
   have HSF := zH (HS0.out.ext HBF.out)
   have HGF := zH (grown_of (some b) HBF.out)
   rw [Qu] at HFb HXF HSF HGF
   try rw [Qu]
   clear hHeld hb4 hB4 x0 x2 x3 q0 q1 q2 q3 q4 n0 n1 n2 n3 hP k2 kl k3 c0 hbl HBF
   generalize zg9 w4 W0.heap.size (.string ⟨y0.toArray⟩) (.string ⟨y1.toArray⟩) = WF at *
   generalize W0.heap.size = bf at *
   have f1 := HFb.out.cell 1
   have fl := HFb.out.lt
   have k2 := HXF.out.cell 2
   have k4 := HXF.out.cell 4
   have kl := HXF.out.lt
   clear HFb
   clear HS0 hB0 hBd hB0l hlo0 HMh hCl
   rcases Int.lt_or_le k 0 with hk | hk
   all_goals
    cases hu : y1 == U
    all_goals
     first
      | have hd : decide (0 ≤ k) = false := by simp; omega
      | have hd : decide (0 ≤ k) = true := by simp; omega
     go_wp2_with fail
     refine (qB HSF.out _).mono ?_
     rintro e w1 ⟨rfl, hs, hg⟩
     have HS1 := zH hs
     have HG1 := zH (za HGF.out hg)
     have k2 := (zo HXF.out hg hqb).cell 2
     have k4 := (zo HXF.out hg hqb).cell 4
     have kl := (zo HXF.out hg hqb).lt
     have HX1 := zH (zo HXF.out hg hqb)
     clear hs hg
     go_wp2_with fail
     try rw [hcat]
     refine (QD HS1.out ((hf.need _).mono (by omega)) (HT.out _ (below_grown (za HG0.out HG1.out) hb hlow)) hb (ofT S) hof).mono ?_
     rintro e w2 ⟨rfl, hs, hg⟩
     have HS2 := zH hs
     have HG2 := zH (za HG1.out hg)
     have HX2 := zH (zo HX1.out hg hqb)
     have k2 := HX2.out.cell 2
     have k4 := HX2.out.cell 4
     have kl := HX2.out.lt
     clear hs hg
     go_wp2_with fail
     refine (Zp HS2.out (((hf.need _).fits (mk ps) (ofT S)).mono (by omega)) U).mono ?_
     rintro e w3 ⟨rfl, hs, hg⟩
     have HS3 := zH hs
     have HG3 := zH (za HG2.out hg)
     clear hs hg
     go_wp2_with fail
     go_end0
     exact ⟨rfl, by rw [hd, hu]; exact HS3.out, za HG0.out HG3.out⟩
set_option maxRecDepth 100000 in
set_option maxHeartbeats 8000000 in
theorem zl1 {lo g : Nat} {ps : List P2} {F : T → List Zi} {w : World} {b r : Nat} {s : RS} (h : Sk w b r s.1 s.2) (hf : Few 800 s) (kk nn : Int) (S T' U : T) (hS : S.length ≤ 140737488351232) (hU : U.length ≤ 140737488351232) (H : TbR lo w r g ps) (hb : lo ≤ b)
 (HM : ∀ W, Below lo w W → Calls Tryz.prog 63 #[.pointer (some ⟨r, 0, none⟩), .string ⟨S.toArray⟩, .string ⟨T'.toArray⟩] W fun e w' => ZO (F S) T' e ∧ Below W.heap.size W w') :
 Calls Tryz.prog 30 #[.pointer (some ⟨b, 0, none⟩), .int .i64 27, .agg #[.int .i64 kk, .int .i64 nn, .string ⟨S.toArray⟩, .string ⟨T'.toArray⟩, .string ⟨U.toArray⟩]] w (zw w b r (Zd (mk ps) (ofT S) (Zd (mk ps) U (zL (fdB F S T' U) s)))) := by
 have hlow : lo ≤ w.heap.size := by have := h.lt; omega
 have HT := zH (fun W (hW : Below lo w W) => H.below hW)
 have hqb : w.heap.size ≠ b := by have := h.lt; omega
 have A0 := ((Below.refl w.heap.size w).alloc (Nat.le_refl _) (.cells #[.int .i64 kk, .int .i64 nn, .string ⟨S.toArray⟩, .string ⟨T'.toArray⟩, .string ⟨U.toArray⟩] 75))
 have HS0 := zH (h.ext A0)
 have HG0 := zH (grown_of (some b) A0)
 have HBx := zH (Bx.new w #[.int .i64 kk, .int .i64 nn, .string ⟨S.toArray⟩, .string ⟨T'.toArray⟩, .string ⟨U.toArray⟩] 75)
 have hCl := zH (fun W => DescR.Za S W (by omega))
 unfold J7 at hCl
 clear A0
 obtain ⟨W0, hW0⟩ : ∃ W, w.alloc (.cells #[.int .i64 kk, .int .i64 nn, .string ⟨S.toArray⟩, .string ⟨T'.toArray⟩, .string ⟨U.toArray⟩] 75) = W := ⟨_, rfl⟩
 rw [hW0] at HS0 HG0 HBx
 have k2 := HBx.out.cell 2
 have kl := HBx.out.lt
 have k3 := HBx.out.cell 3
 have hB0l := below_grown HG0.out hb hlow
 have c0 := HS0.out.flag.2.2
 have hbl := HS0.out.lt
 have HMh := zH (fun W (hW : Below lo w W) => (HM W hW).mono (fun e w' (hh : ZO (F S) T' e ∧ Below W.heap.size W w') => (⟨jN hh.1, hh.2⟩ : e = _ ∧ _)))
 have hcat := VR S
 have hof : (ofT S).length ≤ 140737488355328 := by unfold ofT; simp; omega
 unfold fdB
 clear HM
 generalize fdE (F S) T' = fd at *
 generalize zD (zY T') (F S) = k at *
 obtain ⟨y0, y1, y2⟩ := fd
 simp only at HMh ⊢
 have hlo0 : lo ≤ W0.heap.size := Nat.le_trans hlow hB0l.size
 go_enter Tryz.func30, Tryz.ntmps30
 go_wp2_with fail
 refine (hCl.out _).mono ?_
 rintro e w' ⟨rfl, rfl⟩
 go_wp2_with fail
 clear hW0
 have hB0 := Below.refl W0.heap.size W0
 have hBd := hB0.drew
 go_region_held3 (fun w' => w'.cell? ⟨b, 0, none⟩ = some (.pointer (some ⟨r, 0, none⟩)) ∧ w'.cell? ⟨w.heap.size, 2, none⟩ = some (.string ⟨S.toArray⟩) ∧ w'.cell? ⟨w.heap.size, 3, none⟩ = some (.string ⟨T'.toArray⟩))
  (first | (with_reducible exact ⟨c0, k2, k3⟩) | (with_reducible exact ⟨x0, x2, x3⟩) | go_keep)
  (first
   | (go_at_call 63
      with_reducible refine (HMh.out _ (hB0l.trans (hBd.mono hlo0))).mono ?_
      rintro e w4 ⟨he, hb4⟩
      subst he
      have hB4 := hBd.trans (hb4.mono hBd.size)
      have x0 := (HS0.out.ext hB4).flag.2.2
      have x2 : w4.cell? ⟨w.heap.size, 2, none⟩ = some (.string ⟨S.toArray⟩) := (HBx.out.after hB4).cell 2
      have x3 : w4.cell? ⟨w.heap.size, 3, none⟩ = some (.string ⟨T'.toArray⟩) := (HBx.out.after hB4).cell 3)
   | (go_at_call 63
      with_reducible refine (HMh.out _ (hB0l.trans ((hB0.alloc hB0.size _).drew.mono hlo0))).mono ?_
      rintro e w4 ⟨he, hb4⟩
      subst he
      have hP := Bx.after (w := (W0.alloc (.cells #[.string ⟨#[]⟩, .string ⟨#[]⟩] 125)).drew) (Bx.new W0 #[.string ⟨#[]⟩, .string ⟨#[]⟩] 125) hb4
      have hB4 := (hB0.alloc hB0.size _).drew.trans (hb4.mono (hB0.alloc hB0.size _).drew.size)
      have x0 := (HS0.out.ext hB4).flag.2.2
      have x2 : w4.cell? ⟨w.heap.size, 2, none⟩ = some (.string ⟨S.toArray⟩) := (HBx.out.after hB4).cell 2
      have x3 : w4.cell? ⟨w.heap.size, 3, none⟩ = some (.string ⟨T'.toArray⟩) := (HBx.out.after hB4).cell 3
      have q0 : w4.cell? ⟨W0.heap.size, 0, none⟩ = some (.string ⟨#[]⟩) := hP.cell 0
      have q1 : w4.cell? ⟨W0.heap.size, 1, none⟩ = some (.string ⟨#[]⟩) := hP.cell 1
      have q2 := hP.free 0
      have q3 := hP.free 1
      have q4 := hP.lt
      have n0 : ¬ W0.heap.size = b := by omega
      have n1 : ¬ b = W0.heap.size := by omega
      have n2 : ¬ W0.heap.size = w.heap.size := by omega
      have n3 : ¬ w.heap.size = W0.heap.size := by omega))
 · rename_i hHeld
   have HFb := zH (Bx.new w4 #[.string ⟨y0.toArray⟩, .string ⟨y1.toArray⟩] 125)
   have HBF := zH (hB4.alloc hB4.size (.cells #[.string ⟨y0.toArray⟩, .string ⟨y1.toArray⟩] 125))
   have HXF := zH (HBx.out.after HBF.out)
   have HSF := zH (HS0.out.ext HBF.out)
   have HGF := zH (grown_of (some b) HBF.out)
   clear hHeld hb4 hB4 x0 x2 x3 k2 kl k3 c0 hbl HBF
   generalize w4.alloc (.cells #[.string ⟨y0.toArray⟩, .string ⟨y1.toArray⟩] 125) = WF at *
   generalize w4.heap.size = bf at *
   have f1 := HFb.out.cell 1
   have fl := HFb.out.lt
   have k2 := HXF.out.cell 2
   have k4 := HXF.out.cell 4
   have kl := HXF.out.lt
   clear HFb
   clear HS0 hB0 hBd hB0l hlo0 HMh hCl
   rcases Int.lt_or_le k 0 with hk | hk
   all_goals
    cases hu : y1 == U
    all_goals
     first
      | have hd : decide (0 ≤ k) = false := by simp; omega
      | have hd : decide (0 ≤ k) = true := by simp; omega
     go_wp2_with fail
     refine (qB HSF.out _).mono ?_
     rintro e w1 ⟨rfl, hs, hg⟩
     have HS1 := zH hs
     have HG1 := zH (za HGF.out hg)
     have k2 := (zo HXF.out hg hqb).cell 2
     have k4 := (zo HXF.out hg hqb).cell 4
     have kl := (zo HXF.out hg hqb).lt
     have HX1 := zH (zo HXF.out hg hqb)
     clear hs hg
     go_wp2_with fail
     try rw [hcat]
     refine (QD HS1.out ((hf.need _).mono (by omega)) (HT.out _ (below_grown (za HG0.out HG1.out) hb hlow)) hb U (by omega)).mono ?_
     rintro e w2 ⟨rfl, hs, hg⟩
     have HS2 := zH hs
     have HG2 := zH (za HG1.out hg)
     have HX2 := zH (zo HX1.out hg hqb)
     have k2 := HX2.out.cell 2
     have k4 := HX2.out.cell 4
     have kl := HX2.out.lt
     clear hs hg
     go_wp2_with fail
     try rw [hcat]
     refine (QD HS2.out (((hf.need _).fits (mk ps) U).mono (by omega)) (HT.out _ (below_grown (za HG0.out HG2.out) hb hlow)) hb (ofT S) hof).mono ?_
     rintro e w3 ⟨rfl, hs, hg⟩
     have HS3 := zH hs
     have HG3 := zH (za HG2.out hg)
     have HX3 := zH (zo HX2.out hg hqb)
     have k2 := HX3.out.cell 2
     have k4 := HX3.out.cell 4
     have kl := HX3.out.lt
     clear hs hg
     go_wp2_with fail
     go_end0
     exact ⟨rfl, by rw [hd, hu]; exact HS3.out, za HG0.out HG3.out⟩
 · rename_i hHeld
   have HFb := zH (KndS.Zw hP (.string ⟨y0.toArray⟩) (.string ⟨y1.toArray⟩))
   have HBF := zH (KndS.zQ hB4 (Nat.le_refl W0.heap.size) (.string ⟨y0.toArray⟩) (.string ⟨y1.toArray⟩))
   have HXF := zH (HBx.out.after HBF.out)
   have HSF := zH (HS0.out.ext HBF.out)
   have HGF := zH (grown_of (some b) HBF.out)
   rw [Qu] at HFb HXF HSF HGF
   try rw [Qu]
   clear hHeld hb4 hB4 x0 x2 x3 q0 q1 q2 q3 q4 n0 n1 n2 n3 hP k2 kl k3 c0 hbl HBF
   generalize zg9 w4 W0.heap.size (.string ⟨y0.toArray⟩) (.string ⟨y1.toArray⟩) = WF at *
   generalize W0.heap.size = bf at *
   have f1 := HFb.out.cell 1
   have fl := HFb.out.lt
   have k2 := HXF.out.cell 2
   have k4 := HXF.out.cell 4
   have kl := HXF.out.lt
   clear HFb
   clear HS0 hB0 hBd hB0l hlo0 HMh hCl
   rcases Int.lt_or_le k 0 with hk | hk
   all_goals
    cases hu : y1 == U
    all_goals
     first
      | have hd : decide (0 ≤ k) = false := by simp; omega
      | have hd : decide (0 ≤ k) = true := by simp; omega
     go_wp2_with fail
     refine (qB HSF.out _).mono ?_
     rintro e w1 ⟨rfl, hs, hg⟩
     have HS1 := zH hs
     have HG1 := zH (za HGF.out hg)
     have k2 := (zo HXF.out hg hqb).cell 2
     have k4 := (zo HXF.out hg hqb).cell 4
     have kl := (zo HXF.out hg hqb).lt
     have HX1 := zH (zo HXF.out hg hqb)
     clear hs hg
     go_wp2_with fail
     try rw [hcat]
     refine (QD HS1.out ((hf.need _).mono (by omega)) (HT.out _ (below_grown (za HG0.out HG1.out) hb hlow)) hb U (by omega)).mono ?_
     rintro e w2 ⟨rfl, hs, hg⟩
     have HS2 := zH hs
     have HG2 := zH (za HG1.out hg)
     have HX2 := zH (zo HX1.out hg hqb)
     have k2 := HX2.out.cell 2
     have k4 := HX2.out.cell 4
     have kl := HX2.out.lt
     clear hs hg
     go_wp2_with fail
     try rw [hcat]
     refine (QD HS2.out (((hf.need _).fits (mk ps) U).mono (by omega)) (HT.out _ (below_grown (za HG0.out HG2.out) hb hlow)) hb (ofT S) hof).mono ?_
     rintro e w3 ⟨rfl, hs, hg⟩
     have HS3 := zH hs
     have HG3 := zH (za HG2.out hg)
     have HX3 := zH (zo HX2.out hg hqb)
     have k2 := HX3.out.cell 2
     have k4 := HX3.out.cell 4
     have kl := HX3.out.lt
     clear hs hg
     go_wp2_with fail
     go_end0
     exact ⟨rfl, by rw [hd, hu]; exact HS3.out, za HG0.out HG3.out⟩
end KrF
end Go.Proofs.YtehainbhoflpnaaGreatDoor
