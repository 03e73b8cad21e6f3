/- pieces -/
import Derived.Test.YtehainbhoflpnaaGreatDoorK26
namespace Go.Proofs.YtehainbhoflpnaaGreatDoor
namespace TabD
open Go.RowKit Base BinM Stru DescM DescW DescX DescR DescS DescG DescP DescQ HierS HierT HierM HierC HierD HierN HierV HierR HierU HierQ Kls KlsP KlsQ OpenK TabC TabM TabK TabP TabE TabB TabG TabH TabT TabU TabV TabX TabW TabF TabN TabO TabY TabI TabR TabQ
theorem JJ {α : Type} (p : α → Bool) (x : α) (r : List α) : zD p (x :: r) = if p x = true then 0 else if zD p r = -1 then -1 else zD p r + 1 := rfl
theorem vR {α : Type} (p : α → Bool) (b : List α) : ∀ a : List α, zD p (a ++ b) = if zD p a = -1 then (if zD p b = -1 then -1 else zD p b + (a.length : Int)) else zD p a
 | [] => by
   show zD p b = if (-1 : Int) = -1 then (if zD p b = -1 then -1 else zD p b + ((0 : Nat) : Int)) else -1
   rw [if_pos rfl]
   split
   · rename_i h; exact h
   · omega
 | x :: r => by
   show zD p (x :: (r ++ b)) = _
   rw [JJ, JJ]
   by_cases h : p x = true
   · rw [if_pos h, if_pos h, if_neg (by omega)]
   · rw [if_neg h, if_neg h, vR p b r]
     by_cases h1 : zD p r = -1
     · rw [if_pos h1, if_pos h1, if_pos rfl]
       by_cases h2 : zD p b = -1
       · rw [if_pos h2, if_pos h2, if_pos rfl]
       · rw [if_neg h2, if_neg h2]
         rcases qE p b with e | ⟨k, _, e⟩
         · exact absurd e h2
         · rw [if_neg (by omega), List.length_cons]; omega
     · rw [if_neg h1, if_neg h1]
       rcases qE p r with e | ⟨k, _, e⟩
       · exact absurd e h1
       · rw [if_neg (by omega)]
theorem vQ {α β : Type} (p : β → Bool) (f : α → β) : ∀ l : List α, zD p (l.map f) = zD (fun x => p (f x)) l
 | [] => rfl
 | x :: r => by
   show zD p (f x :: r.map f) = _
   rw [JJ, JJ, vQ p f r]
def qU (L : List zf) (nm d : T) : Bool := decide (0 ≤ zD (qP nm) (ZR d L).fields)
theorem zq2 {L : List zf} {nm d : T} (h : L.find? (named d) = none) : qU L nm d = false := by
 unfold qU ZR
 rw [h]; rfl
def zx3 (L : List zf) (nm q : T) (l : List T) : Prop :=
 (zD (zY nm) (hav L q).1 = -1 → ∀ d ∈ l, qU L nm d = false) ∧
  (∀ j (hj : j < (hav L q).1.length), zD (zY nm) (hav L q).1 = (j : Int) → ∃ i, ∃ hi : i < l.length, l[i] = (hav L q).1[j].cls ∧ qU L nm l[i] = true ∧ ∀ k (hk : k < l.length), i < k → qU L nm l[k] = false)
theorem zc9 {ps : List P2} {L : List zf} (U : Ups ps L) {nm : T} {q : T} {l : List T} (hw : Zz (mk ps).up q l) : L.find? (named q) = none → ∀ d ∈ l, qU L nm d = false := by
 induction hw with
 | @top q hu =>
   intro h d hd
   simp only [List.mem_singleton] at hd
   subst hd
   exact zq2 h
 | @step q d l hu hw ih =>
   intro h e he
   rcases List.mem_cons.1 he with rfl | he
   · exact zq2 h
   · exact ih (U.no _ _ h hu) e he
theorem owner {ps : List P2} {L : List zf} (U : Ups ps L) (nm : T) {q : T} {l : List T} (hw : Zz (mk ps).up q l) : l.length ≤ 41 → zx3 L nm q l := by
 induction hw with
 | @top q hu =>
   intro _
   have hn : L.find? (named q) = none := by
    cases hk : L.find? (named q) with
    | none => rfl
    | some k => rw [U.up q k hk] at hu; cases hu
   refine ⟨fun _ => zc9 U (.top hu) hn, fun j hj _ => ?_⟩
   rw [jM hn] at hj
   simp at hj
 | @step q d l hu hw ih =>
   intro hl
   cases hk : L.find? (named q) with
   | none =>
     refine ⟨fun _ => zc9 U (.step hu hw) hk, fun j hj _ => ?_⟩
     rw [jM hk] at hj
     simp at hj
   | some k =>
     have e : k.sup = d := by
      have := (U.up q k hk).symm.trans hu
      injection this
     have hh : (hav L q).1 = (hav L d).1 ++ k.fields.map (Xq k.name) := by
      rw [YQ U.up (.step hu hw) hl hk, e]; rfl
     obtain ⟨ih1, ih2⟩ := ih (by simp at hl; omega)
     have hkq : ZR q L = k := by unfold ZR; rw [hk]; rfl
     have hmp : zD (zY nm) (k.fields.map (Xq k.name)) = zD (qP nm) k.fields := by rw [vQ]; rfl
     have hnq : k.name = q := (jK hk).2
     unfold zx3
     rw [hh, vR, hmp]
     by_cases h1 : zD (zY nm) (hav L d).1 = -1
     · rw [if_pos h1]
       by_cases h2 : zD (qP nm) k.fields = -1
       · rw [if_pos h2]
         refine ⟨fun _ x hx => ?_, fun j hj hjj => by omega⟩
         rcases List.mem_cons.1 hx with rfl | hx
         · unfold qU; rw [hkq, h2]; rfl
         · exact ih1 h1 x hx
       · rw [if_neg h2]
         rcases qE (qP nm) k.fields with e2 | ⟨m, hm, e2⟩
         · exact absurd e2 h2
         · refine ⟨fun h => by omega, fun j hj hjj => ⟨0, by simp, ?_, ?_, ?_⟩⟩
           · have hjl : j = (hav L d).1.length + m := by omega
             subst hjl
             rw [List.getElem_append_right (by omega)]
             simp only [List.getElem_cons_zero, List.getElem_map]
             exact hnq.symm
           · show qU L nm q = true
             unfold qU; rw [hkq, e2]; simp
           · intro i hi h0
             cases i with
             | zero => omega
             | succ i => exact ih1 h1 _ (List.getElem_mem (by simpa using hi))
     · rw [if_neg h1]
       refine ⟨fun h => absurd h h1, fun j hj hjj => ?_⟩
       rcases qE (zY nm) (hav L d).1 with e2 | ⟨m, hm, e2⟩
       · exact absurd e2 h1
       · have hjm : j = m := by omega
         subst hjm
         obtain ⟨i, hi, k1, k2, k3⟩ := ih2 j hm e2
         refine ⟨i + 1, by simpa using hi, ?_, k2, ?_⟩
         · rw [List.getElem_append_left hm]
           exact k1
         · intro x hx h0
           cases x with
           | zero => omega
           | succ x => exact k3 x (by simpa using hx) (by omega)
def yx (p : Zi → Bool) (l : List Zi) (k : Nat) : Int := if zD p (l.drop k) = -1 then -1 else zD p (l.drop k) + (k : Int)
theorem gP (p : Zi → Bool) (l : List Zi) : yx p l 0 = zD p l := by
 unfold yx
 rw [List.drop_zero]
 split
 · rename_i h; exact h.symm
 · simp
theorem zw5 (p : Zi → Bool) (l : List Zi) : yx p l l.length = -1 := by
 unfold yx
 rw [List.drop_length]; rfl
theorem V4 {p : Zi → Bool} {l : List Zi} {k : Nat} (hk : k < l.length) : yx p l k = if p l[k] = true then (k : Int) else yx p l (k + 1) := by
 unfold yx
 rw [List.drop_eq_getElem_cons hk]
 show (if (if p l[k] = true then (0 : Int) else if zD p (l.drop (k + 1)) = -1 then -1 else zD p (l.drop (k + 1)) + 1) = -1 then (-1 : Int) else (if p l[k] = true then (0 : Int) else if zD p (l.drop (k + 1)) = -1 then -1 else zD p (l.drop (k + 1)) + 1) + (k : Int)) = _
 by_cases h : p l[k] = true
 · rw [if_pos h, if_pos h, if_neg (by omega)]; omega
 · rw [if_neg h, if_neg h]
   by_cases h1 : zD p (l.drop (k + 1)) = -1
   · rw [if_pos h1, if_pos rfl, if_pos h1]
   · rw [if_neg h1, if_neg h1]
     rcases qE p (l.drop (k + 1)) with e | ⟨m, _, e⟩
     · exact absurd e h1
     · rw [if_neg (by omega)]; omega
theorem zr8 {w : World} {L : List zf} (h : ∀ x ∈ L, x.is w) (d : T) : (ZR d L).is w := by
 unfold ZR
 cases hf : L.find? (named d) with
 | none => exact Zl3 w
 | some k => exact h k (List.mem_of_find?_eq_some hf)
theorem zf3 {l : List Zi} {j : Nat} (hj : j < l.length) : (l.map YW)[j]'(by simpa using hj) = ⟨l[j].name, l[j].desc⟩ := by rw [List.getElem_map]; rfl
set_option maxRecDepth 100000 in
set_option maxHeartbeats 16000000 in
theorem U9 {lo : Nat} {w : World} {r g : Nat} {A : Option Addr} {c : Nat} {ps : List P2} {L : List zf} (H : RT lo w r g A c ps L) (U : Ups ps L) (hC : HierQ.Can ps) (q nm : T) :
 Calls Tryz.prog 63 #[.pointer (some ⟨r, 0, none⟩), .string ⟨q.toArray⟩, .string ⟨nm.toArray⟩] w fun e w' => ZO (hav L q).1 nm e ∧ Below w.heap.size w w' := by
 have hb0 : Below w.heap.size w (w.alloc (.cells #[.string ⟨#[]⟩, .string ⟨#[]⟩] 125)) := (Below.refl _ _).alloc (Nat.le_refl _) _
 have HH := zH (Xl (H.ext hb0) U q)
 have HB := zH hb0
 have HR := zH (Bx.new w #[.string ⟨#[]⟩, .string ⟨#[]⟩] 125)
 have HT := zH (fun W (hb : Below w.heap.size w W) => H.ext hb)
 have hl5 := (yO U.few q).1
 have HU := zH U
 have HCan := zH hC
 have hml : L.length ≤ 100000 := by have := U.len; omega
 clear H U hb0 hC
 go_enter Tryz.func63, Tryz.ntmps63
 go_wp2_with fail
 refine HH.out.mono ?_
 rintro e w1 ⟨v1, rfl, ho1, hb1⟩
 have hln : ((hav L q).1.map YW).length = (hav L q).1.length := by simp
 obtain ⟨A1, c1, rfl, _, _, hlo1, _⟩ := zS ho1
 have HLo1 := zH (show ∀ a, A1 = some a → w.heap.size + 1 ≤ a.block from fun a ha => by have := (hlo1 a ha).1; simpa using this)
 have hw1 := zH (show w.heap.size + 1 ≤ w1.heap.size from by have := hb1.size; simpa using this)
 clear hlo1
 have Hrd := zH (Rds.qU ho1)
 rw [hln]
 have R1 := zH (HR.out.after hb1)
 have B1 := zH (HB.out.trans (hb1.mono HB.out.size))
 have HOw := zH (fun (l : List T) (hw : Zz (mk ps).up q l) (hl : l.length ≤ 41) => owner HU.out nm hw hl)
 have HCh := zH (show zD (zY nm) (hav L q).1 ≠ -1 → Zz (mk ps).up q ((mk ps).chain q) ∧ ((mk ps).chain q).length ≤ 41 from fun hne => by
  have hk : L.find? (named q) ≠ none := by
   intro hn
   rw [jM hn] at hne
   exact hne rfl
  have h1 := Jt HCan.out.good (HU.out.ins q hk)
  refine ⟨h1, ?_⟩
  have h2 := jA HCan.out.good q
  have h3 : (mk ps).names.length ≤ 41 := by have := HCan.out.few; simp [mk, nms, full, alw]; omega
  omega)
 clear ho1 hb1 hln
 unfold zx3 at HOw
 generalize hEq : (hav L q).1 = l at *
 have HEq := zH hEq
 clear hEq
 go_wp2_with fail
 go_loopw [10, 11] (fun at_ i wr => ∃ x : Int, -1 ≤ x ∧ x < (l.length : Int) ∧ i = .int .i64 x ∧ at_ = .int .i64 (yx (zY nm) l (x + 1).toNat) ∧ w1 = wr) (fun _ i _ => (intOf i + 1).toNat)
 case atStart =>
  refine ⟨(l.length : Int) - 1, by omega, by omega, rfl, ?_, rfl⟩
  rw [show ((l.length : Int) - 1 + 1).toNat = l.length by omega, zw5]
 case round =>
  obtain ⟨x, hx0, hxl, rfl, rfl, rfl⟩ := hrel
  by_cases h0 : 0 ≤ x
  · obtain ⟨k, rfl⟩ : ∃ k : Nat, x = (k : Int) := ⟨x.toNat, by omega⟩
    have hlt : k < l.length := by omega
    obtain ⟨b, o, rfl, hb, d0, d1⟩ := JI Hrd.out (show k < (l.map YW).length by simpa using hlt)
    rw [zf3 hlt] at d0 d1
    have Hst := zH (V4 (p := zY nm) hlt)
    have hkn : ((k : Int) + 1).toNat = k + 1 := by omega
    rw [hkn]
    have hq2 : zY nm l[k] = (l[k].name == nm) := rfl
    rw [hq2] at Hst
    generalize yx (zY nm) l (k + 1) = BA at *
    generalize l[k] = y at *
    obtain ⟨y0, y1, y2⟩ := y
    simp only at d0 d1 Hst
    clear hq2
    cases hq : (y0 == nm)
    · have Hq := zH (show yx (zY nm) l k = BA from by rw [Hst.out, hq]; rfl)
      go_wp2_with fail
      go_roundw
      case rel => exact ⟨(k : Int) - 1, by omega, by omega, by go_num, by rw [show ((k : Int) - 1 + 1).toNat = k by omega, Hq.out], trivial⟩
      case measure => simp [intOf]
    · have Hq := zH (show yx (zY nm) l k = (k : Int) from by rw [Hst.out, hq]; rfl)
      go_wp2_with fail
      go_roundw
      case rel => exact ⟨(k : Int) - 1, by omega, by omega, by go_num, by rw [show ((k : Int) - 1 + 1).toNat = k by omega, Hq.out], trivial⟩
      case measure => simp [intOf]
  · have hx1 : x = -1 := by omega
    subst hx1
    rw [show ((-1 : Int) + 1).toNat = 0 from rfl, gP]
    have f0 := R1.out.free 0
    have f1 := R1.out.free 1
    have r0 := R1.out.cell 0
    have r1 := R1.out.cell 1
    rcases qE (zY nm) l with he | ⟨j, hj, he⟩
    · have HE := zH he
      rw [he]
      clear he
      go_wp2_with fail
      have HW : Bx ((w1.setCell ⟨w.heap.size, 0, none⟩ (.string ⟨#[]⟩)).setCell ⟨w.heap.size, 1, none⟩ (.string ⟨#[]⟩)) w.heap.size #[.string ⟨#[]⟩, .string ⟨#[]⟩] 125 := (R1.out.set 0 (.string ⟨#[]⟩)).set 1 (.string ⟨#[]⟩)
      exact bodyPost_ret (v := .tuple #[.agg #[.string ⟨#[]⟩, .string ⟨#[]⟩], .string ⟨#[]⟩, .int .i64 (-1)]) (XD Tryz.results63 _ _ _ _ rfl (run_loadVar_row _ _ _ _ #[.string ⟨#[]⟩, .string ⟨#[]⟩] (0, 0) _ HW Tryz.underlying125 rfl Xw)) rfl ⟨by rw [HEq.out]; exact .inl ⟨HE.out, rfl⟩, (B1.out.setCell (p := ⟨w.heap.size, 0, none⟩) (Nat.le_refl _) _).setCell (p := ⟨w.heap.size, 1, none⟩) (Nat.le_refl _) _⟩
    · have HE := zH he
      obtain ⟨hway, hwl⟩ := HCh.out (by rw [he]; omega)
      obtain ⟨_, hown⟩ := HOw.out _ hway hwl
      obtain ⟨i, hi, k1, k2, k3⟩ := hown j hj he
      rw [he]
      have hbx := (HT.out _ B1.out).box
      have b0 := hbx.cell 0
      have hgl := hbx.lt
      have HCn := zH (Uj lo g ps q w1 (HT.out _ B1.out).hier (HT.out _ B1.out).base HCan.out)
      clear he hway hbx hown
      generalize (mk ps).chain q = ch at *
      have hjn : ¬ (j : Int) < 0 := by omega
      go_wp2_with fail
      refine HCn.out.mono ?_
      rintro e w2 ⟨v2, rfl, ho2, hb2⟩
      obtain ⟨A2, c2, rfl, _, _, hrd2, hlo2⟩ := ho2.slice
      have HLo2 := zH (show ∀ a, A2 = some a → w.heap.size + 1 ≤ a.block from fun a ha => by have := (hlo2 a ha).1; have := hw1.out; omega)
      clear hlo2
      have R2 := zH hrd2
      have hcl : ch.length ≤ 41 := hwl
      have HB2 := zH (B1.out.trans (hb2.mono B1.out.size))
      have RB2 := zH (R1.out.after hb2)
      have Hrd2 := zH (Hrd.out.below hb2)
      have HI := zH (And.intro k2 k3)
      have HI1 := zH k1
      have Z2 := zH (Below.refl w2.heap.size w2)
      clear ho2 hb2 hrd2 k1 k2 k3 f0 f1 r0 r1 b0 hwl
      go_wp2_with fail
      go_loopw [13] (fun i wr => ∃ x : Int, -1 ≤ x ∧ x < (ch.length : Int) ∧ i = .int .i64 x ∧ (∀ k (hk : k < ch.length), x < (k : Int) → qU L nm ch[k] = false) ∧ Below w2.heap.size w2 wr) (fun i _ => (intOf i + 1).toNat)
      case atStart => exact ⟨(ch.length : Int) - 1, by omega, by omega, rfl, fun k hk h => by omega, Z2.out⟩
      case round =>
       obtain ⟨x, hx0, hxl, rfl, hno, hbw⟩ := hrel
       have Hno := zH hno
       have Hbw := zH hbw
       have HBw := zH (HB2.out.trans (hbw.mono HB2.out.size))
       by_cases h0 : 0 ≤ x
       · obtain ⟨k, rfl⟩ : ∃ k : Nat, x = (k : Int) := ⟨x.toNat, by omega⟩
         have hlt : k < ch.length := by omega
         obtain ⟨b3, o3, hA3, hb3, hc3⟩ := (R2.out.below hbw).at_ (k := k) (by simpa using hlt)
         rw [List.getElem_map] at hc3
         subst hA3
         have hbn := HLo2.out _ rfl
         simp only at hbn
         have HCl := zH (jP (HT.out _ HBw.out) hml ch[k])
         have HF := zH (fun W (hb : Below w.heap.size w W) => uh (ZR ch[k] L) nm W (zr8 (HT.out W hb).each ch[k]))
         have hoB : qU L nm ch[k] = decide (0 ≤ zD (qP nm) (ZR ch[k] L).fields) := rfl
         have HK := zH (show 0 ≤ zD (qP nm) (ZR ch[k] L).fields → ch[k] = l[j].cls from fun h => by
          have h1 : qU L nm ch[k] = true := by rw [hoB]; simpa using h
          have h2 : k = i := by
           rcases Nat.lt_trichotomy k i with h3 | h3 | h3
           · have := Hno.out i hi (by omega)
             rw [HI.out.1] at this; cases this
           · exact h3
           · have := HI.out.2 k hlt h3
             rw [h1] at this; cases this
          subst h2
          exact HI1.out)
         have Hnx := zH (show ¬ 0 ≤ zD (qP nm) (ZR ch[k] L).fields → ∀ k' (hk : k' < ch.length), (k : Int) - 1 < (k' : Int) → qU L nm ch[k'] = false from fun h k' hk' hkk => by
          by_cases e : k' = k
          · subst e; rw [hoB]; simpa using h
          · exact Hno.out k' hk' (by omega))
         clear hno hbw hoB
         generalize zD (qP nm) (ZR ch[k] L).fields = F at *
         generalize ZR ch[k] L = kc at *
         generalize hchk : ch[k] = ck at *
         clear hchk
         unfold sv at hc3
         go_wp2_with fail
         refine HCl.out.mono ?_
         rintro e w4 ⟨rfl, hb4⟩
         simp only [zf.V]
         have B4 := zH (HBw.out.trans (hb4.mono HBw.out.size))
         have Z4 := zH (Hbw.out.trans (hb4.mono Hbw.out.size))
         have HF5 := zH (HF.out _ (B4.out.alloc B4.out.size (.cells #[.string ⟨kc.name.toArray⟩, .string ⟨kc.sup.toArray⟩, .slice kc.kA kc.km kc.kc, .slice kc.fA kc.fm kc.fc, .slice kc.mA kc.mm kc.mc] 81)))
         simp only [zf.V] at HF5
         have hc4 := (hb4.cell (p := ⟨b3, o3 + k, none⟩) hb3).trans hc3
         have hb34 : b3 < w4.heap.size := Nat.lt_of_lt_of_le hb3 hb4.size
         clear hb4 hc3
         go_wp2_with fail
         refine HF5.out.mono ?_
         rintro e w5 ⟨rfl, hb5⟩
         have hb45 : Below w4.heap.size w4 w5 := ((Below.refl _ _).alloc (Nat.le_refl _) _).trans (hb5.mono (by simp))
         have B5 := zH (B4.out.trans (hb45.mono B4.out.size))
         have Z5 := zH (Z4.out.trans (hb45.mono Z4.out.size))
         have hc5 := (hb45.cell (p := ⟨b3, o3 + k, none⟩) hb34).trans hc4
         clear hb5 hb45 hc4
         by_cases hF : 0 ≤ F
         · have R5 := zH (RB2.out.after Z5.out)
           have f0 := R5.out.free 0
           have f1 := R5.out.free 1
           have r0 := R5.out.cell 0
           have r1 := R5.out.cell 1
           obtain ⟨b, o, hA1, hb, d0, d1⟩ := JI (Hrd2.out.below Z5.out) (show j < (l.map YW).length by simpa using hj)
           rw [zf3 hj] at d0 d1
           have HKc := zH (HK.out hF)
           have HJ := zH (show ∀ e, e = Ending.returned (.tuple #[.agg #[.string ⟨l[j].name.toArray⟩, .string ⟨l[j].desc.toArray⟩], .string ⟨l[j].cls.toArray⟩, .int .i64 (j : Int)]) → ZO l nm e from fun e he => .inr ⟨j, hj, HE.out, he⟩)
           rw [← HKc.out] at HJ
           have hj1 : (j : Int) < (l.length : Int) := by omega
           have hj0 : (0 : Int) ≤ (j : Int) := by omega
           have hk1 : (k : Int) < (ch.length : Int) := by omega
           generalize l[j] = y at *
           obtain ⟨y0, y1, y2⟩ := y
           simp only at d0 d1 HJ
           have hbm := HLo1.out _ hA1
           simp only at hbm
           have n1 : ¬ b3 = w.heap.size := by omega
           have n2 : ¬ w.heap.size = b3 := by omega
           have n3 : ¬ b = w.heap.size := by omega
           have n4 : ¬ w.heap.size = b := by omega
           rw [hA1]
           go_wp2_with fail
           go_region
           go_wp2_with fail
           have HW : Bx ((w5.setCell ⟨w.heap.size, 0, none⟩ (.string ⟨y0.toArray⟩)).setCell ⟨w.heap.size, 1, none⟩ (.string ⟨y1.toArray⟩)) w.heap.size #[.string ⟨y0.toArray⟩, .string ⟨y1.toArray⟩] 125 := (R5.out.set 0 (.string ⟨y0.toArray⟩)).set 1 (.string ⟨y1.toArray⟩)
           exact bodyPost_ret (v := .tuple #[.agg #[.string ⟨y0.toArray⟩, .string ⟨y1.toArray⟩], .string ⟨ck.toArray⟩, .int .i64 (j : Int)]) (XD Tryz.results63 _ _ _ _ rfl (run_loadVar_row _ _ _ _ #[.string ⟨y0.toArray⟩, .string ⟨y1.toArray⟩] (0, 0) _ HW Tryz.underlying125 rfl Xw)) rfl ⟨by rw [HEq.out]; exact HJ.out _ rfl, ((B5.out.setCell (p := ⟨w.heap.size, 0, none⟩) (Nat.le_refl _) _).setCell (p := ⟨w.heap.size, 1, none⟩) (Nat.le_refl _) _).drew⟩
         · have Hq := zH (Hnx.out (by omega))
           go_wp2_with fail
           go_roundw
           case rel => exact ⟨(k : Int) - 1, by omega, by omega, by go_num, Hq.out, Z5.out⟩
           case measure => simp [intOf]
       · exfalso
         have := Hno.out i hi (by omega)
         rw [HI.out.1] at this
         cases this
end TabD
end Go.Proofs.YtehainbhoflpnaaGreatDoor
