/- pieces -/
import Derived.Test.YtmkdhdmkdcankaaGreatDoorK36
namespace Go.Proofs.YtmkdhdmkdcankaaGreatDoor
namespace ClW
open Go.RowKit Base BinM HpM HpA HpB HpG HpT HpZ ClM LnkC ClA ClB ClC ClL ClR ClS ClT ClU ClV
def UC (ts : List Th) (f : Int → Option Int) (roots : List Int) : Int × List Int :=
 if (zn ts roots).1 = 0 then (if (zn ts roots).2.all (fun x => (f x).isNone) then (0, (zn ts roots).2) else (22, [])) else ((zn ts roots).1, [])
def Us (F : Nat → Prop) (w : World) (hg most : Nat) (ts : List Th) (n : Nat) (f : Int → Option Int) (roots : List Int) (e : Ending) (w' : World) : Prop :=
 ((UC ts f roots).1 ≠ 0 ∧ e = .returned (.tuple #[.pointer none, .slice none 0 0, .int .i64 (UC ts f roots).1]) ∧ Below w.heap.size w w') ∨
 ((UC ts f roots).1 = 0 ∧ ∃ (g2 b : Nat) (out : List Int), zn ts roots = (0, out) ∧ e = .returned (.tuple #[.pointer (some ⟨g2, 0, none⟩), .slice (some ⟨b, 0, none⟩) roots.length roots.length, .int .i64 0]) ∧
   TwS F w w' hg g2 most ts (out.map (cpT ts (zh ts f out))) (n + out.length) (zh ts f out) [(some ⟨b, 0, none⟩, (roots.map (fun x => (zh ts f out x).getD 0)).map (Value.int .i64))] ∧ ClM.Good (adr 0 ts) out ∧ w.heap.size ≤ b)
theorem all_take {f : Int → Option Int} {out : List Int} {k : Nat} (hk : k < out.length) (h : ∀ x ∈ out.take k, f x = none) (hx : f out[k] = none) : ∀ x ∈ out.take (k + 1), f x = none := by
 intro x hm
 rw [List.take_succ_eq_append_getElem hk, List.mem_append, List.mem_singleton] at hm
 rcases hm with hm | rfl
 · exact h x hm
 · exact hx
theorem yI {A out : List Int} (h : ClM.Good A out) (k : Nat) : ClM.Good A (out.take k) := ⟨fun x hx => h.sub x (List.mem_of_mem_take hx), h.nodup.sublist (List.take_sublist _ _)⟩
theorem Kv {out : List Int} (hn : out.Nodup) {k : Nat} (hk : k < out.length) : out[k] ∉ out.take k := by
 intro hm
 have h2 : out = out.take k ++ out[k] :: out.drop (k + 1) := by rw [← List.drop_eq_getElem_cons hk, List.take_append_drop]
 rw [h2, List.nodup_append] at hn
 exact hn.2.2 _ hm _ List.mem_cons_self rfl
theorem zs_next {ts : List Th} {out : List Int} {k : Nat} (hk : k < out.length) {t : Th} (ht : Zp ts out[k] = some t) : zs ts (out.take (k + 1)) = zs ts (out.take k) ++ [⟨t.id, List.replicate t.W.length 0, 0⟩] := by
 unfold zs
 rw [List.take_succ_eq_append_getElem hk, List.map_append]
 simp [QA, ht]
theorem send_copy {F : Nat → Prop} {w0 wr : World} {hg g2 most : Nat} {pp : List Th} {th : Th} {rr ns : List Th} {n : Nat} {f : Int → Option Int} (T : TwE F w0 wr hg g2 most (pp ++ th :: rr) ns n f) (Ft : Fits most (pp ++ th :: rr)) (hn : n ≤ 80000) (hf : f (((raw pp).length + 1 : Nat) : Int) = none) {v : Nat} (hv : v ≤ 100000) :
 Calls Tryz.prog 54 #[.pointer (some ⟨hg, 0, none⟩), .int .i64 (((raw pp).length + 1 : Nat) : Int), .int .i64 ((v + 1 : Nat) : Int)] wr fun e w' => e = .returned (.int .i64 0) ∧ TwE F w0 w' hg g2 most (pp ++ th :: rr) ns (n + 1) (fun c => if c = (((raw pp).length + 1 : Nat) : Int) then some ((v + 1 : Nat) : Int) else f c) := by
 obtain ⟨a1, a2, a3, a4, a5, a6, a7, a8, a9, a10, a11, a12, T⟩ := T
 have hE : HpE.JF (f (((raw pp).length + 1 : Nat) : Int)) ((v + 1 : Nat) : Int) = 0 := by
  unfold HpE.JF
  rw [if_neg (by omega), hf]
  rfl
 refine (HpE.send_yes T.h Ft hn ((v + 1 : Nat) : Int) (by unfold zo; omega)).mono ?_
 rintro e w' ⟨rfl, (⟨h1, _⟩ | ⟨_, h2⟩)⟩
 · exact absurd hE h1
 · exact ⟨by rw [hE], T.nextH h2⟩
section
open HierS HierT LnkS Kls TabP TabB
variable {lo : Nat} {w : World} {p y t g mb nn : Nat} {A : Option Addr} {c : Nat} {h : Hr} {L : List za} {ff : T → Option zO} {ns : List T}
 {hg mp : Nat} {Aw : Option Addr} {cw : Nat} {Aa : Option Addr} {ca most : Nat} {kk : Nat} {f : Int → Option Int}
set_option maxRecDepth 100000 in
set_option maxHeartbeats 32000000 in
theorem XJ {ts : List Th} (PG : ∀ w', Turned (zQ hg mp Aw Aa) w w' → Pg lo w' p y t g mb nn A c h L ff ns) (hsp : ∀ i : Nat, ZF h L (LnkA.zG ns (i : Int)) = shp i) (H : HpX w hg mp Aw cw Aa ca most (raw ts) (adr 0 ts) kk f) (Ft : Fits most ts) (hm16 : 16 ≤ most) (hts : ts.length ≤ 4096) (hkk : kk ≤ 60000)
 (hf : ∀ v, zo ((f v).getD 0)) {Ar : Option Addr} {cr : Nat} {roots : List Int} (R : Rds w Ar (roots.map (Value.int .i64))) (hRf : ∀ a, Ar = some a → roots.map (Value.int .i64) ≠ [] → ¬ zQ hg mp Aw Aa a.block) (hrl : roots.length ≤ 100000) (hfr : ∀ x ∈ roots, zo x) :
 Calls Tryz.prog 21 #[.pointer (some ⟨hg, 0, none⟩), .pointer (some ⟨p, 0, none⟩), .slice Ar roots.length cr] w (Us (zQ hg mp Aw Aa) w hg most ts kk f roots) := by
 have HRe := zH (xH (cr := cr) (PG w (Turned.refl _ _)) hsp H Ft (by omega) R hrl hfr)
 have HH := zH (fun wr (hb : Below w.heap.size w wr) => H.beside hb)
 have HFt := zH Ft
 have HFe := zH (fun k (hk : zQ hg mp Aw Aa k) => H.lt hk)
 have HPG := zH PG
 have HR := zH R
 have HRF := zH hRf
 have HFR := zH hfr
 have HF0 := zH hf
 have hgd := @Zu ts roots
 have hrefs := @Xt ts roots
 have hrE : UC ts f roots = if (zn ts roots).1 = 0 then (if (zn ts roots).2.all (fun x => (f x).isNone) then (0, (zn ts roots).2) else (22, [])) else ((zn ts roots).1, []) := rfl
 have hmt := Ft.top
 generalize hre : zn ts roots = re at *
 obtain ⟨e0, out⟩ := re
 have HRE := zH hre
 by_cases h0 : e0 = 0
 · subst h0
   rw [if_pos rfl] at hrE
   simp only at hrE
   have HG := zH (hgd rfl)
   have HRs := zH (hrefs rfl)
   have hol := HG.out.len
   rw [qd] at hol
   have HE := zH hrE
   clear H Ft R hRf hfr hgd hrefs hrE hf PG hre
   go_enter Tryz.func21, Tryz.ntmps21
   go_wp2_with (go_at_call 10; refine HRe.out.mono ?_; rintro e w1 ⟨A1, c1, rfl, hr1, hb1, ha1⟩; have HR1 := zH hr1; have HB1 := zH hb1; have HA1 := zH ha1; clear hr1 hb1 ha1)
   go_loop [32] (fun i => ∃ k : Nat, k ≤ out.length ∧ i = .int .i64 (k : Int) ∧ ∀ x ∈ out.take k, f x = none) (fun i => out.length - (intOf i).toNat)
   case atStart => exact ⟨0, Nat.zero_le _, rfl, by simp⟩
   case round =>
    obtain ⟨k, hk, rfl, hno⟩ := hrel
    have HNo := zH hno
    clear hno
    by_cases hlt : k < out.length
    · obtain ⟨b, oo, hA, hb1, hc0⟩ := HR1.out.at_ (k := k) (by simpa using hlt)
      rw [List.getElem_map] at hc0
      subst hA
      have hfx : zo out[k] := by
       have h1 := QO ts 0 _ (HG.out.sub _ (List.getElem_mem hlt))
       have h2 := HFt.out.len
       unfold zo
       omega
      have HS := zH (HpE.YI (HH.out w1 HB1.out) out[k] hfx)
      cases hq : f out[k] with
      | some v =>
        rw [hq] at HS
        have HEn := zH (show UC ts f roots = (22, []) by
         rw [HE.out, if_neg]
         rw [List.all_eq_true]
         intro h
         have := h _ (List.getElem_mem hlt)
         rw [hq] at this
         cases this)
        clear hq hfx
        generalize out[k] = x at *
        go_wp2_with (go_at_call 25; refine HS.out.mono ?_; rintro e w' ⟨rfl, rfl⟩)
        go_ret3
        exact .inl ⟨by rw [HEn.out]; decide, by rw [HEn.out]; rfl, HB1.out⟩
      | none =>
        rw [hq] at HS
        have HNx := zH (all_take hlt HNo.out hq)
        clear hq hfx
        generalize out[k] = x at *
        go_wp2_with (go_at_call 25; refine HS.out.mono ?_; rintro e w' ⟨rfl, rfl⟩)
        go_round
        case rel => exact ⟨k + 1, by omega, by go_num, HNx.out⟩
        case measure => simp [intOf]; omega
    · have HAl : Hid (∀ x ∈ out, f x = none) := zH (by have := HNo.out; rwa [List.take_of_length_le (by omega)] at this)
      have HEn := zH (show UC ts f roots = (0, out) by
       rw [HE.out, if_pos]
       rw [List.all_eq_true]
       intro x hx
       rw [HAl.out x hx]; rfl)
      have HEm := zH (empty_any (HH.out w1 HB1.out) hm16 hmt)
      go_wp2_with (go_at_call 53; refine HEm.out.mono ?_; rintro e w2 ⟨g2, mb2, rfl, hgl, hml, hx2, hb2⟩; have HX2 := zH hx2; have HB2 := zH hb2; clear hx2 hb2)
      have HT0 : Hid (TwE (zQ hg mp Aw Aa) w1 w2 hg g2 most ts (zs ts (out.take 0)) (kk + 0) (zh ts f (out.take 0))) := zH (by
       have hX := (HH.out w1 HB1.out).beside HB2.out
       refine ⟨mp, Aw, cw, Aa, ca, mb2, none, 0, none, 0, 0, (fun _ => none), ⟨?_, ?_, fun k hk h2 => ?_, fun k hk => ?_, fun k hk => .inl hk, Turned.of_below HB2.out, rfl, rfl⟩⟩
       · rw [List.take_zero, zm1]; exact hX
       · exact HX2.out
       · have h3 := HFe.out k hk
         have h4 := HB1.out.size
         rcases h2 with rfl | rfl | ⟨a, ha, _⟩ | ⟨a, ha, _⟩
         · omega
         · omega
         · cases ha
         · cases ha
       · rcases hk with rfl | rfl | ⟨a, ha, _⟩ | ⟨a, ha, _⟩
         · exact hgl
         · exact hml
         · cases ha
         · cases ha)
      have HFz : Hid (Fits most (zs ts (out.take 0))) := zH (by
       have := JW HFt.out HF0.out (yI HG.out 0) 0
       rwa [uR] at this)
      have HRow : Hid (∀ wr, Turned (zQ hg mp Aw Aa) w1 wr → Rds wr A1 (out.map (Value.int .i64))) := zH (fun wr ht => Qu HR1.out (fun a ha _ hk => by
       have h3 := HFe.out _ hk
       have h4 := HA1.out a ha
       omega) ht)
      clear hgl hml
      go_loopw [48] (fun i wr => ∃ k : Nat, k ≤ out.length ∧ i = .int .i64 (k : Int) ∧ TwE (zQ hg mp Aw Aa) w1 wr hg g2 most ts (zs ts (out.take k)) (kk + k) (zh ts f (out.take k))) (fun i _ => out.length - (intOf i).toNat)
      case atStart => exact ⟨0, Nat.zero_le _, rfl, HT0.out⟩
      case round =>
       obtain ⟨k, hk, rfl, hT⟩ := hrel
       have HT := zH hT
       obtain ⟨a1, a2, a3, a4, a5, a6, a7, a8, a9, a10, a11, a12, hT1⟩ := hT
       have htur := hT1.tur
       by_cases hlt : k < out.length
       · obtain ⟨b, oo, hA, hb1, hc0⟩ := (HRow.out _ htur).at_ (k := k) (by simpa using hlt)
         rw [List.getElem_map] at hc0
         subst hA
         obtain ⟨pp, th, rr, hts2, hx⟩ := Za (HG.out.sub _ (List.getElem_mem hlt))
         rw [Nat.zero_add] at hx
         have hth : Zp ts out[k] = some th := by rw [hts2, hx]; exact Zl pp th rr
         have hzn := zs_next hlt hth
         have hroom : (raw (zs ts (out.take k))).length + 1 + th.W.length ≤ most := by
          have h1 := vw hlt hth
          have h2 := xD (yI HG.out (k + 1))
          have h3 := HFt.out.len
          rw [uL]
          omega
         have hfz : Fits most (zs ts (out.take k)) := by
          have := JW HFt.out HF0.out (yI HG.out k) 0
          rwa [uR] at this
         have hnone : zh ts f (out.take k) out[k] = none := by
          unfold zh
          rw [if_neg (Kv HG.out.nodup hlt)]
          exact HAl.out _ (List.getElem_mem hlt)
         have hsn : zh ts f (out.take (k + 1)) = fun c => if c = out[k] then some (((raw (zs ts (out.take k))).length + 1 : Nat) : Int) else zh ts f (out.take k) c := by
          rw [List.take_succ_eq_append_getElem hlt]
          exact GJ ts f _ _ (Kv HG.out.nodup hlt)
         have HP : Hid (Calls Tryz.prog 55 #[.pointer (some ⟨g2, 0, none⟩), .pointer (some ⟨hg, 0, none⟩), .int .i64 out[k]] wr fun e w' => e = .returned (.int .i64 (((raw (zs ts (out.take k))).length + 1 : Nat) : Int)) ∧ TwE (zQ hg mp Aw Aa) w1 w' hg g2 most ts (zs ts (out.take (k + 1))) (kk + k) (zh ts f (out.take k))) := zH (by
          rw [hzn, hx]
          have hF2 := HFt.out
          rw [hts2] at hT1 hF2
          refine (yD hT1 hF2 (by rw [← hts2]; exact hfz) (by rw [← hts2]; exact hroom)).mono ?_
          rintro e w' ⟨rfl, h2, _⟩
          rw [← hts2] at h2
          exact ⟨by rw [← hts2], h2⟩)
         have HSd : Hid (∀ w3, TwE (zQ hg mp Aw Aa) w1 w3 hg g2 most ts (zs ts (out.take (k + 1))) (kk + k) (zh ts f (out.take k)) → Calls Tryz.prog 54 #[.pointer (some ⟨hg, 0, none⟩), .int .i64 out[k], .int .i64 (((raw (zs ts (out.take k))).length + 1 : Nat) : Int)] w3 fun e w' => e = .returned (.int .i64 0) ∧ TwE (zQ hg mp Aw Aa) w1 w' hg g2 most ts (zs ts (out.take (k + 1))) (kk + (k + 1)) (zh ts f (out.take (k + 1)))) := zH (fun w3 h3 => by
          rw [hsn, hx]
          rw [hx] at hnone
          have hF2 := HFt.out
          have hts3 := hts2
          generalize zs ts (out.take (k + 1)) = zz at *
          generalize (raw (zs ts (out.take k))).length = vv at *
          generalize zh ts f (out.take k) = sf at *
          subst hts2
          exact send_copy h3 hF2 (by omega) hnone (by omega))
         clear hT1 hx hth hzn hroom hfz hnone hsn htur
         generalize out[k] = x at *
         generalize (((raw (zs ts (out.take k))).length + 1 : Nat) : Int) = V at *
         go_wp2_with (first
          | (go_at_call 55; refine HP.out.mono ?_; rintro e w3 ⟨rfl, hT3⟩; have HT3 := zH hT3; clear hT3)
          | (go_at_call 54; refine (HSd.out _ HT3.out).mono ?_; rintro e w4 ⟨rfl, hT4⟩; have HT4 := zH hT4; clear hT4))
         go_roundw
         case rel => exact ⟨k + 1, by omega, by go_num, HT4.out⟩
         case measure => simp [intOf]; omega
       · clear hT1
         have hkl : k = out.length := by omega
         subst hkl
         rw [List.take_length] at HT
         go_wp2_with fail
         have hsf := YH HFt.out HF0.out (by omega : out.length ≤ 5000) out (Nat.le_refl _)
         have HSF := zH hsf
         have HT3 : Hid (TwS (zQ hg mp Aw Aa) w1 wr hg g2 most ts (nsK ts (zh ts f out) out 0) (kk + out.length) (zh ts f out) []) := zH (by
          obtain ⟨b1, b2, b3, b4, b5, b6, b7, b8, b9, b10, b11, b12, hT2⟩ := HT.out
          rw [uR]
          exact ⟨_, _, _, _, _, _, _, _, _, _, _, _, hT2, fun r hr => by cases hr⟩)
         clear hsf HT
         go_loopw [62] (fun i wr => ∃ k : Nat, k ≤ out.length ∧ i = .int .i64 (k : Int) ∧ TwS (zQ hg mp Aw Aa) w1 wr hg g2 most ts (nsK ts (zh ts f out) out k) (kk + out.length) (zh ts f out) []) (fun i _ => out.length - (intOf i).toNat)
         case atStart => exact ⟨0, Nat.zero_le _, rfl, HT3.out⟩
         case round =>
          obtain ⟨k, hk, rfl, hT⟩ := hrel
          have HT := zH hT
          obtain ⟨a1, a2, a3, a4, a5, a6, a7, a8, a9, a10, a11, a12, hT1, _⟩ := hT
          have htur := hT1.tur
          by_cases hlt : k < out.length
          · obtain ⟨b, oo, hA, hb1, hc0⟩ := (HRow.out _ htur).at_ (k := k) (by simpa using hlt)
            rw [List.getElem_map] at hc0
            subst hA
            obtain ⟨th, ps, hth, hq⟩ := HRs.out k hlt
            obtain ⟨pp, th', rr, hts2, hx⟩ := Za (HG.out.sub _ (List.getElem_mem hlt))
            rw [Nat.zero_add] at hx
            have hth' : Zp ts out[k] = some th' := by rw [hts2, hx]; exact Zl pp th' rr
            obtain rfl : th = th' := by rw [hth] at hth'; injection hth'
            have hz : QA ts out[k] = ⟨th.id, List.replicate th.W.length 0, 0⟩ := by unfold QA; rw [hth]
            have hcp : cpT ts (zh ts f out) out[k] = ⟨th.id, ZN (zh ts f out) th ps ps.length, 0⟩ := by unfold cpT; rw [hth]; simp only [hq]
            have hfn := JW HFt.out HSF.out HG.out k
            rw [nsK_at ts _ hlt, hz] at hfn
            have HFl : Hid (Calls Tryz.prog 56 #[.pointer (some ⟨g2, 0, none⟩), .pointer (some ⟨hg, 0, none⟩), .pointer (some ⟨p, 0, none⟩), .int .i64 out[k]] wr fun e w' => e = .returned (.tuple #[]) ∧ TwS (zQ hg mp Aw Aa) w1 w' hg g2 most ts (nsK ts (zh ts f out) out (k + 1)) (kk + out.length) (zh ts f out) []) := zH (by
             have hT2 := HT.out
             rw [nsK_at ts _ hlt, hz] at hT2
             rw [nsK_succ ts _ hlt, hcp]
             have hpos := pos_at (ts := ts) (f := f) (f' := zh ts f out) HG.out.nodup hlt
             have hF2 := HFt.out
             have hsf := HSF.out
             rw [hx] at hpos ⊢
             have hpg : ∀ w', Turned (zQ hg mp Aw Aa) w1 w' → Pg lo w' p y t g mb nn A c h L ff ns := fun w' ht => HPG.out w' ((Turned.of_below (F := zQ hg mp Aw Aa) HB1.out).trans ht (fun j hj => .inl hj))
             generalize (out.take k).map (cpT ts (zh ts f out)) = P at *
             generalize (out.drop (k + 1)).map (QA ts) = R at *
             generalize zh ts f out = sf at *
             subst hts2
             exact fill_any hpg hsp hT2 hF2 hfn (by simp) hpos hsf hq)
            clear hT1 hx hth hth' hz hcp hfn htur
            generalize out[k] = x at *
            go_wp2_with (go_at_call 56; refine HFl.out.mono ?_; rintro e w4 ⟨rfl, hT4⟩; have HT4 := zH hT4; clear hT4)
            go_roundw
            case rel => exact ⟨k + 1, by omega, by go_num, HT4.out⟩
            case measure => simp [intOf]; omega
          · have hkl : k = out.length := by omega
            subst hkl
            have HSA : Hid (Calls Tryz.prog 57 #[.pointer (some ⟨hg, 0, none⟩), .slice Ar roots.length cr] wr fun e w' => e = .returned (.slice (some ⟨wr.heap.size, 0, none⟩) roots.length roots.length) ∧ zT w' wr.heap.size (.slice (some ⟨wr.heap.size, 0, none⟩) roots.length roots.length) (roots.map (fun x => (zh ts f out x).getD 0)) ∧ Below wr.heap.size wr w') := zH (by
             have hrd := Qu HR.out HRF.out ((Turned.of_below (F := zQ hg mp Aw Aa) HB1.out).trans htur (fun j hj => .inl hj))
             exact K8 hT1.h hrd HFR.out hrl)
            clear hT1 htur
            go_wp2_with (go_at_call 57; refine HSA.out.mono ?_; rintro e w5 ⟨rfl, ho5, hb5⟩; have HO5 := zH ho5; have HB5 := zH hb5; clear ho5 hb5)
            go_ret3
            refine .inr ⟨by rw [HEn.out], g2, wr.heap.size, out, HRE.out, rfl, ?_, HG.out, ?_⟩
            · obtain ⟨b1, b2, b3, b4, b5, b6, b7, b8, b9, b10, b11, b12, hT2, _⟩ := HT.out
              rw [VE] at hT2
              have hT3 := hT2.beside HB5.out
              refine ⟨_, _, _, _, _, _, _, _, _, _, _, _, ⟨hT3.h, hT3.g, hT3.apart, fun j hj => Nat.le_trans HB1.out.size (hT3.gn j hj), fun j hj => (hT3.hn j hj).imp id (Nat.le_trans HB1.out.size), (Turned.of_below (F := zQ hg mp Aw Aa) HB1.out).trans hT3.tur (fun j hj => .inl hj), hT3.un⟩, fun r hr => ?_⟩
              rw [List.mem_singleton] at hr
              subst hr
              refine ⟨Rds.own (show w5.ownsRow _ _ _ (.slice _ roots.length _) roots.length _ by have := HO5.out; unfold zT at this; rw [List.length_map] at this; exact this), fun a ha _ hfe => ?_⟩
              injection ha with ha
              subst ha
              have := hT2.g.lt hfe
              exact Nat.lt_irrefl _ this
            · obtain ⟨b1, b2, b3, b4, b5, b6, b7, b8, b9, b10, b11, b12, hT2, _⟩ := HT.out
              exact Nat.le_trans HB1.out.size hT2.tur.size
 · rw [if_neg h0] at hrE
   have HE := zH hrE
   have h0' : (e0 == 0) = false := by simpa using h0
   have h0h := zH h0
   clear H Ft R hRf hfr hgd hrefs hrE hf PG h0
   go_enter Tryz.func21, Tryz.ntmps21
   go_wp2_with (go_at_call 10; refine HRe.out.mono ?_; rintro e w1 ⟨A1, c1, rfl, hr1, hb1, ha1⟩; have HB1 := zH hb1; clear hr1 hb1 ha1)
   go_ret3
   exact .inl ⟨by rw [HE.out]; exact h0h.out, by rw [HE.out]; rfl, HB1.out⟩
end
end ClW
end Go.Proofs.YtmkdhdmkdcankaaGreatDoor
