/- pieces -/
import Derived.Test.YtmkdhdmkdcankaaGreatDoorK30
import Derived.Test.YtmkdhdmkdcankaaGreatDoorK27
namespace Go.Proofs.YtmkdhdmkdcankaaGreatDoor
set_option maxRecDepth 100000
namespace HpE
open Go.RowKit Base BinM HpM HpA HpS HpB HpG HpP HpT HpZ
section
variable {w : World} {g mb : Nat} {Aw : Option Addr} {cw : Nat} {Aa : Option Addr} {ca most : Nat} {ws al : List Int} {n : Nat} {f : Int → Option Int}
theorem YI (H : HpX w g mb Aw cw Aa ca most ws al n f) (x : Int) (hx : zo x) :
 Calls Tryz.prog 25 #[.pointer (some ⟨g, 0, none⟩), .int .i64 x] w fun e w' => e = .returned (.tuple #[.int .i64 ((f x).getD 0), .bool (f x).isSome]) ∧ w = w' := by
 have c3 := H.box.cell 3
 obtain ⟨D, hown, _, hat⟩ := H.map
 have HO := zH hown
 have HK := zH (Go.Maps.keyOf_int_mk (P := Tryz.prog) Tryz.underlying2 (UU hx))
 clear H hown hx
 cases hf : f x with
 | none =>
   obtain ⟨hhas, hk⟩ := (hat x).1 hf
   have HA := zH hk
   clear hat hk
   go_enter Tryz.func25, Tryz.ntmps25
   go_wp2_with (at_lookup; refine wpList_lookup_own_ok_int _ rfl _ _ 111 rfl 2 2 .i64 UM Tryz.underlying111 Tryz.underlying2 (Yu _) mb n D rfl HO.out _ _ rfl HK.out ?_; intro c' hat' hwc; obtain rfl : c' = 0 := (by have := hat'.symm.trans HA.out; injection this with this; injection this); clear hat' hwc)
   go_ret2
   exact ⟨rfl, rfl⟩
 | some y =>
   obtain ⟨hhas, hk⟩ := (hat x).2 y hf
   have HA := zH hk
   clear hat hk
   go_enter Tryz.func25, Tryz.ntmps25
   go_wp2_with (at_lookup; refine wpList_lookup_own_ok_int _ rfl _ _ 111 rfl 2 2 .i64 UM Tryz.underlying111 Tryz.underlying2 (Yu _) mb n D rfl HO.out _ _ rfl HK.out ?_; intro c' hat' hwc; obtain rfl : c' = y := (by have := hat'.symm.trans HA.out; injection this with this; injection this); clear hat' hwc)
   go_ret2
   exact ⟨rfl, rfl⟩
theorem send_no {ts : List Th} (H : HpX w g mb Aw cw Aa ca most (raw ts) (adr 0 ts) n f) (F : Fits most ts) (x v : Int) (hx : x ∉ adr 0 ts) :
 Calls Tryz.prog 54 #[.pointer (some ⟨g, 0, none⟩), .int .i64 x, .int .i64 v] w fun e w' => e = .returned (.int .i64 3) ∧ ∃ q, w' = w.drewN q := by
 have HB := zH (Xf H F x hx)
 clear H F hx
 go_enter Tryz.func54, Tryz.ntmps54
 go_wp2_with (go_at_call 60; refine HB.out.mono ?_; rintro e w' ⟨rfl, q, rfl⟩)
 go_ret
 exact ⟨rfl, q, rfl⟩
theorem putM {w1 : World} (H : HpX w g mb Aw cw Aa ca most ws al n f) (hg : w.grownBy w1 (some mb)) {n' : Nat} {f' : Int → Option Int} (hm : UO w1 mb n' f') : HpX w1 g mb Aw cw Aa ca most ws al n' f' ∧ Turned (zQ g mb Aw Aa) w w1 := by
 have hb : ∀ k, k < w.heap.size → k ≠ mb → w1.heap[k]? = w.heap[k]? := fun k hk hn => hg.block k hk (fun e => hn (by injection e))
 obtain ⟨h1, h2, h3, h4, h5, h6, h7, h8⟩ := H
 refine ⟨⟨(hb g h1.lt h8).trans h1, ze h2 (fun k hk => ?_), ze h3 (fun k hk => ?_), hm, h5, h6, h7, h8⟩, Turned.J6 hg (fun k hk => by injection hk with hk; exact .inr (.inl hk.symm))⟩
 · obtain ⟨a, q1, rfl⟩ := zK hk
   exact hb _ (QI h2 q1).1 (h5 a q1).2
 · obtain ⟨a, q1, rfl⟩ := zK hk
   exact hb _ (QI h3 q1).1 (h6 a q1).2
def JF (o : Option Int) (v : Int) : Int := if v < 1 then 2 else if o.isSome then 22 else 0
def GivesSend (w : World) (F : Nat → Prop) (g mb most : Nat) (ws al : List Int) (n : Nat) (f : Int → Option Int) (x v : Int) (e : Ending) (w' : World) : Prop :=
 e = .returned (.int .i64 (JF (f x) v)) ∧ ((JF (f x) v ≠ 0 ∧ Below w.heap.size w w') ∨ (JF (f x) v = 0 ∧ Y0 w w' F g mb most ws al (n + 1) (fun c => if c = x then some v else f c)))
theorem zf (w : World) (q : Nat) : Below w.heap.size w (w.drewN q) := ⟨rfl, rfl, rfl, Nat.le_refl _, fun _ _ => rfl⟩
theorem send_yes {p : List Th} {t : Th} {r : List Th} (H : HpX w g mb Aw cw Aa ca most (raw (p ++ t :: r)) (adr 0 (p ++ t :: r)) n f) (F : Fits most (p ++ t :: r)) (hn : n ≤ 80000) (v : Int) (hv : zo v) :
 Calls Tryz.prog 54 #[.pointer (some ⟨g, 0, none⟩), .int .i64 (((raw p).length + 1 : Nat) : Int), .int .i64 v] w
  (GivesSend w (zQ g mb Aw Aa) g mb most (raw (p ++ t :: r)) (adr 0 (p ++ t :: r)) n f (((raw p).length + 1 : Nat) : Int) v) := by
 have HB := zH (jw H F)
 have HH := zH H
 have hP : zo (((raw p).length + 1 : Nat) : Int) := by
  have := F.len
  have := F.top
  rw [Z7] at *
  unfold zo
  omega
 clear F
 by_cases h1 : v < 1
 · have hE := zH (show JF (f (((raw p).length + 1 : Nat) : Int)) v = 2 by unfold JF; rw [if_pos h1])
   clear H hP
   generalize (raw p).length = P at *
   go_enter Tryz.func54, Tryz.ntmps54
   go_wp2_with (go_at_call 60; refine HB.out.mono ?_; rintro e w' ⟨⟨B, c, rfl, _⟩, q, rfl⟩)
   go_ret
   exact ⟨by rw [hE.out]; rfl, .inl ⟨by rw [hE.out]; omega, zf _ _⟩⟩
 · obtain ⟨D, hown, _, hat⟩ := H.map
   have c3 := H.box.cell 3
   have HO := zH (fun q => ZL (w' := w.drewN q) hown rfl)
   have HK := zH (Go.Maps.keyOf_int_mk (P := Tryz.prog) Tryz.underlying2 (UU hP))
   have HP := zH (fun q => XR (w := w.drewN q) (H.map.block rfl) (by omega) _ v hP hv)
   clear H hown hP
   generalize hx : (((raw p).length + 1 : Nat) : Int) = x at *
   cases hf : f x with
   | none =>
     obtain ⟨hhas, hk⟩ := (hat x).1 hf
     have hE := zH (show JF (f x) v = 0 by unfold JF; rw [if_neg h1, hf]; rfl)
     clear hat hk
     go_enter Tryz.func54, Tryz.ntmps54
     go_wp2_with (first
                   | (go_at_call 60; refine HB.out.mono ?_; rintro e w' ⟨⟨B, c, rfl, _⟩, q, rfl⟩; obtain ⟨w5, hrun, hg5, hm5⟩ := HP.out q)
                   | (at_lookup; refine wpList_lookup_own_ok_int _ rfl _ _ 111 rfl 2 2 .i64 UM Tryz.underlying111 Tryz.underlying2 (Yu _) mb n D rfl (HO.out _) _ _ rfl HK.out ?_; intro c' hat' hwc))
     go_ret
     have h := putM (w := w.drewN q) (HH.out.aside (fun _ _ => rfl)) hg5 hm5
     exact ⟨by rw [hE.out]; rfl, .inr ⟨hE.out, _, _, _, _, h.1, (Turned.of_below (zf w q)).trans h.2 (fun j h => .inl h), fun j h => .inl h⟩⟩
   | some y =>
     obtain ⟨hhas, hk⟩ := (hat x).2 y hf
     have hE := zH (show JF (f x) v = 22 by unfold JF; rw [if_neg h1, hf]; rfl)
     clear hat hk
     go_enter Tryz.func54, Tryz.ntmps54
     go_wp2_with (first
                   | (go_at_call 60; refine HB.out.mono ?_; rintro e w' ⟨⟨B, c, rfl, _⟩, q, rfl⟩)
                   | (at_lookup; refine wpList_lookup_own_ok_int _ rfl _ _ 111 rfl 2 2 .i64 UM Tryz.underlying111 Tryz.underlying2 (Yu _) mb n D rfl (HO.out _) _ _ rfl HK.out ?_; intro c' hat' hwc))
     go_ret
     exact ⟨by rw [hE.out]; rfl, .inl ⟨by rw [hE.out]; omega, zf _ _⟩⟩
end
end HpE
namespace ClA
open Go.RowKit Base BinM HpM HpA HpB HpG ClM LnkC
theorem xq (n : Nat) (w : World) (hn : n ≤ 100000) :
 Calls Tryz.prog 49 #[.int .i64 (n : Int)] w fun e w' => ∃ v, e = .returned v ∧ Jz w' w.heap.size v ((List.range' 1 (n - 1)).map (fun (k : Nat) => (k : Int))) ∧ Below w.heap.size w w' := by
 go_enter Tryz.func49, Tryz.ntmps49
 go_wp2_with fail
 go_loopw [3, 4] (fun v i wr => ∃ k : Nat, k ≤ n - 1 ∧ i = .int .i64 ((k : Int) + 1) ∧ Jz wr w.heap.size v ((List.range' 1 k).map (fun (k : Nat) => (k : Int))) ∧ Below w.heap.size w wr) (fun _ i _ => n - (intOf i).toNat)
 case atStart => exact ⟨0, Nat.zero_le _, rfl, Jz.nil _ _, Below.refl _ _⟩
 case round =>
  obtain ⟨k, hk, rfl, hown, hbel⟩ := hrel
  obtain ⟨A2, c2, rfl, _, _, _, _⟩ := hown.slice
  have hs := hbel.size
  have HO := zH hown
  have HB := zH hbel
  by_cases hlt : k + 1 < n
  · have HE := zH (show (List.range' 1 (k + 1)).map (fun (k : Nat) => (k : Int)) = (List.range' 1 k).map (fun (k : Nat) => (k : Int)) ++ [(k : Int) + 1] by
     rw [List.range'_1_concat, List.map_append]; simp; omega)
    have hkl : ((List.range' 1 k).map (fun (k : Nat) => (k : Int))).length = k := by simp
    have hkl2 : ((List.range' 1 k).map (fun (k : Nat) => (k : Int))).length ≤ 100000 := by omega
    have HO2 := zH (World.ownsRow.alloc hown (.cells #[.int .i64 ((k : Int) + 1)] 3))
    have HR2 := zH (LnkA.ZG (HpM.Bx.new wr #[.int .i64 ((k : Int) + 1)] 3))
    have HS2 : Hid (w.heap.size ≤ (wr.alloc (.cells #[.int .i64 ((k : Int) + 1)] 3)).heap.size) := zH (by simp; omega)
    have HB2 := zH (hbel.alloc hs (.cells #[.int .i64 ((k : Int) + 1)] 3))
    clear hown hbel hkl
    generalize (List.range' 1 k).map (fun (k : Nat) => (k : Int)) = l at *
    have hlt2 : (k : Int) + 1 < (n : Int) := by omega
    go_wp2_with (at_builtin; refine appJ rfl (.tmp 10) (.tmp 12) rfl w.heap.size _ l rfl HO2.out (some ⟨wr.heap.size, 0, none⟩) 1 1 [(k : Int) + 1] rfl rfl HR2.out (by simp; omega) HS2.out ?_; intro v2 w2 hown2 hg2; have HO3 := zH hown2; have HB3 := zH (zC HB2.out HO2.out (Nat.le_refl _) HS2.out hg2); clear hown2 hg2)
    go_roundw
    case rel => exact ⟨k + 1, by omega, by go_num, by rw [HE.out]; exact HO3.out, HB3.out⟩
    case measure => simp [intOf]; omega
  · have hge : ¬ (k : Int) + 1 < (n : Int) := by omega
    have HE : Hid (Jz wr w.heap.size (.slice A2 k c2) ((List.range' 1 (n - 1)).map (fun (k : Nat) => (k : Int)))) := zH (by rw [show n - 1 = k by omega]; simpa using hown)
    clear hown hbel
    go_wp2_with fail
    go_ret
    exact ⟨_, rfl, HE.out, HB.out⟩
def shp (i : Nat) : LnkS.Sh × Bool :=
 if i = 0 then (⟨0, 3, [1, 2], false⟩, true) else if i = 1 then (⟨0, 0, [], false⟩, true) else if i = 2 then (⟨1, 0, [], true⟩, true)
 else if i = 3 then (⟨1, 0, [], false⟩, true) else if i = 4 then (⟨2, 0, [], false⟩, true) else (LnkS.noSh, false)
def qG (r : LnkS.Sh × Bool) (n : Nat) : Int × List Int :=
 if r.2 = false then (5, []) else if r.1.k = 0 ∧ r.1.s ≠ (n : Int) then (5, []) else if r.1.all then (0, (List.range' 1 (n - 1)).map (fun (k : Nat) => (k : Int))) else (0, r.1.refs)
def Qq (ts : List Th) (x : Int) : Int × List Int :=
 match Zp ts x with
 | none => (3, [])
 | some t => match Zh t with
   | none => (5, [])
   | some ps => (0, ps.map (fun (k : Nat) => (k : Int)))
theorem vD (t : Th) : qG (shp t.id) t.W.length = match Zh t with | none => (5, []) | some ps => (0, ps.map (fun (k : Nat) => (k : Int))) := by
 unfold Zh shp
 by_cases h0 : t.id = 0
 · rw [if_pos h0, if_pos h0]
   by_cases h : t.W.length = 3
   · rw [if_pos h, h]; rfl
   · rw [if_neg h]
     unfold qG
     rw [if_neg (by simp), if_pos (by simp; omega)]
 · rw [if_neg h0, if_neg h0]
   by_cases h1 : t.id = 1
   · rw [if_pos h1, if_pos h1]
     by_cases h : t.W.length = 0
     · rw [if_pos h, h]; rfl
     · rw [if_neg h]
       unfold qG
       rw [if_neg (by simp), if_pos (by simp; omega)]
   · rw [if_neg h1, if_neg h1]
     by_cases h2 : t.id = 2
     · rw [if_pos h2, if_pos h2]; rfl
     · rw [if_neg h2, if_neg h2]
       by_cases h3 : t.id = 3
       · rw [if_pos h3, if_pos (Or.inl h3)]; rfl
       · rw [if_neg h3]
         by_cases h4 : t.id = 4
         · rw [if_pos h4, if_pos (Or.inr h4)]; rfl
         · rw [if_neg h4, if_neg (by omega)]; rfl
theorem xC {ts : List Th} {x : Int} (h : x ∉ adr 0 ts) : Zp ts x = none := by
 unfold Zp
 rw [Option.map_eq_none_iff, List.find?_eq_none]
 intro p hp
 have := (List.of_mem_zip hp).2
 simp
 intro e
 exact h (e ▸ this)
def Xj (w : World) (r : Int × List Int) (e : Ending) (w' : World) : Prop :=
 ∃ A c, e = .returned (.tuple #[.slice A r.2.length c, .int .i64 r.1]) ∧ Rds w' A (r.2.map (Value.int .i64)) ∧ r.2.length ≤ c ∧ Below w.heap.size w w' ∧ ∀ a, A = some a → w.heap.size ≤ a.block
section
open HierS HierT LnkS Kls TabP TabB
variable {lo : Nat} {w : World} {p y t g mb n : Nat} {A : Option Addr} {c : Nat} {h : Hr} {L : List za} {f : T → Option zO} {ns : List T}
 {hg mp : Nat} {Aw : Option Addr} {cw : Nat} {Aa : Option Addr} {ca most : Nat} {k : Nat} {F : Int → Option Int}
set_option maxHeartbeats 8000000 in
theorem Ka {ts : List Th} (P : Pg lo w p y t g mb n A c h L f ns) (hsp : ∀ i : Nat, ZF h L (LnkA.zG ns (i : Int)) = shp i) (H : HpX w hg mp Aw cw Aa ca most (raw ts) (adr 0 ts) k F) (Ft : Fits most ts) (x : Int) :
 Calls Tryz.prog 16 #[.pointer (some ⟨hg, 0, none⟩), .pointer (some ⟨p, 0, none⟩), .int .i64 x] w (Xj w (Qq ts x)) := by
 by_cases hx : x ∈ adr 0 ts
 · obtain ⟨pp, th, rr, rfl, rfl⟩ := Za hx
   rw [Nat.zero_add]
   have HT := zH (uf H Ft)
   have HZ : Hid (∀ q, Calls Tryz.prog 28 #[.pointer (some ⟨hg, 0, none⟩), .int .i64 (((raw pp).length + 1 : Nat) : Int)] (w.drewN q) fun e w' => e = .returned (.tuple #[.int .i64 (th.W.length : Int), .int .i64 0]) ∧ ∃ q', w' = (w.drewN q).drewN q') := zH (fun q => YD (H.aside (fun _ _ => rfl)) Ft)
   have HS : Hid (∀ d, Calls Tryz.prog 48 #[.pointer (some ⟨p, 0, none⟩), .int .i64 (th.id : Int)] (w.drewN d) (QJ (w.drewN d) (shp th.id))) := zH (fun d => by
    have := zl7 (P.ext (HpE.zf w d)) (th.id : Int)
    rw [hsp] at this
    exact this)
   have HE := zH (show Qq (pp ++ th :: rr) (((raw pp).length + 1 : Nat) : Int) = qG (shp th.id) th.W.length by unfold Qq; rw [Zl, vD])
   have hwl : th.W.length ≤ 4096 := by
    have h1 := Z7 pp th rr
    have h2 := Ft.len
    have h3 := Ft.top
    omega
   clear P H Ft hx hsp
   generalize shp th.id = r at *
   generalize th.W.length = wl at *
   obtain ⟨⟨s0, s1, s2, s3⟩, ok⟩ := r
   cases ok
   · have hE := zH (HE.out.trans (show qG _ wl = (5, []) from rfl))
     go_enter Tryz.func16, Tryz.ntmps16
     go_wp2_with (first
      | (go_at_call 27; refine HT.out.mono ?_; rintro e w' ⟨rfl, q, rfl⟩)
      | (go_at_call 28; refine (HZ.out q).mono ?_; rintro e w' ⟨rfl, q', rfl⟩)
      | (go_at_call 48; refine (HS.out _).mono ?_; rintro e w2 ⟨A2, c2, rfl, hr2, hc2, hb2, ha2⟩; have HA2 := zH ha2; have HR2 := zH hr2; have HB2 := zH hb2; have hz2 := hb2.size; have hc2' := zH hc2; clear hr2 hb2 hc2 ha2))
     go_ret2
     exact ⟨none, 0, by rw [hE.out]; rfl, by rw [hE.out]; exact .inl rfl, by rw [hE.out]; exact Nat.le_refl _, ((HpE.zf w _).trans HB2.out).alloc (HB2.out.size) _, fun a ha => by cases ha⟩
   · by_cases h0 : s0 = 0
     · subst h0
       by_cases h1 : s1 = (wl : Int)
       · subst h1
         cases s3
         · have hE := zH (HE.out.trans (show qG _ wl = (0, s2) from by unfold qG; simp))
           go_enter Tryz.func16, Tryz.ntmps16
           go_wp2_with (first
            | (go_at_call 27; refine HT.out.mono ?_; rintro e w' ⟨rfl, q, rfl⟩)
            | (go_at_call 28; refine (HZ.out q).mono ?_; rintro e w' ⟨rfl, q', rfl⟩)
            | (go_at_call 48; refine (HS.out _).mono ?_; rintro e w2 ⟨A2, c2, rfl, hr2, hc2, hb2, ha2⟩; have HA2 := zH ha2; have HR2 := zH hr2; have HB2 := zH hb2; have hz2 := hb2.size; have hc2' := zH hc2; clear hr2 hb2 hc2 ha2))
           go_ret2
           exact ⟨A2, c2, by rw [hE.out]; rfl, by rw [hE.out]; exact HR2.out.below ((Below.refl _ _).alloc (Nat.le_refl _) _), by rw [hE.out]; exact hc2'.out, ((HpE.zf w _).trans HB2.out).alloc (HB2.out.size) _, HA2.out⟩
         · have hE := zH (HE.out.trans (show qG _ wl = (0, (List.range' 1 (wl - 1)).map (fun (k : Nat) => (k : Int))) from by unfold qG; simp))
           go_enter Tryz.func16, Tryz.ntmps16
           go_wp2_with (first
            | (go_at_call 27; refine HT.out.mono ?_; rintro e w' ⟨rfl, q, rfl⟩)
            | (go_at_call 28; refine (HZ.out q).mono ?_; rintro e w' ⟨rfl, q', rfl⟩)
            | (go_at_call 48; refine (HS.out _).mono ?_; rintro e w2 ⟨A2, c2, rfl, hr2, hc2, hb2, ha2⟩; have HA2 := zH ha2; have HR2 := zH hr2; have HB2 := zH hb2; have hz2 := hb2.size; have hc2' := zH hc2; clear hr2 hb2 hc2 ha2)
            | (go_at_call 49; refine (xq wl _ (by omega)).mono ?_; rintro e w3 ⟨v3, rfl, ho3, hb3⟩; obtain ⟨A3, c3, rfl, hc3, _, hr3, hat3⟩ := ho3.slice; have HA3 := zH hat3; have HR3 := zH hr3; have hc3' := zH hc3; have HB4 := zH (Below.trans (Below.alloc (Below.trans (HpE.zf w _) HB2.out) HB2.out.size _) (hb3.mono (by have h5 : w.heap.size ≤ w2.heap.size := HB2.out.size; rw [World.size_alloc]; omega))); have hz3 : w.heap.size ≤ w2.heap.size := HB2.out.size; clear ho3 hb3 hr3 hc3 hat3))
           go_ret2
           exact ⟨A3, c3, by rw [hE.out]; simp, by rw [hE.out]; exact HR3.out, by rw [hE.out]; exact hc3'.out, HB4.out, fun a ha => by have := (HA3.out a ha).1; rw [World.size_alloc] at this; omega⟩
       · have h1' : (s1 == (wl : Int)) = false := by simpa using h1
         have h1'' : (!(s1 == (wl : Int))) = true := by rw [h1']; rfl
         have hE := zH (HE.out.trans (show qG _ wl = (5, []) from by unfold qG; simp [h1]))
         go_enter Tryz.func16, Tryz.ntmps16
         go_wp2_with (first
          | (go_at_call 27; refine HT.out.mono ?_; rintro e w' ⟨rfl, q, rfl⟩)
          | (go_at_call 28; refine (HZ.out q).mono ?_; rintro e w' ⟨rfl, q', rfl⟩)
          | (go_at_call 48; refine (HS.out _).mono ?_; rintro e w2 ⟨A2, c2, rfl, hr2, hc2, hb2, ha2⟩; have HA2 := zH ha2; have HR2 := zH hr2; have HB2 := zH hb2; have hz2 := hb2.size; have hc2' := zH hc2; clear hr2 hb2 hc2 ha2))
         go_ret2
         exact ⟨none, 0, by rw [hE.out]; rfl, by rw [hE.out]; exact .inl rfl, by rw [hE.out]; exact Nat.le_refl _, ((HpE.zf w _).trans HB2.out).alloc (HB2.out.size) _, fun a ha => by cases ha⟩
     · have h0' : (s0 == 0) = false := by simpa using h0
       cases s3
       · have hE := zH (HE.out.trans (show qG _ wl = (0, s2) from by unfold qG; simp [h0]))
         go_enter Tryz.func16, Tryz.ntmps16
         go_wp2_with (first
          | (go_at_call 27; refine HT.out.mono ?_; rintro e w' ⟨rfl, q, rfl⟩)
          | (go_at_call 28; refine (HZ.out q).mono ?_; rintro e w' ⟨rfl, q', rfl⟩)
          | (go_at_call 48; refine (HS.out _).mono ?_; rintro e w2 ⟨A2, c2, rfl, hr2, hc2, hb2, ha2⟩; have HA2 := zH ha2; have HR2 := zH hr2; have HB2 := zH hb2; have hz2 := hb2.size; have hc2' := zH hc2; clear hr2 hb2 hc2 ha2))
         go_ret2
         exact ⟨A2, c2, by rw [hE.out]; rfl, by rw [hE.out]; exact HR2.out.below ((Below.refl _ _).alloc (Nat.le_refl _) _), by rw [hE.out]; exact hc2'.out, ((HpE.zf w _).trans HB2.out).alloc (HB2.out.size) _, HA2.out⟩
       · have hE := zH (HE.out.trans (show qG _ wl = (0, (List.range' 1 (wl - 1)).map (fun (k : Nat) => (k : Int))) from by unfold qG; simp [h0]))
         go_enter Tryz.func16, Tryz.ntmps16
         go_wp2_with (first
          | (go_at_call 27; refine HT.out.mono ?_; rintro e w' ⟨rfl, q, rfl⟩)
          | (go_at_call 28; refine (HZ.out q).mono ?_; rintro e w' ⟨rfl, q', rfl⟩)
          | (go_at_call 48; refine (HS.out _).mono ?_; rintro e w2 ⟨A2, c2, rfl, hr2, hc2, hb2, ha2⟩; have HA2 := zH ha2; have HR2 := zH hr2; have HB2 := zH hb2; have hz2 := hb2.size; have hc2' := zH hc2; clear hr2 hb2 hc2 ha2)
          | (go_at_call 49; refine (xq wl _ (by omega)).mono ?_; rintro e w3 ⟨v3, rfl, ho3, hb3⟩; obtain ⟨A3, c3, rfl, hc3, _, hr3, hat3⟩ := ho3.slice; have HA3 := zH hat3; have HR3 := zH hr3; have hc3' := zH hc3; have HB4 := zH (Below.trans (Below.alloc (Below.trans (HpE.zf w _) HB2.out) HB2.out.size _) (hb3.mono (by have h5 : w.heap.size ≤ w2.heap.size := HB2.out.size; rw [World.size_alloc]; omega))); have hz3 : w.heap.size ≤ w2.heap.size := HB2.out.size; clear ho3 hb3 hr3 hc3 hat3))
         go_ret2
         exact ⟨A3, c3, by rw [hE.out]; simp, by rw [hE.out]; exact HR3.out, by rw [hE.out]; exact hc3'.out, HB4.out, fun a ha => by have := (HA3.out a ha).1; rw [World.size_alloc] at this; omega⟩
 · have HT := zH (ze8 H Ft x hx)
   have HE := zH (show Qq ts x = (3, []) by unfold Qq; rw [xC hx])
   clear P H Ft hx hsp
   go_enter Tryz.func16, Tryz.ntmps16
   go_wp2_with (go_at_call 27; refine HT.out.mono ?_; rintro e w' ⟨rfl, q, rfl⟩)
   go_ret2
   exact ⟨none, 0, by rw [HE.out]; rfl, by rw [HE.out]; exact .inl rfl, by rw [HE.out]; exact Nat.le_refl _, HpE.zf w q, fun a ha => by cases ha⟩
end
end ClA
end Go.Proofs.YtmkdhdmkdcankaaGreatDoor
