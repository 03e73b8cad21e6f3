/- pieces -/
import Derived.Test.YtmkdhdmkdcankaaGreatDoorK22
namespace Go.Proofs.YtmkdhdmkdcankaaGreatDoor
set_option maxRecDepth 100000
set_option maxHeartbeats 8000000
namespace TabU
open Go.RowKit Base BinM Stru DescM DescW DescX HierS HierT HierM HierC HierD HierN Kls KlsP KlsQ TabC TabM TabK TabP TabE TabB TabG TabH TabT
theorem look {lo : Nat} {w : World} {t g mb n : Nat} {A : Option Addr} {c : Nat} {h : Hr} {L : List za} {f : T → Option zO} (H : Ta lo w t g mb n A c h L f) (ht : Total L f) (q : T) :
 ∃ (D : DV) (X : zO), w.ownsMap Tryz.prog 9 RV mb n D ∧ D.atKey (.string q) (.held noV.V) = .held X.V ∧ X.is w ∧ X.fields = (hav L q).1 ∧ X.meths = (hav L q).2 := by
 obtain ⟨D, hown, hD, hall⟩ := H.map
 rcases got H ht q with ⟨_, hf, hv⟩ | ⟨x, hf, his, h1, h2⟩
 · exact ⟨D, noV, hown, Maps.atKey_of_not_has ((hall q).1 hf) _, noV_is w, by rw [hv]; rfl, by rw [hv]; rfl⟩
 · exact ⟨D, x, hown, ((hall q).2 x hf).2, his, h1, h2⟩
theorem QM {lo : Nat} {w : World} {t g mb n : Nat} {A : Option Addr} {c : Nat} {h : Hr} {L : List za} {f : T → Option zO} (H : Ta lo w t g mb n A c h L f) (ht : Total L f) (q : T) (hq : q.length ≤ 140737488351232) :
 Calls Tryz.prog 108 #[.pointer (some ⟨t, 0, none⟩), .string ⟨q.toArray⟩] w fun e w' => ∃ x : zO, e = .returned x.V ∧ x.is w ∧ x.fields = (hav L q).1 ∧ x.meths = (hav L q).2 ∧ Below w.heap.size w w' := by
 obtain ⟨D, X, hown, hat, his, hf, hm⟩ := look H ht q
 obtain ⟨v, ps, hrun, hv⟩ := (hown.alloc (.cells #[.slice none 0 0, .slice none 0 0] 138)).lookup UL Tryz.underlying125 (XG _) (show RV noV.V = some (.held noV.V, []) from rfl) (YS q hq)
 obtain rfl : v = X.V := kH (hv.trans (by rw [hat]))
 have b2 := H.box.cell 2
 have hgl := H.box.lt
 have HR := zH (Bx.new w #[.slice none 0 0, .slice none 0 0] 138)
 have f0 := HR.out.free 0
 have f1 := HR.out.free 1
 have HI := zH (show X.is w ∧ X.fields = (hav L q).1 ∧ X.meths = (hav L q).2 from ⟨his, hf, hm⟩)
 clear H ht hown hat his hf hm hv
 obtain ⟨x0, x1, x2, x3, x4, x5, xf, xm⟩ := X
 simp only [zO.V] at hrun
 go_enter Tryz.func108, Tryz.ntmps108
 go_wp2_with fail
 have HW : Bx (w.alloc (.cells #[.slice x0 x1 x2, .slice x3 x4 x5] 138)) w.heap.size #[.slice x0 x1 x2, .slice x3 x4 x5] 138 := Bx.new w _ _
 have EB : Below w.heap.size w (w.alloc (.cells #[.slice x0 x1 x2, .slice x3 x4 x5] 138)) := (Below.refl w.heap.size w).alloc (Nat.le_refl _) _
 exact bodyPost_ret (v := .agg #[.slice x0 x1 x2, .slice x3 x4 x5]) (jE Tryz.results108 _ _ _ _ rfl (run_loadVar_row _ _ _ _ #[.slice x0 x1 x2, .slice x3 x4 x5] (0, 0) _ HW Tryz.underlying138 rfl YE)) rfl ⟨⟨x0, x1, x2, x3, x4, x5, xf, xm⟩, rfl, HI.out.1, HI.out.2.1, HI.out.2.2, EB⟩
def Z8 (n : List UInt8) (x : zY) : Bool := x.name == n
theorem Uh (x : zY) (q : List UInt8) (g : Nat) (w : World) (hg : w.cell? ⟨g, 0, none⟩ = some (.string ⟨q.toArray⟩)) :
 Calls Tryz.prog 154 #[x.V, .pointer (some ⟨g, 0, none⟩)] w fun e w' => e = .returned (.bool (Z8 q x)) ∧ Below w.heap.size w w' := by
 obtain ⟨x0, x1, x2⟩ := x
 unfold zY.V Z8
 simp only
 have hb := (Below.refl w.heap.size w).alloc (Nat.le_refl _) (.cells #[.string ⟨x0.toArray⟩, .string ⟨x1.toArray⟩, .string ⟨x2.toArray⟩] 255)
 have HB := zH hb
 have hg' := (hb.cell (p := ⟨g, 0, none⟩) (World.block_lt_of_cell? w ⟨g, 0, none⟩ hg)).trans hg
 clear hb
 go_enter Tryz.func154, Tryz.ntmps154
 go_wp2_with fail
 go_ret
 exact ⟨rfl, HB.out⟩
theorem Ye (A : Option Addr) (l : List zY) (m c : Nat) (q : List UInt8) (g : Nat) (w : World) (hg : w.cell? ⟨g, 0, none⟩ = some (.string ⟨q.toArray⟩)) (hm : m = l.length) (hmx : m ≤ maxLen) (hr : Rds w A (l.flatMap zY.vals)) :
 Calls Tryz.prog 153 #[.slice A m c, .func (.func 154) #[] #[.pointer (some ⟨g, 0, none⟩)]] w fun e w' => e = .returned (.int .i64 (zw (Z8 q) l)) ∧ Below w.heap.size w w' := by
 have eg : ∀ args w, (callFunc 154 args).run Tryz.prog w = .ok (.enter 154 args) w := enters_of Tryz.func154 (by kernel_rfl) rfl
 have hml : l.length ≤ m := Nat.le_of_eq hm.symm
 have hml2 : m ≤ l.length := Nat.le_of_eq hm
 have hgl := World.block_lt_of_cell? w ⟨g, 0, none⟩ hg
 have Hg := zH hg
 have Hr := zH hr
 unfold maxLen at hmx
 clear hg hr hm
 go_enter Tryz.func153, Tryz.ntmps153
 go_wp2_with fail
 go_loopw [5, 8] (fun _ i wr => ∃ j : Nat, j ≤ m ∧ i = .int .i64 j ∧ (∀ x ∈ l.take j, Z8 q x = false) ∧ Below w.heap.size w wr) (fun _ i _ => m - (intOf i).toNat)
 case atStart => exact ⟨0, Nat.zero_le _, rfl, by simp, Below.refl _ _⟩
 case round =>
  obtain ⟨j, hj, rfl, hno, hbel⟩ := hrel
  have Hno := zH hno
  have Hbel := zH hbel
  have hsz := hbel.size
  clear hno
  by_cases hlt : j < m
  · have hja : j < l.length := by omega
    obtain ⟨b1, o1, rfl, hb1, hc0, hc1, hc2⟩ := zc9 (Hr.out.below hbel) hja
    have hj1 : (j : Int) < (m : Int) := by omega
    have hj0 : (0 : Int) ≤ (j : Int) := by omega
    have Hg1 := zH ((hbel.cell (p := ⟨g, 0, none⟩) hgl).trans Hg.out)
    have Hat := zH (fun he => QF (p := Z8 q) hja Hno.out he)
    have Hnext := zH (fun he => KlsP.ZR (p := Z8 q) hja Hno.out he)
    clear hbel
    have hclo := fun W hg => Uh l[j] q g W hg
    generalize l[j] = x at *
    obtain ⟨x0, x1, x2⟩ := x
    unfold zY.V at hclo
    simp only at hc0 hc1 hc2 hclo
    generalize Z8 q _ = D at *
    have Hclo := zH hclo
    clear hclo
    go_wp2_with fail
    refine Calls.mono (Hclo.out _ Hg1.out) ?_
    rintro e w3 ⟨rfl, hb3⟩
    have B3 := zH (Hbel.out.trans (hb3.mono hsz))
    clear hb3
    cases D
    · have Hq := zH (Hnext.out rfl)
      go_wp2_with fail
      go_roundw
      case rel => exact ⟨j + 1, by omega, by go_num, Hq.out, B3.out⟩
      case measure => simp [intOf]; omega
    · have Hq := zH (Hat.out rfl)
      go_wp2_with fail
      go_ret
      exact ⟨TabP.zx Hq.out.symm, B3.out⟩
  · have hjm : j = m := by omega
    have Hq := zH (qI (p := Z8 q) (l := l) (by have := Hno.out; rw [List.take_of_length_le (by omega)] at this; exact this))
    clear hbel
    go_wp2_with fail
    go_ret
    exact ⟨TabP.zx Hq.out.symm, Hbel.out⟩
theorem XL {P : Program} {fn : Func} {p t1 t2 : Tmp} {ty : TypeId} (h : fn.results = #[.cell p ty, .tmp t1, .tmp t2]) (tmps : Array Value) (w : World) (a : Addr) (x : Value)
 (hp : tmps.getD p undef = .pointer (some a)) (hl : (loadVar ty a).run P w = .ok x w) : (results fn tmps).run P w = .ok (.tuple #[x, tmps.getD t1 undef, tmps.getD t2 undef]) w := by
 have hp' : tmps[p]?.getD undef = .pointer (some a) := by simpa using hp
 simp [results, h, hp', asAddr, hl]
theorem ZW {α : Type} (p : α → Bool) : ∀ l : List α, zw p l = -1 ∨ ∃ j : Nat, j < l.length ∧ zw p l = (j : Int)
 | [] => .inl rfl
 | x :: r => by
   unfold zw
   by_cases h : p x = true
   · rw [if_pos h]; exact .inr ⟨0, by simp, rfl⟩
   · rw [if_neg h]
     rcases ZW p r with e | ⟨j, hj, e⟩
     · rw [if_pos e]; exact .inl rfl
     · rw [if_neg (by omega), e]; exact .inr ⟨j + 1, by simp; omega, by omega⟩
def Uv (l : List zY) (q : T) (e : Ending) : Prop :=
 (zw (Z8 q) l = -1 ∧ e = .returned (.tuple #[.agg #[.string ⟨#[]⟩, .string ⟨#[]⟩], .string ⟨#[]⟩, .int .i64 (-1)])) ∨
  ∃ (j : Nat) (hj : j < l.length), zw (Z8 q) l = (j : Int) ∧ e = .returned (.tuple #[.agg #[.string ⟨l[j].name.toArray⟩, .string ⟨l[j].desc.toArray⟩], .string ⟨l[j].cls.toArray⟩, .int .i64 (j : Int)])
theorem XH : (Tryz.prog.info? 141).map (·.size) = some 2 := by kernel_rfl
theorem field_any {lo : Nat} {w : World} {t g mb n : Nat} {A : Option Addr} {c : Nat} {h : Hr} {L : List za} {f : T → Option zO} (H : Ta lo w t g mb n A c h L f) (ht : Total L f) (q nm : T) (hq : q.length ≤ 140737488351232) :
 Calls Tryz.prog 107 #[.pointer (some ⟨t, 0, none⟩), .string ⟨q.toArray⟩, .string ⟨nm.toArray⟩] w fun e w' => Uv (hav L q).1 nm e ∧ Below w.heap.size w w' := by
 have hb0 : Below w.heap.size w ((w.alloc (.cells #[.string ⟨nm.toArray⟩] 9)).alloc (.cells #[.string ⟨#[]⟩, .string ⟨#[]⟩] 141)) := ((Below.refl _ _).alloc (Nat.le_refl _) _).alloc (by simp) _
 have HH := zH (QM (H.ext hb0) ht q hq)
 have HB := zH hb0
 have hs0 : (w.alloc (.cells #[.string ⟨nm.toArray⟩] 9)).heap.size = w.heap.size + 1 := by simp
 have N0 := (Bx.new w #[.string ⟨nm.toArray⟩] 9).after ((Below.refl _ _).alloc (Nat.le_refl _) (.cells #[.string ⟨#[]⟩, .string ⟨#[]⟩] 141))
 have R0 := Bx.new (w.alloc (.cells #[.string ⟨nm.toArray⟩] 9)) #[.string ⟨#[]⟩, .string ⟨#[]⟩] 141
 rw [hs0] at R0
 have HN := zH N0
 have HR := zH R0
 clear H ht hb0 hs0 N0 R0
 go_enter Tryz.func107, Tryz.ntmps107
 go_wp2_with fail
 refine HH.out.mono ?_
 rintro e w1 ⟨⟨x0, x1, x2, x3, x4, x5, xf, xm⟩, rfl, his, hxf, hxm, hb1⟩
 simp only [zO.V]
 simp only at hxf
 subst hxf
 have hlen : x1 = (hav L q).1.length := his.flen
 have hmx := zH (show x1 ≤ maxLen from Nat.le_trans his.fle his.fmax)
 subst hlen
 have Hrd := zH (his.frds.below hb1)
 simp only at Hrd
 have N1 := zH (HN.out.after hb1)
 have R1 := zH (HR.out.after hb1)
 have HB1 := zH (HB.out.trans (hb1.mono HB.out.size))
 have hf := zc8 x0 (hav L q).1.length x2 x3 x4 x5 w1
 clear his hxm hb1
 go_wp2_with fail
 refine (Ye x0 (hav L q).1 (hav L q).1.length x2 nm w.heap.size w1 (N1.out.cell 0) rfl hmx.out Hrd.out).mono ?_
 rintro e w2 ⟨rfl, hb2⟩
 have R2 := zH (R1.out.after hb2)
 have Hrd2 := zH (Hrd.out.below hb2)
 have EB := zH (HB1.out.trans (hb2.mono HB1.out.size))
 have f0 := R2.out.free 0
 have f1 := R2.out.free 1
 have r0 := R2.out.cell 0
 have r1 := R2.out.cell 1
 clear hb2 hf
 generalize hEq : (hav L q).1 = l at *
 have HEq := zH hEq
 clear hEq
 rcases ZW (Z8 nm) l with he | ⟨j, hj, he⟩
 · have HE := zH he
   rw [he]
   clear he
   go_wp2_with fail
   have K0 := zH ((R2.out.set 0 (.string ⟨#[]⟩)).set 1 (.string ⟨#[]⟩))
   have HW : Bx ((w2.setCell ⟨w.heap.size + 1, 0, none⟩ (.string ⟨#[]⟩)).setCell ⟨w.heap.size + 1, 1, none⟩ (.string ⟨#[]⟩)) (w.heap.size + 1) #[.string ⟨#[]⟩, .string ⟨#[]⟩] 141 := K0.out
   have EB2 : Below w.heap.size w ((w2.setCell ⟨w.heap.size + 1, 0, none⟩ (.string ⟨#[]⟩)).setCell ⟨w.heap.size + 1, 1, none⟩ (.string ⟨#[]⟩)) := (EB.out.setCell (p := ⟨w.heap.size + 1, 0, none⟩) (by show w.heap.size ≤ w.heap.size + 1; omega) _).setCell (p := ⟨w.heap.size + 1, 1, none⟩) (by show w.heap.size ≤ w.heap.size + 1; omega) _
   exact bodyPost_ret (v := .tuple #[.agg #[.string ⟨#[]⟩, .string ⟨#[]⟩], .string ⟨#[]⟩, .int .i64 (-1)]) (XL Tryz.results107 _ _ _ _ rfl (run_loadVar_row _ _ _ _ #[.string ⟨#[]⟩, .string ⟨#[]⟩] (0, 0) _ HW Tryz.underlying141 rfl XH)) rfl ⟨by rw [HEq.out]; exact .inl ⟨HE.out, rfl⟩, EB2⟩
 · have HE := zH he
   rw [he]
   clear he
   obtain ⟨b, o, rfl, hb, d0, d1, d2⟩ := zc9 Hrd2.out hj
   have hj1 : (j : Int) < (l.length : Int) := by omega
   have hj0 : (0 : Int) ≤ (j : Int) := by omega
   have hj2 : decide ((j : Int) < 0) = false := by simp
   have HJ := zH (show ∀ e, e = Ending.returned (.tuple #[.agg #[.string ⟨l[j].name.toArray⟩, .string ⟨l[j].desc.toArray⟩], .string ⟨l[j].cls.toArray⟩, .int .i64 (j : Int)]) → Uv l nm e from fun e he => .inr ⟨j, hj, HE.out, he⟩)
   generalize l[j] = y at *
   obtain ⟨y0, y1, y2⟩ := y
   simp only at d0 d1 d2 HJ
   clear Hrd Hrd2 HE hmx
   go_wp2_with go_region
   have K0 := zH ((R2.out.set 0 (.string ⟨y0.toArray⟩)).set 1 (.string ⟨y1.toArray⟩))
   have HW : Bx ((w2.setCell ⟨w.heap.size + 1, 0, none⟩ (.string ⟨y0.toArray⟩)).setCell ⟨w.heap.size + 1, 1, none⟩ (.string ⟨y1.toArray⟩)) (w.heap.size + 1) #[.string ⟨y0.toArray⟩, .string ⟨y1.toArray⟩] 141 := K0.out
   have EB2 : Below w.heap.size w ((w2.setCell ⟨w.heap.size + 1, 0, none⟩ (.string ⟨y0.toArray⟩)).setCell ⟨w.heap.size + 1, 1, none⟩ (.string ⟨y1.toArray⟩)) := (EB.out.setCell (p := ⟨w.heap.size + 1, 0, none⟩) (by show w.heap.size ≤ w.heap.size + 1; omega) _).setCell (p := ⟨w.heap.size + 1, 1, none⟩) (by show w.heap.size ≤ w.heap.size + 1; omega) _
   exact bodyPost_ret (v := .tuple #[.agg #[.string ⟨y0.toArray⟩, .string ⟨y1.toArray⟩], .string ⟨y2.toArray⟩, .int .i64 (j : Int)]) (XL Tryz.results107 _ _ _ _ rfl (run_loadVar_row _ _ _ _ #[.string ⟨y0.toArray⟩, .string ⟨y1.toArray⟩] (0, 0) _ HW Tryz.underlying141 rfl XH)) rfl ⟨by rw [HEq.out]; exact HJ.out _ rfl, EB2.drew⟩
end TabU
namespace TabV
open Go.RowKit Base BinM Stru DescM DescW DescX DescS DescG DescP DescQ HierS HierT Kls KlsP KlsQ TabC TabM TabK TabP TabE TabB TabG TabH TabT TabU
def ofP (p : MthP) : zF := ⟨p.name, p.sig, p.locals, none, 0, 0, none, 0, 0, p.code, p.hand⟩
def JY (m : zF) : zF := ofP m.pure
def zy (x : za) : za := ⟨x.name, x.sup, none, 0, 0, none, 0, 0, none, 0, 0, x.consts, x.fields, x.meths.map JY⟩
theorem zk0 {x y : za} (h : alikeC x y) : zy x = zy y := by
 obtain ⟨h1, h2, h3, h4, h5⟩ := h
 unfold zy
 have e : x.meths.map JY = y.meths.map JY := by
  have := congrArg (List.map ofP) h5
  rw [List.map_map, List.map_map] at this
  exact this
 rw [h1, h2, h3, h4, e]
theorem find_bare (L : List za) (c : T) : (L.map zy).find? (named c) = (L.find? (named c)).map zy := by
 rw [List.find?_map]; rfl
theorem Gf (l : List zu) (k : za) : ZU l (zy k) = ZU l k := by
 unfold ZU zy
 rw [List.foldl_map]; rfl
theorem gy (L : List za) : ∀ (n : Nat) (c : T), gat (L.map zy) n c = gat L n c
 | 0, _ => rfl
 | n + 1, c => by
   unfold gat
   rw [find_bare]
   cases L.find? (named c) with
   | none => rfl
   | some k =>
     show (qy (gat (L.map zy) n k.sup).1 (zy k), ZU (gat (L.map zy) n k.sup).2 (zy k)) = _
     rw [gy L n k.sup, Gf]; rfl
theorem KY (L : List za) (c : T) : hav (L.map zy) c = hav L c := gy L 41 c
theorem xU {L C : List za} (h : C.map zy = L.map zy) : hav C = hav L := by
 funext c
 rw [← KY C, ← KY L, h]
def UA (h : Hr) (s : T) : Bool := (zI s).2.1.all h.known && ((zI s).1 == [86] || h.known (zI s).1)
def YP (l : List zu) (m : zF) : Bool := (l.find? (zG m.name)).elim false fun e => e.sig != m.sig
def ffE (h : Hr) (L : List za) (c : za) (_ : Nat) (f : zU) : Int := if h.known f.desc = false then 10 else if 0 ≤ zw (Z8 f.name) (hav L c.sup).1 then 8 else 0
def fmE (h : Hr) (L : List za) (c : za) (_ : Nat) (m : zF) : Int := if UA h m.sig = false then 10 else if YP (hav L c.sup).2 m = true then 15 else 0
def qw (h : Hr) (L : List za) (c : za) : Int :=
 if zW (ffE h L c) c.fields ≠ 0 then zW (ffE h L c) c.fields else if 16 < (hav L c.name).1.length then 6 else if zW (fmE h L c) c.meths ≠ 0 then zW (fmE h L c) c.meths else if 32 < (hav L c.name).2.length then 6 else 0
theorem zc5 {α β : Type} (f : Nat → β → Int) (g : α → β) (l : List α) : zW f (l.map g) = zW (fun i x => f i (g x)) l := by
 unfold zW
 simp only [List.length_map, List.getElem?_map]
 have e : ∀ i, ((l[i]?).map g).elim false (fun x => f i x != 0) = (l[i]?).elim false (fun x => f i (g x) != 0) := fun i => by cases l[i]? <;> rfl
 simp only [e]
 cases (List.range l.length).find? fun i => (l[i]?).elim false (fun x => f i (g x) != 0) with
 | none => rfl
 | some i => simp only; cases l[i]? <;> rfl
theorem gK (h : Hr) (L : List za) (c : za) : qw h L (zy c) = qw h L c := by
 have e1 : ffE h L (zy c) = ffE h L c := rfl
 have e2 : zW (fmE h L (zy c)) (zy c).meths = zW (fmE h L c) c.meths := by
  show zW (fmE h L (zy c)) (c.meths.map JY) = _
  rw [zc5]; rfl
 unfold qw
 rw [e1, e2]; rfl
theorem vV {h : Hr} {L C : List za} {x y : za} (hl : C.map zy = L.map zy) (hx : zy x = zy y) : qw h C x = qw h L y := by
 have e : qw h C = qw h L := by
  funext z
  unfold qw ffE fmE
  rw [xU hl]
 rw [e, ← gK h L x, hx, gK]
def kr (e : za → Int) : List za → T × Int
 | [] => ([], 0)
 | x :: r => if e x ≠ 0 then (x.name, e x) else kr e r
theorem yR {e : za → Int} : ∀ {l : List za}, (∀ x ∈ l, e x = 0) → kr e l = ([], 0)
 | [], _ => rfl
 | x :: r, h => by
   unfold kr
   rw [if_neg (by rw [h x (by simp)]; simp)]
   exact yR fun y hy => h y (by simp [hy])
theorem ko {e : za → Int} : ∀ {l : List za} {j : Nat} (hj : j < l.length), (∀ x ∈ l.take j, e x = 0) → e l[j] ≠ 0 → kr e l = (l[j].name, e l[j])
 | [], _, hj, _, _ => by simp at hj
 | x :: r, 0, _, _, h => by
   have h : e x ≠ 0 := h
   unfold kr
   rw [if_pos h]; rfl
 | x :: r, j + 1, hj, h, hne => by
   unfold kr
   rw [if_neg (by rw [h x (by simp)]; simp)]
   exact ko (l := r) (by simpa using hj) (fun y hy => h y (by simp [hy])) hne
theorem yj {e : za → Int} {l : List za} {j : Nat} (hj : j < l.length) (h : ∀ x ∈ l.take j, e x = 0) (h2 : e l[j] = 0) : ∀ x ∈ l.take (j + 1), e x = 0 := by
 intro x hx
 rw [List.take_succ_eq_append_getElem hj, List.mem_append] at hx
 rcases hx with hx | hx
 · exact h x hx
 · simp at hx; subst hx; exact h2
def pairs (L : List za) : List P2 := L.map fun x => (x.name, x.sup)
theorem uP (L : List za) : pairs (L.map zy) = pairs L := by
 unfold pairs
 rw [List.map_map]; rfl
theorem Kt {L C : List za} (h : C.map zy = L.map zy) : pairs C = pairs L := by rw [← uP C, ← uP L, h]
def jP (L : List za) : T × Int :=
 if (ZA (pairs L)).2 ≠ 0 then ZA (pairs L) else if (kr qE L).2 ≠ 0 then kr qE L else kr (qw (mk (pairs L)) L) L
theorem kP {L : List za} (h : (ZA (pairs L)).2 ≠ 0) : jP L = ZA (pairs L) := by unfold jP; rw [if_pos h]
theorem ze5 {L : List za} {j : Nat} (h : (ZA (pairs L)).2 = 0) (hj : j < L.length) (hz : ∀ x ∈ L.take j, qE x = 0) (hne : qE L[j] ≠ 0) : jP L = (L[j].name, qE L[j]) := by
 unfold jP
 rw [if_neg (by rw [h]; simp), ko hj hz hne, if_pos hne]
theorem ze4 {L : List za} {j : Nat} (h : (ZA (pairs L)).2 = 0) (hc : ∀ x ∈ L, qE x = 0) (hj : j < L.length) (hz : ∀ x ∈ L.take j, qw (mk (pairs L)) L x = 0) (hne : qw (mk (pairs L)) L L[j] ≠ 0) : jP L = (L[j].name, qw (mk (pairs L)) L L[j]) := by
 unfold jP
 rw [if_neg (by rw [h]; simp), yR hc, if_neg (by simp), ko hj hz hne]
theorem ze2 {L : List za} (h : (ZA (pairs L)).2 = 0) (hc : ∀ x ∈ L, qE x = 0) (hz : ∀ x ∈ L, qw (mk (pairs L)) L x = 0) : jP L = ([], 0) := by
 unfold jP
 rw [if_neg (by rw [h]; simp), yR hc, if_neg (by simp), yR hz]
theorem Qs {l : List P2} (h : (ZA l).2 = 0) : l.length ≤ 32 ∧ twice [zX] (full l) = none ∧ qg (nms (full l)) (full l) = none := by
 unfold ZA at h
 split at h
 · cases h
 · rename_i h1
   split at h
   · cases h
   · rename_i h2
     split at h
     · cases h
     · rename_i h3
       exact ⟨by omega, h2, h3⟩
theorem Kw {L : List za} {k : za} (hk : k ∈ L) : k.name ∈ (mk (pairs L)).names := by
 show k.name ∈ zX :: (full (pairs L)).map (·.1)
 refine List.mem_cons_of_mem _ (List.mem_map.2 ⟨(k.name, k.sup), ?_, rfl⟩)
 exact List.mem_append.2 (.inr (List.mem_map.2 ⟨k, hk, rfl⟩))
theorem jk {L : List za} {d : T} {k : za} (hf : L.find? (named d) = some k) : k ∈ L ∧ k.name = d :=
 ⟨List.mem_of_find?_eq_some hf, by have := List.find?_some hf; unfold named at this; exact eq_of_beq this⟩
theorem zk1 {L : List za} (h : (ZA (pairs L)).2 = 0) {k : za} (hk : k ∈ L) : (∀ p ∈ alw, p.1 ≠ k.name) ∧ k.name ≠ zX := by
 obtain ⟨_, h2, _⟩ := Qs h
 obtain ⟨h3, h4⟩ := j4 _ _ h2
 have hm : (k.name, k.sup) ∈ pairs L := List.mem_map.2 ⟨k, hk, rfl⟩
 refine ⟨fun p hp e => ?_, fun e => ?_⟩
 · unfold full at h4
   rw [List.map_append, List.nodup_append] at h4
   exact h4.2.2 p.1 (List.mem_map.2 ⟨p, hp, rfl⟩) k.name (List.mem_map.2 ⟨_, hm, rfl⟩) e
 · exact h3 (k.name, k.sup) (List.mem_append.2 (.inr hm)) (by simp [e])
theorem ze7 {L : List za} (h : (ZA (pairs L)).2 = 0) {d : T} {k : za} (hf : L.find? (named d) = some k) : (mk (pairs L)).up d = some k.sup := by
 obtain ⟨hk, hn⟩ := jk hf
 obtain ⟨hal, _⟩ := zk1 h hk
 obtain ⟨_, _, h3⟩ := Qs h
 have hm : (k.name, k.sup) ∈ full (pairs L) := List.mem_append.2 (.inr (List.mem_map.2 ⟨k, hk, rfl⟩))
 have hs := jh _ _ h3 _ hm
 have hfa : (full (pairs L)).find? (fun p => p.1 == d) = some (k.name, k.sup) := by
  unfold full
  rw [List.find?_append]
  have e1 : alw.find? (fun p => p.1 == d) = none := by
   rw [List.find?_eq_none]
   intro p hp he
   exact hal p hp ((eq_of_beq he).trans hn.symm)
  have e2 : (pairs L).find? (fun p => p.1 == d) = (L.find? (named d)).map fun x => (x.name, x.sup) := by
   unfold pairs
   rw [List.find?_map]; rfl
  rw [e1, e2, hf]; rfl
 show ((abv (full (pairs L)) d).bind fun i => (nms (full (pairs L)))[i]?) = some k.sup
 unfold abv
 rw [hfa]
 exact yH hs
theorem ways {L : List za} (h : (ZA (pairs L)).2 = 0) {k : za} (hk : k ∈ L) : ∃ l, Zc (mk (pairs L)).up k.name l ∧ l.length ≤ 41 := by
 obtain ⟨hg, hn, _⟩ := kQ h
 obtain ⟨l, h1, h2⟩ := hg.ways _ (Kw hk)
 exact ⟨l, h1, Nat.le_trans h2 hn⟩
end TabV
namespace TabW
open Go.RowKit Base BinM Stru DescM DescW DescX DescS DescG DescP DescQ HierS HierT HierM HierC HierD HierN Kls KlsP KlsQ OpenK TabC TabM TabK TabP TabE TabB TabG TabH TabT TabU TabV
def Uw (l : List zu) (q : T) (e : Ending) : Prop :=
 (Zi (zG q) l = -1 ∧ e = .returned (.tuple #[.agg #[.string ⟨#[]⟩, .string ⟨#[]⟩, .string ⟨#[]⟩], .int .i64 (-1)])) ∨
  ∃ (j : Nat) (hj : j < l.length), Zi (zG q) l = (j : Int) ∧ e = .returned (.tuple #[.agg #[.string ⟨l[j].name.toArray⟩, .string ⟨l[j].sig.toArray⟩, .string ⟨l[j].cls.toArray⟩], .int .i64 (j : Int)])
theorem Vv : (Tryz.prog.info? 205).map (·.size) = some 3 := by kernel_rfl
theorem za7 {lo : Nat} {w : World} {t g mb n : Nat} {A : Option Addr} {c : Nat} {h : Hr} {L : List za} {f : T → Option zO} (H : Ta lo w t g mb n A c h L f) (ht : Total L f) (q nm : T) (hq : q.length ≤ 140737488351232) :
 Calls Tryz.prog 110 #[.pointer (some ⟨t, 0, none⟩), .string ⟨q.toArray⟩, .string ⟨nm.toArray⟩] w fun e w' => Uw (hav L q).2 nm e ∧ Below w.heap.size w w' := by
 have hb0 : Below w.heap.size w (w.alloc (.cells #[.string ⟨#[]⟩, .string ⟨#[]⟩, .string ⟨#[]⟩] 205)) := (Below.refl _ _).alloc (Nat.le_refl _) _
 have HH := zH (QM (H.ext hb0) ht q hq)
 have HB := zH hb0
 have HR := zH (Bx.new w #[.string ⟨#[]⟩, .string ⟨#[]⟩, .string ⟨#[]⟩] 205)
 clear H ht hb0
 go_enter Tryz.func110, Tryz.ntmps110
 go_wp2_with fail
 refine HH.out.mono ?_
 rintro e w1 ⟨⟨x0, x1, x2, x3, x4, x5, xf, xm⟩, rfl, his, hxf, hxm, hb1⟩
 simp only [zO.V]
 simp only at hxm
 subst hxm
 have hlen : x4 = (hav L q).2.length := his.mlen
 have hmx := zH (show x4 ≤ maxLen from Nat.le_trans his.mle his.mmax)
 subst hlen
 have Hrd := zH (his.mrds.below hb1)
 simp only at Hrd
 have R1 := zH (HR.out.after hb1)
 have HB1 := zH (HB.out.trans (hb1.mono HB.out.size))
 have hf := field1 x0 x1 x2 x3 (hav L q).2.length x5 w1
 clear his hxf hb1
 go_wp2_with fail
 refine (yD x3 (hav L q).2 (hav L q).2.length x5 nm w1 rfl hmx.out Hrd.out).mono ?_
 rintro e w2 ⟨rfl, hb2⟩
 have R2 := zH (R1.out.after hb2)
 have Hrd2 := zH (Hrd.out.below hb2)
 have EB := zH (HB1.out.trans (hb2.mono HB1.out.size))
 have f0 := R2.out.free 0
 have f1 := R2.out.free 1
 have f2 := R2.out.free 2
 have r0 := R2.out.cell 0
 have r1 := R2.out.cell 1
 have r2 := R2.out.cell 2
 clear hb2 hf
 generalize hEq : (hav L q).2 = l at *
 have HEq := zH hEq
 clear hEq
 rcases ZK (zG nm) l with he | ⟨j, hj, he⟩
 · have HE := zH he
   rw [he]
   clear he
   go_wp2_with fail
   have K0 := zH (((R2.out.set 0 (.string ⟨#[]⟩)).set 1 (.string ⟨#[]⟩)).set 2 (.string ⟨#[]⟩))
   have HW : Bx (((w2.setCell ⟨w.heap.size, 0, none⟩ (.string ⟨#[]⟩)).setCell ⟨w.heap.size, 1, none⟩ (.string ⟨#[]⟩)).setCell ⟨w.heap.size, 2, none⟩ (.string ⟨#[]⟩)) w.heap.size #[.string ⟨#[]⟩, .string ⟨#[]⟩, .string ⟨#[]⟩] 205 := K0.out
   have EB2 : Below w.heap.size w (((w2.setCell ⟨w.heap.size, 0, none⟩ (.string ⟨#[]⟩)).setCell ⟨w.heap.size, 1, none⟩ (.string ⟨#[]⟩)).setCell ⟨w.heap.size, 2, none⟩ (.string ⟨#[]⟩)) := ((EB.out.setCell (p := ⟨w.heap.size, 0, none⟩) (Nat.le_refl _) _).setCell (p := ⟨w.heap.size, 1, none⟩) (Nat.le_refl _) _).setCell (p := ⟨w.heap.size, 2, none⟩) (Nat.le_refl _) _
   exact bodyPost_ret (v := .tuple #[.agg #[.string ⟨#[]⟩, .string ⟨#[]⟩, .string ⟨#[]⟩], .int .i64 (-1)]) (ZI Tryz.results110 _ _ _ _ rfl (run_loadVar_row _ _ _ _ #[.string ⟨#[]⟩, .string ⟨#[]⟩, .string ⟨#[]⟩] (0, 0) _ HW Tryz.underlying205 rfl Vv)) rfl ⟨by rw [HEq.out]; exact .inl ⟨HE.out, rfl⟩, EB2⟩
 · have HE := zH he
   rw [he]
   clear he
   obtain ⟨b, o, rfl, hb, d0, d1, d2⟩ := X6 Hrd2.out hj
   have hj1 : (j : Int) < (l.length : Int) := by omega
   have hj0 : (0 : Int) ≤ (j : Int) := by omega
   have hj2 : decide ((j : Int) < 0) = false := by simp
   have HJ := zH (show ∀ e, e = Ending.returned (.tuple #[.agg #[.string ⟨l[j].name.toArray⟩, .string ⟨l[j].sig.toArray⟩, .string ⟨l[j].cls.toArray⟩], .int .i64 (j : Int)]) → Uw l nm e from fun e he => .inr ⟨j, hj, HE.out, he⟩)
   generalize l[j] = y at *
   obtain ⟨y0, y1, y2⟩ := y
   simp only at d0 d1 d2 HJ
   clear Hrd Hrd2 HE hmx
   go_wp2_with fail
   have K0 := zH (((R2.out.set 0 (.string ⟨y0.toArray⟩)).set 1 (.string ⟨y1.toArray⟩)).set 2 (.string ⟨y2.toArray⟩))
   have HW : Bx (((w2.setCell ⟨w.heap.size, 0, none⟩ (.string ⟨y0.toArray⟩)).setCell ⟨w.heap.size, 1, none⟩ (.string ⟨y1.toArray⟩)).setCell ⟨w.heap.size, 2, none⟩ (.string ⟨y2.toArray⟩)) w.heap.size #[.string ⟨y0.toArray⟩, .string ⟨y1.toArray⟩, .string ⟨y2.toArray⟩] 205 := K0.out
   have EB2 : Below w.heap.size w (((w2.setCell ⟨w.heap.size, 0, none⟩ (.string ⟨y0.toArray⟩)).setCell ⟨w.heap.size, 1, none⟩ (.string ⟨y1.toArray⟩)).setCell ⟨w.heap.size, 2, none⟩ (.string ⟨y2.toArray⟩)) := ((EB.out.setCell (p := ⟨w.heap.size, 0, none⟩) (Nat.le_refl _) _).setCell (p := ⟨w.heap.size, 1, none⟩) (Nat.le_refl _) _).setCell (p := ⟨w.heap.size, 2, none⟩) (Nat.le_refl _) _
   exact bodyPost_ret (v := .tuple #[.agg #[.string ⟨y0.toArray⟩, .string ⟨y1.toArray⟩, .string ⟨y2.toArray⟩], .int .i64 (j : Int)]) (ZI Tryz.results110 _ _ _ _ rfl (run_loadVar_row _ _ _ _ #[.string ⟨y0.toArray⟩, .string ⟨y1.toArray⟩, .string ⟨y2.toArray⟩] (0, 0) _ HW Tryz.underlying205 rfl Vv)) rfl ⟨by rw [HEq.out]; exact HJ.out _ rfl, EB2⟩
theorem Gm {p : T → Bool} {l : List T} {j : Nat} (hj : j < l.length) (h : ∀ x ∈ l.take j, p x = true) (h2 : p l[j] = true) : ∀ x ∈ l.take (j + 1), p x = true := by
 intro x hx
 rw [List.take_succ_eq_append_getElem hj, List.mem_append] at hx
 rcases hx with hx | hx
 · exact h x hx
 · simp at hx; subst hx; exact h2
theorem xI : ∀ (n : Nat) (l : T) (ts : List T) (g : T), parse n l = some (ts, g) → g.length ≤ l.length ∧ ∀ t ∈ ts, t.length ≤ l.length := by
 intro n
 induction n with
 | zero =>
   intro l ts g h
   by_cases h41 : l.head? = some 41
   · rw [J5 0 h41] at h
     injection h with h; injection h with h1 h2
     subst h1; subst h2
     exact ⟨by rw [List.length_drop]; omega, by simp⟩
   · rw [Jo h41] at h; cases h
 | succ n ih =>
   intro l ts g h
   by_cases h41 : l.head? = some 41
   · rw [J5 (n + 1) h41] at h
     injection h with h; injection h with h1 h2
     subst h1; subst h2
     exact ⟨by rw [List.length_drop]; omega, by simp⟩
   · cases hl : Zf l with
     | none => rw [jf (n + 1) h41 hl] at h; cases h
     | some k =>
       rw [Yb n h41 hl] at h
       cases hp : parse n (l.drop k) with
       | none => rw [hp] at h; cases h
       | some r =>
         obtain ⟨ts', g'⟩ := r
         rw [hp] at h
         injection h with h; injection h with h1 h2
         subst h1; subst h2
         obtain ⟨i1, i2⟩ := ih _ _ _ hp
         rw [List.length_drop] at i1 i2
         refine ⟨by show g'.length ≤ l.length; omega, fun t ht => ?_⟩
         rcases List.mem_cons.1 ht with rfl | ht
         · simp only [List.length_take]; omega
         · have := i2 t ht; omega
theorem yw (s : T) : (zI s).1.length ≤ s.length ∧ ∀ x ∈ (zI s).2.1, x.length ≤ s.length := by
 unfold zI
 split
 · split
   · rename_i h
     obtain ⟨i1, i2⟩ := xI 6 _ _ _ h
     rw [List.length_drop] at i1 i2
     split
     · exact ⟨by show _ ≤ _; simp only; omega, fun x hx => by have := i2 x hx; omega⟩
     · simp
   · simp
 · simp
theorem VJ {lo : Nat} {w : World} {t g mb n : Nat} {A : Option Addr} {c : Nat} {h : Hr} {L : List za} {f : T → Option zO} (H : Ta lo w t g mb n A c h L f) (s : T) (hs : s.length ≤ 140737488351232) :
 Calls Tryz.prog 109 #[.pointer (some ⟨t, 0, none⟩), .string ⟨s.toArray⟩] w fun e w' => e = .returned (.bool (UA h s)) ∧ Below w.heap.size w w' := by
 have HS := zH (xE s w (by omega))
 have HT := zH (fun (W : World) (hb : Below w.heap.size w W) => H.ext hb)
 have hlen := yw s
 have Hlen := zH hlen
 clear H hlen
 go_enter Tryz.func109, Tryz.ntmps109
 go_wp2_with fail
 refine HS.out.mono ?_
 rintro e w1 ⟨v, rfl, hown, hb1⟩
 have Hfin := zH (show UA h s = ((zI s).2.1.all h.known && ((zI s).1 == [86] || h.known (zI s).1)) from rfl)
 obtain ⟨B, cap, rfl, hq1, hq2, hrd, _⟩ := hown.slice
 have hmx := Nat.le_trans hq1 hq2
 unfold maxLen at hmx
 clear hq1 hq2
 have Hrd := zH hrd
 have HB1 := zH hb1
 clear hown hrd hb1
 generalize zI s = S at *
 obtain ⟨gv, tk, er⟩ := S
 simp only at Hfin Hrd Hlen
 unfold str
 simp only
 generalize hm : tk.length = m
 have hml : tk.length ≤ m := Nat.le_of_eq hm
 have hml2 : m ≤ tk.length := Nat.le_of_eq hm.symm
 have hmx2 : m ≤ 2 ^ 63 - 1 := by rw [← hm]; exact hmx
 clear hm hmx
 go_wp2_with fail
 go_loopw [9, 18] (fun _ i wr => ∃ j : Nat, j ≤ m ∧ i = .int .i64 j ∧ (∀ x ∈ tk.take j, h.known x = true) ∧ Below w1.heap.size w1 wr) (fun _ i _ => m - (intOf i).toNat)
 case atStart => exact ⟨0, Nat.zero_le _, rfl, by simp, Below.refl _ _⟩
 case round =>
  obtain ⟨j, hj, rfl, hno, hbel⟩ := hrel
  have Hno := zH hno
  have Hbel := zH hbel
  have hbw := HB1.out.trans (hbel.mono HB1.out.size)
  have hbox := (HT.out _ hbw).box
  have b0 := hbox.cell 0
  have hgl := hbox.lt
  have Hbw := zH hbw
  have hKn := fun (d : T) (hd : d.length ≤ s.length) => J9 lo g h d wr (HT.out wr hbw).hier (by omega)
  have HKn := zH hKn
  clear hno hbw hbox hKn
  by_cases hlt : j < m
  · have hja : j < tk.length := by omega
    obtain ⟨b1, o1, rfl, hb1, hc⟩ := (Hrd.out.below hbel).at_ (k := j) (by simpa using hja)
    rw [List.getElem_map] at hc
    have hj1 : (j : Int) < (m : Int) := by omega
    have hj0 : (0 : Int) ≤ (j : Int) := by omega
    have HK := zH (HKn.out tk[j] (Hlen.out.2 _ (List.getElem_mem hja)))
    have Hnext := zH (fun he => Gm (p := h.known) hja Hno.out he)
    have Hbad := zH (show h.known tk[j] = false → UA h s = false from fun he => by
     rw [Hfin.out]
     have : tk.all h.known = false := by rw [List.all_eq_false]; exact ⟨tk[j], List.getElem_mem hja, by rw [he]; simp⟩
     rw [this]; rfl)
    clear hbel
    generalize tk[j] = d at *
    generalize h.known d = K at *
    unfold str at hc
    cases K
    · have Hq := zH (Hbad.out rfl)
      go_wp2_with (go_at_call 80; refine HK.out.mono ?_; rintro e w' ⟨rfl, rfl⟩)
      go_ret
      exact ⟨BinName.z8 Hq.out.symm, Hbw.out⟩
    · have Hq := zH (Hnext.out rfl)
      go_wp2_with (go_at_call 80; refine HK.out.mono ?_; rintro e w' ⟨rfl, rfl⟩)
      go_roundw
      case rel => exact ⟨j + 1, by omega, by go_num, Hq.out, Hbel.out⟩
      case measure => simp [intOf]; omega
  · have hall : tk.all h.known = true := by
     rw [List.all_eq_true]
     have := Hno.out
     rw [List.take_of_length_le (by omega)] at this
     exact this
    rw [hall] at Hfin
    have HK := zH (HKn.out gv Hlen.out.1)
    clear hbel hall
    generalize h.known gv = K at *
    cases hV : gv == [86]
    · rw [hV] at Hfin
      go_wp2_with (go_at_call 80; refine HK.out.mono ?_; rintro e w' ⟨rfl, rfl⟩)
      go_ret
      exact ⟨BinName.z8 (by rw [Hfin.out]; rfl), Hbw.out⟩
    · rw [hV] at Hfin
      go_wp2_with fail
      go_ret
      exact ⟨BinName.z8 (by rw [Hfin.out]; rfl), Hbw.out⟩
theorem zi4 {l : List zY} {q : T} {e : Ending} (h : Uv l q e) : ∃ a b s : ByteArray, e = .returned (.tuple #[.agg #[.string a, .string b], .string s, .int .i64 (zw (Z8 q) l)]) := by
 rcases h with ⟨h1, rfl⟩ | ⟨j, hj, h1, rfl⟩
 · rw [h1]; exact ⟨_, _, _, rfl⟩
 · rw [h1]; exact ⟨_, _, _, rfl⟩
theorem XV {p : zu → Bool} : ∀ {l : List zu} {j : Nat} (hj : j < l.length), Zi p l = (j : Int) → l.find? p = some l[j]
 | [], _, hj, _ => by simp at hj
 | x :: r, j, hj, h => by
   unfold Zi at h
   by_cases hp : p x = true
   · rw [if_pos hp] at h
     have : j = 0 := by omega
     subst this
     rw [List.find?_cons_of_pos hp]; rfl
   · rw [if_neg hp] at h
     by_cases h2 : Zi p r = -1
     · rw [if_pos h2] at h; omega
     · rw [if_neg h2] at h
       cases j with
       | zero =>
         rcases ZK p r with e | ⟨k, _, e⟩
         · exact absurd e h2
         · omega
       | succ k =>
         rw [List.find?_cons_of_neg hp]
         exact XV (l := r) (by simpa using hj) (by omega)
theorem QN {p : zu → Bool} : ∀ {l : List zu}, Zi p l = -1 → l.find? p = none
 | [], _ => rfl
 | x :: r, h => by
   unfold Zi at h
   by_cases hp : p x = true
   · rw [if_pos hp] at h; cases h
   · rw [if_neg hp] at h
     by_cases h2 : Zi p r = -1
     · rw [List.find?_cons_of_neg hp]; exact QN h2
     · rw [if_neg h2] at h
       rcases ZK p r with e | ⟨k, _, e⟩
       · exact absurd e h2
       · omega
theorem zi5 {l : List zu} {m : zF} {e : Ending} (h : Uw l m.name e) : ∃ (a b s : List UInt8) (at_ : Int), e = .returned (.tuple #[.agg #[.string ⟨a.toArray⟩, .string ⟨b.toArray⟩, .string ⟨s.toArray⟩], .int .i64 at_]) ∧ ((at_ = -1 ∧ YP l m = false) ∨ (0 ≤ at_ ∧ YP l m = !(b == m.sig))) := by
 rcases h with ⟨h1, rfl⟩ | ⟨j, hj, h1, rfl⟩
 · refine ⟨[], [], [], -1, rfl, .inl ⟨rfl, ?_⟩⟩
   unfold YP
   rw [QN h1]; rfl
 · refine ⟨_, _, _, _, rfl, .inr ⟨by omega, ?_⟩⟩
   unfold YP
   rw [XV hj h1]; rfl
theorem vU {h : Hr} {L : List za} {x : za} {e : Int} (hf : zW (ffE h L x) x.fields = e) (hne : e ≠ 0) : qw h L x = e := by
 unfold qw; rw [hf, if_pos hne]
theorem gH {h : Hr} {L : List za} {x : za} (hf : zW (ffE h L x) x.fields = 0) (hs : 16 < (hav L x.name).1.length) : qw h L x = 6 := by
 unfold qw; rw [hf, if_neg (by simp), if_pos hs]
theorem gI {h : Hr} {L : List za} {x : za} {e : Int} (hf : zW (ffE h L x) x.fields = 0) (hs : ¬ 16 < (hav L x.name).1.length) (hm : zW (fmE h L x) x.meths = e) (hne : e ≠ 0) : qw h L x = e := by
 unfold qw; rw [hf, if_neg (by simp), if_neg hs, hm, if_pos hne]
theorem gJ {h : Hr} {L : List za} {x : za} (hf : zW (ffE h L x) x.fields = 0) (hs : ¬ 16 < (hav L x.name).1.length) (hm : zW (fmE h L x) x.meths = 0) : qw h L x = if 32 < (hav L x.name).2.length then 6 else 0 := by
 unfold qw; rw [hf, if_neg (by simp), if_neg hs, hm, if_neg (by simp)]
end TabW
namespace TabF
open Go.RowKit Base BinM Stru DescM DescW DescX DescS DescG DescP DescQ HierS HierT HierM HierC HierD HierN Kls KlsP KlsQ OpenK TabC TabM TabK TabP TabE TabB TabG TabH TabT TabU TabV TabW
theorem fits_any {lo : Nat} {w : World} {t g mb n : Nat} {A : Option Addr} {c : Nat} {h : Hr} {L : List za} {f : T → Option zO} (H : Ta lo w t g mb n A c h L f) (ht : Total L f) (x : za) (hx : x.is w) (hl : za.lt x) :
 Calls Tryz.prog 65 #[.pointer (some ⟨t, 0, none⟩), x.V] w fun e w' => e = .returned (.int .i64 (qw h L x)) ∧ Below w.heap.size w w' := by
 have HT := zH (fun (W : World) (hb : Below w.heap.size w W) => H.ext hb)
 have HFd := zH (fun (W : World) (hb : Below w.heap.size w W) (nm : T) => field_any (H.ext hb) ht x.sup nm (by have := hl.sup; omega))
 have HMt := zH (fun (W : World) (hb : Below w.heap.size w W) (nm : T) => za7 (H.ext hb) ht x.sup nm (by have := hl.sup; omega))
 have HHs := zH (fun (W : World) (hb : Below w.heap.size w W) => QM (H.ext hb) ht x.name (by have := hl.name; omega))
 have HSg := zH (fun (W : World) (hb : Below w.heap.size w W) (s : T) (hs : s.length ≤ 140737488351232) => VJ (H.ext hb) s hs)
 have HKn := zH (fun (W : World) (hb : Below w.heap.size w W) (d : T) (hd : d.length ≤ 140737488351232) => J9 lo g h d W (H.ext hb).hier (by omega))
 have HFr := zH (fun (W : World) (hb : Below w.heap.size w W) => hx.fields.rds.below hb)
 have HMr := zH (fun (W : World) (hb : Below w.heap.size w W) => hx.meths.rds.below hb)
 have HLf := zH hl.fields
 have HLm := zH hl.meths
 have hk1 : x.fm = x.fields.length := hx.fields.len
 have hk2 : x.mm = x.meths.length := hx.meths.len
 have hk3 : x.fm ≤ 2 ^ 63 - 1 := by have := hx.fields.le; have := hx.fields.max; unfold maxLen at *; omega
 have hk4 : x.mm ≤ 2 ^ 63 - 1 := by have := hx.meths.le; have := hx.meths.max; unfold maxLen at *; omega
 have HE1 := zH (fun (e : Int) => @vU h L x e)
 have HE2 := zH (@gH h L x)
 have HE3 := zH (fun (e : Int) => @gI h L x e)
 have HE4 := zH (@gJ h L x)
 have HfE := zH (show ∀ i y, ffE h L x i y = if h.known y.desc = false then 10 else if 0 ≤ zw (Z8 y.name) (hav L x.sup).1 then 8 else 0 from fun _ _ => rfl)
 have HmE := zH (show ∀ i y, fmE h L x i y = if UA h y.sig = false then 10 else if YP (hav L x.sup).2 y = true then 15 else 0 from fun _ _ => rfl)
 have hb1 : Below w.heap.size w (w.alloc (.cells #[.string ⟨x.name.toArray⟩, .string ⟨x.sup.toArray⟩, .slice x.kA x.km x.kc, .slice x.fA x.fm x.fc, .slice x.mA x.mm x.mc] 132)) := (Below.refl _ _).alloc (Nat.le_refl _) _
 have HB1 := zH hb1
 have HX := zH (Bx.new w #[.string ⟨x.name.toArray⟩, .string ⟨x.sup.toArray⟩, .slice x.kA x.km x.kc, .slice x.fA x.fm x.fc, .slice x.mA x.mm x.mc] 132)
 clear H ht hx hl hb1
 generalize hff : ffE h L x = FE at *
 generalize hmm : fmE h L x = ME at *
 generalize hft : qw h L x = FT at *
 generalize hhv : hav L x.sup = SU at *
 generalize hhn : hav L x.name = SN at *
 clear hff hmm hft hhv hhn
 obtain ⟨x0, x1, kA, km, kc, fA, fm, fc, mA, mm, mc, ks, fs, ms⟩ := x
 simp only [za.V] at *
 subst hk1
 subst hk2
 go_enter Tryz.func65, Tryz.ntmps65
 have x0 := HX.out.cell 3
 have hxl0 := HX.out.lt
 go_wp2_with fail
 clear x0 hxl0
 have HS1 := zH (show w.heap.size ≤ (w.alloc (.cells #[.string ⟨x0.toArray⟩, .string ⟨x1.toArray⟩, .slice kA km kc, .slice fA fs.length fc, .slice mA ms.length mc] 132)).heap.size from by simp)
 generalize (w.alloc (.cells #[.string ⟨x0.toArray⟩, .string ⟨x1.toArray⟩, .slice kA km kc, .slice fA fs.length fc, .slice mA ms.length mc] 132)) = W1 at *
 have Z1 := zH (Below.refl W1.heap.size W1)
 go_loopw [17] (fun i wr => ∃ j : Nat, j ≤ fs.length ∧ i = .int .i64 j ∧ (∀ k (hk : k < fs.length), k < j → FE k fs[k] = 0) ∧ Below W1.heap.size W1 wr) (fun i _ => fs.length - (intOf i).toNat)
 case atStart => exact ⟨0, Nat.zero_le _, rfl, fun k _ hk => absurd hk (Nat.not_lt_zero k), Z1.out⟩
 case round =>
  obtain ⟨j, hj, rfl, hno, hbel⟩ := hrel
  have Hno := zH hno
  have hbw := HB1.out.trans (hbel.mono HS1.out)
  have Hbw := zH hbw
  have X1 := zH (HX.out.after hbel)
  have hgx := X1.out.lt
  clear hno
  by_cases hlt : j < fs.length
  · obtain ⟨b1, o1, hA, hb1, hc0, hc1⟩ := jr (HFr.out wr hbw) hlt
    subst hA
    have hj1 : (j : Int) < (fs.length : Int) := by omega
    have hj0 : (0 : Int) ≤ (j : Int) := by omega
    have Hbad := zH (fun he => ZM (f := FE) hlt (fun i hi h => Hno.out i hi h) he)
    have Hnext := zH (fun he => Zw (f := FE) (fun i hi h => Hno.out i hi h) hlt he)
    have HfE1 := zH (HfE.out j fs[j])
    have HLd := zH (HLf.out _ (List.getElem_mem hlt))
    have hbox := (HT.out _ hbw).box
    have b0 := hbox.cell 0
    have hgl := hbox.lt
    have x1c := X1.out.cell 1
    have Hbel := zH hbel
    clear hbel hbw hbox
    generalize hFJ : FE j fs[j] = FJ at *
    have HFJ := zH hFJ
    clear hFJ
    generalize fs[j] = y at *
    obtain ⟨nm, ds⟩ := y
    simp only at hc0 hc1 HfE1 HLd
    have HB2 := zH (Hbw.out.alloc Hbw.out.size (.cells #[.string ⟨nm.toArray⟩, .string ⟨ds.toArray⟩] 141))
    have hcell0 : (wr.alloc (.cells #[.string ⟨nm.toArray⟩, .string ⟨ds.toArray⟩] 141)).cell? ⟨t, 0, none⟩ = some (.pointer (some ⟨g, 0, none⟩)) := (((Below.refl wr.heap.size wr).alloc (Nat.le_refl _) _).cell (p := ⟨t, 0, none⟩) hgl).trans b0
    have HK := zH (fun (n : Nat) => (HKn.out _ (Stru.drawn HB2.out n) ds (by have := HLd.out.2; omega)).mono (R' := fun e w' => e = .returned (.bool (h.known ds)) ∧ w' = _) fun e w' ⟨h1, h2⟩ => ⟨h1, h2.symm⟩)
    go_wp2_with fail
    have hsx : wr.heap.size < (wr.alloc (.cells #[.string ⟨nm.toArray⟩, .string ⟨ds.toArray⟩] 141)).heap.size := by simp
    cases hkn : h.known ds
    · have Hq := zH (show FJ = 10 from by rw [HfE1.out, if_pos hkn])
      rw [hkn] at HK
      clear hkn
      go_quiet ((go_at_call 80; exact Calls.quiet_of_same (HK.out _)))
      go_wp2_with fail
      go_ret
      exact ⟨KlsP.zx (HE1.out 10 (by have := Hbad.out (by rw [Hq.out]; decide); rw [this, Hq.out]) (by decide)).symm, Stru.drawn HB2.out _⟩
    · rw [hkn] at HK HfE1
      clear hkn
      go_quiet ((go_at_call 80; exact Calls.quiet_of_same (HK.out _)))
      go_wp2_with fail
      refine (HFd.out _ (Stru.drawn HB2.out nq) nm).mono ?_
      rintro e w3 ⟨hgv, hb3⟩
      obtain ⟨sa, sb, ss, rfl⟩ := zi4 hgv
      have HB3 := zH ((Stru.drawn HB2.out nq).trans (hb3.mono (Stru.drawn HB2.out nq).size))
      have HL3 := zH ((Stru.drawn (Hbel.out.alloc Hbel.out.size _) nq).trans (hb3.mono (Stru.drawn (Hbel.out.alloc Hbel.out.size _) nq).size))
      clear hgv hb3
      generalize zw (Z8 nm) SU.1 = F at *
      by_cases hF : 0 ≤ F
      · have Hq := zH (show FJ = 8 from by rw [HfE1.out, if_neg (by simp), if_pos hF])
        go_wp2_with fail
        go_ret
        exact ⟨KlsP.zx (HE1.out 8 (by have := Hbad.out (by rw [Hq.out]; decide); rw [this, Hq.out]) (by decide)).symm, HB3.out.alloc HB3.out.size _⟩
      · have Hq := zH (Hnext.out (by rw [HfE1.out, if_neg (by simp), if_neg hF]))
        go_wp2_with fail
        go_roundw
        case rel => exact ⟨j + 1, by omega, by go_num, Hq.out, HL3.out.alloc HL3.out.size _⟩
        case measure => simp [intOf]; omega
  · have hjm : j = fs.length := by omega
    have HZ := zH (Zv (f := FE) (l := fs) (fun i hi => Hno.out i hi (by omega)))
    have x0c := X1.out.cell 0
    clear hbel
    go_wp2_with fail
    refine (HHs.out _ Hbw.out).mono ?_
    rintro e w3 ⟨⟨y0, y1, y2, y3, y4, y5, yf, ym⟩, rfl, his, hyf, _, hb3⟩
    simp only [zO.V]
    simp only at hyf
    subst hyf
    have hlen : y1 = SN.1.length := his.flen
    subst hlen
    have hf := zc8 y0 SN.1.length y2 y3 y4 y5 w3
    have HB3 := zH (Hbw.out.trans (hb3.mono Hbw.out.size))
    have X3 := zH (X1.out.after hb3)
    have x4c := X3.out.cell 4
    have hgx3 := X3.out.lt
    clear his hb3 hgx
    by_cases h16 : 16 < SN.1.length
    · have h16' : (16 : Int) < (SN.1.length : Int) := by omega
      have Hq := zH (HE2.out HZ.out h16)
      go_wp2_with fail
      go_ret
      exact ⟨KlsP.zx Hq.out.symm, HB3.out⟩
    · have h16' : ¬ (16 : Int) < (SN.1.length : Int) := by omega
      have H16 := zH h16
      clear h16
      go_wp2_with fail
      clear hf x0c x4c
      have Z3 := zH (Below.refl w3.heap.size w3)
      go_loopw [52] (fun i wr => ∃ j : Nat, j ≤ ms.length ∧ i = .int .i64 j ∧ (∀ k (hk : k < ms.length), k < j → ME k ms[k] = 0) ∧ Below w3.heap.size w3 wr) (fun i _ => ms.length - (intOf i).toNat)
      case atStart => exact ⟨0, Nat.zero_le _, rfl, fun k _ hk => absurd hk (Nat.not_lt_zero k), Z3.out⟩
      case round =>
       clear Hbw Hno X1 hlt hgx3
       obtain ⟨j, hj, rfl, hno, hbel⟩ := hrel
       have Hno := zH hno
       have hbw := HB3.out.trans (hbel.mono HB3.out.size)
       have Hbw := zH hbw
       have X1 := zH (X3.out.after hbel)
       have hgx := X1.out.lt
       clear hno
       by_cases hlt : j < ms.length
       · obtain ⟨b1, o1, hA, hb1, hc0, hc1, hc2, hc3, hc4⟩ := jL (HMr.out _ hbw) hlt
         subst hA
         have hj1 : (j : Int) < (ms.length : Int) := by omega
         have hj0 : (0 : Int) ≤ (j : Int) := by omega
         have Hbad := zH (fun he => ZM (f := ME) hlt (fun i hi h => Hno.out i hi h) he)
         have Hnext := zH (fun he => Zw (f := ME) (fun i hi h => Hno.out i hi h) hlt he)
         have HmE1 := zH (HmE.out j ms[j])
         have HLd := zH (HLm.out _ (List.getElem_mem hlt))
         have x1c := X1.out.cell 1
         have Hbel := zH hbel
         clear hbel hbw
         generalize hFJ : ME j ms[j] = FJ at *
         clear hFJ
         generalize ms[j] = z at *
         obtain ⟨z0, z1, z2, zA, zm, zc, zhA, zhm, zhc, zcode, zhand⟩ := z
         simp only at hc0 hc1 hc2 hc3 hc4 HmE1
         have hz1 : z1.length ≤ 140737488351232 := HLd.out.sig
         have HB4 := zH (Hbw.out.alloc Hbw.out.size (.cells #[.string ⟨z0.toArray⟩, .string ⟨z1.toArray⟩, .int .i64 z2, .slice zA zm zc, .slice zhA zhm zhc] 158))
         have ZB := zH (Bx.new wr #[.string ⟨z0.toArray⟩, .string ⟨z1.toArray⟩, .int .i64 z2, .slice zA zm zc, .slice zhA zhm zhc] 158)
         have HSg1 := zH (HSg.out _ HB4.out z1 hz1)
         have XA := zH (X1.out.after ((Below.refl _ _).alloc (Nat.le_refl _) (.cells #[.string ⟨z0.toArray⟩, .string ⟨z1.toArray⟩, .int .i64 z2, .slice zA zm zc, .slice zhA zhm zhc] 158)))
         have HL4 := zH (Hbel.out.alloc Hbel.out.size (.cells #[.string ⟨z0.toArray⟩, .string ⟨z1.toArray⟩, .int .i64 z2, .slice zA zm zc, .slice zhA zhm zhc] 158))
         cases hsg : UA h z1
         · have Hq := zH (show FJ = 10 from by rw [HmE1.out, if_pos hsg])
           rw [hsg] at HSg1
           clear hsg
           go_wp2_with fail
           refine HSg1.out.mono ?_
           rintro e w5 ⟨rfl, hb5⟩
           have HB5 := zH (HB4.out.trans (hb5.mono HB4.out.size))
           clear hb5
           go_wp2_with fail
           go_ret
           exact ⟨KlsP.zx (HE3.out 10 HZ.out H16.out (by have := Hbad.out (by rw [Hq.out]; decide); rw [this, Hq.out]) (by decide)).symm, HB5.out⟩
         · rw [hsg] at HSg1 HmE1
           clear hsg
           go_wp2_with fail
           refine HSg1.out.mono ?_
           rintro e w5 ⟨rfl, hb5⟩
           have HB5 := zH (HB4.out.trans (hb5.mono HB4.out.size))
           have HL5 := zH (HL4.out.trans (hb5.mono HL4.out.size))
           have ZB5 := zH (ZB.out.after hb5)
           have X5 := zH (XA.out.after hb5)
           have x5c := X5.out.cell 1
           have zc0 := ZB5.out.cell 0
           clear hb5
           go_wp2_with fail
           refine (HMt.out _ HB5.out z0).mono ?_
           rintro e w6 ⟨hgv, hb6⟩
           obtain ⟨sa, sb, ss, at_, rfl, hor⟩ := zi5 (m := ⟨z0, z1, z2, zA, zm, zc, zhA, zhm, zhc, zcode, zhand⟩) hgv
           have HB6 := zH (HB5.out.trans (hb6.mono HB5.out.size))
           have HL6 := zH (HL5.out.trans (hb6.mono HL5.out.size))
           have ZB6 := zH (ZB5.out.after hb6)
           have zc1 := ZB6.out.cell 1
           have zlt := ZB6.out.lt
           simp only at hor
           clear hgv hb6 x5c zc0 x1c hc0 hc1 hc2 hc3 hc4
           generalize YP SU.2 _ = OV at *
           rcases hor with ⟨rfl, rfl⟩ | ⟨hat, hov⟩
           · have Hq := zH (Hnext.out (by rw [HmE1.out, if_neg (by simp), if_neg (by simp)]))
             go_wp2_with fail
             go_roundw
             case rel => exact ⟨j + 1, by omega, by go_num, Hq.out, HL6.out.alloc HL6.out.size _⟩
             case measure => simp [intOf]; omega
           · cases hq : (sb == z1)
             · rw [hq] at hov
               have Hq := zH (show FJ = 15 from by rw [HmE1.out, if_neg (by simp), if_pos (by rw [hov]; rfl)])
               have hq2 : (!(sb == z1)) = true := by rw [hq]; rfl
               clear hov
               go_wp2_with fail
               go_ret
               exact ⟨KlsP.zx (HE3.out 15 HZ.out H16.out (by have := Hbad.out (by rw [Hq.out]; decide); rw [this, Hq.out]) (by decide)).symm, HB6.out.alloc HB6.out.size _⟩
             · rw [hq] at hov
               have Hq := zH (Hnext.out (by rw [HmE1.out, if_neg (by simp), if_neg (by rw [hov]; simp)]))
               have hq2 : (!(sb == z1)) = false := by rw [hq]; rfl
               clear hov
               go_wp2_with fail
               go_roundw
               case rel => exact ⟨j + 1, by omega, by go_num, Hq.out, HL6.out.alloc HL6.out.size _⟩
               case measure => simp [intOf]; omega
       · have hjm : j = ms.length := by omega
         have HZ2 := zH (Zv (f := ME) (l := ms) (fun i hi => Hno.out i hi (by omega)))
         have x0c := X1.out.cell 0
         clear hbel hbw
         go_wp2_with fail
         refine (HHs.out _ Hbw.out).mono ?_
         rintro e w7 ⟨⟨v0, v1, v2, v3, v4, v5, vf, vm⟩, rfl, his, _, hvm, hb7⟩
         simp only [zO.V]
         simp only at hvm
         subst hvm
         have hlen : v4 = SN.2.length := his.mlen
         subst hlen
         have hf := field1 v0 v1 v2 v3 SN.2.length v5 w7
         have HB7 := zH (Hbw.out.trans (hb7.mono Hbw.out.size))
         clear his hb7
         by_cases h32 : 32 < SN.2.length
         · have h32' : (32 : Int) < (SN.2.length : Int) := by omega
           have Hq := zH (show FT = 6 from by rw [HE4.out HZ.out H16.out HZ2.out, if_pos h32])
           go_wp2_with fail
           go_ret
           exact ⟨KlsP.zx Hq.out.symm, HB7.out⟩
         · have h32' : ¬ (32 : Int) < (SN.2.length : Int) := by omega
           have Hq := zH (show FT = 0 from by rw [HE4.out HZ.out H16.out HZ2.out, if_neg h32])
           go_wp2_with fail
           go_ret
           exact ⟨KlsP.zx Hq.out.symm, HB7.out⟩
end TabF
end Go.Proofs.YtmkdhdmkdcankaaGreatDoor
