/- pieces -/
import Derived.Test.YtehainbhoflpnaaGreatDoorK19
namespace Go.Proofs.YtehainbhoflpnaaGreatDoor
namespace TabU
open Go.RowKit Base BinM Stru DescM DescW DescX HierS HierT HierM HierC HierD HierN Kls KlsP KlsQ TabC TabM TabK TabP TabE TabB TabG TabH TabT
theorem look {lo : Nat} {w : World} {t g mb n : Nat} {A : Option Addr} {c : Nat} {h : Hr} {L : List zf} {f : T → Option Zf} (H : Ta lo w t g mb n A c h L f) (ht : Total L f) (q : T) :
 ∃ (D : DV) (X : Zf), w.ownsMap Tryz.prog 9 RV mb n D ∧ D.atKey (.string q) (.held noV.V) = .held X.V ∧ X.is w ∧ X.fields = (hav L q).1 ∧ X.meths = (hav L q).2 := by
 obtain ⟨D, hown, hD, hall⟩ := H.map
 rcases got H ht q with ⟨_, hf, hv⟩ | ⟨x, hf, his, h1, h2⟩
 · exact ⟨D, noV, hown, Maps.atKey_of_not_has ((hall q).1 hf) _, zr1 w, by rw [hv]; rfl, by rw [hv]; rfl⟩
 · exact ⟨D, x, hown, ((hall q).2 x hf).2, his, h1, h2⟩
set_option maxRecDepth 100000 in
set_option maxHeartbeats 2000000 in
theorem jT {lo : Nat} {w : World} {t g mb n : Nat} {A : Option Addr} {c : Nat} {h : Hr} {L : List zf} {f : T → Option Zf} (H : Ta lo w t g mb n A c h L f) (ht : Total L f) (q : T) (hq : q.length ≤ 140737488351232) :
 Calls Tryz.prog 88 #[.pointer (some ⟨t, 0, none⟩), .string ⟨q.toArray⟩] w fun e w' => ∃ x : Zf, e = .returned x.V ∧ x.is w ∧ x.fields = (hav L q).1 ∧ x.meths = (hav L q).2 ∧ Below w.heap.size w w' := by
 obtain ⟨D, X, hown, hat, his, hf, hm⟩ := look H ht q
 obtain ⟨v, ps, hrun, hv⟩ := (hown.alloc (.cells #[.slice none 0 0, .slice none 0 0] 111)).lookup Kw Tryz.underlying103 (Xu _) (show RV noV.V = some (.held noV.V, []) from rfl) (YN q hq)
 obtain rfl : v = X.V := ku (hv.trans (by rw [hat]))
 have b2 := H.box.cell 2
 have hgl := H.box.lt
 have HR := zH (Bx.new w #[.slice none 0 0, .slice none 0 0] 111)
 have f0 := HR.out.free 0
 have f1 := HR.out.free 1
 have HI := zH (show X.is w ∧ X.fields = (hav L q).1 ∧ X.meths = (hav L q).2 from ⟨his, hf, hm⟩)
 clear H ht hown hat his hf hm hv
 obtain ⟨x0, x1, x2, x3, x4, x5, xf, xm⟩ := X
 simp only [Zf.V] at hrun
 go_enter Tryz.func88, Tryz.ntmps88
 go_wp2_with fail
 have HW : Bx (w.alloc (.cells #[.slice x0 x1 x2, .slice x3 x4 x5] 111)) w.heap.size #[.slice x0 x1 x2, .slice x3 x4 x5] 111 := Bx.new w _ _
 have EB : Below w.heap.size w (w.alloc (.cells #[.slice x0 x1 x2, .slice x3 x4 x5] 111)) := (Below.refl w.heap.size w).alloc (Nat.le_refl _) _
 exact bodyPost_ret (v := .agg #[.slice x0 x1 x2, .slice x3 x4 x5]) (jl Tryz.results88 _ _ _ _ rfl (run_loadVar_row _ _ _ _ #[.slice x0 x1 x2, .slice x3 x4 x5] (0, 0) _ HW Tryz.underlying111 rfl YE)) rfl ⟨⟨x0, x1, x2, x3, x4, x5, xf, xm⟩, rfl, HI.out.1, HI.out.2.1, HI.out.2.2, EB⟩
def zY (n : List UInt8) (x : Zi) : Bool := x.name == n
set_option maxRecDepth 100000 in
theorem Uh (x : Zi) (q : List UInt8) (g : Nat) (w : World) (hg : w.cell? ⟨g, 0, none⟩ = some (.string ⟨q.toArray⟩)) :
 Calls Tryz.prog 144 #[x.V, .pointer (some ⟨g, 0, none⟩)] w fun e w' => e = .returned (.bool (zY q x)) ∧ Below w.heap.size w w' := by
 obtain ⟨x0, x1, x2⟩ := x
 unfold Zi.V zY
 simp only
 have hb := (Below.refl w.heap.size w).alloc (Nat.le_refl _) (.cells #[.string ⟨x0.toArray⟩, .string ⟨x1.toArray⟩, .string ⟨x2.toArray⟩] 210)
 have HB := zH hb
 have hg' := (hb.cell (p := ⟨g, 0, none⟩) (World.block_lt_of_cell? w ⟨g, 0, none⟩ hg)).trans hg
 clear hb
 go_enter Tryz.func144, Tryz.ntmps144
 go_wp2_with fail
 go_ret
 exact ⟨rfl, HB.out⟩
set_option maxRecDepth 100000 in
set_option maxHeartbeats 2000000 in
theorem Yj (A : Option Addr) (l : List Zi) (m c : Nat) (q : List UInt8) (g : Nat) (w : World) (hg : w.cell? ⟨g, 0, none⟩ = some (.string ⟨q.toArray⟩)) (hm : m = l.length) (hmx : m ≤ maxLen) (hr : Rds w A (l.flatMap Zi.vals)) :
 Calls Tryz.prog 143 #[.slice A m c, .func (.func 144) #[] #[.pointer (some ⟨g, 0, none⟩)]] w fun e w' => e = .returned (.int .i64 (zD (zY q) l)) ∧ Below w.heap.size w w' := by
 have eg : ∀ args w, (callFunc 144 args).run Tryz.prog w = .ok (.enter 144 args) w := enters_of Tryz.func144 (by kernel_rfl) rfl
 have hml : l.length ≤ m := Nat.le_of_eq hm.symm
 have hml2 : m ≤ l.length := Nat.le_of_eq hm
 have hgl := World.block_lt_of_cell? w ⟨g, 0, none⟩ hg
 have Hg := zH hg
 have Hr := zH hr
 unfold maxLen at hmx
 clear hg hr hm
 go_enter Tryz.func143, Tryz.ntmps143
 go_wp2_with fail
 go_loopw [5, 8] (fun _ i wr => ∃ j : Nat, j ≤ m ∧ i = .int .i64 j ∧ (∀ x ∈ l.take j, zY q x = false) ∧ Below w.heap.size w wr) (fun _ i _ => m - (intOf i).toNat)
 case atStart => exact ⟨0, Nat.zero_le _, rfl, by simp, Below.refl _ _⟩
 case round =>
  obtain ⟨j, hj, rfl, hno, hbel⟩ := hrel
  have Hno := zH hno
  have Hbel := zH hbel
  have hsz := hbel.size
  clear hno
  by_cases hlt : j < m
  · have hja : j < l.length := by omega
    obtain ⟨b1, o1, rfl, hb1, hc0, hc1, hc2⟩ := zt9 (Hr.out.below hbel) hja
    have hj1 : (j : Int) < (m : Int) := by omega
    have hj0 : (0 : Int) ≤ (j : Int) := by omega
    have Hg1 := zH ((hbel.cell (p := ⟨g, 0, none⟩) hgl).trans Hg.out)
    have Hat := zH (fun he => Zw1 (p := zY q) hja Hno.out he)
    have Hnext := zH (fun he => KlsP.qz (p := zY q) hja Hno.out he)
    clear hbel
    have hclo := fun W hg => Uh l[j] q g W hg
    generalize l[j] = x at *
    obtain ⟨x0, x1, x2⟩ := x
    unfold Zi.V at hclo
    simp only at hc0 hc1 hc2 hclo
    generalize zY q _ = D at *
    have Hclo := zH hclo
    clear hclo
    go_wp2_with fail
    refine Calls.mono (Hclo.out _ Hg1.out) ?_
    rintro e w3 ⟨rfl, hb3⟩
    have B3 := zH (Hbel.out.trans (hb3.mono hsz))
    clear hb3
    cases D
    · have Hq := zH (Hnext.out rfl)
      go_wp2_with fail
      go_roundw
      case rel => exact ⟨j + 1, by omega, by go_num, Hq.out, B3.out⟩
      case measure => simp [intOf]; omega
    · have Hq := zH (Hat.out rfl)
      go_wp2_with fail
      go_ret
      exact ⟨TabP.zJ Hq.out.symm, B3.out⟩
  · have hjm : j = m := by omega
    have Hq := zH (qX (p := zY q) (l := l) (by have := Hno.out; rw [List.take_of_length_le (by omega)] at this; exact this))
    clear hbel
    go_wp2_with fail
    go_ret
    exact ⟨TabP.zJ Hq.out.symm, Hbel.out⟩
theorem XD {P : Program} {fn : Func} {p t1 t2 : Tmp} {ty : TypeId} (h : fn.results = #[.cell p ty, .tmp t1, .tmp t2]) (tmps : Array Value) (w : World) (a : Addr) (x : Value)
 (hp : tmps.getD p undef = .pointer (some a)) (hl : (loadVar ty a).run P w = .ok x w) : (results fn tmps).run P w = .ok (.tuple #[x, tmps.getD t1 undef, tmps.getD t2 undef]) w := by
 have hp' : tmps[p]?.getD undef = .pointer (some a) := by simpa using hp
 simp [results, h, hp', asAddr, hl]
theorem qE {α : Type} (p : α → Bool) : ∀ l : List α, zD p l = -1 ∨ ∃ j : Nat, j < l.length ∧ zD p l = (j : Int)
 | [] => .inl rfl
 | x :: r => by
   unfold zD
   by_cases h : p x = true
   · rw [if_pos h]; exact .inr ⟨0, by simp, rfl⟩
   · rw [if_neg h]
     rcases qE p r with e | ⟨j, hj, e⟩
     · rw [if_pos e]; exact .inl rfl
     · rw [if_neg (by omega), e]; exact .inr ⟨j + 1, by simp; omega, by omega⟩
def ZO (l : List Zi) (q : T) (e : Ending) : Prop :=
 (zD (zY q) l = -1 ∧ e = .returned (.tuple #[.agg #[.string ⟨#[]⟩, .string ⟨#[]⟩], .string ⟨#[]⟩, .int .i64 (-1)])) ∨
  ∃ (j : Nat) (hj : j < l.length), zD (zY q) l = (j : Int) ∧ e = .returned (.tuple #[.agg #[.string ⟨l[j].name.toArray⟩, .string ⟨l[j].desc.toArray⟩], .string ⟨l[j].cls.toArray⟩, .int .i64 (j : Int)])
theorem Xw : (Tryz.prog.info? 125).map (·.size) = some 2 := by kernel_rfl
set_option maxRecDepth 100000 in
set_option maxHeartbeats 4000000 in
theorem xS {lo : Nat} {w : World} {t g mb n : Nat} {A : Option Addr} {c : Nat} {h : Hr} {L : List zf} {f : T → Option Zf} (H : Ta lo w t g mb n A c h L f) (ht : Total L f) (q nm : T) (hq : q.length ≤ 140737488351232) :
 Calls Tryz.prog 87 #[.pointer (some ⟨t, 0, none⟩), .string ⟨q.toArray⟩, .string ⟨nm.toArray⟩] w fun e w' => ZO (hav L q).1 nm e ∧ Below w.heap.size w w' := by
 have hb0 : Below w.heap.size w ((w.alloc (.cells #[.string ⟨nm.toArray⟩] 9)).alloc (.cells #[.string ⟨#[]⟩, .string ⟨#[]⟩] 125)) := ((Below.refl _ _).alloc (Nat.le_refl _) _).alloc (by simp) _
 have HH := zH (jT (H.ext hb0) ht q hq)
 have HB := zH hb0
 have hs0 : (w.alloc (.cells #[.string ⟨nm.toArray⟩] 9)).heap.size = w.heap.size + 1 := by simp
 have N0 := (Bx.new w #[.string ⟨nm.toArray⟩] 9).after ((Below.refl _ _).alloc (Nat.le_refl _) (.cells #[.string ⟨#[]⟩, .string ⟨#[]⟩] 125))
 have R0 := Bx.new (w.alloc (.cells #[.string ⟨nm.toArray⟩] 9)) #[.string ⟨#[]⟩, .string ⟨#[]⟩] 125
 rw [hs0] at R0
 have HN := zH N0
 have HR := zH R0
 clear H ht hb0 hs0 N0 R0
 go_enter Tryz.func87, Tryz.ntmps87
 go_wp2_with fail
 refine HH.out.mono ?_
 rintro e w1 ⟨⟨x0, x1, x2, x3, x4, x5, xf, xm⟩, rfl, his, hxf, hxm, hb1⟩
 simp only [Zf.V]
 simp only at hxf
 subst hxf
 have hlen : x1 = (hav L q).1.length := his.flen
 have hmx := zH (show x1 ≤ maxLen from Nat.le_trans his.fle his.fmax)
 subst hlen
 have Hrd := zH (his.frds.below hb1)
 simp only at Hrd
 have N1 := zH (HN.out.after hb1)
 have R1 := zH (HR.out.after hb1)
 have HB1 := zH (HB.out.trans (hb1.mono HB.out.size))
 have hf := zt7 x0 (hav L q).1.length x2 x3 x4 x5 w1
 clear his hxm hb1
 go_wp2_with fail
 refine (Yj x0 (hav L q).1 (hav L q).1.length x2 nm w.heap.size w1 (N1.out.cell 0) rfl hmx.out Hrd.out).mono ?_
 rintro e w2 ⟨rfl, hb2⟩
 have R2 := zH (R1.out.after hb2)
 have Hrd2 := zH (Hrd.out.below hb2)
 have EB := zH (HB1.out.trans (hb2.mono HB1.out.size))
 have f0 := R2.out.free 0
 have f1 := R2.out.free 1
 have r0 := R2.out.cell 0
 have r1 := R2.out.cell 1
 clear hb2 hf
 generalize hEq : (hav L q).1 = l at *
 have HEq := zH hEq
 clear hEq
 rcases qE (zY nm) l with he | ⟨j, hj, he⟩
 · have HE := zH he
   rw [he]
   clear he
   go_wp2_with fail
   have K0 := zH ((R2.out.set 0 (.string ⟨#[]⟩)).set 1 (.string ⟨#[]⟩))
   have HW : Bx ((w2.setCell ⟨w.heap.size + 1, 0, none⟩ (.string ⟨#[]⟩)).setCell ⟨w.heap.size + 1, 1, none⟩ (.string ⟨#[]⟩)) (w.heap.size + 1) #[.string ⟨#[]⟩, .string ⟨#[]⟩] 125 := K0.out
   have EB2 : Below w.heap.size w ((w2.setCell ⟨w.heap.size + 1, 0, none⟩ (.string ⟨#[]⟩)).setCell ⟨w.heap.size + 1, 1, none⟩ (.string ⟨#[]⟩)) := (EB.out.setCell (p := ⟨w.heap.size + 1, 0, none⟩) (by show w.heap.size ≤ w.heap.size + 1; omega) _).setCell (p := ⟨w.heap.size + 1, 1, none⟩) (by show w.heap.size ≤ w.heap.size + 1; omega) _
   exact bodyPost_ret (v := .tuple #[.agg #[.string ⟨#[]⟩, .string ⟨#[]⟩], .string ⟨#[]⟩, .int .i64 (-1)]) (XD Tryz.results87 _ _ _ _ rfl (run_loadVar_row _ _ _ _ #[.string ⟨#[]⟩, .string ⟨#[]⟩] (0, 0) _ HW Tryz.underlying125 rfl Xw)) rfl ⟨by rw [HEq.out]; exact .inl ⟨HE.out, rfl⟩, EB2⟩
 · have HE := zH he
   rw [he]
   clear he
   obtain ⟨b, o, rfl, hb, d0, d1, d2⟩ := zt9 Hrd2.out hj
   have hj1 : (j : Int) < (l.length : Int) := by omega
   have hj0 : (0 : Int) ≤ (j : Int) := by omega
   have hj2 : decide ((j : Int) < 0) = false := by simp
   have HJ := zH (show ∀ e, e = Ending.returned (.tuple #[.agg #[.string ⟨l[j].name.toArray⟩, .string ⟨l[j].desc.toArray⟩], .string ⟨l[j].cls.toArray⟩, .int .i64 (j : Int)]) → ZO l nm e from fun e he => .inr ⟨j, hj, HE.out, he⟩)
   generalize l[j] = y at *
   obtain ⟨y0, y1, y2⟩ := y
   simp only at d0 d1 d2 HJ
   clear Hrd Hrd2 HE hmx
   go_wp2_with go_region
   have K0 := zH ((R2.out.set 0 (.string ⟨y0.toArray⟩)).set 1 (.string ⟨y1.toArray⟩))
   have HW : Bx ((w2.setCell ⟨w.heap.size + 1, 0, none⟩ (.string ⟨y0.toArray⟩)).setCell ⟨w.heap.size + 1, 1, none⟩ (.string ⟨y1.toArray⟩)) (w.heap.size + 1) #[.string ⟨y0.toArray⟩, .string ⟨y1.toArray⟩] 125 := K0.out
   have EB2 : Below w.heap.size w ((w2.setCell ⟨w.heap.size + 1, 0, none⟩ (.string ⟨y0.toArray⟩)).setCell ⟨w.heap.size + 1, 1, none⟩ (.string ⟨y1.toArray⟩)) := (EB.out.setCell (p := ⟨w.heap.size + 1, 0, none⟩) (by show w.heap.size ≤ w.heap.size + 1; omega) _).setCell (p := ⟨w.heap.size + 1, 1, none⟩) (by show w.heap.size ≤ w.heap.size + 1; omega) _
   exact bodyPost_ret (v := .tuple #[.agg #[.string ⟨y0.toArray⟩, .string ⟨y1.toArray⟩], .string ⟨y2.toArray⟩, .int .i64 (j : Int)]) (XD Tryz.results87 _ _ _ _ rfl (run_loadVar_row _ _ _ _ #[.string ⟨y0.toArray⟩, .string ⟨y1.toArray⟩] (0, 0) _ HW Tryz.underlying125 rfl Xw)) rfl ⟨by rw [HEq.out]; exact HJ.out _ rfl, EB2.drew⟩
end TabU
namespace TabV
open Go.RowKit Base BinM Stru DescM DescW DescX DescS DescG DescP DescQ HierS HierT Kls KlsP KlsQ TabC TabM TabK TabP TabE TabB TabG TabH TabT TabU
def ofP (p : Zq1) : zO := ⟨p.name, p.sig, p.locals, none, 0, 0, none, 0, 0, p.code, p.hand⟩
def xw (m : zO) : zO := ofP m.pure
def zR (x : zf) : zf := ⟨x.name, x.sup, none, 0, 0, none, 0, 0, none, 0, 0, x.consts, x.fields, x.meths.map xw⟩
theorem Zf9 {x y : zf} (h : zw8 x y) : zR x = zR y := by
 obtain ⟨h1, h2, h3, h4, h5⟩ := h
 unfold zR
 have e : x.meths.map xw = y.meths.map xw := by
  have := congrArg (List.map ofP) h5
  rw [List.map_map, List.map_map] at this
  exact this
 rw [h1, h2, h3, h4, e]
theorem zk3 (L : List zf) (c : T) : (L.map zR).find? (named c) = (L.find? (named c)).map zR := by
 rw [List.find?_map]; rfl
theorem gL (l : List zG) (k : zf) : qC l (zR k) = qC l k := by
 unfold qC zR
 rw [List.foldl_map]; rfl
theorem KG (L : List zf) : ∀ (n : Nat) (c : T), gat (L.map zR) n c = gat L n c
 | 0, _ => rfl
 | n + 1, c => by
   unfold gat
   rw [zk3]
   cases L.find? (named c) with
   | none => rfl
   | some k =>
     show (qZ (gat (L.map zR) n k.sup).1 (zR k), qC (gat (L.map zR) n k.sup).2 (zR k)) = _
     rw [KG L n k.sup, gL]; rfl
theorem KD (L : List zf) (c : T) : hav (L.map zR) c = hav L c := KG L 41 c
theorem vK {L C : List zf} (h : C.map zR = L.map zR) : hav C = hav L := by
 funext c
 rw [← KD C, ← KD L, h]
def Uz (h : Hr) (s : T) : Bool := (zy s).2.1.all h.known && ((zy s).1 == [86] || h.known (zy s).1)
def YK (l : List zG) (m : zO) : Bool := (l.find? (Zl m.name)).elim false fun e => e.sig != m.sig
def ffE (h : Hr) (L : List zf) (c : zf) (_ : Nat) (f : ZA) : Int := if h.known f.desc = false then 10 else if 0 ≤ zD (zY f.name) (hav L c.sup).1 then 8 else 0
def fmE (h : Hr) (L : List zf) (c : zf) (_ : Nat) (m : zO) : Int := if Uz h m.sig = false then 10 else if YK (hav L c.sup).2 m = true then 15 else 0
def qL (h : Hr) (L : List zf) (c : zf) : Int :=
 if Zo (ffE h L c) c.fields ≠ 0 then Zo (ffE h L c) c.fields else if 16 < (hav L c.name).1.length then 6 else if Zo (fmE h L c) c.meths ≠ 0 then Zo (fmE h L c) c.meths else if 32 < (hav L c.name).2.length then 6 else 0
theorem GD {α β : Type} (f : Nat → β → Int) (g : α → β) (l : List α) : Zo f (l.map g) = Zo (fun i x => f i (g x)) l := by
 unfold Zo
 simp only [List.length_map, List.getElem?_map]
 have e : ∀ i, ((l[i]?).map g).elim false (fun x => f i x != 0) = (l[i]?).elim false (fun x => f i (g x) != 0) := fun i => by cases l[i]? <;> rfl
 simp only [e]
 cases (List.range l.length).find? fun i => (l[i]?).elim false (fun x => f i (g x) != 0) with
 | none => rfl
 | some i => simp only; cases l[i]? <;> rfl
theorem KP (h : Hr) (L : List zf) (c : zf) : qL h L (zR c) = qL h L c := by
 have e1 : ffE h L (zR c) = ffE h L c := rfl
 have e2 : Zo (fmE h L (zR c)) (zR c).meths = Zo (fmE h L c) c.meths := by
  show Zo (fmE h L (zR c)) (c.meths.map xw) = _
  rw [GD]; rfl
 unfold qL
 rw [e1, e2]; rfl
theorem vP {h : Hr} {L C : List zf} {x y : zf} (hl : C.map zR = L.map zR) (hx : zR x = zR y) : qL h C x = qL h L y := by
 have e : qL h C = qL h L := by
  funext z
  unfold qL ffE fmE
  rw [vK hl]
 rw [e, ← KP h L x, hx, KP]
def VU (e : zf → Int) : List zf → T × Int
 | [] => ([], 0)
 | x :: r => if e x ≠ 0 then (x.name, e x) else VU e r
theorem Y0 {e : zf → Int} : ∀ {l : List zf}, (∀ x ∈ l, e x = 0) → VU e l = ([], 0)
 | [], _ => rfl
 | x :: r, h => by
   unfold VU
   rw [if_neg (by rw [h x (by simp)]; simp)]
   exact Y0 fun y hy => h y (by simp [hy])
theorem VT {e : zf → Int} : ∀ {l : List zf} {j : Nat} (hj : j < l.length), (∀ x ∈ l.take j, e x = 0) → e l[j] ≠ 0 → VU e l = (l[j].name, e l[j])
 | [], _, hj, _, _ => by simp at hj
 | x :: r, 0, _, _, h => by
   have h : e x ≠ 0 := h
   unfold VU
   rw [if_pos h]; rfl
 | x :: r, j + 1, hj, h, hne => by
   unfold VU
   rw [if_neg (by rw [h x (by simp)]; simp)]
   exact VT (l := r) (by simpa using hj) (fun y hy => h y (by simp [hy])) hne
theorem yG {e : zf → Int} {l : List zf} {j : Nat} (hj : j < l.length) (h : ∀ x ∈ l.take j, e x = 0) (h2 : e l[j] = 0) : ∀ x ∈ l.take (j + 1), e x = 0 := by
 intro x hx
 rw [List.take_succ_eq_append_getElem hj, List.mem_append] at hx
 rcases hx with hx | hx
 · exact h x hx
 · simp at hx; subst hx; exact h2
def pairs (L : List zf) : List P2 := L.map fun x => (x.name, x.sup)
theorem uM (L : List zf) : pairs (L.map zR) = pairs L := by
 unfold pairs
 rw [List.map_map]; rfl
theorem K7 {L C : List zf} (h : C.map zR = L.map zR) : pairs C = pairs L := by rw [← uM C, ← uM L, h]
def J6 (L : List zf) : T × Int :=
 if (qg (pairs L)).2 ≠ 0 then qg (pairs L) else if (VU qY L).2 ≠ 0 then VU qY L else VU (qL (mk (pairs L)) L) L
theorem kH {L : List zf} (h : (qg (pairs L)).2 ≠ 0) : J6 L = qg (pairs L) := by unfold J6; rw [if_pos h]
theorem za5 {L : List zf} {j : Nat} (h : (qg (pairs L)).2 = 0) (hj : j < L.length) (hz : ∀ x ∈ L.take j, qY x = 0) (hne : qY L[j] ≠ 0) : J6 L = (L[j].name, qY L[j]) := by
 unfold J6
 rw [if_neg (by rw [h]; simp), VT hj hz hne, if_pos hne]
theorem za4 {L : List zf} {j : Nat} (h : (qg (pairs L)).2 = 0) (hc : ∀ x ∈ L, qY x = 0) (hj : j < L.length) (hz : ∀ x ∈ L.take j, qL (mk (pairs L)) L x = 0) (hne : qL (mk (pairs L)) L L[j] ≠ 0) : J6 L = (L[j].name, qL (mk (pairs L)) L L[j]) := by
 unfold J6
 rw [if_neg (by rw [h]; simp), Y0 hc, if_neg (by simp), VT hj hz hne]
theorem za2 {L : List zf} (h : (qg (pairs L)).2 = 0) (hc : ∀ x ∈ L, qY x = 0) (hz : ∀ x ∈ L, qL (mk (pairs L)) L x = 0) : J6 L = ([], 0) := by
 unfold J6
 rw [if_neg (by rw [h]; simp), Y0 hc, if_neg (by simp), Y0 hz]
theorem QG {l : List P2} (h : (qg l).2 = 0) : l.length ≤ 32 ∧ twice [Zc] (full l) = none ∧ qH (nms (full l)) (full l) = none := by
 unfold qg at h
 split at h
 · cases h
 · rename_i h1
   split at h
   · cases h
   · rename_i h2
     split at h
     · cases h
     · rename_i h3
       exact ⟨by omega, h2, h3⟩
theorem Kc {L : List zf} {k : zf} (hk : k ∈ L) : k.name ∈ (mk (pairs L)).names := by
 show k.name ∈ Zc :: (full (pairs L)).map (·.1)
 refine List.mem_cons_of_mem _ (List.mem_map.2 ⟨(k.name, k.sup), ?_, rfl⟩)
 exact List.mem_append.2 (.inr (List.mem_map.2 ⟨k, hk, rfl⟩))
theorem jK {L : List zf} {d : T} {k : zf} (hf : L.find? (named d) = some k) : k ∈ L ∧ k.name = d :=
 ⟨List.mem_of_find?_eq_some hf, by have := List.find?_some hf; unfold named at this; exact eq_of_beq this⟩
theorem zg1 {L : List zf} (h : (qg (pairs L)).2 = 0) {k : zf} (hk : k ∈ L) : (∀ p ∈ alw, p.1 ≠ k.name) ∧ k.name ≠ Zc := by
 obtain ⟨_, h2, _⟩ := QG h
 obtain ⟨h3, h4⟩ := jC _ _ h2
 have hm : (k.name, k.sup) ∈ pairs L := List.mem_map.2 ⟨k, hk, rfl⟩
 refine ⟨fun p hp e => ?_, fun e => ?_⟩
 · unfold full at h4
   rw [List.map_append, List.nodup_append] at h4
   exact h4.2.2 p.1 (List.mem_map.2 ⟨p, hp, rfl⟩) k.name (List.mem_map.2 ⟨_, hm, rfl⟩) e
 · exact h3 (k.name, k.sup) (List.mem_append.2 (.inr hm)) (by simp [e])
theorem za7 {L : List zf} (h : (qg (pairs L)).2 = 0) {d : T} {k : zf} (hf : L.find? (named d) = some k) : (mk (pairs L)).up d = some k.sup := by
 obtain ⟨hk, hn⟩ := jK hf
 obtain ⟨hal, _⟩ := zg1 h hk
 obtain ⟨_, _, h3⟩ := QG h
 have hm : (k.name, k.sup) ∈ full (pairs L) := List.mem_append.2 (.inr (List.mem_map.2 ⟨k, hk, rfl⟩))
 have hs := jJ _ _ h3 _ hm
 have hfa : (full (pairs L)).find? (fun p => p.1 == d) = some (k.name, k.sup) := by
  unfold full
  rw [List.find?_append]
  have e1 : alw.find? (fun p => p.1 == d) = none := by
   rw [List.find?_eq_none]
   intro p hp he
   exact hal p hp ((eq_of_beq he).trans hn.symm)
  have e2 : (pairs L).find? (fun p => p.1 == d) = (L.find? (named d)).map fun x => (x.name, x.sup) := by
   unfold pairs
   rw [List.find?_map]; rfl
  rw [e1, e2, hf]; rfl
 show ((abv (full (pairs L)) d).bind fun i => (nms (full (pairs L)))[i]?) = some k.sup
 unfold abv
 rw [hfa]
 exact yN hs
theorem ways {L : List zf} (h : (qg (pairs L)).2 = 0) {k : zf} (hk : k ∈ L) : ∃ l, Zz (mk (pairs L)).up k.name l ∧ l.length ≤ 41 := by
 obtain ⟨hg, hn, _⟩ := Yt h
 obtain ⟨l, h1, h2⟩ := hg.ways _ (Kc hk)
 exact ⟨l, h1, Nat.le_trans h2 hn⟩
end TabV
namespace TabW
open Go.RowKit Base BinM Stru DescM DescW DescX DescS DescG DescP DescQ HierS HierT HierM HierC HierD HierN Kls KlsP KlsQ OpenK TabC TabM TabK TabP TabE TabB TabG TabH TabT TabU TabV
def J5 (l : List zG) (q : T) (e : Ending) : Prop :=
 (Ze (Zl q) l = -1 ∧ e = .returned (.tuple #[.agg #[.string ⟨#[]⟩, .string ⟨#[]⟩, .string ⟨#[]⟩], .int .i64 (-1)])) ∨
  ∃ (j : Nat) (hj : j < l.length), Ze (Zl q) l = (j : Int) ∧ e = .returned (.tuple #[.agg #[.string ⟨l[j].name.toArray⟩, .string ⟨l[j].sig.toArray⟩, .string ⟨l[j].cls.toArray⟩], .int .i64 (j : Int)])
theorem Ve : (Tryz.prog.info? 160).map (·.size) = some 3 := by kernel_rfl
set_option maxRecDepth 100000 in
set_option maxHeartbeats 4000000 in
theorem Yh {lo : Nat} {w : World} {t g mb n : Nat} {A : Option Addr} {c : Nat} {h : Hr} {L : List zf} {f : T → Option Zf} (H : Ta lo w t g mb n A c h L f) (ht : Total L f) (q nm : T) (hq : q.length ≤ 140737488351232) :
 Calls Tryz.prog 90 #[.pointer (some ⟨t, 0, none⟩), .string ⟨q.toArray⟩, .string ⟨nm.toArray⟩] w fun e w' => J5 (hav L q).2 nm e ∧ Below w.heap.size w w' := by
 have hb0 : Below w.heap.size w (w.alloc (.cells #[.string ⟨#[]⟩, .string ⟨#[]⟩, .string ⟨#[]⟩] 160)) := (Below.refl _ _).alloc (Nat.le_refl _) _
 have HH := zH (jT (H.ext hb0) ht q hq)
 have HB := zH hb0
 have HR := zH (Bx.new w #[.string ⟨#[]⟩, .string ⟨#[]⟩, .string ⟨#[]⟩] 160)
 clear H ht hb0
 go_enter Tryz.func90, Tryz.ntmps90
 go_wp2_with fail
 refine HH.out.mono ?_
 rintro e w1 ⟨⟨x0, x1, x2, x3, x4, x5, xf, xm⟩, rfl, his, hxf, hxm, hb1⟩
 simp only [Zf.V]
 simp only at hxm
 subst hxm
 have hlen : x4 = (hav L q).2.length := his.mlen
 have hmx := zH (show x4 ≤ maxLen from Nat.le_trans his.mle his.mmax)
 subst hlen
 have Hrd := zH (his.mrds.below hb1)
 simp only at Hrd
 have R1 := zH (HR.out.after hb1)
 have HB1 := zH (HB.out.trans (hb1.mono HB.out.size))
 have hf := field1 x0 x1 x2 x3 (hav L q).2.length x5 w1
 clear his hxf hb1
 go_wp2_with fail
 refine (vB x3 (hav L q).2 (hav L q).2.length x5 nm w1 rfl hmx.out Hrd.out).mono ?_
 rintro e w2 ⟨rfl, hb2⟩
 have R2 := zH (R1.out.after hb2)
 have Hrd2 := zH (Hrd.out.below hb2)
 have EB := zH (HB1.out.trans (hb2.mono HB1.out.size))
 have f0 := R2.out.free 0
 have f1 := R2.out.free 1
 have f2 := R2.out.free 2
 have r0 := R2.out.cell 0
 have r1 := R2.out.cell 1
 have r2 := R2.out.cell 2
 clear hb2 hf
 generalize hEq : (hav L q).2 = l at *
 have HEq := zH hEq
 clear hEq
 rcases qo (Zl nm) l with he | ⟨j, hj, he⟩
 · have HE := zH he
   rw [he]
   clear he
   go_wp2_with fail
   have K0 := zH (((R2.out.set 0 (.string ⟨#[]⟩)).set 1 (.string ⟨#[]⟩)).set 2 (.string ⟨#[]⟩))
   have HW : Bx (((w2.setCell ⟨w.heap.size, 0, none⟩ (.string ⟨#[]⟩)).setCell ⟨w.heap.size, 1, none⟩ (.string ⟨#[]⟩)).setCell ⟨w.heap.size, 2, none⟩ (.string ⟨#[]⟩)) w.heap.size #[.string ⟨#[]⟩, .string ⟨#[]⟩, .string ⟨#[]⟩] 160 := K0.out
   have EB2 : Below w.heap.size w (((w2.setCell ⟨w.heap.size, 0, none⟩ (.string ⟨#[]⟩)).setCell ⟨w.heap.size, 1, none⟩ (.string ⟨#[]⟩)).setCell ⟨w.heap.size, 2, none⟩ (.string ⟨#[]⟩)) := ((EB.out.setCell (p := ⟨w.heap.size, 0, none⟩) (Nat.le_refl _) _).setCell (p := ⟨w.heap.size, 1, none⟩) (Nat.le_refl _) _).setCell (p := ⟨w.heap.size, 2, none⟩) (Nat.le_refl _) _
   exact bodyPost_ret (v := .tuple #[.agg #[.string ⟨#[]⟩, .string ⟨#[]⟩, .string ⟨#[]⟩], .int .i64 (-1)]) (zX Tryz.results90 _ _ _ _ rfl (run_loadVar_row _ _ _ _ #[.string ⟨#[]⟩, .string ⟨#[]⟩, .string ⟨#[]⟩] (0, 0) _ HW Tryz.underlying160 rfl Ve)) rfl ⟨by rw [HEq.out]; exact .inl ⟨HE.out, rfl⟩, EB2⟩
 · have HE := zH he
   rw [he]
   clear he
   obtain ⟨b, o, rfl, hb, d0, d1, d2⟩ := xU Hrd2.out hj
   have hj1 : (j : Int) < (l.length : Int) := by omega
   have hj0 : (0 : Int) ≤ (j : Int) := by omega
   have hj2 : decide ((j : Int) < 0) = false := by simp
   have HJ := zH (show ∀ e, e = Ending.returned (.tuple #[.agg #[.string ⟨l[j].name.toArray⟩, .string ⟨l[j].sig.toArray⟩, .string ⟨l[j].cls.toArray⟩], .int .i64 (j : Int)]) → J5 l nm e from fun e he => .inr ⟨j, hj, HE.out, he⟩)
   generalize l[j] = y at *
   obtain ⟨y0, y1, y2⟩ := y
   simp only at d0 d1 d2 HJ
   clear Hrd Hrd2 HE hmx
   go_wp2_with fail
   have K0 := zH (((R2.out.set 0 (.string ⟨y0.toArray⟩)).set 1 (.string ⟨y1.toArray⟩)).set 2 (.string ⟨y2.toArray⟩))
   have HW : Bx (((w2.setCell ⟨w.heap.size, 0, none⟩ (.string ⟨y0.toArray⟩)).setCell ⟨w.heap.size, 1, none⟩ (.string ⟨y1.toArray⟩)).setCell ⟨w.heap.size, 2, none⟩ (.string ⟨y2.toArray⟩)) w.heap.size #[.string ⟨y0.toArray⟩, .string ⟨y1.toArray⟩, .string ⟨y2.toArray⟩] 160 := K0.out
   have EB2 : Below w.heap.size w (((w2.setCell ⟨w.heap.size, 0, none⟩ (.string ⟨y0.toArray⟩)).setCell ⟨w.heap.size, 1, none⟩ (.string ⟨y1.toArray⟩)).setCell ⟨w.heap.size, 2, none⟩ (.string ⟨y2.toArray⟩)) := ((EB.out.setCell (p := ⟨w.heap.size, 0, none⟩) (Nat.le_refl _) _).setCell (p := ⟨w.heap.size, 1, none⟩) (Nat.le_refl _) _).setCell (p := ⟨w.heap.size, 2, none⟩) (Nat.le_refl _) _
   exact bodyPost_ret (v := .tuple #[.agg #[.string ⟨y0.toArray⟩, .string ⟨y1.toArray⟩, .string ⟨y2.toArray⟩], .int .i64 (j : Int)]) (zX Tryz.results90 _ _ _ _ rfl (run_loadVar_row _ _ _ _ #[.string ⟨y0.toArray⟩, .string ⟨y1.toArray⟩, .string ⟨y2.toArray⟩] (0, 0) _ HW Tryz.underlying160 rfl Ve)) rfl ⟨by rw [HEq.out]; exact HJ.out _ rfl, EB2⟩
theorem gU {p : T → Bool} {l : List T} {j : Nat} (hj : j < l.length) (h : ∀ x ∈ l.take j, p x = true) (h2 : p l[j] = true) : ∀ x ∈ l.take (j + 1), p x = true := by
 intro x hx
 rw [List.take_succ_eq_append_getElem hj, List.mem_append] at hx
 rcases hx with hx | hx
 · exact h x hx
 · simp at hx; subst hx; exact h2
theorem Jl : ∀ (n : Nat) (l : T) (ts : List T) (g : T), parse n l = some (ts, g) → g.length ≤ l.length ∧ ∀ t ∈ ts, t.length ≤ l.length := by
 intro n
 induction n with
 | zero =>
   intro l ts g h
   by_cases h41 : l.head? = some 41
   · rw [QZ 0 h41] at h
     injection h with h; injection h with h1 h2
     subst h1; subst h2
     exact ⟨by rw [List.length_drop]; omega, by simp⟩
   · rw [jI h41] at h; cases h
 | succ n ih =>
   intro l ts g h
   by_cases h41 : l.head? = some 41
   · rw [QZ (n + 1) h41] at h
     injection h with h; injection h with h1 h2
     subst h1; subst h2
     exact ⟨by rw [List.length_drop]; omega, by simp⟩
   · cases hl : Zy l with
     | none => rw [QK (n + 1) h41 hl] at h; cases h
     | some k =>
       rw [JB n h41 hl] at h
       cases hp : parse n (l.drop k) with
       | none => rw [hp] at h; cases h
       | some r =>
         obtain ⟨ts', g'⟩ := r
         rw [hp] at h
         injection h with h; injection h with h1 h2
         subst h1; subst h2
         obtain ⟨i1, i2⟩ := ih _ _ _ hp
         rw [List.length_drop] at i1 i2
         refine ⟨by show g'.length ≤ l.length; omega, fun t ht => ?_⟩
         rcases List.mem_cons.1 ht with rfl | ht
         · simp only [List.length_take]; omega
         · have := i2 t ht; omega
theorem Jb (s : T) : (zy s).1.length ≤ s.length ∧ ∀ x ∈ (zy s).2.1, x.length ≤ s.length := by
 unfold zy
 split
 · split
   · rename_i h
     obtain ⟨i1, i2⟩ := Jl 6 _ _ _ h
     rw [List.length_drop] at i1 i2
     split
     · exact ⟨by show _ ≤ _; simp only; omega, fun x hx => by have := i2 x hx; omega⟩
     · simp
   · simp
 · simp
set_option maxRecDepth 100000 in
set_option maxHeartbeats 4000000 in
theorem VA {lo : Nat} {w : World} {t g mb n : Nat} {A : Option Addr} {c : Nat} {h : Hr} {L : List zf} {f : T → Option Zf} (H : Ta lo w t g mb n A c h L f) (s : T) (hs : s.length ≤ 140737488351232) :
 Calls Tryz.prog 89 #[.pointer (some ⟨t, 0, none⟩), .string ⟨s.toArray⟩] w fun e w' => e = .returned (.bool (Uz h s)) ∧ Below w.heap.size w w' := by
 have HS := zH (yJ s w (by omega))
 have HT := zH (fun (W : World) (hb : Below w.heap.size w W) => H.ext hb)
 have hlen := Jb s
 have Hlen := zH hlen
 clear H hlen
 go_enter Tryz.func89, Tryz.ntmps89
 go_wp2_with fail
 refine HS.out.mono ?_
 rintro e w1 ⟨v, rfl, hown, hb1⟩
 have Hfin := zH (show Uz h s = ((zy s).2.1.all h.known && ((zy s).1 == [86] || h.known (zy s).1)) from rfl)
 obtain ⟨B, cap, rfl, hq1, hq2, hrd, _⟩ := hown.slice
 have hmx := Nat.le_trans hq1 hq2
 unfold maxLen at hmx
 clear hq1 hq2
 have Hrd := zH hrd
 have HB1 := zH hb1
 clear hown hrd hb1
 generalize zy s = S at *
 obtain ⟨gv, tk, er⟩ := S
 simp only at Hfin Hrd Hlen
 unfold str
 simp only
 generalize hm : tk.length = m
 have hml : tk.length ≤ m := Nat.le_of_eq hm
 have hml2 : m ≤ tk.length := Nat.le_of_eq hm.symm
 have hmx2 : m ≤ 2 ^ 63 - 1 := by rw [← hm]; exact hmx
 clear hm hmx
 go_wp2_with fail
 go_loopw [9, 18] (fun _ i wr => ∃ j : Nat, j ≤ m ∧ i = .int .i64 j ∧ (∀ x ∈ tk.take j, h.known x = true) ∧ Below w1.heap.size w1 wr) (fun _ i _ => m - (intOf i).toNat)
 case atStart => exact ⟨0, Nat.zero_le _, rfl, by simp, Below.refl _ _⟩
 case round =>
  obtain ⟨j, hj, rfl, hno, hbel⟩ := hrel
  have Hno := zH hno
  have Hbel := zH hbel
  have hbw := HB1.out.trans (hbel.mono HB1.out.size)
  have hbox := (HT.out _ hbw).box
  have b0 := hbox.cell 0
  have hgl := hbox.lt
  have Hbw := zH hbw
  have hKn := fun (d : T) (hd : d.length ≤ s.length) => Q0 lo g h d wr (HT.out wr hbw).hier (by omega)
  have HKn := zH hKn
  clear hno hbw hbox hKn
  by_cases hlt : j < m
  · have hja : j < tk.length := by omega
    obtain ⟨b1, o1, rfl, hb1, hc⟩ := (Hrd.out.below hbel).at_ (k := j) (by simpa using hja)
    rw [List.getElem_map] at hc
    have hj1 : (j : Int) < (m : Int) := by omega
    have hj0 : (0 : Int) ≤ (j : Int) := by omega
    have HK := zH (HKn.out tk[j] (Hlen.out.2 _ (List.getElem_mem hja)))
    have Hnext := zH (fun he => gU (p := h.known) hja Hno.out he)
    have Hbad := zH (show h.known tk[j] = false → Uz h s = false from fun he => by
     rw [Hfin.out]
     have : tk.all h.known = false := by rw [List.all_eq_false]; exact ⟨tk[j], List.getElem_mem hja, by rw [he]; simp⟩
     rw [this]; rfl)
    clear hbel
    generalize tk[j] = d at *
    generalize h.known d = K at *
    unfold str at hc
    cases K
    · have Hq := zH (Hbad.out rfl)
      go_wp2_with (go_at_call 86; refine HK.out.mono ?_; rintro e w' ⟨rfl, rfl⟩)
      go_ret
      exact ⟨BinName.ze Hq.out.symm, Hbw.out⟩
    · have Hq := zH (Hnext.out rfl)
      go_wp2_with (go_at_call 86; refine HK.out.mono ?_; rintro e w' ⟨rfl, rfl⟩)
      go_roundw
      case rel => exact ⟨j + 1, by omega, by go_num, Hq.out, Hbel.out⟩
      case measure => simp [intOf]; omega
  · have hall : tk.all h.known = true := by
     rw [List.all_eq_true]
     have := Hno.out
     rw [List.take_of_length_le (by omega)] at this
     exact this
    rw [hall] at Hfin
    have HK := zH (HKn.out gv Hlen.out.1)
    clear hbel hall
    generalize h.known gv = K at *
    cases hV : gv == [86]
    · rw [hV] at Hfin
      go_wp2_with (go_at_call 86; refine HK.out.mono ?_; rintro e w' ⟨rfl, rfl⟩)
      go_ret
      exact ⟨BinName.ze (by rw [Hfin.out]; rfl), Hbw.out⟩
    · rw [hV] at Hfin
      go_wp2_with fail
      go_ret
      exact ⟨BinName.ze (by rw [Hfin.out]; rfl), Hbw.out⟩
theorem ze6 {l : List Zi} {q : T} {e : Ending} (h : ZO l q e) : ∃ a b s : ByteArray, e = .returned (.tuple #[.agg #[.string a, .string b], .string s, .int .i64 (zD (zY q) l)]) := by
 rcases h with ⟨h1, rfl⟩ | ⟨j, hj, h1, rfl⟩
 · rw [h1]; exact ⟨_, _, _, rfl⟩
 · rw [h1]; exact ⟨_, _, _, rfl⟩
theorem XH {p : zG → Bool} : ∀ {l : List zG} {j : Nat} (hj : j < l.length), Ze p l = (j : Int) → l.find? p = some l[j]
 | [], _, hj, _ => by simp at hj
 | x :: r, j, hj, h => by
   unfold Ze at h
   by_cases hp : p x = true
   · rw [if_pos hp] at h
     have : j = 0 := by omega
     subst this
     rw [List.find?_cons_of_pos hp]; rfl
   · rw [if_neg hp] at h
     by_cases h2 : Ze p r = -1
     · rw [if_pos h2] at h; omega
     · rw [if_neg h2] at h
       cases j with
       | zero =>
         rcases qo p r with e | ⟨k, _, e⟩
         · exact absurd e h2
         · omega
       | succ k =>
         rw [List.find?_cons_of_neg hp]
         exact XH (l := r) (by simpa using hj) (by omega)
theorem YX {p : zG → Bool} : ∀ {l : List zG}, Ze p l = -1 → l.find? p = none
 | [], _ => rfl
 | x :: r, h => by
   unfold Ze at h
   by_cases hp : p x = true
   · rw [if_pos hp] at h; cases h
   · rw [if_neg hp] at h
     by_cases h2 : Ze p r = -1
     · rw [List.find?_cons_of_neg hp]; exact YX h2
     · rw [if_neg h2] at h
       rcases qo p r with e | ⟨k, _, e⟩
       · exact absurd e h2
       · omega
theorem ze7 {l : List zG} {m : zO} {e : Ending} (h : J5 l m.name e) : ∃ (a b s : List UInt8) (at_ : Int), e = .returned (.tuple #[.agg #[.string ⟨a.toArray⟩, .string ⟨b.toArray⟩, .string ⟨s.toArray⟩], .int .i64 at_]) ∧ ((at_ = -1 ∧ YK l m = false) ∨ (0 ≤ at_ ∧ YK l m = !(b == m.sig))) := by
 rcases h with ⟨h1, rfl⟩ | ⟨j, hj, h1, rfl⟩
 · refine ⟨[], [], [], -1, rfl, .inl ⟨rfl, ?_⟩⟩
   unfold YK
   rw [YX h1]; rfl
 · refine ⟨_, _, _, _, rfl, .inr ⟨by omega, ?_⟩⟩
   unfold YK
   rw [XH hj h1]; rfl
theorem vO {h : Hr} {L : List zf} {x : zf} {e : Int} (hf : Zo (ffE h L x) x.fields = e) (hne : e ≠ 0) : qL h L x = e := by
 unfold qL; rw [hf, if_pos hne]
theorem KM {h : Hr} {L : List zf} {x : zf} (hf : Zo (ffE h L x) x.fields = 0) (hs : 16 < (hav L x.name).1.length) : qL h L x = 6 := by
 unfold qL; rw [hf, if_neg (by simp), if_pos hs]
theorem KN {h : Hr} {L : List zf} {x : zf} {e : Int} (hf : Zo (ffE h L x) x.fields = 0) (hs : ¬ 16 < (hav L x.name).1.length) (hm : Zo (fmE h L x) x.meths = e) (hne : e ≠ 0) : qL h L x = e := by
 unfold qL; rw [hf, if_neg (by simp), if_neg hs, hm, if_pos hne]
theorem KO {h : Hr} {L : List zf} {x : zf} (hf : Zo (ffE h L x) x.fields = 0) (hs : ¬ 16 < (hav L x.name).1.length) (hm : Zo (fmE h L x) x.meths = 0) : qL h L x = if 32 < (hav L x.name).2.length then 6 else 0 := by
 unfold qL; rw [hf, if_neg (by simp), if_neg hs, hm, if_neg (by simp)]
end TabW
namespace TabF
open Go.RowKit Base BinM Stru DescM DescW DescX DescS DescG DescP DescQ HierS HierT HierM HierC HierD HierN Kls KlsP KlsQ OpenK TabC TabM TabK TabP TabE TabB TabG TabH TabT TabU TabV TabW
set_option maxRecDepth 100000 in
set_option maxHeartbeats 8000000 in
theorem yu {lo : Nat} {w : World} {t g mb n : Nat} {A : Option Addr} {c : Nat} {h : Hr} {L : List zf} {f : T → Option Zf} (H : Ta lo w t g mb n A c h L f) (ht : Total L f) (x : zf) (hx : x.is w) (hl : zf.lt x) :
 Calls Tryz.prog 38 #[.pointer (some ⟨t, 0, none⟩), x.V] w fun e w' => e = .returned (.int .i64 (qL h L x)) ∧ Below w.heap.size w w' := by
 have HT := zH (fun (W : World) (hb : Below w.heap.size w W) => H.ext hb)
 have HFd := zH (fun (W : World) (hb : Below w.heap.size w W) (nm : T) => xS (H.ext hb) ht x.sup nm (by have := hl.sup; omega))
 have HMt := zH (fun (W : World) (hb : Below w.heap.size w W) (nm : T) => Yh (H.ext hb) ht x.sup nm (by have := hl.sup; omega))
 have HHs := zH (fun (W : World) (hb : Below w.heap.size w W) => jT (H.ext hb) ht x.name (by have := hl.name; omega))
 have HSg := zH (fun (W : World) (hb : Below w.heap.size w W) (s : T) (hs : s.length ≤ 140737488351232) => VA (H.ext hb) s hs)
 have HKn := zH (fun (W : World) (hb : Below w.heap.size w W) (d : T) (hd : d.length ≤ 140737488351232) => Q0 lo g h d W (H.ext hb).hier (by omega))
 have HFr := zH (fun (W : World) (hb : Below w.heap.size w W) => hx.fields.rds.below hb)
 have HMr := zH (fun (W : World) (hb : Below w.heap.size w W) => hx.meths.rds.below hb)
 have HLf := zH hl.fields
 have HLm := zH hl.meths
 have hk1 : x.fm = x.fields.length := hx.fields.len
 have hk2 : x.mm = x.meths.length := hx.meths.len
 have hk3 : x.fm ≤ 2 ^ 63 - 1 := by have := hx.fields.le; have := hx.fields.max; unfold maxLen at *; omega
 have hk4 : x.mm ≤ 2 ^ 63 - 1 := by have := hx.meths.le; have := hx.meths.max; unfold maxLen at *; omega
 have HE1 := zH (fun (e : Int) => @vO h L x e)
 have HE2 := zH (@KM h L x)
 have HE3 := zH (fun (e : Int) => @KN h L x e)
 have HE4 := zH (@KO h L x)
 have HfE := zH (show ∀ i y, ffE h L x i y = if h.known y.desc = false then 10 else if 0 ≤ zD (zY y.name) (hav L x.sup).1 then 8 else 0 from fun _ _ => rfl)
 have HmE := zH (show ∀ i y, fmE h L x i y = if Uz h y.sig = false then 10 else if YK (hav L x.sup).2 y = true then 15 else 0 from fun _ _ => rfl)
 have hb1 : Below w.heap.size w (w.alloc (.cells #[.string ⟨x.name.toArray⟩, .string ⟨x.sup.toArray⟩, .slice x.kA x.km x.kc, .slice x.fA x.fm x.fc, .slice x.mA x.mm x.mc] 81)) := (Below.refl _ _).alloc (Nat.le_refl _) _
 have HB1 := zH hb1
 have HX := zH (Bx.new w #[.string ⟨x.name.toArray⟩, .string ⟨x.sup.toArray⟩, .slice x.kA x.km x.kc, .slice x.fA x.fm x.fc, .slice x.mA x.mm x.mc] 81)
 clear H ht hx hl hb1
 generalize hff : ffE h L x = FE at *
 generalize hmm : fmE h L x = ME at *
 generalize hft : qL h L x = FT at *
 generalize hhv : hav L x.sup = SU at *
 generalize hhn : hav L x.name = SN at *
 clear hff hmm hft hhv hhn
 obtain ⟨x0, x1, kA, km, kc, fA, fm, fc, mA, mm, mc, ks, fs, ms⟩ := x
 simp only [zf.V] at *
 subst hk1
 subst hk2
 go_enter Tryz.func38, Tryz.ntmps38
 have x0 := HX.out.cell 3
 have hxl0 := HX.out.lt
 go_wp2_with fail
 clear x0 hxl0
 have HS1 := zH (show w.heap.size ≤ (w.alloc (.cells #[.string ⟨x0.toArray⟩, .string ⟨x1.toArray⟩, .slice kA km kc, .slice fA fs.length fc, .slice mA ms.length mc] 81)).heap.size from by simp)
 generalize (w.alloc (.cells #[.string ⟨x0.toArray⟩, .string ⟨x1.toArray⟩, .slice kA km kc, .slice fA fs.length fc, .slice mA ms.length mc] 81)) = W1 at *
 have Z1 := zH (Below.refl W1.heap.size W1)
 go_loopw [17] (fun i wr => ∃ j : Nat, j ≤ fs.length ∧ i = .int .i64 j ∧ (∀ k (hk : k < fs.length), k < j → FE k fs[k] = 0) ∧ Below W1.heap.size W1 wr) (fun i _ => fs.length - (intOf i).toNat)
 case atStart => exact ⟨0, Nat.zero_le _, rfl, fun k _ hk => absurd hk (Nat.not_lt_zero k), Z1.out⟩
 case round =>
  obtain ⟨j, hj, rfl, hno, hbel⟩ := hrel
  have Hno := zH hno
  have hbw := HB1.out.trans (hbel.mono HS1.out)
  have Hbw := zH hbw
  have X1 := zH (HX.out.after hbel)
  have hgx := X1.out.lt
  clear hno
  by_cases hlt : j < fs.length
  · obtain ⟨b1, o1, hA, hb1, hc0, hc1⟩ := JI (HFr.out wr hbw) hlt
    subst hA
    have hj1 : (j : Int) < (fs.length : Int) := by omega
    have hj0 : (0 : Int) ≤ (j : Int) := by omega
    have Hbad := zH (fun he => qp (f := FE) hlt (fun i hi h => Hno.out i hi h) he)
    have Hnext := zH (fun he => ZX (f := FE) (fun i hi h => Hno.out i hi h) hlt he)
    have HfE1 := zH (HfE.out j fs[j])
    have HLd := zH (HLf.out _ (List.getElem_mem hlt))
    have hbox := (HT.out _ hbw).box
    have b0 := hbox.cell 0
    have hgl := hbox.lt
    have x1c := X1.out.cell 1
    have Hbel := zH hbel
    clear hbel hbw hbox
    generalize hFJ : FE j fs[j] = FJ at *
    have HFJ := zH hFJ
    clear hFJ
    generalize fs[j] = y at *
    obtain ⟨nm, ds⟩ := y
    simp only at hc0 hc1 HfE1 HLd
    have HB2 := zH (Hbw.out.alloc Hbw.out.size (.cells #[.string ⟨nm.toArray⟩, .string ⟨ds.toArray⟩] 125))
    have hcell0 : (wr.alloc (.cells #[.string ⟨nm.toArray⟩, .string ⟨ds.toArray⟩] 125)).cell? ⟨t, 0, none⟩ = some (.pointer (some ⟨g, 0, none⟩)) := (((Below.refl wr.heap.size wr).alloc (Nat.le_refl _) _).cell (p := ⟨t, 0, none⟩) hgl).trans b0
    have HK := zH (fun (n : Nat) => (HKn.out _ (Stru.drawn HB2.out n) ds (by have := HLd.out.2; omega)).mono (R' := fun e w' => e = .returned (.bool (h.known ds)) ∧ w' = _) fun e w' ⟨h1, h2⟩ => ⟨h1, h2.symm⟩)
    go_wp2_with fail
    have hsx : wr.heap.size < (wr.alloc (.cells #[.string ⟨nm.toArray⟩, .string ⟨ds.toArray⟩] 125)).heap.size := by simp
    cases hkn : h.known ds
    · have Hq := zH (show FJ = 10 from by rw [HfE1.out, if_pos hkn])
      rw [hkn] at HK
      clear hkn
      go_quiet ((go_at_call 86; exact Calls.quiet_of_same (HK.out _)))
      go_wp2_with fail
      go_ret
      exact ⟨KlsP.zJ (HE1.out 10 (by have := Hbad.out (by rw [Hq.out]; decide); rw [this, Hq.out]) (by decide)).symm, Stru.drawn HB2.out _⟩
    · rw [hkn] at HK HfE1
      clear hkn
      go_quiet ((go_at_call 86; exact Calls.quiet_of_same (HK.out _)))
      go_wp2_with fail
      refine (HFd.out _ (Stru.drawn HB2.out nq) nm).mono ?_
      rintro e w3 ⟨hgv, hb3⟩
      obtain ⟨sa, sb, ss, rfl⟩ := ze6 hgv
      have HB3 := zH ((Stru.drawn HB2.out nq).trans (hb3.mono (Stru.drawn HB2.out nq).size))
      have HL3 := zH ((Stru.drawn (Hbel.out.alloc Hbel.out.size _) nq).trans (hb3.mono (Stru.drawn (Hbel.out.alloc Hbel.out.size _) nq).size))
      clear hgv hb3
      generalize zD (zY nm) SU.1 = F at *
      by_cases hF : 0 ≤ F
      · have Hq := zH (show FJ = 8 from by rw [HfE1.out, if_neg (by simp), if_pos hF])
        go_wp2_with fail
        go_ret
        exact ⟨KlsP.zJ (HE1.out 8 (by have := Hbad.out (by rw [Hq.out]; decide); rw [this, Hq.out]) (by decide)).symm, HB3.out.alloc HB3.out.size _⟩
      · have Hq := zH (Hnext.out (by rw [HfE1.out, if_neg (by simp), if_neg hF]))
        go_wp2_with fail
        go_roundw
        case rel => exact ⟨j + 1, by omega, by go_num, Hq.out, HL3.out.alloc HL3.out.size _⟩
        case measure => simp [intOf]; omega
  · have hjm : j = fs.length := by omega
    have HZ := zH (ZW (f := FE) (l := fs) (fun i hi => Hno.out i hi (by omega)))
    have x0c := X1.out.cell 0
    clear hbel
    go_wp2_with fail
    refine (HHs.out _ Hbw.out).mono ?_
    rintro e w3 ⟨⟨y0, y1, y2, y3, y4, y5, yf, ym⟩, rfl, his, hyf, _, hb3⟩
    simp only [Zf.V]
    simp only at hyf
    subst hyf
    have hlen : y1 = SN.1.length := his.flen
    subst hlen
    have hf := zt7 y0 SN.1.length y2 y3 y4 y5 w3
    have HB3 := zH (Hbw.out.trans (hb3.mono Hbw.out.size))
    have X3 := zH (X1.out.after hb3)
    have x4c := X3.out.cell 4
    have hgx3 := X3.out.lt
    clear his hb3 hgx
    by_cases h16 : 16 < SN.1.length
    · have h16' : (16 : Int) < (SN.1.length : Int) := by omega
      have Hq := zH (HE2.out HZ.out h16)
      go_wp2_with fail
      go_ret
      exact ⟨KlsP.zJ Hq.out.symm, HB3.out⟩
    · have h16' : ¬ (16 : Int) < (SN.1.length : Int) := by omega
      have H16 := zH h16
      clear h16
      go_wp2_with fail
      clear hf x0c x4c
      have Z3 := zH (Below.refl w3.heap.size w3)
      go_loopw [52] (fun i wr => ∃ j : Nat, j ≤ ms.length ∧ i = .int .i64 j ∧ (∀ k (hk : k < ms.length), k < j → ME k ms[k] = 0) ∧ Below w3.heap.size w3 wr) (fun i _ => ms.length - (intOf i).toNat)
      case atStart => exact ⟨0, Nat.zero_le _, rfl, fun k _ hk => absurd hk (Nat.not_lt_zero k), Z3.out⟩
      case round =>
       clear Hbw Hno X1 hlt hgx3
       obtain ⟨j, hj, rfl, hno, hbel⟩ := hrel
       have Hno := zH hno
       have hbw := HB3.out.trans (hbel.mono HB3.out.size)
       have Hbw := zH hbw
       have X1 := zH (X3.out.after hbel)
       have hgx := X1.out.lt
       clear hno
       by_cases hlt : j < ms.length
       · obtain ⟨b1, o1, hA, hb1, hc0, hc1, hc2, hc3, hc4⟩ := jY (HMr.out _ hbw) hlt
         subst hA
         have hj1 : (j : Int) < (ms.length : Int) := by omega
         have hj0 : (0 : Int) ≤ (j : Int) := by omega
         have Hbad := zH (fun he => qp (f := ME) hlt (fun i hi h => Hno.out i hi h) he)
         have Hnext := zH (fun he => ZX (f := ME) (fun i hi h => Hno.out i hi h) hlt he)
         have HmE1 := zH (HmE.out j ms[j])
         have HLd := zH (HLm.out _ (List.getElem_mem hlt))
         have x1c := X1.out.cell 1
         have Hbel := zH hbel
         clear hbel hbw
         generalize hFJ : ME j ms[j] = FJ at *
         clear hFJ
         generalize ms[j] = z at *
         obtain ⟨z0, z1, z2, zA, zm, zc, zhA, zhm, zhc, zcode, zhand⟩ := z
         simp only at hc0 hc1 hc2 hc3 hc4 HmE1
         have hz1 : z1.length ≤ 140737488351232 := HLd.out.sig
         have HB4 := zH (Hbw.out.alloc Hbw.out.size (.cells #[.string ⟨z0.toArray⟩, .string ⟨z1.toArray⟩, .int .i64 z2, .slice zA zm zc, .slice zhA zhm zhc] 85))
         have ZB := zH (Bx.new wr #[.string ⟨z0.toArray⟩, .string ⟨z1.toArray⟩, .int .i64 z2, .slice zA zm zc, .slice zhA zhm zhc] 85)
         have HSg1 := zH (HSg.out _ HB4.out z1 hz1)
         have XA := zH (X1.out.after ((Below.refl _ _).alloc (Nat.le_refl _) (.cells #[.string ⟨z0.toArray⟩, .string ⟨z1.toArray⟩, .int .i64 z2, .slice zA zm zc, .slice zhA zhm zhc] 85)))
         have HL4 := zH (Hbel.out.alloc Hbel.out.size (.cells #[.string ⟨z0.toArray⟩, .string ⟨z1.toArray⟩, .int .i64 z2, .slice zA zm zc, .slice zhA zhm zhc] 85))
         cases hsg : Uz h z1
         · have Hq := zH (show FJ = 10 from by rw [HmE1.out, if_pos hsg])
           rw [hsg] at HSg1
           clear hsg
           go_wp2_with fail
           refine HSg1.out.mono ?_
           rintro e w5 ⟨rfl, hb5⟩
           have HB5 := zH (HB4.out.trans (hb5.mono HB4.out.size))
           clear hb5
           go_wp2_with fail
           go_ret
           exact ⟨KlsP.zJ (HE3.out 10 HZ.out H16.out (by have := Hbad.out (by rw [Hq.out]; decide); rw [this, Hq.out]) (by decide)).symm, HB5.out⟩
         · rw [hsg] at HSg1 HmE1
           clear hsg
           go_wp2_with fail
           refine HSg1.out.mono ?_
           rintro e w5 ⟨rfl, hb5⟩
           have HB5 := zH (HB4.out.trans (hb5.mono HB4.out.size))
           have HL5 := zH (HL4.out.trans (hb5.mono HL4.out.size))
           have ZB5 := zH (ZB.out.after hb5)
           have X5 := zH (XA.out.after hb5)
           have x5c := X5.out.cell 1
           have zc0 := ZB5.out.cell 0
           clear hb5
           go_wp2_with fail
           refine (HMt.out _ HB5.out z0).mono ?_
           rintro e w6 ⟨hgv, hb6⟩
           obtain ⟨sa, sb, ss, at_, rfl, hor⟩ := ze7 (m := ⟨z0, z1, z2, zA, zm, zc, zhA, zhm, zhc, zcode, zhand⟩) hgv
           have HB6 := zH (HB5.out.trans (hb6.mono HB5.out.size))
           have HL6 := zH (HL5.out.trans (hb6.mono HL5.out.size))
           have ZB6 := zH (ZB5.out.after hb6)
           have zc1 := ZB6.out.cell 1
           have zlt := ZB6.out.lt
           simp only at hor
           clear hgv hb6 x5c zc0 x1c hc0 hc1 hc2 hc3 hc4
           generalize YK SU.2 _ = OV at *
           rcases hor with ⟨rfl, rfl⟩ | ⟨hat, hov⟩
           · have Hq := zH (Hnext.out (by rw [HmE1.out, if_neg (by simp), if_neg (by simp)]))
             go_wp2_with fail
             go_roundw
             case rel => exact ⟨j + 1, by omega, by go_num, Hq.out, HL6.out.alloc HL6.out.size _⟩
             case measure => simp [intOf]; omega
           · cases hq : (sb == z1)
             · rw [hq] at hov
               have Hq := zH (show FJ = 15 from by rw [HmE1.out, if_neg (by simp), if_pos (by rw [hov]; rfl)])
               have hq2 : (!(sb == z1)) = true := by rw [hq]; rfl
               clear hov
               go_wp2_with fail
               go_ret
               exact ⟨KlsP.zJ (HE3.out 15 HZ.out H16.out (by have := Hbad.out (by rw [Hq.out]; decide); rw [this, Hq.out]) (by decide)).symm, HB6.out.alloc HB6.out.size _⟩
             · rw [hq] at hov
               have Hq := zH (Hnext.out (by rw [HmE1.out, if_neg (by simp), if_neg (by rw [hov]; simp)]))
               have hq2 : (!(sb == z1)) = false := by rw [hq]; rfl
               clear hov
               go_wp2_with fail
               go_roundw
               case rel => exact ⟨j + 1, by omega, by go_num, Hq.out, HL6.out.alloc HL6.out.size _⟩
               case measure => simp [intOf]; omega
       · have hjm : j = ms.length := by omega
         have HZ2 := zH (ZW (f := ME) (l := ms) (fun i hi => Hno.out i hi (by omega)))
         have x0c := X1.out.cell 0
         clear hbel hbw
         go_wp2_with fail
         refine (HHs.out _ Hbw.out).mono ?_
         rintro e w7 ⟨⟨v0, v1, v2, v3, v4, v5, vf, vm⟩, rfl, his, _, hvm, hb7⟩
         simp only [Zf.V]
         simp only at hvm
         subst hvm
         have hlen : v4 = SN.2.length := his.mlen
         subst hlen
         have hf := field1 v0 v1 v2 v3 SN.2.length v5 w7
         have HB7 := zH (Hbw.out.trans (hb7.mono Hbw.out.size))
         clear his hb7
         by_cases h32 : 32 < SN.2.length
         · have h32' : (32 : Int) < (SN.2.length : Int) := by omega
           have Hq := zH (show FT = 6 from by rw [HE4.out HZ.out H16.out HZ2.out, if_pos h32])
           go_wp2_with fail
           go_ret
           exact ⟨KlsP.zJ Hq.out.symm, HB7.out⟩
         · have h32' : ¬ (32 : Int) < (SN.2.length : Int) := by omega
           have Hq := zH (show FT = 0 from by rw [HE4.out HZ.out H16.out HZ2.out, if_neg h32])
           go_wp2_with fail
           go_ret
           exact ⟨KlsP.zJ Hq.out.symm, HB7.out⟩
end TabF
end Go.Proofs.YtehainbhoflpnaaGreatDoor
