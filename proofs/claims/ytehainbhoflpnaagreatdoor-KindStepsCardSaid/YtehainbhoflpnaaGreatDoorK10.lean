/- pieces -/
import Derived.Test.YtehainbhoflpnaaGreatDoorK9
import Derived.Maps.AppendAt
import Derived.Deep.DeepCutAuto
namespace Go.Proofs.YtehainbhoflpnaaGreatDoor
namespace TabP
open Go.RowKit Base BinM Stru Kls TabC TabM TabK
structure zG where
 name : List UInt8
 sig : List UInt8
 cls : List UInt8
deriving DecidableEq
def zG.vals (x : zG) : List Value := [.string ⟨x.name.toArray⟩, .string ⟨x.sig.toArray⟩, .string ⟨x.cls.toArray⟩]
def zG.V (x : zG) : Value := .agg #[.string ⟨x.name.toArray⟩, .string ⟨x.sig.toArray⟩, .string ⟨x.cls.toArray⟩]
structure Zi where
 name : List UInt8
 desc : List UInt8
 cls : List UInt8
deriving DecidableEq
def Zi.vals (x : Zi) : List Value := [.string ⟨x.name.toArray⟩, .string ⟨x.desc.toArray⟩, .string ⟨x.cls.toArray⟩]
def Zi.V (x : Zi) : Value := .agg #[.string ⟨x.name.toArray⟩, .string ⟨x.desc.toArray⟩, .string ⟨x.cls.toArray⟩]
theorem xU {w : World} {A : Option Addr} {l : List zG} {k : Nat} (h : Rds w A (l.flatMap zG.vals)) (hk : k < l.length) :
 ∃ b o, A = some ⟨b, o, none⟩ ∧ b < w.heap.size ∧ w.cell? ⟨b, o + k * 3, none⟩ = some (.string ⟨l[k].name.toArray⟩) ∧ w.cell? ⟨b, o + k * 3 + 1, none⟩ = some (.string ⟨l[k].sig.toArray⟩) ∧ w.cell? ⟨b, o + k * 3 + 2, none⟩ = some (.string ⟨l[k].cls.toArray⟩) := by
 obtain ⟨b, o, hA, hb, hc⟩ := QU (n := 3) (fun _ => rfl) (by omega) h hk
 exact ⟨b, o, hA, hb, hc 0 _ rfl, hc 1 _ rfl, hc 2 _ rfl⟩
theorem zt9 {w : World} {A : Option Addr} {l : List Zi} {k : Nat} (h : Rds w A (l.flatMap Zi.vals)) (hk : k < l.length) :
 ∃ b o, A = some ⟨b, o, none⟩ ∧ b < w.heap.size ∧ w.cell? ⟨b, o + k * 3, none⟩ = some (.string ⟨l[k].name.toArray⟩) ∧ w.cell? ⟨b, o + k * 3 + 1, none⟩ = some (.string ⟨l[k].desc.toArray⟩) ∧ w.cell? ⟨b, o + k * 3 + 2, none⟩ = some (.string ⟨l[k].cls.toArray⟩) := by
 obtain ⟨b, o, hA, hb, hc⟩ := QU (n := 3) (fun _ => rfl) (by omega) h hk
 exact ⟨b, o, hA, hb, hc 0 _ rfl, hc 1 _ rfl, hc 2 _ rfl⟩
theorem zJ {a b : Int} (h : a = b) : Ending.returned (.int .i64 a) = .returned (.int .i64 b) := by rw [h]
def Ze (p : zG → Bool) : List zG → Int
 | [] => -1
 | x :: r => if p x = true then 0 else if Ze p r = -1 then -1 else Ze p r + 1
theorem Yo {p : zG → Bool} : ∀ {l : List zG}, (∀ x ∈ l, p x = false) → Ze p l = -1
 | [], _ => rfl
 | x :: r, h => by
   unfold Ze
   rw [if_neg (by rw [h x (by simp)]; simp), if_pos (Yo (fun y hy => h y (by simp [hy])))]
theorem U8 {p : zG → Bool} : ∀ {l : List zG} {j : Nat} (hj : j < l.length), (∀ x ∈ l.take j, p x = false) → p l[j] = true → Ze p l = (j : Int)
 | [], _, hj, _, _ => by simp at hj
 | x :: r, 0, _, _, e => by
   have e : p x = true := e
   unfold Ze
   rw [if_pos e]; rfl
 | x :: r, j + 1, hj, h, e => by
   have ih := U8 (l := r) (j := j) (by simpa using hj) (fun y hy => h y (by simp [hy])) e
   unfold Ze
   rw [if_neg (by rw [h x (by simp)]; simp), if_neg (by rw [ih]; omega), ih]
   omega
theorem qz {p : zG → Bool} {l : List zG} {j : Nat} (hj : j < l.length) (h : ∀ x ∈ l.take j, p x = false) (h2 : p l[j] = false) : ∀ x ∈ l.take (j + 1), p x = false := by
 intro x hx
 rw [List.take_succ_eq_append_getElem hj, List.mem_append] at hx
 rcases hx with hx | hx
 · exact h x hx
 · simp at hx; subst hx; exact h2
def Zl (n : List UInt8) (x : zG) : Bool := x.name == n
set_option maxRecDepth 100000 in
theorem zv3 (x : zG) (q : List UInt8) (g : Nat) (w : World) (hg : w.cell? ⟨g, 0, none⟩ = some (.string ⟨q.toArray⟩)) :
 Calls Tryz.prog 179 #[x.V, .pointer (some ⟨g, 0, none⟩)] w fun e w' => e = .returned (.bool (Zl q x)) ∧ Below w.heap.size w w' := by
 obtain ⟨x0, x1, x2⟩ := x
 unfold zG.V Zl
 simp only
 have hb := (Below.refl w.heap.size w).alloc (Nat.le_refl _) (.cells #[.string ⟨x0.toArray⟩, .string ⟨x1.toArray⟩, .string ⟨x2.toArray⟩] 160)
 have HB := zH hb
 have hg' := (hb.cell (p := ⟨g, 0, none⟩) (World.block_lt_of_cell? w ⟨g, 0, none⟩ hg)).trans hg
 clear hb
 go_enter Tryz.func179, Tryz.ntmps179
 go_wp2_with fail
 go_ret
 exact ⟨rfl, HB.out⟩
set_option maxRecDepth 100000 in
set_option maxHeartbeats 2000000 in
theorem Gt (A : Option Addr) (l : List zG) (m c : Nat) (q : List UInt8) (g : Nat) (w : World) (hg : w.cell? ⟨g, 0, none⟩ = some (.string ⟨q.toArray⟩)) (hm : m = l.length) (hmx : m ≤ maxLen) (hr : Rds w A (l.flatMap zG.vals)) :
 Calls Tryz.prog 178 #[.slice A m c, .func (.func 179) #[] #[.pointer (some ⟨g, 0, none⟩)]] w fun e w' => e = .returned (.int .i64 (Ze (Zl q) l)) ∧ Below w.heap.size w w' := by
 have eg : ∀ args w, (callFunc 179 args).run Tryz.prog w = .ok (.enter 179 args) w := enters_of Tryz.func179 (by kernel_rfl) rfl
 have hml : l.length ≤ m := Nat.le_of_eq hm.symm
 have hml2 : m ≤ l.length := Nat.le_of_eq hm
 have hgl := World.block_lt_of_cell? w ⟨g, 0, none⟩ hg
 have Hg := zH hg
 have Hr := zH hr
 unfold maxLen at hmx
 clear hg hr hm
 go_enter Tryz.func178, Tryz.ntmps178
 go_wp2_with fail
 go_loopw [5, 8] (fun _ i wr => ∃ j : Nat, j ≤ m ∧ i = .int .i64 j ∧ (∀ x ∈ l.take j, Zl q x = false) ∧ Below w.heap.size w wr) (fun _ i _ => m - (intOf i).toNat)
 case atStart => exact ⟨0, Nat.zero_le _, rfl, by simp, Below.refl _ _⟩
 case round =>
  obtain ⟨j, hj, rfl, hno, hbel⟩ := hrel
  have Hno := zH hno
  have Hbel := zH hbel
  have hsz := hbel.size
  clear hno
  by_cases hlt : j < m
  · have hja : j < l.length := by omega
    obtain ⟨b1, o1, rfl, hb1, hc0, hc1, hc2⟩ := xU (Hr.out.below hbel) hja
    have hj1 : (j : Int) < (m : Int) := by omega
    have hj0 : (0 : Int) ≤ (j : Int) := by omega
    have Hg1 := zH ((hbel.cell (p := ⟨g, 0, none⟩) hgl).trans Hg.out)
    have Hat := zH (fun he => U8 hja Hno.out he)
    have Hnext := zH (fun he => qz hja Hno.out he)
    clear hbel
    have hclo := fun W hg => zv3 l[j] q g W hg
    generalize l[j] = x at *
    obtain ⟨x0, x1, x2⟩ := x
    unfold zG.V at hclo
    simp only at hc0 hc1 hc2 hclo
    generalize Zl q _ = D at *
    have Hclo := zH hclo
    clear hclo
    go_wp2_with fail
    refine Calls.mono (Hclo.out _ Hg1.out) ?_
    rintro e w3 ⟨rfl, hb3⟩
    have B3 := zH (Hbel.out.trans (hb3.mono hsz))
    clear hb3
    cases D
    · have Hq := zH (Hnext.out rfl)
      go_wp2_with fail
      go_roundw
      case rel => exact ⟨j + 1, by omega, by go_num, Hq.out, B3.out⟩
      case measure => simp [intOf]; omega
    · have Hq := zH (Hat.out rfl)
      go_wp2_with fail
      go_ret
      exact ⟨zJ Hq.out.symm, B3.out⟩
  · have hjm : j = m := by omega
    have Hq := zH (Yo (p := Zl q) (l := l) (by have := Hno.out; rw [List.take_of_length_le (by omega)] at this; exact this))
    clear hbel
    go_wp2_with fail
    go_ret
    exact ⟨zJ Hq.out.symm, Hbel.out⟩
set_option maxRecDepth 100000 in
theorem vB (A : Option Addr) (l : List zG) (m c : Nat) (q : List UInt8) (w : World) (hm : m = l.length) (hmx : m ≤ maxLen) (hr : Rds w A (l.flatMap zG.vals)) :
 Calls Tryz.prog 141 #[.slice A m c, .string ⟨q.toArray⟩] w fun e w' => e = .returned (.int .i64 (Ze (Zl q) l)) ∧ Below w.heap.size w w' := by
 have hb := (Below.refl w.heap.size w).alloc (Nat.le_refl _) (.cells #[.string ⟨q.toArray⟩] 9)
 have HI := zH (Gt A l m c q w.heap.size (w.alloc (.cells #[.string ⟨q.toArray⟩] 9)) (by go_simp) hm hmx (hr.below hb))
 have HB := zH hb
 clear hb hr hm hmx
 go_enter Tryz.func141, Tryz.ntmps141
 go_wp2_with fail
 refine HI.out.mono ?_
 rintro e w1 ⟨rfl, hb1⟩
 have B1 := zH (HB.out.trans (hb1.mono (by simp)))
 clear hb1
 go_wp2_with fail
 go_ret
 exact ⟨rfl, B1.out⟩
end TabP
namespace TabE
open Go.RowKit Base BinM Stru Kls TabP
theorem ze1 : (Tryz.prog.info? 160).map (fun i => (i.zero, i.size, i.bytes)) = some (some (.agg #[.string ⟨#[]⟩, .string ⟨#[]⟩, .string ⟨#[]⟩]), 3, 48) := by kernel_rfl
theorem Zk9 (l : List zG) : ∀ u ∈ l.flatMap zG.vals, u.oneCell' = true := by
 intro u hu
 obtain ⟨x, _, hx⟩ := List.mem_flatMap.1 hu
 unfold zG.vals at hx
 simp at hx
 rcases hx with rfl | rfl | rfl <;> rfl
set_option maxRecDepth 100000 in
set_option maxHeartbeats 1000000 in
theorem VN (A : Option Addr) (l : List zG) (m c : Nat) (w : World) (hm : m = l.length) (hmx : m ≤ 100000) (hr : Rds w A (l.flatMap zG.vals)) :
 Calls Tryz.prog 140 #[.slice A m c] w fun e w' => ∃ v, e = .returned v ∧ w'.ownsRow w.heap.size 160 3 v m (l.flatMap zG.vals) ∧ Below w.heap.size w w' := by
 have h0 := zH (Below.refl w.heap.size w)
 have hnil := fun (W : World) (a : Option Addr) (n c : Nat) => Lib.run_eql_slice_nil (P := Tryz.prog) W 109 160 a n c 0 0 Tryz.underlying109
 cases A with
 | none =>
   have hl : l.flatMap zG.vals = [] := by
    rcases hr with h | ⟨_, _, h, _⟩
    · exact h
    · cases h
   have hl0 : l.length * 3 = 0 := by rw [← Z7 zG.vals 3 (fun _ => rfl) l, hl]; rfl
   obtain rfl : m = 0 := by omega
   rw [hl]
   clear hm hr hl hl0
   go_enter Tryz.func140, Tryz.ntmps140
   go_wp2
   go_ret
   exact ⟨_, rfl, World.ownsRow_nil _ _ _ _, h0.out⟩
 | some a =>
   obtain ⟨i0, hi, hz, hs1, hb1⟩ := info_parts ze1
   have Hi := zH hi
   have Hz := zH hz
   have Hs := zH hs1
   have Hb := zH hb1
   have Hrd := zH (hr.below ((Below.refl w.heap.size w).alloc (Nat.le_refl _) (.cells #[] 160)))
   have Hl := zH (show (l.flatMap zG.vals).length = m * 3 by rw [Z7 zG.vals 3 (fun _ => rfl) l, hm])
   have H1 := zH (Zk9 l)
   generalize l.flatMap zG.vals = xs at *
   clear hm hr hi hz hs1 hb1
   go_enter Tryz.func140, Tryz.ntmps140
   go_wp2_with (at_builtin
                refine zZ rfl (.tmp 5) (.tmp 6) 109 rfl w.heap.size 160 i0 _ 3 48 Tryz.underlying109 Hi.out Hz.out Hs.out Hb.out rfl (by omega) (.slice (some ⟨w.heap.size, 0, none⟩) 0 0) 0 [] rfl (World.ownsRow_lit w #[] 0 (Nat.le_refl _) (by unfold maxLen; omega) rfl) (some a) m c xs rfl Hl.out Hrd.out H1.out (by unfold maxLen; omega) (by omega) (by simp) ?_
                intro v2 w2 hown2 hg2
                have Hb2 := zH ((h0.out.alloc (Nat.le_refl _) (.cells #[] 160)).grown hg2 (by simp) (fun k hk => by simp [Value.ownBlock] at hk; omega))
                have Hown2 := zH hown2
                clear hown2 hg2)
   go_ret
   exact ⟨_, rfl, by simpa using Hown2.out, Hb2.out⟩
theorem ze0 : (Tryz.prog.info? 210).map (fun i => (i.zero, i.size, i.bytes)) = some (some (.agg #[.string ⟨#[]⟩, .string ⟨#[]⟩, .string ⟨#[]⟩]), 3, 48) := by kernel_rfl
theorem Zk8 (l : List Zi) : ∀ u ∈ l.flatMap Zi.vals, u.oneCell' = true := by
 intro u hu
 obtain ⟨x, _, hx⟩ := List.mem_flatMap.1 hu
 unfold Zi.vals at hx
 simp at hx
 rcases hx with rfl | rfl | rfl <;> rfl
set_option maxRecDepth 100000 in
set_option maxHeartbeats 1000000 in
theorem VL (A : Option Addr) (l : List Zi) (m c : Nat) (w : World) (hm : m = l.length) (hmx : m ≤ 100000) (hr : Rds w A (l.flatMap Zi.vals)) :
 Calls Tryz.prog 139 #[.slice A m c] w fun e w' => ∃ v, e = .returned v ∧ w'.ownsRow w.heap.size 210 3 v m (l.flatMap Zi.vals) ∧ Below w.heap.size w w' := by
 have h0 := zH (Below.refl w.heap.size w)
 have hnil := fun (W : World) (a : Option Addr) (n c : Nat) => Lib.run_eql_slice_nil (P := Tryz.prog) W 108 210 a n c 0 0 Tryz.underlying108
 cases A with
 | none =>
   have hl : l.flatMap Zi.vals = [] := by
    rcases hr with h | ⟨_, _, h, _⟩
    · exact h
    · cases h
   have hl0 : l.length * 3 = 0 := by rw [← Z7 Zi.vals 3 (fun _ => rfl) l, hl]; rfl
   obtain rfl : m = 0 := by omega
   rw [hl]
   clear hm hr hl hl0
   go_enter Tryz.func139, Tryz.ntmps139
   go_wp2
   go_ret
   exact ⟨_, rfl, World.ownsRow_nil _ _ _ _, h0.out⟩
 | some a =>
   obtain ⟨i0, hi, hz, hs1, hb1⟩ := info_parts ze0
   have Hi := zH hi
   have Hz := zH hz
   have Hs := zH hs1
   have Hb := zH hb1
   have Hrd := zH (hr.below ((Below.refl w.heap.size w).alloc (Nat.le_refl _) (.cells #[] 210)))
   have Hl := zH (show (l.flatMap Zi.vals).length = m * 3 by rw [Z7 Zi.vals 3 (fun _ => rfl) l, hm])
   have H1 := zH (Zk8 l)
   generalize l.flatMap Zi.vals = xs at *
   clear hm hr hi hz hs1 hb1
   go_enter Tryz.func139, Tryz.ntmps139
   go_wp2_with (at_builtin
                refine zZ rfl (.tmp 5) (.tmp 6) 108 rfl w.heap.size 210 i0 _ 3 48 Tryz.underlying108 Hi.out Hz.out Hs.out Hb.out rfl (by omega) (.slice (some ⟨w.heap.size, 0, none⟩) 0 0) 0 [] rfl (World.ownsRow_lit w #[] 0 (Nat.le_refl _) (by unfold maxLen; omega) rfl) (some a) m c xs rfl Hl.out Hrd.out H1.out (by unfold maxLen; omega) (by omega) (by simp) ?_
                intro v2 w2 hown2 hg2
                have Hb2 := zH ((h0.out.alloc (Nat.le_refl _) (.cells #[] 210)).grown hg2 (by simp) (fun k hk => by simp [Value.ownBlock] at hk; omega))
                have Hown2 := zH hown2
                clear hown2 hg2)
   go_ret
   exact ⟨_, rfl, by simpa using Hown2.out, Hb2.out⟩
end TabE
namespace TabB
open Go.RowKit Base BinM Stru Kls TabC TabM TabK TabP TabE
structure Zf where
 fA : Option Addr
 fn : Nat
 fc : Nat
 mA : Option Addr
 mn : Nat
 mc : Nat
 fields : List Zi
 meths : List zG
def Zf.V (x : Zf) : Value := .agg #[.slice x.fA x.fn x.fc, .slice x.mA x.mn x.mc]
structure Zf.is (w : World) (x : Zf) : Prop where
 flen : x.fn = x.fields.length
 fle : x.fn ≤ x.fc
 fmax : x.fc ≤ maxLen
 frds : Rds w x.fA (x.fields.flatMap Zi.vals)
 mlen : x.mn = x.meths.length
 mle : x.mn ≤ x.mc
 mmax : x.mc ≤ maxLen
 mrds : Rds w x.mA (x.meths.flatMap zG.vals)
structure yF (lo : Nat) (w : World) (y : Zf) : Prop where
 is : y.is w
 f : ∀ a, y.fA = some a → lo ≤ a.block ∧ a.block < w.heap.size
 m : ∀ a, y.mA = some a → lo ≤ a.block ∧ a.block < w.heap.size
def Qt (l : List zG) (e : zG) : List zG := if 0 ≤ Ze (Zl e.name) l then l.set (Ze (Zl e.name) l).toNat e else l ++ [e]
def Xq (c : List UInt8) (f : ZA) : Zi := ⟨f.name, f.desc, c⟩
def JC (c : List UInt8) (m : zO) : zG := ⟨m.name, m.sig, c⟩
def qZ (fs : List Zi) (c : zf) : List Zi := fs ++ c.fields.map (Xq c.name)
def qC (ms : List zG) (c : zf) : List zG := c.meths.foldl (fun l m => Qt l (JC c.name m)) ms
def ZJ (w : World) (fA : Option Addr) (fn fc : Nat) (mA : Option Addr) (mn mc : Nat) (cn cs : List UInt8) (kA : Option Addr) (km kc : Nat) (cfA : Option Addr) (cfm cfc : Nat) (cmA : Option Addr) (cmm cmc : Nat) : World :=
 ((w.alloc (.cells #[.slice fA fn fc, .slice mA mn mc] 111)).alloc (.cells #[.string ⟨cn.toArray⟩, .string ⟨cs.toArray⟩, .slice kA km kc, .slice cfA cfm cfc, .slice cmA cmm cmc] 81)).alloc (.cells #[.slice none 0 0, .slice none 0 0] 111)
def Zb (W : World) (n : Nat) : Prop := Bx W n #[.slice none 0 0, .slice none 0 0] 111
theorem Zb.facts {W : World} {n : Nat} (h : Zb W n) : W.cell? ⟨n, 0, none⟩ = some (.slice none 0 0) ∧ W.cell? ⟨n, 1, none⟩ = some (.slice none 0 0) ∧ W.frozen? ⟨n, 0, none⟩ = false ∧ W.frozen? ⟨n, 1, none⟩ = false :=
 ⟨Bx.cell h 0, Bx.cell h 1, Bx.free h 0, Bx.free h 1⟩
theorem zc8 {W w' : World} (n : Nat) (hn : W.heap.size = n) (h : Below (W.alloc (.cells #[.slice none 0 0, .slice none 0 0] 111)).heap.size (W.alloc (.cells #[.slice none 0 0, .slice none 0 0] 111)) w') : Zb w' n := by
 subst hn
 exact (Bx.new W #[.slice none 0 0, .slice none 0 0] 111).after h
theorem Y8 {W w' : World} (n : Nat) (hn : W.heap.size = n) {E : TypeId} {size k : Nat} {v : Value} {xs : List Value} (h : w'.ownsRow W.heap.size E size v k xs) : ∀ q, v.ownBlock = some q → n ≤ q ∧ q < w'.heap.size := by
 intro q hq
 subst hn
 exact h.lt q hq
def BLs (w S wr : World) (ob : Nat) (fs : List Zi) (ms : List zG) : Prop :=
 ∃ FA fc MA mc, Bx wr ob #[.slice FA fs.length fc, .slice MA ms.length mc] 111 ∧ wr.ownsRow (w.heap.size + 3) 210 3 (.slice FA fs.length fc) fs.length (fs.flatMap Zi.vals) ∧ wr.ownsRow (w.heap.size + 3) 160 3 (.slice MA ms.length mc) ms.length (ms.flatMap zG.vals) ∧
   (Value.slice FA fs.length fc).ownBlock ≠ some ob ∧ (Value.slice MA ms.length mc).ownBlock ≠ some ob ∧ (∀ q, (Value.slice FA fs.length fc).ownBlock = some q → (Value.slice MA ms.length mc).ownBlock ≠ some q) ∧ w.heap.size + 3 ≤ ob ∧ Below S.heap.size S wr
theorem gJ {w S W : World} {fs : List Zi} {ms : List zG} {A5 A6 : Option Addr} {c5 c6 : Nat} (hs : S.heap.size = w.heap.size + 3) (hS : Below S.heap.size S W) (o5 : W.ownsRow (w.heap.size + 3) 210 3 (.slice A5 fs.length c5) fs.length (fs.flatMap Zi.vals)) (o6 : W.ownsRow (w.heap.size + 3) 160 3 (.slice A6 ms.length c6) ms.length (ms.flatMap zG.vals))
 (ap : ∀ q, (Value.slice A5 fs.length c5).ownBlock = some q → (Value.slice A6 ms.length c6).ownBlock ≠ some q) : BLs w S (W.alloc (.cells #[.slice A5 fs.length c5, .slice A6 ms.length c6] 111)) W.heap.size fs ms := by
 have hz := hS.size
 refine ⟨A5, c5, A6, c6, Bx.new W _ _, o5.alloc _, o6.alloc _, fun e => ?_, fun e => ?_, ap, by omega, hS.alloc hz _⟩
 · have := (o5.lt _ e).2; omega
 · have := (o6.lt _ e).2; omega
theorem gI {w S W : World} {ob : Nat} {fs : List Zi} {ms : List zG} {A5 A6 : Option Addr} {c5 c6 : Nat} (hs : S.heap.size = w.heap.size + 3) (hS : Below S.heap.size S W) (o5 : W.ownsRow (w.heap.size + 3) 210 3 (.slice A5 fs.length c5) fs.length (fs.flatMap Zi.vals)) (o6 : W.ownsRow (w.heap.size + 3) 160 3 (.slice A6 ms.length c6) ms.length (ms.flatMap zG.vals))
 (ap : ∀ q, (Value.slice A5 fs.length c5).ownBlock = some q → (Value.slice A6 ms.length c6).ownBlock ≠ some q) (hb : Bx W ob #[.slice none 0 0, .slice none 0 0] 111) (hlo : w.heap.size + 3 ≤ ob) (n5 : ∀ q, (Value.slice A5 fs.length c5).ownBlock = some q → q ≠ ob) (n6 : ∀ q, (Value.slice A6 ms.length c6).ownBlock = some q → q ≠ ob) :
 BLs w S ((W.setCell ⟨ob, 0, none⟩ (.slice A5 fs.length c5)).setCell ⟨ob, 1, none⟩ (.slice A6 ms.length c6)) ob fs ms := by
 have two : ∀ k, k ≠ ob → ((W.setCell ⟨ob, 0, none⟩ (.slice A5 fs.length c5)).setCell ⟨ob, 1, none⟩ (.slice A6 ms.length c6)).heap[k]? = W.heap[k]? := fun k hk => (heap_setCell_other _ ⟨ob, 1, none⟩ k _ hk).trans (heap_setCell_other _ ⟨ob, 0, none⟩ k _ hk)
 exact ⟨A5, c5, A6, c6, (hb.set 0 (.slice A5 fs.length c5)).set 1 (.slice A6 ms.length c6), zh o5 (fun q hq => two q (n5 q hq)), zh o6 (fun q hq => two q (n6 q hq)), fun e => n5 _ e rfl, fun e => n6 _ e rfl, ap, hlo, (hS.setCell (p := ⟨ob, 0, none⟩) (by show S.heap.size ≤ ob; omega) _).setCell (p := ⟨ob, 1, none⟩) (by show S.heap.size ≤ ob; omega) _⟩
def Made (S : World) (E : TypeId) (n : Nat) (xs : List Value) (w : World) (W : World) (e : Ending) (w' : World) : Prop :=
 ∃ A c, e = .returned (.slice A n c) ∧ n ≤ c ∧ c ≤ maxLen ∧ w'.ownsRow W.heap.size E 3 (.slice A n c) n xs ∧ Below W.heap.size W w' ∧ Below S.heap.size S w' ∧ w'.cell? ⟨w.heap.size, 0, none⟩ = S.cell? ⟨w.heap.size, 0, none⟩ ∧ w'.cell? ⟨w.heap.size, 1, none⟩ = S.cell? ⟨w.heap.size, 1, none⟩
theorem zd5 {S w W : World} {E : TypeId} {n : Nat} {xs : List Value} {e : Ending} {w' : World} (hS : Below S.heap.size S W) (hw : w.heap.size < S.heap.size) (h : ∃ v, e = .returned v ∧ w'.ownsRow W.heap.size E 3 v n xs ∧ Below W.heap.size W w') : Made S E n xs w W e w' := by
 obtain ⟨v, he, ho, hb⟩ := h
 obtain ⟨A, c, rfl, h1, h2, _, _⟩ := zS ho
 have hb2 := hS.trans (hb.mono hS.size)
 exact ⟨A, c, he, h1, h2, ho, hb, hb2, hb2.cell (p := ⟨w.heap.size, 0, none⟩) hw, hb2.cell (p := ⟨w.heap.size, 1, none⟩) hw⟩
theorem zy9 (w : World) (C C' : Array Value) (ty ty' : TypeId) : Rds ((w.alloc (.cells C ty)).alloc (.cells C' ty')) (some ⟨w.heap.size + 1, 0, none⟩) C'.toList := by
 have h := Base.zB (w.alloc (.cells C ty)) C' ty'
 rwa [show (w.alloc (.cells C ty)).heap.size = w.heap.size + 1 from by simp] at h
structure BL (w S wr : World) (ob : Nat) (FA : Option Addr) (fc : Nat) (MA : Option Addr) (mc : Nat) (fs : List Zi) (ms : List zG) : Prop where
 box : Bx wr ob #[.slice FA fs.length fc, .slice MA ms.length mc] 111
 f : wr.ownsRow (w.heap.size + 3) 210 3 (.slice FA fs.length fc) fs.length (fs.flatMap Zi.vals)
 m : wr.ownsRow (w.heap.size + 3) 160 3 (.slice MA ms.length mc) ms.length (ms.flatMap zG.vals)
 nf : (Value.slice FA fs.length fc).ownBlock ≠ some ob
 nm : (Value.slice MA ms.length mc).ownBlock ≠ some ob
 fm : ∀ q, (Value.slice FA fs.length fc).ownBlock = some q → (Value.slice MA ms.length mc).ownBlock ≠ some q
 lo : w.heap.size + 3 ≤ ob
 bel : Below S.heap.size S wr
theorem BL.alloc {w S wr : World} {ob : Nat} {FA : Option Addr} {fc : Nat} {MA : Option Addr} {mc : Nat} {fs : List Zi} {ms : List zG} (h : BL w S wr ob FA fc MA mc fs ms) (o : Obj) : BL w S (wr.alloc o) ob FA fc MA mc fs ms :=
 ⟨h.box.after ((Below.refl _ _).alloc (Nat.le_refl _) _), h.f.alloc _, h.m.alloc _, h.nf, h.nm, h.fm, h.lo, h.bel.alloc h.bel.size _⟩
theorem BL.ext {w S W W' : World} {ob : Nat} {FA : Option Addr} {fc : Nat} {MA : Option Addr} {mc : Nat} {fs : List Zi} {ms : List zG} (h : BL w S W ob FA fc MA mc fs ms) (hb : Below W.heap.size W W') : BL w S W' ob FA fc MA mc fs ms :=
 ⟨h.box.after hb, zh h.f (fun q hq => hb.block q (h.f.lt q hq).2), zh h.m (fun q hq => hb.block q (h.m.lt q hq).2), h.nf, h.nm, h.fm, h.lo, h.bel.trans (hb.mono h.bel.size)⟩
theorem Zo2 : ∀ (ys t : List zG) (x y : zG) (k : Nat), ys.length = k → ((((ys ++ x :: t).flatMap zG.vals).set (k * 3) (.string ⟨y.name.toArray⟩)).set (k * 3 + 1) (.string ⟨y.sig.toArray⟩)).set (k * 3 + 2) (.string ⟨y.cls.toArray⟩) = (ys ++ y :: t).flatMap zG.vals
 | ys, t, x, y, k, hk => by
   have hl : (ys.flatMap zG.vals).length = k * 3 := by rw [Z7 zG.vals 3 (fun _ => rfl), hk]
   rw [List.flatMap_append, List.flatMap_append, List.flatMap_cons, List.flatMap_cons]
   generalize ys.flatMap zG.vals = p at *
   generalize t.flatMap zG.vals = q at *
   unfold zG.vals
   rw [← hl]
   simp
theorem BL.Zq8 {w S W : World} {ob b : Nat} {FA : Option Addr} {fc mc : Nat} {fs : List Zi} {ms : List zG} (h : BL w S W ob FA fc (some ⟨b, 0, none⟩) mc fs ms) (hs : S.heap.size = w.heap.size + 3) {j : Nat} (hj : j < ms.length) (e : zG) :
 BL w S (((W.setCell ⟨b, j * 3, none⟩ (.string ⟨e.name.toArray⟩)).setCell ⟨b, j * 3 + 1, none⟩ (.string ⟨e.sig.toArray⟩)).setCell ⟨b, j * 3 + 2, none⟩ (.string ⟨e.cls.toArray⟩)) ob FA fc (some ⟨b, 0, none⟩) mc fs (ms.set j e) := by
 have hblk : ∀ q, q ≠ b → (((W.setCell ⟨b, j * 3, none⟩ (.string ⟨e.name.toArray⟩)).setCell ⟨b, j * 3 + 1, none⟩ (.string ⟨e.sig.toArray⟩)).setCell ⟨b, j * 3 + 2, none⟩ (.string ⟨e.cls.toArray⟩)).heap[q]? = W.heap[q]? := fun q hq => by
  rw [heap_setCell_other _ _ _ _ hq, heap_setCell_other _ _ _ _ hq, heap_setCell_other _ _ _ _ hq]
 have lb : w.heap.size + 3 ≤ b := (h.m.lt b rfl).1
 have hnob : ob ≠ b := fun e2 => h.nm (by rw [e2]; rfl)
 have hl : (ms.set j e).length = ms.length := by simp
 have h5 := (((((h.m.stored (j * 3) (.string ⟨e.name.toArray⟩)).1).stored (j * 3 + 1) (.string ⟨e.sig.toArray⟩)).1).stored (j * 3 + 2) (.string ⟨e.cls.toArray⟩)).1
 have e1 : ms = ms.take j ++ ms[j] :: ms.drop (j + 1) := by rw [← List.drop_eq_getElem_cons hj, List.take_append_drop]
 have e2 : ms.set j e = ms.take j ++ e :: ms.drop (j + 1) := by rw [List.set_eq_take_append_cons_drop, if_pos hj]
 have e3 : (((ms.flatMap zG.vals).set (j * 3) (.string ⟨e.name.toArray⟩)).set (j * 3 + 1) (.string ⟨e.sig.toArray⟩)).set (j * 3 + 2) (.string ⟨e.cls.toArray⟩) = (ms.set j e).flatMap zG.vals := by
  rw [e2, ← Zo2 (ms.take j) (ms.drop (j + 1)) ms[j] e j (by simp; omega), ← e1]
 rw [e3] at h5
 refine ⟨?_, zh h.f (fun q hq => hblk q (fun e4 => h.fm q hq (by rw [e4]; rfl))), ?_, h.nf, h.nm, h.fm, h.lo, ((h.bel.setCell (p := ⟨b, j * 3, none⟩) (by show S.heap.size ≤ b; omega) _).setCell (p := ⟨b, j * 3 + 1, none⟩) (by show S.heap.size ≤ b; omega) _).setCell (p := ⟨b, j * 3 + 2, none⟩) (by show S.heap.size ≤ b; omega) _⟩
 · rw [hl]; exact (hblk ob hnob).trans h.box
 · rw [hl]; exact h5
theorem qo (p : zG → Bool) : ∀ l : List zG, Ze p l = -1 ∨ ∃ j : Nat, j < l.length ∧ Ze p l = (j : Int)
 | [] => .inl rfl
 | x :: r => by
   unfold Ze
   by_cases h : p x = true
   · rw [if_pos h]; exact .inr ⟨0, by simp, rfl⟩
   · rw [if_neg h]
     rcases qo p r with e | ⟨j, hj, e⟩
     · rw [if_pos e]; exact .inl rfl
     · rw [if_neg (by omega), e]; exact .inr ⟨j + 1, by simp; omega, by omega⟩
theorem X0 {l : List zG} {e : zG} (h : Ze (Zl e.name) l = -1) : Qt l e = l ++ [e] := by unfold Qt; rw [if_neg (by omega)]
theorem VZ {l : List zG} {e : zG} {j : Nat} (h : Ze (Zl e.name) l = (j : Int)) : Qt l e = l.set j e := by unfold Qt; rw [if_pos (by omega), h]; rfl
theorem zx2 (l : List zG) (e : zG) : (Qt l e).length ≤ l.length + 1 := by unfold Qt; split <;> simp
theorem YV (cn : List UInt8) : ∀ (cs : List zO) (l : List zG), (cs.foldl (fun l m => Qt l (JC cn m)) l).length ≤ l.length + cs.length
 | [], l => by simp
 | c :: r, l => by
   have h1 := YV cn r (Qt l (JC cn c))
   have h2 := zx2 l (JC cn c)
   simp only [List.foldl_cons, List.length_cons]
   omega
theorem YE : (Tryz.prog.info? 111).map (·.size) = some 2 := by kernel_rfl
theorem BL.Zr5 {w S W0 W2 : World} {ob : Nat} {FA : Option Addr} {fc : Nat} {MA : Option Addr} {mc : Nat} {fs : List Zi} {ms : List zG} (h : BL w S W0 ob FA fc MA mc fs ms) (hs : S.heap.size = w.heap.size + 3) (f : Zi) (v : Value)
 (hF : W2.ownsRow (w.heap.size + 3) 210 3 v (fs.length + 1) ((fs ++ [f]).flatMap Zi.vals)) (hg : W0.grownBy W2 (Value.slice FA fs.length fc).ownBlock) (hat : v.ownBlock = (Value.slice FA fs.length fc).ownBlock ∨ v.ownBlock = some W0.heap.size) :
 ∃ FA' fc', v = .slice FA' (fs.length + 1) fc' ∧ Bx W2 ob #[.slice FA fs.length fc, .slice MA ms.length mc] 111 ∧ BL w S (W2.setCell ⟨ob, 0, none⟩ v) ob FA' fc' MA mc (fs ++ [f]) ms := by
 obtain ⟨FA', fc', rfl, _, _, _, _⟩ := zS hF
 have hob := h.box.lt
 have hbx : Bx W2 ob #[.slice FA fs.length fc, .slice MA ms.length mc] 111 := (hg.block ob hob (fun e => h.nf e.symm)).trans h.box
 have hm2 : W2.ownsRow (w.heap.size + 3) 160 3 (.slice MA ms.length mc) ms.length (ms.flatMap zG.vals) := zh h.m (fun q hq => hg.block q (h.m.lt q hq).2 (fun e => h.fm q e.symm hq))
 have hne : (Value.slice FA' (fs.length + 1) fc').ownBlock ≠ some ob := by
  rcases hat with e | e
  · rw [e]; exact h.nf
  · rw [e]; intro e2; injection e2 with e2; omega
 have hfm : ∀ q, (Value.slice FA' (fs.length + 1) fc').ownBlock = some q → (Value.slice MA ms.length mc).ownBlock ≠ some q := by
  intro q hq hm
  rcases hat with e | e
  · exact h.fm q (e ▸ hq) hm
  · rw [e] at hq; injection hq with hq; have := (h.m.lt q hm).2; omega
 have hb2 : Below S.heap.size S W2 := zV h.bel h.f (by omega) h.bel.size hg
 refine ⟨FA', fc', rfl, hbx, ?_⟩
 have hl : (fs ++ [f]).length = fs.length + 1 := by simp
 refine ⟨?_, ?_, zh hm2 (fun q hq => heap_setCell_other _ ⟨ob, 0, none⟩ q _ (fun e => h.nm (hq.trans (congrArg some e)))), ?_, h.nm, ?_, h.lo, hb2.setCell (p := ⟨ob, 0, none⟩) (by have := h.lo; show S.heap.size ≤ ob; omega) _⟩
 · rw [hl]; exact hbx.set 0 _
 · rw [hl]; exact zh hF (fun q hq => heap_setCell_other _ ⟨ob, 0, none⟩ q _ (fun e => hne (hq.trans (congrArg some e))))
 · rw [hl]; exact hne
 · rw [hl]; exact hfm
theorem BL.Qt {w S W0 W2 : World} {ob : Nat} {FA : Option Addr} {fc : Nat} {MA : Option Addr} {mc : Nat} {fs : List Zi} {ms : List zG} (h : BL w S W0 ob FA fc MA mc fs ms) (hs : S.heap.size = w.heap.size + 3) (f : zG) (v : Value)
 (hF : W2.ownsRow (w.heap.size + 3) 160 3 v (ms.length + 1) ((ms ++ [f]).flatMap zG.vals)) (hg : W0.grownBy W2 (Value.slice MA ms.length mc).ownBlock) (hat : v.ownBlock = (Value.slice MA ms.length mc).ownBlock ∨ v.ownBlock = some W0.heap.size) :
 ∃ MA' mc', v = .slice MA' (ms.length + 1) mc' ∧ Bx W2 ob #[.slice FA fs.length fc, .slice MA ms.length mc] 111 ∧ BL w S (W2.setCell ⟨ob, 1, none⟩ v) ob FA fc MA' mc' fs (ms ++ [f]) := by
 obtain ⟨MA', mc', rfl, _, _, _, _⟩ := zS hF
 have hob := h.box.lt
 have hbx : Bx W2 ob #[.slice FA fs.length fc, .slice MA ms.length mc] 111 := (hg.block ob hob (fun e => h.nm e.symm)).trans h.box
 have hf2 : W2.ownsRow (w.heap.size + 3) 210 3 (.slice FA fs.length fc) fs.length (fs.flatMap Zi.vals) := zh h.f (fun q hq => hg.block q (h.f.lt q hq).2 (fun e => h.fm q hq e.symm))
 have hne : (Value.slice MA' (ms.length + 1) mc').ownBlock ≠ some ob := by
  rcases hat with e | e
  · rw [e]; exact h.nm
  · rw [e]; intro e2; injection e2 with e2; omega
 have hfm : ∀ q, (Value.slice FA fs.length fc).ownBlock = some q → (Value.slice MA' (ms.length + 1) mc').ownBlock ≠ some q := by
  intro q hq hm
  rcases hat with e | e
  · exact h.fm q hq (e ▸ hm)
  · rw [e] at hm; injection hm with hm; have := (h.f.lt q hq).2; omega
 have hb2 : Below S.heap.size S W2 := zV h.bel h.m (by omega) h.bel.size hg
 refine ⟨MA', mc', rfl, hbx, ?_⟩
 have hl : (ms ++ [f]).length = ms.length + 1 := by simp
 refine ⟨?_, zh hf2 (fun q hq => heap_setCell_other _ ⟨ob, 1, none⟩ q _ (fun e => h.nf (hq.trans (congrArg some e)))), ?_, h.nf, ?_, ?_, h.lo, hb2.setCell (p := ⟨ob, 1, none⟩) (by have := h.lo; show S.heap.size ≤ ob; omega) _⟩
 · rw [hl]; exact hbx.set 1 _
 · rw [hl]; exact zh hF (fun q hq => heap_setCell_other _ ⟨ob, 1, none⟩ q _ (fun e => hne (hq.trans (congrArg some e))))
 · rw [hl]; exact hne
 · rw [hl]; exact hfm
set_option maxRecDepth 100000 in
theorem Zp8 {ops : Array Oper} {rest : List Oper} {o : Oper} {a : Act} {w : World} {Q : Exit → Act → World → Prop} (hgd : o.guard = none) (s x : Operand)
 (ho : o.op = .call { callee := .builtin .append, args := #[s, x], argTypes := #[108, 108] })
 (base : Nat) (v : Value) (p : List Zi) (hs : a.eval s = v) (hown : w.ownsRow base 210 3 v p.length (p.flatMap Zi.vals)) (g c : Nat) (y : Zi) (hx : a.eval x = .slice (some ⟨g, 0, none⟩) 1 c)
 (hr : Rds w (some ⟨g, 0, none⟩) (Zi.vals y)) (hlen : p.length ≤ 100000) (hbase : base ≤ w.heap.size)
 (h : ∀ v' w', w'.ownsRow base 210 3 v' (p.length + 1) ((p ++ [y]).flatMap Zi.vals) → w.grownBy w' v.ownBlock → (v'.ownBlock = v.ownBlock ∨ v'.ownBlock = some w.heap.size) → wpList Tryz.prog ops Q rest (a.put o.dst v') w') : wpList Tryz.prog ops Q (o :: rest) a w := by
 obtain ⟨i0, hi, hz, hs1, hb1⟩ := info_parts ze0
 refine wpList_plain hgd fun K hK => ?_
 obtain ⟨v', w', hrun, h2, h3, _, h5⟩ := run_append_own_at (P := Tryz.prog) w base 108 o.type 210 i0 _ 3 48 Tryz.underlying108 hi hz hs1 hb1 rfl (by omega) v p.length (p.flatMap Zi.vals) hown ⟨g, 0, none⟩ 1 c (Zi.vals y) rfl
  (by intro j u hu
      rcases hr with h0 | ⟨b, o', hA, _, hc⟩
      · rw [h0] at hu; simp at hu
      · injection hA with hA
        rw [hA, Addr.add_mid]
        exact hc j u hu)
  (by intro u hu; unfold Zi.vals at hu; simp at hu; rcases hu with rfl | rfl | rfl <;> rfl) (by unfold maxLen; omega) (by omega) hbase
 unfold Oper.wp execOp
 simp only [ho, resolve, invoke, builtin, Sem.run_bind, Sem.run_pure, Result.andThen_ok, List.map_toArray, List.map_cons, List.map_nil, hs, hx, hrun]
 refine hK _ _ (h v' w' ?_ h3 h5)
 rw [List.flatMap_append]
 simpa using h2
set_option maxRecDepth 100000 in
theorem Zp9 {ops : Array Oper} {rest : List Oper} {o : Oper} {a : Act} {w : World} {Q : Exit → Act → World → Prop} (hgd : o.guard = none) (s x : Operand)
 (ho : o.op = .call { callee := .builtin .append, args := #[s, x], argTypes := #[109, 109] })
 (base : Nat) (v : Value) (p : List zG) (hs : a.eval s = v) (hown : w.ownsRow base 160 3 v p.length (p.flatMap zG.vals)) (g c : Nat) (y : zG) (hx : a.eval x = .slice (some ⟨g, 0, none⟩) 1 c)
 (hr : Rds w (some ⟨g, 0, none⟩) (zG.vals y)) (hlen : p.length ≤ 100000) (hbase : base ≤ w.heap.size)
 (h : ∀ v' w', w'.ownsRow base 160 3 v' (p.length + 1) ((p ++ [y]).flatMap zG.vals) → w.grownBy w' v.ownBlock → (v'.ownBlock = v.ownBlock ∨ v'.ownBlock = some w.heap.size) → wpList Tryz.prog ops Q rest (a.put o.dst v') w') : wpList Tryz.prog ops Q (o :: rest) a w := by
 obtain ⟨i0, hi, hz, hs1, hb1⟩ := info_parts ze1
 refine wpList_plain hgd fun K hK => ?_
 obtain ⟨v', w', hrun, h2, h3, _, h5⟩ := run_append_own_at (P := Tryz.prog) w base 109 o.type 160 i0 _ 3 48 Tryz.underlying109 hi hz hs1 hb1 rfl (by omega) v p.length (p.flatMap zG.vals) hown ⟨g, 0, none⟩ 1 c (zG.vals y) rfl
  (by intro j u hu
      rcases hr with h0 | ⟨b, o', hA, _, hc⟩
      · rw [h0] at hu; simp at hu
      · injection hA with hA
        rw [hA, Addr.add_mid]
        exact hc j u hu)
  (by intro u hu; unfold zG.vals at hu; simp at hu; rcases hu with rfl | rfl | rfl <;> rfl) (by unfold maxLen; omega) (by omega) hbase
 unfold Oper.wp execOp
 simp only [ho, resolve, invoke, builtin, Sem.run_bind, Sem.run_pure, Result.andThen_ok, List.map_toArray, List.map_cons, List.map_nil, hs, hx, hrun]
 refine hK _ _ (h v' w' ?_ h3 h5)
 rw [List.flatMap_append]
 simpa using h2
set_option maxRecDepth 100000 in
set_option maxHeartbeats 8000000 in
theorem zm2 (x : Zf) (c : zf) (w : World) (hx : x.is w) (hc : c.is w) (h1 : x.fields.length ≤ 5000) (h2 : x.meths.length ≤ 5000) (h3 : c.fields.length ≤ 1000) (h4 : c.meths.length ≤ 1000) :
 Calls Tryz.prog 85 #[x.V, c.V] w fun e w' => ∃ y : Zf, e = .returned y.V ∧ yF w.heap.size w' y ∧ y.fields = qZ x.fields c ∧ y.meths = qC x.meths c ∧ Below w.heap.size w w' := by
 have HCf := fun (wr : World) (hb : Below w.heap.size w wr) => VL x.fA x.fields x.fn x.fc wr hx.flen (by have := hx.flen; omega) (hx.frds.below hb)
 have HCm := fun (wr : World) (hb : Below w.heap.size w wr) => VN x.mA x.meths x.mn x.mc wr hx.mlen (by have := hx.mlen; omega) (hx.mrds.below hb)
 have hfn : x.fn ≤ 5000 := by have := hx.flen; omega
 have hmn : x.mn ≤ 5000 := by have := hx.mlen; omega
 have HX := zH hx
 have hxl := hx.flen
 have hxm := hx.mlen
 have HC := zH hc
 clear hx hc h1 h2
 obtain ⟨fA, fn, fc, mA, mn, mc, fields, meths⟩ := x
 obtain ⟨cn, cs, kA, km, kc, cfA, cfm, cfc, cmA, cmm, cmc, consts, cfields, cmeths⟩ := c
 simp only [Zf.V, zf.V] at *
 subst hxl
 subst hxm
 have hB0 : Below w.heap.size w (ZJ w fA fields.length fc mA meths.length mc cn cs kA km kc cfA cfm cfc cmA cmm cmc) := (((Below.refl w.heap.size w).alloc (Nat.le_refl _) _).alloc (by simp) _).alloc (by simp; omega) _
 have hs0 : (ZJ w fA fields.length fc mA meths.length mc cn cs kA km kc cfA cfm cfc cmA cmm cmc).heap.size = w.heap.size + 3 := by simp [ZJ]
 have hw3 : w.heap.size < (ZJ w fA fields.length fc mA meths.length mc cn cs kA km kc cfA cfm cfc cmA cmm cmc).heap.size := by omega
 have HS0 := zH hs0
 have HF := zH (fun (W : World) (hb : Below (ZJ w fA fields.length fc mA meths.length mc cn cs kA km kc cfA cfm cfc cmA cmm cmc).heap.size (ZJ w fA fields.length fc mA meths.length mc cn cs kA km kc cfA cfm cfc cmA cmm cmc) W) => (HCf W (hB0.trans (hb.mono (by omega)))).mono (R' := Made (ZJ w fA fields.length fc mA meths.length mc cn cs kA km kc cfA cfm cfc cmA cmm cmc) 210 fields.length (fields.flatMap Zi.vals) w W) fun e w' h => zd5 hb hw3 h)
 have HM := zH (fun (W : World) (hb : Below (ZJ w fA fields.length fc mA meths.length mc cn cs kA km kc cfA cfm cfc cmA cmm cmc).heap.size (ZJ w fA fields.length fc mA meths.length mc cn cs kA km kc cfA cfm cfc cmA cmm cmc) W) => (HCm W (hB0.trans (hb.mono (by omega)))).mono (R' := Made (ZJ w fA fields.length fc mA meths.length mc cn cs kA km kc cfA cfm cfc cmA cmm cmc) 160 meths.length (meths.flatMap zG.vals) w W) fun e w' h => zd5 hb hw3 h)
 have Z0 := zH (Below.refl (ZJ w fA fields.length fc mA meths.length mc cn cs kA km kc cfA cfm cfc cmA cmm cmc).heap.size (ZJ w fA fields.length fc mA meths.length mc cn cs kA km kc cfA cfm cfc cmA cmm cmc))
 have s0 : (ZJ w fA fields.length fc mA meths.length mc cn cs kA km kc cfA cfm cfc cmA cmm cmc).cell? ⟨w.heap.size, 0, none⟩ = some (.slice fA fields.length fc) := by unfold ZJ; go_simp
 have s1 : (ZJ w fA fields.length fc mA meths.length mc cn cs kA km kc cfA cfm cfc cmA cmm cmc).cell? ⟨w.heap.size, 1, none⟩ = some (.slice mA meths.length mc) := by unfold ZJ; go_simp
 have S0 := zH s0
 have S1 := zH s1
 clear hs0 s0 s1 HCf HCm
 go_enter Tryz.func85, Tryz.ntmps85
 go_wp2_with fail
 go_upto_region 1 with fail
 go_cut [5] (fun s5 wx => ∃ ob, s5 = .pointer (some ⟨ob, 0, none⟩) ∧ BLs w (ZJ w fA fields.length fc mA meths.length mc cn cs kA km kc cfA cfm cfc cmA cmm cmc) wx ob fields meths)
 case first =>
  go_region_with (first
   | (go_at_call 139; have hq := YM; clear hq; refine (HF.out _ K6.out).mono ?_; rintro e w5 ⟨A5, c5, rfl, q5, r5, o5, hb5, B5, x5, y5⟩; have u5 := x5.trans S0.out; have v5 := y5.trans S1.out; have lt5 : w.heap.size < w5.heap.size := World.block_lt_of_cell? w5 ⟨w.heap.size, 0, none⟩ u5; have YF := zH (Bx.after YM.out hb5); obtain ⟨pF0, pF1, pF2, pF3⟩ := Zb.facts YF.out; have L5 := zH (Y8 (w6.heap.size) rfl o5); have Q5 := zH (And.intro q5 r5); have O5 := zH (Z6 o5 (base' := w.heap.size + 3) (by have h3 := HS0.out; have h4 := Z0.out.size; have h5 := K6.out.size; simp; omega)); have K5 := zH B5; have C6 := zH (zh O6.out (fun q hq => (hb5).block q (O6.out.lt q hq).2)); clear q5 r5 o5 hb5 B5 x5 y5)
   | (go_at_call 139; have hq := K6; clear hq; refine (HF.out _ (K6.out.alloc K6.out.size _)).mono ?_; rintro e w5 ⟨A5, c5, rfl, q5, r5, o5, hb5, B5, x5, y5⟩; have u5 := x5.trans S0.out; have v5 := y5.trans S1.out; have lt5 : w.heap.size < w5.heap.size := World.block_lt_of_cell? w5 ⟨w.heap.size, 0, none⟩ u5; have YF := zH (zc8 w6.heap.size rfl hb5); obtain ⟨pF0, pF1, pF2, pF3⟩ := Zb.facts YF.out; have L5 := zH (Y8 (w6.heap.size + 1) (by simp) o5); have Q5 := zH (And.intro q5 r5); have O5 := zH (Z6 o5 (base' := w.heap.size + 3) (by have h3 := HS0.out; have h4 := Z0.out.size; have h5 := K6.out.size; simp; omega)); have K5 := zH B5; have C6 := zH (zh O6.out (fun q hq => (((Below.refl w6.heap.size w6).alloc (Nat.le_refl _) _).trans (hb5.mono (by simp))).block q (O6.out.lt q hq).2)); clear q5 r5 o5 hb5 B5 x5 y5)
   | (go_at_call 139; have hq := K6; clear hq; refine (HF.out _ K6.out).mono ?_; rintro e w5 ⟨A5, c5, rfl, q5, r5, o5, hb5, B5, x5, y5⟩; have u5 := x5.trans S0.out; have v5 := y5.trans S1.out; have lt5 : w.heap.size < w5.heap.size := World.block_lt_of_cell? w5 ⟨w.heap.size, 0, none⟩ u5; have L5 := zH (Y8 (w6.heap.size) rfl o5); have Q5 := zH (And.intro q5 r5); have O5 := zH (Z6 o5 (base' := w.heap.size + 3) (by have h3 := HS0.out; have h4 := Z0.out.size; have h5 := K6.out.size; simp; omega)); have K5 := zH B5; have C6 := zH (zh O6.out (fun q hq => (hb5).block q (O6.out.lt q hq).2)); clear q5 r5 o5 hb5 B5 x5 y5)
   | (go_at_call 140; have hq := YF; clear hq; refine (HM.out _ K5.out).mono ?_; rintro e w6 ⟨A6, c6, rfl, q6, r6, o6, hb6, B6, x6, y6⟩; have u6 := x6.trans S0.out; have v6 := y6.trans S1.out; have lt6 : w.heap.size < w6.heap.size := World.block_lt_of_cell? w6 ⟨w.heap.size, 0, none⟩ u6; have YM := zH (Bx.after YF.out hb6); obtain ⟨pM0, pM1, pM2, pM3⟩ := Zb.facts YM.out; have L6 := zH (Y8 (w5.heap.size) rfl o6); have Q6 := zH (And.intro q6 r6); have O6 := zH (Z6 o6 (base' := w.heap.size + 3) (by have h3 := HS0.out; have h4 := Z0.out.size; have h5 := K5.out.size; simp; omega)); have K6 := zH B6; have C5 := zH (zh O5.out (fun q hq => (hb6).block q (O5.out.lt q hq).2)); clear q6 r6 o6 hb6 B6 x6 y6)
   | (go_at_call 140; have hq := K5; clear hq; refine (HM.out _ (K5.out.alloc K5.out.size _)).mono ?_; rintro e w6 ⟨A6, c6, rfl, q6, r6, o6, hb6, B6, x6, y6⟩; have u6 := x6.trans S0.out; have v6 := y6.trans S1.out; have lt6 : w.heap.size < w6.heap.size := World.block_lt_of_cell? w6 ⟨w.heap.size, 0, none⟩ u6; have YM := zH (zc8 w5.heap.size rfl hb6); obtain ⟨pM0, pM1, pM2, pM3⟩ := Zb.facts YM.out; have L6 := zH (Y8 (w5.heap.size + 1) (by simp) o6); have Q6 := zH (And.intro q6 r6); have O6 := zH (Z6 o6 (base' := w.heap.size + 3) (by have h3 := HS0.out; have h4 := Z0.out.size; have h5 := K5.out.size; simp; omega)); have K6 := zH B6; have C5 := zH (zh O5.out (fun q hq => (((Below.refl w5.heap.size w5).alloc (Nat.le_refl _) _).trans (hb6.mono (by simp))).block q (O5.out.lt q hq).2)); clear q6 r6 o6 hb6 B6 x6 y6)
   | (go_at_call 140; have hq := K5; clear hq; refine (HM.out _ K5.out).mono ?_; rintro e w6 ⟨A6, c6, rfl, q6, r6, o6, hb6, B6, x6, y6⟩; have u6 := x6.trans S0.out; have v6 := y6.trans S1.out; have lt6 : w.heap.size < w6.heap.size := World.block_lt_of_cell? w6 ⟨w.heap.size, 0, none⟩ u6; have L6 := zH (Y8 (w5.heap.size) rfl o6); have Q6 := zH (And.intro q6 r6); have O6 := zH (Z6 o6 (base' := w.heap.size + 3) (by have h3 := HS0.out; have h4 := Z0.out.size; have h5 := K5.out.size; simp; omega)); have K6 := zH B6; have C5 := zH (zh O5.out (fun q hq => (hb6).block q (O5.out.lt q hq).2)); clear q6 r6 o6 hb6 B6 x6 y6)
   | (go_at_call 139; refine (HF.out _ (Z0.out.drew.alloc (Nat.le_refl _) _)).mono ?_; rintro e w5 ⟨A5, c5, rfl, q5, r5, o5, hb5, B5, x5, y5⟩; have u5 := x5.trans S0.out; have v5 := y5.trans S1.out; have lt5 : w.heap.size < w5.heap.size := World.block_lt_of_cell? w5 ⟨w.heap.size, 0, none⟩ u5; have YF := zH (zc8 (w.heap.size + 1 + 1 + 1) (by simp [ZJ]) hb5); obtain ⟨pF0, pF1, pF2, pF3⟩ := Zb.facts YF.out; have L5 := zH (Y8 (w.heap.size + 4) (by simp [ZJ]) o5); have Q5 := zH (And.intro q5 r5); have O5 := zH (Z6 o5 (base' := w.heap.size + 3) (by have h3 := HS0.out; have h4 := Z0.out.size; simp; omega)); have K5 := zH B5; clear q5 r5 o5 hb5 B5 x5 y5)
   | (go_at_call 139; refine (HF.out _ Z0.out.drew).mono ?_; rintro e w5 ⟨A5, c5, rfl, q5, r5, o5, hb5, B5, x5, y5⟩; have u5 := x5.trans S0.out; have v5 := y5.trans S1.out; have lt5 : w.heap.size < w5.heap.size := World.block_lt_of_cell? w5 ⟨w.heap.size, 0, none⟩ u5; have L5 := zH (Y8 (w.heap.size + 3) (by simp [ZJ]) o5); have Q5 := zH (And.intro q5 r5); have O5 := zH (Z6 o5 (base' := w.heap.size + 3) (by have h3 := HS0.out; have h4 := Z0.out.size; simp; omega)); have K5 := zH B5; clear q5 r5 o5 hb5 B5 x5 y5)
   | (go_at_call 140; refine (HM.out _ (Z0.out.drew.alloc (Nat.le_refl _) _)).mono ?_; rintro e w6 ⟨A6, c6, rfl, q6, r6, o6, hb6, B6, x6, y6⟩; have u6 := x6.trans S0.out; have v6 := y6.trans S1.out; have lt6 : w.heap.size < w6.heap.size := World.block_lt_of_cell? w6 ⟨w.heap.size, 0, none⟩ u6; have YM := zH (zc8 (w.heap.size + 1 + 1 + 1) (by simp [ZJ]) hb6); obtain ⟨pM0, pM1, pM2, pM3⟩ := Zb.facts YM.out; have L6 := zH (Y8 (w.heap.size + 4) (by simp [ZJ]) o6); have Q6 := zH (And.intro q6 r6); have O6 := zH (Z6 o6 (base' := w.heap.size + 3) (by have h3 := HS0.out; have h4 := Z0.out.size; simp; omega)); have K6 := zH B6; clear q6 r6 o6 hb6 B6 x6 y6)
   | (go_at_call 140; refine (HM.out _ Z0.out.drew).mono ?_; rintro e w6 ⟨A6, c6, rfl, q6, r6, o6, hb6, B6, x6, y6⟩; have u6 := x6.trans S0.out; have v6 := y6.trans S1.out; have lt6 : w.heap.size < w6.heap.size := World.block_lt_of_cell? w6 ⟨w.heap.size, 0, none⟩ u6; have L6 := zH (Y8 (w.heap.size + 3) (by simp [ZJ]) o6); have Q6 := zH (And.intro q6 r6); have O6 := zH (Z6 o6 (base' := w.heap.size + 3) (by have h3 := HS0.out; have h4 := Z0.out.size; simp; omega)); have K6 := zH B6; clear q6 r6 o6 hb6 B6 x6 y6))
  all_goals
   go_wp2_with fail
   go_meet
   first
    | exact ⟨w6.heap.size, rfl, gJ HS0.out K6.out C5.out O6.out (fun q hq e => by have h1 := (L5.out q hq).2; have h2 := (L6.out q e).1; omega)⟩
    | exact ⟨w5.heap.size, rfl, gJ HS0.out K5.out O5.out C6.out (fun q hq e => by have h1 := (L6.out q e).2; have h2 := (L5.out q hq).1; omega)⟩
    | exact ⟨_, rfl, gI HS0.out K6.out C5.out O6.out (fun q hq e => by have h1 := (L5.out q hq).2; have h2 := (L6.out q e).1; omega) YM.out (by have h1 := K5.out.size; have h2 := HS0.out; omega) (fun q hq => by have h1 := L5.out q hq; omega) (fun q hq => by have h1 := L6.out q hq; have h2 := K5.out.size; have h3 := HS0.out; first | omega | (have h9 := Bx.lt YF.out; omega))⟩
    | exact ⟨_, rfl, gI HS0.out K5.out O5.out C6.out (fun q hq e => by have h1 := (L6.out q e).2; have h2 := (L5.out q hq).1; omega) YF.out (by have h1 := K6.out.size; have h2 := HS0.out; omega) (fun q hq => by have h1 := L5.out q hq; have h2 := K6.out.size; have h3 := HS0.out; first | omega | (have h9 := Bx.lt YM.out; omega)) (fun q hq => by have h1 := L6.out q hq; omega)⟩
 case rest =>
  obtain ⟨ob, rfl, FA, fc', MA, mc', q1, q2, q3, q4, q5, q6, q7, q8⟩ := hcut
  have B0 := zH (BL.mk q1 q2 q3 q4 q5 q6 q7 q8)
  clear q1 q2 q3 q4 q5 q6 q7 q8
  have PB := zH (show Bx (ZJ w fA fields.length fc mA meths.length mc cn cs kA km kc cfA cfm cfc cmA cmm cmc) (w.heap.size + 1) #[.string ⟨cn.toArray⟩, .string ⟨cs.toArray⟩, .slice kA km kc, .slice cfA cfm cfc, .slice cmA cmm cmc] 81 from by
   have h1 := Bx.new (w.alloc (.cells #[.slice fA fields.length fc, .slice mA meths.length mc] 111)) #[.string ⟨cn.toArray⟩, .string ⟨cs.toArray⟩, .slice kA km kc, .slice cfA cfm cfc, .slice cmA cmm cmc] 81
   rw [show (w.alloc (.cells #[.slice fA fields.length fc, .slice mA meths.length mc] 111)).heap.size = w.heap.size + 1 from by simp] at h1
   unfold ZJ
   exact h1.after ((Below.refl _ _).alloc (Nat.le_refl _) _))
  have P0 := zH (PB.out.after B0.out.bel)
  have hRB : Bx (ZJ w fA fields.length fc mA meths.length mc cn cs kA km kc cfA cfm cfc cmA cmm cmc) (w.heap.size + 2) #[.slice none 0 0, .slice none 0 0] 111 := by
   have h1 := Bx.new ((w.alloc (.cells #[.slice fA fields.length fc, .slice mA meths.length mc] 111)).alloc (.cells #[.string ⟨cn.toArray⟩, .string ⟨cs.toArray⟩, .slice kA km kc, .slice cfA cfm cfc, .slice cmA cmm cmc] 81)) #[.slice none 0 0, .slice none 0 0] 111
   rw [show ((w.alloc (.cells #[.slice fA fields.length fc, .slice mA meths.length mc] 111)).alloc (.cells #[.string ⟨cn.toArray⟩, .string ⟨cs.toArray⟩, .slice kA km kc, .slice cfA cfm cfc, .slice cmA cmm cmc] 81)).heap.size = w.heap.size + 2 from by simp] at h1
   exact h1
  clear HF HM S0 S1 Z0
  generalize (ZJ w fA fields.length fc mA meths.length mc cn cs kA km kc cfA cfm cfc cmA cmm cmc) = S at *
  have p3 := P0.out.cell 3
  have HB0 := zH hB0
  have hcfm : cfm = cfields.length := HC.out.fields.len
  have hcmm : cmm = cmeths.length := HC.out.meths.len
  subst hcfm
  subst hcmm
  clear hB0 hw3 HX
  go_wp2_with fail
  clear p3
  go_loopw [22] (fun i wr => ∃ (k : Nat) (FA1 : Option Addr) (c1 : Nat), k ≤ cfields.length ∧ i = .int .i64 k ∧ BL w S wr ob FA1 c1 MA mc' (fields ++ (cfields.take k).map (Xq cn)) meths) (fun i _ => cfields.length - (intOf i).toNat)
  case atStart => exact ⟨0, FA, fc', by omega, rfl, by simpa using B0.out⟩
  case round =>
   obtain ⟨k, FA1, c1, hk, rfl, hbl⟩ := hrel
   have HBL := zH hbl
   have hszS := hbl.bel.size
   have hs0 := HS0.out
   have P1 := zH (PB.out.after hbl.bel)
   by_cases hlt : k < cfields.length
   · have hBw : Below w.heap.size w wr := HB0.out.trans (hbl.bel.mono (by omega))
     have hrd := (HC.out.fields.below hBw).rds
     obtain ⟨b, o, hA, hb, hc0, hc1⟩ := JI hrd (show k < cfields.length by omega)
     simp only at hA
     subst hA
     have HT := zH (show fields ++ (cfields.take (k + 1)).map (Xq cn) = (fields ++ (cfields.take k).map (Xq cn)) ++ [(⟨(cfields[k]'(by omega)).name, (cfields[k]'(by omega)).desc, cn⟩ : Zi)] from by
      rw [List.take_succ_eq_append_getElem (show k < cfields.length by omega), List.map_append, List.append_assoc]; rfl)
     have hfl : (fields ++ (cfields.take k).map (Xq cn)).length ≤ 6000 := by simp; omega
     generalize hfs : fields ++ (cfields.take k).map (Xq cn) = fs at *
     generalize hnm : (cfields[k]'(by omega)).name = nm at *
     generalize hds : (cfields[k]'(by omega)).desc = ds at *
     have g0 := hbl.box.cell 0
     have p0 := P1.out.cell 0
     have hob := hbl.box.lt
     have hp1 := P1.out.lt
     have hk2 : (k : Int) < cfields.length := by omega
     clear hbl hBw hrd hfs
     go_wp2_with (at_builtin
                  have hrd := zy9 wr #[.string ⟨nm.toArray⟩, .string ⟨ds.toArray⟩] #[.string ⟨nm.toArray⟩, .string ⟨ds.toArray⟩, .string ⟨cn.toArray⟩] 125 210
                  refine Zp8 rfl (.tmp 27) (.tmp 32) rfl (w.heap.size + 3) _ fs rfl ((HBL.out.alloc _).alloc _).f (wr.heap.size + 1) 1 ⟨nm, ds, cn⟩ rfl hrd (by omega) (by simp; omega) ?_
                  intro v2 w2 hF2 hg2 hat2
                  obtain ⟨FA2, c2, rfl, hbx2, hbl2⟩ := ((HBL.out.alloc (.cells #[.string ⟨nm.toArray⟩, .string ⟨ds.toArray⟩] 125)).alloc (.cells #[.string ⟨nm.toArray⟩, .string ⟨ds.toArray⟩, .string ⟨cn.toArray⟩] 210)).Zr5 HS0.out ⟨nm, ds, cn⟩ v2 hF2 hg2 hat2
                  have d0 := hbx2.cell 0
                  have e0 := hbx2.free 0
                  have Hbl2 := zH hbl2
                  clear hrd hF2 hg2 hat2 hbx2 hbl2)
     go_roundw
     case rel =>
      exact ⟨k + 1, FA2, c2, by omega, by go_num, by rw [HT.out]; exact Hbl2.out⟩
     case measure => simp [intOf]; omega
   · have hkm : k = cfields.length := by omega
     have hkm2 := zH hkm
     have hall : (cfields.take k).map (Xq cn) = cfields.map (Xq cn) := by rw [List.take_of_length_le (by omega)]
     rw [hall] at HBL
     clear hbl hall hkm
     have p4 := P1.out.cell 4
     go_wp2_with fail
     clear p4
     generalize hFS : fields ++ cfields.map (Xq cn) = fs at *
     have HFS := zH hFS
     have RB := zH hRB
     clear hFS
     go_loopw [39] (fun i wr => ∃ (k : Nat) (MA1 : Option Addr) (c2 : Nat), k ≤ cmeths.length ∧ i = .int .i64 k ∧ BL w S wr ob FA1 c1 MA1 c2 fs ((cmeths.take k).foldl (fun l m => Qt l (JC cn m)) meths)) (fun i _ => cmeths.length - (intOf i).toNat)
     case atStart => exact ⟨0, MA, mc', by omega, rfl, by simpa using HBL.out⟩
     case round =>
      clear P1 HBL
      obtain ⟨k, MA1, c2, hk, rfl, hbl⟩ := hrel
      have HBL := zH hbl
      have hszS := hbl.bel.size
      have P1 := zH (PB.out.after hbl.bel)
      by_cases hlt : k < cmeths.length
      · have hBw : Below w.heap.size w wr := HB0.out.trans (hbl.bel.mono (by omega))
        have hrd := (HC.out.meths.below hBw).rds
        obtain ⟨b, o, hA, hb, hc0, hc1, hc2, hc3, hc4⟩ := jY hrd hlt
        simp only at hA
        subst hA
        have HT := zH (show (cmeths.take (k + 1)).foldl (fun l m => Qt l (JC cn m)) meths = Qt ((cmeths.take k).foldl (fun l m => Qt l (JC cn m)) meths) (⟨(cmeths[k]'hlt).name, (cmeths[k]'hlt).sig, cn⟩ : zG) from by
         rw [List.take_succ_eq_append_getElem hlt, List.foldl_append]; rfl)
        have hml : ((cmeths.take k).foldl (fun l m => Qt l (JC cn m)) meths).length ≤ 6000 := by
         have := YV cn (cmeths.take k) meths
         simp at this
         omega
        generalize hms : (cmeths.take k).foldl (fun l m => Qt l (JC cn m)) meths = ms at *
        generalize hz : cmeths[k]'hlt = z at *
        obtain ⟨z0, z1, z2, zA, zm, zc, zhA, zhm, zhc, zcode, zhand⟩ := z
        simp only at hc0 hc1 hc2 hc3 hc4 HT
        have g1 := hbl.box.cell 1
        have p0 := P1.out.cell 0
        have hob := hbl.box.lt
        have hp1 := P1.out.lt
        have hk2 : (k : Int) < cmeths.length := by omega
        clear hbl hBw hrd hms hz
        go_wp2_with fail
        have HB2 := zH ((HBL.out.alloc (.cells #[.string ⟨z0.toArray⟩, .string ⟨z1.toArray⟩, .int .i64 z2, .slice zA zm zc, .slice zhA zhm zhc] 85)).alloc (.cells #[.string ⟨z0.toArray⟩, .string ⟨z1.toArray⟩, .string ⟨cn.toArray⟩] 160))
        refine (vB MA1 ms ms.length c2 z0 ((wr.alloc (.cells #[.string ⟨z0.toArray⟩, .string ⟨z1.toArray⟩, .int .i64 z2, .slice zA zm zc, .slice zhA zhm zhc] 85)).alloc (.cells #[.string ⟨z0.toArray⟩, .string ⟨z1.toArray⟩, .string ⟨cn.toArray⟩] 160)) rfl (by unfold maxLen; omega) (Rds.qU HB2.out.m)).mono ?_
        rintro e w5 ⟨rfl, hb5⟩
        have HB5 := zH (HB2.out.ext hb5)
        have hEB : Bx w5 (wr.heap.size + 1) #[.string ⟨z0.toArray⟩, .string ⟨z1.toArray⟩, .string ⟨cn.toArray⟩] 160 := by
         have h1 := Bx.new (wr.alloc (.cells #[.string ⟨z0.toArray⟩, .string ⟨z1.toArray⟩, .int .i64 z2, .slice zA zm zc, .slice zhA zhm zhc] 85)) #[.string ⟨z0.toArray⟩, .string ⟨z1.toArray⟩, .string ⟨cn.toArray⟩] 160
         rw [show (wr.alloc (.cells #[.string ⟨z0.toArray⟩, .string ⟨z1.toArray⟩, .int .i64 z2, .slice zA zm zc, .slice zhA zhm zhc] 85)).heap.size = wr.heap.size + 1 from by simp] at h1
         exact h1.after hb5
        have l1 := HB5.out.box.cell 1
        have x0 := hEB.cell 0
        have x1 := hEB.cell 1
        have x2 := hEB.cell 2
        clear g1 p0 hb5 hEB hc0 hc1 hc2 hc3 hc4
        rcases qo (Zl z0) ms with hF | ⟨j, hj, hF⟩
        · have HA := zH (X0 (e := ⟨z0, z1, cn⟩) hF)
          rw [hF]
          clear hF
          go_wp2_with (at_builtin
                       have hrd := Base.zB w5 #[.string ⟨z0.toArray⟩, .string ⟨z1.toArray⟩, .string ⟨cn.toArray⟩] 160
                       refine Zp9 rfl (.tmp 63) (.tmp 65) rfl (w.heap.size + 3) _ ms rfl (HB5.out.alloc _).m w5.heap.size 1 ⟨z0, z1, cn⟩ rfl hrd (by omega) (by have := HB5.out.bel.size; have := HS0.out; simp; omega) ?_
                       intro v2 w2 hF2 hg2 hat2
                       obtain ⟨MA2, c3, rfl, hbx2, hbl2⟩ := (HB5.out.alloc (.cells #[.string ⟨z0.toArray⟩, .string ⟨z1.toArray⟩, .string ⟨cn.toArray⟩] 160)).Qt HS0.out ⟨z0, z1, cn⟩ v2 hF2 hg2 hat2
                       have d1 := hbx2.cell 1
                       have e1 := hbx2.free 1
                       have Hbl2 := zH hbl2
                       clear hrd hF2 hg2 hat2 hbx2 hbl2)
          go_roundw
          case rel => exact ⟨k + 1, MA2, c3, by omega, by go_num, by rw [HT.out, HA.out]; exact Hbl2.out⟩
          case measure => simp [intOf]; omega
        · have HA := zH (VZ (e := ⟨z0, z1, cn⟩) hF)
          rw [hF]
          clear hF
          obtain ⟨b5, o5, hA5, hb5, d0, d1, d2⟩ := xU (Rds.qU HB5.out.m) hj
          have ho : o5 = 0 := by
           obtain ⟨h1, h2⟩ := HB5.out.m
           rcases h2 with ⟨e, _⟩ | ⟨g, cap, cur, e, _⟩
           · rw [hA5] at e; cases e
           · rw [hA5] at e; cases e; rfl
          subst ho
          subst hA5
          rw [Nat.zero_add] at d0 d1 d2
          have n0 := HB5.out.m.frozenAt (j * 3)
          have n1 := HB5.out.m.frozenAt (j * 3 + 1)
          have n2 := HB5.out.m.frozenAt (j * 3 + 2)
          have hj1 : (j : Int) < (ms.length : Int) := by omega
          have hj0 : (0 : Int) ≤ (j : Int) := by omega
          have HBn := zH (HB5.out.Zq8 HS0.out hj ⟨z0, z1, cn⟩)
          simp only at HBn
          go_wp2_with fail
          go_roundw
          case rel => exact ⟨k + 1, some ⟨b5, 0, none⟩, c2, by omega, by go_num, by rw [HT.out, HA.out]; exact HBn.out⟩
          case measure => simp [intOf]; omega
      · have hkm : k = cmeths.length := by omega
        have hall : (cmeths.take k).foldl (fun l m => Qt l (JC cn m)) meths = cmeths.foldl (fun l m => Qt l (JC cn m)) meths := by rw [List.take_of_length_le (by omega)]
        rw [hall] at HBL
        generalize hms : cmeths.foldl (fun l m => Qt l (JC cn m)) meths = ms at *
        have HMS := zH hms
        have g0 := HBL.out.box.cell 0
        have g1 := HBL.out.box.cell 1
        have R1 := zH (RB.out.after HBL.out.bel)
        have f0 := R1.out.free 0
        have r0 := R1.out.cell 0
        have f1 := R1.out.free 1
        have r1 := R1.out.cell 1
        clear hbl hall hms
        go_wp2_with fail
        have K0 := zH ((R1.out.set 0 (.slice FA1 fs.length c1)).set 1 (.slice MA1 ms.length c2))
        have HW : Bx ((wr.setCell ⟨w.heap.size + 2, 0, none⟩ (.slice FA1 fs.length c1)).setCell ⟨w.heap.size + 2, 1, none⟩ (.slice MA1 ms.length c2)) (w.heap.size + 2) #[.slice FA1 fs.length c1, .slice MA1 ms.length c2] 111 := K0.out
        have two := fun (k' : Nat) (hk : k' ≠ w.heap.size + 2) => (heap_setCell_other (wr.setCell ⟨w.heap.size + 2, 0, none⟩ (.slice FA1 fs.length c1)) ⟨w.heap.size + 2, 1, none⟩ k' (.slice MA1 ms.length c2) hk).trans (heap_setCell_other wr ⟨w.heap.size + 2, 0, none⟩ k' (.slice FA1 fs.length c1) hk)
        have E1 := zh HBL.out.f (fun q hq => two q (by have := (HBL.out.f.lt q hq).1; omega))
        have E2 := zh HBL.out.m (fun q hq => two q (by have := (HBL.out.m.lt q hq).1; omega))
        have EB : Below w.heap.size w ((wr.setCell ⟨w.heap.size + 2, 0, none⟩ (.slice FA1 fs.length c1)).setCell ⟨w.heap.size + 2, 1, none⟩ (.slice MA1 ms.length c2)) := ((HB0.out.trans (HBL.out.bel.mono (by omega))).setCell (p := ⟨w.heap.size + 2, 0, none⟩) (by show w.heap.size ≤ w.heap.size + 2; omega) _).setCell (p := ⟨w.heap.size + 2, 1, none⟩) (by show w.heap.size ≤ w.heap.size + 2; omega) _
        obtain ⟨_, _, qf, f1, f2, _, _⟩ := zS E1
        obtain ⟨_, _, qm, m1, m2, _, _⟩ := zS E2
        cases qf
        cases qm
        have hx1 : (⟨FA1, fs.length, c1, MA1, ms.length, c2, fs, ms⟩ : Zf).is ((wr.setCell ⟨w.heap.size + 2, 0, none⟩ (.slice FA1 fs.length c1)).setCell ⟨w.heap.size + 2, 1, none⟩ (.slice MA1 ms.length c2)) := ⟨rfl, f1, f2, Rds.qU E1, rfl, m1, m2, Rds.qU E2⟩
        exact bodyPost_ret (v := .agg #[.slice FA1 fs.length c1, .slice MA1 ms.length c2]) (jl Tryz.results85 _ _ _ _ rfl (run_loadVar_row _ _ _ _ #[.slice FA1 fs.length c1, .slice MA1 ms.length c2] (0, 0) _ HW Tryz.underlying111 rfl YE)) rfl
         ⟨⟨FA1, fs.length, c1, MA1, ms.length, c2, fs, ms⟩, rfl, ⟨hx1, fun a ha => (by
          have ha' : FA1 = some a := ha
          subst ha'
          have := E1.lt a.block rfl
          exact ⟨by omega, this.2⟩), fun a ha => (by
          have ha' : MA1 = some a := ha
          subst ha'
          have := E2.lt a.block rfl
          exact ⟨by omega, this.2⟩)⟩, HFS.out.symm, HMS.out.symm, EB⟩
end TabB
end Go.Proofs.YtehainbhoflpnaaGreatDoor
