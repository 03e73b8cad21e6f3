/- pieces -/
import Derived.Test.YtehainbhoflpnaaGreatDoorK41
import Derived.Test.YtehainbhoflpnaaGreatDoorK43
import Derived.Test.YtehainbhoflpnaaGreatDoorK44
namespace Go.Proofs.YtehainbhoflpnaaGreatDoor
namespace KndF
open Go.RowKit Base BinM Stru DescM DescW DescX DescR DescS DescG DescP DescQ HierS HierT HierM HierC HierD HierN HierV HierR HierU HierY HierQ Kls KlsP KlsQ OpenK InsM InsA TabC TabM TabK TabP TabE TabB TabG TabH TabT TabU TabV TabX TabW TabF TabN TabO TabY TabR TabQ TabD TabL KndB KndM EfA KndS KndP KndQ KndR KndU KndV KndW KndZ KndD KndH
open KrB (RS qb ZL zL zC zK Zd ZM jQ Few zw)
open KrH (ZV jk)
open KrA (Sk TbR)
open KndX (Jq Jj)
open KndY (Ju)
theorem Zm3 (s0 s1 f m0 m1 : Nat) : ∀ x ∈ KndB.BL s0 s1 f m0 m1, qY x = 0 := by
 intro x hx
 simp only [KndB.BL, List.mem_cons, List.not_mem_nil, or_false] at hx
 rcases hx with rfl | rfl | rfl | rfl <;> kernel_rfl
theorem zw2 (s0 s1 f m0 m1 : Nat) : ∀ x ∈ KndB.BL s0 s1 f m0 m1, x.name.length ≤ 140737488351232 := by
 intro x hx
 simp only [KndB.BL, List.mem_cons, List.not_mem_nil, or_false] at hx
 rcases hx with rfl | rfl | rfl | rfl <;> (show (1 : Nat) ≤ _; omega)
structure Env (w : World) (t r : Nat) (ps : List P2) (C L : List zf) : Prop where
 ta : ∃ lo g mb n A c f, Ta lo w t g mb n A c (mk ps) C f ∧ Total C f
 good : yE (mk ps)
 hv : hav C = hav L
 rt : ∃ lo g A c, RT lo w r g A c ps L
 ups : Ups ps L
 can : HierQ.Can ps
theorem Zl7 {w : World} {t r : Nat} (h : Ux w t r) : ∃ ps C L, Env w t r ps C L := by
 obtain ⟨⟨lo, g, mb, n, A, c, C, f, s0, s1, ff, m0, m1, hTa, hTot, hbare, hwhy, _⟩, lo', g', A', c', u0, u1, uf, v0, v1, hRT⟩ := h
 have hp : pairs (KndB.BL s0 s1 ff m0 m1) = pairs (KndB.BL u0 u1 uf v0 v1) := rfl
 have hb : (KndB.BL s0 s1 ff m0 m1).map zR = (KndB.BL u0 u1 uf v0 v1).map zR := rfl
 refine ⟨pairs (KndB.BL u0 u1 uf v0 v1), C, KndB.BL u0 u1 uf v0 v1, ⟨lo, g, mb, n, A, c, f, hTa, hTot⟩, ?_, ?_, ⟨lo', g', A', c', hRT⟩, zm9 hwhy (Zm3 _ _ _ _ _), zv5 hwhy (zw2 _ _ _ _ _)⟩
 · exact (Yt hwhy).1
 · exact vK (hbare.trans hb)
theorem Env.ext {w w' : World} {t r : Nat} {ps : List P2} {C L : List zf} (h : Env w t r ps C L) (hb : Below w.heap.size w w') : Env w' t r ps C L :=
 ⟨by obtain ⟨lo, g, mb, n, A, c, f, h1, h2⟩ := h.ta; exact ⟨lo, g, mb, n, A, c, f, h1.ext hb, h2⟩, h.good, h.hv, by obtain ⟨lo, g, A, c, h1⟩ := h.rt; exact ⟨lo, g, A, c, h1.ext hb⟩, h.ups, h.can⟩
theorem zj3 (h : Hr) (d : T) (hc : (zq d).2 = true) : h.known d = h.has (zq d).1 := by
 obtain ⟨hr, hd⟩ := gq hc
 have hb : brk d = 0 := by
  cases d with
  | nil => rfl
  | cons x r => simp at hd; subst hd; rfl
 unfold Hr.known
 rw [hb, List.drop_zero, hr, hc]
 simp
theorem Qx {ls : List T} {R : List T × Bool} {S : RS} (h : Ag R S) : endP (ls, R.1, R.2) = endP (ls, S.1, !S.2) := by
 obtain ⟨l, ok⟩ := R
 obtain ⟨l2, bad⟩ := S
 obtain ⟨h1, h2⟩ := h
 simp only at h1 h2
 subst h1
 cases bad with
 | true => simp [endP]
 | false => rw [h2 rfl]
theorem zu0 {C L : List zf} (hh : hav C = hav L) (c : Cst) : KndX.noF C c ↔ KrF.fdB (fun q => (hav L q).1) c.s c.t c.u = false := by
 unfold KndX.noF KrF.fdB
 rw [hh]
 dsimp only
 constructor
 · rintro (h | h)
   · rw [decide_eq_false (by omega)]; rfl
   · rw [Bool.and_eq_false_iff]; exact .inr (by simpa using h)
 · intro h
   rcases Bool.and_eq_false_iff.1 h with h | h
   · exact .inl (by have := of_decide_eq_false h; omega)
   · exact .inr (by simpa using h)
theorem Zl4 {C L : List zf} (hh : hav C = hav L) (c : Cst) : KndY.noM C c ↔ KrH.mtB (fun q => (hav L q).2) c.s c.t c.u = false := by
 unfold KndY.noM KrH.mtB
 rw [hh]
 dsimp only
 constructor
 · rintro (h | h)
   · rw [decide_eq_false (by omega)]; rfl
   · rw [Bool.and_eq_false_iff]; exact .inr (by simpa using h)
 · intro h
   rcases Bool.and_eq_false_iff.1 h with h | h
   · exact .inl (by have := of_decide_eq_false h; omega)
   · exact .inr (by simpa using h)
def frE (F : Option (List T × List T)) : List T × List T × Int := match F with | some (l, s) => (l, s, 0) | none => ([], [], 16)
theorem ze5 {w : World} {F : Option (List T × List T)} {e : Ending} {w' : World} (h : KndS.ZO w F e w') : ∃ A c B d, e = .returned (.tuple #[.agg #[.slice A (frE F).1.length c, .slice B (frE F).2.1.length d], .int .i64 (frE F).2.2]) ∧ Rds w' A ((frE F).1.map sv) ∧ Rds w' B ((frE F).2.1.map sv) ∧ Below w.heap.size w w' := by
 obtain ⟨h1, h2⟩ := h
 cases F with
 | none => exact ⟨none, 0, none, 0, h1, .inl rfl, .inl rfl, h2⟩
 | some p =>
   obtain ⟨l, s⟩ := p
   obtain ⟨A, c, B, d, e1, e2, e3⟩ := h1
   exact ⟨A, c, B, d, e1, e2, e3, h2⟩
theorem Zd8 {p : List T × List T × Bool} (h : p.1.length ≤ 500) : (frE (endP p)).1.length ≤ 500 ∧ (frE (endP p)).2.1.length ≤ 16 := by
 unfold endP
 split
 · rename_i hc; exact ⟨h, hc.2⟩
 · exact ⟨by simp [frE], by simp [frE]⟩
def Both (w0 : World) (t r : Nat) (kA : Option Addr) (km kc : Nat) (gv : T) (op a : Int) (A : Option Addr) (c : Nat) (ls : List T) (B : Option Addr) (d : Nat) (ss : List T) : Prop :=
 ∃ F, ((frE F).1.length ≤ 500 ∧ (frE F).2.1.length ≤ 16) ∧ (∀ w, Below w0.heap.size w0 w → Calls Tryz.prog 9 #[.pointer (some ⟨t, 0, none⟩), .slice kA km kc, .string ⟨gv.toArray⟩, .agg #[.int .i64 op, .int .i64 a], .agg #[.slice A ls.length c, .slice B ss.length d]] w (ZO w F)) ∧
   ∀ w, Below w0.heap.size w0 w → Calls Tryz.prog 10 #[.pointer (some ⟨r, 0, none⟩), .slice kA km kc, .string ⟨gv.toArray⟩, .agg #[.int .i64 op, .int .i64 a], .agg #[.slice A ls.length c, .slice B ss.length d]] w (ZO w F)
structure Gv (w0 : World) (kA : Option Addr) (km kc : Nat) (ks : List Cst) (gv : T) (A : Option Addr) (c : Nat) (ls : List T) (B : Option Addr) (d : Nat) (ss : List T) : Prop where
 hk : Zq w0 kA km kc ks
 hkl : ∀ x ∈ ks, x.s.length ≤ 140737488351232 ∧ x.t.length ≤ 140737488351232 ∧ x.u.length ≤ 140737488351232
 hgl : gv.length ≤ 140737488351232
 hA : Rds w0 A (ls.map sv)
 hB : Rds w0 B (ss.map sv)
 hd : ss.length ≤ d
 hd2 : d ≤ maxLen
 hm : ss.length ≤ 500
 hl : ls.length ≤ 500
 hsl : ∀ x ∈ ss, x.length ≤ 140737488351232
theorem ZH {w0 : World} {t r : Nat} {kA : Option Addr} {km kc : Nat} {gv : T} {op a : Int} {A : Option Addr} {c : Nat} {ls : List T} {B : Option Addr} {d : Nat} {ss : List T} (p : List T × List T × Bool) (hl : p.1.length ≤ 500)
 (h1 : ∀ w, Below w0.heap.size w0 w → Calls Tryz.prog 9 #[.pointer (some ⟨t, 0, none⟩), .slice kA km kc, .string ⟨gv.toArray⟩, .agg #[.int .i64 op, .int .i64 a], .agg #[.slice A ls.length c, .slice B ss.length d]] w (KndS.ZO w (endP p)))
 (h2 : ∀ w, Below w0.heap.size w0 w → Calls Tryz.prog 10 #[.pointer (some ⟨r, 0, none⟩), .slice kA km kc, .string ⟨gv.toArray⟩, .agg #[.int .i64 op, .int .i64 a], .agg #[.slice A ls.length c, .slice B ss.length d]] w (KndS.ZO w (endP p))) :
 Both w0 t r kA km kc gv op a A c ls B d ss := ⟨endP p, Zd8 hl, h1, h2⟩
section
variable {w0 : World} {t r : Nat} {ps : List P2} {C L : List zf} {kA : Option Addr} {km kc : Nat} {ks : List Cst} {gv : T} {op a : Int} {A : Option Addr} {c : Nat} {ls : List T} {B : Option Addr} {d : Nat} {ss : List T}
theorem Gv.few (G : Gv w0 kA km kc ks gv A c ls B d ss) : Few 500 (ss, false) := ⟨G.hm, G.hsl⟩
theorem Gv.sl2 (G : Gv w0 kA km kc ks gv A c ls B d ss) : ∀ x ∈ ss, x.length ≤ 140737488355328 := fun x hx => Nat.le_trans (G.hsl x hx) (by omega)
theorem Gv.gl2 (G : Gv w0 kA km kc ks gv A c ls B d ss) : gv.length ≤ 140737488355328 := Nat.le_trans G.hgl (by omega)
theorem Gv.hm2 (G : Gv w0 kA km kc ks gv A c ls B d ss) : ss.length ≤ 1000 := Nat.le_trans G.hm (by omega)
theorem GL (E : Env w0 t r ps C L) : ∃ g, ∀ lo W, Below w0.heap.size w0 W → w0.heap.size ≤ lo → Tb lo W t g (mk ps) := by
 obtain ⟨lo, g, mb, n, TA, cc, f, hTa, _⟩ := E.ta
 have hT : Tb w0.heap.size w0 t g (mk ps) := ⟨⟨_, _, hTa.box⟩, hTa.box.lt, hTa.hier.mono hTa.base, E.good⟩
 exact ⟨g, fun lo W hb hlo => KndS.Tb.mono (hT.below hb) hlo⟩
theorem Yw {lo0 g mb n : Nat} {TA : Option Addr} {cc : Nat} {f : T → Option Zf} (hg : yE (mk ps)) (hTa : Ta lo0 w0 t g mb n TA cc (mk ps) C f) (lo : Nat) (W : World) (hb : Below w0.heap.size w0 W) (hlo : w0.heap.size ≤ lo) : Tb lo W t g (mk ps) := by
 have hT : Tb w0.heap.size w0 t g (mk ps) := ⟨⟨_, _, hTa.box⟩, hTa.box.lt, hTa.hier.mono hTa.base, hg⟩
 exact KndS.Tb.mono (hT.below hb) hlo
theorem Qw (E : Env w0 t r ps C L) : ∃ g, ∀ W, Below w0.heap.size w0 W → TbR w0.heap.size W r g ps := by
 obtain ⟨lo, g, TA, cc, hRT⟩ := E.rt
 have hT : TbR w0.heap.size w0 r g ps := ⟨⟨_, hRT.box⟩, hRT.box.lt, hRT.hier.mono hRT.base, E.can⟩
 exact ⟨g, fun W hb => hT.below hb⟩
theorem Zx (E : Env w0 t r ps C L) {W : World} (hb : Below w0.heap.size w0 W) : r < W.heap.size := by
 obtain ⟨lo, g, TA, cc, hRT⟩ := E.rt
 exact Nat.lt_of_lt_of_le hRT.box.lt hb.size
theorem KT (E : Env w0 t r ps C L) (q nm : T) (W : World) (hb : Below w0.heap.size w0 W) : Calls Tryz.prog 65 #[.pointer (some ⟨r, 0, none⟩), .string ⟨q.toArray⟩, .string ⟨nm.toArray⟩] W fun e w' => J5 (hav L q).2 nm e ∧ Below W.heap.size W w' := by
 obtain ⟨lo, g, TA, cc, hRT⟩ := E.rt
 exact Xi (hRT.ext hb) E.ups q nm
theorem zf5 (E : Env w0 t r ps C L) (q nm : T) (W : World) (hb : Below w0.heap.size w0 W) : Calls Tryz.prog 63 #[.pointer (some ⟨r, 0, none⟩), .string ⟨q.toArray⟩, .string ⟨nm.toArray⟩] W fun e w' => ZO (hav L q).1 nm e ∧ Below W.heap.size W w' := by
 obtain ⟨lo, g, TA, cc, hRT⟩ := E.rt
 exact U9 (hRT.ext hb) E.ups E.can q nm
theorem zt8 {n : Nat} {s : RS} (h : Few n s) {g : T} (hg : g.length ≤ 140737488351232) : Few (n + 1) (jk g s) := by
 unfold jk
 split
 · exact h.mono (by omega)
 · exact h.push hg
theorem Zg (E : Env w0 t r ps C L) (G : Gv w0 kA km kc ks gv A c ls B d ss) (hn : NoA op) (hk : Zv op = 0) {R : List T × Bool} {S : RS} (hag : Ag R S) (hf : Few 510 S)
 (HP : ∀ lo b W LV SV g, Tb lo W t g (mk ps) → St lo b W t (.slice kA km kc) gv op 0 LV ls SV ss → Calls Tryz.prog 54 #[.pointer (some ⟨b, 0, none⟩)] W (zN lo b W t (.slice kA km kc) gv op 0 LV ls R.1 (.bool R.2)))
 (HD : ∀ W b g, TbR w0.heap.size W r g ps → w0.heap.size ≤ b → Sk W b r ss false → Calls Tryz.prog 31 #[.pointer (some ⟨b, 0, none⟩), .int .i64 op, .string ⟨gv.toArray⟩] W (zw W b r S)) : Both w0 t r kA km kc gv op 0 A c ls B d ss := by
 obtain ⟨g, hTb⟩ := GL E
 obtain ⟨g', hTr⟩ := Qw E
 refine ZH (ls, R.1, R.2) (by first | exact G.hl | (rw [List.length_set]; exact G.hl)) (fun w hb => ZC kA km kc gv op 0 A c ls B d ss (G.hA.below hb) (G.hB.below hb) G.hm G.hl (ls, R.1, R.2) (fun W b lo LV SV h1 h2 h3 => ?_)) (fun w hb => ?_)
 · exact XI h3 hn (R := R) (HP _ _ _ _ _ _ (hTb lo W (hb.trans (h1.mono hb.size)) (Nat.le_trans hb.size h2)) h3)
 · rw [Qx (R := R) (S := S) hag]
   exact KrJ.QW (Zx E hb) kA km kc gv op 0 A c ls B d ss (G.hA.below hb) (G.hB.below hb) G.hd G.hd2 G.hm G.hl 0 hk (.inl ⟨rfl, by decide⟩) S (Nat.le_trans hf.1 (by omega)) (fun W b h1 h2 h3 => HD W b _ (hTr W (hb.trans (h1.mono hb.size))) (Nat.le_trans hb.size h2) h3)
theorem Ze7 (E : Env w0 t r ps C L) (G : Gv w0 kA km kc ks gv A c ls B d ss) : Both w0 t r kA km kc gv 44 0 A c ls B d ss := by
 obtain ⟨lo1, g1, mb, n, TA, cc, f, hTa, hTot⟩ := E.ta
 obtain ⟨g', hTr⟩ := Qw E
 refine ZH (ls, (Qj C ss).1, (Qj C ss).2) (by first | exact G.hl | (rw [List.length_set]; exact G.hl)) (fun w hb => ZC kA km kc gv 44 0 A c ls B d ss (G.hA.below hb) (G.hB.below hb) G.hm G.hl (ls, (Qj C ss).1, (Qj C ss).2) (fun W b lo LV SV h1 h2 h3 => ?_)) (fun w hb => ?_)
 · exact XI h3 (by unfold NoA; omega) (R := Qj C ss) (uo hTa hTot (hb.trans (h1.mono hb.size)) (Nat.le_trans hb.size h2) h3 G.hm2 G.hsl)
 · rw [Qx (R := Qj C ss) (S := zL (KrC.zh9 (fun q => (hav L q).2) (ZL (ss, false))) (qb (ss, false))) (zw9 C _ (fun q => by rw [E.hv]) ss)]
   refine KrJ.QW (Zx E hb) kA km kc gv 44 0 A c ls B d ss (G.hA.below hb) (G.hB.below hb) G.hd G.hd2 G.hm G.hl 0 (by kernel_rfl) (.inl ⟨rfl, by decide⟩) (zL (KrC.zh9 (fun q => (hav L q).2) (ZL (ss, false))) (qb (ss, false))) (Nat.le_trans (G.few.pop.need _).1 (by omega)) (fun W b h1 h2 h3 => ?_)
   have hbW := hb.trans (h1.mono hb.size)
   have X := hTr W hbW
   have hlb : w0.heap.size ≤ b := Nat.le_trans hb.size h2
   exact KrG.uo gv (KrC.Za5 X hlb h3 (G.few.mono (by omega)) (fun W2 hb2 q => KT E q _ W2 (hbW.trans hb2)) gv)
theorem Zf7 (E : Env w0 t r ps C L) (G : Gv w0 kA km kc ks gv A c ls B d ss) : Both w0 t r kA km kc gv 22 a A c ls B d ss := by
 refine ZH (ls, ss, true) (by first | exact G.hl | (rw [List.length_set]; exact G.hl)) (fun w hb => ZC kA km kc gv 22 a A c ls B d ss (G.hA.below hb) (G.hB.below hb) G.hm G.hl (ls, ss, true) (fun W b lo LV SV h1 h2 h3 => Ze3 h3)) (fun w hb => ?_)
 exact KrJ.QW (Zx E hb) kA km kc gv 22 a A c ls B d ss (G.hA.below hb) (G.hB.below hb) G.hd G.hd2 G.hm G.hl 7 (by kernel_rfl) (.inr rfl) (ss, false) (Nat.le_trans G.hm (by omega)) (fun W b h1 h2 h3 => KrB.zo9 h3 (G.few.mono (by omega)) gv)
theorem Zf6 (E : Env w0 t r ps C L) (G : Gv w0 kA km kc ks gv A c ls B d ss) : Both w0 t r kA km kc gv 23 a A c ls B d ss := by
 obtain ⟨g, hTb⟩ := GL E
 refine ZH (ls, (zx (mk ps) ss [tB]).1, (zx (mk ps) ss [tB]).2) (by first | exact G.hl | (rw [List.length_set]; exact G.hl)) (fun w hb => ZC kA km kc gv 23 a A c ls B d ss (G.hA.below hb) (G.hB.below hb) G.hm G.hl (ls, (zx (mk ps) ss [tB]).1, (zx (mk ps) ss [tB]).2) (fun W b lo LV SV h1 h2 h3 => ?_)) (fun w hb => ?_)
 · exact Zh7 (by omega) (hTb lo W (hb.trans (h1.mono hb.size)) (Nat.le_trans hb.size h2)) h3 G.hm2 G.sl2
 · rw [Qx (R := zx (mk ps) ss [tB]) (S := zK [66] (ss, false)) (Zi4 _ ss)]
   exact KrJ.QW (Zx E hb) kA km kc gv 23 a A c ls B d ss (G.hA.below hb) (G.hB.below hb) G.hd G.hd2 G.hm G.hl 7 (by kernel_rfl) (.inr rfl) (zK [66] (ss, false)) (Nat.le_trans (G.few.want [66]).1 (by omega)) (fun W b h1 h2 h3 => KrB.zo8 h3 (G.few.mono (by omega)) gv)
theorem Zf5 (E : Env w0 t r ps C L) (G : Gv w0 kA km kc ks gv A c ls B d ss) : Both w0 t r kA km kc gv 24 a A c ls B d ss := by
 obtain ⟨g, hTb⟩ := GL E
 refine ZH (ls, (zx (mk ps) ss [tB]).1, (zx (mk ps) ss [tB]).2) (by first | exact G.hl | (rw [List.length_set]; exact G.hl)) (fun w hb => ZC kA km kc gv 24 a A c ls B d ss (G.hA.below hb) (G.hB.below hb) G.hm G.hl (ls, (zx (mk ps) ss [tB]).1, (zx (mk ps) ss [tB]).2) (fun W b lo LV SV h1 h2 h3 => ?_)) (fun w hb => ?_)
 · exact Zh7 (by omega) (hTb lo W (hb.trans (h1.mono hb.size)) (Nat.le_trans hb.size h2)) h3 G.hm2 G.sl2
 · rw [Qx (R := zx (mk ps) ss [tB]) (S := zK [66] (ss, false)) (Zi4 _ ss)]
   exact KrJ.QW (Zx E hb) kA km kc gv 24 a A c ls B d ss (G.hA.below hb) (G.hB.below hb) G.hd G.hd2 G.hm G.hl 7 (by kernel_rfl) (.inr rfl) (zK [66] (ss, false)) (Nat.le_trans (G.few.want [66]).1 (by omega)) (fun W b h1 h2 h3 => KrB.zo7 h3 (G.few.mono (by omega)) gv)
theorem zU (E : Env w0 t r ps C L) (G : Gv w0 kA km kc ks gv A c ls B d ss) (hop : NoA op) (hk : Zv op = 0) (ha : a ≠ 0) : Both w0 t r kA km kc gv op a A c ls B d ss := by
 refine ZH (ls, ss, false) (by first | exact G.hl | (rw [List.length_set]; exact G.hl)) (fun w hb => ZC kA km kc gv op a A c ls B d ss (G.hA.below hb) (G.hB.below hb) G.hm G.hl (ls, ss, false) (fun W b lo LV SV h1 h2 h3 => GQ h3 hop ha)) (fun w hb => ?_)
 exact KrJ.Ja (Zx E hb) kA km kc gv op a A c ls B d ss (G.hA.below hb) (G.hB.below hb) G.hd G.hd2 G.hm G.hl 0 hk (.inr (.inl ⟨rfl, ha⟩))
theorem zw0 (E : Env w0 t r ps C L) (G : Gv w0 kA km kc ks gv A c ls B d ss) (hop : ¬ (0 ≤ op ∧ op < 46)) : Both w0 t r kA km kc gv op a A c ls B d ss := by
 have hn : NoA op := by unfold NoA; omega
 refine ZH (ls, ss, false) (by first | exact G.hl | (rw [List.length_set]; exact G.hl)) (fun w hb => ZC kA km kc gv op a A c ls B d ss (G.hA.below hb) (G.hB.below hb) G.hm G.hl (ls, ss, false) (fun W b lo LV SV h1 h2 h3 => ?_)) (fun w hb => ?_)
 · by_cases h0 : a = 0
   · subst h0
     exact XI h3 hn (R := (ss, false)) (kY h3 (fun k _ _ => by omega))
   · exact GQ h3 hn h0
 · exact KrJ.Ja (Zx E hb) kA km kc gv op a A c ls B d ss (G.hA.below hb) (G.hB.below hb) G.hd G.hd2 G.hm G.hl (-1) (uY hop) (.inl rfl)
theorem zm1 (E : Env w0 t r ps C L) (G : Gv w0 kA km kc ks gv A c ls B d ss) (hll : ∀ x ∈ ls, x.length ≤ 140737488351232) : Both w0 t r kA km kc gv 6 a A c ls B d ss := by
 by_cases hin : 0 ≤ a ∧ a < (ls.length : Int)
 · refine ZH (ls, (Qp a ls ss).1, (Qp a ls ss).2) (by first | exact G.hl | (rw [List.length_set]; exact G.hl)) (fun w hb => ZC kA km kc gv 6 a A c ls B d ss (G.hA.below hb) (G.hB.below hb) G.hm G.hl (ls, (Qp a ls ss).1, (Qp a ls ss).2) (fun W b lo LV SV h1 h2 h3 => xg h3 (.inl rfl) (R := (ls, (Qp a ls ss).1, (Qp a ls ss).2)) ((uW h3 G.hm2).mono fun _ _ h => U2 h))) (fun w hb => ?_)
   rw [Qx (R := Qp a ls ss) (Zg6 a ls ss hin)]
   obtain ⟨i, rfl⟩ : ∃ i : Nat, a = (i : Int) := ⟨a.toNat, by omega⟩
   have hi : i < ls.length := by omega
   have e : ls.getD (i : Int).toNat [] = ls[i] := by rw [Int.toNat_natCast, List.getD_eq_getElem?_getD, List.getElem?_eq_getElem hi]; rfl
   rw [e]
   have hl := hll _ (List.getElem_mem hi)
   cases hz : ls[i] with
   | nil => exact KrL.XR (Zx E hb) kA km kc gv 6 i A c ls B d ss (G.hA.below hb) (G.hB.below hb) G.hd G.hd2 G.hm G.hl G.hsl i rfl rfl hi (by kernel_rfl) [] false (by simp) hz (.inl ⟨rfl, rfl⟩)
   | cons x0 xs =>
     rw [hz] at hl
     exact KrL.XR (Zx E hb) kA km kc gv 6 i A c ls B d ss (G.hA.below hb) (G.hB.below hb) G.hd G.hd2 G.hm G.hl G.hsl i rfl rfl hi (by kernel_rfl) (x0 :: xs) true hl hz (.inr ⟨x0, xs, rfl, rfl⟩)
 · have hl : Qp a ls ss = (ss, false) := by unfold Qp; rw [if_neg hin]
   refine ZH (ls, ss, false) (by first | exact G.hl | (rw [List.length_set]; exact G.hl)) (fun w hb => ZC kA km kc gv 6 a A c ls B d ss (G.hA.below hb) (G.hB.below hb) G.hm G.hl (ls, ss, false) (fun W b lo LV SV h1 h2 h3 => xg h3 (.inl rfl) (R := (ls, ss, false)) ((uW h3 G.hm2).mono fun _ _ h => by rw [hl] at h; exact U2 h))) (fun w hb => ?_)
   exact KrJ.Ja (Zx E hb) kA km kc gv 6 a A c ls B d ss (G.hA.below hb) (G.hB.below hb) G.hd G.hd2 G.hm G.hl 6 (by kernel_rfl) (by omega)
theorem GU (E : Env w0 t r ps C L) (G : Gv w0 kA km kc ks gv A c ls B d ss) : Both w0 t r kA km kc gv 7 a A c ls B d ss := by
 by_cases hin : 0 ≤ a ∧ a < (ls.length : Int)
 · have hs : je a ls ss = (ls.set a.toNat (zi ss).1, (zi ss).2.1, (zi ss).2.2) := by unfold je; rw [if_pos hin]
   refine ZH (ls.set a.toNat (zi ss).1, (zi ss).2.1, (zi ss).2.2) (by first | exact G.hl | (rw [List.length_set]; exact G.hl)) (fun w hb => ZC kA km kc gv 7 a A c ls B d ss (G.hA.below hb) (G.hB.below hb) G.hm G.hl (ls.set a.toNat (zi ss).1, (zi ss).2.1, (zi ss).2.2) (fun W b lo LV SV h1 h2 h3 => xg h3 (.inr rfl) (R := (ls.set a.toNat (zi ss).1, (zi ss).2.1, (zi ss).2.2)) ((Xj h3 G.hm2).mono fun _ _ h => by rw [hs] at h; exact U2 h))) (fun w hb => ?_)
   obtain ⟨i, rfl⟩ : ∃ i : Nat, a = (i : Int) := ⟨a.toNat, by omega⟩
   rw [Int.toNat_natCast]
   exact KrM.kQ (Zx E hb) kA km kc gv 7 i A c ls B d ss (G.hA.below hb) (G.hB.below hb) G.hd G.hd2 G.hm G.hl G.hsl i rfl rfl (by kernel_rfl) (by omega)
 · have hs : je a ls ss = (ls, ss, false) := by unfold je; rw [if_neg hin]
   refine ZH (ls, ss, false) (by first | exact G.hl | (rw [List.length_set]; exact G.hl)) (fun w hb => ZC kA km kc gv 7 a A c ls B d ss (G.hA.below hb) (G.hB.below hb) G.hm G.hl (ls, ss, false) (fun W b lo LV SV h1 h2 h3 => xg h3 (.inr rfl) (R := (ls, ss, false)) ((Xj h3 G.hm2).mono fun _ _ h => by rw [hs] at h; exact U2 h))) (fun w hb => ?_)
   exact KrJ.Ja (Zx E hb) kA km kc gv 7 a A c ls B d ss (G.hA.below hb) (G.hB.below hb) G.hd G.hd2 G.hm G.hl 6 (by kernel_rfl) (by omega)
theorem Qb {k : Int} (h : (Zj ks a k).2 = true) : ∃ i : Nat, ∃ hi : i < ks.length, a = (i : Int) ∧ ks[i].kind = k ∧ (Zj ks a k).1 = ks[i] := by
 unfold Zj at h ⊢
 by_cases hc : 0 ≤ a ∧ a < ks.length ∧ (ks.getD a.toNat noK).kind = k
 · rw [if_pos hc]
   obtain ⟨h0, h1, h2⟩ := hc
   obtain ⟨i, rfl⟩ : ∃ i : Nat, a = (i : Int) := ⟨a.toNat, by omega⟩
   have hi : i < ks.length := by omega
   have e : ks.getD (i : Int).toNat noK = ks[i] := by rw [Int.toNat_natCast, List.getD_eq_getElem?_getD, List.getElem?_eq_getElem hi]; rfl
   rw [e] at h2
   exact ⟨i, hi, rfl, h2, e⟩
 · rw [if_neg hc] at h; cases h
theorem zl4 {k : Int} (h : (Zj ks a k).2 = false) : ¬ (0 ≤ a ∧ a < (ks.length : Int)) ∨ ∃ i : Nat, ∃ hi : i < ks.length, a = (i : Int) ∧ ks[i].kind ≠ k := by
 by_cases hc : 0 ≤ a ∧ a < (ks.length : Int)
 · right
   obtain ⟨i, rfl⟩ : ∃ i : Nat, a = (i : Int) := ⟨a.toNat, by omega⟩
   have hi : i < ks.length := by omega
   refine ⟨i, hi, rfl, fun hk => ?_⟩
   have e : ks.getD (i : Int).toNat noK = ks[i] := by rw [Int.toNat_natCast, List.getD_eq_getElem?_getD, List.getElem?_eq_getElem hi]; rfl
   unfold Zj at h
   rw [e, if_pos ⟨hc.1, hc.2, hk⟩] at h
   cases h
 · exact .inl hc
theorem KU (E : Env w0 t r ps C L) (G : Gv w0 kA km kc ks gv A c ls B d ss) {k : Int} (hki : Zv op = k) (hk1 : 1 ≤ k) (hk5 : k ≤ 5) (hn : (Zj ks a k).2 = false) (w : World) (hb : Below w0.heap.size w0 w) :
 Calls Tryz.prog 10 #[.pointer (some ⟨r, 0, none⟩), .slice kA km kc, .string ⟨gv.toArray⟩, .agg #[.int .i64 op, .int .i64 a], .agg #[.slice A ls.length c, .slice B ss.length d]] w (ZO w (endP (ls, ss, false))) := by
 rcases zl4 hn with h | ⟨i, hi, ha, hne⟩
 · exact KrJ.Ja (Zx E hb) kA km kc gv op a A c ls B d ss (G.hA.below hb) (G.hB.below hb) G.hd G.hd2 G.hm G.hl k hki (by have := G.hk.len; omega)
 · exact KrJ.gY (Zx E hb) kA km kc gv op a A c ls B d ss (G.hA.below hb) (G.hB.below hb) G.hd G.hd2 G.hm G.hl ks (G.hk.below hb) k hki hk1 hk5 i ha hi hne
theorem Q8 (E : Env w0 t r ps C L) (G : Gv w0 kA km kc ks gv A c ls B d ss) {k : Int} (hop : Ut op k) (hn : (Zj ks a k).2 = false) : Both w0 t r kA km kc gv op a A c ls B d ss := by
 refine ZH (ls, ss, false) (by first | exact G.hl | (rw [List.length_set]; exact G.hl)) (fun w hb => ZC kA km kc gv op a A c ls B d ss (G.hA.below hb) (G.hB.below hb) G.hm G.hl (ls, ss, false) (fun W b lo LV SV h1 h2 h3 => Ze2 h3 hop ks ((G.hk.below hb).below h1) hn)) (fun w hb => ?_)
 have hk : Zv op = k ∧ 1 ≤ k ∧ k ≤ 5 := by
  rcases hop with ⟨rfl, rfl⟩ | ⟨rfl, rfl⟩ | ⟨rfl, rfl⟩ | ⟨rfl, rfl⟩ | ⟨rfl, rfl⟩ | ⟨rfl, rfl⟩ | ⟨rfl, rfl⟩ | ⟨rfl, rfl⟩ | ⟨rfl, rfl⟩ <;> exact ⟨by kernel_rfl, by omega, by omega⟩
 exact KU E G hk.1 hk.2.1 hk.2.2 hn w hb
theorem Ze6 (E : Env w0 t r ps C L) (G : Gv w0 kA km kc ks gv A c ls B d ss) : Both w0 t r kA km kc gv 45 a A c ls B d ss := by
 refine ZH (ls, ss, false) (by first | exact G.hl | (rw [List.length_set]; exact G.hl)) (fun w hb => ZC kA km kc gv 45 a A c ls B d ss (G.hA.below hb) (G.hB.below hb) G.hm G.hl (ls, ss, false) (fun W b lo LV SV h1 h2 h3 => ?_)) (fun w hb => ?_)
 · by_cases h0 : a = 0
   · subst h0
     exact XI h3 (by unfold NoA; omega) (R := (ss, false)) (kY h3 (fun k _ _ => by omega))
   · exact GQ h3 (by unfold NoA; omega) h0
 · cases hn : (Zj ks a 4).2 with
   | false => exact KU E G (k := 4) (by kernel_rfl) (by omega) (by omega) hn w hb
   | true =>
     obtain ⟨i, hi, ha, hkk, _⟩ := Qb hn
     exact KrJ.ZK (Zx E hb) kA km kc gv 45 a A c ls B d ss (G.hA.below hb) (G.hB.below hb) G.hd G.hd2 G.hm G.hl ks (G.hk.below hb) 4 (by kernel_rfl) (by omega) (by omega) i ha hi hkk (ss, true) (Nat.le_trans G.hm (by omega)) (fun W b h1 h2 h3 => KrI.zk6 (s := (ss, false)) h3 _ _ _ _ _ (G.hkl _ (List.getElem_mem _)).1)
theorem Zm2 (E : Env w0 t r ps C L) (G : Gv w0 kA km kc ks gv A c ls B d ss) : Both w0 t r kA km kc gv 1 a A c ls B d ss := by
 cases hn : (Zj ks a 1).2 with
 | false => exact Q8 E G (k := 1) (by unfold Ut; omega) hn
 | true =>
 obtain ⟨g', hTr⟩ := Qw E
 obtain ⟨lo1, g1, mb, n, TA, cc, f, hTa, hTot⟩ := E.ta
 have hTb := Yw E.good hTa
 obtain ⟨i, hi, ha, hkk, hci⟩ := Qb hn
 have hx := G.hkl _ (List.getElem_mem hi)
 have hxi := hci
 generalize hz : ks[i] = z at *
 refine ZH (ls, ((ss ++ [[73]], true)).1, ((ss ++ [[73]], true)).2) (by first | exact G.hl | (rw [List.length_set]; exact G.hl)) (fun w hb => ZC kA km kc gv 1 a A c ls B d ss (G.hA.below hb) (G.hB.below hb) G.hm G.hl (ls, ((ss ++ [[73]], true)).1, ((ss ++ [[73]], true)).2) (fun W b lo LV SV h1 h2 h3 => ?_)) (fun w hb => ?_)
 · have hbW := hb.trans (h1.mono hb.size)
   have hloW := Nat.le_trans hb.size h2
   have X := hTb lo W hbW hloW
   have hk := (G.hk.below hb).below h1
   exact KV h3 G.hm2 (.inl ⟨rfl, rfl, rfl⟩) ks hk hn
 · rw [Qx (R := (ss ++ [[73]], true)) (S := zC [73] (ss, false)) (QE [73])]
   refine KrJ.ZK (Zx E hb) kA km kc gv 1 a A c ls B d ss (G.hA.below hb) (G.hB.below hb) G.hd G.hd2 G.hm G.hl ks (G.hk.below hb) 1 (by kernel_rfl) (by omega) (by omega) i ha hi (by rw [hz]; exact hkk) (zC [73] (ss, false)) (Nat.le_trans (G.few.push (d := [73]) (by simp)).1 (by omega)) (fun W b h1 h2 h3 => ?_)
   rw [hz]
   have hbW := hb.trans (h1.mono hb.size)
   have X := hTr W hbW
   have hlb : w0.heap.size ≤ b := Nat.le_trans hb.size h2
   exact KrD.zu6 (s := (ss, false)) h3 (G.few.mono (by omega)) _ _ _ _ _ hx.1
theorem Zm1 (E : Env w0 t r ps C L) (G : Gv w0 kA km kc ks gv A c ls B d ss) : Both w0 t r kA km kc gv 2 a A c ls B d ss := by
 cases hn : (Zj ks a 2).2 with
 | false => exact Q8 E G (k := 2) (by unfold Ut; omega) hn
 | true =>
 obtain ⟨g', hTr⟩ := Qw E
 obtain ⟨lo1, g1, mb, n, TA, cc, f, hTa, hTot⟩ := E.ta
 have hTb := Yw E.good hTa
 obtain ⟨i, hi, ha, hkk, hci⟩ := Qb hn
 have hx := G.hkl _ (List.getElem_mem hi)
 have hxi := hci
 generalize hz : ks[i] = z at *
 refine ZH (ls, ((ss ++ [[83]], true)).1, ((ss ++ [[83]], true)).2) (by first | exact G.hl | (rw [List.length_set]; exact G.hl)) (fun w hb => ZC kA km kc gv 2 a A c ls B d ss (G.hA.below hb) (G.hB.below hb) G.hm G.hl (ls, ((ss ++ [[83]], true)).1, ((ss ++ [[83]], true)).2) (fun W b lo LV SV h1 h2 h3 => ?_)) (fun w hb => ?_)
 · have hbW := hb.trans (h1.mono hb.size)
   have hloW := Nat.le_trans hb.size h2
   have X := hTb lo W hbW hloW
   have hk := (G.hk.below hb).below h1
   exact KV h3 G.hm2 (.inr ⟨rfl, rfl, rfl⟩) ks hk hn
 · rw [Qx (R := (ss ++ [[83]], true)) (S := zC [83] (ss, false)) (QE [83])]
   refine KrJ.ZK (Zx E hb) kA km kc gv 2 a A c ls B d ss (G.hA.below hb) (G.hB.below hb) G.hd G.hd2 G.hm G.hl ks (G.hk.below hb) 2 (by kernel_rfl) (by omega) (by omega) i ha hi (by rw [hz]; exact hkk) (zC [83] (ss, false)) (Nat.le_trans (G.few.push (d := [83]) (by simp)).1 (by omega)) (fun W b h1 h2 h3 => ?_)
   rw [hz]
   have hbW := hb.trans (h1.mono hb.size)
   have X := hTr W hbW
   have hlb : w0.heap.size ≤ b := Nat.le_trans hb.size h2
   exact KrD.zu5 (s := (ss, false)) h3 (G.few.mono (by omega)) _ _ _ _ _ hx.1
theorem Zf4 (E : Env w0 t r ps C L) (G : Gv w0 kA km kc ks gv A c ls B d ss) : Both w0 t r kA km kc gv 25 a A c ls B d ss := by
 cases hn : (Zj ks a 3).2 with
 | false => exact Q8 E G (k := 3) (by unfold Ut; omega) hn
 | true =>
 obtain ⟨g', hTr⟩ := Qw E
 obtain ⟨lo1, g1, mb, n, TA, cc, f, hTa, hTot⟩ := E.ta
 have hTb := Yw E.good hTa
 obtain ⟨i, hi, ha, hkk, hci⟩ := Qb hn
 have hx := G.hkl _ (List.getElem_mem hi)
 have hxi := hci
 generalize hz : ks[i] = z at *
 refine ZH (ls, (newP (mk ps) z.s ss).1, (newP (mk ps) z.s ss).2) (by first | exact G.hl | (rw [List.length_set]; exact G.hl)) (fun w hb => ZC kA km kc gv 25 a A c ls B d ss (G.hA.below hb) (G.hB.below hb) G.hm G.hl (ls, (newP (mk ps) z.s ss).1, (newP (mk ps) z.s ss).2) (fun W b lo LV SV h1 h2 h3 => ?_)) (fun w hb => ?_)
 · have hbW := hb.trans (h1.mono hb.size)
   have hloW := Nat.le_trans hb.size h2
   have X := hTb lo W hbW hloW
   have hk := (G.hk.below hb).below h1
   exact YZ h3 (by omega) ks hk hn (fun W2 hb2 => by rw [hci]; exact zg7 (hTb lo W2 (hbW.trans (hb2.mono hbW.size)) hloW) (h3.ext hb2) G.hm2 z.s (Nat.le_trans hx.1 (by omega)))
 · rw [Qx (R := newP (mk ps) z.s ss) (S := zC z.s (zL ((zq z.s).2 && (mk ps).has (zq z.s).1) (ss, false))) (Zm8 _ _ ss (zj3 _ _))]
   refine KrJ.ZK (Zx E hb) kA km kc gv 25 a A c ls B d ss (G.hA.below hb) (G.hB.below hb) G.hd G.hd2 G.hm G.hl ks (G.hk.below hb) 3 (by kernel_rfl) (by omega) (by omega) i ha hi (by rw [hz]; exact hkk) (zC z.s (zL ((zq z.s).2 && (mk ps).has (zq z.s).1) (ss, false))) (Nat.le_trans (((G.few.need _).push hx.1)).1 (by omega)) (fun W b h1 h2 h3 => ?_)
   rw [hz]
   have hbW := hb.trans (h1.mono hb.size)
   have X := hTr W hbW
   have hlb : w0.heap.size ≤ b := Nat.le_trans hb.size h2
   exact KrD.zl3 (s := (ss, false)) h3 (G.few.mono (by omega)) _ _ _ _ _ hx.1 X hlb
theorem Zf1 (E : Env w0 t r ps C L) (G : Gv w0 kA km kc ks gv A c ls B d ss) : Both w0 t r kA km kc gv 28 a A c ls B d ss := by
 cases hn : (Zj ks a 3).2 with
 | false => exact Q8 E G (k := 3) (by unfold Ut; omega) hn
 | true =>
 obtain ⟨g', hTr⟩ := Qw E
 obtain ⟨lo1, g1, mb, n, TA, cc, f, hTa, hTot⟩ := E.ta
 have hTb := Yw E.good hTa
 obtain ⟨i, hi, ha, hkk, hci⟩ := Qb hn
 have hx := G.hkl _ (List.getElem_mem hi)
 have hxi := hci
 generalize hz : ks[i] = z at *
 refine ZH (ls, (Xt (mk ps) z.s ss).1, (Xt (mk ps) z.s ss).2) (by first | exact G.hl | (rw [List.length_set]; exact G.hl)) (fun w hb => ZC kA km kc gv 28 a A c ls B d ss (G.hA.below hb) (G.hB.below hb) G.hm G.hl (ls, (Xt (mk ps) z.s ss).1, (Xt (mk ps) z.s ss).2) (fun W b lo LV SV h1 h2 h3 => ?_)) (fun w hb => ?_)
 · have hbW := hb.trans (h1.mono hb.size)
   have hloW := Nat.le_trans hb.size h2
   have X := hTb lo W hbW hloW
   have hk := (G.hk.below hb).below h1
   exact YZ h3 (by omega) ks hk hn (fun W2 hb2 => by rw [hci]; exact zg8 (hTb lo W2 (hbW.trans (hb2.mono hbW.size)) hloW) (h3.ext hb2) G.hm2 G.sl2 z.s (Nat.le_trans hx.1 (by omega)))
 · rw [Qx (R := Xt (mk ps) z.s ss) (S := zC z.s (zK [73] (zL ((zM z.s).2 == 0 && (mk ps).known z.s) (ss, false)))) (Zn1 _ _ ss)]
   refine KrJ.ZK (Zx E hb) kA km kc gv 28 a A c ls B d ss (G.hA.below hb) (G.hB.below hb) G.hd G.hd2 G.hm G.hl ks (G.hk.below hb) 3 (by kernel_rfl) (by omega) (by omega) i ha hi (by rw [hz]; exact hkk) (zC z.s (zK [73] (zL ((zM z.s).2 == 0 && (mk ps).known z.s) (ss, false)))) (Nat.le_trans ((((G.few.need _).want [73]).push hx.1)).1 (by omega)) (fun W b h1 h2 h3 => ?_)
   rw [hz]
   have hbW := hb.trans (h1.mono hb.size)
   have X := hTr W hbW
   have hlb : w0.heap.size ≤ b := Nat.le_trans hb.size h2
   exact KrI.zl0 (s := (ss, false)) h3 (G.few.mono (by omega)) _ _ _ _ _ hx.1 X hlb
theorem Ze9 (E : Env w0 t r ps C L) (G : Gv w0 kA km kc ks gv A c ls B d ss) : Both w0 t r kA km kc gv 38 a A c ls B d ss := by
 cases hn : (Zj ks a 3).2 with
 | false => exact Q8 E G (k := 3) (by unfold Ut; omega) hn
 | true =>
 obtain ⟨g', hTr⟩ := Qw E
 obtain ⟨lo1, g1, mb, n, TA, cc, f, hTa, hTot⟩ := E.ta
 have hTb := Yw E.good hTa
 obtain ⟨i, hi, ha, hkk, hci⟩ := Qb hn
 have hx := G.hkl _ (List.getElem_mem hi)
 have hxi := hci
 generalize hz : ks[i] = z at *
 refine ZH (ls, (Qd (mk ps) z.s z.s ss).1, (Qd (mk ps) z.s z.s ss).2) (by first | exact G.hl | (rw [List.length_set]; exact G.hl)) (fun w hb => ZC kA km kc gv 38 a A c ls B d ss (G.hA.below hb) (G.hB.below hb) G.hm G.hl (ls, (Qd (mk ps) z.s z.s ss).1, (Qd (mk ps) z.s z.s ss).2) (fun W b lo LV SV h1 h2 h3 => ?_)) (fun w hb => ?_)
 · have hbW := hb.trans (h1.mono hb.size)
   have hloW := Nat.le_trans hb.size h2
   have X := hTb lo W hbW hloW
   have hk := (G.hk.below hb).below h1
   exact YZ h3 (by omega) ks hk hn (fun W2 hb2 => by rw [hci]; exact zn1 (hTb lo W2 (hbW.trans (hb2.mono hbW.size)) hloW) (h3.ext hb2) G.hm2 G.sl2 z.s (Nat.le_trans hx.1 (by omega)))
 · rw [Qx (R := Qd (mk ps) z.s z.s ss) (S := zC z.s (ZM (zL ((mk ps).known z.s && Zr z.s) (ss, false)))) (zg4 _ _ _ ss)]
   refine KrJ.ZK (Zx E hb) kA km kc gv 38 a A c ls B d ss (G.hA.below hb) (G.hB.below hb) G.hd G.hd2 G.hm G.hl ks (G.hk.below hb) 3 (by kernel_rfl) (by omega) (by omega) i ha hi (by rw [hz]; exact hkk) (zC z.s (ZM (zL ((mk ps).known z.s && Zr z.s) (ss, false)))) (Nat.le_trans (((G.few.need _).thing.push hx.1)).1 (by omega)) (fun W b h1 h2 h3 => ?_)
   rw [hz]
   have hbW := hb.trans (h1.mono hb.size)
   have X := hTr W hbW
   have hlb : w0.heap.size ≤ b := Nat.le_trans hb.size h2
   exact KrD.zk8 (s := (ss, false)) h3 (G.few.mono (by omega)) _ _ _ _ _ hx.1 X hlb
theorem Ze8 (E : Env w0 t r ps C L) (G : Gv w0 kA km kc ks gv A c ls B d ss) : Both w0 t r kA km kc gv 39 a A c ls B d ss := by
 cases hn : (Zj ks a 3).2 with
 | false => exact Q8 E G (k := 3) (by unfold Ut; omega) hn
 | true =>
 obtain ⟨g', hTr⟩ := Qw E
 obtain ⟨lo1, g1, mb, n, TA, cc, f, hTa, hTot⟩ := E.ta
 have hTb := Yw E.good hTa
 obtain ⟨i, hi, ha, hkk, hci⟩ := Qb hn
 have hx := G.hkl _ (List.getElem_mem hi)
 have hxi := hci
 generalize hz : ks[i] = z at *
 refine ZH (ls, (Qd (mk ps) z.s tB ss).1, (Qd (mk ps) z.s tB ss).2) (by first | exact G.hl | (rw [List.length_set]; exact G.hl)) (fun w hb => ZC kA km kc gv 39 a A c ls B d ss (G.hA.below hb) (G.hB.below hb) G.hm G.hl (ls, (Qd (mk ps) z.s tB ss).1, (Qd (mk ps) z.s tB ss).2) (fun W b lo LV SV h1 h2 h3 => ?_)) (fun w hb => ?_)
 · have hbW := hb.trans (h1.mono hb.size)
   have hloW := Nat.le_trans hb.size h2
   have X := hTb lo W hbW hloW
   have hk := (G.hk.below hb).below h1
   exact YZ h3 (by omega) ks hk hn (fun W2 hb2 => by rw [hci]; exact zn0 (hTb lo W2 (hbW.trans (hb2.mono hbW.size)) hloW) (h3.ext hb2) G.hm2 G.sl2 z.s (Nat.le_trans hx.1 (by omega)))
 · rw [Qx (R := Qd (mk ps) z.s tB ss) (S := zC [66] (ZM (zL ((mk ps).known z.s && Zr z.s) (ss, false)))) (zg4 _ _ _ ss)]
   refine KrJ.ZK (Zx E hb) kA km kc gv 39 a A c ls B d ss (G.hA.below hb) (G.hB.below hb) G.hd G.hd2 G.hm G.hl ks (G.hk.below hb) 3 (by kernel_rfl) (by omega) (by omega) i ha hi (by rw [hz]; exact hkk) (zC [66] (ZM (zL ((mk ps).known z.s && Zr z.s) (ss, false)))) (Nat.le_trans (((G.few.need _).thing.push (d := [66]) (by simp))).1 (by omega)) (fun W b h1 h2 h3 => ?_)
   rw [hz]
   have hbW := hb.trans (h1.mono hb.size)
   have X := hTr W hbW
   have hlb : w0.heap.size ≤ b := Nat.le_trans hb.size h2
   exact KrD.zk7 (s := (ss, false)) h3 (G.few.mono (by omega)) _ _ _ _ _ hx.1 X hlb
theorem Zf3 (E : Env w0 t r ps C L) (G : Gv w0 kA km kc ks gv A c ls B d ss) : Both w0 t r kA km kc gv 26 a A c ls B d ss := by
 cases hn : (Zj ks a 4).2 with
 | false => exact Q8 E G (k := 4) (by unfold Ut; omega) hn
 | true =>
 obtain ⟨g', hTr⟩ := Qw E
 obtain ⟨lo1, g1, mb, n, TA, cc, f, hTa, hTot⟩ := E.ta
 have hTb := Yw E.good hTa
 obtain ⟨i, hi, ha, hkk, hci⟩ := Qb hn
 have hx := G.hkl _ (List.getElem_mem hi)
 have hxi := hci
 generalize hz : ks[i] = z at *
 refine ZH (ls, (Jq (mk ps) C z ss).1, (Jq (mk ps) C z ss).2) (by first | exact G.hl | (rw [List.length_set]; exact G.hl)) (fun w hb => ZC kA km kc gv 26 a A c ls B d ss (G.hA.below hb) (G.hB.below hb) G.hm G.hl (ls, (Jq (mk ps) C z ss).1, (Jq (mk ps) C z ss).2) (fun W b lo LV SV h1 h2 h3 => ?_)) (fun w hb => ?_)
 · have hbW := hb.trans (h1.mono hb.size)
   have hloW := Nat.le_trans hb.size h2
   have X := hTb lo W hbW hloW
   have hk := (G.hk.below hb).below h1
   exact KW h3 (by omega) ks hk hn (fun W2 hb2 => by rw [hci]; exact KndX.GJ hTa hTot (hTb lo W2 (hbW.trans (hb2.mono hbW.size)) hloW) (hbW.trans (hb2.mono hbW.size)) hloW (h3.ext hb2) G.hm2 G.hsl z ⟨hx.1, hx.2.2⟩)
 · rw [Qx (R := Jq (mk ps) C z ss) (S := zC z.u (Zd (mk ps) (ofT z.s) (zL (KrF.fdB (fun q => (hav L q).1) z.s z.t z.u) (ss, false)))) (Zg7 _ _ _ _ ss (zu0 E.hv z))]
   refine KrJ.ZK (Zx E hb) kA km kc gv 26 a A c ls B d ss (G.hA.below hb) (G.hB.below hb) G.hd G.hd2 G.hm G.hl ks (G.hk.below hb) 4 (by kernel_rfl) (by omega) (by omega) i ha hi (by rw [hz]; exact hkk) (zC z.u (Zd (mk ps) (ofT z.s) (zL (KrF.fdB (fun q => (hav L q).1) z.s z.t z.u) (ss, false)))) (Nat.le_trans ((((G.few.need _).fits (mk ps) _).push hx.2.2)).1 (by omega)) (fun W b h1 h2 h3 => ?_)
   rw [hz]
   have hbW := hb.trans (h1.mono hb.size)
   have X := hTr W hbW
   have hlb : w0.heap.size ≤ b := Nat.le_trans hb.size h2
   exact KrF.zl2 (F := fun q => (hav L q).1) (s := (ss, false)) h3 (G.few.mono (by omega)) _ _ _ _ _ hx.1 X hlb (fun W2 hb2 => zf5 E _ _ W2 (hbW.trans hb2))
theorem Zf2 (E : Env w0 t r ps C L) (G : Gv w0 kA km kc ks gv A c ls B d ss) : Both w0 t r kA km kc gv 27 a A c ls B d ss := by
 cases hn : (Zj ks a 4).2 with
 | false => exact Q8 E G (k := 4) (by unfold Ut; omega) hn
 | true =>
 obtain ⟨g', hTr⟩ := Qw E
 obtain ⟨lo1, g1, mb, n, TA, cc, f, hTa, hTot⟩ := E.ta
 have hTb := Yw E.good hTa
 obtain ⟨i, hi, ha, hkk, hci⟩ := Qb hn
 have hx := G.hkl _ (List.getElem_mem hi)
 have hxi := hci
 generalize hz : ks[i] = z at *
 refine ZH (ls, (Jj (mk ps) C z ss).1, (Jj (mk ps) C z ss).2) (by first | exact G.hl | (rw [List.length_set]; exact G.hl)) (fun w hb => ZC kA km kc gv 27 a A c ls B d ss (G.hA.below hb) (G.hB.below hb) G.hm G.hl (ls, (Jj (mk ps) C z ss).1, (Jj (mk ps) C z ss).2) (fun W b lo LV SV h1 h2 h3 => ?_)) (fun w hb => ?_)
 · have hbW := hb.trans (h1.mono hb.size)
   have hloW := Nat.le_trans hb.size h2
   have X := hTb lo W hbW hloW
   have hk := (G.hk.below hb).below h1
   exact KW h3 (by omega) ks hk hn (fun W2 hb2 => by rw [hci]; exact KndX.GI hTa hTot (hTb lo W2 (hbW.trans (hb2.mono hbW.size)) hloW) (hbW.trans (hb2.mono hbW.size)) hloW (h3.ext hb2) G.hm2 G.hsl z ⟨hx.1, hx.2.2⟩)
 · rw [Qx (R := Jj (mk ps) C z ss) (S := Zd (mk ps) (ofT z.s) (Zd (mk ps) z.u (zL (KrF.fdB (fun q => (hav L q).1) z.s z.t z.u) (ss, false)))) (Zg5 _ _ _ _ ss (zu0 E.hv z))]
   refine KrJ.ZK (Zx E hb) kA km kc gv 27 a A c ls B d ss (G.hA.below hb) (G.hB.below hb) G.hd G.hd2 G.hm G.hl ks (G.hk.below hb) 4 (by kernel_rfl) (by omega) (by omega) i ha hi (by rw [hz]; exact hkk) (Zd (mk ps) (ofT z.s) (Zd (mk ps) z.u (zL (KrF.fdB (fun q => (hav L q).1) z.s z.t z.u) (ss, false)))) (Nat.le_trans ((((G.few.need _).fits (mk ps) _).fits (mk ps) _)).1 (by omega)) (fun W b h1 h2 h3 => ?_)
   rw [hz]
   have hbW := hb.trans (h1.mono hb.size)
   have X := hTr W hbW
   have hlb : w0.heap.size ≤ b := Nat.le_trans hb.size h2
   exact KrF.zl1 (F := fun q => (hav L q).1) (s := (ss, false)) h3 (G.few.mono (by omega)) _ _ _ _ _ hx.1 hx.2.2 X hlb (fun W2 hb2 => zf5 E _ _ W2 (hbW.trans hb2))
theorem Zf0 (E : Env w0 t r ps C L) (G : Gv w0 kA km kc ks gv A c ls B d ss) : Both w0 t r kA km kc gv 32 a A c ls B d ss := by
 cases hn : (Zj ks a 5).2 with
 | false => exact Q8 E G (k := 5) (by unfold Ut; omega) hn
 | true =>
 obtain ⟨g', hTr⟩ := Qw E
 obtain ⟨lo1, g1, mb, n, TA, cc, f, hTa, hTot⟩ := E.ta
 have hTb := Yw E.good hTa
 obtain ⟨i, hi, ha, hkk, hci⟩ := Qb hn
 have hx := G.hkl _ (List.getElem_mem hi)
 have hxi := hci
 generalize hz : ks[i] = z at *
 refine ZH (ls, (Ju (mk ps) C z ss).1, (Ju (mk ps) C z ss).2) (by first | exact G.hl | (rw [List.length_set]; exact G.hl)) (fun w hb => ZC kA km kc gv 32 a A c ls B d ss (G.hA.below hb) (G.hB.below hb) G.hm G.hl (ls, (Ju (mk ps) C z ss).1, (Ju (mk ps) C z ss).2) (fun W b lo LV SV h1 h2 h3 => ?_)) (fun w hb => ?_)
 · have hbW := hb.trans (h1.mono hb.size)
   have hloW := Nat.le_trans hb.size h2
   have X := hTb lo W hbW hloW
   have hk := (G.hk.below hb).below h1
   exact Ze4 h3 ks hk hn (fun W2 hb2 => by rw [hci]; exact KndY.zv6 hTa hTot (hTb lo W2 (hbW.trans (hb2.mono hbW.size)) hloW) (hbW.trans (hb2.mono hbW.size)) hloW (h3.ext hb2) G.hm2 G.hsl z ⟨hx.1, hx.2.2⟩)
 · rw [Qx (R := Ju (mk ps) C z ss) (S := jk (zy z.u).1 (Zd (mk ps) (ofT z.s) (ZV (mk ps) (zy z.u).2.1 (zL (KrH.mtB (fun q => (hav L q).2) z.s z.t z.u) (ss, false))))) (Zg8 _ _ _ _ ss (Zl4 E.hv z))]
   refine KrJ.ZK (Zx E hb) kA km kc gv 32 a A c ls B d ss (G.hA.below hb) (G.hB.below hb) G.hd G.hd2 G.hm G.hl ks (G.hk.below hb) 5 (by kernel_rfl) (by omega) (by omega) i ha hi (by rw [hz]; exact hkk) (jk (zy z.u).1 (Zd (mk ps) (ofT z.s) (ZV (mk ps) (zy z.u).2.1 (zL (KrH.mtB (fun q => (hav L q).2) z.s z.t z.u) (ss, false))))) (Nat.le_trans (zt8 (((KrH.Qr (G.few.need _) _).fits (mk ps) _)) (Nat.le_trans (KndY.JA z.u).2.1 hx.2.2)).1 (by omega)) (fun W b h1 h2 h3 => ?_)
   rw [hz]
   have hbW := hb.trans (h1.mono hb.size)
   have X := hTr W hbW
   have hlb : w0.heap.size ≤ b := Nat.le_trans hb.size h2
   exact KrH.zk9 (F := fun q => (hav L q).2) (s := (ss, false)) h3 (G.few.mono (by omega)) _ _ _ _ _ hx.1 hx.2.2 X hlb (fun W2 hb2 => KT E _ _ W2 (hbW.trans hb2))
theorem zw1 (E : Env w0 t r ps C L) (G : Gv w0 kA km kc ks gv A c ls B d ss) (hll : ∀ x ∈ ls, x.length ≤ 140737488351232) : Both w0 t r kA km kc gv op a A c ls B d ss := by
 by_cases hin : 0 ≤ op ∧ op < 46
 · obtain ⟨k, rfl⟩ : ∃ k : Nat, op = (k : Int) := ⟨op.toNat, by omega⟩
   have hk : k < 46 := by omega
   clear hin
   match k, hk with
   | 0, _ =>
     by_cases h0 : a = 0
     · subst h0; exact Zg (R := (ss, true)) (S := (ss, false)) E G (by unfold NoA; omega) (by kernel_rfl) (⟨rfl, fun _ => rfl⟩) ((G.few).mono (by omega)) (fun _ _ _ _ _ _ _ h3 => Vr h3) (fun _ _ _ _ _ h3 => KrB.Vr h3 (G.few.mono (by omega)) gv)
     · exact zU E G (by unfold NoA; omega) (by kernel_rfl) h0
   | 1, _ => exact Zm2 E G
   | 2, _ => exact Zm1 E G
   | 3, _ =>
     by_cases h0 : a = 0
     · subst h0; exact Zg (R := tlP (mk ps) ss [] [[66]]) (S := zC [66] (ss, false)) E G (by unfold NoA; omega) (by kernel_rfl) (Zw2 _ [] ss [66]) ((G.few.push (d := [66]) (by simp)).mono (by omega)) (fun _ _ _ _ _ _ X h3 => qj (op := 3) rfl X h3 G.hm2 G.sl2) (fun _ _ _ _ _ h3 => KrB.zz4 h3 (G.few.mono (by omega)) gv)
     · exact zU E G (by unfold NoA; omega) (by kernel_rfl) h0
   | 4, _ =>
     by_cases h0 : a = 0
     · subst h0; exact Zg (R := tlP (mk ps) ss [] [[66]]) (S := zC [66] (ss, false)) E G (by unfold NoA; omega) (by kernel_rfl) (Zw2 _ [] ss [66]) ((G.few.push (d := [66]) (by simp)).mono (by omega)) (fun _ _ _ _ _ _ X h3 => qj (op := 4) rfl X h3 G.hm2 G.sl2) (fun _ _ _ _ _ h3 => KrB.zz3 h3 (G.few.mono (by omega)) gv)
     · exact zU E G (by unfold NoA; omega) (by kernel_rfl) h0
   | 5, _ =>
     by_cases h0 : a = 0
     · subst h0; exact Zg (R := (ss ++ [[78]], true)) (S := zC [78] (ss, false)) E G (by unfold NoA; omega) (by kernel_rfl) (QE [78]) ((G.few.push (d := [78]) (by simp)).mono (by omega)) (fun _ _ _ _ _ _ _ h3 => Vq h3 G.hm2) (fun _ _ _ _ _ h3 => KrB.Vq h3 (G.few.mono (by omega)) gv)
     · exact zU E G (by unfold NoA; omega) (by kernel_rfl) h0
   | 6, _ => exact zm1 E G hll
   | 7, _ => exact GU E G
   | 8, _ =>
     by_cases h0 : a = 0
     · subst h0; exact Zg (R := ((zi ss).2.1, (zi ss).2.2)) (S := qb (ss, false)) E G (by unfold NoA; omega) (by kernel_rfl) (Zm7 ss) ((G.few.pop).mono (by omega)) (fun _ _ _ _ _ _ _ h3 => Vp h3 G.hm2) (fun _ _ _ _ _ h3 => KrB.Vp h3 (G.few.mono (by omega)) gv)
     · exact zU E G (by unfold NoA; omega) (by kernel_rfl) h0
   | 9, _ =>
     by_cases h0 : a = 0
     · subst h0; exact Zg (R := GN ss) (S := zC (ZL (ss, false)) (zC (ZL (ss, false)) (qb (ss, false)))) E G (by unfold NoA; omega) (by kernel_rfl) (Zn0 ss) ((((G.few.pop.push G.few.top).push G.few.top)).mono (by omega)) (fun _ _ _ _ _ _ _ h3 => Vo h3 G.hm2) (fun _ _ _ _ _ h3 => KrB.Vo h3 (G.few.mono (by omega)) gv)
     · exact zU E G (by unfold NoA; omega) (by kernel_rfl) h0
   | 10, _ =>
     by_cases h0 : a = 0
     · subst h0; exact Zg (R := tlP (mk ps) ss [[73], [73]] [[73]]) (S := zC [73] (zK [73] (zK [73] ((ss, false))))) E G (by unfold NoA; omega) (by kernel_rfl) (by have h := Zw2 (mk ps) [[73], [73]] ss [73]; simpa only [ZV, List.foldr_cons, List.foldr_nil, QI (mk ps), jd (mk ps)] using h) (((((G.few.want [73]).want [73]).push (d := [73]) (by simp))).mono (by omega)) (fun _ _ _ _ _ _ X h3 => qj (op := 10) rfl X h3 G.hm2 G.sl2) (fun _ _ _ _ _ h3 => KrB.zq0 h3 (G.few.mono (by omega)) gv)
     · exact zU E G (by unfold NoA; omega) (by kernel_rfl) h0
   | 11, _ =>
     by_cases h0 : a = 0
     · subst h0; exact Zg (R := tlP (mk ps) ss [[73], [73]] [[73]]) (S := zC [73] (zK [73] (zK [73] ((ss, false))))) E G (by unfold NoA; omega) (by kernel_rfl) (by have h := Zw2 (mk ps) [[73], [73]] ss [73]; simpa only [ZV, List.foldr_cons, List.foldr_nil, QI (mk ps), jd (mk ps)] using h) (((((G.few.want [73]).want [73]).push (d := [73]) (by simp))).mono (by omega)) (fun _ _ _ _ _ _ X h3 => qj (op := 11) rfl X h3 G.hm2 G.sl2) (fun _ _ _ _ _ h3 => KrB.zp9 h3 (G.few.mono (by omega)) gv)
     · exact zU E G (by unfold NoA; omega) (by kernel_rfl) h0
   | 12, _ =>
     by_cases h0 : a = 0
     · subst h0; exact Zg (R := tlP (mk ps) ss [[73], [73]] [[73]]) (S := zC [73] (zK [73] (zK [73] ((ss, false))))) E G (by unfold NoA; omega) (by kernel_rfl) (by have h := Zw2 (mk ps) [[73], [73]] ss [73]; simpa only [ZV, List.foldr_cons, List.foldr_nil, QI (mk ps), jd (mk ps)] using h) (((((G.few.want [73]).want [73]).push (d := [73]) (by simp))).mono (by omega)) (fun _ _ _ _ _ _ X h3 => qj (op := 12) rfl X h3 G.hm2 G.sl2) (fun _ _ _ _ _ h3 => KrB.zp8 h3 (G.few.mono (by omega)) gv)
     · exact zU E G (by unfold NoA; omega) (by kernel_rfl) h0
   | 13, _ =>
     by_cases h0 : a = 0
     · subst h0; exact Zg (R := tlP (mk ps) ss [[73], [73]] [[73]]) (S := zC [73] (zK [73] (zK [73] ((ss, false))))) E G (by unfold NoA; omega) (by kernel_rfl) (by have h := Zw2 (mk ps) [[73], [73]] ss [73]; simpa only [ZV, List.foldr_cons, List.foldr_nil, QI (mk ps), jd (mk ps)] using h) (((((G.few.want [73]).want [73]).push (d := [73]) (by simp))).mono (by omega)) (fun _ _ _ _ _ _ X h3 => qj (op := 13) rfl X h3 G.hm2 G.sl2) (fun _ _ _ _ _ h3 => KrB.zp7 h3 (G.few.mono (by omega)) gv)
     · exact zU E G (by unfold NoA; omega) (by kernel_rfl) h0
   | 14, _ =>
     by_cases h0 : a = 0
     · subst h0; exact Zg (R := tlP (mk ps) ss [[73], [73]] [[73]]) (S := zC [73] (zK [73] (zK [73] ((ss, false))))) E G (by unfold NoA; omega) (by kernel_rfl) (by have h := Zw2 (mk ps) [[73], [73]] ss [73]; simpa only [ZV, List.foldr_cons, List.foldr_nil, QI (mk ps), jd (mk ps)] using h) (((((G.few.want [73]).want [73]).push (d := [73]) (by simp))).mono (by omega)) (fun _ _ _ _ _ _ X h3 => qj (op := 14) rfl X h3 G.hm2 G.sl2) (fun _ _ _ _ _ h3 => KrB.zp6 h3 (G.few.mono (by omega)) gv)
     · exact zU E G (by unfold NoA; omega) (by kernel_rfl) h0
   | 15, _ =>
     by_cases h0 : a = 0
     · subst h0; exact Zg (R := tlP (mk ps) ss [[73]] [[73]]) (S := zC [73] (zK [73] ((ss, false)))) E G (by unfold NoA; omega) (by kernel_rfl) (by have h := Zw2 (mk ps) [[73]] ss [73]; simpa only [ZV, List.foldr_cons, List.foldr_nil, QI (mk ps), jd (mk ps)] using h) ((((G.few.want [73]).push (d := [73]) (by simp))).mono (by omega)) (fun _ _ _ _ _ _ X h3 => qj (op := 15) rfl X h3 G.hm2 G.sl2) (fun _ _ _ _ _ h3 => KrB.zp5 h3 (G.few.mono (by omega)) gv)
     · exact zU E G (by unfold NoA; omega) (by kernel_rfl) h0
   | 16, _ =>
     by_cases h0 : a = 0
     · subst h0; exact Zg (R := tlP (mk ps) ss [[66]] [[66]]) (S := zC [66] (zK [66] ((ss, false)))) E G (by unfold NoA; omega) (by kernel_rfl) (by have h := Zw2 (mk ps) [[66]] ss [66]; simpa only [ZV, List.foldr_cons, List.foldr_nil, QI (mk ps), jd (mk ps)] using h) ((((G.few.want [66]).push (d := [66]) (by simp))).mono (by omega)) (fun _ _ _ _ _ _ X h3 => qj (op := 16) rfl X h3 G.hm2 G.sl2) (fun _ _ _ _ _ h3 => KrB.zp4 h3 (G.few.mono (by omega)) gv)
     · exact zU E G (by unfold NoA; omega) (by kernel_rfl) h0
   | 17, _ =>
     by_cases h0 : a = 0
     · subst h0; exact Zg (R := tlP (mk ps) ss [[73], [73]] [[66]]) (S := zC [66] (zK [73] (zK [73] ((ss, false))))) E G (by unfold NoA; omega) (by kernel_rfl) (by have h := Zw2 (mk ps) [[73], [73]] ss [66]; simpa only [ZV, List.foldr_cons, List.foldr_nil, QI (mk ps), jd (mk ps)] using h) (((((G.few.want [73]).want [73]).push (d := [66]) (by simp))).mono (by omega)) (fun _ _ _ _ _ _ X h3 => qj (op := 17) rfl X h3 G.hm2 G.sl2) (fun _ _ _ _ _ h3 => KrB.zp3 h3 (G.few.mono (by omega)) gv)
     · exact zU E G (by unfold NoA; omega) (by kernel_rfl) h0
   | 18, _ =>
     by_cases h0 : a = 0
     · subst h0; exact Zg (R := tlP (mk ps) ss [[73], [73]] [[66]]) (S := zC [66] (zK [73] (zK [73] ((ss, false))))) E G (by unfold NoA; omega) (by kernel_rfl) (by have h := Zw2 (mk ps) [[73], [73]] ss [66]; simpa only [ZV, List.foldr_cons, List.foldr_nil, QI (mk ps), jd (mk ps)] using h) (((((G.few.want [73]).want [73]).push (d := [66]) (by simp))).mono (by omega)) (fun _ _ _ _ _ _ X h3 => qj (op := 18) rfl X h3 G.hm2 G.sl2) (fun _ _ _ _ _ h3 => KrB.zp2 h3 (G.few.mono (by omega)) gv)
     · exact zU E G (by unfold NoA; omega) (by kernel_rfl) h0
   | 19, _ =>
     by_cases h0 : a = 0
     · subst h0; exact Zg (R := tlP (mk ps) ss [[73], [73]] [[66]]) (S := zC [66] (zK [73] (zK [73] ((ss, false))))) E G (by unfold NoA; omega) (by kernel_rfl) (by have h := Zw2 (mk ps) [[73], [73]] ss [66]; simpa only [ZV, List.foldr_cons, List.foldr_nil, QI (mk ps), jd (mk ps)] using h) (((((G.few.want [73]).want [73]).push (d := [66]) (by simp))).mono (by omega)) (fun _ _ _ _ _ _ X h3 => qj (op := 19) rfl X h3 G.hm2 G.sl2) (fun _ _ _ _ _ h3 => KrB.zp1 h3 (G.few.mono (by omega)) gv)
     · exact zU E G (by unfold NoA; omega) (by kernel_rfl) h0
   | 20, _ =>
     by_cases h0 : a = 0
     · subst h0; exact Zg (R := tlP (mk ps) ss [[66], [66]] [[66]]) (S := zC [66] (zK [66] (zK [66] ((ss, false))))) E G (by unfold NoA; omega) (by kernel_rfl) (by have h := Zw2 (mk ps) [[66], [66]] ss [66]; simpa only [ZV, List.foldr_cons, List.foldr_nil, QI (mk ps), jd (mk ps)] using h) (((((G.few.want [66]).want [66]).push (d := [66]) (by simp))).mono (by omega)) (fun _ _ _ _ _ _ X h3 => qj (op := 20) rfl X h3 G.hm2 G.sl2) (fun _ _ _ _ _ h3 => KrB.zp0 h3 (G.few.mono (by omega)) gv)
     · exact zU E G (by unfold NoA; omega) (by kernel_rfl) h0
   | 21, _ =>
     by_cases h0 : a = 0
     · subst h0; exact Zg (R := zk4 ss) (S := zC [66] (ZM (ZM (ss, false)))) E G (by unfold NoA; omega) (by kernel_rfl) (Zm9 ss) (((G.few.thing.thing.push (d := [66]) (by simp))).mono (by omega)) (fun _ _ _ _ _ _ _ h3 => uK h3 G.hm2 G.sl2) (fun _ _ _ _ _ h3 => KrB.uK h3 (G.few.mono (by omega)) gv)
     · exact zU E G (by unfold NoA; omega) (by kernel_rfl) h0
   | 22, _ => exact Zf7 E G
   | 23, _ => exact Zf6 E G
   | 24, _ => exact Zf5 E G
   | 25, _ => exact Zf4 E G
   | 26, _ => exact Zf3 E G
   | 27, _ => exact Zf2 E G
   | 28, _ => exact Zf1 E G
   | 29, _ =>
     by_cases h0 : a = 0
     · subst h0; exact Zg (R := jg (mk ps) ss) (S := zC (zM (ZL (zK [73] (ss, false)))).1 (jQ (zK [73] (ss, false)))) E G (by unfold NoA; omega) (by kernel_rfl) (zx1 _ ss) ((((G.few.want [73]).arr.push (Nat.le_trans (Ua _) (G.few.want [73]).top))).mono (by omega)) (fun _ _ _ _ _ _ X h3 => Xg X h3 G.hm2 G.sl2) (fun _ _ _ _ _ h3 => KrG.zo6 gv (KrC.Zb6 h3 (G.few.mono (by omega)) gv))
     · exact zU E G (by unfold NoA; omega) (by kernel_rfl) h0
   | 30, _ =>
     by_cases h0 : a = 0
     · subst h0; exact Zg (R := Un (mk ps) ss) (S := zL ((mk ps).sub (ZL (ss, false)) (zM (ZL (zK [73] (qb (ss, false))))).1) (jQ (zK [73] (qb (ss, false))))) E G (by unfold NoA; omega) (by kernel_rfl) (zm6 _ ss) ((((G.few.pop.want [73]).arr.need _)).mono (by omega)) (fun _ _ _ _ _ _ X h3 => uJ X h3 G.hm2 G.sl2) (fun _ _ _ X hlb h3 => KrG.uJ gv (KrC.Zb5 X hlb h3 (G.few.mono (by omega)) gv))
     · exact zU E G (by unfold NoA; omega) (by kernel_rfl) h0
   | 31, _ =>
     by_cases h0 : a = 0
     · subst h0; exact Zg (R := xB ss) (S := zC [73] (jQ (ss, false))) E G (by unfold NoA; omega) (by kernel_rfl) (Zg9 ss) (((G.few.arr.push (d := [73]) (by simp))).mono (by omega)) (fun _ _ _ _ _ _ _ h3 => uI h3 G.hm2 G.sl2) (fun _ _ _ _ _ h3 => KrG.uI gv (KrB.Zb4 h3 (G.few.mono (by omega)) gv))
     · exact zU E G (by unfold NoA; omega) (by kernel_rfl) h0
   | 32, _ => exact Zf0 E G
   | 33, _ =>
     by_cases h0 : a = 0
     · subst h0; exact Zg (R := zx (mk ps) ss [gv]) (S := Zd (mk ps) gv (zL (!(gv == [86])) (ss, false))) E G (by unfold NoA; omega) (by kernel_rfl) (Zm6 _ gv ss) ((((G.few.need _).fits (mk ps) gv)).mono (by omega)) (fun _ _ _ _ _ _ X h3 => uH X h3 G.hm2 G.sl2 G.gl2) (fun _ _ _ X hlb h3 => KrG.uH gv (KrC.Zb3 X hlb h3 (G.few.mono (by omega)) gv G.hgl))
     · exact zU E G (by unfold NoA; omega) (by kernel_rfl) h0
   | 34, _ =>
     by_cases h0 : a = 0
     · subst h0; exact Zg (R := (ss, gv == [86])) (S := zL (gv == [86]) (ss, false)) E G (by unfold NoA; omega) (by kernel_rfl) (Zg4 gv ss) (((G.few.need _)).mono (by omega)) (fun _ _ _ _ _ _ _ h3 => uG h3) (fun _ _ _ _ _ h3 => KrG.uG gv (KrC.Zb2 h3 gv))
     · exact zU E G (by unfold NoA; omega) (by kernel_rfl) h0
   | 35, _ =>
     by_cases h0 : a = 0
     · subst h0; exact Zg (R := zx (mk ps) ss [tE]) (S := Zd (mk ps) [76, 69, 120, 99, 59] (ss, false)) E G (by unfold NoA; omega) (by kernel_rfl) (JN _ [tE] ss) (((G.few.fits (mk ps) _)).mono (by omega)) (fun _ _ _ _ _ _ X h3 => uF X h3 G.hm2 G.sl2) (fun _ _ _ X hlb h3 => KrG.uF gv (KrB.Zb1 X hlb h3 (G.few.mono (by omega)) gv))
     · exact zU E G (by unfold NoA; omega) (by kernel_rfl) h0
   | 36, _ =>
     by_cases h0 : a = 0
     · subst h0; exact Zg (R := thP ss) (S := ZM (ss, false)) E G (by unfold NoA; omega) (by kernel_rfl) (yB ss) ((G.few.thing).mono (by omega)) (fun _ _ _ _ _ _ _ h3 => uE h3 G.hm2 G.sl2) (fun _ _ _ _ _ h3 => KrG.uE gv (KrB.Zb0 h3 (G.few.mono (by omega)) gv))
     · exact zU E G (by unfold NoA; omega) (by kernel_rfl) h0
   | 37, _ =>
     by_cases h0 : a = 0
     · subst h0; exact Zg (R := thP ss) (S := ZM (ss, false)) E G (by unfold NoA; omega) (by kernel_rfl) (yB ss) ((G.few.thing).mono (by omega)) (fun _ _ _ _ _ _ _ h3 => uD h3 G.hm2 G.sl2) (fun _ _ _ _ _ h3 => KrG.uD gv (KrB.Za9 h3 (G.few.mono (by omega)) gv))
     · exact zU E G (by unfold NoA; omega) (by kernel_rfl) h0
   | 38, _ => exact Ze9 E G
   | 39, _ => exact Ze8 E G
   | 40, _ =>
     by_cases h0 : a = 0
     · subst h0; exact Zg (R := ((zi ss).2.1, prB (zi ss).1)) (S := zL (KrC.shown (ZL (ss, false))) (qb (ss, false))) E G (by unfold NoA; omega) (by kernel_rfl) (zx0 ss) (((G.few.pop.need _)).mono (by omega)) (fun _ _ _ _ _ _ _ h3 => uz h3 G.hm2) (fun _ _ _ _ _ h3 => KrG.uz gv (KrC.Za8 h3 (G.few.mono (by omega)) gv))
     · exact zU E G (by unfold NoA; omega) (by kernel_rfl) h0
   | 41, _ =>
     by_cases h0 : a = 0
     · subst h0; exact Zg (R := (ss ++ [[73]], true)) (S := zC [73] (ss, false)) E G (by unfold NoA; omega) (by kernel_rfl) (QE [73]) ((G.few.push (d := [73]) (by simp)).mono (by omega)) (fun _ _ _ _ _ _ _ h3 => uy h3 G.hm2) (fun _ _ _ _ _ h3 => KrB.uy h3 (G.few.mono (by omega)) gv)
     · exact zU E G (by unfold NoA; omega) (by kernel_rfl) h0
   | 42, _ =>
     by_cases h0 : a = 0
     · subst h0; exact Zg (R := tlP (mk ps) ss [[83], [83]] [[83]]) (S := zC [83] (Zd (mk ps) [83] (Zd (mk ps) [83] (ss, false)))) E G (by unfold NoA; omega) (by kernel_rfl) (Zw2 _ [[83], [83]] ss [83]) (((((G.few.fits (mk ps) _).fits (mk ps) _).push (d := [83]) (by simp))).mono (by omega)) (fun _ _ _ _ _ _ X h3 => uw X h3 G.hm2 G.sl2) (fun _ _ _ X hlb h3 => KrG.uw gv (KrB.Za7 X hlb h3 (G.few.mono (by omega)) gv))
     · exact zU E G (by unfold NoA; omega) (by kernel_rfl) h0
   | 43, _ =>
     by_cases h0 : a = 0
     · subst h0; exact Zg (R := tlP (mk ps) ss [[83]] [[73]]) (S := zC [73] (Zd (mk ps) [83] (ss, false))) E G (by unfold NoA; omega) (by kernel_rfl) (Zw2 _ [[83]] ss [73]) ((((G.few.fits (mk ps) _).push (d := [73]) (by simp))).mono (by omega)) (fun _ _ _ _ _ _ X h3 => uq X h3 G.hm2 G.sl2) (fun _ _ _ X hlb h3 => KrG.uq gv (KrB.Za6 X hlb h3 (G.few.mono (by omega)) gv))
     · exact zU E G (by unfold NoA; omega) (by kernel_rfl) h0
   | 44, _ =>
     by_cases h0 : a = 0
     · subst h0; exact Ze7 E G
     · exact zU E G (by unfold NoA; omega) (by kernel_rfl) h0
   | 45, _ => exact Ze6 E G
   | n + 46, h => exact absurd h (by omega)
 · exact zw0 E G hin
end
end KndF
end Go.Proofs.YtehainbhoflpnaaGreatDoor
