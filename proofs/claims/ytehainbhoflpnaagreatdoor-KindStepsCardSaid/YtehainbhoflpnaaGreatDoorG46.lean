/-
  Step of the program and Step of the document: the same, of any instruction and any frame (law 9's two tables).
-/
import Derived.Test.YtehainbhoflpnaaGreatDoorG34
import Derived.Test.YtehainbhoflpnaaGreatDoorG41
import Derived.Test.YtehainbhoflpnaaGreatDoorG42
import Derived.Test.YtehainbhoflpnaaGreatDoorG43
import Derived.Test.YtehainbhoflpnaaGreatDoorG44
import Derived.Test.YtehainbhoflpnaaGreatDoorG45
import Derived.Test.YtehainbhoflpnaaGreatDoorG33
import Derived.Test.YtehainbhoflpnaaGreatDoorG29
namespace Go.Proofs.YtehainbhoflpnaaGreatDoor
namespace KndF
open Go.RowKit Base BinM Stru DescM DescW DescX DescR DescS DescG DescP DescQ HierS HierT HierM HierC HierD HierN HierV HierR HierU HierY HierQ Kls KlsP KlsQ OpenK InsM InsA TabC TabM TabK TabP TabE TabB TabG TabH TabT TabU TabV TabX TabW TabF TabN TabO TabY TabR TabQ TabD TabL KndB KndM EfA KndS KndP KndQ KndR KndU KndV KndW KndZ KndD KndH
open KrB (RS rpop rtop rneed rpush rwant rfits rthing rarr Few GivesR)
open KrH (fitsL giveL)
open KrA (Sk TbR)
open KndX (getfP putfP)
open KndY (callP)

theorem bl_cls (s0 s1 f m0 m1 : Nat) : ∀ x ∈ KndB.BL s0 s1 f m0 m1, clsE x = 0 := by
  intro x hx
  simp only [KndB.BL, List.mem_cons, List.not_mem_nil, or_false] at hx
  rcases hx with rfl | rfl | rfl | rfl <;> kernel_rfl
theorem bl_names (s0 s1 f m0 m1 : Nat) : ∀ x ∈ KndB.BL s0 s1 f m0 m1, x.name.length ≤ 140737488351232 := by
  intro x hx
  simp only [KndB.BL, List.mem_cons, List.not_mem_nil, or_false] at hx
  rcases hx with rfl | rfl | rfl | rfl <;> (show (1 : Nat) ≤ _; omega)
/-- both tables, whatever they hold -/
structure Env (w : World) (t r : Nat) (ps : List P2) (C L : List ClsT) : Prop where
  ta : ∃ lo g mb n A c f, Ta lo w t g mb n A c (mk ps) C f ∧ Total C f
  good : GoodH (mk ps)
  hv : hav C = hav L
  rt : ∃ lo g A c, RT lo w r g A c ps L
  ups : Ups ps L
  can : HierQ.Can ps
theorem env_of {w : World} {t r : Nat} (h : Bases w t r) : ∃ ps C L, Env w t r ps C L := by
  obtain ⟨⟨lo, g, mb, n, A, c, C, f, s0, s1, ff, m0, m1, hTa, hTot, hbare, hwhy, _⟩, lo', g', A', c', u0, u1, uf, v0, v1, hRT⟩ := h
  have hp : pairs (KndB.BL s0 s1 ff m0 m1) = pairs (KndB.BL u0 u1 uf v0 v1) := rfl
  have hb : (KndB.BL s0 s1 ff m0 m1).map bareC = (KndB.BL u0 u1 uf v0 v1).map bareC := rfl
  refine ⟨pairs (KndB.BL u0 u1 uf v0 v1), C, KndB.BL u0 u1 uf v0 v1, ⟨lo, g, mb, n, A, c, f, hTa, hTot⟩, ?_, ?_, ⟨lo', g', A', c', hRT⟩, ups_of hwhy (bl_cls _ _ _ _ _), can_of hwhy (bl_names _ _ _ _ _)⟩
  · exact (why_good hwhy).1
  · exact hav_alike (hbare.trans hb)
theorem Env.ext {w w' : World} {t r : Nat} {ps : List P2} {C L : List ClsT} (h : Env w t r ps C L) (hb : Below w.heap.size w w') : Env w' t r ps C L :=
  ⟨by obtain ⟨lo, g, mb, n, A, c, f, h1, h2⟩ := h.ta; exact ⟨lo, g, mb, n, A, c, f, h1.ext hb, h2⟩, h.good, h.hv, by obtain ⟨lo, g, A, c, h1⟩ := h.rt; exact ⟨lo, g, A, c, h1.ext hb⟩, h.ups, h.can⟩

theorem known_new (h : Hr) (d : T) (hc : (classT d).2 = true) : h.known d = h.has (classT d).1 := by
  obtain ⟨hr, hd⟩ := class_right hc
  have hb : brk d = 0 := by
    cases d with
    | nil => rfl
    | cons x r => simp at hd; subst hd; rfl
  unfold Hr.known
  rw [hb, List.drop_zero, hr, hc]
  simp
theorem end_ag {ls : List T} {R : List T × Bool} {S : RS} (h : Ag R S) : endP (ls, R.1, R.2) = endP (ls, S.1, !S.2) := by
  obtain ⟨l, ok⟩ := R
  obtain ⟨l2, bad⟩ := S
  obtain ⟨h1, h2⟩ := h
  simp only at h1 h2
  subst h1
  cases bad with
  | true => simp [endP]
  | false => rw [h2 rfl]
theorem fd_iff {C L : List ClsT} (hh : hav C = hav L) (c : Cst) : KndX.noF C c ↔ KrF.fdB (fun q => (hav L q).1) c.s c.t c.u = false := by
  unfold KndX.noF KrF.fdB
  rw [hh]
  dsimp only
  constructor
  · rintro (h | h)
    · rw [decide_eq_false (by omega)]; rfl
    · rw [Bool.and_eq_false_iff]; exact .inr (by simpa using h)
  · intro h
    rcases Bool.and_eq_false_iff.1 h with h | h
    · exact .inl (by have := of_decide_eq_false h; omega)
    · exact .inr (by simpa using h)
theorem mt_iff {C L : List ClsT} (hh : hav C = hav L) (c : Cst) : KndY.noM C c ↔ KrH.mtB (fun q => (hav L q).2) c.s c.t c.u = false := by
  unfold KndY.noM KrH.mtB
  rw [hh]
  dsimp only
  constructor
  · rintro (h | h)
    · rw [decide_eq_false (by omega)]; rfl
    · rw [Bool.and_eq_false_iff]; exact .inr (by simpa using h)
  · intro h
    rcases Bool.and_eq_false_iff.1 h with h | h
    · exact .inl (by have := of_decide_eq_false h; omega)
    · exact .inr (by simpa using h)

/-- what a step answers: locals, stack, error -/
def frE (F : Option (List T × List T)) : List T × List T × Int := match F with | some (l, s) => (l, s, 0) | none => ([], [], 16)
theorem gives_x {w : World} {F : Option (List T × List T)} {e : Ending} {w' : World} (h : KndS.GivesF w F e w') : ∃ A c B d, e = .returned (.tuple #[.agg #[.slice A (frE F).1.length c, .slice B (frE F).2.1.length d], .int .i64 (frE F).2.2]) ∧ Rds w' A ((frE F).1.map sv) ∧ Rds w' B ((frE F).2.1.map sv) ∧ Below w.heap.size w w' := by
  obtain ⟨h1, h2⟩ := h
  cases F with
  | none => exact ⟨none, 0, none, 0, h1, .inl rfl, .inl rfl, h2⟩
  | some p =>
    obtain ⟨l, s⟩ := p
    obtain ⟨A, c, B, d, e1, e2, e3⟩ := h1
    exact ⟨A, c, B, d, e1, e2, e3, h2⟩
theorem end_few {p : List T × List T × Bool} (h : p.1.length ≤ 500) : (frE (endP p)).1.length ≤ 500 ∧ (frE (endP p)).2.1.length ≤ 16 := by
  unfold endP
  split
  · rename_i hc; exact ⟨h, hc.2⟩
  · exact ⟨by simp [frE], by simp [frE]⟩
/-- both Steps give one answer -/
def Both (w0 : World) (t r : Nat) (kA : Option Addr) (km kc : Nat) (gv : T) (op a : Int) (A : Option Addr) (c : Nat) (ls : List T) (B : Option Addr) (d : Nat) (ss : List T) : Prop :=
  ∃ F, ((frE F).1.length ≤ 500 ∧ (frE F).2.1.length ≤ 16) ∧ (∀ w, Below w0.heap.size w0 w → Calls Tryz.prog 9 #[.pointer (some ⟨t, 0, none⟩), .slice kA km kc, .string ⟨gv.toArray⟩, .agg #[.int .i64 op, .int .i64 a], .agg #[.slice A ls.length c, .slice B ss.length d]] w (GivesF w F)) ∧
    ∀ w, Below w0.heap.size w0 w → Calls Tryz.prog 10 #[.pointer (some ⟨r, 0, none⟩), .slice kA km kc, .string ⟨gv.toArray⟩, .agg #[.int .i64 op, .int .i64 a], .agg #[.slice A ls.length c, .slice B ss.length d]] w (GivesF w F)
/-- what is handed to Step -/
structure Gv (w0 : World) (kA : Option Addr) (km kc : Nat) (ks : List Cst) (gv : T) (A : Option Addr) (c : Nat) (ls : List T) (B : Option Addr) (d : Nat) (ss : List T) : Prop where
  hk : IsCsts w0 kA km kc ks
  hkl : ∀ x ∈ ks, x.s.length ≤ 140737488351232 ∧ x.t.length ≤ 140737488351232 ∧ x.u.length ≤ 140737488351232
  hgl : gv.length ≤ 140737488351232
  hA : Rds w0 A (ls.map sv)
  hB : Rds w0 B (ss.map sv)
  hd : ss.length ≤ d
  hd2 : d ≤ maxLen
  hm : ss.length ≤ 500
  hl : ls.length ≤ 500
  hsl : ∀ x ∈ ss, x.length ≤ 140737488351232
theorem both_mk {w0 : World} {t r : Nat} {kA : Option Addr} {km kc : Nat} {gv : T} {op a : Int} {A : Option Addr} {c : Nat} {ls : List T} {B : Option Addr} {d : Nat} {ss : List T} (p : List T × List T × Bool) (hl : p.1.length ≤ 500)
    (h1 : ∀ w, Below w0.heap.size w0 w → Calls Tryz.prog 9 #[.pointer (some ⟨t, 0, none⟩), .slice kA km kc, .string ⟨gv.toArray⟩, .agg #[.int .i64 op, .int .i64 a], .agg #[.slice A ls.length c, .slice B ss.length d]] w (KndS.GivesF w (endP p)))
    (h2 : ∀ w, Below w0.heap.size w0 w → Calls Tryz.prog 10 #[.pointer (some ⟨r, 0, none⟩), .slice kA km kc, .string ⟨gv.toArray⟩, .agg #[.int .i64 op, .int .i64 a], .agg #[.slice A ls.length c, .slice B ss.length d]] w (KndS.GivesF w (endP p))) :
    Both w0 t r kA km kc gv op a A c ls B d ss := ⟨endP p, end_few hl, h1, h2⟩
section
variable {w0 : World} {t r : Nat} {ps : List P2} {C L : List ClsT} {kA : Option Addr} {km kc : Nat} {ks : List Cst} {gv : T} {op a : Int} {A : Option Addr} {c : Nat} {ls : List T} {B : Option Addr} {d : Nat} {ss : List T}
theorem Gv.few (G : Gv w0 kA km kc ks gv A c ls B d ss) : Few 500 (ss, false) := ⟨G.hm, G.hsl⟩
theorem Gv.sl2 (G : Gv w0 kA km kc ks gv A c ls B d ss) : ∀ x ∈ ss, x.length ≤ 140737488355328 := fun x hx => Nat.le_trans (G.hsl x hx) (by omega)
theorem Gv.gl2 (G : Gv w0 kA km kc ks gv A c ls B d ss) : gv.length ≤ 140737488355328 := Nat.le_trans G.hgl (by omega)
theorem Gv.hm2 (G : Gv w0 kA km kc ks gv A c ls B d ss) : ss.length ≤ 1000 := Nat.le_trans G.hm (by omega)
/-- the program's table, below whatever an instruction works in -/
theorem env_tb (E : Env w0 t r ps C L) : ∃ g, ∀ lo W, Below w0.heap.size w0 W → w0.heap.size ≤ lo → Tb lo W t g (mk ps) := by
  obtain ⟨lo, g, mb, n, TA, cc, f, hTa, _⟩ := E.ta
  have hT : Tb w0.heap.size w0 t g (mk ps) := ⟨⟨_, _, hTa.box⟩, hTa.box.lt, hTa.hier.mono hTa.base, E.good⟩
  exact ⟨g, fun lo W hb hlo => KndS.Tb.mono (hT.below hb) hlo⟩
theorem tb_ta {lo0 g mb n : Nat} {TA : Option Addr} {cc : Nat} {f : T → Option HavT} (hg : GoodH (mk ps)) (hTa : Ta lo0 w0 t g mb n TA cc (mk ps) C f) (lo : Nat) (W : World) (hb : Below w0.heap.size w0 W) (hlo : w0.heap.size ≤ lo) : Tb lo W t g (mk ps) := by
  have hT : Tb w0.heap.size w0 t g (mk ps) := ⟨⟨_, _, hTa.box⟩, hTa.box.lt, hTa.hier.mono hTa.base, hg⟩
  exact KndS.Tb.mono (hT.below hb) hlo
/-- the document's -/
theorem env_tbr (E : Env w0 t r ps C L) : ∃ g, ∀ W, Below w0.heap.size w0 W → TbR w0.heap.size W r g ps := by
  obtain ⟨lo, g, TA, cc, hRT⟩ := E.rt
  have hT : TbR w0.heap.size w0 r g ps := ⟨⟨_, hRT.box⟩, hRT.box.lt, hRT.hier.mono hRT.base, E.can⟩
  exact ⟨g, fun W hb => hT.below hb⟩
theorem env_rlt (E : Env w0 t r ps C L) {W : World} (hb : Below w0.heap.size w0 W) : r < W.heap.size := by
  obtain ⟨lo, g, TA, cc, hRT⟩ := E.rt
  exact Nat.lt_of_lt_of_le hRT.box.lt hb.size
theorem env_meth (E : Env w0 t r ps C L) (q nm : T) (W : World) (hb : Below w0.heap.size w0 W) : Calls Tryz.prog 65 #[.pointer (some ⟨r, 0, none⟩), .string ⟨q.toArray⟩, .string ⟨nm.toArray⟩] W fun e w' => GivesE (hav L q).2 nm e ∧ Below W.heap.size W w' := by
  obtain ⟨lo, g, TA, cc, hRT⟩ := E.rt
  exact methodR_any (hRT.ext hb) E.ups q nm
theorem env_fld (E : Env w0 t r ps C L) (q nm : T) (W : World) (hb : Below w0.heap.size w0 W) : Calls Tryz.prog 63 #[.pointer (some ⟨r, 0, none⟩), .string ⟨q.toArray⟩, .string ⟨nm.toArray⟩] W fun e w' => GivesF (hav L q).1 nm e ∧ Below W.heap.size W w' := by
  obtain ⟨lo, g, TA, cc, hRT⟩ := E.rt
  exact fieldR_any (hRT.ext hb) E.ups E.can q nm
theorem few_give {n : Nat} {s : RS} (h : Few n s) {g : T} (hg : g.length ≤ 140737488351232) : Few (n + 1) (giveL g s) := by
  unfold giveL
  split
  · exact h.mono (by omega)
  · exact h.push hg
theorem both_0 (E : Env w0 t r ps C L) (G : Gv w0 kA km kc ks gv A c ls B d ss) : Both w0 t r kA km kc gv 0 0 A c ls B d ss := by
  obtain ⟨g, hTb⟩ := env_tb E
  obtain ⟨g', hTr⟩ := env_tbr E
  refine both_mk (ls, ((ss, true)).1, ((ss, true)).2) (by first | exact G.hl | (rw [List.length_set]; exact G.hl)) (fun w hb => step_of kA km kc gv 0 0 A c ls B d ss (G.hA.below hb) (G.hB.below hb) G.hm G.hl (ls, ((ss, true)).1, ((ss, true)).2) (fun W b lo LV SV h1 h2 h3 => ?_)) (fun w hb => ?_)
  · have X := hTb lo W (hb.trans (h1.mono hb.size)) (Nat.le_trans hb.size h2)
    exact do_zero h3 (by unfold NoA; omega) (R := (ss, true)) (plain_0 h3)
  · rw [end_ag (R := (ss, true)) (S := (ss, false)) (⟨rfl, fun _ => rfl⟩)]
    refine KrJ.stepR_plain (env_rlt E hb) kA km kc gv 0 0 A c ls B d ss (G.hA.below hb) (G.hB.below hb) G.hd G.hd2 G.hm G.hl 0 (by kernel_rfl) (.inl ⟨rfl, rfl⟩) ((ss, false)) (Nat.le_trans (G.few).1 (by omega)) (fun W b h1 h2 h3 => ?_)
    have X := hTr W (hb.trans (h1.mono hb.size))
    have hlb : w0.heap.size ≤ b := Nat.le_trans hb.size h2
    exact KrB.plain_0 h3 (G.few.mono (by omega)) gv
theorem both_3 (E : Env w0 t r ps C L) (G : Gv w0 kA km kc ks gv A c ls B d ss) : Both w0 t r kA km kc gv 3 0 A c ls B d ss := by
  obtain ⟨g, hTb⟩ := env_tb E
  obtain ⟨g', hTr⟩ := env_tbr E
  refine both_mk (ls, (tlP (mk ps) ss [] [[66]]).1, (tlP (mk ps) ss [] [[66]]).2) (by first | exact G.hl | (rw [List.length_set]; exact G.hl)) (fun w hb => step_of kA km kc gv 3 0 A c ls B d ss (G.hA.below hb) (G.hB.below hb) G.hm G.hl (ls, (tlP (mk ps) ss [] [[66]]).1, (tlP (mk ps) ss [] [[66]]).2) (fun W b lo LV SV h1 h2 h3 => ?_)) (fun w hb => ?_)
  · have X := hTb lo W (hb.trans (h1.mono hb.size)) (Nat.le_trans hb.size h2)
    exact do_zero h3 (by unfold NoA; omega) (R := tlP (mk ps) ss [] [[66]]) (plain_ef (op := 3) rfl X h3 G.hm2 G.sl2)
  · rw [end_ag (R := tlP (mk ps) ss [] [[66]]) (S := rpush [66] (ss, false)) (ag_tl _ [] ss [66])]
    refine KrJ.stepR_plain (env_rlt E hb) kA km kc gv 3 0 A c ls B d ss (G.hA.below hb) (G.hB.below hb) G.hd G.hd2 G.hm G.hl 0 (by kernel_rfl) (.inl ⟨rfl, rfl⟩) (rpush [66] (ss, false)) (Nat.le_trans (G.few.push (d := [66]) (by simp)).1 (by omega)) (fun W b h1 h2 h3 => ?_)
    have X := hTr W (hb.trans (h1.mono hb.size))
    have hlb : w0.heap.size ≤ b := Nat.le_trans hb.size h2
    exact KrB.plain_3 h3 (G.few.mono (by omega)) gv
theorem both_4 (E : Env w0 t r ps C L) (G : Gv w0 kA km kc ks gv A c ls B d ss) : Both w0 t r kA km kc gv 4 0 A c ls B d ss := by
  obtain ⟨g, hTb⟩ := env_tb E
  obtain ⟨g', hTr⟩ := env_tbr E
  refine both_mk (ls, (tlP (mk ps) ss [] [[66]]).1, (tlP (mk ps) ss [] [[66]]).2) (by first | exact G.hl | (rw [List.length_set]; exact G.hl)) (fun w hb => step_of kA km kc gv 4 0 A c ls B d ss (G.hA.below hb) (G.hB.below hb) G.hm G.hl (ls, (tlP (mk ps) ss [] [[66]]).1, (tlP (mk ps) ss [] [[66]]).2) (fun W b lo LV SV h1 h2 h3 => ?_)) (fun w hb => ?_)
  · have X := hTb lo W (hb.trans (h1.mono hb.size)) (Nat.le_trans hb.size h2)
    exact do_zero h3 (by unfold NoA; omega) (R := tlP (mk ps) ss [] [[66]]) (plain_ef (op := 4) rfl X h3 G.hm2 G.sl2)
  · rw [end_ag (R := tlP (mk ps) ss [] [[66]]) (S := rpush [66] (ss, false)) (ag_tl _ [] ss [66])]
    refine KrJ.stepR_plain (env_rlt E hb) kA km kc gv 4 0 A c ls B d ss (G.hA.below hb) (G.hB.below hb) G.hd G.hd2 G.hm G.hl 0 (by kernel_rfl) (.inl ⟨rfl, rfl⟩) (rpush [66] (ss, false)) (Nat.le_trans (G.few.push (d := [66]) (by simp)).1 (by omega)) (fun W b h1 h2 h3 => ?_)
    have X := hTr W (hb.trans (h1.mono hb.size))
    have hlb : w0.heap.size ≤ b := Nat.le_trans hb.size h2
    exact KrB.plain_4 h3 (G.few.mono (by omega)) gv
theorem both_5 (E : Env w0 t r ps C L) (G : Gv w0 kA km kc ks gv A c ls B d ss) : Both w0 t r kA km kc gv 5 0 A c ls B d ss := by
  obtain ⟨g, hTb⟩ := env_tb E
  obtain ⟨g', hTr⟩ := env_tbr E
  refine both_mk (ls, ((ss ++ [[78]], true)).1, ((ss ++ [[78]], true)).2) (by first | exact G.hl | (rw [List.length_set]; exact G.hl)) (fun w hb => step_of kA km kc gv 5 0 A c ls B d ss (G.hA.below hb) (G.hB.below hb) G.hm G.hl (ls, ((ss ++ [[78]], true)).1, ((ss ++ [[78]], true)).2) (fun W b lo LV SV h1 h2 h3 => ?_)) (fun w hb => ?_)
  · have X := hTb lo W (hb.trans (h1.mono hb.size)) (Nat.le_trans hb.size h2)
    exact do_zero h3 (by unfold NoA; omega) (R := (ss ++ [[78]], true)) (plain_5 h3 G.hm2)
  · rw [end_ag (R := (ss ++ [[78]], true)) (S := rpush [78] (ss, false)) (ag_push [78])]
    refine KrJ.stepR_plain (env_rlt E hb) kA km kc gv 5 0 A c ls B d ss (G.hA.below hb) (G.hB.below hb) G.hd G.hd2 G.hm G.hl 0 (by kernel_rfl) (.inl ⟨rfl, rfl⟩) (rpush [78] (ss, false)) (Nat.le_trans (G.few.push (d := [78]) (by simp)).1 (by omega)) (fun W b h1 h2 h3 => ?_)
    have X := hTr W (hb.trans (h1.mono hb.size))
    have hlb : w0.heap.size ≤ b := Nat.le_trans hb.size h2
    exact KrB.plain_5 h3 (G.few.mono (by omega)) gv
theorem both_41 (E : Env w0 t r ps C L) (G : Gv w0 kA km kc ks gv A c ls B d ss) : Both w0 t r kA km kc gv 41 0 A c ls B d ss := by
  obtain ⟨g, hTb⟩ := env_tb E
  obtain ⟨g', hTr⟩ := env_tbr E
  refine both_mk (ls, ((ss ++ [[73]], true)).1, ((ss ++ [[73]], true)).2) (by first | exact G.hl | (rw [List.length_set]; exact G.hl)) (fun w hb => step_of kA km kc gv 41 0 A c ls B d ss (G.hA.below hb) (G.hB.below hb) G.hm G.hl (ls, ((ss ++ [[73]], true)).1, ((ss ++ [[73]], true)).2) (fun W b lo LV SV h1 h2 h3 => ?_)) (fun w hb => ?_)
  · have X := hTb lo W (hb.trans (h1.mono hb.size)) (Nat.le_trans hb.size h2)
    exact do_zero h3 (by unfold NoA; omega) (R := (ss ++ [[73]], true)) (plain_41 h3 G.hm2)
  · rw [end_ag (R := (ss ++ [[73]], true)) (S := rpush [73] (ss, false)) (ag_push [73])]
    refine KrJ.stepR_plain (env_rlt E hb) kA km kc gv 41 0 A c ls B d ss (G.hA.below hb) (G.hB.below hb) G.hd G.hd2 G.hm G.hl 0 (by kernel_rfl) (.inl ⟨rfl, rfl⟩) (rpush [73] (ss, false)) (Nat.le_trans (G.few.push (d := [73]) (by simp)).1 (by omega)) (fun W b h1 h2 h3 => ?_)
    have X := hTr W (hb.trans (h1.mono hb.size))
    have hlb : w0.heap.size ≤ b := Nat.le_trans hb.size h2
    exact KrB.plain_41 h3 (G.few.mono (by omega)) gv
theorem both_8 (E : Env w0 t r ps C L) (G : Gv w0 kA km kc ks gv A c ls B d ss) : Both w0 t r kA km kc gv 8 0 A c ls B d ss := by
  obtain ⟨g, hTb⟩ := env_tb E
  obtain ⟨g', hTr⟩ := env_tbr E
  refine both_mk (ls, (((popP ss).2.1, (popP ss).2.2)).1, (((popP ss).2.1, (popP ss).2.2)).2) (by first | exact G.hl | (rw [List.length_set]; exact G.hl)) (fun w hb => step_of kA km kc gv 8 0 A c ls B d ss (G.hA.below hb) (G.hB.below hb) G.hm G.hl (ls, (((popP ss).2.1, (popP ss).2.2)).1, (((popP ss).2.1, (popP ss).2.2)).2) (fun W b lo LV SV h1 h2 h3 => ?_)) (fun w hb => ?_)
  · have X := hTb lo W (hb.trans (h1.mono hb.size)) (Nat.le_trans hb.size h2)
    exact do_zero h3 (by unfold NoA; omega) (R := ((popP ss).2.1, (popP ss).2.2)) (plain_8 h3 G.hm2)
  · rw [end_ag (R := ((popP ss).2.1, (popP ss).2.2)) (S := rpop (ss, false)) (ag_pop ss)]
    refine KrJ.stepR_plain (env_rlt E hb) kA km kc gv 8 0 A c ls B d ss (G.hA.below hb) (G.hB.below hb) G.hd G.hd2 G.hm G.hl 0 (by kernel_rfl) (.inl ⟨rfl, rfl⟩) (rpop (ss, false)) (Nat.le_trans (G.few.pop).1 (by omega)) (fun W b h1 h2 h3 => ?_)
    have X := hTr W (hb.trans (h1.mono hb.size))
    have hlb : w0.heap.size ≤ b := Nat.le_trans hb.size h2
    exact KrB.plain_8 h3 (G.few.mono (by omega)) gv
theorem both_9 (E : Env w0 t r ps C L) (G : Gv w0 kA km kc ks gv A c ls B d ss) : Both w0 t r kA km kc gv 9 0 A c ls B d ss := by
  obtain ⟨g, hTb⟩ := env_tb E
  obtain ⟨g', hTr⟩ := env_tbr E
  refine both_mk (ls, (dupP ss).1, (dupP ss).2) (by first | exact G.hl | (rw [List.length_set]; exact G.hl)) (fun w hb => step_of kA km kc gv 9 0 A c ls B d ss (G.hA.below hb) (G.hB.below hb) G.hm G.hl (ls, (dupP ss).1, (dupP ss).2) (fun W b lo LV SV h1 h2 h3 => ?_)) (fun w hb => ?_)
  · have X := hTb lo W (hb.trans (h1.mono hb.size)) (Nat.le_trans hb.size h2)
    exact do_zero h3 (by unfold NoA; omega) (R := dupP ss) (plain_9 h3 G.hm2)
  · rw [end_ag (R := dupP ss) (S := rpush (rtop (ss, false)) (rpush (rtop (ss, false)) (rpop (ss, false)))) (ag_dup ss)]
    refine KrJ.stepR_plain (env_rlt E hb) kA km kc gv 9 0 A c ls B d ss (G.hA.below hb) (G.hB.below hb) G.hd G.hd2 G.hm G.hl 0 (by kernel_rfl) (.inl ⟨rfl, rfl⟩) (rpush (rtop (ss, false)) (rpush (rtop (ss, false)) (rpop (ss, false)))) (Nat.le_trans (((G.few.pop.push G.few.top).push G.few.top)).1 (by omega)) (fun W b h1 h2 h3 => ?_)
    have X := hTr W (hb.trans (h1.mono hb.size))
    have hlb : w0.heap.size ≤ b := Nat.le_trans hb.size h2
    exact KrB.plain_9 h3 (G.few.mono (by omega)) gv
theorem both_10 (E : Env w0 t r ps C L) (G : Gv w0 kA km kc ks gv A c ls B d ss) : Both w0 t r kA km kc gv 10 0 A c ls B d ss := by
  obtain ⟨g, hTb⟩ := env_tb E
  obtain ⟨g', hTr⟩ := env_tbr E
  refine both_mk (ls, (tlP (mk ps) ss [[73], [73]] [[73]]).1, (tlP (mk ps) ss [[73], [73]] [[73]]).2) (by first | exact G.hl | (rw [List.length_set]; exact G.hl)) (fun w hb => step_of kA km kc gv 10 0 A c ls B d ss (G.hA.below hb) (G.hB.below hb) G.hm G.hl (ls, (tlP (mk ps) ss [[73], [73]] [[73]]).1, (tlP (mk ps) ss [[73], [73]] [[73]]).2) (fun W b lo LV SV h1 h2 h3 => ?_)) (fun w hb => ?_)
  · have X := hTb lo W (hb.trans (h1.mono hb.size)) (Nat.le_trans hb.size h2)
    exact do_zero h3 (by unfold NoA; omega) (R := tlP (mk ps) ss [[73], [73]] [[73]]) (plain_ef (op := 10) rfl X h3 G.hm2 G.sl2)
  · rw [end_ag (R := tlP (mk ps) ss [[73], [73]] [[73]]) (S := rpush [73] (rwant [73] (rwant [73] ((ss, false))))) (by
      have h := ag_tl (mk ps) [[73], [73]] ss [73]
      simpa only [fitsL, List.foldr_cons, List.foldr_nil, want_I (mk ps), want_B (mk ps)] using h)]
    refine KrJ.stepR_plain (env_rlt E hb) kA km kc gv 10 0 A c ls B d ss (G.hA.below hb) (G.hB.below hb) G.hd G.hd2 G.hm G.hl 0 (by kernel_rfl) (.inl ⟨rfl, rfl⟩) (rpush [73] (rwant [73] (rwant [73] ((ss, false))))) (Nat.le_trans ((((G.few.want [73]).want [73]).push (d := [73]) (by simp))).1 (by omega)) (fun W b h1 h2 h3 => ?_)
    have X := hTr W (hb.trans (h1.mono hb.size))
    have hlb : w0.heap.size ≤ b := Nat.le_trans hb.size h2
    exact KrB.plain_10 h3 (G.few.mono (by omega)) gv
theorem both_11 (E : Env w0 t r ps C L) (G : Gv w0 kA km kc ks gv A c ls B d ss) : Both w0 t r kA km kc gv 11 0 A c ls B d ss := by
  obtain ⟨g, hTb⟩ := env_tb E
  obtain ⟨g', hTr⟩ := env_tbr E
  refine both_mk (ls, (tlP (mk ps) ss [[73], [73]] [[73]]).1, (tlP (mk ps) ss [[73], [73]] [[73]]).2) (by first | exact G.hl | (rw [List.length_set]; exact G.hl)) (fun w hb => step_of kA km kc gv 11 0 A c ls B d ss (G.hA.below hb) (G.hB.below hb) G.hm G.hl (ls, (tlP (mk ps) ss [[73], [73]] [[73]]).1, (tlP (mk ps) ss [[73], [73]] [[73]]).2) (fun W b lo LV SV h1 h2 h3 => ?_)) (fun w hb => ?_)
  · have X := hTb lo W (hb.trans (h1.mono hb.size)) (Nat.le_trans hb.size h2)
    exact do_zero h3 (by unfold NoA; omega) (R := tlP (mk ps) ss [[73], [73]] [[73]]) (plain_ef (op := 11) rfl X h3 G.hm2 G.sl2)
  · rw [end_ag (R := tlP (mk ps) ss [[73], [73]] [[73]]) (S := rpush [73] (rwant [73] (rwant [73] ((ss, false))))) (by
      have h := ag_tl (mk ps) [[73], [73]] ss [73]
      simpa only [fitsL, List.foldr_cons, List.foldr_nil, want_I (mk ps), want_B (mk ps)] using h)]
    refine KrJ.stepR_plain (env_rlt E hb) kA km kc gv 11 0 A c ls B d ss (G.hA.below hb) (G.hB.below hb) G.hd G.hd2 G.hm G.hl 0 (by kernel_rfl) (.inl ⟨rfl, rfl⟩) (rpush [73] (rwant [73] (rwant [73] ((ss, false))))) (Nat.le_trans ((((G.few.want [73]).want [73]).push (d := [73]) (by simp))).1 (by omega)) (fun W b h1 h2 h3 => ?_)
    have X := hTr W (hb.trans (h1.mono hb.size))
    have hlb : w0.heap.size ≤ b := Nat.le_trans hb.size h2
    exact KrB.plain_11 h3 (G.few.mono (by omega)) gv
theorem both_12 (E : Env w0 t r ps C L) (G : Gv w0 kA km kc ks gv A c ls B d ss) : Both w0 t r kA km kc gv 12 0 A c ls B d ss := by
  obtain ⟨g, hTb⟩ := env_tb E
  obtain ⟨g', hTr⟩ := env_tbr E
  refine both_mk (ls, (tlP (mk ps) ss [[73], [73]] [[73]]).1, (tlP (mk ps) ss [[73], [73]] [[73]]).2) (by first | exact G.hl | (rw [List.length_set]; exact G.hl)) (fun w hb => step_of kA km kc gv 12 0 A c ls B d ss (G.hA.below hb) (G.hB.below hb) G.hm G.hl (ls, (tlP (mk ps) ss [[73], [73]] [[73]]).1, (tlP (mk ps) ss [[73], [73]] [[73]]).2) (fun W b lo LV SV h1 h2 h3 => ?_)) (fun w hb => ?_)
  · have X := hTb lo W (hb.trans (h1.mono hb.size)) (Nat.le_trans hb.size h2)
    exact do_zero h3 (by unfold NoA; omega) (R := tlP (mk ps) ss [[73], [73]] [[73]]) (plain_ef (op := 12) rfl X h3 G.hm2 G.sl2)
  · rw [end_ag (R := tlP (mk ps) ss [[73], [73]] [[73]]) (S := rpush [73] (rwant [73] (rwant [73] ((ss, false))))) (by
      have h := ag_tl (mk ps) [[73], [73]] ss [73]
      simpa only [fitsL, List.foldr_cons, List.foldr_nil, want_I (mk ps), want_B (mk ps)] using h)]
    refine KrJ.stepR_plain (env_rlt E hb) kA km kc gv 12 0 A c ls B d ss (G.hA.below hb) (G.hB.below hb) G.hd G.hd2 G.hm G.hl 0 (by kernel_rfl) (.inl ⟨rfl, rfl⟩) (rpush [73] (rwant [73] (rwant [73] ((ss, false))))) (Nat.le_trans ((((G.few.want [73]).want [73]).push (d := [73]) (by simp))).1 (by omega)) (fun W b h1 h2 h3 => ?_)
    have X := hTr W (hb.trans (h1.mono hb.size))
    have hlb : w0.heap.size ≤ b := Nat.le_trans hb.size h2
    exact KrB.plain_12 h3 (G.few.mono (by omega)) gv
theorem both_13 (E : Env w0 t r ps C L) (G : Gv w0 kA km kc ks gv A c ls B d ss) : Both w0 t r kA km kc gv 13 0 A c ls B d ss := by
  obtain ⟨g, hTb⟩ := env_tb E
  obtain ⟨g', hTr⟩ := env_tbr E
  refine both_mk (ls, (tlP (mk ps) ss [[73], [73]] [[73]]).1, (tlP (mk ps) ss [[73], [73]] [[73]]).2) (by first | exact G.hl | (rw [List.length_set]; exact G.hl)) (fun w hb => step_of kA km kc gv 13 0 A c ls B d ss (G.hA.below hb) (G.hB.below hb) G.hm G.hl (ls, (tlP (mk ps) ss [[73], [73]] [[73]]).1, (tlP (mk ps) ss [[73], [73]] [[73]]).2) (fun W b lo LV SV h1 h2 h3 => ?_)) (fun w hb => ?_)
  · have X := hTb lo W (hb.trans (h1.mono hb.size)) (Nat.le_trans hb.size h2)
    exact do_zero h3 (by unfold NoA; omega) (R := tlP (mk ps) ss [[73], [73]] [[73]]) (plain_ef (op := 13) rfl X h3 G.hm2 G.sl2)
  · rw [end_ag (R := tlP (mk ps) ss [[73], [73]] [[73]]) (S := rpush [73] (rwant [73] (rwant [73] ((ss, false))))) (by
      have h := ag_tl (mk ps) [[73], [73]] ss [73]
      simpa only [fitsL, List.foldr_cons, List.foldr_nil, want_I (mk ps), want_B (mk ps)] using h)]
    refine KrJ.stepR_plain (env_rlt E hb) kA km kc gv 13 0 A c ls B d ss (G.hA.below hb) (G.hB.below hb) G.hd G.hd2 G.hm G.hl 0 (by kernel_rfl) (.inl ⟨rfl, rfl⟩) (rpush [73] (rwant [73] (rwant [73] ((ss, false))))) (Nat.le_trans ((((G.few.want [73]).want [73]).push (d := [73]) (by simp))).1 (by omega)) (fun W b h1 h2 h3 => ?_)
    have X := hTr W (hb.trans (h1.mono hb.size))
    have hlb : w0.heap.size ≤ b := Nat.le_trans hb.size h2
    exact KrB.plain_13 h3 (G.few.mono (by omega)) gv
theorem both_14 (E : Env w0 t r ps C L) (G : Gv w0 kA km kc ks gv A c ls B d ss) : Both w0 t r kA km kc gv 14 0 A c ls B d ss := by
  obtain ⟨g, hTb⟩ := env_tb E
  obtain ⟨g', hTr⟩ := env_tbr E
  refine both_mk (ls, (tlP (mk ps) ss [[73], [73]] [[73]]).1, (tlP (mk ps) ss [[73], [73]] [[73]]).2) (by first | exact G.hl | (rw [List.length_set]; exact G.hl)) (fun w hb => step_of kA km kc gv 14 0 A c ls B d ss (G.hA.below hb) (G.hB.below hb) G.hm G.hl (ls, (tlP (mk ps) ss [[73], [73]] [[73]]).1, (tlP (mk ps) ss [[73], [73]] [[73]]).2) (fun W b lo LV SV h1 h2 h3 => ?_)) (fun w hb => ?_)
  · have X := hTb lo W (hb.trans (h1.mono hb.size)) (Nat.le_trans hb.size h2)
    exact do_zero h3 (by unfold NoA; omega) (R := tlP (mk ps) ss [[73], [73]] [[73]]) (plain_ef (op := 14) rfl X h3 G.hm2 G.sl2)
  · rw [end_ag (R := tlP (mk ps) ss [[73], [73]] [[73]]) (S := rpush [73] (rwant [73] (rwant [73] ((ss, false))))) (by
      have h := ag_tl (mk ps) [[73], [73]] ss [73]
      simpa only [fitsL, List.foldr_cons, List.foldr_nil, want_I (mk ps), want_B (mk ps)] using h)]
    refine KrJ.stepR_plain (env_rlt E hb) kA km kc gv 14 0 A c ls B d ss (G.hA.below hb) (G.hB.below hb) G.hd G.hd2 G.hm G.hl 0 (by kernel_rfl) (.inl ⟨rfl, rfl⟩) (rpush [73] (rwant [73] (rwant [73] ((ss, false))))) (Nat.le_trans ((((G.few.want [73]).want [73]).push (d := [73]) (by simp))).1 (by omega)) (fun W b h1 h2 h3 => ?_)
    have X := hTr W (hb.trans (h1.mono hb.size))
    have hlb : w0.heap.size ≤ b := Nat.le_trans hb.size h2
    exact KrB.plain_14 h3 (G.few.mono (by omega)) gv
theorem both_15 (E : Env w0 t r ps C L) (G : Gv w0 kA km kc ks gv A c ls B d ss) : Both w0 t r kA km kc gv 15 0 A c ls B d ss := by
  obtain ⟨g, hTb⟩ := env_tb E
  obtain ⟨g', hTr⟩ := env_tbr E
  refine both_mk (ls, (tlP (mk ps) ss [[73]] [[73]]).1, (tlP (mk ps) ss [[73]] [[73]]).2) (by first | exact G.hl | (rw [List.length_set]; exact G.hl)) (fun w hb => step_of kA km kc gv 15 0 A c ls B d ss (G.hA.below hb) (G.hB.below hb) G.hm G.hl (ls, (tlP (mk ps) ss [[73]] [[73]]).1, (tlP (mk ps) ss [[73]] [[73]]).2) (fun W b lo LV SV h1 h2 h3 => ?_)) (fun w hb => ?_)
  · have X := hTb lo W (hb.trans (h1.mono hb.size)) (Nat.le_trans hb.size h2)
    exact do_zero h3 (by unfold NoA; omega) (R := tlP (mk ps) ss [[73]] [[73]]) (plain_ef (op := 15) rfl X h3 G.hm2 G.sl2)
  · rw [end_ag (R := tlP (mk ps) ss [[73]] [[73]]) (S := rpush [73] (rwant [73] ((ss, false)))) (by
      have h := ag_tl (mk ps) [[73]] ss [73]
      simpa only [fitsL, List.foldr_cons, List.foldr_nil, want_I (mk ps), want_B (mk ps)] using h)]
    refine KrJ.stepR_plain (env_rlt E hb) kA km kc gv 15 0 A c ls B d ss (G.hA.below hb) (G.hB.below hb) G.hd G.hd2 G.hm G.hl 0 (by kernel_rfl) (.inl ⟨rfl, rfl⟩) (rpush [73] (rwant [73] ((ss, false)))) (Nat.le_trans (((G.few.want [73]).push (d := [73]) (by simp))).1 (by omega)) (fun W b h1 h2 h3 => ?_)
    have X := hTr W (hb.trans (h1.mono hb.size))
    have hlb : w0.heap.size ≤ b := Nat.le_trans hb.size h2
    exact KrB.plain_15 h3 (G.few.mono (by omega)) gv
theorem both_16 (E : Env w0 t r ps C L) (G : Gv w0 kA km kc ks gv A c ls B d ss) : Both w0 t r kA km kc gv 16 0 A c ls B d ss := by
  obtain ⟨g, hTb⟩ := env_tb E
  obtain ⟨g', hTr⟩ := env_tbr E
  refine both_mk (ls, (tlP (mk ps) ss [[66]] [[66]]).1, (tlP (mk ps) ss [[66]] [[66]]).2) (by first | exact G.hl | (rw [List.length_set]; exact G.hl)) (fun w hb => step_of kA km kc gv 16 0 A c ls B d ss (G.hA.below hb) (G.hB.below hb) G.hm G.hl (ls, (tlP (mk ps) ss [[66]] [[66]]).1, (tlP (mk ps) ss [[66]] [[66]]).2) (fun W b lo LV SV h1 h2 h3 => ?_)) (fun w hb => ?_)
  · have X := hTb lo W (hb.trans (h1.mono hb.size)) (Nat.le_trans hb.size h2)
    exact do_zero h3 (by unfold NoA; omega) (R := tlP (mk ps) ss [[66]] [[66]]) (plain_ef (op := 16) rfl X h3 G.hm2 G.sl2)
  · rw [end_ag (R := tlP (mk ps) ss [[66]] [[66]]) (S := rpush [66] (rwant [66] ((ss, false)))) (by
      have h := ag_tl (mk ps) [[66]] ss [66]
      simpa only [fitsL, List.foldr_cons, List.foldr_nil, want_I (mk ps), want_B (mk ps)] using h)]
    refine KrJ.stepR_plain (env_rlt E hb) kA km kc gv 16 0 A c ls B d ss (G.hA.below hb) (G.hB.below hb) G.hd G.hd2 G.hm G.hl 0 (by kernel_rfl) (.inl ⟨rfl, rfl⟩) (rpush [66] (rwant [66] ((ss, false)))) (Nat.le_trans (((G.few.want [66]).push (d := [66]) (by simp))).1 (by omega)) (fun W b h1 h2 h3 => ?_)
    have X := hTr W (hb.trans (h1.mono hb.size))
    have hlb : w0.heap.size ≤ b := Nat.le_trans hb.size h2
    exact KrB.plain_16 h3 (G.few.mono (by omega)) gv
theorem both_17 (E : Env w0 t r ps C L) (G : Gv w0 kA km kc ks gv A c ls B d ss) : Both w0 t r kA km kc gv 17 0 A c ls B d ss := by
  obtain ⟨g, hTb⟩ := env_tb E
  obtain ⟨g', hTr⟩ := env_tbr E
  refine both_mk (ls, (tlP (mk ps) ss [[73], [73]] [[66]]).1, (tlP (mk ps) ss [[73], [73]] [[66]]).2) (by first | exact G.hl | (rw [List.length_set]; exact G.hl)) (fun w hb => step_of kA km kc gv 17 0 A c ls B d ss (G.hA.below hb) (G.hB.below hb) G.hm G.hl (ls, (tlP (mk ps) ss [[73], [73]] [[66]]).1, (tlP (mk ps) ss [[73], [73]] [[66]]).2) (fun W b lo LV SV h1 h2 h3 => ?_)) (fun w hb => ?_)
  · have X := hTb lo W (hb.trans (h1.mono hb.size)) (Nat.le_trans hb.size h2)
    exact do_zero h3 (by unfold NoA; omega) (R := tlP (mk ps) ss [[73], [73]] [[66]]) (plain_ef (op := 17) rfl X h3 G.hm2 G.sl2)
  · rw [end_ag (R := tlP (mk ps) ss [[73], [73]] [[66]]) (S := rpush [66] (rwant [73] (rwant [73] ((ss, false))))) (by
      have h := ag_tl (mk ps) [[73], [73]] ss [66]
      simpa only [fitsL, List.foldr_cons, List.foldr_nil, want_I (mk ps), want_B (mk ps)] using h)]
    refine KrJ.stepR_plain (env_rlt E hb) kA km kc gv 17 0 A c ls B d ss (G.hA.below hb) (G.hB.below hb) G.hd G.hd2 G.hm G.hl 0 (by kernel_rfl) (.inl ⟨rfl, rfl⟩) (rpush [66] (rwant [73] (rwant [73] ((ss, false))))) (Nat.le_trans ((((G.few.want [73]).want [73]).push (d := [66]) (by simp))).1 (by omega)) (fun W b h1 h2 h3 => ?_)
    have X := hTr W (hb.trans (h1.mono hb.size))
    have hlb : w0.heap.size ≤ b := Nat.le_trans hb.size h2
    exact KrB.plain_17 h3 (G.few.mono (by omega)) gv
theorem both_18 (E : Env w0 t r ps C L) (G : Gv w0 kA km kc ks gv A c ls B d ss) : Both w0 t r kA km kc gv 18 0 A c ls B d ss := by
  obtain ⟨g, hTb⟩ := env_tb E
  obtain ⟨g', hTr⟩ := env_tbr E
  refine both_mk (ls, (tlP (mk ps) ss [[73], [73]] [[66]]).1, (tlP (mk ps) ss [[73], [73]] [[66]]).2) (by first | exact G.hl | (rw [List.length_set]; exact G.hl)) (fun w hb => step_of kA km kc gv 18 0 A c ls B d ss (G.hA.below hb) (G.hB.below hb) G.hm G.hl (ls, (tlP (mk ps) ss [[73], [73]] [[66]]).1, (tlP (mk ps) ss [[73], [73]] [[66]]).2) (fun W b lo LV SV h1 h2 h3 => ?_)) (fun w hb => ?_)
  · have X := hTb lo W (hb.trans (h1.mono hb.size)) (Nat.le_trans hb.size h2)
    exact do_zero h3 (by unfold NoA; omega) (R := tlP (mk ps) ss [[73], [73]] [[66]]) (plain_ef (op := 18) rfl X h3 G.hm2 G.sl2)
  · rw [end_ag (R := tlP (mk ps) ss [[73], [73]] [[66]]) (S := rpush [66] (rwant [73] (rwant [73] ((ss, false))))) (by
      have h := ag_tl (mk ps) [[73], [73]] ss [66]
      simpa only [fitsL, List.foldr_cons, List.foldr_nil, want_I (mk ps), want_B (mk ps)] using h)]
    refine KrJ.stepR_plain (env_rlt E hb) kA km kc gv 18 0 A c ls B d ss (G.hA.below hb) (G.hB.below hb) G.hd G.hd2 G.hm G.hl 0 (by kernel_rfl) (.inl ⟨rfl, rfl⟩) (rpush [66] (rwant [73] (rwant [73] ((ss, false))))) (Nat.le_trans ((((G.few.want [73]).want [73]).push (d := [66]) (by simp))).1 (by omega)) (fun W b h1 h2 h3 => ?_)
    have X := hTr W (hb.trans (h1.mono hb.size))
    have hlb : w0.heap.size ≤ b := Nat.le_trans hb.size h2
    exact KrB.plain_18 h3 (G.few.mono (by omega)) gv
theorem both_19 (E : Env w0 t r ps C L) (G : Gv w0 kA km kc ks gv A c ls B d ss) : Both w0 t r kA km kc gv 19 0 A c ls B d ss := by
  obtain ⟨g, hTb⟩ := env_tb E
  obtain ⟨g', hTr⟩ := env_tbr E
  refine both_mk (ls, (tlP (mk ps) ss [[73], [73]] [[66]]).1, (tlP (mk ps) ss [[73], [73]] [[66]]).2) (by first | exact G.hl | (rw [List.length_set]; exact G.hl)) (fun w hb => step_of kA km kc gv 19 0 A c ls B d ss (G.hA.below hb) (G.hB.below hb) G.hm G.hl (ls, (tlP (mk ps) ss [[73], [73]] [[66]]).1, (tlP (mk ps) ss [[73], [73]] [[66]]).2) (fun W b lo LV SV h1 h2 h3 => ?_)) (fun w hb => ?_)
  · have X := hTb lo W (hb.trans (h1.mono hb.size)) (Nat.le_trans hb.size h2)
    exact do_zero h3 (by unfold NoA; omega) (R := tlP (mk ps) ss [[73], [73]] [[66]]) (plain_ef (op := 19) rfl X h3 G.hm2 G.sl2)
  · rw [end_ag (R := tlP (mk ps) ss [[73], [73]] [[66]]) (S := rpush [66] (rwant [73] (rwant [73] ((ss, false))))) (by
      have h := ag_tl (mk ps) [[73], [73]] ss [66]
      simpa only [fitsL, List.foldr_cons, List.foldr_nil, want_I (mk ps), want_B (mk ps)] using h)]
    refine KrJ.stepR_plain (env_rlt E hb) kA km kc gv 19 0 A c ls B d ss (G.hA.below hb) (G.hB.below hb) G.hd G.hd2 G.hm G.hl 0 (by kernel_rfl) (.inl ⟨rfl, rfl⟩) (rpush [66] (rwant [73] (rwant [73] ((ss, false))))) (Nat.le_trans ((((G.few.want [73]).want [73]).push (d := [66]) (by simp))).1 (by omega)) (fun W b h1 h2 h3 => ?_)
    have X := hTr W (hb.trans (h1.mono hb.size))
    have hlb : w0.heap.size ≤ b := Nat.le_trans hb.size h2
    exact KrB.plain_19 h3 (G.few.mono (by omega)) gv
theorem both_20 (E : Env w0 t r ps C L) (G : Gv w0 kA km kc ks gv A c ls B d ss) : Both w0 t r kA km kc gv 20 0 A c ls B d ss := by
  obtain ⟨g, hTb⟩ := env_tb E
  obtain ⟨g', hTr⟩ := env_tbr E
  refine both_mk (ls, (tlP (mk ps) ss [[66], [66]] [[66]]).1, (tlP (mk ps) ss [[66], [66]] [[66]]).2) (by first | exact G.hl | (rw [List.length_set]; exact G.hl)) (fun w hb => step_of kA km kc gv 20 0 A c ls B d ss (G.hA.below hb) (G.hB.below hb) G.hm G.hl (ls, (tlP (mk ps) ss [[66], [66]] [[66]]).1, (tlP (mk ps) ss [[66], [66]] [[66]]).2) (fun W b lo LV SV h1 h2 h3 => ?_)) (fun w hb => ?_)
  · have X := hTb lo W (hb.trans (h1.mono hb.size)) (Nat.le_trans hb.size h2)
    exact do_zero h3 (by unfold NoA; omega) (R := tlP (mk ps) ss [[66], [66]] [[66]]) (plain_ef (op := 20) rfl X h3 G.hm2 G.sl2)
  · rw [end_ag (R := tlP (mk ps) ss [[66], [66]] [[66]]) (S := rpush [66] (rwant [66] (rwant [66] ((ss, false))))) (by
      have h := ag_tl (mk ps) [[66], [66]] ss [66]
      simpa only [fitsL, List.foldr_cons, List.foldr_nil, want_I (mk ps), want_B (mk ps)] using h)]
    refine KrJ.stepR_plain (env_rlt E hb) kA km kc gv 20 0 A c ls B d ss (G.hA.below hb) (G.hB.below hb) G.hd G.hd2 G.hm G.hl 0 (by kernel_rfl) (.inl ⟨rfl, rfl⟩) (rpush [66] (rwant [66] (rwant [66] ((ss, false))))) (Nat.le_trans ((((G.few.want [66]).want [66]).push (d := [66]) (by simp))).1 (by omega)) (fun W b h1 h2 h3 => ?_)
    have X := hTr W (hb.trans (h1.mono hb.size))
    have hlb : w0.heap.size ≤ b := Nat.le_trans hb.size h2
    exact KrB.plain_20 h3 (G.few.mono (by omega)) gv
theorem both_21 (E : Env w0 t r ps C L) (G : Gv w0 kA km kc ks gv A c ls B d ss) : Both w0 t r kA km kc gv 21 0 A c ls B d ss := by
  obtain ⟨g, hTb⟩ := env_tb E
  obtain ⟨g', hTr⟩ := env_tbr E
  refine both_mk (ls, (eqrP ss).1, (eqrP ss).2) (by first | exact G.hl | (rw [List.length_set]; exact G.hl)) (fun w hb => step_of kA km kc gv 21 0 A c ls B d ss (G.hA.below hb) (G.hB.below hb) G.hm G.hl (ls, (eqrP ss).1, (eqrP ss).2) (fun W b lo LV SV h1 h2 h3 => ?_)) (fun w hb => ?_)
  · have X := hTb lo W (hb.trans (h1.mono hb.size)) (Nat.le_trans hb.size h2)
    exact do_zero h3 (by unfold NoA; omega) (R := eqrP ss) (plain_21 h3 G.hm2 G.sl2)
  · rw [end_ag (R := eqrP ss) (S := rpush [66] (rthing (rthing (ss, false)))) (ag_eqr ss)]
    refine KrJ.stepR_plain (env_rlt E hb) kA km kc gv 21 0 A c ls B d ss (G.hA.below hb) (G.hB.below hb) G.hd G.hd2 G.hm G.hl 0 (by kernel_rfl) (.inl ⟨rfl, rfl⟩) (rpush [66] (rthing (rthing (ss, false)))) (Nat.le_trans ((G.few.thing.thing.push (d := [66]) (by simp))).1 (by omega)) (fun W b h1 h2 h3 => ?_)
    have X := hTr W (hb.trans (h1.mono hb.size))
    have hlb : w0.heap.size ≤ b := Nat.le_trans hb.size h2
    exact KrB.plain_21 h3 (G.few.mono (by omega)) gv
theorem both_29 (E : Env w0 t r ps C L) (G : Gv w0 kA km kc ks gv A c ls B d ss) : Both w0 t r kA km kc gv 29 0 A c ls B d ss := by
  obtain ⟨g, hTb⟩ := env_tb E
  obtain ⟨g', hTr⟩ := env_tbr E
  refine both_mk (ls, (aloadP (mk ps) ss).1, (aloadP (mk ps) ss).2) (by first | exact G.hl | (rw [List.length_set]; exact G.hl)) (fun w hb => step_of kA km kc gv 29 0 A c ls B d ss (G.hA.below hb) (G.hB.below hb) G.hm G.hl (ls, (aloadP (mk ps) ss).1, (aloadP (mk ps) ss).2) (fun W b lo LV SV h1 h2 h3 => ?_)) (fun w hb => ?_)
  · have X := hTb lo W (hb.trans (h1.mono hb.size)) (Nat.le_trans hb.size h2)
    exact do_zero h3 (by unfold NoA; omega) (R := aloadP (mk ps) ss) (plain_aload X h3 G.hm2 G.sl2)
  · rw [end_ag (R := aloadP (mk ps) ss) (S := rpush (elemT (rtop (rwant [73] (ss, false)))).1 (rarr (rwant [73] (ss, false)))) (ag_aload _ ss)]
    refine KrJ.stepR_plain (env_rlt E hb) kA km kc gv 29 0 A c ls B d ss (G.hA.below hb) (G.hB.below hb) G.hd G.hd2 G.hm G.hl 0 (by kernel_rfl) (.inl ⟨rfl, rfl⟩) (rpush (elemT (rtop (rwant [73] (ss, false)))).1 (rarr (rwant [73] (ss, false)))) (Nat.le_trans (((G.few.want [73]).arr.push (Nat.le_trans (elem_len _) (G.few.want [73]).top))).1 (by omega)) (fun W b h1 h2 h3 => ?_)
    have X := hTr W (hb.trans (h1.mono hb.size))
    have hlb : w0.heap.size ≤ b := Nat.le_trans hb.size h2
    exact KrG.plain_29 gv (KrC.more_29 h3 (G.few.mono (by omega)) gv)
theorem both_30 (E : Env w0 t r ps C L) (G : Gv w0 kA km kc ks gv A c ls B d ss) : Both w0 t r kA km kc gv 30 0 A c ls B d ss := by
  obtain ⟨g, hTb⟩ := env_tb E
  obtain ⟨g', hTr⟩ := env_tbr E
  refine both_mk (ls, (astP (mk ps) ss).1, (astP (mk ps) ss).2) (by first | exact G.hl | (rw [List.length_set]; exact G.hl)) (fun w hb => step_of kA km kc gv 30 0 A c ls B d ss (G.hA.below hb) (G.hB.below hb) G.hm G.hl (ls, (astP (mk ps) ss).1, (astP (mk ps) ss).2) (fun W b lo LV SV h1 h2 h3 => ?_)) (fun w hb => ?_)
  · have X := hTb lo W (hb.trans (h1.mono hb.size)) (Nat.le_trans hb.size h2)
    exact do_zero h3 (by unfold NoA; omega) (R := astP (mk ps) ss) (plain_30 X h3 G.hm2 G.sl2)
  · rw [end_ag (R := astP (mk ps) ss) (S := rneed ((mk ps).sub (rtop (ss, false)) (elemT (rtop (rwant [73] (rpop (ss, false))))).1) (rarr (rwant [73] (rpop (ss, false))))) (ag_astore _ ss)]
    refine KrJ.stepR_plain (env_rlt E hb) kA km kc gv 30 0 A c ls B d ss (G.hA.below hb) (G.hB.below hb) G.hd G.hd2 G.hm G.hl 0 (by kernel_rfl) (.inl ⟨rfl, rfl⟩) (rneed ((mk ps).sub (rtop (ss, false)) (elemT (rtop (rwant [73] (rpop (ss, false))))).1) (rarr (rwant [73] (rpop (ss, false))))) (Nat.le_trans (((G.few.pop.want [73]).arr.need _)).1 (by omega)) (fun W b h1 h2 h3 => ?_)
    have X := hTr W (hb.trans (h1.mono hb.size))
    have hlb : w0.heap.size ≤ b := Nat.le_trans hb.size h2
    exact KrG.plain_30 gv (KrC.more_30 X hlb h3 (G.few.mono (by omega)) gv)
theorem both_31 (E : Env w0 t r ps C L) (G : Gv w0 kA km kc ks gv A c ls B d ss) : Both w0 t r kA km kc gv 31 0 A c ls B d ss := by
  obtain ⟨g, hTb⟩ := env_tb E
  obtain ⟨g', hTr⟩ := env_tbr E
  refine both_mk (ls, (alenP ss).1, (alenP ss).2) (by first | exact G.hl | (rw [List.length_set]; exact G.hl)) (fun w hb => step_of kA km kc gv 31 0 A c ls B d ss (G.hA.below hb) (G.hB.below hb) G.hm G.hl (ls, (alenP ss).1, (alenP ss).2) (fun W b lo LV SV h1 h2 h3 => ?_)) (fun w hb => ?_)
  · have X := hTb lo W (hb.trans (h1.mono hb.size)) (Nat.le_trans hb.size h2)
    exact do_zero h3 (by unfold NoA; omega) (R := alenP ss) (plain_31 h3 G.hm2 G.sl2)
  · rw [end_ag (R := alenP ss) (S := rpush [73] (rarr (ss, false))) (ag_alen ss)]
    refine KrJ.stepR_plain (env_rlt E hb) kA km kc gv 31 0 A c ls B d ss (G.hA.below hb) (G.hB.below hb) G.hd G.hd2 G.hm G.hl 0 (by kernel_rfl) (.inl ⟨rfl, rfl⟩) (rpush [73] (rarr (ss, false))) (Nat.le_trans ((G.few.arr.push (d := [73]) (by simp))).1 (by omega)) (fun W b h1 h2 h3 => ?_)
    have X := hTr W (hb.trans (h1.mono hb.size))
    have hlb : w0.heap.size ≤ b := Nat.le_trans hb.size h2
    exact KrG.plain_31 gv (KrB.more_31 h3 (G.few.mono (by omega)) gv)
theorem both_33 (E : Env w0 t r ps C L) (G : Gv w0 kA km kc ks gv A c ls B d ss) : Both w0 t r kA km kc gv 33 0 A c ls B d ss := by
  obtain ⟨g, hTb⟩ := env_tb E
  obtain ⟨g', hTr⟩ := env_tbr E
  refine both_mk (ls, (takeP (mk ps) ss [gv]).1, (takeP (mk ps) ss [gv]).2) (by first | exact G.hl | (rw [List.length_set]; exact G.hl)) (fun w hb => step_of kA km kc gv 33 0 A c ls B d ss (G.hA.below hb) (G.hB.below hb) G.hm G.hl (ls, (takeP (mk ps) ss [gv]).1, (takeP (mk ps) ss [gv]).2) (fun W b lo LV SV h1 h2 h3 => ?_)) (fun w hb => ?_)
  · have X := hTb lo W (hb.trans (h1.mono hb.size)) (Nat.le_trans hb.size h2)
    exact do_zero h3 (by unfold NoA; omega) (R := takeP (mk ps) ss [gv]) (plain_33 X h3 G.hm2 G.sl2 G.gl2)
  · rw [end_ag (R := takeP (mk ps) ss [gv]) (S := rfits (mk ps) gv (rneed (!(gv == [86])) (ss, false))) (ag_ret _ gv ss)]
    refine KrJ.stepR_plain (env_rlt E hb) kA km kc gv 33 0 A c ls B d ss (G.hA.below hb) (G.hB.below hb) G.hd G.hd2 G.hm G.hl 0 (by kernel_rfl) (.inl ⟨rfl, rfl⟩) (rfits (mk ps) gv (rneed (!(gv == [86])) (ss, false))) (Nat.le_trans (((G.few.need _).fits (mk ps) gv)).1 (by omega)) (fun W b h1 h2 h3 => ?_)
    have X := hTr W (hb.trans (h1.mono hb.size))
    have hlb : w0.heap.size ≤ b := Nat.le_trans hb.size h2
    exact KrG.plain_33 gv (KrC.more_33 X hlb h3 (G.few.mono (by omega)) gv G.hgl)
theorem both_34 (E : Env w0 t r ps C L) (G : Gv w0 kA km kc ks gv A c ls B d ss) : Both w0 t r kA km kc gv 34 0 A c ls B d ss := by
  obtain ⟨g, hTb⟩ := env_tb E
  obtain ⟨g', hTr⟩ := env_tbr E
  refine both_mk (ls, ((ss, gv == [86])).1, ((ss, gv == [86])).2) (by first | exact G.hl | (rw [List.length_set]; exact G.hl)) (fun w hb => step_of kA km kc gv 34 0 A c ls B d ss (G.hA.below hb) (G.hB.below hb) G.hm G.hl (ls, ((ss, gv == [86])).1, ((ss, gv == [86])).2) (fun W b lo LV SV h1 h2 h3 => ?_)) (fun w hb => ?_)
  · have X := hTb lo W (hb.trans (h1.mono hb.size)) (Nat.le_trans hb.size h2)
    exact do_zero h3 (by unfold NoA; omega) (R := (ss, gv == [86])) (plain_34 h3)
  · rw [end_ag (R := (ss, gv == [86])) (S := rneed (gv == [86]) (ss, false)) (ag_retv gv ss)]
    refine KrJ.stepR_plain (env_rlt E hb) kA km kc gv 34 0 A c ls B d ss (G.hA.below hb) (G.hB.below hb) G.hd G.hd2 G.hm G.hl 0 (by kernel_rfl) (.inl ⟨rfl, rfl⟩) (rneed (gv == [86]) (ss, false)) (Nat.le_trans ((G.few.need _)).1 (by omega)) (fun W b h1 h2 h3 => ?_)
    have X := hTr W (hb.trans (h1.mono hb.size))
    have hlb : w0.heap.size ≤ b := Nat.le_trans hb.size h2
    exact KrG.plain_34 gv (KrC.more_34 h3 gv)
theorem both_35 (E : Env w0 t r ps C L) (G : Gv w0 kA km kc ks gv A c ls B d ss) : Both w0 t r kA km kc gv 35 0 A c ls B d ss := by
  obtain ⟨g, hTb⟩ := env_tb E
  obtain ⟨g', hTr⟩ := env_tbr E
  refine both_mk (ls, (takeP (mk ps) ss [tE]).1, (takeP (mk ps) ss [tE]).2) (by first | exact G.hl | (rw [List.length_set]; exact G.hl)) (fun w hb => step_of kA km kc gv 35 0 A c ls B d ss (G.hA.below hb) (G.hB.below hb) G.hm G.hl (ls, (takeP (mk ps) ss [tE]).1, (takeP (mk ps) ss [tE]).2) (fun W b lo LV SV h1 h2 h3 => ?_)) (fun w hb => ?_)
  · have X := hTb lo W (hb.trans (h1.mono hb.size)) (Nat.le_trans hb.size h2)
    exact do_zero h3 (by unfold NoA; omega) (R := takeP (mk ps) ss [tE]) (plain_35 X h3 G.hm2 G.sl2)
  · rw [end_ag (R := takeP (mk ps) ss [tE]) (S := rfits (mk ps) [76, 69, 120, 99, 59] (ss, false)) (ag_take _ [tE] ss)]
    refine KrJ.stepR_plain (env_rlt E hb) kA km kc gv 35 0 A c ls B d ss (G.hA.below hb) (G.hB.below hb) G.hd G.hd2 G.hm G.hl 0 (by kernel_rfl) (.inl ⟨rfl, rfl⟩) (rfits (mk ps) [76, 69, 120, 99, 59] (ss, false)) (Nat.le_trans ((G.few.fits (mk ps) _)).1 (by omega)) (fun W b h1 h2 h3 => ?_)
    have X := hTr W (hb.trans (h1.mono hb.size))
    have hlb : w0.heap.size ≤ b := Nat.le_trans hb.size h2
    exact KrG.plain_35 gv (KrB.more_35 X hlb h3 (G.few.mono (by omega)) gv)
theorem both_36 (E : Env w0 t r ps C L) (G : Gv w0 kA km kc ks gv A c ls B d ss) : Both w0 t r kA km kc gv 36 0 A c ls B d ss := by
  obtain ⟨g, hTb⟩ := env_tb E
  obtain ⟨g', hTr⟩ := env_tbr E
  refine both_mk (ls, (thP ss).1, (thP ss).2) (by first | exact G.hl | (rw [List.length_set]; exact G.hl)) (fun w hb => step_of kA km kc gv 36 0 A c ls B d ss (G.hA.below hb) (G.hB.below hb) G.hm G.hl (ls, (thP ss).1, (thP ss).2) (fun W b lo LV SV h1 h2 h3 => ?_)) (fun w hb => ?_)
  · have X := hTb lo W (hb.trans (h1.mono hb.size)) (Nat.le_trans hb.size h2)
    exact do_zero h3 (by unfold NoA; omega) (R := thP ss) (plain_36 h3 G.hm2 G.sl2)
  · rw [end_ag (R := thP ss) (S := rthing (ss, false)) (ag_thing ss)]
    refine KrJ.stepR_plain (env_rlt E hb) kA km kc gv 36 0 A c ls B d ss (G.hA.below hb) (G.hB.below hb) G.hd G.hd2 G.hm G.hl 0 (by kernel_rfl) (.inl ⟨rfl, rfl⟩) (rthing (ss, false)) (Nat.le_trans (G.few.thing).1 (by omega)) (fun W b h1 h2 h3 => ?_)
    have X := hTr W (hb.trans (h1.mono hb.size))
    have hlb : w0.heap.size ≤ b := Nat.le_trans hb.size h2
    exact KrG.plain_36 gv (KrB.more_36 h3 (G.few.mono (by omega)) gv)
theorem both_37 (E : Env w0 t r ps C L) (G : Gv w0 kA km kc ks gv A c ls B d ss) : Both w0 t r kA km kc gv 37 0 A c ls B d ss := by
  obtain ⟨g, hTb⟩ := env_tb E
  obtain ⟨g', hTr⟩ := env_tbr E
  refine both_mk (ls, (thP ss).1, (thP ss).2) (by first | exact G.hl | (rw [List.length_set]; exact G.hl)) (fun w hb => step_of kA km kc gv 37 0 A c ls B d ss (G.hA.below hb) (G.hB.below hb) G.hm G.hl (ls, (thP ss).1, (thP ss).2) (fun W b lo LV SV h1 h2 h3 => ?_)) (fun w hb => ?_)
  · have X := hTb lo W (hb.trans (h1.mono hb.size)) (Nat.le_trans hb.size h2)
    exact do_zero h3 (by unfold NoA; omega) (R := thP ss) (plain_37 h3 G.hm2 G.sl2)
  · rw [end_ag (R := thP ss) (S := rthing (ss, false)) (ag_thing ss)]
    refine KrJ.stepR_plain (env_rlt E hb) kA km kc gv 37 0 A c ls B d ss (G.hA.below hb) (G.hB.below hb) G.hd G.hd2 G.hm G.hl 0 (by kernel_rfl) (.inl ⟨rfl, rfl⟩) (rthing (ss, false)) (Nat.le_trans (G.few.thing).1 (by omega)) (fun W b h1 h2 h3 => ?_)
    have X := hTr W (hb.trans (h1.mono hb.size))
    have hlb : w0.heap.size ≤ b := Nat.le_trans hb.size h2
    exact KrG.plain_37 gv (KrB.more_37 h3 (G.few.mono (by omega)) gv)
theorem both_40 (E : Env w0 t r ps C L) (G : Gv w0 kA km kc ks gv A c ls B d ss) : Both w0 t r kA km kc gv 40 0 A c ls B d ss := by
  obtain ⟨g, hTb⟩ := env_tb E
  obtain ⟨g', hTr⟩ := env_tbr E
  refine both_mk (ls, (((popP ss).2.1, prB (popP ss).1)).1, (((popP ss).2.1, prB (popP ss).1)).2) (by first | exact G.hl | (rw [List.length_set]; exact G.hl)) (fun w hb => step_of kA km kc gv 40 0 A c ls B d ss (G.hA.below hb) (G.hB.below hb) G.hm G.hl (ls, (((popP ss).2.1, prB (popP ss).1)).1, (((popP ss).2.1, prB (popP ss).1)).2) (fun W b lo LV SV h1 h2 h3 => ?_)) (fun w hb => ?_)
  · have X := hTb lo W (hb.trans (h1.mono hb.size)) (Nat.le_trans hb.size h2)
    exact do_zero h3 (by unfold NoA; omega) (R := ((popP ss).2.1, prB (popP ss).1)) (plain_40 h3 G.hm2)
  · rw [end_ag (R := ((popP ss).2.1, prB (popP ss).1)) (S := rneed (KrC.shown (rtop (ss, false))) (rpop (ss, false))) (ag_print ss)]
    refine KrJ.stepR_plain (env_rlt E hb) kA km kc gv 40 0 A c ls B d ss (G.hA.below hb) (G.hB.below hb) G.hd G.hd2 G.hm G.hl 0 (by kernel_rfl) (.inl ⟨rfl, rfl⟩) (rneed (KrC.shown (rtop (ss, false))) (rpop (ss, false))) (Nat.le_trans ((G.few.pop.need _)).1 (by omega)) (fun W b h1 h2 h3 => ?_)
    have X := hTr W (hb.trans (h1.mono hb.size))
    have hlb : w0.heap.size ≤ b := Nat.le_trans hb.size h2
    exact KrG.plain_40 gv (KrC.more_40 h3 (G.few.mono (by omega)) gv)
theorem both_42 (E : Env w0 t r ps C L) (G : Gv w0 kA km kc ks gv A c ls B d ss) : Both w0 t r kA km kc gv 42 0 A c ls B d ss := by
  obtain ⟨g, hTb⟩ := env_tb E
  obtain ⟨g', hTr⟩ := env_tbr E
  refine both_mk (ls, (tlP (mk ps) ss [[83], [83]] [[83]]).1, (tlP (mk ps) ss [[83], [83]] [[83]]).2) (by first | exact G.hl | (rw [List.length_set]; exact G.hl)) (fun w hb => step_of kA km kc gv 42 0 A c ls B d ss (G.hA.below hb) (G.hB.below hb) G.hm G.hl (ls, (tlP (mk ps) ss [[83], [83]] [[83]]).1, (tlP (mk ps) ss [[83], [83]] [[83]]).2) (fun W b lo LV SV h1 h2 h3 => ?_)) (fun w hb => ?_)
  · have X := hTb lo W (hb.trans (h1.mono hb.size)) (Nat.le_trans hb.size h2)
    exact do_zero h3 (by unfold NoA; omega) (R := tlP (mk ps) ss [[83], [83]] [[83]]) (plain_42 X h3 G.hm2 G.sl2)
  · rw [end_ag (R := tlP (mk ps) ss [[83], [83]] [[83]]) (S := rpush [83] (rfits (mk ps) [83] (rfits (mk ps) [83] (ss, false)))) (ag_tl _ [[83], [83]] ss [83])]
    refine KrJ.stepR_plain (env_rlt E hb) kA km kc gv 42 0 A c ls B d ss (G.hA.below hb) (G.hB.below hb) G.hd G.hd2 G.hm G.hl 0 (by kernel_rfl) (.inl ⟨rfl, rfl⟩) (rpush [83] (rfits (mk ps) [83] (rfits (mk ps) [83] (ss, false)))) (Nat.le_trans ((((G.few.fits (mk ps) _).fits (mk ps) _).push (d := [83]) (by simp))).1 (by omega)) (fun W b h1 h2 h3 => ?_)
    have X := hTr W (hb.trans (h1.mono hb.size))
    have hlb : w0.heap.size ≤ b := Nat.le_trans hb.size h2
    exact KrG.plain_42 gv (KrB.more_42 X hlb h3 (G.few.mono (by omega)) gv)
theorem both_43 (E : Env w0 t r ps C L) (G : Gv w0 kA km kc ks gv A c ls B d ss) : Both w0 t r kA km kc gv 43 0 A c ls B d ss := by
  obtain ⟨g, hTb⟩ := env_tb E
  obtain ⟨g', hTr⟩ := env_tbr E
  refine both_mk (ls, (tlP (mk ps) ss [[83]] [[73]]).1, (tlP (mk ps) ss [[83]] [[73]]).2) (by first | exact G.hl | (rw [List.length_set]; exact G.hl)) (fun w hb => step_of kA km kc gv 43 0 A c ls B d ss (G.hA.below hb) (G.hB.below hb) G.hm G.hl (ls, (tlP (mk ps) ss [[83]] [[73]]).1, (tlP (mk ps) ss [[83]] [[73]]).2) (fun W b lo LV SV h1 h2 h3 => ?_)) (fun w hb => ?_)
  · have X := hTb lo W (hb.trans (h1.mono hb.size)) (Nat.le_trans hb.size h2)
    exact do_zero h3 (by unfold NoA; omega) (R := tlP (mk ps) ss [[83]] [[73]]) (plain_43 X h3 G.hm2 G.sl2)
  · rw [end_ag (R := tlP (mk ps) ss [[83]] [[73]]) (S := rpush [73] (rfits (mk ps) [83] (ss, false))) (ag_tl _ [[83]] ss [73])]
    refine KrJ.stepR_plain (env_rlt E hb) kA km kc gv 43 0 A c ls B d ss (G.hA.below hb) (G.hB.below hb) G.hd G.hd2 G.hm G.hl 0 (by kernel_rfl) (.inl ⟨rfl, rfl⟩) (rpush [73] (rfits (mk ps) [83] (ss, false))) (Nat.le_trans (((G.few.fits (mk ps) _).push (d := [73]) (by simp))).1 (by omega)) (fun W b h1 h2 h3 => ?_)
    have X := hTr W (hb.trans (h1.mono hb.size))
    have hlb : w0.heap.size ≤ b := Nat.le_trans hb.size h2
    exact KrG.plain_43 gv (KrB.more_43 X hlb h3 (G.few.mono (by omega)) gv)
theorem both_44 (E : Env w0 t r ps C L) (G : Gv w0 kA km kc ks gv A c ls B d ss) : Both w0 t r kA km kc gv 44 0 A c ls B d ss := by
  obtain ⟨lo1, g1, mb, n, TA, cc, f, hTa, hTot⟩ := E.ta
  obtain ⟨g', hTr⟩ := env_tbr E
  refine both_mk (ls, (spawnP C ss).1, (spawnP C ss).2) (by first | exact G.hl | (rw [List.length_set]; exact G.hl)) (fun w hb => step_of kA km kc gv 44 0 A c ls B d ss (G.hA.below hb) (G.hB.below hb) G.hm G.hl (ls, (spawnP C ss).1, (spawnP C ss).2) (fun W b lo LV SV h1 h2 h3 => ?_)) (fun w hb => ?_)
  · exact do_zero h3 (by unfold NoA; omega) (R := spawnP C ss) (plain_44 hTa hTot (hb.trans (h1.mono hb.size)) (Nat.le_trans hb.size h2) h3 G.hm2 G.hsl)
  · rw [end_ag (R := spawnP C ss) (S := rneed (KrC.runB (fun q => (hav L q).2) (rtop (ss, false))) (rpop (ss, false))) (ag_spawn C _ (fun q => by rw [E.hv]) ss)]
    refine KrJ.stepR_plain (env_rlt E hb) kA km kc gv 44 0 A c ls B d ss (G.hA.below hb) (G.hB.below hb) G.hd G.hd2 G.hm G.hl 0 (by kernel_rfl) (.inl ⟨rfl, rfl⟩) (rneed (KrC.runB (fun q => (hav L q).2) (rtop (ss, false))) (rpop (ss, false))) (Nat.le_trans (G.few.pop.need _).1 (by omega)) (fun W b h1 h2 h3 => ?_)
    have hbW := hb.trans (h1.mono hb.size)
    have X := hTr W hbW
    have hlb : w0.heap.size ≤ b := Nat.le_trans hb.size h2
    exact KrG.plain_44 gv (KrC.more_44 X hlb h3 (G.few.mono (by omega)) (fun W2 hb2 q => env_meth E q _ W2 (hbW.trans hb2)) gv)
theorem both_22 (E : Env w0 t r ps C L) (G : Gv w0 kA km kc ks gv A c ls B d ss) : Both w0 t r kA km kc gv 22 a A c ls B d ss := by
  refine both_mk (ls, ss, true) (by first | exact G.hl | (rw [List.length_set]; exact G.hl)) (fun w hb => step_of kA km kc gv 22 a A c ls B d ss (G.hA.below hb) (G.hB.below hb) G.hm G.hl (ls, ss, true) (fun W b lo LV SV h1 h2 h3 => do_jump h3)) (fun w hb => ?_)
  exact KrJ.stepR_plain (env_rlt E hb) kA km kc gv 22 a A c ls B d ss (G.hA.below hb) (G.hB.below hb) G.hd G.hd2 G.hm G.hl 7 (by kernel_rfl) (.inr rfl) (ss, false) (Nat.le_trans G.hm (by omega)) (fun W b h1 h2 h3 => KrB.plain_22 h3 (G.few.mono (by omega)) gv)
theorem both_23 (E : Env w0 t r ps C L) (G : Gv w0 kA km kc ks gv A c ls B d ss) : Both w0 t r kA km kc gv 23 a A c ls B d ss := by
  obtain ⟨g, hTb⟩ := env_tb E
  refine both_mk (ls, (takeP (mk ps) ss [tB]).1, (takeP (mk ps) ss [tB]).2) (by first | exact G.hl | (rw [List.length_set]; exact G.hl)) (fun w hb => step_of kA km kc gv 23 a A c ls B d ss (G.hA.below hb) (G.hB.below hb) G.hm G.hl (ls, (takeP (mk ps) ss [tB]).1, (takeP (mk ps) ss [tB]).2) (fun W b lo LV SV h1 h2 h3 => ?_)) (fun w hb => ?_)
  · exact do_if (by omega) (hTb lo W (hb.trans (h1.mono hb.size)) (Nat.le_trans hb.size h2)) h3 G.hm2 G.sl2
  · rw [end_ag (R := takeP (mk ps) ss [tB]) (S := rwant [66] (ss, false)) (ag_wB _ ss)]
    exact KrJ.stepR_plain (env_rlt E hb) kA km kc gv 23 a A c ls B d ss (G.hA.below hb) (G.hB.below hb) G.hd G.hd2 G.hm G.hl 7 (by kernel_rfl) (.inr rfl) (rwant [66] (ss, false)) (Nat.le_trans (G.few.want [66]).1 (by omega)) (fun W b h1 h2 h3 => KrB.plain_23 h3 (G.few.mono (by omega)) gv)
theorem both_24 (E : Env w0 t r ps C L) (G : Gv w0 kA km kc ks gv A c ls B d ss) : Both w0 t r kA km kc gv 24 a A c ls B d ss := by
  obtain ⟨g, hTb⟩ := env_tb E
  refine both_mk (ls, (takeP (mk ps) ss [tB]).1, (takeP (mk ps) ss [tB]).2) (by first | exact G.hl | (rw [List.length_set]; exact G.hl)) (fun w hb => step_of kA km kc gv 24 a A c ls B d ss (G.hA.below hb) (G.hB.below hb) G.hm G.hl (ls, (takeP (mk ps) ss [tB]).1, (takeP (mk ps) ss [tB]).2) (fun W b lo LV SV h1 h2 h3 => ?_)) (fun w hb => ?_)
  · exact do_if (by omega) (hTb lo W (hb.trans (h1.mono hb.size)) (Nat.le_trans hb.size h2)) h3 G.hm2 G.sl2
  · rw [end_ag (R := takeP (mk ps) ss [tB]) (S := rwant [66] (ss, false)) (ag_wB _ ss)]
    exact KrJ.stepR_plain (env_rlt E hb) kA km kc gv 24 a A c ls B d ss (G.hA.below hb) (G.hB.below hb) G.hd G.hd2 G.hm G.hl 7 (by kernel_rfl) (.inr rfl) (rwant [66] (ss, false)) (Nat.le_trans (G.few.want [66]).1 (by omega)) (fun W b h1 h2 h3 => KrB.plain_24 h3 (G.few.mono (by omega)) gv)
theorem both_not (E : Env w0 t r ps C L) (G : Gv w0 kA km kc ks gv A c ls B d ss) (hop : NoA op) (hk : kindI op = 0) (ha : a ≠ 0) : Both w0 t r kA km kc gv op a A c ls B d ss := by
  refine both_mk (ls, ss, false) (by first | exact G.hl | (rw [List.length_set]; exact G.hl)) (fun w hb => step_of kA km kc gv op a A c ls B d ss (G.hA.below hb) (G.hB.below hb) G.hm G.hl (ls, ss, false) (fun W b lo LV SV h1 h2 h3 => do_not h3 hop ha)) (fun w hb => ?_)
  exact KrJ.stepR_bad0 (env_rlt E hb) kA km kc gv op a A c ls B d ss (G.hA.below hb) (G.hB.below hb) G.hd G.hd2 G.hm G.hl 0 hk (.inr ⟨rfl, ha⟩)
theorem both_out (E : Env w0 t r ps C L) (G : Gv w0 kA km kc ks gv A c ls B d ss) (hop : ¬ (0 ≤ op ∧ op < 46)) : Both w0 t r kA km kc gv op a A c ls B d ss := by
  have hn : NoA op := by unfold NoA; omega
  refine both_mk (ls, ss, false) (by first | exact G.hl | (rw [List.length_set]; exact G.hl)) (fun w hb => step_of kA km kc gv op a A c ls B d ss (G.hA.below hb) (G.hB.below hb) G.hm G.hl (ls, ss, false) (fun W b lo LV SV h1 h2 h3 => ?_)) (fun w hb => ?_)
  · by_cases h0 : a = 0
    · subst h0
      exact do_zero h3 hn (R := (ss, false)) (plain_no h3 (fun k _ _ => by omega))
    · exact do_not h3 hn h0
  · exact KrJ.stepR_bad0 (env_rlt E hb) kA km kc gv op a A c ls B d ss (G.hA.below hb) (G.hB.below hb) G.hd G.hd2 G.hm G.hl (-1) (kind_out hop) (.inl rfl)
theorem both_load (E : Env w0 t r ps C L) (G : Gv w0 kA km kc ks gv A c ls B d ss) (hll : ∀ x ∈ ls, x.length ≤ 140737488351232) : Both w0 t r kA km kc gv 6 a A c ls B d ss := by
  by_cases hin : 0 ≤ a ∧ a < (ls.length : Int)
  · refine both_mk (ls, (loadP a ls ss).1, (loadP a ls ss).2) (by first | exact G.hl | (rw [List.length_set]; exact G.hl)) (fun w hb => step_of kA km kc gv 6 a A c ls B d ss (G.hA.below hb) (G.hB.below hb) G.hm G.hl (ls, (loadP a ls ss).1, (loadP a ls ss).2) (fun W b lo LV SV h1 h2 h3 => do_local h3 (.inl rfl) (R := (ls, (loadP a ls ss).1, (loadP a ls ss).2)) ((local_load h3 G.hm2).mono fun _ _ h => givesD h))) (fun w hb => ?_)
    rw [end_ag (R := loadP a ls ss) (ag_load a ls ss hin)]
    obtain ⟨i, rfl⟩ : ∃ i : Nat, a = (i : Int) := ⟨a.toNat, by omega⟩
    have hi : i < ls.length := by omega
    have e : ls.getD (i : Int).toNat [] = ls[i] := by rw [Int.toNat_natCast, List.getD_eq_getElem?_getD, List.getElem?_eq_getElem hi]; rfl
    rw [e]
    have hl := hll _ (List.getElem_mem hi)
    cases hz : ls[i] with
    | nil => exact KrL.stepR_loadn (env_rlt E hb) kA km kc gv 6 i A c ls B d ss (G.hA.below hb) (G.hB.below hb) G.hd G.hd2 G.hm G.hl G.hsl i rfl rfl hi (by kernel_rfl) hz
    | cons x0 xs =>
      rw [hz] at hl
      exact KrL.stepR_loadc (env_rlt E hb) kA km kc gv 6 i A c ls B d ss (G.hA.below hb) (G.hB.below hb) G.hd G.hd2 G.hm G.hl G.hsl i rfl rfl hi (by kernel_rfl) x0 xs hl hz
  · have hl : loadP a ls ss = (ss, false) := by unfold loadP; rw [if_neg hin]
    refine both_mk (ls, ss, false) (by first | exact G.hl | (rw [List.length_set]; exact G.hl)) (fun w hb => step_of kA km kc gv 6 a A c ls B d ss (G.hA.below hb) (G.hB.below hb) G.hm G.hl (ls, ss, false) (fun W b lo LV SV h1 h2 h3 => do_local h3 (.inl rfl) (R := (ls, ss, false)) ((local_load h3 G.hm2).mono fun _ _ h => by rw [hl] at h; exact givesD h))) (fun w hb => ?_)
    exact KrJ.stepR_bad6 (env_rlt E hb) kA km kc gv 6 a A c ls B d ss (G.hA.below hb) (G.hB.below hb) G.hd G.hd2 G.hm G.hl (by kernel_rfl) hin
theorem both_store (E : Env w0 t r ps C L) (G : Gv w0 kA km kc ks gv A c ls B d ss) : Both w0 t r kA km kc gv 7 a A c ls B d ss := by
  by_cases hin : 0 ≤ a ∧ a < (ls.length : Int)
  · have hs : storeP a ls ss = (ls.set a.toNat (popP ss).1, (popP ss).2.1, (popP ss).2.2) := by unfold storeP; rw [if_pos hin]
    refine both_mk (ls.set a.toNat (popP ss).1, (popP ss).2.1, (popP ss).2.2) (by first | exact G.hl | (rw [List.length_set]; exact G.hl)) (fun w hb => step_of kA km kc gv 7 a A c ls B d ss (G.hA.below hb) (G.hB.below hb) G.hm G.hl (ls.set a.toNat (popP ss).1, (popP ss).2.1, (popP ss).2.2) (fun W b lo LV SV h1 h2 h3 => do_local h3 (.inr rfl) (R := (ls.set a.toNat (popP ss).1, (popP ss).2.1, (popP ss).2.2)) ((local_store h3 G.hm2).mono fun _ _ h => by rw [hs] at h; exact givesD h))) (fun w hb => ?_)
    obtain ⟨i, rfl⟩ : ∃ i : Nat, a = (i : Int) := ⟨a.toNat, by omega⟩
    rw [Int.toNat_natCast]
    exact KrM.stepR_store (env_rlt E hb) kA km kc gv 7 i A c ls B d ss (G.hA.below hb) (G.hB.below hb) G.hd G.hd2 G.hm G.hl G.hsl i rfl rfl (by kernel_rfl) (by omega)
  · have hs : storeP a ls ss = (ls, ss, false) := by unfold storeP; rw [if_neg hin]
    refine both_mk (ls, ss, false) (by first | exact G.hl | (rw [List.length_set]; exact G.hl)) (fun w hb => step_of kA km kc gv 7 a A c ls B d ss (G.hA.below hb) (G.hB.below hb) G.hm G.hl (ls, ss, false) (fun W b lo LV SV h1 h2 h3 => do_local h3 (.inr rfl) (R := (ls, ss, false)) ((local_store h3 G.hm2).mono fun _ _ h => by rw [hs] at h; exact givesD h))) (fun w hb => ?_)
    exact KrJ.stepR_bad6 (env_rlt E hb) kA km kc gv 7 a A c ls B d ss (G.hA.below hb) (G.hB.below hb) G.hd G.hd2 G.hm G.hl (by kernel_rfl) hin
theorem const_in {k : Int} (h : (constP ks a k).2 = true) : ∃ i : Nat, ∃ hi : i < ks.length, a = (i : Int) ∧ ks[i].kind = k ∧ (constP ks a k).1 = ks[i] := by
  unfold constP at h ⊢
  by_cases hc : 0 ≤ a ∧ a < ks.length ∧ (ks.getD a.toNat noK).kind = k
  · rw [if_pos hc]
    obtain ⟨h0, h1, h2⟩ := hc
    obtain ⟨i, rfl⟩ : ∃ i : Nat, a = (i : Int) := ⟨a.toNat, by omega⟩
    have hi : i < ks.length := by omega
    have e : ks.getD (i : Int).toNat noK = ks[i] := by rw [Int.toNat_natCast, List.getD_eq_getElem?_getD, List.getElem?_eq_getElem hi]; rfl
    rw [e] at h2
    exact ⟨i, hi, rfl, h2, e⟩
  · rw [if_neg hc] at h; cases h
theorem const_out {k : Int} (h : (constP ks a k).2 = false) : ¬ (0 ≤ a ∧ a < (ks.length : Int)) ∨ ∃ i : Nat, ∃ hi : i < ks.length, a = (i : Int) ∧ ks[i].kind ≠ k := by
  by_cases hc : 0 ≤ a ∧ a < (ks.length : Int)
  · right
    obtain ⟨i, rfl⟩ : ∃ i : Nat, a = (i : Int) := ⟨a.toNat, by omega⟩
    have hi : i < ks.length := by omega
    refine ⟨i, hi, rfl, fun hk => ?_⟩
    have e : ks.getD (i : Int).toNat noK = ks[i] := by rw [Int.toNat_natCast, List.getD_eq_getElem?_getD, List.getElem?_eq_getElem hi]; rfl
    unfold constP at h
    rw [e, if_pos ⟨hc.1, hc.2, hk⟩] at h
    cases h
  · exact .inl hc
theorem doc_none (E : Env w0 t r ps C L) (G : Gv w0 kA km kc ks gv A c ls B d ss) {k : Int} (hki : kindI op = k) (hk1 : 1 ≤ k) (hk5 : k ≤ 5) (hn : (constP ks a k).2 = false) (w : World) (hb : Below w0.heap.size w0 w) :
    Calls Tryz.prog 10 #[.pointer (some ⟨r, 0, none⟩), .slice kA km kc, .string ⟨gv.toArray⟩, .agg #[.int .i64 op, .int .i64 a], .agg #[.slice A ls.length c, .slice B ss.length d]] w (GivesF w (endP (ls, ss, false))) := by
  rcases const_out hn with h | ⟨i, hi, ha, hne⟩
  · exact KrJ.stepR_badK (env_rlt E hb) kA km kc gv op a A c ls B d ss (G.hA.below hb) (G.hB.below hb) G.hd G.hd2 G.hm G.hl ks (G.hk.below hb) k hki hk1 hk5 h
  · exact KrJ.stepR_badN (env_rlt E hb) kA km kc gv op a A c ls B d ss (G.hA.below hb) (G.hB.below hb) G.hd G.hd2 G.hm G.hl ks (G.hk.below hb) k hki hk1 hk5 i ha hi hne
theorem both_none (E : Env w0 t r ps C L) (G : Gv w0 kA km kc ks gv A c ls B d ss) {k : Int} (hop : HasK op k) (hn : (constP ks a k).2 = false) : Both w0 t r kA km kc gv op a A c ls B d ss := by
  refine both_mk (ls, ss, false) (by first | exact G.hl | (rw [List.length_set]; exact G.hl)) (fun w hb => step_of kA km kc gv op a A c ls B d ss (G.hA.below hb) (G.hB.below hb) G.hm G.hl (ls, ss, false) (fun W b lo LV SV h1 h2 h3 => do_none h3 hop ks ((G.hk.below hb).below h1) hn)) (fun w hb => ?_)
  have hk : kindI op = k ∧ 1 ≤ k ∧ k ≤ 5 := by
    rcases hop with ⟨rfl, rfl⟩ | ⟨rfl, rfl⟩ | ⟨rfl, rfl⟩ | ⟨rfl, rfl⟩ | ⟨rfl, rfl⟩ | ⟨rfl, rfl⟩ | ⟨rfl, rfl⟩ | ⟨rfl, rfl⟩ | ⟨rfl, rfl⟩ <;> exact ⟨by kernel_rfl, by omega, by omega⟩
  exact doc_none E G hk.1 hk.2.1 hk.2.2 hn w hb
theorem both_45 (E : Env w0 t r ps C L) (G : Gv w0 kA km kc ks gv A c ls B d ss) : Both w0 t r kA km kc gv 45 a A c ls B d ss := by
  refine both_mk (ls, ss, false) (by first | exact G.hl | (rw [List.length_set]; exact G.hl)) (fun w hb => step_of kA km kc gv 45 a A c ls B d ss (G.hA.below hb) (G.hB.below hb) G.hm G.hl (ls, ss, false) (fun W b lo LV SV h1 h2 h3 => ?_)) (fun w hb => ?_)
  · by_cases h0 : a = 0
    · subst h0
      exact do_zero h3 (by unfold NoA; omega) (R := (ss, false)) (plain_no h3 (fun k _ _ => by omega))
    · exact do_not h3 (by unfold NoA; omega) h0
  · cases hn : (constP ks a 4).2 with
    | false => exact doc_none E G (k := 4) (by kernel_rfl) (by omega) (by omega) hn w hb
    | true =>
      obtain ⟨i, hi, ha, hkk, _⟩ := const_in hn
      exact KrJ.stepR_consts (env_rlt E hb) kA km kc gv 45 a A c ls B d ss (G.hA.below hb) (G.hB.below hb) G.hd G.hd2 G.hm G.hl ks (G.hk.below hb) 4 (by kernel_rfl) (by omega) (by omega) i ha hi hkk (ss, true) (Nat.le_trans G.hm (by omega)) (fun W b h1 h2 h3 => KrI.consts_45 (s := (ss, false)) h3 _ _ _ _ _ (G.hkl _ (List.getElem_mem _)).1)
theorem both_1 (E : Env w0 t r ps C L) (G : Gv w0 kA km kc ks gv A c ls B d ss) : Both w0 t r kA km kc gv 1 a A c ls B d ss := by
  cases hn : (constP ks a 1).2 with
  | false => exact both_none E G (k := 1) (by unfold HasK; omega) hn
  | true =>
  obtain ⟨g', hTr⟩ := env_tbr E
  obtain ⟨lo1, g1, mb, n, TA, cc, f, hTa, hTot⟩ := E.ta
  have hTb := tb_ta E.good hTa
  obtain ⟨i, hi, ha, hkk, hci⟩ := const_in hn
  have hx := G.hkl _ (List.getElem_mem hi)
  have hxi := hci
  generalize hz : ks[i] = z at *
  refine both_mk (ls, ((ss ++ [[73]], true)).1, ((ss ++ [[73]], true)).2) (by first | exact G.hl | (rw [List.length_set]; exact G.hl)) (fun w hb => step_of kA km kc gv 1 a A c ls B d ss (G.hA.below hb) (G.hB.below hb) G.hm G.hl (ls, ((ss ++ [[73]], true)).1, ((ss ++ [[73]], true)).2) (fun W b lo LV SV h1 h2 h3 => ?_)) (fun w hb => ?_)
  · have hbW := hb.trans (h1.mono hb.size)
    have hloW := Nat.le_trans hb.size h2
    have X := hTb lo W hbW hloW
    have hk := (G.hk.below hb).below h1
    exact do_leave h3 G.hm2 (.inl ⟨rfl, rfl, rfl⟩) ks hk hn
  · rw [end_ag (R := (ss ++ [[73]], true)) (S := rpush [73] (ss, false)) (ag_push [73])]
    refine KrJ.stepR_consts (env_rlt E hb) kA km kc gv 1 a A c ls B d ss (G.hA.below hb) (G.hB.below hb) G.hd G.hd2 G.hm G.hl ks (G.hk.below hb) 1 (by kernel_rfl) (by omega) (by omega) i ha hi (by rw [hz]; exact hkk) (rpush [73] (ss, false)) (Nat.le_trans (G.few.push (d := [73]) (by simp)).1 (by omega)) (fun W b h1 h2 h3 => ?_)
    rw [hz]
    have hbW := hb.trans (h1.mono hb.size)
    have X := hTr W hbW
    have hlb : w0.heap.size ≤ b := Nat.le_trans hb.size h2
    exact KrD.consts_1 (s := (ss, false)) h3 (G.few.mono (by omega)) _ _ _ _ _ hx.1
theorem both_2 (E : Env w0 t r ps C L) (G : Gv w0 kA km kc ks gv A c ls B d ss) : Both w0 t r kA km kc gv 2 a A c ls B d ss := by
  cases hn : (constP ks a 2).2 with
  | false => exact both_none E G (k := 2) (by unfold HasK; omega) hn
  | true =>
  obtain ⟨g', hTr⟩ := env_tbr E
  obtain ⟨lo1, g1, mb, n, TA, cc, f, hTa, hTot⟩ := E.ta
  have hTb := tb_ta E.good hTa
  obtain ⟨i, hi, ha, hkk, hci⟩ := const_in hn
  have hx := G.hkl _ (List.getElem_mem hi)
  have hxi := hci
  generalize hz : ks[i] = z at *
  refine both_mk (ls, ((ss ++ [[83]], true)).1, ((ss ++ [[83]], true)).2) (by first | exact G.hl | (rw [List.length_set]; exact G.hl)) (fun w hb => step_of kA km kc gv 2 a A c ls B d ss (G.hA.below hb) (G.hB.below hb) G.hm G.hl (ls, ((ss ++ [[83]], true)).1, ((ss ++ [[83]], true)).2) (fun W b lo LV SV h1 h2 h3 => ?_)) (fun w hb => ?_)
  · have hbW := hb.trans (h1.mono hb.size)
    have hloW := Nat.le_trans hb.size h2
    have X := hTb lo W hbW hloW
    have hk := (G.hk.below hb).below h1
    exact do_leave h3 G.hm2 (.inr ⟨rfl, rfl, rfl⟩) ks hk hn
  · rw [end_ag (R := (ss ++ [[83]], true)) (S := rpush [83] (ss, false)) (ag_push [83])]
    refine KrJ.stepR_consts (env_rlt E hb) kA km kc gv 2 a A c ls B d ss (G.hA.below hb) (G.hB.below hb) G.hd G.hd2 G.hm G.hl ks (G.hk.below hb) 2 (by kernel_rfl) (by omega) (by omega) i ha hi (by rw [hz]; exact hkk) (rpush [83] (ss, false)) (Nat.le_trans (G.few.push (d := [83]) (by simp)).1 (by omega)) (fun W b h1 h2 h3 => ?_)
    rw [hz]
    have hbW := hb.trans (h1.mono hb.size)
    have X := hTr W hbW
    have hlb : w0.heap.size ≤ b := Nat.le_trans hb.size h2
    exact KrD.consts_2 (s := (ss, false)) h3 (G.few.mono (by omega)) _ _ _ _ _ hx.1
theorem both_25 (E : Env w0 t r ps C L) (G : Gv w0 kA km kc ks gv A c ls B d ss) : Both w0 t r kA km kc gv 25 a A c ls B d ss := by
  cases hn : (constP ks a 3).2 with
  | false => exact both_none E G (k := 3) (by unfold HasK; omega) hn
  | true =>
  obtain ⟨g', hTr⟩ := env_tbr E
  obtain ⟨lo1, g1, mb, n, TA, cc, f, hTa, hTot⟩ := E.ta
  have hTb := tb_ta E.good hTa
  obtain ⟨i, hi, ha, hkk, hci⟩ := const_in hn
  have hx := G.hkl _ (List.getElem_mem hi)
  have hxi := hci
  generalize hz : ks[i] = z at *
  refine both_mk (ls, (newP (mk ps) z.s ss).1, (newP (mk ps) z.s ss).2) (by first | exact G.hl | (rw [List.length_set]; exact G.hl)) (fun w hb => step_of kA km kc gv 25 a A c ls B d ss (G.hA.below hb) (G.hB.below hb) G.hm G.hl (ls, (newP (mk ps) z.s ss).1, (newP (mk ps) z.s ss).2) (fun W b lo LV SV h1 h2 h3 => ?_)) (fun w hb => ?_)
  · have hbW := hb.trans (h1.mono hb.size)
    have hloW := Nat.le_trans hb.size h2
    have X := hTb lo W hbW hloW
    have hk := (G.hk.below hb).below h1
    exact do_typed h3 (by omega) ks hk hn (fun W2 hb2 => by rw [hci]; exact typed_new (hTb lo W2 (hbW.trans (hb2.mono hbW.size)) hloW) (h3.ext hb2) G.hm2 z.s (Nat.le_trans hx.1 (by omega)))
  · rw [end_ag (R := newP (mk ps) z.s ss) (S := rpush z.s (rneed ((classT z.s).2 && (mk ps).has (classT z.s).1) (ss, false))) (ag_new _ _ ss (known_new _ _))]
    refine KrJ.stepR_consts (env_rlt E hb) kA km kc gv 25 a A c ls B d ss (G.hA.below hb) (G.hB.below hb) G.hd G.hd2 G.hm G.hl ks (G.hk.below hb) 3 (by kernel_rfl) (by omega) (by omega) i ha hi (by rw [hz]; exact hkk) (rpush z.s (rneed ((classT z.s).2 && (mk ps).has (classT z.s).1) (ss, false))) (Nat.le_trans (((G.few.need _).push hx.1)).1 (by omega)) (fun W b h1 h2 h3 => ?_)
    rw [hz]
    have hbW := hb.trans (h1.mono hb.size)
    have X := hTr W hbW
    have hlb : w0.heap.size ≤ b := Nat.le_trans hb.size h2
    exact KrD.consts_25 (s := (ss, false)) h3 (G.few.mono (by omega)) _ _ _ _ _ hx.1 X hlb
theorem both_28 (E : Env w0 t r ps C L) (G : Gv w0 kA km kc ks gv A c ls B d ss) : Both w0 t r kA km kc gv 28 a A c ls B d ss := by
  cases hn : (constP ks a 3).2 with
  | false => exact both_none E G (k := 3) (by unfold HasK; omega) hn
  | true =>
  obtain ⟨g', hTr⟩ := env_tbr E
  obtain ⟨lo1, g1, mb, n, TA, cc, f, hTa, hTot⟩ := E.ta
  have hTb := tb_ta E.good hTa
  obtain ⟨i, hi, ha, hkk, hci⟩ := const_in hn
  have hx := G.hkl _ (List.getElem_mem hi)
  have hxi := hci
  generalize hz : ks[i] = z at *
  refine both_mk (ls, (arrP (mk ps) z.s ss).1, (arrP (mk ps) z.s ss).2) (by first | exact G.hl | (rw [List.length_set]; exact G.hl)) (fun w hb => step_of kA km kc gv 28 a A c ls B d ss (G.hA.below hb) (G.hB.below hb) G.hm G.hl (ls, (arrP (mk ps) z.s ss).1, (arrP (mk ps) z.s ss).2) (fun W b lo LV SV h1 h2 h3 => ?_)) (fun w hb => ?_)
  · have hbW := hb.trans (h1.mono hb.size)
    have hloW := Nat.le_trans hb.size h2
    have X := hTb lo W hbW hloW
    have hk := (G.hk.below hb).below h1
    exact do_typed h3 (by omega) ks hk hn (fun W2 hb2 => by rw [hci]; exact typed_arr (hTb lo W2 (hbW.trans (hb2.mono hbW.size)) hloW) (h3.ext hb2) G.hm2 G.sl2 z.s (Nat.le_trans hx.1 (by omega)))
  · rw [end_ag (R := arrP (mk ps) z.s ss) (S := rpush z.s (rwant [73] (rneed ((elemT z.s).2 == 0 && (mk ps).known z.s) (ss, false)))) (ag_arr _ _ ss)]
    refine KrJ.stepR_consts (env_rlt E hb) kA km kc gv 28 a A c ls B d ss (G.hA.below hb) (G.hB.below hb) G.hd G.hd2 G.hm G.hl ks (G.hk.below hb) 3 (by kernel_rfl) (by omega) (by omega) i ha hi (by rw [hz]; exact hkk) (rpush z.s (rwant [73] (rneed ((elemT z.s).2 == 0 && (mk ps).known z.s) (ss, false)))) (Nat.le_trans ((((G.few.need _).want [73]).push hx.1)).1 (by omega)) (fun W b h1 h2 h3 => ?_)
    rw [hz]
    have hbW := hb.trans (h1.mono hb.size)
    have X := hTr W hbW
    have hlb : w0.heap.size ≤ b := Nat.le_trans hb.size h2
    exact KrI.consts_28 (s := (ss, false)) h3 (G.few.mono (by omega)) _ _ _ _ _ hx.1 X hlb
theorem both_38 (E : Env w0 t r ps C L) (G : Gv w0 kA km kc ks gv A c ls B d ss) : Both w0 t r kA km kc gv 38 a A c ls B d ss := by
  cases hn : (constP ks a 3).2 with
  | false => exact both_none E G (k := 3) (by unfold HasK; omega) hn
  | true =>
  obtain ⟨g', hTr⟩ := env_tbr E
  obtain ⟨lo1, g1, mb, n, TA, cc, f, hTa, hTot⟩ := E.ta
  have hTb := tb_ta E.good hTa
  obtain ⟨i, hi, ha, hkk, hci⟩ := const_in hn
  have hx := G.hkl _ (List.getElem_mem hi)
  have hxi := hci
  generalize hz : ks[i] = z at *
  refine both_mk (ls, (castP (mk ps) z.s z.s ss).1, (castP (mk ps) z.s z.s ss).2) (by first | exact G.hl | (rw [List.length_set]; exact G.hl)) (fun w hb => step_of kA km kc gv 38 a A c ls B d ss (G.hA.below hb) (G.hB.below hb) G.hm G.hl (ls, (castP (mk ps) z.s z.s ss).1, (castP (mk ps) z.s z.s ss).2) (fun W b lo LV SV h1 h2 h3 => ?_)) (fun w hb => ?_)
  · have hbW := hb.trans (h1.mono hb.size)
    have hloW := Nat.le_trans hb.size h2
    have X := hTb lo W hbW hloW
    have hk := (G.hk.below hb).below h1
    exact do_typed h3 (by omega) ks hk hn (fun W2 hb2 => by rw [hci]; exact typed_38 (hTb lo W2 (hbW.trans (hb2.mono hbW.size)) hloW) (h3.ext hb2) G.hm2 G.sl2 z.s (Nat.le_trans hx.1 (by omega)))
  · rw [end_ag (R := castP (mk ps) z.s z.s ss) (S := rpush z.s (rthing (rneed ((mk ps).known z.s && refB z.s) (ss, false)))) (ag_cast _ _ _ ss)]
    refine KrJ.stepR_consts (env_rlt E hb) kA km kc gv 38 a A c ls B d ss (G.hA.below hb) (G.hB.below hb) G.hd G.hd2 G.hm G.hl ks (G.hk.below hb) 3 (by kernel_rfl) (by omega) (by omega) i ha hi (by rw [hz]; exact hkk) (rpush z.s (rthing (rneed ((mk ps).known z.s && refB z.s) (ss, false)))) (Nat.le_trans (((G.few.need _).thing.push hx.1)).1 (by omega)) (fun W b h1 h2 h3 => ?_)
    rw [hz]
    have hbW := hb.trans (h1.mono hb.size)
    have X := hTr W hbW
    have hlb : w0.heap.size ≤ b := Nat.le_trans hb.size h2
    exact KrD.consts_38 (s := (ss, false)) h3 (G.few.mono (by omega)) _ _ _ _ _ hx.1 X hlb
theorem both_39 (E : Env w0 t r ps C L) (G : Gv w0 kA km kc ks gv A c ls B d ss) : Both w0 t r kA km kc gv 39 a A c ls B d ss := by
  cases hn : (constP ks a 3).2 with
  | false => exact both_none E G (k := 3) (by unfold HasK; omega) hn
  | true =>
  obtain ⟨g', hTr⟩ := env_tbr E
  obtain ⟨lo1, g1, mb, n, TA, cc, f, hTa, hTot⟩ := E.ta
  have hTb := tb_ta E.good hTa
  obtain ⟨i, hi, ha, hkk, hci⟩ := const_in hn
  have hx := G.hkl _ (List.getElem_mem hi)
  have hxi := hci
  generalize hz : ks[i] = z at *
  refine both_mk (ls, (castP (mk ps) z.s tB ss).1, (castP (mk ps) z.s tB ss).2) (by first | exact G.hl | (rw [List.length_set]; exact G.hl)) (fun w hb => step_of kA km kc gv 39 a A c ls B d ss (G.hA.below hb) (G.hB.below hb) G.hm G.hl (ls, (castP (mk ps) z.s tB ss).1, (castP (mk ps) z.s tB ss).2) (fun W b lo LV SV h1 h2 h3 => ?_)) (fun w hb => ?_)
  · have hbW := hb.trans (h1.mono hb.size)
    have hloW := Nat.le_trans hb.size h2
    have X := hTb lo W hbW hloW
    have hk := (G.hk.below hb).below h1
    exact do_typed h3 (by omega) ks hk hn (fun W2 hb2 => by rw [hci]; exact typed_39 (hTb lo W2 (hbW.trans (hb2.mono hbW.size)) hloW) (h3.ext hb2) G.hm2 G.sl2 z.s (Nat.le_trans hx.1 (by omega)))
  · rw [end_ag (R := castP (mk ps) z.s tB ss) (S := rpush [66] (rthing (rneed ((mk ps).known z.s && refB z.s) (ss, false)))) (ag_cast _ _ _ ss)]
    refine KrJ.stepR_consts (env_rlt E hb) kA km kc gv 39 a A c ls B d ss (G.hA.below hb) (G.hB.below hb) G.hd G.hd2 G.hm G.hl ks (G.hk.below hb) 3 (by kernel_rfl) (by omega) (by omega) i ha hi (by rw [hz]; exact hkk) (rpush [66] (rthing (rneed ((mk ps).known z.s && refB z.s) (ss, false)))) (Nat.le_trans (((G.few.need _).thing.push (d := [66]) (by simp))).1 (by omega)) (fun W b h1 h2 h3 => ?_)
    rw [hz]
    have hbW := hb.trans (h1.mono hb.size)
    have X := hTr W hbW
    have hlb : w0.heap.size ≤ b := Nat.le_trans hb.size h2
    exact KrD.consts_39 (s := (ss, false)) h3 (G.few.mono (by omega)) _ _ _ _ _ hx.1 X hlb
theorem both_26 (E : Env w0 t r ps C L) (G : Gv w0 kA km kc ks gv A c ls B d ss) : Both w0 t r kA km kc gv 26 a A c ls B d ss := by
  cases hn : (constP ks a 4).2 with
  | false => exact both_none E G (k := 4) (by unfold HasK; omega) hn
  | true =>
  obtain ⟨g', hTr⟩ := env_tbr E
  obtain ⟨lo1, g1, mb, n, TA, cc, f, hTa, hTot⟩ := E.ta
  have hTb := tb_ta E.good hTa
  obtain ⟨i, hi, ha, hkk, hci⟩ := const_in hn
  have hx := G.hkl _ (List.getElem_mem hi)
  have hxi := hci
  generalize hz : ks[i] = z at *
  refine both_mk (ls, (getfP (mk ps) C z ss).1, (getfP (mk ps) C z ss).2) (by first | exact G.hl | (rw [List.length_set]; exact G.hl)) (fun w hb => step_of kA km kc gv 26 a A c ls B d ss (G.hA.below hb) (G.hB.below hb) G.hm G.hl (ls, (getfP (mk ps) C z ss).1, (getfP (mk ps) C z ss).2) (fun W b lo LV SV h1 h2 h3 => ?_)) (fun w hb => ?_)
  · have hbW := hb.trans (h1.mono hb.size)
    have hloW := Nat.le_trans hb.size h2
    have X := hTb lo W hbW hloW
    have hk := (G.hk.below hb).below h1
    exact do_field h3 (by omega) ks hk hn (fun W2 hb2 => by rw [hci]; exact KndX.field_getf hTa hTot (hTb lo W2 (hbW.trans (hb2.mono hbW.size)) hloW) (hbW.trans (hb2.mono hbW.size)) hloW (h3.ext hb2) G.hm2 G.hsl z ⟨hx.1, hx.2.2⟩)
  · rw [end_ag (R := getfP (mk ps) C z ss) (S := rpush z.u (rfits (mk ps) (ofT z.s) (rneed (KrF.fdB (fun q => (hav L q).1) z.s z.t z.u) (ss, false)))) (ag_getf _ _ _ _ ss (fd_iff E.hv z))]
    refine KrJ.stepR_consts (env_rlt E hb) kA km kc gv 26 a A c ls B d ss (G.hA.below hb) (G.hB.below hb) G.hd G.hd2 G.hm G.hl ks (G.hk.below hb) 4 (by kernel_rfl) (by omega) (by omega) i ha hi (by rw [hz]; exact hkk) (rpush z.u (rfits (mk ps) (ofT z.s) (rneed (KrF.fdB (fun q => (hav L q).1) z.s z.t z.u) (ss, false)))) (Nat.le_trans ((((G.few.need _).fits (mk ps) _).push hx.2.2)).1 (by omega)) (fun W b h1 h2 h3 => ?_)
    rw [hz]
    have hbW := hb.trans (h1.mono hb.size)
    have X := hTr W hbW
    have hlb : w0.heap.size ≤ b := Nat.le_trans hb.size h2
    exact KrF.consts_26 (F := fun q => (hav L q).1) (s := (ss, false)) h3 (G.few.mono (by omega)) _ _ _ _ _ hx.1 X hlb (fun W2 hb2 => env_fld E _ _ W2 (hbW.trans hb2))
theorem both_27 (E : Env w0 t r ps C L) (G : Gv w0 kA km kc ks gv A c ls B d ss) : Both w0 t r kA km kc gv 27 a A c ls B d ss := by
  cases hn : (constP ks a 4).2 with
  | false => exact both_none E G (k := 4) (by unfold HasK; omega) hn
  | true =>
  obtain ⟨g', hTr⟩ := env_tbr E
  obtain ⟨lo1, g1, mb, n, TA, cc, f, hTa, hTot⟩ := E.ta
  have hTb := tb_ta E.good hTa
  obtain ⟨i, hi, ha, hkk, hci⟩ := const_in hn
  have hx := G.hkl _ (List.getElem_mem hi)
  have hxi := hci
  generalize hz : ks[i] = z at *
  refine both_mk (ls, (putfP (mk ps) C z ss).1, (putfP (mk ps) C z ss).2) (by first | exact G.hl | (rw [List.length_set]; exact G.hl)) (fun w hb => step_of kA km kc gv 27 a A c ls B d ss (G.hA.below hb) (G.hB.below hb) G.hm G.hl (ls, (putfP (mk ps) C z ss).1, (putfP (mk ps) C z ss).2) (fun W b lo LV SV h1 h2 h3 => ?_)) (fun w hb => ?_)
  · have hbW := hb.trans (h1.mono hb.size)
    have hloW := Nat.le_trans hb.size h2
    have X := hTb lo W hbW hloW
    have hk := (G.hk.below hb).below h1
    exact do_field h3 (by omega) ks hk hn (fun W2 hb2 => by rw [hci]; exact KndX.field_putf hTa hTot (hTb lo W2 (hbW.trans (hb2.mono hbW.size)) hloW) (hbW.trans (hb2.mono hbW.size)) hloW (h3.ext hb2) G.hm2 G.hsl z ⟨hx.1, hx.2.2⟩)
  · rw [end_ag (R := putfP (mk ps) C z ss) (S := rfits (mk ps) (ofT z.s) (rfits (mk ps) z.u (rneed (KrF.fdB (fun q => (hav L q).1) z.s z.t z.u) (ss, false)))) (ag_putf _ _ _ _ ss (fd_iff E.hv z))]
    refine KrJ.stepR_consts (env_rlt E hb) kA km kc gv 27 a A c ls B d ss (G.hA.below hb) (G.hB.below hb) G.hd G.hd2 G.hm G.hl ks (G.hk.below hb) 4 (by kernel_rfl) (by omega) (by omega) i ha hi (by rw [hz]; exact hkk) (rfits (mk ps) (ofT z.s) (rfits (mk ps) z.u (rneed (KrF.fdB (fun q => (hav L q).1) z.s z.t z.u) (ss, false)))) (Nat.le_trans ((((G.few.need _).fits (mk ps) _).fits (mk ps) _)).1 (by omega)) (fun W b h1 h2 h3 => ?_)
    rw [hz]
    have hbW := hb.trans (h1.mono hb.size)
    have X := hTr W hbW
    have hlb : w0.heap.size ≤ b := Nat.le_trans hb.size h2
    exact KrF.consts_27 (F := fun q => (hav L q).1) (s := (ss, false)) h3 (G.few.mono (by omega)) _ _ _ _ _ hx.1 hx.2.2 X hlb (fun W2 hb2 => env_fld E _ _ W2 (hbW.trans hb2))
theorem both_32 (E : Env w0 t r ps C L) (G : Gv w0 kA km kc ks gv A c ls B d ss) : Both w0 t r kA km kc gv 32 a A c ls B d ss := by
  cases hn : (constP ks a 5).2 with
  | false => exact both_none E G (k := 5) (by unfold HasK; omega) hn
  | true =>
  obtain ⟨g', hTr⟩ := env_tbr E
  obtain ⟨lo1, g1, mb, n, TA, cc, f, hTa, hTot⟩ := E.ta
  have hTb := tb_ta E.good hTa
  obtain ⟨i, hi, ha, hkk, hci⟩ := const_in hn
  have hx := G.hkl _ (List.getElem_mem hi)
  have hxi := hci
  generalize hz : ks[i] = z at *
  refine both_mk (ls, (callP (mk ps) C z ss).1, (callP (mk ps) C z ss).2) (by first | exact G.hl | (rw [List.length_set]; exact G.hl)) (fun w hb => step_of kA km kc gv 32 a A c ls B d ss (G.hA.below hb) (G.hB.below hb) G.hm G.hl (ls, (callP (mk ps) C z ss).1, (callP (mk ps) C z ss).2) (fun W b lo LV SV h1 h2 h3 => ?_)) (fun w hb => ?_)
  · have hbW := hb.trans (h1.mono hb.size)
    have hloW := Nat.le_trans hb.size h2
    have X := hTb lo W hbW hloW
    have hk := (G.hk.below hb).below h1
    exact do_call h3 ks hk hn (fun W2 hb2 => by rw [hci]; exact KndY.call_any hTa hTot (hTb lo W2 (hbW.trans (hb2.mono hbW.size)) hloW) (hbW.trans (hb2.mono hbW.size)) hloW (h3.ext hb2) G.hm2 G.hsl z ⟨hx.1, hx.2.2⟩)
  · rw [end_ag (R := callP (mk ps) C z ss) (S := giveL (splitT z.u).1 (rfits (mk ps) (ofT z.s) (fitsL (mk ps) (splitT z.u).2.1 (rneed (KrH.mtB (fun q => (hav L q).2) z.s z.t z.u) (ss, false))))) (ag_call _ _ _ _ ss (mt_iff E.hv z))]
    refine KrJ.stepR_consts (env_rlt E hb) kA km kc gv 32 a A c ls B d ss (G.hA.below hb) (G.hB.below hb) G.hd G.hd2 G.hm G.hl ks (G.hk.below hb) 5 (by kernel_rfl) (by omega) (by omega) i ha hi (by rw [hz]; exact hkk) (giveL (splitT z.u).1 (rfits (mk ps) (ofT z.s) (fitsL (mk ps) (splitT z.u).2.1 (rneed (KrH.mtB (fun q => (hav L q).2) z.s z.t z.u) (ss, false))))) (Nat.le_trans (few_give (((KrH.few_fitsL (G.few.need _) _).fits (mk ps) _)) (Nat.le_trans (KndY.split_lens z.u).2.1 hx.2.2)).1 (by omega)) (fun W b h1 h2 h3 => ?_)
    rw [hz]
    have hbW := hb.trans (h1.mono hb.size)
    have X := hTr W hbW
    have hlb : w0.heap.size ≤ b := Nat.le_trans hb.size h2
    exact KrH.consts_32 (F := fun q => (hav L q).2) (s := (ss, false)) h3 (G.few.mono (by omega)) _ _ _ _ _ hx.1 hx.2.2 X hlb (fun W2 hb2 => env_meth E _ _ W2 (hbW.trans hb2))
/-- of any instruction -/
theorem both_any (E : Env w0 t r ps C L) (G : Gv w0 kA km kc ks gv A c ls B d ss) (hll : ∀ x ∈ ls, x.length ≤ 140737488351232) : Both w0 t r kA km kc gv op a A c ls B d ss := by
  by_cases hin : 0 ≤ op ∧ op < 46
  · obtain ⟨k, rfl⟩ : ∃ k : Nat, op = (k : Int) := ⟨op.toNat, by omega⟩
    have hk : k < 46 := by omega
    clear hin
    match k, hk with
    | 0, _ =>
      by_cases h0 : a = 0
      · subst h0; exact both_0 E G
      · exact both_not E G (by unfold NoA; omega) (by kernel_rfl) h0
    | 1, _ => exact both_1 E G
    | 2, _ => exact both_2 E G
    | 3, _ =>
      by_cases h0 : a = 0
      · subst h0; exact both_3 E G
      · exact both_not E G (by unfold NoA; omega) (by kernel_rfl) h0
    | 4, _ =>
      by_cases h0 : a = 0
      · subst h0; exact both_4 E G
      · exact both_not E G (by unfold NoA; omega) (by kernel_rfl) h0
    | 5, _ =>
      by_cases h0 : a = 0
      · subst h0; exact both_5 E G
      · exact both_not E G (by unfold NoA; omega) (by kernel_rfl) h0
    | 6, _ => exact both_load E G hll
    | 7, _ => exact both_store E G
    | 8, _ =>
      by_cases h0 : a = 0
      · subst h0; exact both_8 E G
      · exact both_not E G (by unfold NoA; omega) (by kernel_rfl) h0
    | 9, _ =>
      by_cases h0 : a = 0
      · subst h0; exact both_9 E G
      · exact both_not E G (by unfold NoA; omega) (by kernel_rfl) h0
    | 10, _ =>
      by_cases h0 : a = 0
      · subst h0; exact both_10 E G
      · exact both_not E G (by unfold NoA; omega) (by kernel_rfl) h0
    | 11, _ =>
      by_cases h0 : a = 0
      · subst h0; exact both_11 E G
      · exact both_not E G (by unfold NoA; omega) (by kernel_rfl) h0
    | 12, _ =>
      by_cases h0 : a = 0
      · subst h0; exact both_12 E G
      · exact both_not E G (by unfold NoA; omega) (by kernel_rfl) h0
    | 13, _ =>
      by_cases h0 : a = 0
      · subst h0; exact both_13 E G
      · exact both_not E G (by unfold NoA; omega) (by kernel_rfl) h0
    | 14, _ =>
      by_cases h0 : a = 0
      · subst h0; exact both_14 E G
      · exact both_not E G (by unfold NoA; omega) (by kernel_rfl) h0
    | 15, _ =>
      by_cases h0 : a = 0
      · subst h0; exact both_15 E G
      · exact both_not E G (by unfold NoA; omega) (by kernel_rfl) h0
    | 16, _ =>
      by_cases h0 : a = 0
      · subst h0; exact both_16 E G
      · exact both_not E G (by unfold NoA; omega) (by kernel_rfl) h0
    | 17, _ =>
      by_cases h0 : a = 0
      · subst h0; exact both_17 E G
      · exact both_not E G (by unfold NoA; omega) (by kernel_rfl) h0
    | 18, _ =>
      by_cases h0 : a = 0
      · subst h0; exact both_18 E G
      · exact both_not E G (by unfold NoA; omega) (by kernel_rfl) h0
    | 19, _ =>
      by_cases h0 : a = 0
      · subst h0; exact both_19 E G
      · exact both_not E G (by unfold NoA; omega) (by kernel_rfl) h0
    | 20, _ =>
      by_cases h0 : a = 0
      · subst h0; exact both_20 E G
      · exact both_not E G (by unfold NoA; omega) (by kernel_rfl) h0
    | 21, _ =>
      by_cases h0 : a = 0
      · subst h0; exact both_21 E G
      · exact both_not E G (by unfold NoA; omega) (by kernel_rfl) h0
    | 22, _ => exact both_22 E G
    | 23, _ => exact both_23 E G
    | 24, _ => exact both_24 E G
    | 25, _ => exact both_25 E G
    | 26, _ => exact both_26 E G
    | 27, _ => exact both_27 E G
    | 28, _ => exact both_28 E G
    | 29, _ =>
      by_cases h0 : a = 0
      · subst h0; exact both_29 E G
      · exact both_not E G (by unfold NoA; omega) (by kernel_rfl) h0
    | 30, _ =>
      by_cases h0 : a = 0
      · subst h0; exact both_30 E G
      · exact both_not E G (by unfold NoA; omega) (by kernel_rfl) h0
    | 31, _ =>
      by_cases h0 : a = 0
      · subst h0; exact both_31 E G
      · exact both_not E G (by unfold NoA; omega) (by kernel_rfl) h0
    | 32, _ => exact both_32 E G
    | 33, _ =>
      by_cases h0 : a = 0
      · subst h0; exact both_33 E G
      · exact both_not E G (by unfold NoA; omega) (by kernel_rfl) h0
    | 34, _ =>
      by_cases h0 : a = 0
      · subst h0; exact both_34 E G
      · exact both_not E G (by unfold NoA; omega) (by kernel_rfl) h0
    | 35, _ =>
      by_cases h0 : a = 0
      · subst h0; exact both_35 E G
      · exact both_not E G (by unfold NoA; omega) (by kernel_rfl) h0
    | 36, _ =>
      by_cases h0 : a = 0
      · subst h0; exact both_36 E G
      · exact both_not E G (by unfold NoA; omega) (by kernel_rfl) h0
    | 37, _ =>
      by_cases h0 : a = 0
      · subst h0; exact both_37 E G
      · exact both_not E G (by unfold NoA; omega) (by kernel_rfl) h0
    | 38, _ => exact both_38 E G
    | 39, _ => exact both_39 E G
    | 40, _ =>
      by_cases h0 : a = 0
      · subst h0; exact both_40 E G
      · exact both_not E G (by unfold NoA; omega) (by kernel_rfl) h0
    | 41, _ =>
      by_cases h0 : a = 0
      · subst h0; exact both_41 E G
      · exact both_not E G (by unfold NoA; omega) (by kernel_rfl) h0
    | 42, _ =>
      by_cases h0 : a = 0
      · subst h0; exact both_42 E G
      · exact both_not E G (by unfold NoA; omega) (by kernel_rfl) h0
    | 43, _ =>
      by_cases h0 : a = 0
      · subst h0; exact both_43 E G
      · exact both_not E G (by unfold NoA; omega) (by kernel_rfl) h0
    | 44, _ =>
      by_cases h0 : a = 0
      · subst h0; exact both_44 E G
      · exact both_not E G (by unfold NoA; omega) (by kernel_rfl) h0
    | 45, _ => exact both_45 E G
    | n + 46, h => exact absurd h (by omega)
  · exact both_out E G hin
end
end KndF
end Go.Proofs.YtehainbhoflpnaaGreatDoor
