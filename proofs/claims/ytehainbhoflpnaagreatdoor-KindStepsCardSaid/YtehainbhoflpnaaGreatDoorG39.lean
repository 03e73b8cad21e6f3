/-
  The document's more: arrays, what a method gives, what can be shown; what is no instruction.
-/
import Derived.Test.YtehainbhoflpnaaGreatDoorG38
import Derived.Test.YtehainbhoflpnaaGreatDoorG35
import Derived.StillTailTactics
namespace Go.Proofs.YtehainbhoflpnaaGreatDoor
namespace KrC
open Go.RowKit Base BinM Stru DescM DescW DescX DescS DescG DescP DescQ HierS HierT HierM HierC HierD HierN HierV HierR HierU HierY HierQ Kls KlsP KlsQ OpenK TabC TabM TabK TabP TabE TabB TabG TabH TabT TabU TabV TabX TabW TabF TabN TabO TabY TabR TabQ TabL KndM KndS KrS KrA KrP KrB
open KndP (pop_le)
open KndW (mtE gives_mt tRun tUnit)

theorem elt_len (d : T) : (elemT d).1.length ≤ d.length := by
  unfold elemT
  split <;> simp
set_option maxRecDepth 100000 in
theorem more_29 {w : World} {b r : Nat} {s : RS} (h : Sk w b r s.1 s.2) (hf : Few 800 s) (gv : T) : Calls Tryz.prog 67 #[.pointer (some ⟨b, 0, none⟩), .int .i64 29, .string ⟨gv.toArray⟩] w (GivesR w b r (rpush (elemT (rtop (rwant [73] s))).1 (rarr (rwant [73] s)))) := by
  go_enter Tryz.func67, Tryz.ntmps67
  go_wp2_with fail
  refine (c_want h (hf.mono (by omega)) [73]).mono ?_
  rintro e w1 ⟨rfl, hs, hg⟩
  have HS1 := Lib.hid hs
  have HG1 := Lib.hid hg
  have HF1 := Lib.hid (hf.want [73])
  clear hs hg
  go_wp2_with fail
  refine (c_arr HS1.out (HF1.out.mono (by omega))).mono ?_
  rintro e w2 ⟨rfl, hs, hg⟩
  have HS2 := Lib.hid hs
  have HG2 := Lib.hid (grown_trans HG1.out hg)
  have HF2 := Lib.hid HF1.out.arr
  clear hs hg
  go_wp2_with fail
  refine (c_push HS2.out (HF2.out.mono (by omega)) _).mono ?_
  rintro e w3 ⟨rfl, hs, hg⟩
  have HS3 := Lib.hid hs
  have HG3 := Lib.hid (grown_trans HG2.out hg)
  clear hs hg
  go_wp2_with fail
  go_end0
  exact ⟨rfl, HS3.out, HG3.out⟩

set_option maxRecDepth 100000 in
set_option maxHeartbeats 2000000 in
theorem more_30 {lo g : Nat} {ps : List P2} {w : World} {b r : Nat} {s : RS} (H : TbR lo w r g ps) (hb : lo ≤ b) (h : Sk w b r s.1 s.2) (hf : Few 800 s) (gv : T) : Calls Tryz.prog 67 #[.pointer (some ⟨b, 0, none⟩), .int .i64 30, .string ⟨gv.toArray⟩] w (GivesR w b r (rneed ((mk ps).sub (rtop s) (elemT (rtop (rwant [73] (rpop s)))).1) (rarr (rwant [73] (rpop s))))) := by
  have hlow : lo ≤ w.heap.size := by have := h.lt; omega
  have HT := Lib.hid (fun W (hW : Below lo w W) => H.below hW)
  have HFt := Lib.hid hf.top
  go_enter Tryz.func67, Tryz.ntmps67
  go_wp2_with fail
  refine (c_pop h (hf.mono (by omega))).mono ?_
  rintro e w1 ⟨rfl, hs, hg⟩
  have HS1 := Lib.hid hs
  have HG1 := Lib.hid hg
  have HF1 := Lib.hid hf.pop
  clear hs hg
  go_wp2_with fail
  refine (c_want HS1.out (HF1.out.mono (by omega)) [73]).mono ?_
  rintro e w2 ⟨rfl, hs, hg⟩
  have HS2 := Lib.hid hs
  have HG2 := Lib.hid (grown_trans HG1.out hg)
  have HF2 := Lib.hid (HF1.out.want [73])
  clear hs hg
  go_wp2_with fail
  refine (c_arr HS2.out (HF2.out.mono (by omega))).mono ?_
  rintro e w3 ⟨rfl, hs, hg⟩
  have HS3 := Lib.hid hs
  have HG3 := Lib.hid (grown_trans HG2.out hg)
  have hel := Nat.le_trans (elt_len (rtop (rwant [73] (rpop s)))) HF2.out.top
  have HB3 := below_grown HG3.out hb hlow
  have HT3 := HT.out w3 HB3
  have HSub := Lib.hid (subR_any lo g ps (rtop s) (elemT (rtop (rwant [73] (rpop s)))).1 w3 HT3.hier (Nat.le_trans hlow HB3.size) HT3.can (by have := HFt.out; omega) (by omega))
  have c0 := hs.flag.2.2
  have c1 := crOf HT3
  have hbl := hs.lt
  have hrl : r < w3.heap.size := Nat.lt_of_lt_of_le HT3.low (Nat.le_trans hlow HB3.size)
  generalize (mk ps).sub (rtop s) (elemT (rtop (rwant [73] (rpop s)))).1 = sb at *
  clear hs hg HT3 HB3 hel
  go_wp2_with fail
  refine HSub.out.mono ?_
  rintro e w4 ⟨rfl, hb4⟩
  have HS4 := HS3.out.ext hb4
  have HG4 := Lib.hid (grown_trans HG3.out (grown_of (some b) hb4))
  go_wp2_with fail
  refine (c_need (s := rarr (rwant [73] (rpop s))) HS4 sb).mono ?_
  rintro e w5 ⟨rfl, hs, hg⟩
  have HS5 := Lib.hid hs
  have HG5 := Lib.hid (grown_trans HG4.out hg)
  clear hs hg
  go_wp2_with fail
  go_end0
  exact ⟨rfl, HS5.out, HG5.out⟩

set_option maxRecDepth 100000 in
theorem more_33 {lo g : Nat} {ps : List P2} {w : World} {b r : Nat} {s : RS} (H : TbR lo w r g ps) (hb : lo ≤ b) (h : Sk w b r s.1 s.2) (hf : Few 800 s) (gv : T) (hgv : gv.length ≤ 140737488351232) : Calls Tryz.prog 67 #[.pointer (some ⟨b, 0, none⟩), .int .i64 33, .string ⟨gv.toArray⟩] w (GivesR w b r (rfits (mk ps) gv (rneed (!(gv == [86])) s))) := by
  have hlow : lo ≤ w.heap.size := by have := h.lt; omega
  have hx : ∀ x, (gv == [86]) = x → Calls Tryz.prog 67 #[.pointer (some ⟨b, 0, none⟩), .int .i64 33, .string ⟨gv.toArray⟩] w (GivesR w b r (rfits (mk ps) gv (rneed (!x) s))) := by
    intro x hx
    cases x
    all_goals
      go_enter Tryz.func67, Tryz.ntmps67
      go_wp2_with fail
      refine (c_need h _).mono ?_
      rintro e w1 ⟨rfl, hs, hg⟩
      have HS1 := Lib.hid hs
      have HG1 := Lib.hid hg
      clear hs hg
      go_wp2_with fail
      refine (c_fits HS1.out ((hf.need _).mono (by omega)) (H.below (below_grown HG1.out hb hlow)) hb gv hgv).mono ?_
      rintro e w2 ⟨rfl, hs, hg⟩
      have HS2 := Lib.hid hs
      have HG2 := Lib.hid (grown_trans HG1.out hg)
      clear hs hg
      go_wp2_with fail
      go_end0
      exact ⟨rfl, HS2.out, HG2.out⟩
  exact hx _ rfl

set_option maxRecDepth 100000 in
theorem more_34 {w : World} {b r : Nat} {s : RS} (h : Sk w b r s.1 s.2) (gv : T) : Calls Tryz.prog 67 #[.pointer (some ⟨b, 0, none⟩), .int .i64 34, .string ⟨gv.toArray⟩] w (GivesR w b r (rneed (gv == [86]) s)) := by
  have hx : ∀ x, (gv == [86]) = x → Calls Tryz.prog 67 #[.pointer (some ⟨b, 0, none⟩), .int .i64 34, .string ⟨gv.toArray⟩] w (GivesR w b r (rneed x s)) := by
    intro x hx
    cases x
    all_goals
      go_enter Tryz.func67, Tryz.ntmps67
      go_wp2_with fail
      refine (c_need h _).mono ?_
      rintro e w1 ⟨rfl, hs, hg⟩
      have HS1 := Lib.hid hs
      have HG1 := Lib.hid hg
      clear hs hg
      go_wp2_with fail
      go_end0
      exact ⟨rfl, HS1.out, HG1.out⟩
  exact hx _ rfl

/-- what can be shown -/
def shown (x : T) : Bool := x == [73] || x == [66] || x == [83]
set_option maxRecDepth 100000 in
theorem more_40 {w : World} {b r : Nat} {s : RS} (h : Sk w b r s.1 s.2) (hf : Few 800 s) (gv : T) : Calls Tryz.prog 67 #[.pointer (some ⟨b, 0, none⟩), .int .i64 40, .string ⟨gv.toArray⟩] w (GivesR w b r (rneed (shown (rtop s)) (rpop s))) := by
  have HP := Lib.hid (c_pop h (hf.mono (by omega)))
  unfold shown
  generalize rtop s = x at *
  generalize rpop s = q at *
  clear h hf
  cases h1 : x == [73] <;> cases h2 : x == [66] <;> cases h3 : x == [83]
  all_goals
    go_enter Tryz.func67, Tryz.ntmps67
    go_wp2_with fail
    refine HP.out.mono ?_
    rintro e w1 ⟨rfl, hs, hg⟩
    have HS1 := Lib.hid hs
    have HG1 := Lib.hid hg
    clear hs hg
    go_wp2_with fail
    refine (c_need HS1.out _).mono ?_
    rintro e w2 ⟨rfl, hs, hg⟩
    have HS2 := Lib.hid hs
    have HG2 := Lib.hid (grown_trans HG1.out hg)
    clear hs hg
    go_wp2_with fail
    go_end0
    exact ⟨rfl, HS2.out, HG2.out⟩

/-- a class that has a method run, of this type -/
def runB (E : T → List EntT) (x : T) : Bool := (classT x).2 && (mtE (E (classT x).1) tRun).sig == tUnit
theorem run_not {l : List EntT} (h : findE (nameE tRun) l < 0) : ((mtE l tRun).sig == tUnit) = false := by
  unfold mtE
  rw [if_pos h]
  rfl
set_option maxRecDepth 100000 in
set_option maxHeartbeats 2000000 in
theorem more_44 {lo g : Nat} {ps : List P2} {E : T → List EntT} {w : World} {b r : Nat} {s : RS} (H : TbR lo w r g ps) (hb : lo ≤ b) (h : Sk w b r s.1 s.2) (hf : Few 800 s)
    (HM : ∀ W, Below lo w W → ∀ q, Calls Tryz.prog 65 #[.pointer (some ⟨r, 0, none⟩), .string ⟨q.toArray⟩, .string ⟨tRun.toArray⟩] W fun e w' => GivesE (E q) tRun e ∧ Below W.heap.size W w') (gv : T) :
    Calls Tryz.prog 67 #[.pointer (some ⟨b, 0, none⟩), .int .i64 44, .string ⟨gv.toArray⟩] w (GivesR w b r (rneed (runB E (rtop s)) (rpop s))) := by
  have hlow : lo ≤ w.heap.size := by have := h.lt; omega
  have HP := Lib.hid (c_pop h (hf.mono (by omega)))
  have HT := Lib.hid (fun W (hW : Below lo w W) => H.below hW)
  have HC := Lib.hid (fun W => DescR.refClass_any (rtop s) W (by have := hf.top; omega))
  have HMh0 : ∀ W, Below lo w W → Calls Tryz.prog 65 #[.pointer (some ⟨r, 0, none⟩), .string ⟨(classT (rtop s)).1.toArray⟩, .string ⟨#[114, 117, 110]⟩] W fun e w' => e = .returned (.tuple #[.agg #[.string ⟨(mtE (E (classT (rtop s)).1) tRun).name.toArray⟩, .string ⟨(mtE (E (classT (rtop s)).1) tRun).sig.toArray⟩, .string ⟨(mtE (E (classT (rtop s)).1) tRun).cls.toArray⟩], .int .i64 (findE (nameE tRun) (E (classT (rtop s)).1))]) ∧ Below W.heap.size W w' :=
    fun W hW => (HM W hW (classT (rtop s)).1).mono (fun e w' ⟨h1, h2⟩ => ⟨gives_mt h1, h2⟩)
  have HMh := Lib.hid HMh0
  clear HMh0
  have hno := @run_not (E (classT (rtop s)).1)
  unfold runB
  unfold twoB at HC
  clear h hf HM
  generalize rtop s = x at *
  generalize rpop s = q at *
  generalize classT x = cx at *
  obtain ⟨cn, cb⟩ := cx
  simp only at HC HP HMh hno ⊢
  generalize mtE (E cn) tRun = m at *
  generalize findE (nameE tRun) (E cn) = k at *
  obtain ⟨m0, m1, m2⟩ := m
  simp only at hno HMh ⊢
  unfold tUnit at hno ⊢
  cases hs0 : m1 == [40, 41, 86]
  all_goals
    rcases Int.lt_or_le k 0 with hk | hk
    all_goals
      cases cb
      all_goals
        first
          | (rw [hno hk] at hs0; cases hs0; done)
          | (go_enter Tryz.func67, Tryz.ntmps67
             go_wp2_with fail
             refine HP.out.mono ?_
             rintro e w1 ⟨rfl, hs, hg⟩
             have HS1 := Lib.hid hs
             have HG1 := Lib.hid hg
             clear hs hg
             go_wp2_with fail
             refine (HC.out _).mono ?_
             rintro e w2 ⟨rfl, rfl⟩
             have HB1 := below_grown HG1.out hb hlow
             have HT1 := HT.out w1 HB1
             have c0 := HS1.out.flag.2.2
             have hbl := HS1.out.lt
             have HMw := Lib.hid (HMh.out w1 HB1)
             clear HT1 HB1
             go_wp2_with fail
             refine HMw.out.mono ?_
             rintro e w3 ⟨rfl, hb3⟩
             have HS3h := Lib.hid (HS1.out.ext hb3)
             have HG3 := Lib.hid (grown_trans HG1.out (grown_of (some b) hb3))
             have Z3 := Lib.hid ((Below.refl w3.heap.size w3).alloc (Nat.le_refl _) (.cells #[.string ⟨m0.toArray⟩, .string ⟨m1.toArray⟩, .string ⟨m2.toArray⟩] 138))
             clear hb3
             go_wp2_with fail
             refine (c_need (HS3h.out.ext Z3.out) _).mono ?_
             rintro e w5 ⟨rfl, hs5, hg5⟩
             have HS5 := Lib.hid hs5
             have HG5 := Lib.hid (grown_trans (grown_trans HG3.out (grown_of (some b) Z3.out)) hg5)
             clear hs5 hg5
             go_wp2_with fail
             go_end0
             exact ⟨rfl, HS5.out, HG5.out⟩)
end KrC
end Go.Proofs.YtehainbhoflpnaaGreatDoor
/-
  The document's plain where more answers; what is no instruction.
-/
namespace Go.Proofs.YtehainbhoflpnaaGreatDoor
namespace KrG
open Go.RowKit Base BinM Stru DescM DescW DescX DescS DescG DescP DescQ HierS HierT HierM HierC HierD HierN HierV HierR HierU HierY HierQ Kls KlsP KlsQ OpenK TabC TabM TabK TabP TabE TabB TabG TabH TabT TabU TabV TabX TabW TabF TabN TabO TabY TabR TabQ TabL KndM KndS KrS KrA KrP KrB KrC
open KndP (pop_le)
open KndW (mtE gives_mt tRun tUnit)

def rbad (s : RS) : RS := (s.1, true)
set_option maxRecDepth 100000 in
theorem plain_29 {w : World} {b r : Nat} {s : RS} (gv : T) (hm : Calls Tryz.prog 67 #[.pointer (some ⟨b, 0, none⟩), .int .i64 29, .string ⟨gv.toArray⟩] w (GivesR w b r s)) : Calls Tryz.prog 31 #[.pointer (some ⟨b, 0, none⟩), .int .i64 29, .string ⟨gv.toArray⟩] w (GivesR w b r s) := by
  go_enter Tryz.func31, Tryz.ntmps31
  go_wp2_with fail
  refine hm.mono ?_
  rintro e w1 ⟨rfl, hs, hg⟩
  have HS1 := Lib.hid hs
  have HG1 := Lib.hid hg
  clear hs hg
  go_wp2_with fail
  go_end0
  exact ⟨rfl, HS1.out, HG1.out⟩
set_option maxRecDepth 100000 in
theorem plain_30 {w : World} {b r : Nat} {s : RS} (gv : T) (hm : Calls Tryz.prog 67 #[.pointer (some ⟨b, 0, none⟩), .int .i64 30, .string ⟨gv.toArray⟩] w (GivesR w b r s)) : Calls Tryz.prog 31 #[.pointer (some ⟨b, 0, none⟩), .int .i64 30, .string ⟨gv.toArray⟩] w (GivesR w b r s) := by
  go_enter Tryz.func31, Tryz.ntmps31
  go_wp2_with fail
  refine hm.mono ?_
  rintro e w1 ⟨rfl, hs, hg⟩
  have HS1 := Lib.hid hs
  have HG1 := Lib.hid hg
  clear hs hg
  go_wp2_with fail
  go_end0
  exact ⟨rfl, HS1.out, HG1.out⟩
set_option maxRecDepth 100000 in
theorem plain_31 {w : World} {b r : Nat} {s : RS} (gv : T) (hm : Calls Tryz.prog 67 #[.pointer (some ⟨b, 0, none⟩), .int .i64 31, .string ⟨gv.toArray⟩] w (GivesR w b r s)) : Calls Tryz.prog 31 #[.pointer (some ⟨b, 0, none⟩), .int .i64 31, .string ⟨gv.toArray⟩] w (GivesR w b r s) := by
  go_enter Tryz.func31, Tryz.ntmps31
  go_wp2_with fail
  refine hm.mono ?_
  rintro e w1 ⟨rfl, hs, hg⟩
  have HS1 := Lib.hid hs
  have HG1 := Lib.hid hg
  clear hs hg
  go_wp2_with fail
  go_end0
  exact ⟨rfl, HS1.out, HG1.out⟩
set_option maxRecDepth 100000 in
theorem plain_33 {w : World} {b r : Nat} {s : RS} (gv : T) (hm : Calls Tryz.prog 67 #[.pointer (some ⟨b, 0, none⟩), .int .i64 33, .string ⟨gv.toArray⟩] w (GivesR w b r s)) : Calls Tryz.prog 31 #[.pointer (some ⟨b, 0, none⟩), .int .i64 33, .string ⟨gv.toArray⟩] w (GivesR w b r s) := by
  go_enter Tryz.func31, Tryz.ntmps31
  go_wp2_with fail
  refine hm.mono ?_
  rintro e w1 ⟨rfl, hs, hg⟩
  have HS1 := Lib.hid hs
  have HG1 := Lib.hid hg
  clear hs hg
  go_wp2_with fail
  go_end0
  exact ⟨rfl, HS1.out, HG1.out⟩
set_option maxRecDepth 100000 in
theorem plain_34 {w : World} {b r : Nat} {s : RS} (gv : T) (hm : Calls Tryz.prog 67 #[.pointer (some ⟨b, 0, none⟩), .int .i64 34, .string ⟨gv.toArray⟩] w (GivesR w b r s)) : Calls Tryz.prog 31 #[.pointer (some ⟨b, 0, none⟩), .int .i64 34, .string ⟨gv.toArray⟩] w (GivesR w b r s) := by
  go_enter Tryz.func31, Tryz.ntmps31
  go_wp2_with fail
  refine hm.mono ?_
  rintro e w1 ⟨rfl, hs, hg⟩
  have HS1 := Lib.hid hs
  have HG1 := Lib.hid hg
  clear hs hg
  go_wp2_with fail
  go_end0
  exact ⟨rfl, HS1.out, HG1.out⟩
set_option maxRecDepth 100000 in
theorem plain_35 {w : World} {b r : Nat} {s : RS} (gv : T) (hm : Calls Tryz.prog 67 #[.pointer (some ⟨b, 0, none⟩), .int .i64 35, .string ⟨gv.toArray⟩] w (GivesR w b r s)) : Calls Tryz.prog 31 #[.pointer (some ⟨b, 0, none⟩), .int .i64 35, .string ⟨gv.toArray⟩] w (GivesR w b r s) := by
  go_enter Tryz.func31, Tryz.ntmps31
  go_wp2_with fail
  refine hm.mono ?_
  rintro e w1 ⟨rfl, hs, hg⟩
  have HS1 := Lib.hid hs
  have HG1 := Lib.hid hg
  clear hs hg
  go_wp2_with fail
  go_end0
  exact ⟨rfl, HS1.out, HG1.out⟩
set_option maxRecDepth 100000 in
theorem plain_36 {w : World} {b r : Nat} {s : RS} (gv : T) (hm : Calls Tryz.prog 67 #[.pointer (some ⟨b, 0, none⟩), .int .i64 36, .string ⟨gv.toArray⟩] w (GivesR w b r s)) : Calls Tryz.prog 31 #[.pointer (some ⟨b, 0, none⟩), .int .i64 36, .string ⟨gv.toArray⟩] w (GivesR w b r s) := by
  go_enter Tryz.func31, Tryz.ntmps31
  go_wp2_with fail
  refine hm.mono ?_
  rintro e w1 ⟨rfl, hs, hg⟩
  have HS1 := Lib.hid hs
  have HG1 := Lib.hid hg
  clear hs hg
  go_wp2_with fail
  go_end0
  exact ⟨rfl, HS1.out, HG1.out⟩
set_option maxRecDepth 100000 in
theorem plain_37 {w : World} {b r : Nat} {s : RS} (gv : T) (hm : Calls Tryz.prog 67 #[.pointer (some ⟨b, 0, none⟩), .int .i64 37, .string ⟨gv.toArray⟩] w (GivesR w b r s)) : Calls Tryz.prog 31 #[.pointer (some ⟨b, 0, none⟩), .int .i64 37, .string ⟨gv.toArray⟩] w (GivesR w b r s) := by
  go_enter Tryz.func31, Tryz.ntmps31
  go_wp2_with fail
  refine hm.mono ?_
  rintro e w1 ⟨rfl, hs, hg⟩
  have HS1 := Lib.hid hs
  have HG1 := Lib.hid hg
  clear hs hg
  go_wp2_with fail
  go_end0
  exact ⟨rfl, HS1.out, HG1.out⟩
set_option maxRecDepth 100000 in
theorem plain_40 {w : World} {b r : Nat} {s : RS} (gv : T) (hm : Calls Tryz.prog 67 #[.pointer (some ⟨b, 0, none⟩), .int .i64 40, .string ⟨gv.toArray⟩] w (GivesR w b r s)) : Calls Tryz.prog 31 #[.pointer (some ⟨b, 0, none⟩), .int .i64 40, .string ⟨gv.toArray⟩] w (GivesR w b r s) := by
  go_enter Tryz.func31, Tryz.ntmps31
  go_wp2_with fail
  refine hm.mono ?_
  rintro e w1 ⟨rfl, hs, hg⟩
  have HS1 := Lib.hid hs
  have HG1 := Lib.hid hg
  clear hs hg
  go_wp2_with fail
  go_end0
  exact ⟨rfl, HS1.out, HG1.out⟩
set_option maxRecDepth 100000 in
theorem plain_42 {w : World} {b r : Nat} {s : RS} (gv : T) (hm : Calls Tryz.prog 67 #[.pointer (some ⟨b, 0, none⟩), .int .i64 42, .string ⟨gv.toArray⟩] w (GivesR w b r s)) : Calls Tryz.prog 31 #[.pointer (some ⟨b, 0, none⟩), .int .i64 42, .string ⟨gv.toArray⟩] w (GivesR w b r s) := by
  go_enter Tryz.func31, Tryz.ntmps31
  go_wp2_with fail
  refine hm.mono ?_
  rintro e w1 ⟨rfl, hs, hg⟩
  have HS1 := Lib.hid hs
  have HG1 := Lib.hid hg
  clear hs hg
  go_wp2_with fail
  go_end0
  exact ⟨rfl, HS1.out, HG1.out⟩
set_option maxRecDepth 100000 in
theorem plain_43 {w : World} {b r : Nat} {s : RS} (gv : T) (hm : Calls Tryz.prog 67 #[.pointer (some ⟨b, 0, none⟩), .int .i64 43, .string ⟨gv.toArray⟩] w (GivesR w b r s)) : Calls Tryz.prog 31 #[.pointer (some ⟨b, 0, none⟩), .int .i64 43, .string ⟨gv.toArray⟩] w (GivesR w b r s) := by
  go_enter Tryz.func31, Tryz.ntmps31
  go_wp2_with fail
  refine hm.mono ?_
  rintro e w1 ⟨rfl, hs, hg⟩
  have HS1 := Lib.hid hs
  have HG1 := Lib.hid hg
  clear hs hg
  go_wp2_with fail
  go_end0
  exact ⟨rfl, HS1.out, HG1.out⟩
set_option maxRecDepth 100000 in
theorem plain_44 {w : World} {b r : Nat} {s : RS} (gv : T) (hm : Calls Tryz.prog 67 #[.pointer (some ⟨b, 0, none⟩), .int .i64 44, .string ⟨gv.toArray⟩] w (GivesR w b r s)) : Calls Tryz.prog 31 #[.pointer (some ⟨b, 0, none⟩), .int .i64 44, .string ⟨gv.toArray⟩] w (GivesR w b r s) := by
  go_enter Tryz.func31, Tryz.ntmps31
  go_wp2_with fail
  refine hm.mono ?_
  rintro e w1 ⟨rfl, hs, hg⟩
  have HS1 := Lib.hid hs
  have HG1 := Lib.hid hg
  clear hs hg
  go_wp2_with fail
  go_end0
  exact ⟨rfl, HS1.out, HG1.out⟩
end KrG
end Go.Proofs.YtehainbhoflpnaaGreatDoor
/-
  The document's consts: what an instruction with a constant does to the stack.
-/
namespace Go.Proofs.YtehainbhoflpnaaGreatDoor
namespace KrD
open Go.RowKit Base BinM Stru DescM DescW DescX DescS DescG DescP DescQ HierS HierT HierM HierC HierD HierN HierV HierR HierU HierY HierQ Kls KlsP KlsQ OpenK TabC TabM TabK TabP TabE TabB TabG TabH TabT TabU TabV TabX TabW TabF TabN TabO TabY TabR TabQ TabL KndM KndS KrS KrA KrP KrB KrC
open KndP (pop_le)
open KndW (mtE gives_mt tRun tUnit)

theorem still {f : Nat} {a : Array Value} {w : World} {v : Value} (h : Calls Tryz.prog f a w fun e w' => e = .returned v ∧ w = w') : Calls Tryz.prog f a w fun e w'' => e = .returned v ∧ w'' = w := h.mono fun _ _ ⟨a, b⟩ => ⟨a, b.symm⟩
theorem bx_grown {W w' : World} {b q : Nat} {C : Array Value} {t : TypeId} (h : Bx W q C t) (hg : W.grownBy w' (some b)) (hn : q ≠ b) : Bx w' q C t := (hg.block q h.lt (fun e => by injection e with e; omega)).trans h
set_option maxRecDepth 100000 in
set_option maxHeartbeats 2000000 in
theorem consts_1 {w : World} {b r : Nat} {s : RS} (h : Sk w b r s.1 s.2) (hf : Few 800 s) (kk nn : Int) (S T' U : T) (hS : S.length ≤ 140737488351232) :
    Calls Tryz.prog 30 #[.pointer (some ⟨b, 0, none⟩), .int .i64 1, .agg #[.int .i64 kk, .int .i64 nn, .string ⟨S.toArray⟩, .string ⟨T'.toArray⟩, .string ⟨U.toArray⟩]] w (GivesR w b r (rpush [73] s)) := by
  have hqb : w.heap.size ≠ b := by have := h.lt; omega
  have A0 := ((Below.refl w.heap.size w).alloc (Nat.le_refl _) (.cells #[.int .i64 kk, .int .i64 nn, .string ⟨S.toArray⟩, .string ⟨T'.toArray⟩, .string ⟨U.toArray⟩] 75))
  have HS0 := Lib.hid (h.ext A0)
  have HG0 := Lib.hid (grown_of (some b) A0)
  have HBx := Lib.hid (Bx.new w #[.int .i64 kk, .int .i64 nn, .string ⟨S.toArray⟩, .string ⟨T'.toArray⟩, .string ⟨U.toArray⟩] 75)
  have hCl := Lib.hid (fun W => DescR.refClass_any S W (by omega))
  unfold twoB at hCl
  clear A0
  obtain ⟨W0, hW0⟩ : ∃ W, w.alloc (.cells #[.int .i64 kk, .int .i64 nn, .string ⟨S.toArray⟩, .string ⟨T'.toArray⟩, .string ⟨U.toArray⟩] 75) = W := ⟨_, rfl⟩
  rw [hW0] at HS0 HG0 HBx
  have k2 := HBx.out.cell 2
  have kl := HBx.out.lt
  go_enter Tryz.func30, Tryz.ntmps30
  go_wp2_with fail
  refine (hCl.out _).mono ?_
  rintro e w' ⟨rfl, rfl⟩
  go_wp2_with fail
  refine (c_push HS0.out (hf.mono (by omega)) [73]).mono ?_
  rintro e w1 ⟨rfl, hs, hg⟩
  have HS1 := Lib.hid hs
  have HG1 := Lib.hid hg
  clear hs hg
  go_wp2_with fail
  go_end0
  exact ⟨rfl, HS1.out, grown_trans HG0.out HG1.out⟩
set_option maxRecDepth 100000 in
set_option maxHeartbeats 2000000 in
theorem consts_2 {w : World} {b r : Nat} {s : RS} (h : Sk w b r s.1 s.2) (hf : Few 800 s) (kk nn : Int) (S T' U : T) (hS : S.length ≤ 140737488351232) :
    Calls Tryz.prog 30 #[.pointer (some ⟨b, 0, none⟩), .int .i64 2, .agg #[.int .i64 kk, .int .i64 nn, .string ⟨S.toArray⟩, .string ⟨T'.toArray⟩, .string ⟨U.toArray⟩]] w (GivesR w b r (rpush [83] s)) := by
  have hqb : w.heap.size ≠ b := by have := h.lt; omega
  have A0 := ((Below.refl w.heap.size w).alloc (Nat.le_refl _) (.cells #[.int .i64 kk, .int .i64 nn, .string ⟨S.toArray⟩, .string ⟨T'.toArray⟩, .string ⟨U.toArray⟩] 75))
  have HS0 := Lib.hid (h.ext A0)
  have HG0 := Lib.hid (grown_of (some b) A0)
  have HBx := Lib.hid (Bx.new w #[.int .i64 kk, .int .i64 nn, .string ⟨S.toArray⟩, .string ⟨T'.toArray⟩, .string ⟨U.toArray⟩] 75)
  have hCl := Lib.hid (fun W => DescR.refClass_any S W (by omega))
  unfold twoB at hCl
  clear A0
  obtain ⟨W0, hW0⟩ : ∃ W, w.alloc (.cells #[.int .i64 kk, .int .i64 nn, .string ⟨S.toArray⟩, .string ⟨T'.toArray⟩, .string ⟨U.toArray⟩] 75) = W := ⟨_, rfl⟩
  rw [hW0] at HS0 HG0 HBx
  have k2 := HBx.out.cell 2
  have kl := HBx.out.lt
  go_enter Tryz.func30, Tryz.ntmps30
  go_wp2_with fail
  refine (hCl.out _).mono ?_
  rintro e w' ⟨rfl, rfl⟩
  go_wp2_with fail
  refine (c_push HS0.out (hf.mono (by omega)) [83]).mono ?_
  rintro e w1 ⟨rfl, hs, hg⟩
  have HS1 := Lib.hid hs
  have HG1 := Lib.hid hg
  clear hs hg
  go_wp2_with fail
  go_end0
  exact ⟨rfl, HS1.out, grown_trans HG0.out HG1.out⟩
set_option maxRecDepth 100000 in
set_option maxHeartbeats 2000000 in
theorem consts_25 {lo g : Nat} {ps : List P2} {w : World} {b r : Nat} {s : RS} (h : Sk w b r s.1 s.2) (hf : Few 800 s) (kk nn : Int) (S T' U : T) (hS : S.length ≤ 140737488351232) (H : TbR lo w r g ps) (hb : lo ≤ b) :
    Calls Tryz.prog 30 #[.pointer (some ⟨b, 0, none⟩), .int .i64 25, .agg #[.int .i64 kk, .int .i64 nn, .string ⟨S.toArray⟩, .string ⟨T'.toArray⟩, .string ⟨U.toArray⟩]] w (GivesR w b r (rpush S (rneed ((classT S).2 && (mk ps).has (classT S).1) s))) := by
  have hlow : lo ≤ w.heap.size := by have := h.lt; omega
  have HT := Lib.hid (fun W (hW : Below lo w W) => H.below hW)
  have hqb : w.heap.size ≠ b := by have := h.lt; omega
  have A0 := ((Below.refl w.heap.size w).alloc (Nat.le_refl _) (.cells #[.int .i64 kk, .int .i64 nn, .string ⟨S.toArray⟩, .string ⟨T'.toArray⟩, .string ⟨U.toArray⟩] 75))
  have HS0 := Lib.hid (h.ext A0)
  have HG0 := Lib.hid (grown_of (some b) A0)
  have HBx := Lib.hid (Bx.new w #[.int .i64 kk, .int .i64 nn, .string ⟨S.toArray⟩, .string ⟨T'.toArray⟩, .string ⟨U.toArray⟩] 75)
  have hCl := Lib.hid (fun W => DescR.refClass_any S W (by omega))
  unfold twoB at hCl
  clear A0
  obtain ⟨W0, hW0⟩ : ∃ W, w.alloc (.cells #[.int .i64 kk, .int .i64 nn, .string ⟨S.toArray⟩, .string ⟨T'.toArray⟩, .string ⟨U.toArray⟩] 75) = W := ⟨_, rfl⟩
  rw [hW0] at HS0 HG0 HBx
  have k2 := HBx.out.cell 2
  have kl := HBx.out.lt
  have hB0 := below_grown HG0.out hb hlow
  have HT0 := HT.out W0 hB0
  have c0 := HS0.out.flag.2.2
  have c1 := crOf HT0
  have hbl := HS0.out.lt
  have hrl : r < W0.heap.size := Nat.lt_of_lt_of_le HT0.low (Nat.le_trans hlow hB0.size)
  have HHs := Lib.hid (hasR_any lo g (refL ps) (classT S).1 W0 HT0.hier)
  rw [has_same] at HHs
  generalize (mk ps).has (classT S).1 = hx at *
  generalize classT S = cx at *
  obtain ⟨cn, cb⟩ := cx
  simp only at hCl HHs ⊢
  clear HT0 hB0
  cases cb
  · go_enter Tryz.func30, Tryz.ntmps30
    go_wp2_with fail
    refine (hCl.out _).mono ?_
    rintro e w' ⟨rfl, rfl⟩
    go_wp2_with fail
    refine (c_need HS0.out _).mono ?_
    rintro e w1 ⟨rfl, hs, hg⟩
    have HS1 := Lib.hid hs
    have HG1 := Lib.hid hg
    have k2 := (bx_grown HBx.out HG1.out hqb).cell 2
    have kl := (bx_grown HBx.out HG1.out hqb).lt
    clear hs hg
    go_wp2_with fail
    refine (c_push HS1.out ((hf.need _).mono (by omega)) S).mono ?_
    rintro e w2 ⟨rfl, hs, hg⟩
    have HS2 := Lib.hid hs
    have HG2 := Lib.hid (grown_trans HG1.out hg)
    clear hs hg
    go_wp2_with fail
    go_end0
    exact ⟨rfl, HS2.out, grown_trans HG0.out HG2.out⟩
  · go_enter Tryz.func30, Tryz.ntmps30
    go_wp2_with fail
    refine (hCl.out _).mono ?_
    rintro e w' ⟨rfl, rfl⟩
    go_wp2_with fail
    refine HHs.out.mono ?_
    rintro e w' ⟨rfl, rfl⟩
    go_wp2_with fail
    refine (c_need HS0.out _).mono ?_
    rintro e w1 ⟨rfl, hs, hg⟩
    have HS1 := Lib.hid hs
    have HG1 := Lib.hid hg
    have k2 := (bx_grown HBx.out HG1.out hqb).cell 2
    have kl := (bx_grown HBx.out HG1.out hqb).lt
    clear hs hg
    go_wp2_with fail
    refine (c_push HS1.out ((hf.need _).mono (by omega)) S).mono ?_
    rintro e w2 ⟨rfl, hs, hg⟩
    have HS2 := Lib.hid hs
    have HG2 := Lib.hid (grown_trans HG1.out hg)
    clear hs hg
    go_wp2_with fail
    go_end0
    exact ⟨rfl, HS2.out, grown_trans HG0.out HG2.out⟩
set_option maxRecDepth 100000 in
set_option maxHeartbeats 2000000 in
theorem consts_38 {lo g : Nat} {ps : List P2} {w : World} {b r : Nat} {s : RS} (h : Sk w b r s.1 s.2) (hf : Few 800 s) (kk nn : Int) (S T' U : T) (hS : S.length ≤ 140737488351232) (H : TbR lo w r g ps) (hb : lo ≤ b) :
    Calls Tryz.prog 30 #[.pointer (some ⟨b, 0, none⟩), .int .i64 38, .agg #[.int .i64 kk, .int .i64 nn, .string ⟨S.toArray⟩, .string ⟨T'.toArray⟩, .string ⟨U.toArray⟩]] w (GivesR w b r (rpush S (rthing (rneed ((mk ps).known S && refB S) s)))) := by
  have hlow : lo ≤ w.heap.size := by have := h.lt; omega
  have HT := Lib.hid (fun W (hW : Below lo w W) => H.below hW)
  have hqb : w.heap.size ≠ b := by have := h.lt; omega
  have A0 := ((Below.refl w.heap.size w).alloc (Nat.le_refl _) (.cells #[.int .i64 kk, .int .i64 nn, .string ⟨S.toArray⟩, .string ⟨T'.toArray⟩, .string ⟨U.toArray⟩] 75))
  have HS0 := Lib.hid (h.ext A0)
  have HG0 := Lib.hid (grown_of (some b) A0)
  have HBx := Lib.hid (Bx.new w #[.int .i64 kk, .int .i64 nn, .string ⟨S.toArray⟩, .string ⟨T'.toArray⟩, .string ⟨U.toArray⟩] 75)
  have hCl := Lib.hid (fun W => DescR.refClass_any S W (by omega))
  unfold twoB at hCl
  clear A0
  obtain ⟨W0, hW0⟩ : ∃ W, w.alloc (.cells #[.int .i64 kk, .int .i64 nn, .string ⟨S.toArray⟩, .string ⟨T'.toArray⟩, .string ⟨U.toArray⟩] 75) = W := ⟨_, rfl⟩
  rw [hW0] at HS0 HG0 HBx
  have k2 := HBx.out.cell 2
  have kl := HBx.out.lt
  have hB0 := below_grown HG0.out hb hlow
  have HT0 := HT.out W0 hB0
  have c0 := HS0.out.flag.2.2
  have c1 := crOf HT0
  have hbl := HS0.out.lt
  have hrl : r < W0.heap.size := Nat.lt_of_lt_of_le HT0.low (Nat.le_trans hlow hB0.size)
  have HKn := Lib.hid (fun W (hW : Below lo w W) => knownR_any lo g ps S W (HT.out W hW).hier (by omega))
  have HRf := Lib.hid (fun W => DescR.refRef_any S W (by omega))
  have HNd := Lib.hid (fun W (hs : Sk W b r s.1 s.2) x => c_need hs x)
  generalize (mk ps).known S = hx at *
  generalize hr : refB S = rb at *
  clear hr
  clear HT0
  cases hx <;> cases rb
  all_goals
      go_enter Tryz.func30, Tryz.ntmps30
      go_wp2_with fail
      refine (hCl.out _).mono ?_
      rintro e w' ⟨rfl, rfl⟩
      go_wp2_with fail
      have hSd := Lib.hid HS0.out.drew
      have HKd := Lib.hid (HKn.out _ hB0.drew)
      have HGd := Lib.hid (grown_drew (grown_refl W0 (some b)))
      go_still_tail 16, (by kernel_rfl)
      still_call (still HKd.out)
      repeat still_step
      first
        | (still_call (still (HRf.out _))
           repeat still_step
           refine wpStill_nil ?_)
        | refine wpStill_nil ?_
      go_wp2_with fail
      refine (c_need hSd.out _).mono ?_
      rintro e w1 ⟨rfl, hs, hg⟩
      have HS1 := Lib.hid hs
      have HG1 := Lib.hid (grown_trans HGd.out hg)
      have k2 := (bx_grown HBx.out HG1.out hqb).cell 2
      have kl := (bx_grown HBx.out HG1.out hqb).lt
      clear hs hg
      go_wp2_with fail
      refine (c_thing HS1.out ((hf.need _).mono (by omega))).mono ?_
      rintro e w2 ⟨rfl, hs, hg⟩
      have HS2 := Lib.hid hs
      have HG2 := Lib.hid (grown_trans HG1.out hg)
      have k2 := (bx_grown HBx.out HG2.out hqb).cell 2
      have kl := (bx_grown HBx.out HG2.out hqb).lt
      clear hs hg
      go_wp2_with fail
      refine (c_push HS2.out ((hf.need _).thing.mono (by omega)) S).mono ?_
      rintro e w3 ⟨rfl, hs, hg⟩
      have HS3 := Lib.hid hs
      have HG3 := Lib.hid (grown_trans HG2.out hg)
      clear hs hg
      go_wp2_with fail
      go_end0
      exact ⟨rfl, HS3.out, grown_trans HG0.out HG3.out⟩
set_option maxRecDepth 100000 in
set_option maxHeartbeats 2000000 in
theorem consts_39 {lo g : Nat} {ps : List P2} {w : World} {b r : Nat} {s : RS} (h : Sk w b r s.1 s.2) (hf : Few 800 s) (kk nn : Int) (S T' U : T) (hS : S.length ≤ 140737488351232) (H : TbR lo w r g ps) (hb : lo ≤ b) :
    Calls Tryz.prog 30 #[.pointer (some ⟨b, 0, none⟩), .int .i64 39, .agg #[.int .i64 kk, .int .i64 nn, .string ⟨S.toArray⟩, .string ⟨T'.toArray⟩, .string ⟨U.toArray⟩]] w (GivesR w b r (rpush [66] (rthing (rneed ((mk ps).known S && refB S) s)))) := by
  have hlow : lo ≤ w.heap.size := by have := h.lt; omega
  have HT := Lib.hid (fun W (hW : Below lo w W) => H.below hW)
  have hqb : w.heap.size ≠ b := by have := h.lt; omega
  have A0 := ((Below.refl w.heap.size w).alloc (Nat.le_refl _) (.cells #[.int .i64 kk, .int .i64 nn, .string ⟨S.toArray⟩, .string ⟨T'.toArray⟩, .string ⟨U.toArray⟩] 75))
  have HS0 := Lib.hid (h.ext A0)
  have HG0 := Lib.hid (grown_of (some b) A0)
  have HBx := Lib.hid (Bx.new w #[.int .i64 kk, .int .i64 nn, .string ⟨S.toArray⟩, .string ⟨T'.toArray⟩, .string ⟨U.toArray⟩] 75)
  have hCl := Lib.hid (fun W => DescR.refClass_any S W (by omega))
  unfold twoB at hCl
  clear A0
  obtain ⟨W0, hW0⟩ : ∃ W, w.alloc (.cells #[.int .i64 kk, .int .i64 nn, .string ⟨S.toArray⟩, .string ⟨T'.toArray⟩, .string ⟨U.toArray⟩] 75) = W := ⟨_, rfl⟩
  rw [hW0] at HS0 HG0 HBx
  have k2 := HBx.out.cell 2
  have kl := HBx.out.lt
  have hB0 := below_grown HG0.out hb hlow
  have HT0 := HT.out W0 hB0
  have c0 := HS0.out.flag.2.2
  have c1 := crOf HT0
  have hbl := HS0.out.lt
  have hrl : r < W0.heap.size := Nat.lt_of_lt_of_le HT0.low (Nat.le_trans hlow hB0.size)
  have HKn := Lib.hid (fun W (hW : Below lo w W) => knownR_any lo g ps S W (HT.out W hW).hier (by omega))
  have HRf := Lib.hid (fun W => DescR.refRef_any S W (by omega))
  have HNd := Lib.hid (fun W (hs : Sk W b r s.1 s.2) x => c_need hs x)
  generalize (mk ps).known S = hx at *
  generalize hr : refB S = rb at *
  clear hr
  clear HT0
  cases hx <;> cases rb
  all_goals
      go_enter Tryz.func30, Tryz.ntmps30
      go_wp2_with fail
      refine (hCl.out _).mono ?_
      rintro e w' ⟨rfl, rfl⟩
      go_wp2_with fail
      have hSd := Lib.hid HS0.out.drew
      have HKd := Lib.hid (HKn.out _ hB0.drew)
      have HGd := Lib.hid (grown_drew (grown_refl W0 (some b)))
      go_still_tail 16, (by kernel_rfl)
      still_call (still HKd.out)
      repeat still_step
      first
        | (still_call (still (HRf.out _))
           repeat still_step
           refine wpStill_nil ?_)
        | refine wpStill_nil ?_
      go_wp2_with fail
      refine (c_need hSd.out _).mono ?_
      rintro e w1 ⟨rfl, hs, hg⟩
      have HS1 := Lib.hid hs
      have HG1 := Lib.hid (grown_trans HGd.out hg)
      have k2 := (bx_grown HBx.out HG1.out hqb).cell 2
      have kl := (bx_grown HBx.out HG1.out hqb).lt
      clear hs hg
      go_wp2_with fail
      refine (c_thing HS1.out ((hf.need _).mono (by omega))).mono ?_
      rintro e w2 ⟨rfl, hs, hg⟩
      have HS2 := Lib.hid hs
      have HG2 := Lib.hid (grown_trans HG1.out hg)
      have k2 := (bx_grown HBx.out HG2.out hqb).cell 2
      have kl := (bx_grown HBx.out HG2.out hqb).lt
      clear hs hg
      go_wp2_with fail
      refine (c_push HS2.out ((hf.need _).thing.mono (by omega)) [66]).mono ?_
      rintro e w3 ⟨rfl, hs, hg⟩
      have HS3 := Lib.hid hs
      have HG3 := Lib.hid (grown_trans HG2.out hg)
      clear hs hg
      go_wp2_with fail
      go_end0
      exact ⟨rfl, HS3.out, grown_trans HG0.out HG3.out⟩
end KrD
end Go.Proofs.YtehainbhoflpnaaGreatDoor
/-
  The document's consts: what an instruction with a constant does to the stack.
-/
namespace Go.Proofs.YtehainbhoflpnaaGreatDoor
namespace KrE
open Go.RowKit Base BinM Stru DescM DescW DescX DescS DescG DescP DescQ HierS HierT HierM HierC HierD HierN HierV HierR HierU HierY HierQ Kls KlsP KlsQ OpenK TabC TabM TabK TabP TabE TabB TabG TabH TabT TabU TabV TabX TabW TabF TabN TabO TabY TabR TabQ TabL KndM KndS KrS KrA KrP KrB KrC KrD
open KndP (pop_le)
open KndW (mtE gives_mt tRun tUnit)

set_option maxRecDepth 100000 in
set_option maxHeartbeats 2000000 in
theorem consts_28_yes {lo g : Nat} {ps : List P2} {w : World} {b r : Nat} {s : RS} (h : Sk w b r s.1 s.2) (hf : Few 800 s) (kk nn : Int) (S T' U : T) (hS : S.length ≤ 140737488351232) (hn : (elemT S).2 = 0) (H : TbR lo w r g ps) (hb : lo ≤ b) :
    Calls Tryz.prog 30 #[.pointer (some ⟨b, 0, none⟩), .int .i64 28, .agg #[.int .i64 kk, .int .i64 nn, .string ⟨S.toArray⟩, .string ⟨T'.toArray⟩, .string ⟨U.toArray⟩]] w (GivesR w b r (rpush S (rwant [73] (rneed ((elemT S).2 == 0 && (mk ps).known S) s)))) := by
  have hlow : lo ≤ w.heap.size := by have := h.lt; omega
  have HT := Lib.hid (fun W (hW : Below lo w W) => H.below hW)
  have hqb : w.heap.size ≠ b := by have := h.lt; omega
  have A0 := ((Below.refl w.heap.size w).alloc (Nat.le_refl _) (.cells #[.int .i64 kk, .int .i64 nn, .string ⟨S.toArray⟩, .string ⟨T'.toArray⟩, .string ⟨U.toArray⟩] 75))
  have HS0 := Lib.hid (h.ext A0)
  have HG0 := Lib.hid (grown_of (some b) A0)
  have HBx := Lib.hid (Bx.new w #[.int .i64 kk, .int .i64 nn, .string ⟨S.toArray⟩, .string ⟨T'.toArray⟩, .string ⟨U.toArray⟩] 75)
  have hCl := Lib.hid (fun W => DescR.refClass_any S W (by omega))
  unfold twoB at hCl
  clear A0
  obtain ⟨W0, hW0⟩ : ∃ W, w.alloc (.cells #[.int .i64 kk, .int .i64 nn, .string ⟨S.toArray⟩, .string ⟨T'.toArray⟩, .string ⟨U.toArray⟩] 75) = W := ⟨_, rfl⟩
  rw [hW0] at HS0 HG0 HBx
  have k2 := HBx.out.cell 2
  have kl := HBx.out.lt
  have hB0 := below_grown HG0.out hb hlow
  have HT0 := HT.out W0 hB0
  have c0 := HS0.out.flag.2.2
  have c1 := crOf HT0
  have hbl := HS0.out.lt
  have hrl : r < W0.heap.size := Nat.lt_of_lt_of_le HT0.low (Nat.le_trans hlow hB0.size)
  have HKn := Lib.hid (fun W (hW : Below lo w W) => knownR_any lo g ps S W (HT.out W hW).hier (by omega))
  have HEl := Lib.hid (fun W => DescR.refElem_any S W (by omega))
  unfold twoI at HEl
  generalize (mk ps).known S = hx at *
  generalize elemT S = el at *
  obtain ⟨y, n⟩ := el
  simp only at HEl hn ⊢
  clear HT0
  subst hn
  go_enter Tryz.func30, Tryz.ntmps30
  go_wp2_with fail
  refine (hCl.out _).mono ?_
  rintro e w' ⟨rfl, rfl⟩
  go_wp2_with fail
  refine (HEl.out _).mono ?_
  rintro e w' ⟨rfl, rfl⟩
  go_wp2_with fail
  have hSd := Lib.hid HS0.out.drew
  have HKd := Lib.hid (HKn.out _ hB0.drew)
  have HGd := Lib.hid (grown_drew (grown_refl W0 (some b)))
  go_still_tail 15, (by kernel_rfl)
  still_call (still HKd.out)
  repeat still_step
  refine wpStill_nil ?_
  go_wp2_with fail
  refine (c_need hSd.out _).mono ?_
  rintro e w1 ⟨rfl, hs, hg⟩
  have HS1 := Lib.hid hs
  have HG1 := Lib.hid (grown_trans HGd.out hg)
  clear hs hg
  go_wp2_with fail
  refine (c_want HS1.out ((hf.need _).mono (by omega)) [73]).mono ?_
  rintro e w2 ⟨rfl, hs, hg⟩
  have HS2 := Lib.hid hs
  have HG2 := Lib.hid (grown_trans HG1.out hg)
  have k2 := (bx_grown HBx.out HG2.out hqb).cell 2
  have kl := (bx_grown HBx.out HG2.out hqb).lt
  clear hs hg
  go_wp2_with fail
  refine (c_push HS2.out (((hf.need _).want [73]).mono (by omega)) S).mono ?_
  rintro e w3 ⟨rfl, hs, hg⟩
  have HS3 := Lib.hid hs
  have HG3 := Lib.hid (grown_trans HG2.out hg)
  clear hs hg
  go_wp2_with fail
  go_end0
  exact ⟨rfl, HS3.out, grown_trans HG0.out HG3.out⟩
end KrE
end Go.Proofs.YtehainbhoflpnaaGreatDoor
