/-
  Law 20's small, and what it says.
-/
import Derived.Test.YtiagjnimafdbhaaGreatDoorG24
import Derived.Test.YtiagjnimafdbhaaGreatDoorG46
import Derived.Test.YtiagjnimafdbhaaGreatDoorRows
import Derived.Test.YtiagjnimafdbhaaGreatDoorG9
import Derived.OpenShut
import Derived.ChangeArms
import Derived.ChangeSame
import Derived.FnData
import Derived.Test.YtiagjnimafdbhaaGreatDoorG42
import Derived.Test.YtiagjnimafdbhaaGreatDoorG45
import Derived.Test.YtiagjnimafdbhaaGreatDoorG38
import Derived.Test.YtiagjnimafdbhaaGreatDoorG39
import Derived.Deep.RegionHeld3
namespace Go.Proofs.YtiagjnimafdbhaaGreatDoor
namespace DlT
open Go.RowKit Base BinM Stru DescM DescW DescX DescS DescG DescP DescQ HierS HierT HierM HierC HierD HierN HierV Kls KlsP KlsQ OpenK OpenD TabC TabM TabK TabP TabE TabB TabG TabH TabT TabU TabV TabX TabW TabF TabN TabO TabY

/-- classes that are not too long to be played with -/
structure SmC (y : ClsT) : Prop where
  consts : y.consts.length ≤ 300
  fields : y.fields.length ≤ 20
  meths : y.meths.length ≤ 40
  each : ∀ m ∈ y.meths, m.code.length ≤ 2000 ∧ m.hand.length ≤ 2000
def SmallB (w : World) (l : List ClsT) (e : Ending) (w' : World) : Prop := ∃ b : Bool, e = .returned (.bool b) ∧ (b = true → l.length ≤ 40 ∧ ∀ y ∈ l, SmC y) ∧ Below w.heap.size w w'
set_option maxRecDepth 100000 in
set_option maxHeartbeats 8000000 in
theorem small_yes (A : Option Addr) (l : List ClsT) (m c : Nat) (w : World) (hm : m = l.length) (hmx : m ≤ maxLen) (hr : Rds w A (l.flatMap valsC)) (his : ∀ x ∈ l, x.is w ∧ ltD x) :
    Calls Tryz.prog 5 #[.slice A m c] w (SmallB w l) := by
  have Hr := Lib.hid hr
  have His := Lib.hid his
  have Z := Lib.hid (Below.refl w.heap.size w)
  clear hr his
  subst hm
  unfold maxLen at hmx
  by_cases h40 : 40 < l.length
  · have h40' : (40 : Int) < (l.length : Int) := by omega
    go_enter Tryz.func5, Tryz.ntmps5
    go_wp2_with fail
    go_ret
    exact ⟨false, rfl, nofun, Z.out⟩
  · have h40' : ¬ (40 : Int) < (l.length : Int) := by omega
    go_enter Tryz.func5, Tryz.ntmps5
    go_wp2_with fail
    go_loopw [3, 4] (fun n i wr => ∃ (x : Int) (j : Nat), j ≤ l.length ∧ n = .int .i64 x ∧ i = .int .i64 j ∧ (0 ≤ x ∧ x ≤ 2000 ∧ ∀ y ∈ l.take j, SmC y) ∧ Below w.heap.size w wr) (fun _ i _ => l.length - (intOf i).toNat)
    case atStart => exact ⟨0, 0, Nat.zero_le _, rfl, rfl, ⟨by omega, by omega, by simp⟩, Z.out⟩
    case round =>
      obtain ⟨x, j, hj, rfl, rfl, ⟨hx0, hx1, hsm⟩, hbw⟩ := hrel
      have Hsm := Lib.hid hsm
      clear hsm
      have Hbw := Lib.hid hbw
      by_cases hlt : j < l.length
      · obtain ⟨b1, o1, hA, hb1, hc0, hc1, hc2, hc3, hc4⟩ := cls_at (Hr.out.below hbw) hlt
        subst hA
        have hj1 : (j : Int) < (l.length : Int) := by omega
        have hj0 : (0 : Int) ≤ (j : Int) := by omega
        have HX := Lib.hid ((His.out _ (List.getElem_mem hlt)).1)
        have HLd := Lib.hid ((His.out _ (List.getElem_mem hlt)).2.2)
        have Htk := Lib.hid (show l.take (j + 1) = l.take j ++ [l[j]] from by rw [List.take_succ_eq_append_getElem hlt])
        have hbl := hbw.size
        clear hbw
        generalize l[j] = y at *
        by_cases h1 : (300 : Int) < (y.km : Int)
        · go_wp2_with fail
          go_ret
          exact ⟨false, rfl, nofun, Hbw.out⟩
        · by_cases h2 : (20 : Int) < (y.fm : Int)
          · go_wp2_with fail
            go_ret
            exact ⟨false, rfl, nofun, Hbw.out⟩
          · by_cases h3 : (40 : Int) < (y.mm : Int)
            · go_wp2_with fail
              go_ret
              exact ⟨false, rfl, nofun, Hbw.out⟩
            · go_wp2_with fail
              have H123 := Lib.hid (show y.consts.length ≤ 300 ∧ y.fields.length ≤ 20 ∧ y.meths.length ≤ 40 from ⟨by have := HX.out.consts.len; omega, by have := HX.out.fields.len; omega, by have := HX.out.meths.len; omega⟩)
              clear h1 h2
              have hcell4 := hc4
              have C4 := Lib.hid hc4
              have HR4 := Lib.hid HX.out.meths.rds
              have hml : y.mm = y.meths.length := HX.out.meths.len
              have HML := Lib.hid hml
              have hml1 : y.mm ≤ y.meths.length := Nat.le_of_eq hml
              have hml2 : y.meths.length ≤ y.mm := Nat.le_of_eq hml.symm
              clear hc0 hc1 hc2 hc3 hc4 hcell4 hml
              obtain ⟨wA, hwA⟩ : ∃ x, x = wr := ⟨_, rfl⟩
              subst hwA
              have ZA := Lib.hid (Below.refl wA.heap.size wA)
              go_loopw [3, 5] (fun n i wx => ∃ (z : Int) (k : Nat), k ≤ y.mm ∧ n = .int .i64 z ∧ i = .int .i64 k ∧ (0 ≤ z ∧ z ≤ 2000 ∧ ∀ m ∈ y.meths.take k, m.code.length ≤ 2000 ∧ m.hand.length ≤ 2000) ∧ Below wA.heap.size wA wx) (fun _ i _ => y.mm - (intOf i).toNat)
              case atStart => exact ⟨x, 0, Nat.zero_le _, rfl, rfl, ⟨hx0, hx1, by simp⟩, ZA.out⟩
              case round =>
                obtain ⟨z, k, hk, rfl, rfl, ⟨hz0, hz1, hmm⟩, hbx⟩ := hrel
                have Hmm := Lib.hid hmm
                clear hmm
                have Hbx := Lib.hid hbx
                have hbw2 := Hbw.out.trans (hbx.mono Hbw.out.size)
                have Hbw2 := Lib.hid hbw2
                have c4 := (hbx.cell (p := ⟨b1, o1 + j * 5 + 4, none⟩) hb1).trans C4.out
                by_cases hlk : k < y.mm
                · obtain ⟨b2, o2, hA2, hb2, d0, d1, d2, d3, d4⟩ := mth_at (HR4.out.below hbw2) (show k < y.meths.length by omega)
                  have hk1 : (k : Int) < (y.mm : Int) := by omega
                  have hk0 : (0 : Int) ≤ (k : Int) := by omega
                  have hx63 : (y.mm : Int) ≤ 40 := by omega
                  clear hbx hbw2 d0 d1 d2
                  have hvis := HX.out.meths.each _ (List.getElem_mem (show k < y.meths.length by omega))
                  have hld := HLd.out _ (List.getElem_mem (show k < y.meths.length by omega))
                  have Htk2 := Lib.hid (show y.meths.take (k + 1) = y.meths.take k ++ [y.meths[k]'(by omega)] from by rw [List.take_succ_eq_append_getElem (by omega)])
                  generalize y.meths[k]'(by omega) = v at *
                  have HCL := Lib.hid (And.intro hvis.code.len hvis.hand.len)
                  have hcl : v.cm ≤ 140737488351232 := by have := hld.code; have := hvis.code.len; omega
                  have hhl : v.hm ≤ 140737488351232 := by have := hld.hand; have := hvis.hand.len; omega
                  clear hvis hld
                  rw [hA2] at c4 ⊢
                  by_cases hbig : (2000 : Int) < z + (v.cm : Int) + (v.hm : Int)
                  · go_wp2_with fail
                    go_quiet (fail)
                    go_wp2_with fail
                    go_ret
                    exact ⟨false, rfl, nofun, Stru.drawn Hbw2.out _⟩
                  · go_wp2_with fail
                    go_quiet (fail)
                    go_wp2_with fail
                    go_roundw
                    case rel => exact ⟨z + (v.cm : Int) + (v.hm : Int), k + 1, by omega, by go_num, by go_num, ⟨by omega, by omega, by
                      rw [Htk2.out]
                      intro m hm
                      rcases List.mem_append.1 hm with hm | hm
                      · exact Hmm.out m hm
                      · simp at hm; subst hm; have := HCL.out; omega⟩, Stru.drawn Hbx.out _⟩
                    case measure => simp [intOf]; omega
                · have hkm : k = y.mm := by omega
                  clear hbx hbw2
                  go_wp2_with fail
                  go_roundw
                  case rel => exact ⟨z, j + 1, by omega, rfl, by go_num, ⟨hz0, hz1, by
                    rw [Htk.out]
                    intro q hq
                    rcases List.mem_append.1 hq with hq | hq
                    · exact Hsm.out q hq
                    · simp at hq; subst hq
                      refine ⟨H123.out.1, H123.out.2.1, H123.out.2.2, ?_⟩
                      have h := Hmm.out
                      rw [List.take_of_length_le (by omega)] at h
                      exact h⟩, Hbw2.out⟩
                  case measure => simp [intOf]; omega
      · clear hbw
        go_wp2_with fail
        go_ret
        exact ⟨true, rfl, fun _ => ⟨by omega, by have := Hsm.out; rwa [List.take_of_length_le (by omega)] at this⟩, Hbw.out⟩

end DlT
end Go.Proofs.YtiagjnimafdbhaaGreatDoor
/-
  The table of instructions, as the row lists it: from the row's condition to the cells that the walks read.
-/
namespace Go.Proofs.YtiagjnimafdbhaaGreatDoor
namespace LaidM
open Go.RowKit Go.ChangeShapes Go.WideShapes InsM InsA

/-- one row of the table, as it reads -/
def rowD (r : List UInt8 × Int) : DataW Unit := .agg [.lit (.string r.1), .lit (.int .i64 r.2)]
theorem table_rows : (Rows.laid_hornbook_ins_rows : DataW Unit) = .agg (rowsL.map rowD) := by rfl

theorem row_at (k : Nat) (hk : k < 46) : rowsL[k]? = some (nameN k, kindN k) := by
  have hl : rowsL.length = 46 := rfl
  rw [List.getElem?_eq_getElem (by omega)]
  congr 1
  unfold nameN kindN
  rw [List.getD_eq_getElem?_getD, List.getElem?_eq_getElem (by omega)]
  rfl

/-- one of the listed variables, as it reads -/
theorem laid_var {P : Program} {w : World} {n : String} {d : DataW Unit} : ∀ {L : List (String × DataW Unit)} {ps : List MemPlace}, DataW.LaidVars P w L ps → (n, d) ∈ L →
    ∃ g t cs fuel p, P.globalNamed n = some g ∧ (P.globals[g]?).map (·.type) = some t ∧ w.var? P n = some cs ∧ DataW.trod (fun _ => ()) P w 0 (fun _ => true) false fuel t cs.toList = some (d, p)
  | (n', d') :: r, ps, h, hm => by
    obtain ⟨g, t, cs, fuel, p, q, hg, ht, hvar, hd, hr, _⟩ := h
    rcases List.mem_cons.1 hm with e | hm
    · obtain ⟨rfl, rfl⟩ := Prod.mk.inj e
      exact ⟨g, t, cs, fuel, p, hg, ht, hvar, hd⟩
    · exact laid_var hr hm

theorem laid_in (W : World) (L : List (String × DataW Unit)) (hm : ("hornbook/ins.rows", Rows.laid_hornbook_ins_rows) ∈ L) (h : laidMet Tryz.prog L W) : Laid W := by
  obtain ⟨ps, h1, _⟩ := h
  obtain ⟨g, t, cs, fuel, p, hg, ht, hvar, hd⟩ := laid_var h1 hm
  have hg0 : Tryz.prog.globalNamed "hornbook/ins.rows" = some 0 := by kernel_rfl
  obtain rfl := Option.some.inj (hg0.symm.trans hg)
  have ht0 : (Tryz.prog.globals[0]?).map (·.type) = some 266 := by kernel_rfl
  obtain rfl := Option.some.inj (ht0.symm.trans ht)
  have hcell : ∀ i, W.cell? ⟨0, i, none⟩ = cs[i]? := fun i => World.var?_cell hg0 hvar i
  have hc86 : Tryz.prog.cellsOf 265 = 2 := by kernel_rfl
  have hc3 : Tryz.prog.cellsOf 3 = 1 := by kernel_rfl
  have hc9 : Tryz.prog.cellsOf 9 = 1 := by kernel_rfl
  obtain ⟨xs, m, _, hx, _, _, hrow⟩ := DataW.trod_array Tryz.underlying266 hd
  rw [table_rows] at hx
  simp only [Prod.mk.injEq, DataW.agg.injEq] at hx
  have key : ∀ k, k < 46 → cs[k * 2]? = some (.string ⟨(nameN k).toArray⟩) ∧ cs[k * 2 + 1]? = some (.int .i64 (kindN k)) := by
    intro k hk
    have h1 := hrow k hk
    have h2 : (xs.map (·.1))[k]? = some (rowD (nameN k, kindN k)) := by rw [← hx.1, List.getElem?_map, row_at k hk]; rfl
    rw [List.getElem?_map] at h2
    obtain ⟨y, hy, hy1⟩ := Option.map_eq_some_iff.1 h2
    rw [hy, hc86] at h1
    obtain ⟨y0, y1, n, hyy, hlen, t0, t1⟩ := trod_struct2 Tryz.underlying265 h1
    rw [hc86] at hlen
    simp only [hc3, hc9, List.drop_zero] at t0 t1
    obtain ⟨s, hs, e0, _⟩ := DataW.trod_string Tryz.underlying9 t0
    obtain ⟨z, hz, e1, _⟩ := DataW.trod_int Tryz.underlying3 t1
    rw [hyy] at hy1
    simp only [rowD, DataW.agg.injEq, List.cons.injEq, and_true] at hy1
    rw [e0, e1] at hy1
    simp only [DataW.lit.injEq, Lit.string.injEq, Lit.int.injEq, true_and] at hy1
    obtain ⟨hy0, rfl⟩ := hy1
    have hs' : s = ⟨(nameN k).toArray⟩ := by rw [← hy0]
    subst hs'
    have g0 : (cs.toList.drop (k * 2))[0]? = some (.string ⟨(nameN k).toArray⟩) := by
      have := congrArg (·[0]?) hs
      simpa [List.getElem?_take] using this
    have g1 : (cs.toList.drop (k * 2))[1]? = some (.int .i64 (kindN k)) := by
      have := congrArg (·[0]?) hz
      simpa [List.getElem?_take, List.getElem?_drop] using this
    rw [List.getElem?_drop] at g0 g1
    exact ⟨by simpa using g0, by simpa using g1⟩
  have hc0 := (hcell (0 * 2)).trans (key 0 (by omega)).1
  exact ⟨World.block_lt_of_cell? W _ hc0, fun k hk => ⟨(hcell _).trans (key k hk).1, (hcell _).trans (key k hk).2⟩⟩

/-- the table's cells, for a witness -/
def tableCells : Array Value := (rowsL.flatMap fun r => [.string ⟨r.1.toArray⟩, .int .i64 r.2]).toArray

end LaidM
end Go.Proofs.YtiagjnimafdbhaaGreatDoor
/-
  The law DeltaMerges, walked: it returns true, and nothing that was there is written.
-/
namespace Go.Proofs.YtiagjnimafdbhaaGreatDoor
namespace WDeltaMerges
open Go.RowKit Base BinM Stru DescM DescW DescX HierS HierT HierM HierC HierD HierN Kls KlsP KlsQ OpenK TabC TabM TabK TabP TabE TabB TabG TabH TabT TabU TabI TabV TabW TabN TabO TabY TabR TabL TabCs TabCl DlP

theorem pure_ofW {x y : ClsT} (h : bareC x = bareC y) : x.meths.map MthT.pure = y.meths.map MthT.pure := by
  have h1 := congrArg (fun z : ClsT => z.meths.map MthT.pure) h
  simp only [bareC, List.map_map] at h1
  exact h1
theorem same_ofW {x y : ClsT} (h : bareC x = bareC y) : x.same y = true := by
  have e1 : x.name = y.name := by
    have e := congrArg ClsT.name h
    exact e
  have e2 : x.sup = y.sup := by
    have e := congrArg ClsT.sup h
    exact e
  have e3 : x.consts = y.consts := by
    have e := congrArg ClsT.consts h
    exact e
  have e4 : x.fields = y.fields := by
    have e := congrArg ClsT.fields h
    exact e
  have e5 := pure_ofW h
  simp [ClsT.same, e1, e2, e3, e4, e5]
theorem small_short {l : List ClsT} (h : ∀ y ∈ l, DlT.SmC y) : Short l := fun x hx => by
  obtain ⟨h1, h2, h3, h4⟩ := h x hx
  exact ⟨by omega, by omega, by omega, fun z hz => by have := h4 z hz; omega⟩

set_option maxRecDepth 100000 in
set_option maxHeartbeats 16000000 in
theorem walk (a0 : Option Addr) (m0 c0 : Nat) (l0 : List Kls.ClsT) (a1 : Option Addr) (m1 c1 : Nat) (l1 : List Kls.ClsT) (w : World) (hl : InsA.Laid w) (wm0 : m0 = l0.length) (wc0 : m0 ≤ c0) (wx0 : c0 ≤ maxLen) (wr0 : Rds w a0 (l0.flatMap OpenK.ClsT.vals)) (b0 : ∀ x ∈ l0, x.is w ∧ OpenD.ltD x) (wm1 : m1 = l1.length) (wc1 : m1 ≤ c1) (wx1 : c1 ≤ maxLen) (wr1 : Rds w a1 (l1.flatMap OpenK.ClsT.vals)) (b1 : ∀ x ∈ l1, x.is w ∧ OpenD.ltD x) :
    Calls Tryz.prog 3 #[.slice a0 m0 c0, .slice a1 m1 c1] w fun e w' => e = .returned (.bool true) ∧ Below w.heap.size w w' := by
  subst wm0
  subst wm1
  have HS0 := Lib.hid (DlT.small_yes a0 l0 l0.length c0 w rfl (Nat.le_trans wc0 wx0) wr0 b0)
  have HS1 := Lib.hid (fun W (hb : Below w.heap.size w W) => DlT.small_yes a1 l1 l1.length c1 W rfl (Nat.le_trans wc1 wx1) (Rds.below (xs := l1.flatMap valsC) wr1 hb) (fun x hx => ⟨(b1 x hx).1.below hb, (b1 x hx).2⟩))
  have HN := Lib.hid (fun W (hb : Below w.heap.size w W) => TabO.new_any a0 l0 l0.length c0 W rfl (Rds.below (xs := l0.flatMap valsC) wr0 hb) (fun x hx => ⟨(b0 x hx).1.below hb, (b0 x hx).2.1⟩) (hl.below hb hl.1))
  have HR := Lib.hid (fun W (hb : Below w.heap.size w W) => TabL.newR_any a0 l0 l0.length c0 W rfl (Rds.below (xs := l0.flatMap valsC) wr0 hb) (fun x hx => ⟨(b0 x hx).1.below hb, (b0 x hx).2.1⟩))
  have HK := Lib.hid (fun W (hb : Below w.heap.size w W) => DlK.known_any W (hl.below hb hl.1))
  have HX := Lib.hid (show Rds w a1 (l1.flatMap valsC) ∧ ∀ x ∈ l1, x.is w ∧ OpenD.ltD x from ⟨wr1, b1⟩)
  have HB0 := Lib.hid b0
  clear hl wc0 wx0 wr0 b0 wc1 wx1 wr1 b1
  go_enter Tryz.func3, Tryz.ntmps3
  go_wp2_with fail
  refine HS0.out.mono ?_
  rintro e w1 ⟨b, rfl, hb, hb1⟩
  have B1 := Lib.hid hb1
  clear hb1
  cases b with
  | false =>
    clear hb
    go_wp2_with fail
    refine (HK.out _ B1.out).mono ?_
    rintro e w2 ⟨rfl, hb2⟩
    have B2 := Lib.hid (B1.out.trans (hb2.mono B1.out.size))
    clear hb2
    go_wp2_with fail
    go_ret
    exact ⟨rfl, B2.out⟩
  | true =>
    have HM0 := Lib.hid (hb rfl)
    clear hb
    go_wp2_with fail
    refine (HS1.out _ B1.out).mono ?_
    rintro e w2 ⟨b, rfl, hb, hb2⟩
    have B2 := Lib.hid (B1.out.trans (hb2.mono B1.out.size))
    clear hb2
    cases b with
    | false =>
      clear hb
      go_wp2_with fail
      refine (HK.out _ B2.out).mono ?_
      rintro e w3 ⟨rfl, hb3⟩
      have B3 := Lib.hid (B2.out.trans (hb3.mono B2.out.size))
      clear hb3
      go_wp2_with fail
      go_ret
      exact ⟨rfl, B3.out⟩
    | true =>
      have HM1 := Lib.hid (hb rfl)
      clear hb
      go_wp2_with fail
      refine (HN.out _ B2.out).mono ?_
      rintro e w3 ⟨hb3, hor⟩
      have B3 := Lib.hid (B2.out.trans (hb3.mono B2.out.size))
      clear hb3
      rcases hor with ⟨hwz, lo, t, g, mb, n, A, c, C, f, rfl, hlo, hTa, hTot, hbare, hwhy, hz⟩ | ⟨hne, rfl⟩
      · have HT := Lib.hid (And.intro hTa (And.intro hbare (And.intro hwhy hz)))
        clear hTa hTot hbare hz hlo hwhy
        go_wp2_with fail
        refine (HR.out _ B3.out).mono ?_
        rintro e w4 ⟨hb4, hor⟩
        have B34 := Lib.hid hb4
        have B4 := Lib.hid (B3.out.trans (hb4.mono B3.out.size))
        clear hb4
        rcases hor with ⟨_, lo', r, g', A', c', rfl, hRT⟩ | ⟨hne, _⟩
        · have HRT := Lib.hid hRT
          have HT4 := Lib.hid (HT.out.1.ext B34.out)
          have HBare := Lib.hid HT.out.2.1
          have hl32 : l0.length ≤ 32 := by have := (why_parts HT.out.2.2.1).1; unfold pairs at this; simpa using this
          have hCl : C.length = l0.length := by have := congrArg List.length HBare.out; simpa using this
          have hShC := DlK.short_of HBare.out HT.out.2.2.2
          have hnd : (C.map ClsT.name).Nodup := names_of (by rw [pairs_alike HBare.out]; exact HT.out.2.2.1)
          have hnl : ∀ x ∈ C, x.name.length ≤ 140737488351232 := fun x hx => by
            obtain ⟨k', h1, h2⟩ := bare_mem HBare.out hx
            have e1 : x.name = k'.name := by
              have e := congrArg ClsT.name h2
              exact e
            rw [e1]
            exact (HB0.out _ h1).2.1.name
          have h40 := HM1.out.1
          have HMg := Lib.hid (DlM.merge_any HT4.out (by omega) hShC hnd a1 c1 l1 (by omega) (HX.out.1.below B4.out) (fun x hx => ⟨(HX.out.2 x hx).1.below B4.out, (HX.out.2 x hx).2.1⟩) (small_short HM1.out.2) hnl)
          have HMr := Lib.hid (fun W (hb : Below w4.heap.size w4 W) => DlR.mergeR_any (HRT.out.ext hb) (by omega) a1 c1 l1 (by omega) (HX.out.1.below (B4.out.trans (hb.mono B4.out.size))) (fun x hx => (HX.out.2 x hx).1.below (B4.out.trans (hb.mono B4.out.size))))
          clear hRT hShC hnd hnl hwz hCl HT HN HR HS0 HS1 HT4
          go_wp2_with fail
          refine HMg.out.mono ?_
          rintro e w5 hG
          have HG := Lib.hid (hG.alike HBare.out)
          have B45 := Lib.hid hG.1
          clear hG
          obtain ⟨hb5, hor⟩ := HG.out
          have B5 := Lib.hid (B4.out.trans (hb5.mono B4.out.size))
          clear hb5
          rcases hor with ⟨x, hbad, rfl⟩ | ⟨hbad, A6, c6, D6, rfl, hr6, hi6, hb6⟩
          · go_wp2_with fail
            refine (HMr.out _ B45.out).mono ?_
            rintro e w6 ⟨hb7, hor⟩
            have B6 := Lib.hid (B5.out.trans (hb7.mono B5.out.size))
            clear hb7
            rcases hor with ⟨y, hbad2, rfl⟩ | ⟨hbad2, _⟩
            · obtain rfl : x = y := by rw [hbad] at hbad2; exact Option.some.inj hbad2
              clear hbad hbad2
              go_wp2_with fail
              have Z6 := Lib.hid (Below.refl w6.heap.size w6)
              go_loopw [17] (fun i wr => i = .int .i64 0 ∧ Below w6.heap.size w6 wr) (fun _ _ => 0)
              case atStart => exact ⟨rfl, Z6.out⟩
              case round =>
                obtain ⟨rfl, hb8⟩ := hrel
                have B8 := Lib.hid (B6.out.trans (hb8.mono B6.out.size))
                clear hb8
                go_wp2_with fail
                refine (HK.out _ B8.out).mono ?_
                rintro e w9 ⟨rfl, hb9⟩
                have B9 := Lib.hid (B8.out.trans (hb9.mono B8.out.size))
                clear hb9
                go_wp2_with fail
                go_ret
                exact ⟨rfl, B9.out⟩
            · rw [hbad] at hbad2; cases hbad2
          · have HD6 := Lib.hid (And.intro hr6 (And.intro hi6 hb6))
            clear hr6 hi6 hb6
            go_wp2_with fail
            refine (HMr.out _ B45.out).mono ?_
            rintro e w6 ⟨hb7, hor⟩
            have B56 := Lib.hid hb7
            have B6 := Lib.hid (B5.out.trans (hb7.mono B5.out.size))
            clear hb7
            rcases hor with ⟨y, hbad2, _⟩ | ⟨_, A7, c7, D7, rfl, hr7, hi7, hb7⟩
            · rw [hbad] at hbad2; cases hbad2
            · have HD7 := Lib.hid (And.intro hr7 (And.intro hi7 hb7))
              have hlen : D7.length = D6.length := by
                have h1 := congrArg List.length (hb7.trans HD6.out.2.2.symm)
                simpa using h1
              have HBB := Lib.hid (show D6.map bareC = D7.map bareC from HD6.out.2.2.trans hb7.symm)
              have Hlen := Lib.hid hlen
              have HE := Lib.hid (And.intro (HD6.out.1.below B56.out) (fun x hx => (HD6.out.2.1 x hx).below B56.out))
              have hDl : D6.length ≤ 1000000 := by
                have h1 := congrArg List.length HD6.out.2.2
                simp only [List.length_map, merged, List.length_append] at h1
                have h2 := List.length_filter_le (newC l0) l1
                omega
              clear hr7 hi7 hb7 hbad
              rw [hlen]
              clear hlen
              go_wp2_with fail
              have Z6 := Lib.hid (Below.refl w6.heap.size w6)
              go_loopw [17] (fun i wr => ∃ j : Nat, j ≤ D6.length ∧ i = .int .i64 j ∧ Below w6.heap.size w6 wr) (fun i _ => D6.length - (intOf i).toNat)
              case atStart => exact ⟨0, Nat.zero_le _, rfl, Z6.out⟩
              case round =>
                obtain ⟨j, hj, rfl, hbr⟩ := hrel
                have Hbr := Lib.hid hbr
                by_cases hlt : j < D6.length
                · have hlt7 : j < D7.length := by have := Hlen.out; omega
                  obtain ⟨p1, o1, hA1, hp1, hc0, hc1, hc2, hc3, hc4⟩ := cls_at (HE.out.1.below hbr) hlt
                  obtain ⟨p2, o2, hA2, hp2, hd0, hd1, hd2, hd3, hd4⟩ := cls_at (HD7.out.1.below hbr) hlt7
                  have HAt1 := Lib.hid (fun W (hb : Below w6.heap.size w6 W) => cls_at (HE.out.1.below hb) hlt)
                  have HAt2 := Lib.hid (fun W (hb : Below w6.heap.size w6 W) => cls_at (HD7.out.1.below hb) hlt7)
                  subst hA1
                  subst hA2
                  have hj1 : (j : Int) < (D6.length : Int) := by omega
                  have hj0 : (0 : Int) ≤ (j : Int) := by omega
                  have hs := same_ofW (bare_get HBB.out hlt hlt7)
                  have hxis := (HE.out.2 _ (List.getElem_mem hlt)).below hbr
                  have hyis := (HD7.out.2.1 _ (List.getElem_mem hlt7)).below hbr
                  generalize D6[j] = x at *
                  generalize D7[j] = y at *
                  have HC := Lib.hid (fun W (hb : Below wr.heap.size wr W) => (Kls.refSame_any x y W (hxis.below hb) (hyis.below hb)).mono (R' := fun e w' => e = .returned (.bool true) ∧ Below wr.heap.size wr w') (fun e w' ⟨h1, h2⟩ => ⟨by rw [h1, hs], hb.trans (h2.mono hb.size)⟩))
                  simp only [ClsT.V] at HC
                  have hB0 := Below.refl wr.heap.size wr
                  have hB1 := hB0.drew
                  clear hxis hyis hs hbr
                  go_wp2_with fail
                  go_region_held3 (fun w' => w'.cell? ⟨p1, o1 + j * 5, none⟩ = some (.string ⟨x.name.toArray⟩) ∧ w'.cell? ⟨p1, o1 + j * 5 + 1, none⟩ = some (.string ⟨x.sup.toArray⟩) ∧ w'.cell? ⟨p1, o1 + j * 5 + 2, none⟩ = some (.slice x.kA x.km x.kc) ∧ w'.cell? ⟨p1, o1 + j * 5 + 3, none⟩ = some (.slice x.fA x.fm x.fc) ∧ w'.cell? ⟨p1, o1 + j * 5 + 4, none⟩ = some (.slice x.mA x.mm x.mc) ∧ w'.cell? ⟨p2, o2 + j * 5, none⟩ = some (.string ⟨y.name.toArray⟩) ∧ w'.cell? ⟨p2, o2 + j * 5 + 1, none⟩ = some (.string ⟨y.sup.toArray⟩) ∧ w'.cell? ⟨p2, o2 + j * 5 + 2, none⟩ = some (.slice y.kA y.km y.kc) ∧ w'.cell? ⟨p2, o2 + j * 5 + 3, none⟩ = some (.slice y.fA y.fm y.fc) ∧ w'.cell? ⟨p2, o2 + j * 5 + 4, none⟩ = some (.slice y.mA y.mm y.mc))
                    (first | exact ⟨hc0, hc1, hc2, hc3, hc4, hd0, hd1, hd2, hd3, hd4⟩ | exact ⟨x0, x1, x2, x3, x4, y0, y1, y2, y3, y4⟩ | go_keep)
                    (first
                      | (go_at_call 11
                         refine (HC.out _ (by assumption)).mono ?_
                         rintro ee w9 ⟨rfl, hb9⟩
                         have G9 := Lib.hid (Hbr.out.trans (hb9.mono Hbr.out.size))
                         obtain ⟨_, _, hA1, _, x0, x1, x2, x3, x4⟩ := HAt1.out _ G9.out
                         cases hA1
                         obtain ⟨_, _, hA2, _, y0, y1, y2, y3, y4⟩ := HAt2.out _ G9.out
                         cases hA2))
                  all_goals
                    go_wp2_with fail
                    go_roundw
                    case rel => exact ⟨j + 1, by omega, by go_num, by first | exact G9.out | exact drawn G9.out _⟩
                    case measure => simp [intOf]; omega
                · have B8 := Lib.hid (B6.out.trans (hbr.mono B6.out.size))
                  clear hbr
                  go_wp2_with fail
                  refine (HK.out _ B8.out).mono ?_
                  rintro e w9 ⟨rfl, hb9⟩
                  have B9 := Lib.hid (B8.out.trans (hb9.mono B8.out.size))
                  clear hb9
                  go_wp2_with fail
                  go_ret
                  exact ⟨rfl, B9.out⟩
        · exact absurd hwz hne
      · go_wp2_with fail
        refine (HR.out _ B3.out).mono ?_
        rintro e w4 ⟨hb4, hor⟩
        have B4 := Lib.hid (B3.out.trans (hb4.mono B3.out.size))
        clear hb4
        rcases hor with ⟨hwz, _⟩ | ⟨_, rfl⟩
        · exact absurd hwz hne
        · go_wp2_with fail
          refine (HK.out _ B4.out).mono ?_
          rintro e w5 ⟨rfl, hb5⟩
          have B5 := Lib.hid (B4.out.trans (hb5.mono B4.out.size))
          clear hb5
          go_wp2_with fail
          go_ret
          exact ⟨rfl, B5.out⟩
end WDeltaMerges
end Go.Proofs.YtiagjnimafdbhaaGreatDoor
