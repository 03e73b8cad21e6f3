/-
  The table of instructions, as the row lists it: from the row's condition to the cells that the walks read.
-/
import Derived.Test.YtiagjnimafdbhaaGreatDoorRows
import Derived.Test.YtiagjnimafdbhaaGreatDoorInsC
import Derived.OpenShut
import Derived.ChangeArms
import Derived.ChangeSame
import Derived.FnData
namespace Go.Proofs.YtiagjnimafdbhaaGreatDoor
namespace LaidM
open Go.RowKit Go.ChangeShapes Go.WideShapes InsM InsA

/-- one row of the table, as it reads -/
def rowD (r : List UInt8 × Int) : DataW Unit := .agg [.lit (.string r.1), .lit (.int .i64 r.2)]
theorem table_rows : (Rows.laid_hornbook_ins_rows : DataW Unit) = .agg (rowsL.map rowD) := by rfl

theorem row_at (k : Nat) (hk : k < 46) : rowsL[k]? = some (nameN k, kindN k) := by
  have hl : rowsL.length = 46 := rfl
  rw [List.getElem?_eq_getElem (by omega)]
  congr 1
  unfold nameN kindN
  rw [List.getD_eq_getElem?_getD, List.getElem?_eq_getElem (by omega)]
  rfl

/-- one of the listed variables, as it reads -/
theorem laid_var {P : Program} {w : World} {n : String} {d : DataW Unit} : ∀ {L : List (String × DataW Unit)} {ps : List MemPlace}, DataW.LaidVars P w L ps → (n, d) ∈ L →
    ∃ g t cs fuel p, P.globalNamed n = some g ∧ (P.globals[g]?).map (·.type) = some t ∧ w.var? P n = some cs ∧ DataW.trod (fun _ => ()) P w 0 (fun _ => true) false fuel t cs.toList = some (d, p)
  | (n', d') :: r, ps, h, hm => by
    obtain ⟨g, t, cs, fuel, p, q, hg, ht, hvar, hd, hr, _⟩ := h
    rcases List.mem_cons.1 hm with e | hm
    · obtain ⟨rfl, rfl⟩ := Prod.mk.inj e
      exact ⟨g, t, cs, fuel, p, hg, ht, hvar, hd⟩
    · exact laid_var hr hm

theorem laid_in (W : World) (L : List (String × DataW Unit)) (hm : ("hornbook/ins.rows", Rows.laid_hornbook_ins_rows) ∈ L) (h : laidMet Tryz.prog L W) : Laid W := by
  obtain ⟨ps, h1, _⟩ := h
  obtain ⟨g, t, cs, fuel, p, hg, ht, hvar, hd⟩ := laid_var h1 hm
  have hg0 : Tryz.prog.globalNamed "hornbook/ins.rows" = some 0 := by kernel_rfl
  obtain rfl := Option.some.inj (hg0.symm.trans hg)
  have ht0 : (Tryz.prog.globals[0]?).map (·.type) = some 266 := by kernel_rfl
  obtain rfl := Option.some.inj (ht0.symm.trans ht)
  have hcell : ∀ i, W.cell? ⟨0, i, none⟩ = cs[i]? := fun i => World.var?_cell hg0 hvar i
  have hc86 : Tryz.prog.cellsOf 265 = 2 := by kernel_rfl
  have hc3 : Tryz.prog.cellsOf 3 = 1 := by kernel_rfl
  have hc9 : Tryz.prog.cellsOf 9 = 1 := by kernel_rfl
  obtain ⟨xs, m, _, hx, _, _, hrow⟩ := DataW.trod_array Tryz.underlying266 hd
  rw [table_rows] at hx
  simp only [Prod.mk.injEq, DataW.agg.injEq] at hx
  have key : ∀ k, k < 46 → cs[k * 2]? = some (.string ⟨(nameN k).toArray⟩) ∧ cs[k * 2 + 1]? = some (.int .i64 (kindN k)) := by
    intro k hk
    have h1 := hrow k hk
    have h2 : (xs.map (·.1))[k]? = some (rowD (nameN k, kindN k)) := by rw [← hx.1, List.getElem?_map, row_at k hk]; rfl
    rw [List.getElem?_map] at h2
    obtain ⟨y, hy, hy1⟩ := Option.map_eq_some_iff.1 h2
    rw [hy, hc86] at h1
    obtain ⟨y0, y1, n, hyy, hlen, t0, t1⟩ := trod_struct2 Tryz.underlying265 h1
    rw [hc86] at hlen
    simp only [hc3, hc9, List.drop_zero] at t0 t1
    obtain ⟨s, hs, e0, _⟩ := DataW.trod_string Tryz.underlying9 t0
    obtain ⟨z, hz, e1, _⟩ := DataW.trod_int Tryz.underlying3 t1
    rw [hyy] at hy1
    simp only [rowD, DataW.agg.injEq, List.cons.injEq, and_true] at hy1
    rw [e0, e1] at hy1
    simp only [DataW.lit.injEq, Lit.string.injEq, Lit.int.injEq, true_and] at hy1
    obtain ⟨hy0, rfl⟩ := hy1
    have hs' : s = ⟨(nameN k).toArray⟩ := by rw [← hy0]
    subst hs'
    have g0 : (cs.toList.drop (k * 2))[0]? = some (.string ⟨(nameN k).toArray⟩) := by
      have := congrArg (·[0]?) hs
      simpa [List.getElem?_take] using this
    have g1 : (cs.toList.drop (k * 2))[1]? = some (.int .i64 (kindN k)) := by
      have := congrArg (·[0]?) hz
      simpa [List.getElem?_take, List.getElem?_drop] using this
    rw [List.getElem?_drop] at g0 g1
    exact ⟨by simpa using g0, by simpa using g1⟩
  have hc0 := (hcell (0 * 2)).trans (key 0 (by omega)).1
  exact ⟨World.block_lt_of_cell? W _ hc0, fun k hk => ⟨(hcell _).trans (key k hk).1, (hcell _).trans (key k hk).2⟩⟩

/-- the table's cells, for a witness -/
def tableCells : Array Value := (rowsL.flatMap fun r => [.string ⟨r.1.toArray⟩, .int .i64 r.2]).toArray

end LaidM
end Go.Proofs.YtiagjnimafdbhaaGreatDoor
