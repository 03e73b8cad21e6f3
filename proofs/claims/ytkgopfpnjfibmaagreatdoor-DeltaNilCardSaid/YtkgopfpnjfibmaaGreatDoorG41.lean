/-
  The table of instructions, as the row lists it: from the row's condition to the cells that the walks read.
-/
import Derived.Test.YtkgopfpnjfibmaaGreatDoorRows
import Derived.Test.YtkgopfpnjfibmaaGreatDoorG9
import Derived.OpenShut
import Derived.ChangeArms
import Derived.ChangeSame
import Derived.FnData
import Derived.Test.YtkgopfpnjfibmaaGreatDoorG40
import Derived.Test.YtkgopfpnjfibmaaGreatDoorG39
import Derived.Test.YtkgopfpnjfibmaaGreatDoorG14
namespace Go.Proofs.YtkgopfpnjfibmaaGreatDoor
namespace LaidM
open Go.RowKit Go.ChangeShapes Go.WideShapes InsM InsA

/-- one row of the table, as it reads -/
def rowD (r : List UInt8 × Int) : DataW Unit := .agg [.lit (.string r.1), .lit (.int .i64 r.2)]
theorem table_rows : (Rows.laid_hornbook_ins_rows : DataW Unit) = .agg (rowsL.map rowD) := by rfl

theorem row_at (k : Nat) (hk : k < 46) : rowsL[k]? = some (nameN k, kindN k) := by
  have hl : rowsL.length = 46 := rfl
  rw [List.getElem?_eq_getElem (by omega)]
  congr 1
  unfold nameN kindN
  rw [List.getD_eq_getElem?_getD, List.getElem?_eq_getElem (by omega)]
  rfl

/-- one of the listed variables, as it reads -/
theorem laid_var {P : Program} {w : World} {n : String} {d : DataW Unit} : ∀ {L : List (String × DataW Unit)} {ps : List MemPlace}, DataW.LaidVars P w L ps → (n, d) ∈ L →
    ∃ g t cs fuel p, P.globalNamed n = some g ∧ (P.globals[g]?).map (·.type) = some t ∧ w.var? P n = some cs ∧ DataW.trod (fun _ => ()) P w 0 (fun _ => true) false fuel t cs.toList = some (d, p)
  | (n', d') :: r, ps, h, hm => by
    obtain ⟨g, t, cs, fuel, p, q, hg, ht, hvar, hd, hr, _⟩ := h
    rcases List.mem_cons.1 hm with e | hm
    · obtain ⟨rfl, rfl⟩ := Prod.mk.inj e
      exact ⟨g, t, cs, fuel, p, hg, ht, hvar, hd⟩
    · exact laid_var hr hm

theorem laid_in (W : World) (L : List (String × DataW Unit)) (hm : ("hornbook/ins.rows", Rows.laid_hornbook_ins_rows) ∈ L) (h : laidMet Tryz.prog L W) : Laid W := by
  obtain ⟨ps, h1, _⟩ := h
  obtain ⟨g, t, cs, fuel, p, hg, ht, hvar, hd⟩ := laid_var h1 hm
  have hg0 : Tryz.prog.globalNamed "hornbook/ins.rows" = some 0 := by kernel_rfl
  obtain rfl := Option.some.inj (hg0.symm.trans hg)
  have ht0 : (Tryz.prog.globals[0]?).map (·.type) = some 392 := by kernel_rfl
  obtain rfl := Option.some.inj (ht0.symm.trans ht)
  have hcell : ∀ i, W.cell? ⟨0, i, none⟩ = cs[i]? := fun i => World.var?_cell hg0 hvar i
  have hc86 : Tryz.prog.cellsOf 391 = 2 := by kernel_rfl
  have hc3 : Tryz.prog.cellsOf 3 = 1 := by kernel_rfl
  have hc9 : Tryz.prog.cellsOf 9 = 1 := by kernel_rfl
  obtain ⟨xs, m, _, hx, _, _, hrow⟩ := DataW.trod_array Tryz.underlying392 hd
  rw [table_rows] at hx
  simp only [Prod.mk.injEq, DataW.agg.injEq] at hx
  have key : ∀ k, k < 46 → cs[k * 2]? = some (.string ⟨(nameN k).toArray⟩) ∧ cs[k * 2 + 1]? = some (.int .i64 (kindN k)) := by
    intro k hk
    have h1 := hrow k hk
    have h2 : (xs.map (·.1))[k]? = some (rowD (nameN k, kindN k)) := by rw [← hx.1, List.getElem?_map, row_at k hk]; rfl
    rw [List.getElem?_map] at h2
    obtain ⟨y, hy, hy1⟩ := Option.map_eq_some_iff.1 h2
    rw [hy, hc86] at h1
    obtain ⟨y0, y1, n, hyy, hlen, t0, t1⟩ := trod_struct2 Tryz.underlying391 h1
    rw [hc86] at hlen
    simp only [hc3, hc9, List.drop_zero] at t0 t1
    obtain ⟨s, hs, e0, _⟩ := DataW.trod_string Tryz.underlying9 t0
    obtain ⟨z, hz, e1, _⟩ := DataW.trod_int Tryz.underlying3 t1
    rw [hyy] at hy1
    simp only [rowD, DataW.agg.injEq, List.cons.injEq, and_true] at hy1
    rw [e0, e1] at hy1
    simp only [DataW.lit.injEq, Lit.string.injEq, Lit.int.injEq, true_and] at hy1
    obtain ⟨hy0, rfl⟩ := hy1
    have hs' : s = ⟨(nameN k).toArray⟩ := by rw [← hy0]
    subst hs'
    have g0 : (cs.toList.drop (k * 2))[0]? = some (.string ⟨(nameN k).toArray⟩) := by
      have := congrArg (·[0]?) hs
      simpa [List.getElem?_take] using this
    have g1 : (cs.toList.drop (k * 2))[1]? = some (.int .i64 (kindN k)) := by
      have := congrArg (·[0]?) hz
      simpa [List.getElem?_take, List.getElem?_drop] using this
    rw [List.getElem?_drop] at g0 g1
    exact ⟨by simpa using g0, by simpa using g1⟩
  have hc0 := (hcell (0 * 2)).trans (key 0 (by omega)).1
  exact ⟨World.block_lt_of_cell? W _ hc0, fun k hk => ⟨(hcell _).trans (key k hk).1, (hcell _).trans (key k hk).2⟩⟩

/-- the table's cells, for a witness -/
def tableCells : Array Value := (rowsL.flatMap fun r => [.string ⟨r.1.toArray⟩, .int .i64 r.2]).toArray

end LaidM
end Go.Proofs.YtkgopfpnjfibmaaGreatDoor
/-
  The law DeltaNil, walked: it returns true, and nothing that was there is written.
-/
namespace Go.Proofs.YtkgopfpnjfibmaaGreatDoor
namespace WDeltaNil
open Go.RowKit Base BinM Stru DescM DescW DescX HierS HierT HierM HierC HierD HierN Kls KlsP KlsQ OpenK TabC TabM TabK TabP TabE TabB TabG TabH TabT TabU TabI TabV TabW TabN TabO TabY

set_option maxRecDepth 100000 in
theorem held_nil (p q : Option Addr) (w : World) (h : p = none ∨ q = none) : Calls Tryz.prog 65 #[.pointer p, .pointer q] w fun e w' => e = .returned (.slice none 0 0) ∧ Below w.heap.size w w' := by
  have Z := Lib.hid (Below.refl w.heap.size w)
  cases p with
  | none =>
    go_enter Tryz.func65, Tryz.ntmps65
    go_wp2_with fail
    go_ret
    exact ⟨rfl, Z.out⟩
  | some p =>
    rcases h with h | rfl
    · cases h
    · go_enter Tryz.func65, Tryz.ntmps65
      go_wp2_with fail
      go_ret
      exact ⟨rfl, Z.out⟩
set_option maxRecDepth 100000 in
theorem layouts_nil (p q : Option Addr) (w : World) (h : p = none ∨ q = none) : Calls Tryz.prog 66 #[.pointer p, .pointer q] w fun e w' => e = .returned (.slice none 0 0) ∧ Below w.heap.size w w' := by
  have Z := Lib.hid (Below.refl w.heap.size w)
  cases p with
  | none =>
    go_enter Tryz.func66, Tryz.ntmps66
    go_wp2_with fail
    go_ret
    exact ⟨rfl, Z.out⟩
  | some p =>
    rcases h with h | rfl
    · cases h
    · go_enter Tryz.func66, Tryz.ntmps66
      go_wp2_with fail
      go_ret
      exact ⟨rfl, Z.out⟩
set_option maxRecDepth 100000 in
theorem merge_nil (x : Array Value) (w : World) : Calls Tryz.prog 62 #[.pointer none, .agg x] w fun e w' => e = .returned (.tuple #[.slice none 0 0, .string ⟨#[]⟩, .int .i64 1]) ∧ Below w.heap.size w w' := by
  have Z := Lib.hid (Below.refl w.heap.size w)
  go_enter Tryz.func62, Tryz.ntmps62
  go_wp2_with fail
  go_ret3
  exact ⟨rfl, Z.out.alloc Z.out.size _⟩

theorem why_none : whyC [] = ([], 0) := by kernel_rfl
set_option maxRecDepth 100000 in
set_option maxHeartbeats 8000000 in
theorem walk (a0 : Option Addr) (m0 c0 : Nat) (l0 : List Kls.ClsT) (w : World) (hl : InsA.Laid w) (wm0 : m0 = l0.length) (wc0 : m0 ≤ c0) (wx0 : c0 ≤ maxLen) (wr0 : Rds w a0 (l0.flatMap OpenK.ClsT.vals)) (b0 : ∀ x ∈ l0, x.is w ∧ OpenK.ClsT.lt x) :
    Calls Tryz.prog 9 #[.slice a0 m0 c0] w fun e w' => e = .returned (.bool true) ∧ Below w.heap.size w w' := by
  subst wm0
  have HN := Lib.hid (TabO.new_any none [] 0 0 w rfl (.inl rfl) (by simp) hl)
  have HS := Lib.hid (fun W (hb : Below w.heap.size w W) => DlS.small_any a0 l0 l0.length c0 W rfl (Nat.le_trans wc0 wx0) (wr0.below hb) (fun x hx => (b0 x hx).1.below hb))
  have HK := Lib.hid (fun W (hb : Below w.heap.size w W) => DlK.known_any W (hl.below hb hl.1))
  clear wr0 b0 hl
  go_enter Tryz.func9, Tryz.ntmps9
  go_wp2_with fail
  refine HN.out.mono ?_
  rintro e w1 ⟨hb1, hor⟩
  have B1 := Lib.hid hb1
  rcases hor with ⟨_, lo, t, g, mb, n, A, c, C, f, rfl, hlo, _, _, _, _, _⟩ | ⟨hne, _⟩
  · clear hb1 hlo
    go_wp2_with fail
    refine (HS.out _ B1.out).mono ?_
    rintro e w2 ⟨b, rfl, hb2⟩
    have B2 := Lib.hid (B1.out.trans (hb2.mono B1.out.size))
    clear hb2
    cases b with
    | false =>
      go_wp2_with fail
      refine (HK.out _ B2.out).mono ?_
      rintro e w3 ⟨rfl, hb3⟩
      have B3 := Lib.hid (B2.out.trans (hb3.mono B2.out.size))
      clear hb3
      go_wp2_with fail
      go_ret
      exact ⟨rfl, B3.out⟩
    | true =>
      go_wp2_with fail
      refine (merge_nil _ _).mono ?_
      rintro e w3 ⟨rfl, hb3⟩
      have B3 := Lib.hid (B2.out.trans (hb3.mono B2.out.size))
      clear hb3
      go_wp2_with fail
      refine (held_nil _ _ _ (.inl rfl)).mono ?_
      rintro e w4 ⟨rfl, hb4⟩
      have B4 := Lib.hid (B3.out.trans (hb4.mono B3.out.size))
      clear hb4
      go_wp2_with fail
      refine (held_nil _ _ _ (.inr rfl)).mono ?_
      rintro e w5 ⟨rfl, hb5⟩
      have B5 := Lib.hid (B4.out.trans (hb5.mono B4.out.size))
      clear hb5
      go_wp2_with fail
      refine (layouts_nil _ _ _ (.inl rfl)).mono ?_
      rintro e w6 ⟨rfl, hb6⟩
      have B6 := Lib.hid (B5.out.trans (hb6.mono B5.out.size))
      clear hb6
      go_wp2_with fail
      refine (layouts_nil _ _ _ (.inr rfl)).mono ?_
      rintro e w7 ⟨rfl, hb7⟩
      have B7 := Lib.hid (B6.out.trans (hb7.mono B6.out.size))
      clear hb7
      go_wp2_with fail
      refine (HK.out _ B7.out).mono ?_
      rintro e w8 ⟨rfl, hb8⟩
      have B8 := Lib.hid (B7.out.trans (hb8.mono B7.out.size))
      clear hb8
      go_wp2_with fail
      go_ret
      exact ⟨rfl, B8.out⟩
  · exact absurd (by rw [why_none]) hne
end WDeltaNil
end Go.Proofs.YtkgopfpnjfibmaaGreatDoor
/-
  Lists of classes that came in, opened.
-/
namespace Go.Proofs.YtkgopfpnjfibmaaGreatDoor
namespace OpenC
open Go.RowKit Go.ChangeShapes Go.WideShapes Go.Deep Base Stru Opened OpenS OpenG OpenK Kls

section
variable {H : Type} {enc : TypeId × Value → H} {w : World}
set_option maxRecDepth 100000 in
theorem open_clss {n : Nat} {cs : List Value} {d : DataW H} {p : List MemPlace} (h : Tr enc w n 87 cs d p) (hl : Light Tryz.prog 87 d) :
    ∃ (A : Option Addr) (m c : Nat) (l : List ClsT), cs = [.slice A m c] ∧ m = l.length ∧ m ≤ c ∧ c ≤ maxLen ∧ Rds w A (l.flatMap OpenK.ClsT.vals) ∧ ∀ x ∈ l, x.is w ∧ ClsT.lt x :=
  open_list (k := 5) Tryz.underlying87 (by kernel_rfl) (by omega) OpenK.ClsT.vals (fun x => x.is w ∧ ClsT.lt x) (fun _ => rfl) (fun _ _ _ _ h hl => open_cls h hl) h hl
end
end OpenC
end Go.Proofs.YtkgopfpnjfibmaaGreatDoor
