/-
  Law 20's small.
-/
import Derived.Test.YtkgopfpnjfibmaaGreatDoorG25
namespace Go.Proofs.YtkgopfpnjfibmaaGreatDoor
namespace DlS
open Go.RowKit Base BinM Stru DescM DescW DescX DescS DescG DescP DescQ HierS HierT HierM HierC HierD HierN HierV Kls KlsP KlsQ OpenK TabC TabM TabK TabP TabE TabB TabG TabH TabT TabU TabV TabX TabW TabF TabN TabO TabY

def SomeB (w : World) (e : Ending) (w' : World) : Prop := ∃ b : Bool, e = .returned (.bool b) ∧ Below w.heap.size w w'

set_option maxRecDepth 100000 in
set_option maxHeartbeats 8000000 in
theorem small_any (A : Option Addr) (l : List ClsT) (m c : Nat) (w : World) (hm : m = l.length) (hmx : m ≤ maxLen) (hr : Rds w A (l.flatMap valsC)) (his : ∀ x ∈ l, x.is w) :
    Calls Tryz.prog 59 #[.slice A m c] w (SomeB w) := by
  have Hr := Lib.hid hr
  have His := Lib.hid his
  have Z := Lib.hid (Below.refl w.heap.size w)
  clear hr his
  subst hm
  unfold maxLen at hmx
  by_cases h40 : 40 < l.length
  · have h40' : (40 : Int) < (l.length : Int) := by omega
    go_enter Tryz.func59, Tryz.ntmps59
    go_wp2_with fail
    go_ret
    exact ⟨false, rfl, Z.out⟩
  · have h40' : ¬ (40 : Int) < (l.length : Int) := by omega
    go_enter Tryz.func59, Tryz.ntmps59
    go_wp2_with fail
    go_loopw [3, 4] (fun n i wr => ∃ (x : Int) (j : Nat), j ≤ l.length ∧ n = .int .i64 x ∧ i = .int .i64 j ∧ Below w.heap.size w wr) (fun _ i _ => l.length - (intOf i).toNat)
    case atStart => exact ⟨0, 0, Nat.zero_le _, rfl, rfl, Z.out⟩
    case round =>
      obtain ⟨x, j, hj, rfl, rfl, hbw⟩ := hrel
      have Hbw := Lib.hid hbw
      by_cases hlt : j < l.length
      · obtain ⟨b1, o1, hA, hb1, hc0, hc1, hc2, hc3, hc4⟩ := cls_at (Hr.out.below hbw) hlt
        subst hA
        have hj1 : (j : Int) < (l.length : Int) := by omega
        have hj0 : (0 : Int) ≤ (j : Int) := by omega
        have HX := Lib.hid ((His.out _ (List.getElem_mem hlt)))
        have hbl := hbw.size
        clear hbw
        generalize l[j] = y at *
        by_cases h1 : (300 : Int) < (y.km : Int)
        · go_wp2_with fail
          go_ret
          exact ⟨false, rfl, Hbw.out⟩
        · by_cases h2 : (20 : Int) < (y.fm : Int)
          · go_wp2_with fail
            go_ret
            exact ⟨false, rfl, Hbw.out⟩
          · by_cases h3 : (40 : Int) < (y.mm : Int)
            · go_wp2_with fail
              go_ret
              exact ⟨false, rfl, Hbw.out⟩
            · go_wp2_with fail
              clear h1 h2
              have hcell4 := hc4
              have C4 := Lib.hid hc4
              have HR4 := Lib.hid HX.out.meths.rds
              have hml : y.mm = y.meths.length := HX.out.meths.len
              have HML := Lib.hid hml
              have hml1 : y.mm ≤ y.meths.length := Nat.le_of_eq hml
              have hml2 : y.meths.length ≤ y.mm := Nat.le_of_eq hml.symm
              clear hc0 hc1 hc2 hc3 hc4 hcell4 hml
              obtain ⟨wA, hwA⟩ : ∃ x, x = wr := ⟨_, rfl⟩
              subst hwA
              have ZA := Lib.hid (Below.refl wA.heap.size wA)
              go_loopw [3, 5] (fun n i wx => ∃ (z : Int) (k : Nat), k ≤ y.mm ∧ n = .int .i64 z ∧ i = .int .i64 k ∧ Below wA.heap.size wA wx) (fun _ i _ => y.mm - (intOf i).toNat)
              case atStart => exact ⟨x, 0, Nat.zero_le _, rfl, rfl, ZA.out⟩
              case round =>
                obtain ⟨z, k, hk, rfl, rfl, hbx⟩ := hrel
                have Hbx := Lib.hid hbx
                have hbw2 := Hbw.out.trans (hbx.mono Hbw.out.size)
                have Hbw2 := Lib.hid hbw2
                have c4 := (hbx.cell (p := ⟨b1, o1 + j * 5 + 4, none⟩) hb1).trans C4.out
                by_cases hlk : k < y.mm
                · obtain ⟨b2, o2, hA2, hb2, d0, d1, d2, d3, d4⟩ := mth_at (HR4.out.below hbw2) (show k < y.meths.length by omega)
                  have hk1 : (k : Int) < (y.mm : Int) := by omega
                  have hk0 : (0 : Int) ≤ (k : Int) := by omega
                  have hx63 : (y.mm : Int) ≤ 40 := by omega
                  clear hbx hbw2 d0 d1 d2
                  generalize y.meths[k]'(by omega) = v at *
                  rw [hA2] at c4 ⊢
                  go_wp2_with fail
                  go_quiet (fail)
                  go_wp2_with fail
                  all_goals first
                    | (go_ret; exact ⟨false, rfl, Stru.drawn Hbw2.out _⟩)
                    | (go_roundw
                       case rel => exact ⟨_, k + 1, by omega, rfl, by go_num, Stru.drawn Hbx.out _⟩
                       case measure => simp [intOf]; omega)
                · have hkm : k = y.mm := by omega
                  clear hbx hbw2
                  go_wp2_with fail
                  go_roundw
                  case rel => exact ⟨z, j + 1, by omega, rfl, by go_num, Hbw2.out⟩
                  case measure => simp [intOf]; omega
      · clear hbw
        go_wp2_with fail
        go_ret
        exact ⟨true, rfl, Hbw.out⟩

end DlS
end Go.Proofs.YtkgopfpnjfibmaaGreatDoor
