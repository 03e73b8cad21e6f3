/-
  Whether a class is not too long to be played with: what the call tells.
-/
import Derived.Test.YthkkcecfenohjaaGreatDoorKlsS
namespace Go.Proofs.YthkkcecfenohjaaGreatDoor
namespace Kls
open Go.RowKit Base BinM Stru PoolM PoolA PoolJ InsJ

/-- what is known of a class that is not too long -/
def ClsT.short (x : ClsT) : Prop := x.consts.length ≤ 300 ∧ x.fields.length ≤ 40 ∧ x.meths.length ≤ 40 ∧ ∀ y ∈ x.meths, y.code.length ≤ 600 ∧ y.hand.length ≤ 20
def GivesS (x : ClsT) (w : World) (e : Ending) (w' : World) : Prop := ∃ r : Bool, e = .returned (.bool r) ∧ (r = true → x.short) ∧ Below w.heap.size w w'
theorem givesS {x : ClsT} {w w' : World} {r : Bool} (h : r = true → x.short) (hb : Below w.heap.size w w') : GivesS x w (.returned (.bool r)) w' := ⟨r, rfl, h, hb⟩

set_option maxRecDepth 100000 in
set_option maxHeartbeats 4000000 in
theorem small_any (x : ClsT) (w : World) (hx : x.is w) : Calls Tryz.prog 11 #[x.V] w (GivesS x w) := by
  obtain ⟨n, s, kA, km, kc, fA, fm, fc, mA, mm, mc, ks, fs, ms⟩ := x
  have hk1 : ks.length = km := hx.consts.len.symm
  have hf1 : fs.length = fm := hx.fields.len.symm
  have hm1 : ms.length ≤ mm := Nat.le_of_eq hx.meths.len.symm
  have hm2 : mm ≤ ms.length := Nat.le_of_eq hx.meths.len
  have Hm := Lib.hid (show IsMths w mA mm mc ms from hx.meths)
  clear hx
  simp only [ClsT.V]
  have HB := Lib.hid ((Below.refl w.heap.size w).alloc (Nat.le_refl _) (.cells #[.string ⟨n.toArray⟩, .string ⟨s.toArray⟩, .slice kA km kc, .slice fA fm fc, .slice mA mm mc] 26))
  have H1 := Lib.hid (Box5.new w (.string ⟨n.toArray⟩) (.string ⟨s.toArray⟩) (.slice kA km kc) (.slice fA fm fc) (.slice mA mm mc) 26)
  by_cases h1 : (300 : Int) < (km : Int)
  · go_enter Tryz.func11, Tryz.ntmps11
    go_wp2_with fail
    go_ret
    exact givesS (by intro h; cases h) HB.out
  · have d1 : decide ((300 : Int) < (km : Int)) = false := by simpa using h1
    by_cases h2 : (40 : Int) < (fm : Int)
    · go_enter Tryz.func11, Tryz.ntmps11
      go_wp2_with fail
      go_ret
      exact givesS (by intro h; cases h) HB.out
    · have d2 : decide ((40 : Int) < (fm : Int)) = false := by simpa using h2
      by_cases h3 : (40 : Int) < (mm : Int)
      · go_enter Tryz.func11, Tryz.ntmps11
        go_wp2_with fail
        go_ret
        exact givesS (by intro h; cases h) HB.out
      · have d3 : decide ((40 : Int) < (mm : Int)) = false := by simpa using h3
        go_enter Tryz.func11, Tryz.ntmps11
        go_wp2_with fail
        go_loopw [3, 4] (fun t i wr => ∃ j S : Nat, j ≤ mm ∧ i = .int .i64 j ∧ t = .int .i64 S ∧ S ≤ 600 * j ∧ (∀ y ∈ ms.take j, y.code.length ≤ 600 ∧ y.hand.length ≤ 20) ∧ wr = (w.alloc (.cells #[.string ⟨n.toArray⟩, .string ⟨s.toArray⟩, .slice kA km kc, .slice fA fm fc, .slice mA mm mc] 26))) (fun _ i _ => mm - (intOf i).toNat)
        case atStart => exact ⟨0, 0, Nat.zero_le _, rfl, rfl, by omega, by simp, rfl⟩
        case round =>
          obtain ⟨j, S, hj, rfl, rfl, hS, hall, rfl⟩ := hrel
          have Hall := Lib.hid hall
          obtain ⟨hc0, hc1, hc2, hc3, hc4⟩ := H1.out
          clear hall
          by_cases hlt : j < mm
          · have hja : j < ms.length := by omega
            obtain ⟨b1, o1, rfl, hb1, hx0, hx1, hx2, hx3, hx4⟩ := mth_at (Hm.out.rds.below HB.out) hja
            have hj1 : (j : Int) < (mm : Int) := by omega
            have hj0 : (0 : Int) ≤ (j : Int) := by omega
            have e1 : ms.take (j + 1) = ms.take j ++ [ms[j]] := List.take_succ_eq_append_getElem hja
            have hcl : ms[j].code.length = ms[j].cm := ((Hm.out.each _ (List.getElem_mem hja)).code.len).symm
            have hhl : ms[j].hand.length = ms[j].hm := ((Hm.out.each _ (List.getElem_mem hja)).hand.len).symm
            have Hnext := Lib.hid (show ms[j].cm ≤ 600 → ms[j].hm ≤ 20 → ∀ y ∈ ms.take (j + 1), y.code.length ≤ 600 ∧ y.hand.length ≤ 20 by
              intro ha hb y hy
              rw [e1, List.mem_append] at hy
              rcases hy with hy | hy
              · exact Hall.out y hy
              · simp at hy; subst hy; omega)
            clear e1 hcl hhl
            generalize ms[j].cm = p at *
            generalize ms[j].hm = q at *
            by_cases h4 : (600 : Int) < (p : Int)
            · go_wp2_with fail
              go_ret
              exact givesS (by intro h; cases h) HB.out
            · have d4 : decide ((600 : Int) < (p : Int)) = false := by simpa using h4
              by_cases h5 : (20 : Int) < (q : Int)
              · go_wp2_with fail
                go_ret
                exact givesS (by intro h; cases h) HB.out
              · have d5 : decide ((20 : Int) < (q : Int)) = false := by simpa using h5
                have Hn := Lib.hid (Hnext.out (by omega) (by omega))
                have hsum : IntKind.i64.wrap ((S : Int) + (p : Int)) = ((S + p : Nat) : Int) := (IntWalk.i64_in _ (by omega)).trans (by omega)
                go_wp2_with fail
                go_roundw
                case rel => exact ⟨j + 1, S + p, by omega, by go_num, by go_num, by omega, Hn.out, by trivial⟩
                case measure => simp [intOf]; omega
          · have Hfin := Lib.hid (show ∀ y ∈ ms, y.code.length ≤ 600 ∧ y.hand.length ≤ 20 by
              have h := Hall.out
              rw [List.take_of_length_le (by omega)] at h
              exact h)
            go_wp2_with fail
            go_ret
            exact givesS (fun _ => ⟨by show ks.length ≤ 300; omega, by show fs.length ≤ 40; omega, by show ms.length ≤ 40; omega, Hfin.out⟩) HB.out

end Kls
end Go.Proofs.YthkkcecfenohjaaGreatDoor
