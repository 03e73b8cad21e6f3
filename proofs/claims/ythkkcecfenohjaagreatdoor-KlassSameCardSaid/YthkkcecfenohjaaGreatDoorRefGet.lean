/-
  The document's own reading of a number: what it returns, for all bytes and every place.
-/
import Derived.Test.YthkkcecfenohjaaGreatDoorBin8
import Derived.RegionTactic
import Derived.Deep.RegionWith
import Derived.Outline
import Derived.IntWalk
namespace Go.Proofs.YthkkcecfenohjaaGreatDoor
namespace RefGet
open Go.RowKit BinM BinNum Base BinE BinPut BinGet Bin8 RefPut

/-- what the document's reading has put together behind j rounds, from the last byte on -/
def back (p : List UInt8) (j : Nat) : Nat := val (p.drop (p.length - j)) % 18446744073709551616

theorem back_step (p : List UInt8) (j : Nat) (h : j < p.length) : back p (j + 1) = (back p j * 128 + p[p.length - (j + 1)].toNat % 128) % 18446744073709551616 := by
  unfold back
  have e : p.length - j = p.length - (j + 1) + 1 := by omega
  have hd : p.drop (p.length - (j + 1)) = p[p.length - (j + 1)] :: p.drop (p.length - j) := by
    rw [e]; exact List.drop_eq_getElem_cons (by omega)
  rw [hd, val]
  omega

theorem back_all (p : List UInt8) (h : val p < 18446744073709551616) : back p p.length = val p := by
  unfold back
  rw [Nat.sub_self, List.drop_zero]
  exact Nat.mod_eq_of_lt h

theorem step_facts {w : World} {b o p k j : Nat} {q : List UInt8} (hql : q.length = k + 1) (hcells : ∀ j (hj : j < q.length), w.cell? ⟨b, o + (p + j), none⟩ = some (.int .u8 ((q[j].toNat : Nat) : Int))) (hj : j < k + 1) :
    ∃ d B' : Int, 0 ≤ d ∧ d ≤ 255 ∧ w.cell? ⟨b, o + (p + k - j), none⟩ = some (.int .u8 d) ∧ IntKind.u64.wrap (IntKind.u64.wrap (((back q j : Nat) : Int) * 128) + d % 128) = B' ∧ B' = ((back q (j + 1) : Nat) : Int) := by
  have hkj : k - j < q.length := by omega
  have hcell2 := hcells (k - j) hkj
  have hstep := back_step q j (by omega)
  have eidx : q[q.length - (j + 1)]'(by omega) = q[k - j] := by congr 1; omega
  rw [eidx] at hstep
  have ep : p + (k - j) = p + k - j := by omega
  rw [ep] at hcell2
  refine ⟨(q[k - j].toNat : Int), _, by omega, by have := q[k - j].toNat_lt; omega, hcell2, rfl, ?_⟩
  have hw : ∀ x : Int, IntKind.u64.wrap x = x % 18446744073709551616 := fun x => by simp [IntKind.wrap, IntKind.bits, IntKind.signed]
  rw [hw, hw, hstep]
  omega

theorem rds_q {w : World} {b o p : Nat} {q : List UInt8} (hb : b < w.heap.size) (hcells : ∀ j (hj : j < q.length), w.cell? ⟨b, o + (p + j), none⟩ = some (.int .u8 ((q[j].toNat : Nat) : Int))) : Rds w (some ⟨b, o + p, none⟩) (cells8 q) := by
  refine .inr ⟨b, o + p, rfl, hb, fun j u hu => ?_⟩
  obtain ⟨hj, rfl⟩ := List.getElem?_eq_some_iff.1 hu
  rw [cells8_length] at hj
  rw [Nat.add_assoc, hcells j hj]
  simp [cells8, cell8]

theorem sl_q {b o n cap p k : Nat} (hp : p < cap) (h : p + k + 1 ≤ cap) (W : World) :
    (Instr.slice 33 (.slice (some ⟨b, o, none⟩) n cap) (some (.int .i64 (p : Int))) (some (.int .i64 ((p : Int) + (k : Int) + 1))) none).run Tryz.prog W = .ok (.slice (some ⟨b, o + p, none⟩) (k + 1) (cap - p)) W := by
  rw [cut8 W _ n cap (p : Int) ((p : Int) + (k : Int) + 1) (by omega) (by omega) (by omega)]
  have e1 : ((p : Int)).toNat = p := by omega
  have e2 : ((p : Int) + (k : Int) + 1).toNat = p + k + 1 := by omega
  rw [e1, e2, if_neg (by omega)]
  simp only [Option.map_some, Addr.add_mid]
  congr 2
  omega

theorem text_q (W : World) {A : Option Addr} {q : List UInt8} {m : Nat} (hq : q.length = m) (hr : Rds W A (cells8 q)) (c : Nat) :
    (convert 33 9 (.slice A m c)).run Tryz.prog W = .ok (.string ⟨q.toArray⟩) W :=
  run_text (P := Tryz.prog) 33 9 5 m c Tryz.underlying33 Tryz.underlying5 Tryz.underlying9 hq.symm hr

/-- the two ways in which a number's bytes can end -/
theorem cases_q {l : List UInt8} {p : Nat} (hpl : p ≤ l.length) (h10 : lead (l.drop p) < 10) (hlt : lead (l.drop p) < (l.drop p).length) {q : List UInt8} (hq : q = (l.drop p).take (lead (l.drop p) + 1)) :
    (val q < 18446744073709551616 ∧ num (unfoldI ((val q : Nat) : Int)) = q ∧ getS l (p : Int) = (unfoldI ((val q : Nat) : Int), (p : Int) + (lead (l.drop p) : Int) + 1, 0)) ∨
    ((∀ u, u < 18446744073709551616 → enc u ≠ q) ∧ getS l (p : Int) = (0, 0, 5)) := by
  have hg : (l.drop p).getD (lead (l.drop p)) 0 = (l.drop p)[lead (l.drop p)] := by rw [List.getD_eq_getElem?_getD, List.getElem?_eq_getElem hlt]; rfl
  cases hL : lastI (((l.drop p)[lead (l.drop p)]).toNat : Int) (lead (l.drop p) : Int)
  · right
    exact ⟨fun u hu => by rw [hq]; exact not_num h10 hlt (by rw [hg]; exact hL) hu, getS_bad hpl h10 hlt hL⟩
  · left
    have := num_getL h10 hlt (by rw [hg]; exact hL)
    rw [← hq] at this
    refine ⟨this.1, this.2, ?_⟩
    rw [getS_good hpl h10 hlt hL, ← hq]


end RefGet
end Go.Proofs.YthkkcecfenohjaaGreatDoor
