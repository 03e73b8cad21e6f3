/-
  Lists of classes in memory, for what a hierarchy is made of: always; classes of pairs.
-/
import Derived.Test.YtilakpbgpdbchaaDoorHierK
import Derived.Test.YtilakpbgpdbchaaDoorStru
import Derived.Deep.AppendLies
import Derived.Deep.RegionHeld3
namespace Go.Proofs.YtilakpbgpdbchaaDoor
namespace HierN
open Go.RowKit BinM Base Stru DescM DescW DescX HierS HierT HierM

/-- a class, as it lies in a row: its parts are wherever -/
structure CE where
  name : T
  sup : T
  kA : Option Addr
  km : Nat
  kc : Nat
  fA : Option Addr
  fm : Nat
  fc : Nat
  mA : Option Addr
  mm : Nat
  mc : Nat
def CE.vals (x : CE) : List Value := [.string ⟨x.name.toArray⟩, .string ⟨x.sup.toArray⟩, .slice x.kA x.km x.kc, .slice x.fA x.fm x.fc, .slice x.mA x.mm x.mc]
def CE.p2 (x : CE) : P2 := (x.name, x.sup)
def bare (p : P2) : CE := ⟨p.1, p.2, none, 0, 0, none, 0, 0, none, 0, 0⟩
theorem bare_p2 (l : List P2) : (l.map bare).map CE.p2 = l := by
  rw [List.map_map]
  conv => rhs; rw [← List.map_id l]
  rfl
theorem ce_one (l : List CE) : ∀ u ∈ l.flatMap CE.vals, u.oneCell' = true := by
  intro u hu
  obtain ⟨x, _, hx⟩ := List.mem_flatMap.1 hu
  unfold CE.vals at hx
  simp at hx
  rcases hx with rfl | rfl | rfl | rfl | rfl <;> rfl
theorem ce_len (l : List CE) : (l.flatMap CE.vals).length = l.length * 5 := flat_len CE.vals 5 (fun _ => rfl) l
theorem ce_at {w : World} {A : Option Addr} {l : List CE} {k : Nat} (h : Rds w A (l.flatMap CE.vals)) (hk : k < l.length) :
    ∃ b o, A = some ⟨b, o, none⟩ ∧ b < w.heap.size ∧ w.cell? ⟨b, o + k * 5, none⟩ = some (.string ⟨l[k].name.toArray⟩) ∧ w.cell? ⟨b, o + k * 5 + 1, none⟩ = some (.string ⟨l[k].sup.toArray⟩) ∧ w.cell? ⟨b, o + k * 5 + 2, none⟩ = some (.slice l[k].kA l[k].km l[k].kc) ∧
      w.cell? ⟨b, o + k * 5 + 3, none⟩ = some (.slice l[k].fA l[k].fm l[k].fc) ∧ w.cell? ⟨b, o + k * 5 + 4, none⟩ = some (.slice l[k].mA l[k].mm l[k].mc) := by
  obtain ⟨b, o, hA, hb, hc⟩ := flat_at (n := 5) (fun _ => rfl) (by omega) h hk
  exact ⟨b, o, hA, hb, hc 0 _ rfl, hc 1 _ rfl, hc 2 _ rfl, hc 3 _ rfl, hc 4 _ rfl⟩
/-- classes in a row of the call's own -/
def OwnC (w : World) (base : Nat) (v : Value) (l : List CE) : Prop := w.ownsRow base 60 5 v l.length (l.flatMap CE.vals)
theorem OwnC.nil (w : World) (base : Nat) : OwnC w base (.slice none 0 0) [] := World.ownsRow_nil _ _ _ _
theorem infoC : (Tryd.prog.info? 60).map (fun i => (i.zero, i.size, i.bytes)) = some (some (.agg #[.string ⟨#[]⟩, .string ⟨#[]⟩, .slice none 0 0, .slice none 0 0, .slice none 0 0]), 5, 104) := by kernel_rfl
theorem OwnC.slice {w : World} {base : Nat} {v : Value} {l : List CE} (h : OwnC w base v l) :
    ∃ A c, v = .slice A l.length c ∧ l.length ≤ c ∧ c ≤ maxLen ∧ Rds w A (l.flatMap CE.vals) ∧ ∀ a, A = some a → base ≤ a.block ∧ a.block < w.heap.size := by
  obtain ⟨A, c, rfl, h1, h2, h3, _⟩ := own_slice h
  exact ⟨A, c, rfl, h1, h2, Rds.ownN h, fun a ha => ⟨(h3 a ha).1, (h3 a ha).2.1⟩⟩
set_option maxRecDepth 100000 in
theorem appC {ops : Array Oper} {rest : List Oper} {o : Oper} {a : Act} {w : World} {Q : Exit → Act → World → Prop} (hgd : o.guard = none) (s x : Operand)
    (ho : o.op = .call { callee := .builtin .append, args := #[s, x], argTypes := #[39, 39] })
    (base : Nat) (v : Value) (p : List CE) (hs : a.eval s = v) (hown : OwnC w base v p) (A : Option Addr) (m c : Nat) (l : List CE) (hx : a.eval x = .slice A m c)
    (hm : m = l.length) (hr : Rds w A (l.flatMap CE.vals)) (hlen : p.length + l.length ≤ 1048576) (hbase : base ≤ w.heap.size)
    (h : ∀ v' w', OwnC w' base v' (p ++ l) → w.grownBy w' v.ownBlock → wpList Tryd.prog ops Q rest (a.put o.dst v') w') : wpList Tryd.prog ops Q (o :: rest) a w := by
  obtain ⟨i0, hi, hz, hs1, hb1⟩ := info_parts infoC
  refine wpList_append_rdsN hgd s x 39 ho base 60 i0 _ 5 104 Tryd.underlying39 hi hz hs1 hb1 rfl (by omega) v p.length (p.flatMap CE.vals) hs hown A m c (l.flatMap CE.vals) hx (by rw [ce_len, hm]) hr (ce_one l) (by unfold maxLen; omega) (by omega) hbase ?_
  intro v' w' h1 h2
  refine h v' w' ?_ h2
  unfold OwnC
  rw [List.flatMap_append, List.length_append, ← hm]
  exact h1
theorem OwnC.one (w : World) (x : CE) : OwnC (w.alloc (.cells #[.string ⟨x.name.toArray⟩, .string ⟨x.sup.toArray⟩, .slice x.kA x.km x.kc, .slice x.fA x.fm x.fc, .slice x.mA x.mm x.mc] 60)) w.heap.size (.slice (some ⟨w.heap.size, 0, none⟩) 1 1) [x] :=
  World.ownsRow_lit w #[.string ⟨x.name.toArray⟩, .string ⟨x.sup.toArray⟩, .slice x.kA x.km x.kc, .slice x.fA x.fm x.fc, .slice x.mA x.mm x.mc] 1 (Nat.le_refl _) (by unfold maxLen; omega) rfl

def seven : List T := [nilN, castN, indexN, divN, deepN, memN, lockN]
theorem alw_seven : alw = (excN, objN) :: seven.map fun n => (n, excN) := rfl
theorem idx7 (k : Nat) (hk : k < 7) (w : World) : (Instr.index 100 (.agg #[.string ⟨#[78, 117, 108, 108, 69, 120, 99]⟩, .string ⟨#[67, 97, 115, 116, 69, 120, 99]⟩, .string ⟨#[73, 110, 100, 101, 120, 69, 120, 99]⟩, .string ⟨#[68, 105, 118, 69, 120, 99]⟩, .string ⟨#[83, 116, 97, 99, 107, 69, 120, 99]⟩, .string ⟨#[77, 101, 109, 69, 120, 99]⟩, .string ⟨#[76, 111, 99, 107, 69, 120, 99]⟩]) (.int .i64 (k : Int))).run Tryd.prog w = .ok (.string ⟨(seven[k]'hk).toArray⟩) w := by
  rcases (show k = 0 ∨ k = 1 ∨ k = 2 ∨ k = 3 ∨ k = 4 ∨ k = 5 ∨ k = 6 by omega) with rfl | rfl | rfl | rfl | rfl | rfl | rfl <;> kernel_rfl
theorem alw_take (k : Nat) (hk : k < 7) : (alw.map bare).take (k + 2) = (alw.map bare).take (k + 1) ++ [bare (seven[k]'hk, excN)] := by
  match k, hk with
  | 0, _ => rfl
  | 1, _ => rfl
  | 2, _ => rfl
  | 3, _ => rfl
  | 4, _ => rfl
  | 5, _ => rfl
  | 6, _ => rfl

set_option maxRecDepth 100000 in
set_option maxHeartbeats 2000000 in
theorem always_any (w : World) :
    Calls Tryd.prog 38 #[] w fun e w' => ∃ v, e = .returned v ∧ OwnC w' w.heap.size v (alw.map bare) ∧ Below w.heap.size w w' := by
  have h0 := Lib.hid (Below.refl w.heap.size w)
  go_enter Tryd.func38, Tryd.ntmps38
  go_wp2_with fail
  go_loopw [1, 7] (fun v i wr => ∃ k : Nat, k ≤ 7 ∧ i = .int .i64 k ∧ OwnC wr w.heap.size v ((alw.map bare).take (k + 1)) ∧ Below w.heap.size w wr) (fun _ i _ => 7 - (intOf i).toNat)
  case atStart => exact ⟨0, by omega, rfl, OwnC.one w (bare (excN, objN)), h0.out.alloc (Nat.le_refl _) _⟩
  case round =>
    obtain ⟨k, hk, rfl, hown, hbel⟩ := hrel
    have Hown := Lib.hid hown
    have Hbel := Lib.hid hbel
    have hsz := hbel.size
    by_cases hlt : k < 7
    · have hi := idx7 k hlt
      have HT := Lib.hid (alw_take k hlt)
      have hpl : ((alw.map bare).take (k + 1)).length ≤ 8 := by simp [alw]; omega
      generalize hp : (alw.map bare).take (k + 1) = p at *
      generalize seven[k] = nm at *
      have hk1 : (k : Int) < 7 := by omega
      obtain ⟨A, cc, rfl, _, _, _, _⟩ := hown.slice
      clear hown hbel hp
      go_wp2_with (at_builtin
                   refine appC rfl (.tmp 10) (.tmp 13) rfl w.heap.size _ p rfl (Hown.out.alloc _) (some ⟨wr.heap.size, 0, none⟩) 1 1 [bare (nm, excN)] rfl rfl (rds_new _ #[.string ⟨nm.toArray⟩, .string ⟨excN.toArray⟩, .slice none 0 0, .slice none 0 0, .slice none 0 0] 60) (by simp; omega) (by simp; omega) ?_
                   intro v2 w2 hown2 hg2
                   have Hb2 := Lib.hid (below_own (Hbel.out.alloc hsz _) (Hown.out.alloc _) (Nat.le_refl _) (by simp; omega) hg2)
                   have Hown2 := Lib.hid hown2
                   clear hown2 hg2)
      go_roundw
      case rel => exact ⟨k + 1, by omega, by go_num, by rw [HT.out]; exact Hown2.out, Hb2.out⟩
      case measure => simp [intOf]; omega
    · have hk7 : k = 7 := by omega
      subst hk7
      clear hown hbel
      go_wp2_with fail
      go_ret
      exact ⟨_, rfl, Hown.out, Hbel.out⟩
end HierN
end Go.Proofs.YtilakpbgpdbchaaDoor
