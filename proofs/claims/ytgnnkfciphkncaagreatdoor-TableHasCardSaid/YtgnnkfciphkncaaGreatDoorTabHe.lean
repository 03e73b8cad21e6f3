/-
  Law 8's entries: such as the document has them; the document's SameEntries; what Field and Method hand back, as one expression.
-/
import Derived.Test.YtgnnkfciphkncaaGreatDoorTabO
import Derived.Test.YtgnnkfciphkncaaGreatDoorTabR
import Derived.Test.YtgnnkfciphkncaaGreatDoorTabD
namespace Go.Proofs.YtgnnkfciphkncaaGreatDoor
namespace TabHe
open Go.RowKit Base BinM Stru DescM DescW DescX HierS HierT HierM HierC HierD HierN Kls KlsP KlsQ TabC TabM TabK TabP TabE TabB TabG TabH TabT TabU TabI TabR TabV TabW

/-- what Field finds -/
def fx (l : List FedT) (q : T) : FedT := if findP (nameFd q) l < 0 then ⟨[], [], []⟩ else l.getD (findP (nameFd q) l).toNat ⟨[], [], []⟩
theorem gives_fx {l : List FedT} {q : T} {e : Ending} (h : GivesF l q e) : e = .returned (.tuple #[.agg #[.string ⟨(fx l q).name.toArray⟩, .string ⟨(fx l q).desc.toArray⟩], .string ⟨(fx l q).cls.toArray⟩, .int .i64 (findP (nameFd q) l)]) := by
  unfold fx
  rcases h with ⟨h1, rfl⟩ | ⟨j, hj, h1, rfl⟩
  · rw [h1]; rfl
  · rw [h1, if_neg (by omega), Int.toNat_natCast, List.getD_eq_getElem?_getD, List.getElem?_eq_getElem hj]
    rfl
def ex (l : List EntT) (q : T) : EntT := if findE (nameE q) l < 0 then ⟨[], [], []⟩ else l.getD (findE (nameE q) l).toNat ⟨[], [], []⟩
theorem gives_ex {l : List EntT} {q : T} {e : Ending} (h : GivesE l q e) : e = .returned (.tuple #[.agg #[.string ⟨(ex l q).name.toArray⟩, .string ⟨(ex l q).sig.toArray⟩, .string ⟨(ex l q).cls.toArray⟩], .int .i64 (findE (nameE q) l)]) := by
  unfold ex
  rcases h with ⟨h1, rfl⟩ | ⟨j, hj, h1, rfl⟩
  · rw [h1]; rfl
  · rw [h1, if_neg (by omega), Int.toNat_natCast, List.getD_eq_getElem?_getD, List.getElem?_eq_getElem hj]
    rfl

theorem eq_ent (x0 x1 x2 : List UInt8) (W : World) : (Op.equalIn 10000 37 (.agg #[.string ⟨x0.toArray⟩, .string ⟨x1.toArray⟩, .string ⟨x2.toArray⟩]) (.agg #[.string ⟨x0.toArray⟩, .string ⟨x1.toArray⟩, .string ⟨x2.toArray⟩])).run Tryz.prog W = .ok true W := by
  have u9 := Tryz.underlying9
  have a9 := Tryz.isAgg9
  have z9 := Tryz.sizeOf9
  have hS : Tryz.prog.underlying 37 = some (.struct (Tryz.prog.fieldsOf 37)) := by kernel_rfl
  have hp : Tryz.prog.stoodInHeld 37 = false := by kernel_rfl
  rw [show (10000 : Nat) = 9999 + 1 from rfl, run_equalIn_agg W 9999 37 _ _ hS hp]
  simp only [Program.fieldsOf, Tryz.underlying37]
  go_simp
theorem neq_ent (x0 x1 x2 : List UInt8) (W : World) : (binOp .neq 37 (.agg #[.string ⟨x0.toArray⟩, .string ⟨x1.toArray⟩, .string ⟨x2.toArray⟩]) (.agg #[.string ⟨x0.toArray⟩, .string ⟨x1.toArray⟩, .string ⟨x2.toArray⟩])).run Tryz.prog W = .ok (.bool false) W := by
  rw [run_neq_struct, eq_ent]; rfl
theorem eql_fld (x0 x1 : List UInt8) (W : World) : (binOp .eql 30 (.agg #[.string ⟨x0.toArray⟩, .string ⟨x1.toArray⟩]) (.agg #[.string ⟨x0.toArray⟩, .string ⟨x1.toArray⟩])).run Tryz.prog W = .ok (.bool true) W := by
  rw [run_eql_struct, eq_fld]
  have he : FldT.eqb ⟨x0, x1⟩ ⟨x0, x1⟩ = true := by unfold FldT.eqb; simp
  rw [he]; rfl

set_option maxRecDepth 100000 in
set_option maxHeartbeats 2000000 in
theorem sameE_any (A B : Option Addr) (l : List EntT) (m k c d : Nat) (w : World) (hm : m = l.length) (hk : k = l.length) (hmx : m ≤ 100000) (hr : Rds w A (l.flatMap EntT.vals)) (hr2 : Rds w B (l.flatMap EntT.vals)) :
    Calls Tryz.prog 16 #[.slice A m c, .slice B k d] w fun e w' => e = .returned (.bool true) ∧ Below w.heap.size w w' := by
  subst hm
  subst hk
  have Hr := Lib.hid hr
  have Hr2 := Lib.hid hr2
  have Z := Lib.hid (Below.refl w.heap.size w)
  clear hr hr2
  go_enter Tryz.func16, Tryz.ntmps16
  go_wp2_with fail
  go_loopw [5] (fun i wr => ∃ j : Nat, j ≤ l.length ∧ i = .int .i64 j ∧ Below w.heap.size w wr) (fun i _ => l.length - (intOf i).toNat)
  case atStart => exact ⟨0, Nat.zero_le _, rfl, Z.out⟩
  case round =>
    obtain ⟨j, hj, rfl, hbw⟩ := hrel
    have Hbw := Lib.hid hbw
    by_cases hlt : j < l.length
    · obtain ⟨b1, o1, hA, hb1, c0, c1, c2⟩ := ent_at (Hr.out.below hbw) hlt
      obtain ⟨b2, o2, hB, hb2, d0, d1, d2⟩ := ent_at (Hr2.out.below hbw) hlt
      subst hA
      subst hB
      have hj1 : (j : Int) < (l.length : Int) := by omega
      have hj0 : (0 : Int) ≤ (j : Int) := by omega
      have hne := neq_ent l[j].name l[j].sig l[j].cls
      clear hbw
      generalize l[j] = x at *
      obtain ⟨x0, x1, x2⟩ := x
      simp only at c0 c1 c2 d0 d1 d2 hne
      go_wp2_with fail
      go_quiet (fail)
      go_wp2_with fail
      go_roundw
      case rel => exact ⟨j + 1, by omega, by go_num, Stru.drawn Hbw.out _⟩
      case measure => simp [intOf]; omega
    · clear hbw
      go_wp2_with fail
      go_ret
      exact ⟨rfl, Hbw.out⟩

theorem one_nil : (Value.slice none 0 0).ownBlock = none := rfl
theorem take_ents (l : List EntT) {j : Nat} (hj : j < l.length) : (l.take (j + 1)).flatMap EntT.vals = (l.take j).flatMap EntT.vals ++ EntT.vals l[j] := by
  rw [List.take_succ_eq_append_getElem hj, List.flatMap_append]; simp
set_option maxRecDepth 100000 in
set_option maxHeartbeats 8000000 in
theorem entries_any (A : Option Addr) (l : List EntT) (m c : Nat) (w : World) (hm : m = l.length) (hmx : m ≤ 5000) (hr : Rds w A (l.flatMap EntT.vals)) :
    Calls Tryz.prog 17 #[.slice A m c] w fun e w' => ∃ v, e = .returned v ∧ OwnE w' w.heap.size v l ∧ Below w.heap.size w w' := by
  subst hm
  obtain ⟨i0, hi0, hi1, hi2, hi3⟩ := info_parts infoEntR
  have I0 := Lib.hid hi0
  have I1 := Lib.hid hi1
  have I2 := Lib.hid hi2
  have I3 := Lib.hid hi3
  have Hr := Lib.hid hr
  have Z := Lib.hid (Below.refl w.heap.size w)
  clear hr hi0 hi1 hi2 hi3
  go_enter Tryz.func17, Tryz.ntmps17
  go_wp2_with fail
  go_loopw [3, 4] (fun v i wr => ∃ (j : Nat) (A0 : Option Addr) (cc : Nat), j ≤ l.length ∧ i = .int .i64 j ∧ v = .slice A0 j cc ∧ wr.ownsRow w.heap.size 37 3 (.slice A0 j cc) j ((l.take j).flatMap EntT.vals) ∧ Below w.heap.size w wr) (fun _ i _ => l.length - (intOf i).toNat)
  case atStart => exact ⟨0, none, 0, Nat.zero_le _, rfl, rfl, World.ownsRow_nil _ _ _ _, Z.out⟩
  case round =>
    obtain ⟨j, A0, cc, hj, rfl, rfl, hown, hbw⟩ := hrel
    have HO := Lib.hid hown
    have Hbw := Lib.hid hbw
    have hsz := hbw.size
    by_cases hlt : j < l.length
    · obtain ⟨b1, o1, hA, hb1, c0, c1, c2⟩ := ent_at (Hr.out.below hbw) hlt
      subst hA
      have hj1 : (j : Int) < (l.length : Int) := by omega
      have hj0 : (0 : Int) ≤ (j : Int) := by omega
      have HT := Lib.hid (take_ents l hlt)
      clear hbw hown
      generalize l[j] = x at *
      obtain ⟨x0, x1, x2⟩ := x
      simp only at c0 c1 c2
      go_wp2_with fail
      go_region_law ((refine step_append_lies _ (by rfl) _ _ _ (by rfl) w.heap.size 37 i0 _ 3 48 Tryz.underlying50 I0.out I1.out I2.out I3.out rfl (by omega) (.slice A0 j cc) j ((l.take j).flatMap EntT.vals) (by rfl) ((World.ownsRow.alloc HO.out _).drew) ⟨wr.heap.size, 0, none⟩ 1 1 [.string ⟨x0.toArray⟩, .string ⟨x1.toArray⟩, .string ⟨x2.toArray⟩] (by rfl) (by rfl) (World.news_of_block (cs := #[.string ⟨x0.toArray⟩, .string ⟨x1.toArray⟩, .string ⟨x2.toArray⟩]) (t := 37) (fr := (0, 0)) (heap_alloc_new wr _)) (by simp [Value.oneCell']) (by omega) (by unfold maxLen; omega) (by omega) (by simp; omega) (wr.heap.size + 1) (by simp) ?_; intro b5 c5 w5 hown5 hg5 hat5 hlt5))
      all_goals
        have hb5 : Hid (Below w.heap.size w w5) := Lib.hid (below_own ((Hbw.out.alloc hsz (.cells #[.string ⟨x0.toArray⟩, .string ⟨x1.toArray⟩, .string ⟨x2.toArray⟩] 37)).drew) ((World.ownsRow.alloc HO.out (.cells #[.string ⟨x0.toArray⟩, .string ⟨x1.toArray⟩, .string ⟨x2.toArray⟩] 37)).drew) (Nat.le_refl _) (by simp; omega) hg5)
        have O5 := Lib.hid hown5
        clear hown5 hg5 hat5 c0 c1 c2
        go_wp2_with fail
        go_roundw
        case rel => exact ⟨j + 1, some ⟨b5, 0, none⟩, c5, by omega, by go_num, rfl, by rw [HT.out]; exact O5.out, hb5.out⟩
        case measure => simp [intOf]; omega
    · obtain rfl : j = l.length := by omega
      rw [List.take_length] at HO
      clear hbw hown
      go_wp2_with fail
      go_ret
      exact ⟨_, rfl, HO.out, Hbw.out⟩
end TabHe
end Go.Proofs.YtgnnkfciphkncaaGreatDoor
