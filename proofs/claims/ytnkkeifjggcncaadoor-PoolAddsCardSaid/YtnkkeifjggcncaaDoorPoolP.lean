/-
  The document's own putting of a name among names: what it returns.
-/
import Derived.Test.YtnkkeifjggcncaaDoorPoolO
import Derived.ArgAppend
namespace Go.Proofs.YtnkkeifjggcncaaDoor
namespace PoolP
open Go.RowKit Base BinM DescM DescW DescX DescR DescP DescG Stru PoolM PoolA PoolN PoolO

def putR (l : List (List UInt8)) (d : List UInt8) (plain : Bool) : List (List UInt8) := if plain then addT l d else addOne l d

/-- a call hands back names: those that came in, or all in new memory -/
def GivesT (w : World) (l : List (List UInt8)) (e : Ending) (w' : World) : Prop :=
  ∃ A c, e = .returned (.slice A l.length c) ∧ l.length ≤ c ∧ c ≤ maxLen ∧ Rds w' A (l.map str) ∧ (A = none → c = 0) ∧ Below w.heap.size w w'

/-- the search's way -/
def RelS (w : World) (l : List (List UInt8)) (x : List UInt8) (i : Value) (wr : World) : Prop := ∃ k : Nat, k ≤ l.length ∧ i = .int .i64 k ∧ (∀ y ∈ l.take k, y ≠ x) ∧ w = wr
/-- the way of taking brackets off -/
def RelD (d : List UInt8) (s : Value) : Prop := ∃ j : Nat, j ≤ brk d ∧ s = .string ⟨(d.drop j).toArray⟩

theorem cells_of {w : World} {A : Option Addr} {xs : List Value} (h : Rds w A xs) : ∀ b : Addr, A = some b → ∀ j u, xs[j]? = some u → w.cell? (b.add j) = some u := by
  intro b hA j u hu
  rcases h with h | ⟨g, o, hA2, _, hc⟩
  · rw [h] at hu; simp at hu
  · rw [hA] at hA2
    injection hA2 with hA2
    rw [hA2, Addr.add_mid]
    exact hc j u hu

theorem news_one (w : World) (x : Value) (t : TypeId) : ∀ j u, [x][j]? = some u → (w.alloc (.cells #[x] t)).cell? ((⟨w.heap.size, 0, none⟩ : Addr).add j) = some u := by
  intro j u hu
  match j, hu with
  | 0, hu =>
    simp at hu; subst hu
    rw [Addr.add_mid, cell_of_row _ _ _ #[x] t (0, 0) (heap_alloc_new w _)]; rfl
  | j + 1, hu => simp at hu

theorem core0 {d : List UInt8} (h0 : 0 < (d.drop (brk d)).length) (hlt : brk d < d.length) : (d.drop (brk d))[0] = d[brk d] := by simp

theorem elemS : (sizeOf (Tryd.prog.elem 31)).run Tryd.prog = fun W => .ok 1 W := by kernel_rfl
theorem slice3 (A : Option Addr) (m c : Nat) (h : m ≤ c) (W : World) : (Instr.slice 31 (.slice A m c) none (some (.int .i64 (m : Int))) (some (.int .i64 (m : Int)))).run Tryd.prog W = .ok (.slice A m m) W := by
  have hu : Tryd.prog.underlying 31 = some (.slice (Tryd.prog.elem 31)) := by kernel_rfl
  rw [run_slice_hm W 31 A m c hu .i64 .i64 (m : Int) (m : Int) (by omega) (by omega) (by omega), elemS]
  cases A <;> simp [Result.andThen, sliced, Addr.add]

set_option maxRecDepth 100000 in
set_option maxHeartbeats 4000000 in
theorem put_plain (A : Option Addr) (l : List (List UInt8)) (m c : Nat) (x : List UInt8) (w : World) (hm : m = l.length) (hle : m ≤ c) (hmx' : c ≤ maxLen) (hm1 : m ≤ 1000) (hr : Rds w A (l.map str)) (hnone : A = none → c = 0) :
    Calls Tryd.prog 34 #[.slice A m c, .string ⟨x.toArray⟩, .bool true] w (GivesT w (putR l x true)) := by
  obtain ⟨i0, hi, hz, hs1, hb1⟩ := info_parts infoS
  have Hi := Lib.hid hi
  have Hz := Lib.hid hz
  have Hs1 := Lib.hid hs1
  have Hb1 := Lib.hid hb1
  have hml : l.length ≤ m := Nat.le_of_eq hm.symm
  have hml2 : m ≤ l.length := Nat.le_of_eq hm
  have Hm := Lib.hid hm
  have Hr := Lib.hid hr
  have Hnone := Lib.hid hnone
  have HP := Lib.hid (show putR l x true = addT l x from rfl)
  have HB := Lib.hid (Below.refl w.heap.size w)
  have hmx := hmx'
  unfold maxLen at hmx
  clear hi hz hs1 hb1 hm hr hnone
  have hsl := slice3 A m c hle
  go_enter Tryd.func34, Tryd.ntmps34
  go_wp2_with fail
  go_loopw [10] (fun i wr => RelS w l x i wr) (fun i _ => m - (intOf i).toNat)
  case atStart => exact ⟨0, Nat.zero_le _, rfl, by simp, rfl⟩
  case round =>
    obtain ⟨k, hk, rfl, hno, rfl⟩ := hrel
    have Hno := Lib.hid hno
    clear hno
    by_cases hlt : k < l.length
    · obtain ⟨b, o, rfl, hb, hcell'⟩ := Hr.out.at_ (k := k) (by simpa using hlt)
      have hcell : w.cell? ⟨b, o + k, none⟩ = some (.string ⟨l[k].toArray⟩) := by rw [hcell']; simp [str]
      have hkm : k < m := by omega
      have htk : l.take (k + 1) = l.take k ++ [l[k]] := List.take_succ_eq_append_getElem hlt
      have hmem : l[k] ∈ l := List.getElem_mem hlt
      clear hcell'
      cases heq : (l[k] == x)
      · have Hno2 : Hid (∀ y ∈ l.take (k + 1), y ≠ x) := Lib.hid (fun y hy => by
          rw [htk] at hy
          rcases List.mem_append.1 hy with hy | hy
          · exact Hno.out y hy
          · simp at hy; subst hy; simpa using heq)
        clear htk hmem
        generalize l[k] = z at *
        go_wp2_with fail
        go_roundw
        case rel => exact ⟨k + 1, by omega, by go_num, Hno2.out, rfl⟩
        case measure => simp [intOf]; omega
      · have hxe : l[k] = x := by simpa using heq
        have Hfin := Lib.hid (show addT l x = l by unfold addT; rw [if_pos (by rw [List.contains_iff_mem, ← hxe]; exact hmem)])
        clear htk hmem hxe
        generalize l[k] = z at *
        go_wp2_with fail
        go_ret
        exact ⟨_, c, by rw [HP.out, Hfin.out, ← Hm.out]; rfl, by rw [HP.out, Hfin.out, ← Hm.out]; exact hle, hmx', by rw [HP.out, Hfin.out]; exact Hr.out, Hnone.out, HB.out⟩
    · have hni : ¬ x ∈ l := fun hm => by
        have := Hno.out x (by rw [List.take_of_length_le (by omega)]; exact hm)
        exact this rfl
      have Hfin := Lib.hid (show addT l x = l ++ [x] by unfold addT; rw [if_neg (by rw [List.contains_iff_mem]; exact hni)])
      have hkm : k = m := by omega
      subst hkm
      have Hnone2 : Hid (A = none → k = 0 ∧ k = 0) := Lib.hid (fun e => by have := Hnone.out e; omega)
      have Hcl : Hid (∀ b : Addr, A = some b → ∀ j u, (l.map str)[j]? = some u → (w.alloc (.cells #[str x] 9)).cell? (b.add j) = some u) := Lib.hid (cells_of (Hr.out.below ((Below.refl w.heap.size w).alloc (Nat.le_refl _) _)))
      clear hni
      go_wp2_with (at_builtin
                   refine wpList_append_grows _ rfl (.tmp 51) (.tmp 53) 31 rfl 9 i0 _ 1 16 Tryd.underlying31 Hi.out Hz.out Hs1.out Hb1.out rfl (by omega) A k k (l.map str) rfl Hnone2.out (by rw [List.length_map]; omega) Hcl.out ⟨w.heap.size, 0, none⟩ 1 1 [str x] rfl rfl (news_one _ _ _) (by intro u hu; simp at hu; subst hu; rfl) (by omega) (by unfold maxLen; omega) (by omega) ?_
                   intro v2 w2 hown2 hg2
                   have Hown2 := Lib.hid hown2
                   have Hg2 := Lib.hid hg2
                   clear hown2 hg2)
      go_ret
      have hlen : (l ++ [x]).length = k + 1 := by rw [List.length_append, ← Hm.out]; rfl
      obtain ⟨A2, c2, rfl, h1, h2, h3, h4⟩ := own_slice Hown2.out
      refine ⟨A2, c2, ?_, ?_, h2, ?_, fun e => ?_, ?_⟩
      · rw [HP.out, Hfin.out, hlen]; rfl
      · rw [HP.out, Hfin.out, hlen]; exact h1
      · rw [HP.out, Hfin.out]
        have := Rds.own Hown2.out
        simpa using this
      · have := (h4 e).1; omega
      · exact ⟨Hg2.out.os, Hg2.out.tape, Hg2.out.output, by have := Hg2.out.size; simp at this; omega, fun i hi => (Hg2.out.block i (by simp; omega) (by simp)).trans (Below.heap_alloc w _ i hi)⟩

set_option maxRecDepth 100000 in
set_option maxHeartbeats 8000000 in
theorem put_more (A : Option Addr) (l : List (List UInt8)) (m c : Nat) (d : List UInt8) (w : World) (hm : m = l.length) (hle : m ≤ c) (hmx' : c ≤ maxLen) (hm1 : m ≤ 1000) (hr : Rds w A (l.map str)) (hnone : A = none → c = 0) (hd : d.length ≤ 1048576) :
    Calls Tryd.prog 34 #[.slice A m c, .string ⟨d.toArray⟩, .bool false] w (GivesT w (putR l d false)) := by
  obtain ⟨i0, hi, hz, hs1, hb1⟩ := info_parts infoS
  have Hi := Lib.hid hi
  have Hz := Lib.hid hz
  have Hs1 := Lib.hid hs1
  have Hb1 := Lib.hid hb1
  have hml : l.length ≤ m := Nat.le_of_eq hm.symm
  have hml2 : m ≤ l.length := Nat.le_of_eq hm
  have Hm := Lib.hid hm
  have Hr := Lib.hid hr
  have Hnone := Lib.hid hnone
  have HB := Lib.hid (Below.refl w.heap.size w)
  have hmx := hmx'
  unfold maxLen at hmx
  have hsl := slice3 A m c hle
  have hbk := brk_le d
  have hcls := refClass_any (coreD d) w (by unfold coreD; rw [List.length_drop]; omega)
  have hP : putR l d false = if (classT (coreD d)).2 then addT l (classT (coreD d)).1 else l := rfl
  generalize classT (coreD d) = C at *
  obtain ⟨x, ok⟩ := C
  unfold twoB at hcls
  simp only at hcls hP
  have Hcls := Lib.hid hcls
  have HP0 := Lib.hid hP
  obtain ⟨b, hb⟩ : ∃ b, b = brk d := ⟨_, rfl⟩
  have Hbk := Lib.hid hb
  rw [← hb] at hbk
  clear hi hz hs1 hb1 hm hr hnone hcls hP hb
  go_enter Tryd.func34, Tryd.ntmps34
  go_wp2_with fail
  go_loop [1] (fun s => RelD d s) (fun s => sizeV s)
  case atStart => exact ⟨0, Nat.zero_le _, rfl⟩
  case round =>
    obtain ⟨j, hj, rfl⟩ := hrel
    by_cases hjb : j < b
    · have hjl : j < d.length := by omega
      have hlen : (d.drop (j + 1)).length < (d.drop j).length := by rw [List.length_drop, List.length_drop]; omega
      have Hlen := Lib.hid hlen
      have h0 : 0 < (d.drop j).length := by rw [List.length_drop]; omega
      have h91 : (d.drop j)[0]'h0 = 91 := by
        rw [List.getElem_drop]
        exact brk_at d (j + 0) (by omega) (by rw [← Hbk.out]; omega)
      have hx := fun h' => at_mk 0 h0 h'
      rw [h91] at hx
      have hcut : (ByteArray.mk (d.drop j).toArray).extract 1 (d.drop j).length = ⟨(d.drop (j + 1)).toArray⟩ := by
        rw [ext, List.take_of_length_le (by rw [List.length_drop]; omega), List.drop_drop]
      have Hj := Lib.hid (show j + 1 ≤ brk d by rw [← Hbk.out]; omega)
      clear hj hlen h91
      generalize d.drop j = D at *
      go_wp2_with fail
      go_round
      case rel => exact ⟨j + 1, Hj.out, rfl⟩
      case measure => exact Hlen.out
    · have hje : j = brk d := by have := Hbk.out; omega
      subst hje
      have hcd : d.drop (brk d) = coreD d := rfl
      rw [hcd]
      have Hstop := Lib.hid (fun (h0 : 0 < (coreD d).length) => (show ((((coreD d)[0]'h0).toNat : Int) == 91) = false by
        rw [beq_eq_false_iff_ne]
        intro he
        have hlt : brk d < d.length := by unfold coreD at h0; rw [List.length_drop] at h0; omega
        apply brk_stop d hlt
        have e : (coreD d)[0]'h0 = d[brk d] := core0 h0 hlt
        rw [← e]
        exact UInt8.toNat_inj.1 (by show ((coreD d)[0]'h0).toNat = 91; omega)))
      clear hcd hj hjb
      generalize coreD d = D at *
      by_cases h0 : 0 < D.length
      · have hx := fun h' => at_mk 0 h0 h'
        have hst := Hstop.out h0
        clear Hstop
        generalize D[0] = q at *
        go_wp2_with fail
        refine Calls.mono Hcls.out ?_
        rintro e w' ⟨rfl, rfl⟩
        cases ok
        · have HP := Lib.hid (show putR l d false = l by rw [HP0.out]; rfl)
          go_wp2_with fail
          go_ret
          exact ⟨_, c, by rw [HP.out, ← Hm.out]; rfl, by rw [HP.out, ← Hm.out]; exact hle, hmx', by rw [HP.out]; exact Hr.out, Hnone.out, HB.out⟩
        · have HP := Lib.hid (show putR l d false = addT l x by rw [HP0.out]; rfl)
          go_wp2_with fail
          go_loopw [10] (fun i wr => RelS w l x i wr) (fun i _ => m - (intOf i).toNat)
          case atStart => exact ⟨0, Nat.zero_le _, rfl, by simp, rfl⟩
          case round =>
            obtain ⟨k, hk, rfl, hno, rfl⟩ := hrel
            have Hno := Lib.hid hno
            clear hno
            by_cases hlt : k < l.length
            · obtain ⟨b, o, rfl, hb, hcell'⟩ := Hr.out.at_ (k := k) (by simpa using hlt)
              have hcell : w.cell? ⟨b, o + k, none⟩ = some (.string ⟨l[k].toArray⟩) := by rw [hcell']; simp [str]
              have hkm : k < m := by omega
              have htk : l.take (k + 1) = l.take k ++ [l[k]] := List.take_succ_eq_append_getElem hlt
              have hmem : l[k] ∈ l := List.getElem_mem hlt
              clear hcell'
              cases heq : (l[k] == x)
              · have Hno2 : Hid (∀ y ∈ l.take (k + 1), y ≠ x) := Lib.hid (fun y hy => by
                  rw [htk] at hy
                  rcases List.mem_append.1 hy with hy | hy
                  · exact Hno.out y hy
                  · simp at hy; subst hy; simpa using heq)
                clear htk hmem
                generalize l[k] = z at *
                go_wp2_with fail
                go_roundw
                case rel => exact ⟨k + 1, by omega, by go_num, Hno2.out, rfl⟩
                case measure => simp [intOf]; omega
              · have hxe : l[k] = x := by simpa using heq
                have Hfin := Lib.hid (show addT l x = l by unfold addT; rw [if_pos (by rw [List.contains_iff_mem, ← hxe]; exact hmem)])
                clear htk hmem hxe
                generalize l[k] = z at *
                go_wp2_with fail
                go_ret
                exact ⟨_, c, by rw [HP.out, Hfin.out, ← Hm.out]; rfl, by rw [HP.out, Hfin.out, ← Hm.out]; exact hle, hmx', by rw [HP.out, Hfin.out]; exact Hr.out, Hnone.out, HB.out⟩
            · have hni : ¬ x ∈ l := fun hm => by
                have := Hno.out x (by rw [List.take_of_length_le (by omega)]; exact hm)
                exact this rfl
              have Hfin := Lib.hid (show addT l x = l ++ [x] by unfold addT; rw [if_neg (by rw [List.contains_iff_mem]; exact hni)])
              have hkm : k = m := by omega
              subst hkm
              have Hnone2 : Hid (A = none → k = 0 ∧ k = 0) := Lib.hid (fun e => by have := Hnone.out e; omega)
              have Hcl : Hid (∀ b : Addr, A = some b → ∀ j u, (l.map str)[j]? = some u → (w.alloc (.cells #[str x] 9)).cell? (b.add j) = some u) := Lib.hid (cells_of (Hr.out.below ((Below.refl w.heap.size w).alloc (Nat.le_refl _) _)))
              clear hni
              go_wp2_with (at_builtin
                           refine wpList_append_grows _ rfl (.tmp 51) (.tmp 53) 31 rfl 9 i0 _ 1 16 Tryd.underlying31 Hi.out Hz.out Hs1.out Hb1.out rfl (by omega) A k k (l.map str) rfl Hnone2.out (by rw [List.length_map]; omega) Hcl.out ⟨w.heap.size, 0, none⟩ 1 1 [str x] rfl rfl (news_one _ _ _) (by intro u hu; simp at hu; subst hu; rfl) (by omega) (by unfold maxLen; omega) (by omega) ?_
                           intro v2 w2 hown2 hg2
                           have Hown2 := Lib.hid hown2
                           have Hg2 := Lib.hid hg2
                           clear hown2 hg2)
              go_ret
              have hlen : (l ++ [x]).length = k + 1 := by rw [List.length_append, ← Hm.out]; rfl
              obtain ⟨A2, c2, rfl, h1, h2, h3, h4⟩ := own_slice Hown2.out
              refine ⟨A2, c2, ?_, ?_, h2, ?_, fun e => ?_, ?_⟩
              · rw [HP.out, Hfin.out, hlen]; rfl
              · rw [HP.out, Hfin.out, hlen]; exact h1
              · rw [HP.out, Hfin.out]
                have := Rds.own Hown2.out
                simpa using this
              · have := (h4 e).1; omega
              · exact ⟨Hg2.out.os, Hg2.out.tape, Hg2.out.output, by have := Hg2.out.size; simp at this; omega, fun i hi => (Hg2.out.block i (by simp; omega) (by simp)).trans (Below.heap_alloc w _ i hi)⟩

      · have hD0 : D.length ≤ 0 := by omega
        clear Hstop
        go_wp2_with fail
        refine Calls.mono Hcls.out ?_
        rintro e w' ⟨rfl, rfl⟩
        cases ok
        · have HP := Lib.hid (show putR l d false = l by rw [HP0.out]; rfl)
          go_wp2_with fail
          go_ret
          exact ⟨_, c, by rw [HP.out, ← Hm.out]; rfl, by rw [HP.out, ← Hm.out]; exact hle, hmx', by rw [HP.out]; exact Hr.out, Hnone.out, HB.out⟩
        · have HP := Lib.hid (show putR l d false = addT l x by rw [HP0.out]; rfl)
          go_wp2_with fail
          go_loopw [10] (fun i wr => RelS w l x i wr) (fun i _ => m - (intOf i).toNat)
          case atStart => exact ⟨0, Nat.zero_le _, rfl, by simp, rfl⟩
          case round =>
            obtain ⟨k, hk, rfl, hno, rfl⟩ := hrel
            have Hno := Lib.hid hno
            clear hno
            by_cases hlt : k < l.length
            · obtain ⟨b, o, rfl, hb, hcell'⟩ := Hr.out.at_ (k := k) (by simpa using hlt)
              have hcell : w.cell? ⟨b, o + k, none⟩ = some (.string ⟨l[k].toArray⟩) := by rw [hcell']; simp [str]
              have hkm : k < m := by omega
              have htk : l.take (k + 1) = l.take k ++ [l[k]] := List.take_succ_eq_append_getElem hlt
              have hmem : l[k] ∈ l := List.getElem_mem hlt
              clear hcell'
              cases heq : (l[k] == x)
              · have Hno2 : Hid (∀ y ∈ l.take (k + 1), y ≠ x) := Lib.hid (fun y hy => by
                  rw [htk] at hy
                  rcases List.mem_append.1 hy with hy | hy
                  · exact Hno.out y hy
                  · simp at hy; subst hy; simpa using heq)
                clear htk hmem
                generalize l[k] = z at *
                go_wp2_with fail
                go_roundw
                case rel => exact ⟨k + 1, by omega, by go_num, Hno2.out, rfl⟩
                case measure => simp [intOf]; omega
              · have hxe : l[k] = x := by simpa using heq
                have Hfin := Lib.hid (show addT l x = l by unfold addT; rw [if_pos (by rw [List.contains_iff_mem, ← hxe]; exact hmem)])
                clear htk hmem hxe
                generalize l[k] = z at *
                go_wp2_with fail
                go_ret
                exact ⟨_, c, by rw [HP.out, Hfin.out, ← Hm.out]; rfl, by rw [HP.out, Hfin.out, ← Hm.out]; exact hle, hmx', by rw [HP.out, Hfin.out]; exact Hr.out, Hnone.out, HB.out⟩
            · have hni : ¬ x ∈ l := fun hm => by
                have := Hno.out x (by rw [List.take_of_length_le (by omega)]; exact hm)
                exact this rfl
              have Hfin := Lib.hid (show addT l x = l ++ [x] by unfold addT; rw [if_neg (by rw [List.contains_iff_mem]; exact hni)])
              have hkm : k = m := by omega
              subst hkm
              have Hnone2 : Hid (A = none → k = 0 ∧ k = 0) := Lib.hid (fun e => by have := Hnone.out e; omega)
              have Hcl : Hid (∀ b : Addr, A = some b → ∀ j u, (l.map str)[j]? = some u → (w.alloc (.cells #[str x] 9)).cell? (b.add j) = some u) := Lib.hid (cells_of (Hr.out.below ((Below.refl w.heap.size w).alloc (Nat.le_refl _) _)))
              clear hni
              go_wp2_with (at_builtin
                           refine wpList_append_grows _ rfl (.tmp 51) (.tmp 53) 31 rfl 9 i0 _ 1 16 Tryd.underlying31 Hi.out Hz.out Hs1.out Hb1.out rfl (by omega) A k k (l.map str) rfl Hnone2.out (by rw [List.length_map]; omega) Hcl.out ⟨w.heap.size, 0, none⟩ 1 1 [str x] rfl rfl (news_one _ _ _) (by intro u hu; simp at hu; subst hu; rfl) (by omega) (by unfold maxLen; omega) (by omega) ?_
                           intro v2 w2 hown2 hg2
                           have Hown2 := Lib.hid hown2
                           have Hg2 := Lib.hid hg2
                           clear hown2 hg2)
              go_ret
              have hlen : (l ++ [x]).length = k + 1 := by rw [List.length_append, ← Hm.out]; rfl
              obtain ⟨A2, c2, rfl, h1, h2, h3, h4⟩ := own_slice Hown2.out
              refine ⟨A2, c2, ?_, ?_, h2, ?_, fun e => ?_, ?_⟩
              · rw [HP.out, Hfin.out, hlen]; rfl
              · rw [HP.out, Hfin.out, hlen]; exact h1
              · rw [HP.out, Hfin.out]
                have := Rds.own Hown2.out
                simpa using this
              · have := (h4 e).1; omega
              · exact ⟨Hg2.out.os, Hg2.out.tape, Hg2.out.output, by have := Hg2.out.size; simp at this; omega, fun i hi => (Hg2.out.block i (by simp; omega) (by simp)).trans (Below.heap_alloc w _ i hi)⟩


end PoolP
end Go.Proofs.YtnkkeifjggcncaaDoor
