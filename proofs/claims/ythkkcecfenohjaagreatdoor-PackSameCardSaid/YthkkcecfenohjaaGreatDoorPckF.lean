/-
  Where a class and a turn of a name stand in a bundle, and a move of a field in a turn.
-/
import Derived.Test.YthkkcecfenohjaaGreatDoorPckM
import Derived.Test.YthkkcecfenohjaaGreatDoorKlsQ
namespace Go.Proofs.YthkkcecfenohjaaGreatDoor
namespace PckF
open Go.RowKit Base BinM Stru PoolM PoolA PoolJ InsJ Kls KlsP Pck
open Part (Row)

def nameK (n : List UInt8) (x : ClsT) : Bool := x.name == n
def nameT (n : List UInt8) (x : TrnT) : Bool := x.cls == n
def nameV (n : List UInt8) (x : MovT) : Bool := x.field == n

set_option maxRecDepth 100000 in
theorem cloK_any (x : ClsT) (q : List UInt8) (g : Nat) (w : World) (hg : w.cell? ⟨g, 0, none⟩ = some (.string ⟨q.toArray⟩)) :
    Calls Tryz.prog 78 #[x.V, .pointer (some ⟨g, 0, none⟩)] w fun e w' => e = .returned (.bool (nameK q x)) ∧ Below w.heap.size w w' := by
  obtain ⟨x0, x1, x2, x3, x4, x5, x6, x7, x8, x9, x10, x11, x12, x13⟩ := x
  unfold ClsT.V nameK
  simp only
  have hb := (Below.refl w.heap.size w).alloc (Nat.le_refl _) (.cells #[.string ⟨x0.toArray⟩, .string ⟨x1.toArray⟩, .slice x2 x3 x4, .slice x5 x6 x7, .slice x8 x9 x10] 26)
  have HB := Lib.hid hb
  have hg' := (hb.cell (p := ⟨g, 0, none⟩) (World.block_lt_of_cell? w ⟨g, 0, none⟩ hg)).trans hg
  clear hb
  go_enter Tryz.func78, Tryz.ntmps78
  go_wp2_with fail
  go_ret
  exact ⟨rfl, HB.out⟩

set_option maxRecDepth 100000 in
set_option maxHeartbeats 2000000 in
theorem indexK_any (A : Option Addr) (l : List ClsT) (m c : Nat) (q : List UInt8) (g : Nat) (w : World) (hg : w.cell? ⟨g, 0, none⟩ = some (.string ⟨q.toArray⟩)) (hm : m = l.length) (hmx : m ≤ maxLen) (hr : Rds w A (l.flatMap Pck.ClsT.vals)) :
    Calls Tryz.prog 77 #[.slice A m c, .func (.func 78) #[] #[.pointer (some ⟨g, 0, none⟩)]] w fun e w' => e = .returned (.int .i64 (findP (nameK q) l)) ∧ Below w.heap.size w w' := by
  have eg : ∀ args w, (callFunc 78 args).run Tryz.prog w = .ok (.enter 78 args) w := enters_of Tryz.func78 (by kernel_rfl) rfl
  have hml : l.length ≤ m := Nat.le_of_eq hm.symm
  have hml2 : m ≤ l.length := Nat.le_of_eq hm
  have hgl := World.block_lt_of_cell? w ⟨g, 0, none⟩ hg
  have Hg := Lib.hid hg
  have Hr := Lib.hid hr
  unfold maxLen at hmx
  clear hg hr hm
  go_enter Tryz.func77, Tryz.ntmps77
  go_wp2_with fail
  go_loopw [5, 8] (fun _ i wr => ∃ j : Nat, j ≤ m ∧ i = .int .i64 j ∧ (∀ x ∈ l.take j, nameK q x = false) ∧ Below w.heap.size w wr) (fun _ i _ => m - (intOf i).toNat)
  case atStart => exact ⟨0, Nat.zero_le _, rfl, by simp, Below.refl _ _⟩
  case round =>
    obtain ⟨j, hj, rfl, hno, hbel⟩ := hrel
    have Hno := Lib.hid hno
    have Hbel := Lib.hid hbel
    have hsz := hbel.size
    clear hno
    by_cases hlt : j < m
    · have hja : j < l.length := by omega
      obtain ⟨b1, o1, rfl, hb1, hc0, hc1, hc2, hc3, hc4⟩ := cls_at (Hr.out.below hbel) hja
      have hj1 : (j : Int) < (m : Int) := by omega
      have hj0 : (0 : Int) ≤ (j : Int) := by omega
      have Hg1 := Lib.hid ((hbel.cell (p := ⟨g, 0, none⟩) hgl).trans Hg.out)
      have Hat := Lib.hid (fun he => findP_at (p := nameK q) hja Hno.out he)
      have Hnext := Lib.hid (fun he => none_next (p := nameK q) hja Hno.out he)
      clear hbel
      have hclo := fun W hg => cloK_any (l[j]'hja) q g W hg
      generalize l[j] = x at *
      obtain ⟨x0, x1, x2, x3, x4, x5, x6, x7, x8, x9, x10, x11, x12, x13⟩ := x
      unfold ClsT.V at hclo
      simp only at hc0 hc1 hc2 hc3 hc4 hclo
      generalize nameK q _ = D at *
      have Hclo := Lib.hid hclo
      clear hclo
      go_wp2_with fail
      refine Calls.mono (Hclo.out _ Hg1.out) ?_
      rintro e w3 ⟨rfl, hb3⟩
      have B3 := Lib.hid (Hbel.out.trans (hb3.mono hsz))
      clear hb3
      cases D
      · have Hq := Lib.hid (Hnext.out rfl)
        go_wp2_with fail
        go_roundw
        case rel => exact ⟨j + 1, by omega, by go_num, Hq.out, B3.out⟩
        case measure => simp [intOf]; omega
      · have Hq := Lib.hid (Hat.out rfl)
        go_wp2_with fail
        go_ret
        exact ⟨ret_i Hq.out.symm, B3.out⟩
    · have Hfin := Lib.hid (show findP (nameK q) l = -1 by
        have h := Hno.out
        rw [List.take_of_length_le (by omega)] at h
        exact findP_none h)
      go_wp2_with fail
      go_ret
      exact ⟨ret_i Hfin.out.symm, hbel⟩

set_option maxRecDepth 100000 in
theorem cloT_any (x : TrnT) (q : List UInt8) (g : Nat) (w : World) (hg : w.cell? ⟨g, 0, none⟩ = some (.string ⟨q.toArray⟩)) :
    Calls Tryz.prog 80 #[x.V, .pointer (some ⟨g, 0, none⟩)] w fun e w' => e = .returned (.bool (nameT q x)) ∧ Below w.heap.size w w' := by
  obtain ⟨x0, x1, x2, x3, x4, x5, x6, x7, x8⟩ := x
  unfold TrnT.V nameT
  simp only
  have hb := (Below.refl w.heap.size w).alloc (Nat.le_refl _) (.cells #[.string ⟨x0.toArray⟩, .slice x1 x2 x3, .slice x4 x5 x6] 103)
  have HB := Lib.hid hb
  have hg' := (hb.cell (p := ⟨g, 0, none⟩) (World.block_lt_of_cell? w ⟨g, 0, none⟩ hg)).trans hg
  clear hb
  go_enter Tryz.func80, Tryz.ntmps80
  go_wp2_with fail
  go_ret
  exact ⟨rfl, HB.out⟩

set_option maxRecDepth 100000 in
set_option maxHeartbeats 2000000 in
theorem indexT_any (A : Option Addr) (l : List TrnT) (m c : Nat) (q : List UInt8) (g : Nat) (w : World) (hg : w.cell? ⟨g, 0, none⟩ = some (.string ⟨q.toArray⟩)) (hm : m = l.length) (hmx : m ≤ maxLen) (hr : Rds w A (l.flatMap TrnT.vals)) :
    Calls Tryz.prog 79 #[.slice A m c, .func (.func 80) #[] #[.pointer (some ⟨g, 0, none⟩)]] w fun e w' => e = .returned (.int .i64 (findP (nameT q) l)) ∧ Below w.heap.size w w' := by
  have eg : ∀ args w, (callFunc 80 args).run Tryz.prog w = .ok (.enter 80 args) w := enters_of Tryz.func80 (by kernel_rfl) rfl
  have hml : l.length ≤ m := Nat.le_of_eq hm.symm
  have hml2 : m ≤ l.length := Nat.le_of_eq hm
  have hgl := World.block_lt_of_cell? w ⟨g, 0, none⟩ hg
  have Hg := Lib.hid hg
  have Hr := Lib.hid hr
  unfold maxLen at hmx
  clear hg hr hm
  go_enter Tryz.func79, Tryz.ntmps79
  go_wp2_with fail
  go_loopw [5, 8] (fun _ i wr => ∃ j : Nat, j ≤ m ∧ i = .int .i64 j ∧ (∀ x ∈ l.take j, nameT q x = false) ∧ Below w.heap.size w wr) (fun _ i _ => m - (intOf i).toNat)
  case atStart => exact ⟨0, Nat.zero_le _, rfl, by simp, Below.refl _ _⟩
  case round =>
    obtain ⟨j, hj, rfl, hno, hbel⟩ := hrel
    have Hno := Lib.hid hno
    have Hbel := Lib.hid hbel
    have hsz := hbel.size
    clear hno
    by_cases hlt : j < m
    · have hja : j < l.length := by omega
      obtain ⟨b1, o1, rfl, hb1, hc0, hc1, hc2⟩ := trn_at (Hr.out.below hbel) hja
      have hj1 : (j : Int) < (m : Int) := by omega
      have hj0 : (0 : Int) ≤ (j : Int) := by omega
      have Hg1 := Lib.hid ((hbel.cell (p := ⟨g, 0, none⟩) hgl).trans Hg.out)
      have Hat := Lib.hid (fun he => findP_at (p := nameT q) hja Hno.out he)
      have Hnext := Lib.hid (fun he => none_next (p := nameT q) hja Hno.out he)
      clear hbel
      have hclo := fun W hg => cloT_any (l[j]'hja) q g W hg
      generalize l[j] = x at *
      obtain ⟨x0, x1, x2, x3, x4, x5, x6, x7, x8⟩ := x
      unfold TrnT.V at hclo
      simp only at hc0 hc1 hc2 hclo
      generalize nameT q _ = D at *
      have Hclo := Lib.hid hclo
      clear hclo
      go_wp2_with fail
      refine Calls.mono (Hclo.out _ Hg1.out) ?_
      rintro e w3 ⟨rfl, hb3⟩
      have B3 := Lib.hid (Hbel.out.trans (hb3.mono hsz))
      clear hb3
      cases D
      · have Hq := Lib.hid (Hnext.out rfl)
        go_wp2_with fail
        go_roundw
        case rel => exact ⟨j + 1, by omega, by go_num, Hq.out, B3.out⟩
        case measure => simp [intOf]; omega
      · have Hq := Lib.hid (Hat.out rfl)
        go_wp2_with fail
        go_ret
        exact ⟨ret_i Hq.out.symm, B3.out⟩
    · have Hfin := Lib.hid (show findP (nameT q) l = -1 by
        have h := Hno.out
        rw [List.take_of_length_le (by omega)] at h
        exact findP_none h)
      go_wp2_with fail
      go_ret
      exact ⟨ret_i Hfin.out.symm, hbel⟩

set_option maxRecDepth 100000 in
theorem cloV_any (x : MovT) (q : List UInt8) (g : Nat) (w : World) (hg : w.cell? ⟨g, 0, none⟩ = some (.string ⟨q.toArray⟩)) :
    Calls Tryz.prog 150 #[x.V, .pointer (some ⟨g, 0, none⟩)] w fun e w' => e = .returned (.bool (nameV q x)) ∧ Below w.heap.size w w' := by
  obtain ⟨x0, x1, x2, x3, x4, x5, x6⟩ := x
  unfold MovT.V nameV
  simp only
  have hb := (Below.refl w.heap.size w).alloc (Nat.le_refl _) (.cells #[.string ⟨x0.toArray⟩, .int .i64 x1, .string ⟨x2.toArray⟩, .slice x3 x4 x5] 105)
  have HB := Lib.hid hb
  have hg' := (hb.cell (p := ⟨g, 0, none⟩) (World.block_lt_of_cell? w ⟨g, 0, none⟩ hg)).trans hg
  clear hb
  go_enter Tryz.func150, Tryz.ntmps150
  go_wp2_with fail
  go_ret
  exact ⟨rfl, HB.out⟩

set_option maxRecDepth 100000 in
set_option maxHeartbeats 2000000 in
theorem indexV_any (A : Option Addr) (l : List MovT) (m c : Nat) (q : List UInt8) (g : Nat) (w : World) (hg : w.cell? ⟨g, 0, none⟩ = some (.string ⟨q.toArray⟩)) (hm : m = l.length) (hmx : m ≤ maxLen) (hr : Rds w A (l.flatMap MovT.vals)) :
    Calls Tryz.prog 174 #[.slice A m c, .func (.func 150) #[] #[.pointer (some ⟨g, 0, none⟩)]] w fun e w' => e = .returned (.int .i64 (findP (nameV q) l)) ∧ Below w.heap.size w w' := by
  have eg : ∀ args w, (callFunc 150 args).run Tryz.prog w = .ok (.enter 150 args) w := enters_of Tryz.func150 (by kernel_rfl) rfl
  have hml : l.length ≤ m := Nat.le_of_eq hm.symm
  have hml2 : m ≤ l.length := Nat.le_of_eq hm
  have hgl := World.block_lt_of_cell? w ⟨g, 0, none⟩ hg
  have Hg := Lib.hid hg
  have Hr := Lib.hid hr
  unfold maxLen at hmx
  clear hg hr hm
  go_enter Tryz.func174, Tryz.ntmps174
  go_wp2_with fail
  go_loopw [5, 8] (fun _ i wr => ∃ j : Nat, j ≤ m ∧ i = .int .i64 j ∧ (∀ x ∈ l.take j, nameV q x = false) ∧ Below w.heap.size w wr) (fun _ i _ => m - (intOf i).toNat)
  case atStart => exact ⟨0, Nat.zero_le _, rfl, by simp, Below.refl _ _⟩
  case round =>
    obtain ⟨j, hj, rfl, hno, hbel⟩ := hrel
    have Hno := Lib.hid hno
    have Hbel := Lib.hid hbel
    have hsz := hbel.size
    clear hno
    by_cases hlt : j < m
    · have hja : j < l.length := by omega
      obtain ⟨b1, o1, rfl, hb1, hc0, hc1, hc2, hc3⟩ := mov_at (Hr.out.below hbel) hja
      have hj1 : (j : Int) < (m : Int) := by omega
      have hj0 : (0 : Int) ≤ (j : Int) := by omega
      have Hg1 := Lib.hid ((hbel.cell (p := ⟨g, 0, none⟩) hgl).trans Hg.out)
      have Hat := Lib.hid (fun he => findP_at (p := nameV q) hja Hno.out he)
      have Hnext := Lib.hid (fun he => none_next (p := nameV q) hja Hno.out he)
      clear hbel
      have hclo := fun W hg => cloV_any (l[j]'hja) q g W hg
      generalize l[j] = x at *
      obtain ⟨x0, x1, x2, x3, x4, x5, x6⟩ := x
      unfold MovT.V at hclo
      simp only at hc0 hc1 hc2 hc3 hclo
      generalize nameV q _ = D at *
      have Hclo := Lib.hid hclo
      clear hclo
      go_wp2_with fail
      refine Calls.mono (Hclo.out _ Hg1.out) ?_
      rintro e w3 ⟨rfl, hb3⟩
      have B3 := Lib.hid (Hbel.out.trans (hb3.mono hsz))
      clear hb3
      cases D
      · have Hq := Lib.hid (Hnext.out rfl)
        go_wp2_with fail
        go_roundw
        case rel => exact ⟨j + 1, by omega, by go_num, Hq.out, B3.out⟩
        case measure => simp [intOf]; omega
      · have Hq := Lib.hid (Hat.out rfl)
        go_wp2_with fail
        go_ret
        exact ⟨ret_i Hq.out.symm, B3.out⟩
    · have Hfin := Lib.hid (show findP (nameV q) l = -1 by
        have h := Hno.out
        rw [List.take_of_length_le (by omega)] at h
        exact findP_none h)
      go_wp2_with fail
      go_ret
      exact ⟨ret_i Hfin.out.symm, hbel⟩

theorem hasV_any (A : Option Addr) (l : List MovT) (m c : Nat) (q : List UInt8) (g : Nat) (w : World) (hg : w.cell? ⟨g, 0, none⟩ = some (.string ⟨q.toArray⟩)) (hm : m = l.length) (hmx : m ≤ maxLen) (hr : Rds w A (l.flatMap MovT.vals)) :
    Calls Tryz.prog 149 #[.slice A m c, .func (.func 150) #[] #[.pointer (some ⟨g, 0, none⟩)]] w fun e w' => e = .returned (.bool (decide (0 ≤ findP (nameV q) l))) ∧ Below w.heap.size w w' := by
  have h := indexV_any A l m c q g w hg hm hmx hr
  have H := Lib.hid h
  clear h hg hm hmx hr
  go_enter Tryz.func149, Tryz.ntmps149
  go_wp2_with fail
  refine Calls.mono H.out ?_
  rintro e w3 ⟨rfl, hb3⟩
  have B3 := Lib.hid hb3
  clear hb3
  go_wp2_with fail
  go_ret
  exact ⟨rfl, B3.out⟩

set_option maxRecDepth 100000 in
set_option maxHeartbeats 1000000 in
theorem atK_any (x : BunT) (q : List UInt8) (w : World) (hx : x.is w) :
    Calls Tryz.prog 31 #[x.V, .string ⟨q.toArray⟩] w fun e w' => e = .returned (.int .i64 (findP (nameK q) x.classes)) ∧ Below w.heap.size w w' := by
  have H := Lib.hid (show IsClss w x.cA x.cm x.cc x.classes from hx.classes)
  clear hx
  obtain ⟨cA, cm, cc, tA, tm, tc, cs, ts⟩ := x
  simp only [BunT.V] at H ⊢
  have hb := ((Below.refl w.heap.size w).alloc (Nat.le_refl _) (.cells #[.slice cA cm cc, .slice tA tm tc] 48)).alloc (by simp) (.cells #[.string ⟨q.toArray⟩] 9)
  have HB := Lib.hid hb
  clear hb
  go_enter Tryz.func31, Tryz.ntmps31
  go_wp2_with fail
  refine Calls.mono (indexK_any _ _ _ _ q _ _ ?hcell H.out.len (Nat.le_trans H.out.le H.out.max) (H.out.below HB.out).rds) ?_
  case hcell => simp
  rintro e w3 ⟨rfl, hb3⟩
  have B3 := Lib.hid (HB.out.trans (hb3.mono HB.out.size))
  clear hb3
  go_wp2_with fail
  go_ret
  exact ⟨rfl, B3.out⟩

set_option maxRecDepth 100000 in
set_option maxHeartbeats 1000000 in
theorem refAtK_any (x : BunT) (q : List UInt8) (w : World) (hx : x.is w) :
    Calls Tryz.prog 32 #[x.V, .string ⟨q.toArray⟩] w fun e w' => e = .returned (.int .i64 (findP (nameK q) x.classes)) ∧ Below w.heap.size w w' := by
  have H := Lib.hid (show IsClss w x.cA x.cm x.cc x.classes from hx.classes)
  have hml : x.classes.length ≤ x.cm := Nat.le_of_eq hx.classes.len.symm
  have hml2 : x.cm ≤ x.classes.length := Nat.le_of_eq hx.classes.len
  have hmx : x.cm ≤ maxLen := Nat.le_trans hx.classes.le hx.classes.max
  unfold maxLen at hmx
  clear hx
  obtain ⟨cA, cm, cc, tA, tm, tc, cs, ts⟩ := x
  have R0 := Row.new w #[.slice cA cm cc, .slice tA tm tc] 48
  have HB := Lib.hid ((Below.refl w.heap.size w).alloc (Nat.le_refl _) (.cells #[.slice cA cm cc, .slice tA tm tc] 48))
  simp only [BunT.V] at *
  have g0 := R0.cell 0
  have g1 := R0.cell 1
  clear R0
  go_enter Tryz.func32, Tryz.ntmps32
  go_wp2_with fail
  go_loop [5] (fun i => ∃ j : Nat, j ≤ cm ∧ i = .int .i64 j ∧ Hid (∀ x ∈ cs.take j, nameK q x = false)) (fun i => cm - (intOf i).toNat)
  case atStart => exact ⟨0, Nat.zero_le _, rfl, Lib.hid (by simp)⟩
  case round =>
    obtain ⟨j, hj, rfl, Hno⟩ := hrel
    by_cases hlt : j < cm
    · have hja : j < cs.length := by omega
      obtain ⟨b1, o1, rfl, hb1, hc0, hc1, hc2, hc3, hc4⟩ := cls_at (H.out.below HB.out).rds hja
      have hj1 : (j : Int) < (cm : Int) := by omega
      have hj0 : (0 : Int) ≤ (j : Int) := by omega
      cases hD : ((cs[j]).name == q)
      · have Hq := Lib.hid (none_next (p := nameK q) hja Hno.out hD)
        go_wp2_with fail
        go_round
        case rel => exact ⟨j + 1, by omega, by go_num, Hq⟩
        case measure => simp [intOf]; omega
      · have Hq := Lib.hid (findP_at (p := nameK q) hja Hno.out hD)
        go_wp2_with fail
        go_ret
        exact ⟨ret_i Hq.out.symm, HB.out⟩
    · have Hfin := Lib.hid (show findP (nameK q) cs = -1 by
        have h := Hno.out
        rw [List.take_of_length_le (by omega)] at h
        exact findP_none h)
      go_wp2_with fail
      go_ret
      exact ⟨ret_i Hfin.out.symm, HB.out⟩

set_option maxRecDepth 100000 in
set_option maxHeartbeats 1000000 in
theorem atT_any (x : BunT) (q : List UInt8) (w : World) (hx : x.is w) :
    Calls Tryz.prog 33 #[x.V, .string ⟨q.toArray⟩] w fun e w' => e = .returned (.int .i64 (findP (nameT q) x.turns)) ∧ Below w.heap.size w w' := by
  have H := Lib.hid (show IsTrns w x.tA x.tm x.tc x.turns from hx.turns)
  clear hx
  obtain ⟨cA, cm, cc, tA, tm, tc, cs, ts⟩ := x
  simp only [BunT.V] at H ⊢
  have hb := ((Below.refl w.heap.size w).alloc (Nat.le_refl _) (.cells #[.slice cA cm cc, .slice tA tm tc] 48)).alloc (by simp) (.cells #[.string ⟨q.toArray⟩] 9)
  have HB := Lib.hid hb
  clear hb
  go_enter Tryz.func33, Tryz.ntmps33
  go_wp2_with fail
  refine Calls.mono (indexT_any _ _ _ _ q _ _ ?hcell H.out.len (Nat.le_trans H.out.le H.out.max) (H.out.below HB.out).rds) ?_
  case hcell => simp
  rintro e w3 ⟨rfl, hb3⟩
  have B3 := Lib.hid (HB.out.trans (hb3.mono HB.out.size))
  clear hb3
  go_wp2_with fail
  go_ret
  exact ⟨rfl, B3.out⟩

set_option maxRecDepth 100000 in
set_option maxHeartbeats 1000000 in
theorem refAtT_any (x : BunT) (q : List UInt8) (w : World) (hx : x.is w) :
    Calls Tryz.prog 34 #[x.V, .string ⟨q.toArray⟩] w fun e w' => e = .returned (.int .i64 (findP (nameT q) x.turns)) ∧ Below w.heap.size w w' := by
  have H := Lib.hid (show IsTrns w x.tA x.tm x.tc x.turns from hx.turns)
  have hml : x.turns.length ≤ x.tm := Nat.le_of_eq hx.turns.len.symm
  have hml2 : x.tm ≤ x.turns.length := Nat.le_of_eq hx.turns.len
  have hmx : x.tm ≤ maxLen := Nat.le_trans hx.turns.le hx.turns.max
  unfold maxLen at hmx
  clear hx
  obtain ⟨cA, cm, cc, tA, tm, tc, cs, ts⟩ := x
  have R0 := Row.new w #[.slice cA cm cc, .slice tA tm tc] 48
  have HB := Lib.hid ((Below.refl w.heap.size w).alloc (Nat.le_refl _) (.cells #[.slice cA cm cc, .slice tA tm tc] 48))
  simp only [BunT.V] at *
  have g0 := R0.cell 0
  have g1 := R0.cell 1
  clear R0
  go_enter Tryz.func34, Tryz.ntmps34
  go_wp2_with fail
  go_loop [5] (fun i => ∃ j : Nat, j ≤ tm ∧ i = .int .i64 j ∧ Hid (∀ x ∈ ts.take j, nameT q x = false)) (fun i => tm - (intOf i).toNat)
  case atStart => exact ⟨0, Nat.zero_le _, rfl, Lib.hid (by simp)⟩
  case round =>
    obtain ⟨j, hj, rfl, Hno⟩ := hrel
    by_cases hlt : j < tm
    · have hja : j < ts.length := by omega
      obtain ⟨b1, o1, rfl, hb1, hc0, hc1, hc2⟩ := trn_at (H.out.below HB.out).rds hja
      have hj1 : (j : Int) < (tm : Int) := by omega
      have hj0 : (0 : Int) ≤ (j : Int) := by omega
      cases hD : ((ts[j]).cls == q)
      · have Hq := Lib.hid (none_next (p := nameT q) hja Hno.out hD)
        go_wp2_with fail
        go_round
        case rel => exact ⟨j + 1, by omega, by go_num, Hq⟩
        case measure => simp [intOf]; omega
      · have Hq := Lib.hid (findP_at (p := nameT q) hja Hno.out hD)
        go_wp2_with fail
        go_ret
        exact ⟨ret_i Hq.out.symm, HB.out⟩
    · have Hfin := Lib.hid (show findP (nameT q) ts = -1 by
        have h := Hno.out
        rw [List.take_of_length_le (by omega)] at h
        exact findP_none h)
      go_wp2_with fail
      go_ret
      exact ⟨ret_i Hfin.out.symm, HB.out⟩

end PckF
end Go.Proofs.YthkkcecfenohjaaGreatDoor
