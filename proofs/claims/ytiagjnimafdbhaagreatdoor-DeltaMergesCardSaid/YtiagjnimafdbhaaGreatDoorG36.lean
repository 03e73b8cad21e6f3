/-
  Whether two classes have the same: table.same, by slices.EqualFunc over fields and over methods.
-/
import Derived.Test.YtiagjnimafdbhaaGreatDoorG24
namespace Go.Proofs.YtiagjnimafdbhaaGreatDoor
namespace TabEq
open Go.RowKit Base BinM Stru DescM DescW DescX HierS HierT HierM HierC HierD HierN Kls KlsP KlsQ TabC TabM TabK TabP TabE TabB TabG TabH TabT TabU TabV TabW TabO TabY

def nsE (x : EntT) : List UInt8 × List UInt8 := (x.name, x.sig)
def eqF (x y : FedT) : Bool := x.name == y.name && x.desc == y.desc
def eqE (x y : EntT) : Bool := x.name == y.name && x.sig == y.sig
theorem eqF_iff (x y : FedT) : eqF x y = true ↔ fldOf x = fldOf y := by
  unfold eqF fldOf
  simp
theorem eqE_iff (x y : EntT) : eqE x y = true ↔ nsE x = nsE y := by
  unfold eqE nsE
  simp
theorem map_step {α β : Type} (f : α → β) {a b : List α} {j : Nat} (ha : j < a.length) (hb : j < b.length) (h : (a.take j).map f = (b.take j).map f) (he : f a[j] = f b[j]) : (a.take (j + 1)).map f = (b.take (j + 1)).map f := by
  rw [List.take_succ_eq_append_getElem ha, List.take_succ_eq_append_getElem hb, List.map_append, List.map_append, h]
  simp [he]
theorem map_ne {α β : Type} (f : α → β) {a b : List α} {j : Nat} (ha : j < a.length) (hb : j < b.length) (he : f a[j] ≠ f b[j]) : ¬ a.map f = b.map f := by
  intro h
  have h2 := congrArg (fun l : List β => l[j]?) h
  simp [ha, hb] at h2
  exact he h2
theorem map_len {α β : Type} (f : α → β) {a b : List α} (h : a.length ≠ b.length) : ¬ a.map f = b.map f := fun e => h (by have := congrArg List.length e; simpa using this)

set_option maxRecDepth 100000 in
theorem cloFF_any (x y : FedT) (w : World) :
    Calls Tryz.prog 145 #[x.V, y.V] w fun e w' => e = .returned (.bool (eqF x y)) ∧ Below w.heap.size w w' := by
  obtain ⟨x0, x1, x2⟩ := x
  obtain ⟨y0, y1, y2⟩ := y
  unfold FedT.V eqF
  simp only
  have HZ := Lib.hid (Below.refl w.heap.size w)
  have HB := Lib.hid (((Below.refl w.heap.size w).alloc (Nat.le_refl _) (.cells #[.string ⟨x0.toArray⟩, .string ⟨x1.toArray⟩, .string ⟨x2.toArray⟩] 167)).alloc (by simp) (.cells #[.string ⟨y0.toArray⟩, .string ⟨y1.toArray⟩, .string ⟨y2.toArray⟩] 167))
  have he := fun W => eq_fld x0 x1 y0 y1 W
  go_enter Tryz.func145, Tryz.ntmps145
  go_wp2_with fail
  go_ret
  first | exact ⟨rfl, HB.out⟩ | exact ⟨rfl, HZ.out⟩
set_option maxRecDepth 100000 in
theorem cloEE_any (x y : EntT) (w : World) :
    Calls Tryz.prog 147 #[x.V, y.V] w fun e w' => e = .returned (.bool (eqE x y)) ∧ Below w.heap.size w w' := by
  obtain ⟨x0, x1, x2⟩ := x
  obtain ⟨y0, y1, y2⟩ := y
  unfold EntT.V eqE
  simp only
  have HZ := Lib.hid (Below.refl w.heap.size w)
  have HB := Lib.hid (((Below.refl w.heap.size w).alloc (Nat.le_refl _) (.cells #[.string ⟨x0.toArray⟩, .string ⟨x1.toArray⟩, .string ⟨x2.toArray⟩] 140)).alloc (by simp) (.cells #[.string ⟨y0.toArray⟩, .string ⟨y1.toArray⟩, .string ⟨y2.toArray⟩] 140))
  cases h0 : (x0 == y0)
  all_goals
    go_enter Tryz.func147, Tryz.ntmps147
    go_wp2_with fail
    go_ret
    exact ⟨rfl, HB.out⟩

set_option maxRecDepth 100000 in
set_option maxHeartbeats 2000000 in
theorem equalFF_any (A B : Option Addr) (a b : List FedT) (m k c d : Nat) (w : World) (hm : m = a.length) (hk : k = b.length) (hmx : m ≤ 100000) (hkx : k ≤ 100000) (hr : Rds w A (a.flatMap FedT.vals)) (hr2 : Rds w B (b.flatMap FedT.vals)) :
    Calls Tryz.prog 144 #[.slice A m c, .slice B k d, .func (.func 145) #[] #[]] w fun e w' => e = .returned (.bool (decide (a.map fldOf = b.map fldOf))) ∧ Below w.heap.size w w' := by
  have eg : ∀ args w, (callFunc 145 args).run Tryz.prog w = .ok (.enter 145 args) w := enters_of Tryz.func145 (by kernel_rfl) rfl
  subst hm
  subst hk
  have Hr := Lib.hid hr
  have Hr2 := Lib.hid hr2
  have Z := Lib.hid (Below.refl w.heap.size w)
  clear hr hr2
  by_cases hmk : a.length = b.length
  · have hb : ((a.length : Int) != (b.length : Int)) = false := by rw [hmk]; simp
    have hkm : b.length ≤ a.length := by omega
    have hmk' : a.length ≤ b.length := by omega
    have Hmk := Lib.hid hmk
    clear hmk
    go_enter Tryz.func144, Tryz.ntmps144
    go_wp2_with fail
    go_loopw [7, 17] (fun _ i wr => ∃ j : Nat, j ≤ a.length ∧ i = .int .i64 j ∧ Hid ((a.take j).map fldOf = (b.take j).map fldOf) ∧ Below w.heap.size w wr) (fun _ i _ => a.length - (intOf i).toNat)
    case atStart => exact ⟨0, Nat.zero_le _, rfl, Lib.hid rfl, Below.refl _ _⟩
    case round =>
      obtain ⟨j, hj, rfl, Hsame, hbel⟩ := hrel
      have Hbel := Lib.hid hbel
      have hsz := hbel.size
      by_cases hlt : j < a.length
      · have hja : j < a.length := by omega
        have hjb : j < b.length := by omega
        obtain ⟨b1, o1, rfl, hb1, c0, c1, c2⟩ := fed_at (Hr.out.below hbel) hja
        obtain ⟨b2, o2, rfl, hb2, d0, d1, d2⟩ := fed_at (Hr2.out.below hbel) hjb
        have hj1 : (j : Int) < (a.length : Int) := by omega
        have hj2 : (j : Int) < (b.length : Int) := by omega
        have hj0 : (0 : Int) ≤ (j : Int) := by omega
        have Hyes := Lib.hid (fun (he : eqF a[j] b[j] = true) => map_step fldOf hja hjb Hsame.out ((eqF_iff _ _).1 he))
        have Hno := Lib.hid (fun (he : eqF a[j] b[j] = false) => map_ne fldOf hja hjb (fun h => by rw [(eqF_iff _ _).2 h] at he; cases he))
        have Hclo := Lib.hid (fun W => cloFF_any a[j] b[j] W)
        clear hbel
        generalize a[j] = x at *
        generalize b[j] = y at *
        generalize eqF x y = D at *
        obtain ⟨x0, x1, x2⟩ := x
        obtain ⟨y0, y1, y2⟩ := y
        unfold FedT.V at Hclo
        simp only at c0 c1 c2 d0 d1 d2 Hclo
        go_wp2_with fail
        refine Calls.mono (Hclo.out _) ?_
        rintro e w3 ⟨rfl, hb3⟩
        have hAl : Below w.heap.size w ((wr.alloc (.cells #[.string ⟨x0.toArray⟩, .string ⟨x1.toArray⟩, .string ⟨x2.toArray⟩] 167)).alloc (.cells #[.string ⟨y0.toArray⟩, .string ⟨y1.toArray⟩, .string ⟨y2.toArray⟩] 167)) := (Hbel.out.alloc hsz _).alloc (by simp; omega) _
        have B3 := Lib.hid (hAl.trans (hb3.mono hAl.size))
        clear hb3
        cases D
        · have Hq := Lib.hid (Hno.out rfl)
          go_wp2_with fail
          go_ret
          exact ⟨by rw [decide_eq_false Hq.out]; rfl, B3.out⟩
        · have Hq := Lib.hid (Hyes.out rfl)
          go_wp2_with fail
          go_roundw
          case rel => exact ⟨j + 1, by omega, by go_num, Hq, B3.out⟩
          case measure => simp [intOf]; omega
      · have Hfin := Lib.hid (show decide (a.map fldOf = b.map fldOf) = true by
          have h := Hsame.out
          rw [List.take_of_length_le (by omega), List.take_of_length_le (by omega)] at h
          simp [h])
        obtain rfl : j = a.length := by omega
        clear hbel
        go_wp2_with fail
        go_ret
        exact ⟨by rw [Hfin.out]; rfl, Hbel.out⟩
  · have hb : ((a.length : Int) != (b.length : Int)) = true := by simp; omega
    have Hfin := Lib.hid (decide_eq_false (map_len fldOf hmk))
    go_enter Tryz.func144, Tryz.ntmps144
    go_wp2_with fail
    go_ret
    exact ⟨by rw [Hfin.out]; rfl, Z.out⟩

set_option maxRecDepth 100000 in
set_option maxHeartbeats 2000000 in
theorem equalEE_any (A B : Option Addr) (a b : List EntT) (m k c d : Nat) (w : World) (hm : m = a.length) (hk : k = b.length) (hmx : m ≤ 100000) (hkx : k ≤ 100000) (hr : Rds w A (a.flatMap EntT.vals)) (hr2 : Rds w B (b.flatMap EntT.vals)) :
    Calls Tryz.prog 146 #[.slice A m c, .slice B k d, .func (.func 147) #[] #[]] w fun e w' => e = .returned (.bool (decide (a.map nsE = b.map nsE))) ∧ Below w.heap.size w w' := by
  have eg : ∀ args w, (callFunc 147 args).run Tryz.prog w = .ok (.enter 147 args) w := enters_of Tryz.func147 (by kernel_rfl) rfl
  subst hm
  subst hk
  have Hr := Lib.hid hr
  have Hr2 := Lib.hid hr2
  have Z := Lib.hid (Below.refl w.heap.size w)
  clear hr hr2
  by_cases hmk : a.length = b.length
  · have hb : ((a.length : Int) != (b.length : Int)) = false := by rw [hmk]; simp
    have hkm : b.length ≤ a.length := by omega
    have hmk' : a.length ≤ b.length := by omega
    have Hmk := Lib.hid hmk
    clear hmk
    go_enter Tryz.func146, Tryz.ntmps146
    go_wp2_with fail
    go_loopw [7, 17] (fun _ i wr => ∃ j : Nat, j ≤ a.length ∧ i = .int .i64 j ∧ Hid ((a.take j).map nsE = (b.take j).map nsE) ∧ Below w.heap.size w wr) (fun _ i _ => a.length - (intOf i).toNat)
    case atStart => exact ⟨0, Nat.zero_le _, rfl, Lib.hid rfl, Below.refl _ _⟩
    case round =>
      obtain ⟨j, hj, rfl, Hsame, hbel⟩ := hrel
      have Hbel := Lib.hid hbel
      have hsz := hbel.size
      by_cases hlt : j < a.length
      · have hja : j < a.length := by omega
        have hjb : j < b.length := by omega
        obtain ⟨b1, o1, rfl, hb1, c0, c1, c2⟩ := ent_at (Hr.out.below hbel) hja
        obtain ⟨b2, o2, rfl, hb2, d0, d1, d2⟩ := ent_at (Hr2.out.below hbel) hjb
        have hj1 : (j : Int) < (a.length : Int) := by omega
        have hj2 : (j : Int) < (b.length : Int) := by omega
        have hj0 : (0 : Int) ≤ (j : Int) := by omega
        have Hyes := Lib.hid (fun (he : eqE a[j] b[j] = true) => map_step nsE hja hjb Hsame.out ((eqE_iff _ _).1 he))
        have Hno := Lib.hid (fun (he : eqE a[j] b[j] = false) => map_ne nsE hja hjb (fun h => by rw [(eqE_iff _ _).2 h] at he; cases he))
        have Hclo := Lib.hid (fun W => cloEE_any a[j] b[j] W)
        clear hbel
        generalize a[j] = x at *
        generalize b[j] = y at *
        generalize eqE x y = D at *
        obtain ⟨x0, x1, x2⟩ := x
        obtain ⟨y0, y1, y2⟩ := y
        unfold EntT.V at Hclo
        simp only at c0 c1 c2 d0 d1 d2 Hclo
        go_wp2_with fail
        refine Calls.mono (Hclo.out _) ?_
        rintro e w3 ⟨rfl, hb3⟩
        have hAl : Below w.heap.size w ((wr.alloc (.cells #[.string ⟨x0.toArray⟩, .string ⟨x1.toArray⟩, .string ⟨x2.toArray⟩] 140)).alloc (.cells #[.string ⟨y0.toArray⟩, .string ⟨y1.toArray⟩, .string ⟨y2.toArray⟩] 140)) := (Hbel.out.alloc hsz _).alloc (by simp; omega) _
        have B3 := Lib.hid (hAl.trans (hb3.mono hAl.size))
        clear hb3
        cases D
        · have Hq := Lib.hid (Hno.out rfl)
          go_wp2_with fail
          go_ret
          exact ⟨by rw [decide_eq_false Hq.out]; rfl, B3.out⟩
        · have Hq := Lib.hid (Hyes.out rfl)
          go_wp2_with fail
          go_roundw
          case rel => exact ⟨j + 1, by omega, by go_num, Hq, B3.out⟩
          case measure => simp [intOf]; omega
      · have Hfin := Lib.hid (show decide (a.map nsE = b.map nsE) = true by
          have h := Hsame.out
          rw [List.take_of_length_le (by omega), List.take_of_length_le (by omega)] at h
          simp [h])
        obtain rfl : j = a.length := by omega
        clear hbel
        go_wp2_with fail
        go_ret
        exact ⟨by rw [Hfin.out]; rfl, Hbel.out⟩
  · have hb : ((a.length : Int) != (b.length : Int)) = true := by simp; omega
    have Hfin := Lib.hid (decide_eq_false (map_len nsE hmk))
    go_enter Tryz.func146, Tryz.ntmps146
    go_wp2_with fail
    go_ret
    exact ⟨by rw [Hfin.out]; rfl, Z.out⟩
