/-
  Where a field and a method of a name stand: klass.Field, klass.Method, the document's own.
  Whether a class's fields can be: klass.rightFields; what all of a class's rules say.
-/
import Derived.Test.YtehainbhoflpnaaGreatDoorG8
import Derived.Test.YtehainbhoflpnaaGreatDoorG7
import Derived.Test.YtehainbhoflpnaaGreatDoorG15
import Derived.Test.YtehainbhoflpnaaGreatDoorG4
import Derived.Test.YtehainbhoflpnaaGreatDoorG11
namespace Go.Proofs.YtehainbhoflpnaaGreatDoor
namespace KlsP
open Go.RowKit Base BinM Stru PoolM PoolA PoolJ InsJ Kls

theorem ret_i {a b : Int} (h : a = b) : Ending.returned (.int .i64 a) = .returned (.int .i64 b) := by rw [h]
/-- the first place at which it is so -/
def findP {α : Type} (p : α → Bool) : List α → Int
  | [] => -1
  | x :: r => if p x = true then 0 else if findP p r = -1 then -1 else findP p r + 1
theorem findP_none {α : Type} {p : α → Bool} : ∀ {l : List α}, (∀ x ∈ l, p x = false) → findP p l = -1
  | [], _ => rfl
  | x :: r, h => by
    unfold findP
    rw [if_neg (by rw [h x (by simp)]; simp), if_pos (findP_none (fun y hy => h y (by simp [hy])))]
theorem findP_at {α : Type} {p : α → Bool} : ∀ {l : List α} {j : Nat} (hj : j < l.length), (∀ x ∈ l.take j, p x = false) → p l[j] = true → findP p l = (j : Int)
  | [], _, hj, _, _ => by simp at hj
  | x :: r, 0, _, _, e => by
    have e : p x = true := e
    unfold findP
    rw [if_pos e]; rfl
  | x :: r, j + 1, hj, h, e => by
    have ih := findP_at (l := r) (j := j) (by simpa using hj) (fun y hy => h y (by simp [hy])) e
    unfold findP
    rw [if_neg (by rw [h x (by simp)]; simp), if_neg (by rw [ih]; omega), ih]
    omega
theorem none_next {α : Type} {p : α → Bool} {l : List α} {j : Nat} (hj : j < l.length) (h : ∀ x ∈ l.take j, p x = false) (h2 : p l[j] = false) : ∀ x ∈ l.take (j + 1), p x = false := by
  intro x hx
  rw [List.take_succ_eq_append_getElem hj, List.mem_append] at hx
  rcases hx with hx | hx
  · exact h x hx
  · simp at hx; subst hx; exact h2
def nameF (n : List UInt8) (x : FldT) : Bool := x.name == n
def nameM (n : List UInt8) (x : MthT) : Bool := x.name == n

/-- the first that is none, by its number -/
def firstI {α : Type} (f : Nat → α → Int) (l : List α) : Int :=
  match (List.range l.length).find? (fun i => (l[i]?).elim false (fun x => f i x != 0)) with
  | some i => (l[i]?).elim 0 (f i)
  | none => 0
theorem firstI_hit {α : Type} {f : Nat → α → Int} {l : List α} {j : Nat} (hj : j < l.length) (h : ∀ i (hi : i < l.length), i < j → f i l[i] = 0) (hne : f j l[j] ≠ 0) : firstI f l = f j l[j] := by
  unfold firstI
  rw [InsD.find_first l.length hj (fun i hi => by simp [List.getElem?_eq_getElem (show i < l.length by omega), h i (by omega) hi]) (by simpa [List.getElem?_eq_getElem hj] using hne)]
  simp [List.getElem?_eq_getElem hj]
theorem firstI_none {α : Type} {f : Nat → α → Int} {l : List α} (h : ∀ i (hi : i < l.length), f i l[i] = 0) : firstI f l = 0 := by
  unfold firstI
  have : (List.range l.length).find? (fun i => (l[i]?).elim false (fun x => f i x != 0)) = none := by
    rw [List.find?_eq_none]
    intro i hi
    have hi' : i < l.length := by simpa using hi
    simp [List.getElem?_eq_getElem hi', h i hi']
  rw [this]
theorem firstI_next {α : Type} {f : Nat → α → Int} {l : List α} {j : Nat} (h : ∀ i (hi : i < l.length), i < j → f i l[i] = 0) (hj : j < l.length) (h0 : f j l[j] = 0) : ∀ i (hi : i < l.length), i < j + 1 → f i l[i] = 0 := by
  intro i hi hij
  rcases Nat.lt_succ_iff_lt_or_eq.1 hij with h1 | h1
  · exact h i hi h1
  · subst h1; exact h0

set_option maxRecDepth 100000 in
theorem cloF_any (x : FldT) (q : List UInt8) (g : Nat) (w : World) (hg : w.cell? ⟨g, 0, none⟩ = some (.string ⟨q.toArray⟩)) :
    Calls Tryz.prog 172 #[x.V, .pointer (some ⟨g, 0, none⟩)] w fun e w' => e = .returned (.bool (nameF q x)) ∧ Below w.heap.size w w' := by
  obtain ⟨x0, x1⟩ := x
  unfold FldT.V nameF
  simp only
  have hb := (Below.refl w.heap.size w).alloc (Nat.le_refl _) (.cells #[.string ⟨x0.toArray⟩, .string ⟨x1.toArray⟩] 125)
  have HB := Lib.hid hb
  have hg' := (hb.cell (p := ⟨g, 0, none⟩) (World.block_lt_of_cell? w ⟨g, 0, none⟩ hg)).trans hg
  clear hb
  go_enter Tryz.func172, Tryz.ntmps172
  go_wp2_with fail
  go_ret
  exact ⟨rfl, HB.out⟩

set_option maxRecDepth 100000 in
set_option maxHeartbeats 2000000 in
theorem indexF_any (A : Option Addr) (l : List FldT) (m c : Nat) (q : List UInt8) (g : Nat) (w : World) (hg : w.cell? ⟨g, 0, none⟩ = some (.string ⟨q.toArray⟩)) (hm : m = l.length) (hmx : m ≤ maxLen) (hr : Rds w A (l.flatMap FldT.vals)) :
    Calls Tryz.prog 171 #[.slice A m c, .func (.func 172) #[] #[.pointer (some ⟨g, 0, none⟩)]] w fun e w' => e = .returned (.int .i64 (findP (nameF q) l)) ∧ Below w.heap.size w w' := by
  have eg : ∀ args w, (callFunc 172 args).run Tryz.prog w = .ok (.enter 172 args) w := enters_of Tryz.func172 (by kernel_rfl) rfl
  have hml : l.length ≤ m := Nat.le_of_eq hm.symm
  have hml2 : m ≤ l.length := Nat.le_of_eq hm
  have hgl := World.block_lt_of_cell? w ⟨g, 0, none⟩ hg
  have Hg := Lib.hid hg
  have Hr := Lib.hid hr
  unfold maxLen at hmx
  clear hg hr hm
  go_enter Tryz.func171, Tryz.ntmps171
  go_wp2_with fail
  go_loopw [5, 8] (fun _ i wr => ∃ j : Nat, j ≤ m ∧ i = .int .i64 j ∧ (∀ x ∈ l.take j, nameF q x = false) ∧ Below w.heap.size w wr) (fun _ i _ => m - (intOf i).toNat)
  case atStart => exact ⟨0, Nat.zero_le _, rfl, by simp, Below.refl _ _⟩
  case round =>
    obtain ⟨j, hj, rfl, hno, hbel⟩ := hrel
    have Hno := Lib.hid hno
    have Hbel := Lib.hid hbel
    have hsz := hbel.size
    clear hno
    by_cases hlt : j < m
    · have hja : j < l.length := by omega
      obtain ⟨b1, o1, rfl, hb1, hc0, hc1⟩ := fld_at (Hr.out.below hbel) hja
      have hj1 : (j : Int) < (m : Int) := by omega
      have hj0 : (0 : Int) ≤ (j : Int) := by omega
      have Hg1 := Lib.hid ((hbel.cell (p := ⟨g, 0, none⟩) hgl).trans Hg.out)
      have Hat := Lib.hid (fun he => findP_at hja Hno.out he)
      have Hnext := Lib.hid (fun he => none_next hja Hno.out he)
      clear hbel
      have hclo := fun W hg => cloF_any l[j] q g W hg
      generalize l[j] = x at *
      obtain ⟨x0, x1⟩ := x
      unfold FldT.V at hclo
      simp only at hc0 hc1 hclo
      generalize nameF q _ = D at *
      have Hclo := Lib.hid hclo
      clear hclo
      go_wp2_with fail
      refine Calls.mono (Hclo.out _ Hg1.out) ?_
      rintro e w3 ⟨rfl, hb3⟩
      have B3 := Lib.hid (Hbel.out.trans (hb3.mono hsz))
      clear hb3
      cases D
      · have Hq := Lib.hid (Hnext.out rfl)
        go_wp2_with fail
        go_roundw
        case rel => exact ⟨j + 1, by omega, by go_num, Hq.out, B3.out⟩
        case measure => simp [intOf]; omega
      · have Hq := Lib.hid (Hat.out rfl)
        go_wp2_with fail
        go_ret
        exact ⟨ret_i Hq.out.symm, B3.out⟩
    · have Hfin := Lib.hid (show findP (nameF q) l = -1 by
        have h := Hno.out
        rw [List.take_of_length_le (by omega)] at h
        exact findP_none h)
      go_wp2_with fail
      go_ret
      exact ⟨ret_i Hfin.out.symm, hbel⟩

set_option maxRecDepth 100000 in
set_option maxHeartbeats 1000000 in
theorem atF_any (x : ClsT) (q : List UInt8) (w : World) (hx : x.is w) :
    Calls Tryz.prog 134 #[x.V, .string ⟨q.toArray⟩] w fun e w' => e = .returned (.int .i64 (findP (nameF q) x.fields)) ∧ Below w.heap.size w w' := by
  have H := Lib.hid (show IsFlds w x.fA x.fm x.fc x.fields from hx.fields)
  clear hx
  obtain ⟨n, s, kA, km, kc, fA, fm, fc, mA, mm, mc, ks, fs, ms⟩ := x
  simp only [ClsT.V] at H ⊢
  have hb := ((Below.refl w.heap.size w).alloc (Nat.le_refl _) (.cells #[.string ⟨n.toArray⟩, .string ⟨s.toArray⟩, .slice kA km kc, .slice fA fm fc, .slice mA mm mc] 81)).alloc (by simp) (.cells #[.string ⟨q.toArray⟩] 9)
  have HB := Lib.hid hb
  clear hb
  go_enter Tryz.func134, Tryz.ntmps134
  go_wp2_with fail
  refine Calls.mono (indexF_any _ _ _ _ q _ _ ?hcell H.out.len (Nat.le_trans H.out.le H.out.max) (H.out.below HB.out).rds) ?_
  case hcell => simp
  rintro e w3 ⟨rfl, hb3⟩
  have B3 := Lib.hid (HB.out.trans (hb3.mono HB.out.size))
  clear hb3
  go_wp2_with fail
  go_ret
  exact ⟨rfl, B3.out⟩

set_option maxRecDepth 100000 in
set_option maxHeartbeats 1000000 in
theorem refAtF_any (x : ClsT) (q : List UInt8) (w : World) (hx : x.is w) :
    Calls Tryz.prog 95 #[x.V, .string ⟨q.toArray⟩] w fun e w' => e = .returned (.int .i64 (findP (nameF q) x.fields)) ∧ Below w.heap.size w w' := by
  have H := Lib.hid (show IsFlds w x.fA x.fm x.fc x.fields from hx.fields)
  have hml : x.fields.length ≤ x.fm := Nat.le_of_eq hx.fields.len.symm
  have hml2 : x.fm ≤ x.fields.length := Nat.le_of_eq hx.fields.len
  have hmx : x.fm ≤ maxLen := Nat.le_trans hx.fields.le hx.fields.max
  unfold maxLen at hmx
  clear hx
  have hbx := Box5.new w (.string ⟨x.name.toArray⟩) (.string ⟨x.sup.toArray⟩) (.slice x.kA x.km x.kc) (.slice x.fA x.fm x.fc) (.slice x.mA x.mm x.mc) 81
  have HB := Lib.hid ((Below.refl w.heap.size w).alloc (Nat.le_refl _) (.cells #[.string ⟨x.name.toArray⟩, .string ⟨x.sup.toArray⟩, .slice x.kA x.km x.kc, .slice x.fA x.fm x.fc, .slice x.mA x.mm x.mc] 81))
  obtain ⟨n, s, kA, km, kc, fA, fm, fc, mA, mm, mc, ks, fs, ms⟩ := x
  simp only [ClsT.V] at *
  obtain ⟨g0, g1, g2, g3, g4⟩ := hbx
  go_enter Tryz.func95, Tryz.ntmps95
  go_wp2_with fail
  go_loop [5] (fun i => ∃ j : Nat, j ≤ fm ∧ i = .int .i64 j ∧ Hid (∀ x ∈ fs.take j, nameF q x = false)) (fun i => fm - (intOf i).toNat)
  case atStart => exact ⟨0, Nat.zero_le _, rfl, Lib.hid (by simp)⟩
  case round =>
    obtain ⟨j, hj, rfl, Hno⟩ := hrel
    by_cases hlt : j < fm
    · have hja : j < fs.length := by omega
      obtain ⟨b1, o1, rfl, hb1, hc0, hc1⟩ := fld_at (H.out.below HB.out).rds hja
      have hj1 : (j : Int) < (fm : Int) := by omega
      have hj0 : (0 : Int) ≤ (j : Int) := by omega
      cases hD : ((fs[j]).name == q)
      · have Hq := Lib.hid (none_next hja Hno.out hD)
        go_wp2_with fail
        go_round
        case rel => exact ⟨j + 1, by omega, by go_num, Hq⟩
        case measure => simp [intOf]; omega
      · have Hq := Lib.hid (findP_at (p := nameF q) hja Hno.out hD)
        go_wp2_with fail
        go_ret
        exact ⟨ret_i Hq.out.symm, HB.out⟩
    · have Hfin := Lib.hid (show findP (nameF q) fs = -1 by
        have h := Hno.out
        rw [List.take_of_length_le (by omega)] at h
        exact findP_none h)
      go_wp2_with fail
      go_ret
      exact ⟨ret_i Hfin.out.symm, HB.out⟩

set_option maxRecDepth 100000 in
theorem cloM_any (x : MthT) (q : List UInt8) (g : Nat) (w : World) (hg : w.cell? ⟨g, 0, none⟩ = some (.string ⟨q.toArray⟩)) :
    Calls Tryz.prog 174 #[x.V, .pointer (some ⟨g, 0, none⟩)] w fun e w' => e = .returned (.bool (nameM q x)) ∧ Below w.heap.size w w' := by
  obtain ⟨x0, x1, x2, x3, x4, x5, x6, x7, x8, x9, x10⟩ := x
  unfold MthT.V nameM
  simp only
  have hb := (Below.refl w.heap.size w).alloc (Nat.le_refl _) (.cells #[.string ⟨x0.toArray⟩, .string ⟨x1.toArray⟩, .int .i64 x2, .slice x3 x4 x5, .slice x6 x7 x8] 85)
  have HB := Lib.hid hb
  have hg' := (hb.cell (p := ⟨g, 0, none⟩) (World.block_lt_of_cell? w ⟨g, 0, none⟩ hg)).trans hg
  clear hb
  go_enter Tryz.func174, Tryz.ntmps174
  go_wp2_with fail
  go_ret
  exact ⟨rfl, HB.out⟩

set_option maxRecDepth 100000 in
set_option maxHeartbeats 2000000 in
theorem indexM_any (A : Option Addr) (l : List MthT) (m c : Nat) (q : List UInt8) (g : Nat) (w : World) (hg : w.cell? ⟨g, 0, none⟩ = some (.string ⟨q.toArray⟩)) (hm : m = l.length) (hmx : m ≤ maxLen) (hr : Rds w A (l.flatMap MthT.vals)) :
    Calls Tryz.prog 173 #[.slice A m c, .func (.func 174) #[] #[.pointer (some ⟨g, 0, none⟩)]] w fun e w' => e = .returned (.int .i64 (findP (nameM q) l)) ∧ Below w.heap.size w w' := by
  have eg : ∀ args w, (callFunc 174 args).run Tryz.prog w = .ok (.enter 174 args) w := enters_of Tryz.func174 (by kernel_rfl) rfl
  have hml : l.length ≤ m := Nat.le_of_eq hm.symm
  have hml2 : m ≤ l.length := Nat.le_of_eq hm
  have hgl := World.block_lt_of_cell? w ⟨g, 0, none⟩ hg
  have Hg := Lib.hid hg
  have Hr := Lib.hid hr
  unfold maxLen at hmx
  clear hg hr hm
  go_enter Tryz.func173, Tryz.ntmps173
  go_wp2_with fail
  go_loopw [5, 8] (fun _ i wr => ∃ j : Nat, j ≤ m ∧ i = .int .i64 j ∧ (∀ x ∈ l.take j, nameM q x = false) ∧ Below w.heap.size w wr) (fun _ i _ => m - (intOf i).toNat)
  case atStart => exact ⟨0, Nat.zero_le _, rfl, by simp, Below.refl _ _⟩
  case round =>
    obtain ⟨j, hj, rfl, hno, hbel⟩ := hrel
    have Hno := Lib.hid hno
    have Hbel := Lib.hid hbel
    have hsz := hbel.size
    clear hno
    by_cases hlt : j < m
    · have hja : j < l.length := by omega
      obtain ⟨b1, o1, rfl, hb1, hc0, hc1, hc2, hc3, hc4⟩ := mth_at (Hr.out.below hbel) hja
      have hj1 : (j : Int) < (m : Int) := by omega
      have hj0 : (0 : Int) ≤ (j : Int) := by omega
      have Hg1 := Lib.hid ((hbel.cell (p := ⟨g, 0, none⟩) hgl).trans Hg.out)
      have Hat := Lib.hid (fun he => findP_at hja Hno.out he)
      have Hnext := Lib.hid (fun he => none_next hja Hno.out he)
      clear hbel
      have hclo := fun W hg => cloM_any l[j] q g W hg
      generalize l[j] = x at *
      obtain ⟨x0, x1, x2, x3, x4, x5, x6, x7, x8, x9, x10⟩ := x
      unfold MthT.V at hclo
      simp only at hc0 hc1 hc2 hc3 hc4 hclo
      generalize nameM q _ = D at *
      have Hclo := Lib.hid hclo
      clear hclo
      go_wp2_with fail
      refine Calls.mono (Hclo.out _ Hg1.out) ?_
      rintro e w3 ⟨rfl, hb3⟩
      have B3 := Lib.hid (Hbel.out.trans (hb3.mono hsz))
      clear hb3
      cases D
      · have Hq := Lib.hid (Hnext.out rfl)
        go_wp2_with fail
        go_roundw
        case rel => exact ⟨j + 1, by omega, by go_num, Hq.out, B3.out⟩
        case measure => simp [intOf]; omega
      · have Hq := Lib.hid (Hat.out rfl)
        go_wp2_with fail
        go_ret
        exact ⟨ret_i Hq.out.symm, B3.out⟩
    · have Hfin := Lib.hid (show findP (nameM q) l = -1 by
        have h := Hno.out
        rw [List.take_of_length_le (by omega)] at h
        exact findP_none h)
      go_wp2_with fail
      go_ret
      exact ⟨ret_i Hfin.out.symm, hbel⟩

set_option maxRecDepth 100000 in
set_option maxHeartbeats 1000000 in
theorem atM_any (x : ClsT) (q : List UInt8) (w : World) (hx : x.is w) :
    Calls Tryz.prog 135 #[x.V, .string ⟨q.toArray⟩] w fun e w' => e = .returned (.int .i64 (findP (nameM q) x.meths)) ∧ Below w.heap.size w w' := by
  have H := Lib.hid (show IsMths w x.mA x.mm x.mc x.meths from hx.meths)
  clear hx
  obtain ⟨n, s, kA, km, kc, fA, fm, fc, mA, mm, mc, ks, fs, ms⟩ := x
  simp only [ClsT.V] at H ⊢
  have hb := ((Below.refl w.heap.size w).alloc (Nat.le_refl _) (.cells #[.string ⟨n.toArray⟩, .string ⟨s.toArray⟩, .slice kA km kc, .slice fA fm fc, .slice mA mm mc] 81)).alloc (by simp) (.cells #[.string ⟨q.toArray⟩] 9)
  have HB := Lib.hid hb
  clear hb
  go_enter Tryz.func135, Tryz.ntmps135
  go_wp2_with fail
  refine Calls.mono (indexM_any _ _ _ _ q _ _ ?hcell H.out.len (Nat.le_trans H.out.le H.out.max) (H.out.below HB.out).rds) ?_
  case hcell => simp
  rintro e w3 ⟨rfl, hb3⟩
  have B3 := Lib.hid (HB.out.trans (hb3.mono HB.out.size))
  clear hb3
  go_wp2_with fail
  go_ret
  exact ⟨rfl, B3.out⟩

set_option maxRecDepth 100000 in
set_option maxHeartbeats 1000000 in
theorem refAtM_any (x : ClsT) (q : List UInt8) (w : World) (hx : x.is w) :
    Calls Tryz.prog 145 #[x.V, .string ⟨q.toArray⟩] w fun e w' => e = .returned (.int .i64 (findP (nameM q) x.meths)) ∧ Below w.heap.size w w' := by
  have H := Lib.hid (show IsMths w x.mA x.mm x.mc x.meths from hx.meths)
  have hml : x.meths.length ≤ x.mm := Nat.le_of_eq hx.meths.len.symm
  have hml2 : x.mm ≤ x.meths.length := Nat.le_of_eq hx.meths.len
  have hmx : x.mm ≤ maxLen := Nat.le_trans hx.meths.le hx.meths.max
  unfold maxLen at hmx
  clear hx
  have hbx := Box5.new w (.string ⟨x.name.toArray⟩) (.string ⟨x.sup.toArray⟩) (.slice x.kA x.km x.kc) (.slice x.fA x.fm x.fc) (.slice x.mA x.mm x.mc) 81
  have HB := Lib.hid ((Below.refl w.heap.size w).alloc (Nat.le_refl _) (.cells #[.string ⟨x.name.toArray⟩, .string ⟨x.sup.toArray⟩, .slice x.kA x.km x.kc, .slice x.fA x.fm x.fc, .slice x.mA x.mm x.mc] 81))
  obtain ⟨n, s, kA, km, kc, fA, fm, fc, mA, mm, mc, ks, fs, ms⟩ := x
  simp only [ClsT.V] at *
  obtain ⟨g0, g1, g2, g3, g4⟩ := hbx
  go_enter Tryz.func145, Tryz.ntmps145
  go_wp2_with fail
  go_loop [5] (fun i => ∃ j : Nat, j ≤ mm ∧ i = .int .i64 j ∧ Hid (∀ x ∈ ms.take j, nameM q x = false)) (fun i => mm - (intOf i).toNat)
  case atStart => exact ⟨0, Nat.zero_le _, rfl, Lib.hid (by simp)⟩
  case round =>
    obtain ⟨j, hj, rfl, Hno⟩ := hrel
    by_cases hlt : j < mm
    · have hja : j < ms.length := by omega
      obtain ⟨b1, o1, rfl, hb1, hc0, hc1, hc2, hc3, hc4⟩ := mth_at (H.out.below HB.out).rds hja
      have hj1 : (j : Int) < (mm : Int) := by omega
      have hj0 : (0 : Int) ≤ (j : Int) := by omega
      cases hD : ((ms[j]).name == q)
      · have Hq := Lib.hid (none_next hja Hno.out hD)
        go_wp2_with fail
        go_round
        case rel => exact ⟨j + 1, by omega, by go_num, Hq⟩
        case measure => simp [intOf]; omega
      · have Hq := Lib.hid (findP_at (p := nameM q) hja Hno.out hD)
        go_wp2_with fail
        go_ret
        exact ⟨ret_i Hq.out.symm, HB.out⟩
    · have Hfin := Lib.hid (show findP (nameM q) ms = -1 by
        have h := Hno.out
        rw [List.take_of_length_le (by omega)] at h
        exact findP_none h)
      go_wp2_with fail
      go_ret
      exact ⟨ret_i Hfin.out.symm, HB.out⟩

end KlsP
end Go.Proofs.YtehainbhoflpnaaGreatDoor

namespace Go.Proofs.YtehainbhoflpnaaGreatDoor
namespace KlsQ
open Go.RowKit Base BinM DescM DescW DescX DescR DescP DescQ Stru PoolM InsM InsA InsC InsD Kls KlsP OpenK

theorem nm_any (l : List UInt8) (W : World) (h : l.length ≤ 140737488351232) : Calls Tryz.prog 76 #[.string ⟨l.toArray⟩] W fun e w' => e = .returned (.bool (nameB l)) ∧ W = w' :=
  BinName.name_any ⟨l.toArray⟩ W (by simp [maxLen, ByteArray.size]; omega)
theorem refNm_any (l : List UInt8) (W : World) (h : l.length ≤ 140737488351232) : Calls Tryz.prog 93 #[.string ⟨l.toArray⟩] W fun e w' => e = .returned (.bool (nameB l)) ∧ W = w' :=
  BinName.refName_any ⟨l.toArray⟩ W (by simp [maxLen, ByteArray.size]; omega)
theorem split_err (s : List UInt8) : (splitT s).2.2 = 0 ∨ (splitT s).2.2 = 5 := by
  unfold splitT
  split
  · split
    · split <;> simp
    · simp
  · simp

/-- why a field can not be -/
def fldE (fs : List FldT) (i : Nat) (f : FldT) : Int := if nameB f.name = false then 7 else if rightB f.desc = false then 10 else if findP (nameF f.name) fs < (i : Int) then 8 else 0
def fldsE (fs : List FldT) : Int := if 16 < fs.length then 6 else firstI (fldE fs) fs
/-- why a handler can not be -/
def outH (n : Int) (h : HndT) : Bool := decide (h.frm < 0) || decide (h.til ≤ h.frm) || decide (n < h.til) || decide (h.pos < 0) || decide (n ≤ h.pos)
theorem out_cases (n a b c : Int) (s : List UInt8) :
    (decide (a < 0) = true ∧ outH n ⟨a, b, c, s⟩ = true) ∨ (decide (a < 0) = false ∧ decide (b ≤ a) = true ∧ outH n ⟨a, b, c, s⟩ = true) ∨ (decide (a < 0) = false ∧ decide (b ≤ a) = false ∧ decide (n < b) = true ∧ outH n ⟨a, b, c, s⟩ = true) ∨
    (decide (a < 0) = false ∧ decide (b ≤ a) = false ∧ decide (n < b) = false ∧ decide (c < 0) = true ∧ outH n ⟨a, b, c, s⟩ = true) ∨ (decide (a < 0) = false ∧ decide (b ≤ a) = false ∧ decide (n < b) = false ∧ decide (c < 0) = false ∧ decide (n ≤ c) = true ∧ outH n ⟨a, b, c, s⟩ = true) ∨
    (decide (a < 0) = false ∧ decide (b ≤ a) = false ∧ decide (n < b) = false ∧ decide (c < 0) = false ∧ decide (n ≤ c) = false ∧ outH n ⟨a, b, c, s⟩ = false) := by
  unfold outH
  simp only
  cases decide (a < 0) <;> cases decide (b ≤ a) <;> cases decide (n < b) <;> cases decide (c < 0) <;> cases decide (n ≤ c) <;> simp
def hndE (n : Int) (_ : Nat) (h : HndT) : Int := if outH n h = true then 3 else if nameB h.cls = false then 7 else 0
def hndsE (n : Int) (l : List HndT) : Int := if 8 < l.length then 6 else firstI (hndE n) l
def oldP (x : InsT) : Bool := x.1 == 45
/-- why a method's code and handlers can not be -/
def codeE (cd : List InsT) (hd : List HndT) (lo : Int) (ks : List Cst) : Int :=
  if (checkI cd ks lo).2 ≠ 0 then (checkI cd ks lo).2 else if 0 ≤ findP oldP cd then 12 else hndsE (cd.length : Int) hd
/-- why a method can not be -/
def mthE (ms : List MthT) (ks : List Cst) (i : Nat) (m : MthT) : Int :=
  if nameB m.name = false then 7 else if (splitT m.sig).2.2 ≠ 0 then 5 else if findP (nameM m.name) ms < (i : Int) then 8 else if m.locals > 24 ∨ m.locals < 1 + ((splitT m.sig).2.1.length : Int) then 2 else codeE m.code m.hand m.locals ks
def mthsE (ms : List MthT) (ks : List Cst) : Int := if 32 < ms.length then 6 else firstI (mthE ms ks) ms
/-- why a class can not be -/
def clsE (x : ClsT) : Int :=
  if nameB x.name = false ∨ nameB x.sup = false then 7 else if (PutN.allC [] x.consts).2 ≠ 0 then (PutN.allC [] x.consts).2 else if fldsE x.fields ≠ 0 then fldsE x.fields else mthsE x.meths x.consts

theorem fld_name {fs : List FldT} {i : Nat} {f : FldT} (h : nameB f.name = false) : fldE fs i f = 7 := by unfold fldE; rw [if_pos h]
theorem fld_desc {fs : List FldT} {i : Nat} {f : FldT} (h : nameB f.name = true) (h2 : rightB f.desc = false) : fldE fs i f = 10 := by unfold fldE; rw [if_neg (by rw [h]; simp), if_pos h2]
theorem fld_twice {fs : List FldT} {i : Nat} {f : FldT} (h : nameB f.name = true) (h2 : rightB f.desc = true) (h3 : findP (nameF f.name) fs < (i : Int)) : fldE fs i f = 8 := by unfold fldE; rw [if_neg (by rw [h]; simp), if_neg (by rw [h2]; simp), if_pos h3]
theorem fld_ok {fs : List FldT} {i : Nat} {f : FldT} (h : nameB f.name = true) (h2 : rightB f.desc = true) (h3 : ¬ findP (nameF f.name) fs < (i : Int)) : fldE fs i f = 0 := by unfold fldE; rw [if_neg (by rw [h]; simp), if_neg (by rw [h2]; simp), if_neg h3]

theorem hnd_out {n : Int} {i : Nat} {h : HndT} (e : outH n h = true) : hndE n i h = 3 := by unfold hndE; rw [if_pos e]
theorem hnd_name {n : Int} {i : Nat} {h : HndT} (e : outH n h = false) (e2 : nameB h.cls = false) : hndE n i h = 7 := by unfold hndE; rw [if_neg (by rw [e]; simp), if_pos e2]
theorem hnd_ok {n : Int} {i : Nat} {h : HndT} (e : outH n h = false) (e2 : nameB h.cls = true) : hndE n i h = 0 := by unfold hndE; rw [if_neg (by rw [e]; simp), if_neg (by rw [e2]; simp)]

set_option maxRecDepth 100000 in
set_option maxHeartbeats 4000000 in
theorem fields_any (x : ClsT) (w : World) (hx : x.is w) (hl : ClsT.lt x) :
    Calls Tryz.prog 78 #[x.V] w fun e w' => e = .returned (.int .i64 (fldsE x.fields)) ∧ Below w.heap.size w w' := by
  have hat := fun (q : List UInt8) (W : World) (hb : Below w.heap.size w W) => atF_any x q W (hx.below hb)
  have H := Lib.hid (show IsFlds w x.fA x.fm x.fc x.fields from hx.fields)
  have hml : x.fields.length ≤ x.fm := Nat.le_of_eq hx.fields.len.symm
  have hml2 : x.fm ≤ x.fields.length := Nat.le_of_eq hx.fields.len
  have hmx : x.fm ≤ maxLen := Nat.le_trans hx.fields.le hx.fields.max
  have HL := Lib.hid hl.fields
  unfold maxLen at hmx
  clear hx hl
  have HB := Lib.hid ((Below.refl w.heap.size w).alloc (Nat.le_refl _) (.cells #[.string ⟨x.name.toArray⟩, .string ⟨x.sup.toArray⟩, .slice x.kA x.km x.kc, .slice x.fA x.fm x.fc, .slice x.mA x.mm x.mc] 81))
  have E1 := Lib.hid (Box5.new w (.string ⟨x.name.toArray⟩) (.string ⟨x.sup.toArray⟩) (.slice x.kA x.km x.kc) (.slice x.fA x.fm x.fc) (.slice x.mA x.mm x.mc) 81)
  obtain ⟨n, s, kA, km, kc, fA, fm, fc, mA, mm, mc, ks, fs, ms⟩ := x
  simp only [ClsT.V] at *
  have Hat := Lib.hid hat
  clear hat
  by_cases hs : 16 < fm
  · have HH := Lib.hid (show fldsE fs = 6 by unfold fldsE; rw [if_pos (by omega)])
    go_enter Tryz.func78, Tryz.ntmps78
    go_wp2_with fail
    go_ret
    exact ⟨ret_i HH.out.symm, HB.out⟩
  · have HH := Lib.hid (show fldsE fs = firstI (fldE fs) fs by unfold fldsE; rw [if_neg (by omega)])
    obtain ⟨g0, g1, g2, g3, g4⟩ := E1.out
    go_enter Tryz.func78, Tryz.ntmps78
    go_wp2_with fail
    clear g0 g1 g2 g3 g4
    go_loopw [3, 4, 12] (fun _ _ i wr => ∃ j : Nat, j ≤ fm ∧ i = .int .i64 j ∧ (∀ k (hk : k < fs.length), k < j → fldE fs k fs[k] = 0) ∧ Box5 wr w.heap.size (.string ⟨n.toArray⟩) (.string ⟨s.toArray⟩) (.slice kA km kc) (.slice fA fm fc) (.slice mA mm mc) ∧ Below w.heap.size w wr) (fun _ _ i _ => fm - (intOf i).toNat)
    case atStart => exact ⟨0, Nat.zero_le _, rfl, by intro k _ h; omega, E1.out, HB.out⟩
    case round =>
      obtain ⟨j, hj, rfl, hall, hbox, hbel⟩ := hrel
      have Hall := Lib.hid hall
      have Hbox := Lib.hid hbox
      have Hbel := Lib.hid hbel
      have hsz := hbel.size
      clear hall hbox
      by_cases hlt : j < fm
      · have hja : j < fs.length := by omega
        obtain ⟨b1, o1, rfl, hb1, hc0, hc1⟩ := fld_at (H.out.rds.below hbel) hja
        have hj1 : (j : Int) < (fm : Int) := by omega
        have hj0 : (0 : Int) ≤ (j : Int) := by omega
        have Hlx := Lib.hid (HL.out _ (List.getElem_mem hja))
        have Hhit := Lib.hid (fun hne => firstI_hit hja Hall.out hne)
        have Hnext := Lib.hid (fun h0 => firstI_next Hall.out hja h0)
        have Ha := Lib.hid (fun (h : nameB (fs[j]'hja).name = false) => fld_name (fs := fs) (i := j) (f := fs[j]'hja) h)
        have Hb := Lib.hid (fun (h : nameB (fs[j]'hja).name = true) h2 => fld_desc (fs := fs) (i := j) (f := fs[j]'hja) h h2)
        have Hc := Lib.hid (fun (h : nameB (fs[j]'hja).name = true) h2 h3 => fld_twice (fs := fs) (i := j) (f := fs[j]'hja) h h2 h3)
        have Hd := Lib.hid (fun (h : nameB (fs[j]'hja).name = true) h2 h3 => fld_ok (fs := fs) (i := j) (f := fs[j]'hja) h h2 h3)
        clear hbel
        generalize fs[j] = x at *
        generalize fldE fs j x = E at *
        obtain ⟨x0, x1⟩ := x
        simp only at hc0 hc1
        have hl3 : x0.length ≤ 140737488351232 ∧ x1.length ≤ 140737488351232 := Hlx.out
        have HA := Lib.hid ((Below.refl wr.heap.size wr).alloc (Nat.le_refl _) (.cells #[.string ⟨x0.toArray⟩, .string ⟨x1.toArray⟩] 125))
        have HW := Lib.hid (Hbel.out.trans (HA.out.mono hsz))
        go_wp2_with fail
        refine Calls.mono (nm_any x0 _ (by omega)) ?_
        rintro e w3 ⟨rfl, rfl⟩
        cases hN : nameB x0
        · have Hq := Lib.hid (Ha.out hN)
          have Hf := Lib.hid (Hhit.out (by rw [Hq.out]; decide))
          clear hN
          go_wp2_with fail
          go_ret
          exact ⟨ret_i (by rw [HH.out, Hf.out, Hq.out]), HW.out⟩
        · have HN := Lib.hid hN
          clear hN
          go_wp2_with fail
          refine Calls.mono (DescW.right_any x1 _ (by omega)) ?_
          rintro e w3 ⟨rfl, rfl⟩
          cases hR : rightB x1
          · have Hq := Lib.hid (Hb.out HN.out hR)
            have Hf := Lib.hid (Hhit.out (by rw [Hq.out]; decide))
            clear hR
            go_wp2_with fail
            go_ret
            exact ⟨ret_i (by rw [HH.out, Hf.out, Hq.out]), HW.out⟩
          · have HR := Lib.hid hR
            clear hR
            have HP := Lib.hid (Hbox.out.after HA.out)
            obtain ⟨g0, g1, g2, g3, g4⟩ := HP.out
            go_wp2_with fail
            refine Calls.mono (Hat.out x0 _ HW.out) ?_
            rintro e w3 ⟨rfl, hb3⟩
            have B3 := Lib.hid (HW.out.trans (hb3.mono HW.out.size))
            have P3 := Lib.hid (HP.out.after hb3)
            clear hb3 g0 g1 g2 g3 g4
            have Hc2 := Lib.hid (fun h3 => Hc.out HN.out HR.out h3)
            have Hd2 := Lib.hid (fun h3 => Hd.out HN.out HR.out h3)
            generalize findP (nameF x0) fs = F at *
            by_cases hF : F < (j : Int)
            · have Hq := Lib.hid (Hc2.out (by omega))
              have Hf := Lib.hid (Hhit.out (by rw [Hq.out]; decide))
              go_wp2_with fail
              go_ret
              exact ⟨ret_i (by rw [HH.out, Hf.out, Hq.out]), B3.out⟩
            · have Hq := Lib.hid (Hd2.out (by omega))
              have Hf := Lib.hid (Hnext.out Hq.out)
              have hF2 : decide (F < (j : Int)) = false := decide_eq_false hF
              go_wp2_with fail
              go_roundw
              case rel => exact ⟨j + 1, by omega, by go_num, Hf.out, P3.out, B3.out⟩
              case measure => simp [intOf]; omega
      · have Hfin := Lib.hid (show firstI (fldE fs) fs = 0 from firstI_none (fun i hi => Hall.out i hi (by omega)))
        go_wp2_with fail
        go_ret
        exact ⟨ret_i (by rw [HH.out, Hfin.out]), hbel⟩

end KlsQ
end Go.Proofs.YtehainbhoflpnaaGreatDoor
