/- pieces -/
import Derived.Test.YtmkdhdmkdcankaaGreatDoorK18
import Derived.Test.YtmkdhdmkdcankaaGreatDoorK17
namespace Go.Proofs.YtmkdhdmkdcankaaGreatDoor
set_option maxRecDepth 100000
set_option maxHeartbeats 4000000
namespace KlsP
open Go.RowKit Base BinM Stru PoolM PoolA PoolJ InsJ Kls
theorem zx {a b : Int} (h : a = b) : Ending.returned (.int .i64 a) = .returned (.int .i64 b) := by rw [h]
def zw {α : Type} (p : α → Bool) : List α → Int
 | [] => -1
 | x :: r => if p x = true then 0 else if zw p r = -1 then -1 else zw p r + 1
theorem qI {α : Type} {p : α → Bool} : ∀ {l : List α}, (∀ x ∈ l, p x = false) → zw p l = -1
 | [], _ => rfl
 | x :: r, h => by
   unfold zw
   rw [if_neg (by rw [h x (by simp)]; simp), if_pos (qI (fun y hy => h y (by simp [hy])))]
theorem QF {α : Type} {p : α → Bool} : ∀ {l : List α} {j : Nat} (hj : j < l.length), (∀ x ∈ l.take j, p x = false) → p l[j] = true → zw p l = (j : Int)
 | [], _, hj, _, _ => by simp at hj
 | x :: r, 0, _, _, e => by
   have e : p x = true := e
   unfold zw
   rw [if_pos e]; rfl
 | x :: r, j + 1, hj, h, e => by
   have ih := QF (l := r) (j := j) (by simpa using hj) (fun y hy => h y (by simp [hy])) e
   unfold zw
   rw [if_neg (by rw [h x (by simp)]; simp), if_neg (by rw [ih]; omega), ih]
   omega
theorem ZR {α : Type} {p : α → Bool} {l : List α} {j : Nat} (hj : j < l.length) (h : ∀ x ∈ l.take j, p x = false) (h2 : p l[j] = false) : ∀ x ∈ l.take (j + 1), p x = false := by
 intro x hx
 rw [List.take_succ_eq_append_getElem hj, List.mem_append] at hx
 rcases hx with hx | hx
 · exact h x hx
 · simp at hx; subst hx; exact h2
def qA (n : List UInt8) (x : zU) : Bool := x.name == n
def QE (n : List UInt8) (x : zF) : Bool := x.name == n
def zW {α : Type} (f : Nat → α → Int) (l : List α) : Int :=
 match (List.range l.length).find? (fun i => (l[i]?).elim false (fun x => f i x != 0)) with
 | some i => (l[i]?).elim 0 (f i)
 | none => 0
theorem ZM {α : Type} {f : Nat → α → Int} {l : List α} {j : Nat} (hj : j < l.length) (h : ∀ i (hi : i < l.length), i < j → f i l[i] = 0) (hne : f j l[j] ≠ 0) : zW f l = f j l[j] := by
 unfold zW
 rw [InsD.Ua l.length hj (fun i hi => by simp [List.getElem?_eq_getElem (show i < l.length by omega), h i (by omega) hi]) (by simpa [List.getElem?_eq_getElem hj] using hne)]
 simp [List.getElem?_eq_getElem hj]
theorem Zv {α : Type} {f : Nat → α → Int} {l : List α} (h : ∀ i (hi : i < l.length), f i l[i] = 0) : zW f l = 0 := by
 unfold zW
 have : (List.range l.length).find? (fun i => (l[i]?).elim false (fun x => f i x != 0)) = none := by
  rw [List.find?_eq_none]
  intro i hi
  have hi' : i < l.length := by simpa using hi
  simp [List.getElem?_eq_getElem hi', h i hi']
 rw [this]
theorem Zw {α : Type} {f : Nat → α → Int} {l : List α} {j : Nat} (h : ∀ i (hi : i < l.length), i < j → f i l[i] = 0) (hj : j < l.length) (h0 : f j l[j] = 0) : ∀ i (hi : i < l.length), i < j + 1 → f i l[i] = 0 := by
 intro i hi hij
 rcases Nat.lt_succ_iff_lt_or_eq.1 hij with h1 | h1
 · exact h i hi h1
 · subst h1; exact h0
theorem Uh (x : zU) (q : List UInt8) (g : Nat) (w : World) (hg : w.cell? ⟨g, 0, none⟩ = some (.string ⟨q.toArray⟩)) :
 Calls Tryz.prog 183 #[x.V, .pointer (some ⟨g, 0, none⟩)] w fun e w' => e = .returned (.bool (qA q x)) ∧ Below w.heap.size w w' := by
 obtain ⟨x0, x1⟩ := x
 unfold zU.V qA
 simp only
 have hb := (Below.refl w.heap.size w).alloc (Nat.le_refl _) (.cells #[.string ⟨x0.toArray⟩, .string ⟨x1.toArray⟩] 141)
 have HB := zH hb
 have hg' := (hb.cell (p := ⟨g, 0, none⟩) (World.block_lt_of_cell? w ⟨g, 0, none⟩ hg)).trans hg
 clear hb
 go_enter Tryz.func183, Tryz.ntmps183
 go_wp2_with fail
 go_ret
 exact ⟨rfl, HB.out⟩
theorem Ye (A : Option Addr) (l : List zU) (m c : Nat) (q : List UInt8) (g : Nat) (w : World) (hg : w.cell? ⟨g, 0, none⟩ = some (.string ⟨q.toArray⟩)) (hm : m = l.length) (hmx : m ≤ maxLen) (hr : Rds w A (l.flatMap zU.vals)) :
 Calls Tryz.prog 182 #[.slice A m c, .func (.func 183) #[] #[.pointer (some ⟨g, 0, none⟩)]] w fun e w' => e = .returned (.int .i64 (zw (qA q) l)) ∧ Below w.heap.size w w' := by
 have eg : ∀ args w, (callFunc 183 args).run Tryz.prog w = .ok (.enter 183 args) w := enters_of Tryz.func183 (by kernel_rfl) rfl
 have hml : l.length ≤ m := Nat.le_of_eq hm.symm
 have hml2 : m ≤ l.length := Nat.le_of_eq hm
 have hgl := World.block_lt_of_cell? w ⟨g, 0, none⟩ hg
 have Hg := zH hg
 have Hr := zH hr
 unfold maxLen at hmx
 clear hg hr hm
 go_enter Tryz.func182, Tryz.ntmps182
 go_wp2_with fail
 go_loopw [5, 8] (fun _ i wr => ∃ j : Nat, j ≤ m ∧ i = .int .i64 j ∧ (∀ x ∈ l.take j, qA q x = false) ∧ Below w.heap.size w wr) (fun _ i _ => m - (intOf i).toNat)
 case atStart => exact ⟨0, Nat.zero_le _, rfl, by simp, Below.refl _ _⟩
 case round =>
  obtain ⟨j, hj, rfl, hno, hbel⟩ := hrel
  have Hno := zH hno
  have Hbel := zH hbel
  have hsz := hbel.size
  clear hno
  by_cases hlt : j < m
  · have hja : j < l.length := by omega
    obtain ⟨b1, o1, rfl, hb1, hc0, hc1⟩ := jr (Hr.out.below hbel) hja
    have hj1 : (j : Int) < (m : Int) := by omega
    have hj0 : (0 : Int) ≤ (j : Int) := by omega
    have Hg1 := zH ((hbel.cell (p := ⟨g, 0, none⟩) hgl).trans Hg.out)
    have Hat := zH (fun he => QF hja Hno.out he)
    have Hnext := zH (fun he => ZR hja Hno.out he)
    clear hbel
    have hclo := fun W hg => Uh l[j] q g W hg
    generalize l[j] = x at *
    obtain ⟨x0, x1⟩ := x
    unfold zU.V at hclo
    simp only at hc0 hc1 hclo
    generalize qA q _ = D at *
    have Hclo := zH hclo
    clear hclo
    go_wp2_with fail
    refine Calls.mono (Hclo.out _ Hg1.out) ?_
    rintro e w3 ⟨rfl, hb3⟩
    have B3 := zH (Hbel.out.trans (hb3.mono hsz))
    clear hb3
    cases D
    · have Hq := zH (Hnext.out rfl)
      go_wp2_with fail
      go_roundw
      case rel => exact ⟨j + 1, by omega, by go_num, Hq.out, B3.out⟩
      case measure => simp [intOf]; omega
    · have Hq := zH (Hat.out rfl)
      go_wp2_with fail
      go_ret
      exact ⟨zx Hq.out.symm, B3.out⟩
  · have Hfin := zH (show zw (qA q) l = -1 by
     have h := Hno.out
     rw [List.take_of_length_le (by omega)] at h
     exact qI h)
    go_wp2_with fail
    go_ret
    exact ⟨zx Hfin.out.symm, hbel⟩
theorem atF_any (x : za) (q : List UInt8) (w : World) (hx : x.is w) :
 Calls Tryz.prog 145 #[x.V, .string ⟨q.toArray⟩] w fun e w' => e = .returned (.int .i64 (zw (qA q) x.fields)) ∧ Below w.heap.size w w' := by
 have H := zH (show yg w x.fA x.fm x.fc x.fields from hx.fields)
 clear hx
 obtain ⟨n, s, kA, km, kc, fA, fm, fc, mA, mm, mc, ks, fs, ms⟩ := x
 simp only [za.V] at H ⊢
 have hb := ((Below.refl w.heap.size w).alloc (Nat.le_refl _) (.cells #[.string ⟨n.toArray⟩, .string ⟨s.toArray⟩, .slice kA km kc, .slice fA fm fc, .slice mA mm mc] 132)).alloc (by simp) (.cells #[.string ⟨q.toArray⟩] 9)
 have HB := zH hb
 clear hb
 go_enter Tryz.func145, Tryz.ntmps145
 go_wp2_with fail
 refine Calls.mono (Ye _ _ _ _ q _ _ ?hcell H.out.len (Nat.le_trans H.out.le H.out.max) (H.out.below HB.out).rds) ?_
 case hcell => simp
 rintro e w3 ⟨rfl, hb3⟩
 have B3 := zH (HB.out.trans (hb3.mono HB.out.size))
 clear hb3
 go_wp2_with fail
 go_ret
 exact ⟨rfl, B3.out⟩
theorem uJ (x : za) (q : List UInt8) (w : World) (hx : x.is w) :
 Calls Tryz.prog 116 #[x.V, .string ⟨q.toArray⟩] w fun e w' => e = .returned (.int .i64 (zw (qA q) x.fields)) ∧ Below w.heap.size w w' := by
 have H := zH (show yg w x.fA x.fm x.fc x.fields from hx.fields)
 have hml : x.fields.length ≤ x.fm := Nat.le_of_eq hx.fields.len.symm
 have hml2 : x.fm ≤ x.fields.length := Nat.le_of_eq hx.fields.len
 have hmx : x.fm ≤ maxLen := Nat.le_trans hx.fields.le hx.fields.max
 unfold maxLen at hmx
 clear hx
 have hbx := QT.new w (.string ⟨x.name.toArray⟩) (.string ⟨x.sup.toArray⟩) (.slice x.kA x.km x.kc) (.slice x.fA x.fm x.fc) (.slice x.mA x.mm x.mc) 132
 have HB := zH ((Below.refl w.heap.size w).alloc (Nat.le_refl _) (.cells #[.string ⟨x.name.toArray⟩, .string ⟨x.sup.toArray⟩, .slice x.kA x.km x.kc, .slice x.fA x.fm x.fc, .slice x.mA x.mm x.mc] 132))
 obtain ⟨n, s, kA, km, kc, fA, fm, fc, mA, mm, mc, ks, fs, ms⟩ := x
 simp only [za.V] at *
 obtain ⟨g0, g1, g2, g3, g4⟩ := hbx
 go_enter Tryz.func116, Tryz.ntmps116
 go_wp2_with fail
 go_loop [5] (fun i => ∃ j : Nat, j ≤ fm ∧ i = .int .i64 j ∧ Hid (∀ x ∈ fs.take j, qA q x = false)) (fun i => fm - (intOf i).toNat)
 case atStart => exact ⟨0, Nat.zero_le _, rfl, zH (by simp)⟩
 case round =>
  obtain ⟨j, hj, rfl, Hno⟩ := hrel
  by_cases hlt : j < fm
  · have hja : j < fs.length := by omega
    obtain ⟨b1, o1, rfl, hb1, hc0, hc1⟩ := jr (H.out.below HB.out).rds hja
    have hj1 : (j : Int) < (fm : Int) := by omega
    have hj0 : (0 : Int) ≤ (j : Int) := by omega
    cases hD : ((fs[j]).name == q)
    · have Hq := zH (ZR hja Hno.out hD)
      go_wp2_with fail
      go_round
      case rel => exact ⟨j + 1, by omega, by go_num, Hq⟩
      case measure => simp [intOf]; omega
    · have Hq := zH (QF (p := qA q) hja Hno.out hD)
      go_wp2_with fail
      go_ret
      exact ⟨zx Hq.out.symm, HB.out⟩
  · have Hfin := zH (show zw (qA q) fs = -1 by
     have h := Hno.out
     rw [List.take_of_length_le (by omega)] at h
     exact qI h)
    go_wp2_with fail
    go_ret
    exact ⟨zx Hfin.out.symm, HB.out⟩
theorem gY (x : zF) (q : List UInt8) (g : Nat) (w : World) (hg : w.cell? ⟨g, 0, none⟩ = some (.string ⟨q.toArray⟩)) :
 Calls Tryz.prog 185 #[x.V, .pointer (some ⟨g, 0, none⟩)] w fun e w' => e = .returned (.bool (QE q x)) ∧ Below w.heap.size w w' := by
 obtain ⟨x0, x1, x2, x3, x4, x5, x6, x7, x8, x9, x10⟩ := x
 unfold zF.V QE
 simp only
 have hb := (Below.refl w.heap.size w).alloc (Nat.le_refl _) (.cells #[.string ⟨x0.toArray⟩, .string ⟨x1.toArray⟩, .int .i64 x2, .slice x3 x4 x5, .slice x6 x7 x8] 158)
 have HB := zH hb
 have hg' := (hb.cell (p := ⟨g, 0, none⟩) (World.block_lt_of_cell? w ⟨g, 0, none⟩ hg)).trans hg
 clear hb
 go_enter Tryz.func185, Tryz.ntmps185
 go_wp2_with fail
 go_ret
 exact ⟨rfl, HB.out⟩
theorem zb5 (A : Option Addr) (l : List zF) (m c : Nat) (q : List UInt8) (g : Nat) (w : World) (hg : w.cell? ⟨g, 0, none⟩ = some (.string ⟨q.toArray⟩)) (hm : m = l.length) (hmx : m ≤ maxLen) (hr : Rds w A (l.flatMap zF.vals)) :
 Calls Tryz.prog 184 #[.slice A m c, .func (.func 185) #[] #[.pointer (some ⟨g, 0, none⟩)]] w fun e w' => e = .returned (.int .i64 (zw (QE q) l)) ∧ Below w.heap.size w w' := by
 have eg : ∀ args w, (callFunc 185 args).run Tryz.prog w = .ok (.enter 185 args) w := enters_of Tryz.func185 (by kernel_rfl) rfl
 have hml : l.length ≤ m := Nat.le_of_eq hm.symm
 have hml2 : m ≤ l.length := Nat.le_of_eq hm
 have hgl := World.block_lt_of_cell? w ⟨g, 0, none⟩ hg
 have Hg := zH hg
 have Hr := zH hr
 unfold maxLen at hmx
 clear hg hr hm
 go_enter Tryz.func184, Tryz.ntmps184
 go_wp2_with fail
 go_loopw [5, 8] (fun _ i wr => ∃ j : Nat, j ≤ m ∧ i = .int .i64 j ∧ (∀ x ∈ l.take j, QE q x = false) ∧ Below w.heap.size w wr) (fun _ i _ => m - (intOf i).toNat)
 case atStart => exact ⟨0, Nat.zero_le _, rfl, by simp, Below.refl _ _⟩
 case round =>
  obtain ⟨j, hj, rfl, hno, hbel⟩ := hrel
  have Hno := zH hno
  have Hbel := zH hbel
  have hsz := hbel.size
  clear hno
  by_cases hlt : j < m
  · have hja : j < l.length := by omega
    obtain ⟨b1, o1, rfl, hb1, hc0, hc1, hc2, hc3, hc4⟩ := jL (Hr.out.below hbel) hja
    have hj1 : (j : Int) < (m : Int) := by omega
    have hj0 : (0 : Int) ≤ (j : Int) := by omega
    have Hg1 := zH ((hbel.cell (p := ⟨g, 0, none⟩) hgl).trans Hg.out)
    have Hat := zH (fun he => QF hja Hno.out he)
    have Hnext := zH (fun he => ZR hja Hno.out he)
    clear hbel
    have hclo := fun W hg => gY l[j] q g W hg
    generalize l[j] = x at *
    obtain ⟨x0, x1, x2, x3, x4, x5, x6, x7, x8, x9, x10⟩ := x
    unfold zF.V at hclo
    simp only at hc0 hc1 hc2 hc3 hc4 hclo
    generalize QE q _ = D at *
    have Hclo := zH hclo
    clear hclo
    go_wp2_with fail
    refine Calls.mono (Hclo.out _ Hg1.out) ?_
    rintro e w3 ⟨rfl, hb3⟩
    have B3 := zH (Hbel.out.trans (hb3.mono hsz))
    clear hb3
    cases D
    · have Hq := zH (Hnext.out rfl)
      go_wp2_with fail
      go_roundw
      case rel => exact ⟨j + 1, by omega, by go_num, Hq.out, B3.out⟩
      case measure => simp [intOf]; omega
    · have Hq := zH (Hat.out rfl)
      go_wp2_with fail
      go_ret
      exact ⟨zx Hq.out.symm, B3.out⟩
  · have Hfin := zH (show zw (QE q) l = -1 by
     have h := Hno.out
     rw [List.take_of_length_le (by omega)] at h
     exact qI h)
    go_wp2_with fail
    go_ret
    exact ⟨zx Hfin.out.symm, hbel⟩
theorem atM_any (x : za) (q : List UInt8) (w : World) (hx : x.is w) :
 Calls Tryz.prog 146 #[x.V, .string ⟨q.toArray⟩] w fun e w' => e = .returned (.int .i64 (zw (QE q) x.meths)) ∧ Below w.heap.size w w' := by
 have H := zH (show Yp w x.mA x.mm x.mc x.meths from hx.meths)
 clear hx
 obtain ⟨n, s, kA, km, kc, fA, fm, fc, mA, mm, mc, ks, fs, ms⟩ := x
 simp only [za.V] at H ⊢
 have hb := ((Below.refl w.heap.size w).alloc (Nat.le_refl _) (.cells #[.string ⟨n.toArray⟩, .string ⟨s.toArray⟩, .slice kA km kc, .slice fA fm fc, .slice mA mm mc] 132)).alloc (by simp) (.cells #[.string ⟨q.toArray⟩] 9)
 have HB := zH hb
 clear hb
 go_enter Tryz.func146, Tryz.ntmps146
 go_wp2_with fail
 refine Calls.mono (zb5 _ _ _ _ q _ _ ?hcell H.out.len (Nat.le_trans H.out.le H.out.max) (H.out.below HB.out).rds) ?_
 case hcell => simp
 rintro e w3 ⟨rfl, hb3⟩
 have B3 := zH (HB.out.trans (hb3.mono HB.out.size))
 clear hb3
 go_wp2_with fail
 go_ret
 exact ⟨rfl, B3.out⟩
theorem GU (x : za) (q : List UInt8) (w : World) (hx : x.is w) :
 Calls Tryz.prog 156 #[x.V, .string ⟨q.toArray⟩] w fun e w' => e = .returned (.int .i64 (zw (QE q) x.meths)) ∧ Below w.heap.size w w' := by
 have H := zH (show Yp w x.mA x.mm x.mc x.meths from hx.meths)
 have hml : x.meths.length ≤ x.mm := Nat.le_of_eq hx.meths.len.symm
 have hml2 : x.mm ≤ x.meths.length := Nat.le_of_eq hx.meths.len
 have hmx : x.mm ≤ maxLen := Nat.le_trans hx.meths.le hx.meths.max
 unfold maxLen at hmx
 clear hx
 have hbx := QT.new w (.string ⟨x.name.toArray⟩) (.string ⟨x.sup.toArray⟩) (.slice x.kA x.km x.kc) (.slice x.fA x.fm x.fc) (.slice x.mA x.mm x.mc) 132
 have HB := zH ((Below.refl w.heap.size w).alloc (Nat.le_refl _) (.cells #[.string ⟨x.name.toArray⟩, .string ⟨x.sup.toArray⟩, .slice x.kA x.km x.kc, .slice x.fA x.fm x.fc, .slice x.mA x.mm x.mc] 132))
 obtain ⟨n, s, kA, km, kc, fA, fm, fc, mA, mm, mc, ks, fs, ms⟩ := x
 simp only [za.V] at *
 obtain ⟨g0, g1, g2, g3, g4⟩ := hbx
 go_enter Tryz.func156, Tryz.ntmps156
 go_wp2_with fail
 go_loop [5] (fun i => ∃ j : Nat, j ≤ mm ∧ i = .int .i64 j ∧ Hid (∀ x ∈ ms.take j, QE q x = false)) (fun i => mm - (intOf i).toNat)
 case atStart => exact ⟨0, Nat.zero_le _, rfl, zH (by simp)⟩
 case round =>
  obtain ⟨j, hj, rfl, Hno⟩ := hrel
  by_cases hlt : j < mm
  · have hja : j < ms.length := by omega
    obtain ⟨b1, o1, rfl, hb1, hc0, hc1, hc2, hc3, hc4⟩ := jL (H.out.below HB.out).rds hja
    have hj1 : (j : Int) < (mm : Int) := by omega
    have hj0 : (0 : Int) ≤ (j : Int) := by omega
    cases hD : ((ms[j]).name == q)
    · have Hq := zH (ZR hja Hno.out hD)
      go_wp2_with fail
      go_round
      case rel => exact ⟨j + 1, by omega, by go_num, Hq⟩
      case measure => simp [intOf]; omega
    · have Hq := zH (QF (p := QE q) hja Hno.out hD)
      go_wp2_with fail
      go_ret
      exact ⟨zx Hq.out.symm, HB.out⟩
  · have Hfin := zH (show zw (QE q) ms = -1 by
     have h := Hno.out
     rw [List.take_of_length_le (by omega)] at h
     exact qI h)
    go_wp2_with fail
    go_ret
    exact ⟨zx Hfin.out.symm, HB.out⟩
end KlsP
namespace KlsQ
open Go.RowKit Base BinM DescM DescW DescX DescR DescP DescQ Stru PoolM InsM InsA InsC InsD Kls KlsP OpenK
theorem uT (l : List UInt8) (W : World) (h : l.length ≤ 140737488351232) : Calls Tryz.prog 97 #[.string ⟨l.toArray⟩] W fun e w' => e = .returned (.bool (zk l)) ∧ W = w' :=
 BinName.JM ⟨l.toArray⟩ W (by simp [maxLen, ByteArray.size]; omega)
theorem jY (l : List UInt8) (W : World) (h : l.length ≤ 140737488351232) : Calls Tryz.prog 113 #[.string ⟨l.toArray⟩] W fun e w' => e = .returned (.bool (zk l)) ∧ W = w' :=
 BinName.Qd ⟨l.toArray⟩ W (by simp [maxLen, ByteArray.size]; omega)
theorem zl3 (s : List UInt8) : (zI s).2.2 = 0 ∨ (zI s).2.2 = 5 := by
 unfold zI
 split
 · split
   · split <;> simp
   · simp
 · simp
def yU (fs : List zU) (i : Nat) (f : zU) : Int := if zk f.name = false then 7 else if zq f.desc = false then 10 else if zw (qA f.name) fs < (i : Int) then 8 else 0
def jq (fs : List zU) : Int := if 16 < fs.length then 6 else zW (yU fs) fs
def Jr (n : Int) (h : qj) : Bool := decide (h.frm < 0) || decide (h.til ≤ h.frm) || decide (n < h.til) || decide (h.pos < 0) || decide (n ≤ h.pos)
theorem vH (n a b c : Int) (s : List UInt8) :
 (decide (a < 0) = true ∧ Jr n ⟨a, b, c, s⟩ = true) ∨ (decide (a < 0) = false ∧ decide (b ≤ a) = true ∧ Jr n ⟨a, b, c, s⟩ = true) ∨ (decide (a < 0) = false ∧ decide (b ≤ a) = false ∧ decide (n < b) = true ∧ Jr n ⟨a, b, c, s⟩ = true) ∨
 (decide (a < 0) = false ∧ decide (b ≤ a) = false ∧ decide (n < b) = false ∧ decide (c < 0) = true ∧ Jr n ⟨a, b, c, s⟩ = true) ∨ (decide (a < 0) = false ∧ decide (b ≤ a) = false ∧ decide (n < b) = false ∧ decide (c < 0) = false ∧ decide (n ≤ c) = true ∧ Jr n ⟨a, b, c, s⟩ = true) ∨
 (decide (a < 0) = false ∧ decide (b ≤ a) = false ∧ decide (n < b) = false ∧ decide (c < 0) = false ∧ decide (n ≤ c) = false ∧ Jr n ⟨a, b, c, s⟩ = false) := by
 unfold Jr
 simp only
 cases decide (a < 0) <;> cases decide (b ≤ a) <;> cases decide (n < b) <;> cases decide (c < 0) <;> cases decide (n ≤ c) <;> simp
def Yf (n : Int) (_ : Nat) (h : qj) : Int := if Jr n h = true then 3 else if zk h.cls = false then 7 else 0
def Jc (n : Int) (l : List qj) : Int := if 8 < l.length then 6 else zW (Yf n) l
def Yc (x : Qo) : Bool := x.1 == 45
def Qm (cd : List Qo) (hd : List qj) (lo : Int) (ks : List Cst) : Int :=
 if (ZT cd ks lo).2 ≠ 0 then (ZT cd ks lo).2 else if 0 ≤ zw Yc cd then 12 else Jc (cd.length : Int) hd
def jM (ms : List zF) (ks : List Cst) (i : Nat) (m : zF) : Int :=
 if zk m.name = false then 7 else if (zI m.sig).2.2 ≠ 0 then 5 else if zw (QE m.name) ms < (i : Int) then 8 else if m.locals > 24 ∨ m.locals < 1 + ((zI m.sig).2.1.length : Int) then 2 else Qm m.code m.hand m.locals ks
def JC (ms : List zF) (ks : List Cst) : Int := if 32 < ms.length then 6 else zW (jM ms ks) ms
def qE (x : za) : Int :=
 if zk x.name = false ∨ zk x.sup = false then 7 else if (PutN.jO [] x.consts).2 ≠ 0 then (PutN.jO [] x.consts).2 else if jq x.fields ≠ 0 then jq x.fields else JC x.meths x.consts
theorem gF {fs : List zU} {i : Nat} {f : zU} (h : zk f.name = false) : yU fs i f = 7 := by unfold yU; rw [if_pos h]
theorem gG {fs : List zU} {i : Nat} {f : zU} (h : zk f.name = true) (h2 : zq f.desc = false) : yU fs i f = 10 := by unfold yU; rw [if_neg (by rw [h]; simp), if_pos h2]
theorem vR {fs : List zU} {i : Nat} {f : zU} (h : zk f.name = true) (h2 : zq f.desc = true) (h3 : zw (qA f.name) fs < (i : Int)) : yU fs i f = 8 := by unfold yU; rw [if_neg (by rw [h]; simp), if_neg (by rw [h2]; simp), if_pos h3]
theorem fld_ok {fs : List zU} {i : Nat} {f : zU} (h : zk f.name = true) (h2 : zq f.desc = true) (h3 : ¬ zw (qA f.name) fs < (i : Int)) : yU fs i f = 0 := by unfold yU; rw [if_neg (by rw [h]; simp), if_neg (by rw [h2]; simp), if_neg h3]
theorem zi2 {n : Int} {i : Nat} {h : qj} (e : Jr n h = true) : Yf n i h = 3 := by unfold Yf; rw [if_pos e]
theorem KW {n : Int} {i : Nat} {h : qj} (e : Jr n h = false) (e2 : zk h.cls = false) : Yf n i h = 7 := by unfold Yf; rw [if_neg (by rw [e]; simp), if_pos e2]
theorem hnd_ok {n : Int} {i : Nat} {h : qj} (e : Jr n h = false) (e2 : zk h.cls = true) : Yf n i h = 0 := by unfold Yf; rw [if_neg (by rw [e]; simp), if_neg (by rw [e2]; simp)]
theorem zc6 (x : za) (w : World) (hx : x.is w) (hl : za.lt x) :
 Calls Tryz.prog 99 #[x.V] w fun e w' => e = .returned (.int .i64 (jq x.fields)) ∧ Below w.heap.size w w' := by
 have hat := fun (q : List UInt8) (W : World) (hb : Below w.heap.size w W) => atF_any x q W (hx.below hb)
 have H := zH (show yg w x.fA x.fm x.fc x.fields from hx.fields)
 have hml : x.fields.length ≤ x.fm := Nat.le_of_eq hx.fields.len.symm
 have hml2 : x.fm ≤ x.fields.length := Nat.le_of_eq hx.fields.len
 have hmx : x.fm ≤ maxLen := Nat.le_trans hx.fields.le hx.fields.max
 have HL := zH hl.fields
 unfold maxLen at hmx
 clear hx hl
 have HB := zH ((Below.refl w.heap.size w).alloc (Nat.le_refl _) (.cells #[.string ⟨x.name.toArray⟩, .string ⟨x.sup.toArray⟩, .slice x.kA x.km x.kc, .slice x.fA x.fm x.fc, .slice x.mA x.mm x.mc] 132))
 have E1 := zH (QT.new w (.string ⟨x.name.toArray⟩) (.string ⟨x.sup.toArray⟩) (.slice x.kA x.km x.kc) (.slice x.fA x.fm x.fc) (.slice x.mA x.mm x.mc) 132)
 obtain ⟨n, s, kA, km, kc, fA, fm, fc, mA, mm, mc, ks, fs, ms⟩ := x
 simp only [za.V] at *
 have Hat := zH hat
 clear hat
 by_cases hs : 16 < fm
 · have HH := zH (show jq fs = 6 by unfold jq; rw [if_pos (by omega)])
   go_enter Tryz.func99, Tryz.ntmps99
   go_wp2_with fail
   go_ret
   exact ⟨zx HH.out.symm, HB.out⟩
 · have HH := zH (show jq fs = zW (yU fs) fs by unfold jq; rw [if_neg (by omega)])
   obtain ⟨g0, g1, g2, g3, g4⟩ := E1.out
   go_enter Tryz.func99, Tryz.ntmps99
   go_wp2_with fail
   clear g0 g1 g2 g3 g4
   go_loopw [3, 4, 12] (fun _ _ i wr => ∃ j : Nat, j ≤ fm ∧ i = .int .i64 j ∧ (∀ k (hk : k < fs.length), k < j → yU fs k fs[k] = 0) ∧ QT wr w.heap.size (.string ⟨n.toArray⟩) (.string ⟨s.toArray⟩) (.slice kA km kc) (.slice fA fm fc) (.slice mA mm mc) ∧ Below w.heap.size w wr) (fun _ _ i _ => fm - (intOf i).toNat)
   case atStart => exact ⟨0, Nat.zero_le _, rfl, by intro k _ h; omega, E1.out, HB.out⟩
   case round =>
    obtain ⟨j, hj, rfl, hall, hbox, hbel⟩ := hrel
    have Hall := zH hall
    have Hbox := zH hbox
    have Hbel := zH hbel
    have hsz := hbel.size
    clear hall hbox
    by_cases hlt : j < fm
    · have hja : j < fs.length := by omega
      obtain ⟨b1, o1, rfl, hb1, hc0, hc1⟩ := jr (H.out.rds.below hbel) hja
      have hj1 : (j : Int) < (fm : Int) := by omega
      have hj0 : (0 : Int) ≤ (j : Int) := by omega
      have Hlx := zH (HL.out _ (List.getElem_mem hja))
      have Hhit := zH (fun hne => ZM hja Hall.out hne)
      have Hnext := zH (fun h0 => Zw Hall.out hja h0)
      have Ha := zH (fun (h : zk (fs[j]'hja).name = false) => gF (fs := fs) (i := j) (f := fs[j]'hja) h)
      have Hb := zH (fun (h : zk (fs[j]'hja).name = true) h2 => gG (fs := fs) (i := j) (f := fs[j]'hja) h h2)
      have Hc := zH (fun (h : zk (fs[j]'hja).name = true) h2 h3 => vR (fs := fs) (i := j) (f := fs[j]'hja) h h2 h3)
      have Hd := zH (fun (h : zk (fs[j]'hja).name = true) h2 h3 => fld_ok (fs := fs) (i := j) (f := fs[j]'hja) h h2 h3)
      clear hbel
      generalize fs[j] = x at *
      generalize yU fs j x = E at *
      obtain ⟨x0, x1⟩ := x
      simp only at hc0 hc1
      have hl3 : x0.length ≤ 140737488351232 ∧ x1.length ≤ 140737488351232 := Hlx.out
      have HA := zH ((Below.refl wr.heap.size wr).alloc (Nat.le_refl _) (.cells #[.string ⟨x0.toArray⟩, .string ⟨x1.toArray⟩] 141))
      have HW := zH (Hbel.out.trans (HA.out.mono hsz))
      go_wp2_with fail
      refine Calls.mono (uT x0 _ (by omega)) ?_
      rintro e w3 ⟨rfl, rfl⟩
      cases hN : zk x0
      · have Hq := zH (Ha.out hN)
        have Hf := zH (Hhit.out (by rw [Hq.out]; decide))
        clear hN
        go_wp2_with fail
        go_ret
        exact ⟨zx (by rw [HH.out, Hf.out, Hq.out]), HW.out⟩
      · have HN := zH hN
        clear hN
        go_wp2_with fail
        refine Calls.mono (DescW.Zg x1 _ (by omega)) ?_
        rintro e w3 ⟨rfl, rfl⟩
        cases hR : zq x1
        · have Hq := zH (Hb.out HN.out hR)
          have Hf := zH (Hhit.out (by rw [Hq.out]; decide))
          clear hR
          go_wp2_with fail
          go_ret
          exact ⟨zx (by rw [HH.out, Hf.out, Hq.out]), HW.out⟩
        · have HR := zH hR
          clear hR
          have HP := zH (Hbox.out.after HA.out)
          obtain ⟨g0, g1, g2, g3, g4⟩ := HP.out
          go_wp2_with fail
          refine Calls.mono (Hat.out x0 _ HW.out) ?_
          rintro e w3 ⟨rfl, hb3⟩
          have B3 := zH (HW.out.trans (hb3.mono HW.out.size))
          have P3 := zH (HP.out.after hb3)
          clear hb3 g0 g1 g2 g3 g4
          have Hc2 := zH (fun h3 => Hc.out HN.out HR.out h3)
          have Hd2 := zH (fun h3 => Hd.out HN.out HR.out h3)
          generalize zw (qA x0) fs = F at *
          by_cases hF : F < (j : Int)
          · have Hq := zH (Hc2.out (by omega))
            have Hf := zH (Hhit.out (by rw [Hq.out]; decide))
            go_wp2_with fail
            go_ret
            exact ⟨zx (by rw [HH.out, Hf.out, Hq.out]), B3.out⟩
          · have Hq := zH (Hd2.out (by omega))
            have Hf := zH (Hnext.out Hq.out)
            have hF2 : decide (F < (j : Int)) = false := decide_eq_false hF
            go_wp2_with fail
            go_roundw
            case rel => exact ⟨j + 1, by omega, by go_num, Hf.out, P3.out, B3.out⟩
            case measure => simp [intOf]; omega
    · have Hfin := zH (show zW (yU fs) fs = 0 from Zv (fun i hi => Hall.out i hi (by omega)))
      go_wp2_with fail
      go_ret
      exact ⟨zx (by rw [HH.out, Hfin.out]), hbel⟩
end KlsQ
end Go.Proofs.YtmkdhdmkdcankaaGreatDoor
