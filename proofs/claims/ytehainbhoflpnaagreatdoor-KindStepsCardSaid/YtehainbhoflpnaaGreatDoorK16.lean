/- pieces -/
import Derived.Test.YtehainbhoflpnaaGreatDoorK15
import Derived.Test.YtehainbhoflpnaaGreatDoorK11
namespace Go.Proofs.YtehainbhoflpnaaGreatDoor
namespace KlsP
open Go.RowKit Base BinM Stru PoolM PoolA PoolJ InsJ Kls
theorem zJ {a b : Int} (h : a = b) : Ending.returned (.int .i64 a) = .returned (.int .i64 b) := by rw [h]
def zD {α : Type} (p : α → Bool) : List α → Int
 | [] => -1
 | x :: r => if p x = true then 0 else if zD p r = -1 then -1 else zD p r + 1
theorem qX {α : Type} {p : α → Bool} : ∀ {l : List α}, (∀ x ∈ l, p x = false) → zD p l = -1
 | [], _ => rfl
 | x :: r, h => by
   unfold zD
   rw [if_neg (by rw [h x (by simp)]; simp), if_pos (qX (fun y hy => h y (by simp [hy])))]
theorem Zw1 {α : Type} {p : α → Bool} : ∀ {l : List α} {j : Nat} (hj : j < l.length), (∀ x ∈ l.take j, p x = false) → p l[j] = true → zD p l = (j : Int)
 | [], _, hj, _, _ => by simp at hj
 | x :: r, 0, _, _, e => by
   have e : p x = true := e
   unfold zD
   rw [if_pos e]; rfl
 | x :: r, j + 1, hj, h, e => by
   have ih := Zw1 (l := r) (j := j) (by simpa using hj) (fun y hy => h y (by simp [hy])) e
   unfold zD
   rw [if_neg (by rw [h x (by simp)]; simp), if_neg (by rw [ih]; omega), ih]
   omega
theorem qz {α : Type} {p : α → Bool} {l : List α} {j : Nat} (hj : j < l.length) (h : ∀ x ∈ l.take j, p x = false) (h2 : p l[j] = false) : ∀ x ∈ l.take (j + 1), p x = false := by
 intro x hx
 rw [List.take_succ_eq_append_getElem hj, List.mem_append] at hx
 rcases hx with hx | hx
 · exact h x hx
 · simp at hx; subst hx; exact h2
def qP (n : List UInt8) (x : ZA) : Bool := x.name == n
def Zw0 (n : List UInt8) (x : zO) : Bool := x.name == n
def Zo {α : Type} (f : Nat → α → Int) (l : List α) : Int :=
 match (List.range l.length).find? (fun i => (l[i]?).elim false (fun x => f i x != 0)) with
 | some i => (l[i]?).elim 0 (f i)
 | none => 0
theorem qp {α : Type} {f : Nat → α → Int} {l : List α} {j : Nat} (hj : j < l.length) (h : ∀ i (hi : i < l.length), i < j → f i l[i] = 0) (hne : f j l[j] ≠ 0) : Zo f l = f j l[j] := by
 unfold Zo
 rw [InsD.U6 l.length hj (fun i hi => by simp [List.getElem?_eq_getElem (show i < l.length by omega), h i (by omega) hi]) (by simpa [List.getElem?_eq_getElem hj] using hne)]
 simp [List.getElem?_eq_getElem hj]
theorem ZW {α : Type} {f : Nat → α → Int} {l : List α} (h : ∀ i (hi : i < l.length), f i l[i] = 0) : Zo f l = 0 := by
 unfold Zo
 have : (List.range l.length).find? (fun i => (l[i]?).elim false (fun x => f i x != 0)) = none := by
  rw [List.find?_eq_none]
  intro i hi
  have hi' : i < l.length := by simpa using hi
  simp [List.getElem?_eq_getElem hi', h i hi']
 rw [this]
theorem ZX {α : Type} {f : Nat → α → Int} {l : List α} {j : Nat} (h : ∀ i (hi : i < l.length), i < j → f i l[i] = 0) (hj : j < l.length) (h0 : f j l[j] = 0) : ∀ i (hi : i < l.length), i < j + 1 → f i l[i] = 0 := by
 intro i hi hij
 rcases Nat.lt_succ_iff_lt_or_eq.1 hij with h1 | h1
 · exact h i hi h1
 · subst h1; exact h0
set_option maxRecDepth 100000 in
theorem Uh (x : ZA) (q : List UInt8) (g : Nat) (w : World) (hg : w.cell? ⟨g, 0, none⟩ = some (.string ⟨q.toArray⟩)) :
 Calls Tryz.prog 172 #[x.V, .pointer (some ⟨g, 0, none⟩)] w fun e w' => e = .returned (.bool (qP q x)) ∧ Below w.heap.size w w' := by
 obtain ⟨x0, x1⟩ := x
 unfold ZA.V qP
 simp only
 have hb := (Below.refl w.heap.size w).alloc (Nat.le_refl _) (.cells #[.string ⟨x0.toArray⟩, .string ⟨x1.toArray⟩] 125)
 have HB := zH hb
 have hg' := (hb.cell (p := ⟨g, 0, none⟩) (World.block_lt_of_cell? w ⟨g, 0, none⟩ hg)).trans hg
 clear hb
 go_enter Tryz.func172, Tryz.ntmps172
 go_wp2_with fail
 go_ret
 exact ⟨rfl, HB.out⟩
set_option maxRecDepth 100000 in
set_option maxHeartbeats 2000000 in
theorem Yj (A : Option Addr) (l : List ZA) (m c : Nat) (q : List UInt8) (g : Nat) (w : World) (hg : w.cell? ⟨g, 0, none⟩ = some (.string ⟨q.toArray⟩)) (hm : m = l.length) (hmx : m ≤ maxLen) (hr : Rds w A (l.flatMap ZA.vals)) :
 Calls Tryz.prog 171 #[.slice A m c, .func (.func 172) #[] #[.pointer (some ⟨g, 0, none⟩)]] w fun e w' => e = .returned (.int .i64 (zD (qP q) l)) ∧ Below w.heap.size w w' := by
 have eg : ∀ args w, (callFunc 172 args).run Tryz.prog w = .ok (.enter 172 args) w := enters_of Tryz.func172 (by kernel_rfl) rfl
 have hml : l.length ≤ m := Nat.le_of_eq hm.symm
 have hml2 : m ≤ l.length := Nat.le_of_eq hm
 have hgl := World.block_lt_of_cell? w ⟨g, 0, none⟩ hg
 have Hg := zH hg
 have Hr := zH hr
 unfold maxLen at hmx
 clear hg hr hm
 go_enter Tryz.func171, Tryz.ntmps171
 go_wp2_with fail
 go_loopw [5, 8] (fun _ i wr => ∃ j : Nat, j ≤ m ∧ i = .int .i64 j ∧ (∀ x ∈ l.take j, qP q x = false) ∧ Below w.heap.size w wr) (fun _ i _ => m - (intOf i).toNat)
 case atStart => exact ⟨0, Nat.zero_le _, rfl, by simp, Below.refl _ _⟩
 case round =>
  obtain ⟨j, hj, rfl, hno, hbel⟩ := hrel
  have Hno := zH hno
  have Hbel := zH hbel
  have hsz := hbel.size
  clear hno
  by_cases hlt : j < m
  · have hja : j < l.length := by omega
    obtain ⟨b1, o1, rfl, hb1, hc0, hc1⟩ := JI (Hr.out.below hbel) hja
    have hj1 : (j : Int) < (m : Int) := by omega
    have hj0 : (0 : Int) ≤ (j : Int) := by omega
    have Hg1 := zH ((hbel.cell (p := ⟨g, 0, none⟩) hgl).trans Hg.out)
    have Hat := zH (fun he => Zw1 hja Hno.out he)
    have Hnext := zH (fun he => qz hja Hno.out he)
    clear hbel
    have hclo := fun W hg => Uh l[j] q g W hg
    generalize l[j] = x at *
    obtain ⟨x0, x1⟩ := x
    unfold ZA.V at hclo
    simp only at hc0 hc1 hclo
    generalize qP q _ = D at *
    have Hclo := zH hclo
    clear hclo
    go_wp2_with fail
    refine Calls.mono (Hclo.out _ Hg1.out) ?_
    rintro e w3 ⟨rfl, hb3⟩
    have B3 := zH (Hbel.out.trans (hb3.mono hsz))
    clear hb3
    cases D
    · have Hq := zH (Hnext.out rfl)
      go_wp2_with fail
      go_roundw
      case rel => exact ⟨j + 1, by omega, by go_num, Hq.out, B3.out⟩
      case measure => simp [intOf]; omega
    · have Hq := zH (Hat.out rfl)
      go_wp2_with fail
      go_ret
      exact ⟨zJ Hq.out.symm, B3.out⟩
  · have Hfin := zH (show zD (qP q) l = -1 by
     have h := Hno.out
     rw [List.take_of_length_le (by omega)] at h
     exact qX h)
    go_wp2_with fail
    go_ret
    exact ⟨zJ Hfin.out.symm, hbel⟩
set_option maxRecDepth 100000 in
set_option maxHeartbeats 1000000 in
theorem Zg1 (x : zf) (q : List UInt8) (w : World) (hx : x.is w) :
 Calls Tryz.prog 134 #[x.V, .string ⟨q.toArray⟩] w fun e w' => e = .returned (.int .i64 (zD (qP q) x.fields)) ∧ Below w.heap.size w w' := by
 have H := zH (show JQ w x.fA x.fm x.fc x.fields from hx.fields)
 clear hx
 obtain ⟨n, s, kA, km, kc, fA, fm, fc, mA, mm, mc, ks, fs, ms⟩ := x
 simp only [zf.V] at H ⊢
 have hb := ((Below.refl w.heap.size w).alloc (Nat.le_refl _) (.cells #[.string ⟨n.toArray⟩, .string ⟨s.toArray⟩, .slice kA km kc, .slice fA fm fc, .slice mA mm mc] 81)).alloc (by simp) (.cells #[.string ⟨q.toArray⟩] 9)
 have HB := zH hb
 clear hb
 go_enter Tryz.func134, Tryz.ntmps134
 go_wp2_with fail
 refine Calls.mono (Yj _ _ _ _ q _ _ ?hcell H.out.len (Nat.le_trans H.out.le H.out.max) (H.out.below HB.out).rds) ?_
 case hcell => simp
 rintro e w3 ⟨rfl, hb3⟩
 have B3 := zH (HB.out.trans (hb3.mono HB.out.size))
 clear hb3
 go_wp2_with fail
 go_ret
 exact ⟨rfl, B3.out⟩
set_option maxRecDepth 100000 in
set_option maxHeartbeats 1000000 in
theorem uh (x : zf) (q : List UInt8) (w : World) (hx : x.is w) :
 Calls Tryz.prog 95 #[x.V, .string ⟨q.toArray⟩] w fun e w' => e = .returned (.int .i64 (zD (qP q) x.fields)) ∧ Below w.heap.size w w' := by
 have H := zH (show JQ w x.fA x.fm x.fc x.fields from hx.fields)
 have hml : x.fields.length ≤ x.fm := Nat.le_of_eq hx.fields.len.symm
 have hml2 : x.fm ≤ x.fields.length := Nat.le_of_eq hx.fields.len
 have hmx : x.fm ≤ maxLen := Nat.le_trans hx.fields.le hx.fields.max
 unfold maxLen at hmx
 clear hx
 have hbx := jq.new w (.string ⟨x.name.toArray⟩) (.string ⟨x.sup.toArray⟩) (.slice x.kA x.km x.kc) (.slice x.fA x.fm x.fc) (.slice x.mA x.mm x.mc) 81
 have HB := zH ((Below.refl w.heap.size w).alloc (Nat.le_refl _) (.cells #[.string ⟨x.name.toArray⟩, .string ⟨x.sup.toArray⟩, .slice x.kA x.km x.kc, .slice x.fA x.fm x.fc, .slice x.mA x.mm x.mc] 81))
 obtain ⟨n, s, kA, km, kc, fA, fm, fc, mA, mm, mc, ks, fs, ms⟩ := x
 simp only [zf.V] at *
 obtain ⟨g0, g1, g2, g3, g4⟩ := hbx
 go_enter Tryz.func95, Tryz.ntmps95
 go_wp2_with fail
 go_loop [5] (fun i => ∃ j : Nat, j ≤ fm ∧ i = .int .i64 j ∧ Hid (∀ x ∈ fs.take j, qP q x = false)) (fun i => fm - (intOf i).toNat)
 case atStart => exact ⟨0, Nat.zero_le _, rfl, zH (by simp)⟩
 case round =>
  obtain ⟨j, hj, rfl, Hno⟩ := hrel
  by_cases hlt : j < fm
  · have hja : j < fs.length := by omega
    obtain ⟨b1, o1, rfl, hb1, hc0, hc1⟩ := JI (H.out.below HB.out).rds hja
    have hj1 : (j : Int) < (fm : Int) := by omega
    have hj0 : (0 : Int) ≤ (j : Int) := by omega
    cases hD : ((fs[j]).name == q)
    · have Hq := zH (qz hja Hno.out hD)
      go_wp2_with fail
      go_round
      case rel => exact ⟨j + 1, by omega, by go_num, Hq⟩
      case measure => simp [intOf]; omega
    · have Hq := zH (Zw1 (p := qP q) hja Hno.out hD)
      go_wp2_with fail
      go_ret
      exact ⟨zJ Hq.out.symm, HB.out⟩
  · have Hfin := zH (show zD (qP q) fs = -1 by
     have h := Hno.out
     rw [List.take_of_length_le (by omega)] at h
     exact qX h)
    go_wp2_with fail
    go_ret
    exact ⟨zJ Hfin.out.symm, HB.out⟩
set_option maxRecDepth 100000 in
theorem zv2 (x : zO) (q : List UInt8) (g : Nat) (w : World) (hg : w.cell? ⟨g, 0, none⟩ = some (.string ⟨q.toArray⟩)) :
 Calls Tryz.prog 174 #[x.V, .pointer (some ⟨g, 0, none⟩)] w fun e w' => e = .returned (.bool (Zw0 q x)) ∧ Below w.heap.size w w' := by
 obtain ⟨x0, x1, x2, x3, x4, x5, x6, x7, x8, x9, x10⟩ := x
 unfold zO.V Zw0
 simp only
 have hb := (Below.refl w.heap.size w).alloc (Nat.le_refl _) (.cells #[.string ⟨x0.toArray⟩, .string ⟨x1.toArray⟩, .int .i64 x2, .slice x3 x4 x5, .slice x6 x7 x8] 85)
 have HB := zH hb
 have hg' := (hb.cell (p := ⟨g, 0, none⟩) (World.block_lt_of_cell? w ⟨g, 0, none⟩ hg)).trans hg
 clear hb
 go_enter Tryz.func174, Tryz.ntmps174
 go_wp2_with fail
 go_ret
 exact ⟨rfl, HB.out⟩
set_option maxRecDepth 100000 in
set_option maxHeartbeats 2000000 in
theorem Gs (A : Option Addr) (l : List zO) (m c : Nat) (q : List UInt8) (g : Nat) (w : World) (hg : w.cell? ⟨g, 0, none⟩ = some (.string ⟨q.toArray⟩)) (hm : m = l.length) (hmx : m ≤ maxLen) (hr : Rds w A (l.flatMap zO.vals)) :
 Calls Tryz.prog 173 #[.slice A m c, .func (.func 174) #[] #[.pointer (some ⟨g, 0, none⟩)]] w fun e w' => e = .returned (.int .i64 (zD (Zw0 q) l)) ∧ Below w.heap.size w w' := by
 have eg : ∀ args w, (callFunc 174 args).run Tryz.prog w = .ok (.enter 174 args) w := enters_of Tryz.func174 (by kernel_rfl) rfl
 have hml : l.length ≤ m := Nat.le_of_eq hm.symm
 have hml2 : m ≤ l.length := Nat.le_of_eq hm
 have hgl := World.block_lt_of_cell? w ⟨g, 0, none⟩ hg
 have Hg := zH hg
 have Hr := zH hr
 unfold maxLen at hmx
 clear hg hr hm
 go_enter Tryz.func173, Tryz.ntmps173
 go_wp2_with fail
 go_loopw [5, 8] (fun _ i wr => ∃ j : Nat, j ≤ m ∧ i = .int .i64 j ∧ (∀ x ∈ l.take j, Zw0 q x = false) ∧ Below w.heap.size w wr) (fun _ i _ => m - (intOf i).toNat)
 case atStart => exact ⟨0, Nat.zero_le _, rfl, by simp, Below.refl _ _⟩
 case round =>
  obtain ⟨j, hj, rfl, hno, hbel⟩ := hrel
  have Hno := zH hno
  have Hbel := zH hbel
  have hsz := hbel.size
  clear hno
  by_cases hlt : j < m
  · have hja : j < l.length := by omega
    obtain ⟨b1, o1, rfl, hb1, hc0, hc1, hc2, hc3, hc4⟩ := jY (Hr.out.below hbel) hja
    have hj1 : (j : Int) < (m : Int) := by omega
    have hj0 : (0 : Int) ≤ (j : Int) := by omega
    have Hg1 := zH ((hbel.cell (p := ⟨g, 0, none⟩) hgl).trans Hg.out)
    have Hat := zH (fun he => Zw1 hja Hno.out he)
    have Hnext := zH (fun he => qz hja Hno.out he)
    clear hbel
    have hclo := fun W hg => zv2 l[j] q g W hg
    generalize l[j] = x at *
    obtain ⟨x0, x1, x2, x3, x4, x5, x6, x7, x8, x9, x10⟩ := x
    unfold zO.V at hclo
    simp only at hc0 hc1 hc2 hc3 hc4 hclo
    generalize Zw0 q _ = D at *
    have Hclo := zH hclo
    clear hclo
    go_wp2_with fail
    refine Calls.mono (Hclo.out _ Hg1.out) ?_
    rintro e w3 ⟨rfl, hb3⟩
    have B3 := zH (Hbel.out.trans (hb3.mono hsz))
    clear hb3
    cases D
    · have Hq := zH (Hnext.out rfl)
      go_wp2_with fail
      go_roundw
      case rel => exact ⟨j + 1, by omega, by go_num, Hq.out, B3.out⟩
      case measure => simp [intOf]; omega
    · have Hq := zH (Hat.out rfl)
      go_wp2_with fail
      go_ret
      exact ⟨zJ Hq.out.symm, B3.out⟩
  · have Hfin := zH (show zD (Zw0 q) l = -1 by
     have h := Hno.out
     rw [List.take_of_length_le (by omega)] at h
     exact qX h)
    go_wp2_with fail
    go_ret
    exact ⟨zJ Hfin.out.symm, hbel⟩
set_option maxRecDepth 100000 in
set_option maxHeartbeats 1000000 in
theorem Zg0 (x : zf) (q : List UInt8) (w : World) (hx : x.is w) :
 Calls Tryz.prog 135 #[x.V, .string ⟨q.toArray⟩] w fun e w' => e = .returned (.int .i64 (zD (Zw0 q) x.meths)) ∧ Below w.heap.size w w' := by
 have H := zH (show yD w x.mA x.mm x.mc x.meths from hx.meths)
 clear hx
 obtain ⟨n, s, kA, km, kc, fA, fm, fc, mA, mm, mc, ks, fs, ms⟩ := x
 simp only [zf.V] at H ⊢
 have hb := ((Below.refl w.heap.size w).alloc (Nat.le_refl _) (.cells #[.string ⟨n.toArray⟩, .string ⟨s.toArray⟩, .slice kA km kc, .slice fA fm fc, .slice mA mm mc] 81)).alloc (by simp) (.cells #[.string ⟨q.toArray⟩] 9)
 have HB := zH hb
 clear hb
 go_enter Tryz.func135, Tryz.ntmps135
 go_wp2_with fail
 refine Calls.mono (Gs _ _ _ _ q _ _ ?hcell H.out.len (Nat.le_trans H.out.le H.out.max) (H.out.below HB.out).rds) ?_
 case hcell => simp
 rintro e w3 ⟨rfl, hb3⟩
 have B3 := zH (HB.out.trans (hb3.mono HB.out.size))
 clear hb3
 go_wp2_with fail
 go_ret
 exact ⟨rfl, B3.out⟩
set_option maxRecDepth 100000 in
set_option maxHeartbeats 1000000 in
theorem Ga (x : zf) (q : List UInt8) (w : World) (hx : x.is w) :
 Calls Tryz.prog 145 #[x.V, .string ⟨q.toArray⟩] w fun e w' => e = .returned (.int .i64 (zD (Zw0 q) x.meths)) ∧ Below w.heap.size w w' := by
 have H := zH (show yD w x.mA x.mm x.mc x.meths from hx.meths)
 have hml : x.meths.length ≤ x.mm := Nat.le_of_eq hx.meths.len.symm
 have hml2 : x.mm ≤ x.meths.length := Nat.le_of_eq hx.meths.len
 have hmx : x.mm ≤ maxLen := Nat.le_trans hx.meths.le hx.meths.max
 unfold maxLen at hmx
 clear hx
 have hbx := jq.new w (.string ⟨x.name.toArray⟩) (.string ⟨x.sup.toArray⟩) (.slice x.kA x.km x.kc) (.slice x.fA x.fm x.fc) (.slice x.mA x.mm x.mc) 81
 have HB := zH ((Below.refl w.heap.size w).alloc (Nat.le_refl _) (.cells #[.string ⟨x.name.toArray⟩, .string ⟨x.sup.toArray⟩, .slice x.kA x.km x.kc, .slice x.fA x.fm x.fc, .slice x.mA x.mm x.mc] 81))
 obtain ⟨n, s, kA, km, kc, fA, fm, fc, mA, mm, mc, ks, fs, ms⟩ := x
 simp only [zf.V] at *
 obtain ⟨g0, g1, g2, g3, g4⟩ := hbx
 go_enter Tryz.func145, Tryz.ntmps145
 go_wp2_with fail
 go_loop [5] (fun i => ∃ j : Nat, j ≤ mm ∧ i = .int .i64 j ∧ Hid (∀ x ∈ ms.take j, Zw0 q x = false)) (fun i => mm - (intOf i).toNat)
 case atStart => exact ⟨0, Nat.zero_le _, rfl, zH (by simp)⟩
 case round =>
  obtain ⟨j, hj, rfl, Hno⟩ := hrel
  by_cases hlt : j < mm
  · have hja : j < ms.length := by omega
    obtain ⟨b1, o1, rfl, hb1, hc0, hc1, hc2, hc3, hc4⟩ := jY (H.out.below HB.out).rds hja
    have hj1 : (j : Int) < (mm : Int) := by omega
    have hj0 : (0 : Int) ≤ (j : Int) := by omega
    cases hD : ((ms[j]).name == q)
    · have Hq := zH (qz hja Hno.out hD)
      go_wp2_with fail
      go_round
      case rel => exact ⟨j + 1, by omega, by go_num, Hq⟩
      case measure => simp [intOf]; omega
    · have Hq := zH (Zw1 (p := Zw0 q) hja Hno.out hD)
      go_wp2_with fail
      go_ret
      exact ⟨zJ Hq.out.symm, HB.out⟩
  · have Hfin := zH (show zD (Zw0 q) ms = -1 by
     have h := Hno.out
     rw [List.take_of_length_le (by omega)] at h
     exact qX h)
    go_wp2_with fail
    go_ret
    exact ⟨zJ Hfin.out.symm, HB.out⟩
end KlsP
namespace KlsQ
open Go.RowKit Base BinM DescM DescW DescX DescR DescP DescQ Stru PoolM InsM InsA InsC InsD Kls KlsP OpenK
theorem uP (l : List UInt8) (W : World) (h : l.length ≤ 140737488351232) : Calls Tryz.prog 76 #[.string ⟨l.toArray⟩] W fun e w' => e = .returned (.bool (zF l)) ∧ W = w' :=
 BinName.uT ⟨l.toArray⟩ W (by simp [maxLen, ByteArray.size]; omega)
theorem Jh (l : List UInt8) (W : World) (h : l.length ≤ 140737488351232) : Calls Tryz.prog 93 #[.string ⟨l.toArray⟩] W fun e w' => e = .returned (.bool (zF l)) ∧ W = w' :=
 BinName.Qn ⟨l.toArray⟩ W (by simp [maxLen, ByteArray.size]; omega)
theorem zh6 (s : List UInt8) : (zy s).2.2 = 0 ∨ (zy s).2.2 = 5 := by
 unfold zy
 split
 · split
   · split <;> simp
   · simp
 · simp
def Y4 (fs : List ZA) (i : Nat) (f : ZA) : Int := if zF f.name = false then 7 else if zI f.desc = false then 10 else if zD (qP f.name) fs < (i : Int) then 8 else 0
def jO (fs : List ZA) : Int := if 16 < fs.length then 6 else Zo (Y4 fs) fs
def JD (n : Int) (h : qJ) : Bool := decide (h.frm < 0) || decide (h.til ≤ h.frm) || decide (n < h.til) || decide (h.pos < 0) || decide (n ≤ h.pos)
theorem vD (n a b c : Int) (s : List UInt8) :
 (decide (a < 0) = true ∧ JD n ⟨a, b, c, s⟩ = true) ∨ (decide (a < 0) = false ∧ decide (b ≤ a) = true ∧ JD n ⟨a, b, c, s⟩ = true) ∨ (decide (a < 0) = false ∧ decide (b ≤ a) = false ∧ decide (n < b) = true ∧ JD n ⟨a, b, c, s⟩ = true) ∨
 (decide (a < 0) = false ∧ decide (b ≤ a) = false ∧ decide (n < b) = false ∧ decide (c < 0) = true ∧ JD n ⟨a, b, c, s⟩ = true) ∨ (decide (a < 0) = false ∧ decide (b ≤ a) = false ∧ decide (n < b) = false ∧ decide (c < 0) = false ∧ decide (n ≤ c) = true ∧ JD n ⟨a, b, c, s⟩ = true) ∨
 (decide (a < 0) = false ∧ decide (b ≤ a) = false ∧ decide (n < b) = false ∧ decide (c < 0) = false ∧ decide (n ≤ c) = false ∧ JD n ⟨a, b, c, s⟩ = false) := by
 unfold JD
 simp only
 cases decide (a < 0) <;> cases decide (b ≤ a) <;> cases decide (n < b) <;> cases decide (c < 0) <;> cases decide (n ≤ c) <;> simp
def Yk (n : Int) (_ : Nat) (h : qJ) : Int := if JD n h = true then 3 else if zF h.cls = false then 7 else 0
def Jp (n : Int) (l : List qJ) : Int := if 8 < l.length then 6 else Zo (Yk n) l
def Yf (x : InsT) : Bool := x.1 == 45
def QC (cd : List InsT) (hd : List qJ) (lo : Int) (ks : List Cst) : Int :=
 if (qA cd ks lo).2 ≠ 0 then (qA cd ks lo).2 else if 0 ≤ zD Yf cd then 12 else Jp (cd.length : Int) hd
def jZ (ms : List zO) (ks : List Cst) (i : Nat) (m : zO) : Int :=
 if zF m.name = false then 7 else if (zy m.sig).2.2 ≠ 0 then 5 else if zD (Zw0 m.name) ms < (i : Int) then 8 else if m.locals > 24 ∨ m.locals < 1 + ((zy m.sig).2.1.length : Int) then 2 else QC m.code m.hand m.locals ks
def JV (ms : List zO) (ks : List Cst) : Int := if 32 < ms.length then 6 else Zo (jZ ms ks) ms
def qY (x : zf) : Int :=
 if zF x.name = false ∨ zF x.sup = false then 7 else if (PutN.J3 [] x.consts).2 ≠ 0 then (PutN.J3 [] x.consts).2 else if jO x.fields ≠ 0 then jO x.fields else JV x.meths x.consts
theorem KJ {fs : List ZA} {i : Nat} {f : ZA} (h : zF f.name = false) : Y4 fs i f = 7 := by unfold Y4; rw [if_pos h]
theorem KL {fs : List ZA} {i : Nat} {f : ZA} (h : zF f.name = true) (h2 : zI f.desc = false) : Y4 fs i f = 10 := by unfold Y4; rw [if_neg (by rw [h]; simp), if_pos h2]
theorem vM {fs : List ZA} {i : Nat} {f : ZA} (h : zF f.name = true) (h2 : zI f.desc = true) (h3 : zD (qP f.name) fs < (i : Int)) : Y4 fs i f = 8 := by unfold Y4; rw [if_neg (by rw [h]; simp), if_neg (by rw [h2]; simp), if_pos h3]
theorem zt2 {fs : List ZA} {i : Nat} {f : ZA} (h : zF f.name = true) (h2 : zI f.desc = true) (h3 : ¬ zD (qP f.name) fs < (i : Int)) : Y4 fs i f = 0 := by unfold Y4; rw [if_neg (by rw [h]; simp), if_neg (by rw [h2]; simp), if_neg h3]
theorem ze3 {n : Int} {i : Nat} {h : qJ} (e : JD n h = true) : Yk n i h = 3 := by unfold Yk; rw [if_pos e]
theorem KA {n : Int} {i : Nat} {h : qJ} (e : JD n h = false) (e2 : zF h.cls = false) : Yk n i h = 7 := by unfold Yk; rw [if_neg (by rw [e]; simp), if_pos e2]
theorem zs8 {n : Int} {i : Nat} {h : qJ} (e : JD n h = false) (e2 : zF h.cls = true) : Yk n i h = 0 := by unfold Yk; rw [if_neg (by rw [e]; simp), if_neg (by rw [e2]; simp)]
set_option maxRecDepth 100000 in
set_option maxHeartbeats 4000000 in
theorem GH (x : zf) (w : World) (hx : x.is w) (hl : zf.lt x) :
 Calls Tryz.prog 78 #[x.V] w fun e w' => e = .returned (.int .i64 (jO x.fields)) ∧ Below w.heap.size w w' := by
 have hat := fun (q : List UInt8) (W : World) (hb : Below w.heap.size w W) => Zg1 x q W (hx.below hb)
 have H := zH (show JQ w x.fA x.fm x.fc x.fields from hx.fields)
 have hml : x.fields.length ≤ x.fm := Nat.le_of_eq hx.fields.len.symm
 have hml2 : x.fm ≤ x.fields.length := Nat.le_of_eq hx.fields.len
 have hmx : x.fm ≤ maxLen := Nat.le_trans hx.fields.le hx.fields.max
 have HL := zH hl.fields
 unfold maxLen at hmx
 clear hx hl
 have HB := zH ((Below.refl w.heap.size w).alloc (Nat.le_refl _) (.cells #[.string ⟨x.name.toArray⟩, .string ⟨x.sup.toArray⟩, .slice x.kA x.km x.kc, .slice x.fA x.fm x.fc, .slice x.mA x.mm x.mc] 81))
 have E1 := zH (jq.new w (.string ⟨x.name.toArray⟩) (.string ⟨x.sup.toArray⟩) (.slice x.kA x.km x.kc) (.slice x.fA x.fm x.fc) (.slice x.mA x.mm x.mc) 81)
 obtain ⟨n, s, kA, km, kc, fA, fm, fc, mA, mm, mc, ks, fs, ms⟩ := x
 simp only [zf.V] at *
 have Hat := zH hat
 clear hat
 by_cases hs : 16 < fm
 · have HH := zH (show jO fs = 6 by unfold jO; rw [if_pos (by omega)])
   go_enter Tryz.func78, Tryz.ntmps78
   go_wp2_with fail
   go_ret
   exact ⟨zJ HH.out.symm, HB.out⟩
 · have HH := zH (show jO fs = Zo (Y4 fs) fs by unfold jO; rw [if_neg (by omega)])
   obtain ⟨g0, g1, g2, g3, g4⟩ := E1.out
   go_enter Tryz.func78, Tryz.ntmps78
   go_wp2_with fail
   clear g0 g1 g2 g3 g4
   go_loopw [3, 4, 12] (fun _ _ i wr => ∃ j : Nat, j ≤ fm ∧ i = .int .i64 j ∧ (∀ k (hk : k < fs.length), k < j → Y4 fs k fs[k] = 0) ∧ jq wr w.heap.size (.string ⟨n.toArray⟩) (.string ⟨s.toArray⟩) (.slice kA km kc) (.slice fA fm fc) (.slice mA mm mc) ∧ Below w.heap.size w wr) (fun _ _ i _ => fm - (intOf i).toNat)
   case atStart => exact ⟨0, Nat.zero_le _, rfl, by intro k _ h; omega, E1.out, HB.out⟩
   case round =>
    obtain ⟨j, hj, rfl, hall, hbox, hbel⟩ := hrel
    have Hall := zH hall
    have Hbox := zH hbox
    have Hbel := zH hbel
    have hsz := hbel.size
    clear hall hbox
    by_cases hlt : j < fm
    · have hja : j < fs.length := by omega
      obtain ⟨b1, o1, rfl, hb1, hc0, hc1⟩ := JI (H.out.rds.below hbel) hja
      have hj1 : (j : Int) < (fm : Int) := by omega
      have hj0 : (0 : Int) ≤ (j : Int) := by omega
      have Hlx := zH (HL.out _ (List.getElem_mem hja))
      have Hhit := zH (fun hne => qp hja Hall.out hne)
      have Hnext := zH (fun h0 => ZX Hall.out hja h0)
      have Ha := zH (fun (h : zF (fs[j]'hja).name = false) => KJ (fs := fs) (i := j) (f := fs[j]'hja) h)
      have Hb := zH (fun (h : zF (fs[j]'hja).name = true) h2 => KL (fs := fs) (i := j) (f := fs[j]'hja) h h2)
      have Hc := zH (fun (h : zF (fs[j]'hja).name = true) h2 h3 => vM (fs := fs) (i := j) (f := fs[j]'hja) h h2 h3)
      have Hd := zH (fun (h : zF (fs[j]'hja).name = true) h2 h3 => zt2 (fs := fs) (i := j) (f := fs[j]'hja) h h2 h3)
      clear hbel
      generalize fs[j] = x at *
      generalize Y4 fs j x = E at *
      obtain ⟨x0, x1⟩ := x
      simp only at hc0 hc1
      have hl3 : x0.length ≤ 140737488351232 ∧ x1.length ≤ 140737488351232 := Hlx.out
      have HA := zH ((Below.refl wr.heap.size wr).alloc (Nat.le_refl _) (.cells #[.string ⟨x0.toArray⟩, .string ⟨x1.toArray⟩] 125))
      have HW := zH (Hbel.out.trans (HA.out.mono hsz))
      go_wp2_with fail
      refine Calls.mono (uP x0 _ (by omega)) ?_
      rintro e w3 ⟨rfl, rfl⟩
      cases hN : zF x0
      · have Hq := zH (Ha.out hN)
        have Hf := zH (Hhit.out (by rw [Hq.out]; decide))
        clear hN
        go_wp2_with fail
        go_ret
        exact ⟨zJ (by rw [HH.out, Hf.out, Hq.out]), HW.out⟩
      · have HN := zH hN
        clear hN
        go_wp2_with fail
        refine Calls.mono (DescW.ZG x1 _ (by omega)) ?_
        rintro e w3 ⟨rfl, rfl⟩
        cases hR : zI x1
        · have Hq := zH (Hb.out HN.out hR)
          have Hf := zH (Hhit.out (by rw [Hq.out]; decide))
          clear hR
          go_wp2_with fail
          go_ret
          exact ⟨zJ (by rw [HH.out, Hf.out, Hq.out]), HW.out⟩
        · have HR := zH hR
          clear hR
          have HP := zH (Hbox.out.after HA.out)
          obtain ⟨g0, g1, g2, g3, g4⟩ := HP.out
          go_wp2_with fail
          refine Calls.mono (Hat.out x0 _ HW.out) ?_
          rintro e w3 ⟨rfl, hb3⟩
          have B3 := zH (HW.out.trans (hb3.mono HW.out.size))
          have P3 := zH (HP.out.after hb3)
          clear hb3 g0 g1 g2 g3 g4
          have Hc2 := zH (fun h3 => Hc.out HN.out HR.out h3)
          have Hd2 := zH (fun h3 => Hd.out HN.out HR.out h3)
          generalize zD (qP x0) fs = F at *
          by_cases hF : F < (j : Int)
          · have Hq := zH (Hc2.out (by omega))
            have Hf := zH (Hhit.out (by rw [Hq.out]; decide))
            go_wp2_with fail
            go_ret
            exact ⟨zJ (by rw [HH.out, Hf.out, Hq.out]), B3.out⟩
          · have Hq := zH (Hd2.out (by omega))
            have Hf := zH (Hnext.out Hq.out)
            have hF2 : decide (F < (j : Int)) = false := decide_eq_false hF
            go_wp2_with fail
            go_roundw
            case rel => exact ⟨j + 1, by omega, by go_num, Hf.out, P3.out, B3.out⟩
            case measure => simp [intOf]; omega
    · have Hfin := zH (show Zo (Y4 fs) fs = 0 from ZW (fun i hi => Hall.out i hi (by omega)))
      go_wp2_with fail
      go_ret
      exact ⟨zJ (by rw [HH.out, Hfin.out]), hbel⟩
end KlsQ
end Go.Proofs.YtehainbhoflpnaaGreatDoor
