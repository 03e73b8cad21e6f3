/-
  Law 12's alike and where: a heap and the document's heap answer alike of every address.
-/
import Derived.Test.YtfmodaelpldpfaaHpD
namespace Go.Proofs.Ytfmodaelpldpfaa
namespace HpC
open Go.RowKit Base BinM HpM HpA HpS HpB HpG HpP HpT HpY HpZ HpR HpQ HpE HpF HpI HpJ HpL HpO HpU HpW HpD

theorem below_q {w W : World} {q : Nat} (hb : Below w.heap.size w W) : Below w.heap.size w (W.drewN q) := ⟨hb.os, hb.tape, hb.output, hb.size, hb.block⟩

set_option maxRecDepth 100000 in
set_option maxHeartbeats 8000000 in
theorem alike_any {w0 w : World} {g r most N : Nat} (S : SimE w0 w g r most N) (hN : N ≤ 900) (x i : Int) (hx : fitI x) :
    Calls Try.prog 12 #[.pointer (some ⟨g, 0, none⟩), .pointer (some ⟨r, 0, none⟩), .int .i64 x, .int .i64 i] w fun e w' => e = .returned (.bool true) ∧ Below w.heap.size w w' := by
  obtain ⟨mb, Aw, cw, Aa, ca, AL, cL, ms, n, f, S, hms, hn⟩ := S
  have hb0 : Below w.heap.size w w := Below.refl _ _
  by_cases hin : x ∈ adr 0 (things ms)
  · obtain ⟨p, m, q, rfl, rfl⟩ := ms_split hin
    have hat := at_val S.rf.ats
    have hp := S.hp
    have hF := S.fits
    rw [things_mid] at hp hF
    have hWl : m.t.W.length ≤ 4096 := by
      have := hF.len
      have := hF.top
      rw [raw_mid_len] at *
      omega
    have hfit : ∀ z ∈ m.t.W, fitI z := hF.fit m.t (by simp)
    have hfa := S.sent m (by simp)
    rw [hat] at hfa
    have HFi : Hid (∀ W : World, Below w.heap.size w W → Calls Try.prog 37 #[.pointer (some ⟨r, 0, none⟩), .int .i64 (((raw (things p)).length + 1 : Nat) : Int)] W (fun e w' => e = .returned (.int .i64 (p.length : Int)) ∧ Below w.heap.size w w')) := Lib.hid (fun (W : World) (hb : Below w.heap.size w W) => by have h := find_yes (S.rf.beside hb) (by omega); rw [hat] at h; exact h.mono (fun e w' h => by obtain ⟨h1, rfl⟩ := h; exact ⟨h1, hb⟩))
    have HTy := Lib.hid (fun (W : World) (hb : Below w.heap.size w W) => (type_yes (hp.beside hb) hF).mono (R' := fun e w' => e = .returned (.tuple #[.int .i64 (m.t.id : Int), .int .i64 0]) ∧ Below w.heap.size w w') (fun e w' h => by obtain ⟨h1, q, rfl⟩ := h; exact ⟨h1, below_q hb⟩))
    have HSz := Lib.hid (fun (W : World) (hb : Below w.heap.size w W) => (size_yes (hp.beside hb) hF).mono (R' := fun e w' => e = .returned (.tuple #[.int .i64 (m.t.W.length : Int), .int .i64 0]) ∧ Below w.heap.size w w') (fun e w' h => by obtain ⟨h1, q, rfl⟩ := h; exact ⟨h1, below_q hb⟩))
    have HGe := Lib.hid (fun (W : World) (hb : Below w.heap.size w W) => (get_yes (hp.beside hb) hF i).mono (R' := fun e w' => e = .returned (.tuple #[.int .i64 (getE m.t.W i).1, .int .i64 (getE m.t.W i).2]) ∧ Below w.heap.size w w') (fun e w' h => by obtain ⟨h1, q, rfl⟩ := h; exact ⟨h1, below_q hb⟩))
    have HRg : Hid (∀ W : World, Below w.heap.size w W → Calls Try.prog 38 #[.pointer (some ⟨r, 0, none⟩), .int .i64 (((raw (things p)).length + 1 : Nat) : Int), .int .i64 i] W (fun e w' => e = .returned (.tuple #[.int .i64 (getE m.t.W i).1, .int .i64 (getE m.t.W i).2]) ∧ Below w.heap.size w w')) := Lib.hid (fun (W : World) (hb : Below w.heap.size w W) => by have h := rget_yes (S.rf.beside hb) (by omega) hWl i; rw [hat] at h; exact h.mono (fun e w' h => by obtain ⟨h1, rfl⟩ := h; exact ⟨h1, hb⟩))
    have HLe := Lib.hid (fun (W : World) (hb : Below w.heap.size w W) => (len_yes (hp.beside hb) hF).mono (R' := fun e w' => e = .returned (.tuple #[.int .i64 (lenE m.t.W).1, .int .i64 (lenE m.t.W).2]) ∧ Below w.heap.size w w') (fun e w' h => by obtain ⟨h1, q, rfl⟩ := h; exact ⟨h1, below_q hb⟩))
    have HRl : Hid (∀ W : World, Below w.heap.size w W → Calls Try.prog 39 #[.pointer (some ⟨r, 0, none⟩), .int .i64 (((raw (things p)).length + 1 : Nat) : Int)] W (fun e w' => e = .returned (.tuple #[.int .i64 (lenE m.t.W).1, .int .i64 (lenE m.t.W).2]) ∧ Below w.heap.size w w')) := Lib.hid (fun (W : World) (hb : Below w.heap.size w W) => by have h := rlen_yes (S.rf.beside hb) (by omega) hWl; rw [hat] at h; exact h.mono (fun e w' h => by obtain ⟨h1, rfl⟩ := h; exact ⟨h1, hb⟩))
    have HBy := Lib.hid (fun (W : World) (hb : Below w.heap.size w W) => (bytes_yes (hp.beside hb) hF).mono (R' := fun e w' => e = .returned (.tuple #[.string ⟨(bytesE m.t.W).1.toArray⟩, .int .i64 (bytesE m.t.W).2]) ∧ Below w.heap.size w w') (fun e w' h => ⟨h.1, hb.trans (h.2.mono hb.size)⟩))
    have HRb : Hid (∀ W : World, Below w.heap.size w W → Calls Try.prog 40 #[.pointer (some ⟨r, 0, none⟩), .int .i64 (((raw (things p)).length + 1 : Nat) : Int)] W (fun e w' => e = .returned (.tuple #[.string ⟨(bytesE m.t.W).1.toArray⟩, .int .i64 (bytesE m.t.W).2]) ∧ Below w.heap.size w w')) := Lib.hid (fun (W : World) (hb : Below w.heap.size w W) => by have h := rbytes_yes (S.rf.beside hb) (by omega) hWl hfit; rw [hat] at h; exact h.mono (fun e w' h => ⟨h.1, hb.trans (h.2.mono hb.size)⟩))
    have HRf := Lib.hid (fun (W : World) (hb : Below w.heap.size w W) => S.rf.beside hb)
    have hpl : (p.length : Int) < ((p ++ m :: q).length : Int) := by simp; omega
    have hpl2 : (p.length : Int) ≤ 4096 := by omega
    by_cases hs : m.t.s = 0
    · rw [if_pos hs] at hfa
      have HSe : Hid (∀ W : World, Below w.heap.size w W → Calls Try.prog 30 #[.pointer (some ⟨g, 0, none⟩), .int .i64 (((raw (things p)).length + 1 : Nat) : Int)] W (fun e w' => e = .returned (.tuple #[.int .i64 0, .bool false]) ∧ Below w.heap.size w w')) := Lib.hid (fun (W : World) (hb : Below w.heap.size w W) => by have h := sent_any (S.hp.beside hb) (((raw (things p)).length + 1 : Nat) : Int) hx; rw [hfa] at h; exact h.mono (fun e w' h => by obtain ⟨h1, rfl⟩ := h; exact ⟨h1, hb⟩))
      clear S hp hF hin hfit hfa hat hx
      generalize getE m.t.W i = G at *
      generalize lenE m.t.W = Le at *
      generalize bytesE m.t.W = By at *
      generalize (raw (things p)).length = P at *
      go_enter Try.func12, Try.ntmps12
      go_wp2_with (first
        | (go_at_call 37; refine (HFi.out _ (by assumption)).mono ?_; rintro e w' ⟨rfl, hb'⟩)
        | (go_at_call 25; refine (HTy.out _ (by assumption)).mono ?_; rintro e w' ⟨rfl, hb'⟩)
        | (go_at_call 29; refine (HSz.out _ (by assumption)).mono ?_; rintro e w' ⟨rfl, hb'⟩)
        | (go_at_call 24; refine (HGe.out _ (by assumption)).mono ?_; rintro e w' ⟨rfl, hb'⟩)
        | (go_at_call 38; refine (HRg.out _ (by assumption)).mono ?_; rintro e w' ⟨rfl, hb'⟩)
        | (go_at_call 28; refine (HLe.out _ (by assumption)).mono ?_; rintro e w' ⟨rfl, hb'⟩)
        | (go_at_call 39; refine (HRl.out _ (by assumption)).mono ?_; rintro e w' ⟨rfl, hb'⟩)
        | (go_at_call 27; refine (HBy.out _ (by assumption)).mono ?_; rintro e w' ⟨rfl, hb'⟩)
        | (go_at_call 40; refine (HRb.out _ (by assumption)).mono ?_; rintro e w' ⟨rfl, hb'⟩)
        | (go_at_call 30; refine (HSe.out _ (by assumption)).mono ?_; rintro e w' ⟨rfl, hb'⟩; have X := HRf.out _ hb'; have c1 := X.box.cell 1; obtain ⟨bL, oL, hAL, k0, k1, k2, k3⟩ := X.cells rfl; rw [hAL] at c1; clear X; rw [hs] at k3))
      go_ret
      exact ⟨rfl, hb'⟩
    · rw [if_neg hs] at hfa
      have HSe : Hid (∀ W : World, Below w.heap.size w W → Calls Try.prog 30 #[.pointer (some ⟨g, 0, none⟩), .int .i64 (((raw (things p)).length + 1 : Nat) : Int)] W (fun e w' => e = .returned (.tuple #[.int .i64 m.t.s, .bool true]) ∧ Below w.heap.size w w')) := Lib.hid (fun (W : World) (hb : Below w.heap.size w W) => by have h := sent_any (S.hp.beside hb) (((raw (things p)).length + 1 : Nat) : Int) hx; rw [hfa] at h; exact h.mono (fun e w' h => by obtain ⟨h1, rfl⟩ := h; exact ⟨h1, hb⟩))
      have hsb : (m.t.s == 0) = false := by simpa using hs
      have hsb2 : (m.t.s != 0) = true := by simp [hs]
      clear S hp hF hin hfit hfa hat hx
      generalize getE m.t.W i = G at *
      generalize lenE m.t.W = Le at *
      generalize bytesE m.t.W = By at *
      generalize (raw (things p)).length = P at *
      go_enter Try.func12, Try.ntmps12
      go_wp2_with (first
        | (go_at_call 37; refine (HFi.out _ (by assumption)).mono ?_; rintro e w' ⟨rfl, hb'⟩)
        | (go_at_call 25; refine (HTy.out _ (by assumption)).mono ?_; rintro e w' ⟨rfl, hb'⟩)
        | (go_at_call 29; refine (HSz.out _ (by assumption)).mono ?_; rintro e w' ⟨rfl, hb'⟩)
        | (go_at_call 24; refine (HGe.out _ (by assumption)).mono ?_; rintro e w' ⟨rfl, hb'⟩)
        | (go_at_call 38; refine (HRg.out _ (by assumption)).mono ?_; rintro e w' ⟨rfl, hb'⟩)
        | (go_at_call 28; refine (HLe.out _ (by assumption)).mono ?_; rintro e w' ⟨rfl, hb'⟩)
        | (go_at_call 39; refine (HRl.out _ (by assumption)).mono ?_; rintro e w' ⟨rfl, hb'⟩)
        | (go_at_call 27; refine (HBy.out _ (by assumption)).mono ?_; rintro e w' ⟨rfl, hb'⟩)
        | (go_at_call 40; refine (HRb.out _ (by assumption)).mono ?_; rintro e w' ⟨rfl, hb'⟩)
        | (go_at_call 30; refine (HSe.out _ (by assumption)).mono ?_; rintro e w' ⟨rfl, hb'⟩; have X := HRf.out _ hb'; have c1 := X.box.cell 1; obtain ⟨bL, oL, hAL, k0, k1, k2, k3⟩ := X.cells rfl; rw [hAL] at c1; clear X))
      go_ret
      exact ⟨rfl, hb'⟩
  · have HFi := Lib.hid (fun (W : World) (hb : Below w.heap.size w W) => (find_no (S.rf.beside hb) (by omega) x hin).mono (R' := fun e w' => e = .returned (.int .i64 (-1)) ∧ Below w.heap.size w w') (fun e w' h => by obtain ⟨h1, rfl⟩ := h; exact ⟨h1, hb⟩))
    have HTy := Lib.hid (fun (W : World) (hb : Below w.heap.size w W) => (type_no (S.hp.beside hb) S.fits x hin).mono (R' := fun e w' => e = .returned (.tuple #[.int .i64 0, .int .i64 3]) ∧ Below w.heap.size w w') (fun e w' h => by obtain ⟨h1, q, rfl⟩ := h; exact ⟨h1, below_q hb⟩))
    have HSz := Lib.hid (fun (W : World) (hb : Below w.heap.size w W) => (size_no (S.hp.beside hb) S.fits x hin).mono (R' := fun e w' => e = .returned (.tuple #[.int .i64 0, .int .i64 3]) ∧ Below w.heap.size w w') (fun e w' h => by obtain ⟨h1, q, rfl⟩ := h; exact ⟨h1, below_q hb⟩))
    have HGe := Lib.hid (fun (W : World) (hb : Below w.heap.size w W) => (get_no (S.hp.beside hb) S.fits x i hin).mono (R' := fun e w' => e = .returned (.tuple #[.int .i64 0, .int .i64 3]) ∧ Below w.heap.size w w') (fun e w' h => by obtain ⟨h1, q, rfl⟩ := h; exact ⟨h1, below_q hb⟩))
    have HRg := Lib.hid (fun (W : World) (hb : Below w.heap.size w W) => (rget_no (S.rf.beside hb) (by omega) x i hin).mono (R' := fun e w' => e = .returned (.tuple #[.int .i64 0, .int .i64 3]) ∧ Below w.heap.size w w') (fun e w' h => by obtain ⟨h1, rfl⟩ := h; exact ⟨h1, hb⟩))
    have HLe := Lib.hid (fun (W : World) (hb : Below w.heap.size w W) => (len_no (S.hp.beside hb) S.fits x hin).mono (R' := fun e w' => e = .returned (.tuple #[.int .i64 0, .int .i64 3]) ∧ Below w.heap.size w w') (fun e w' h => by obtain ⟨h1, q, rfl⟩ := h; exact ⟨h1, below_q hb⟩))
    have HRl := Lib.hid (fun (W : World) (hb : Below w.heap.size w W) => (rlen_no (S.rf.beside hb) (by omega) x hin).mono (R' := fun e w' => e = .returned (.tuple #[.int .i64 0, .int .i64 3]) ∧ Below w.heap.size w w') (fun e w' h => by obtain ⟨h1, rfl⟩ := h; exact ⟨h1, hb⟩))
    have HBy := Lib.hid (fun (W : World) (hb : Below w.heap.size w W) => (bytes_no (S.hp.beside hb) S.fits x hin).mono (R' := fun e w' => e = .returned (.tuple #[.string ⟨#[]⟩, .int .i64 3]) ∧ Below w.heap.size w w') (fun e w' h => by obtain ⟨h1, q, rfl⟩ := h; exact ⟨h1, below_q hb⟩))
    have HRb := Lib.hid (fun (W : World) (hb : Below w.heap.size w W) => (rbytes_no (S.rf.beside hb) (by omega) x hin).mono (R' := fun e w' => e = .returned (.tuple #[.string ⟨#[]⟩, .int .i64 3]) ∧ Below w.heap.size w w') (fun e w' h => by obtain ⟨h1, rfl⟩ := h; exact ⟨h1, hb⟩))
    have hfa := S.none_ x hin
    have HSe : Hid (∀ W : World, Below w.heap.size w W → Calls Try.prog 30 #[.pointer (some ⟨g, 0, none⟩), .int .i64 x] W (fun e w' => e = .returned (.tuple #[.int .i64 0, .bool false]) ∧ Below w.heap.size w w')) := Lib.hid (fun (W : World) (hb : Below w.heap.size w W) => by have h := sent_any (S.hp.beside hb) x hx; rw [hfa] at h; exact h.mono (fun e w' h => by obtain ⟨h1, rfl⟩ := h; exact ⟨h1, hb⟩))
    clear S hin hfa hx
    go_enter Try.func12, Try.ntmps12
    go_wp2_with (first
      | (go_at_call 37; refine (HFi.out _ (by assumption)).mono ?_; rintro e w' ⟨rfl, hb'⟩)
      | (go_at_call 25; refine (HTy.out _ (by assumption)).mono ?_; rintro e w' ⟨rfl, hb'⟩)
      | (go_at_call 29; refine (HSz.out _ (by assumption)).mono ?_; rintro e w' ⟨rfl, hb'⟩)
      | (go_at_call 24; refine (HGe.out _ (by assumption)).mono ?_; rintro e w' ⟨rfl, hb'⟩)
      | (go_at_call 38; refine (HRg.out _ (by assumption)).mono ?_; rintro e w' ⟨rfl, hb'⟩)
      | (go_at_call 28; refine (HLe.out _ (by assumption)).mono ?_; rintro e w' ⟨rfl, hb'⟩)
      | (go_at_call 39; refine (HRl.out _ (by assumption)).mono ?_; rintro e w' ⟨rfl, hb'⟩)
      | (go_at_call 27; refine (HBy.out _ (by assumption)).mono ?_; rintro e w' ⟨rfl, hb'⟩)
      | (go_at_call 40; refine (HRb.out _ (by assumption)).mono ?_; rintro e w' ⟨rfl, hb'⟩)
      | (go_at_call 30; refine (HSe.out _ (by assumption)).mono ?_; rintro e w' ⟨rfl, hb'⟩))
    go_ret
    exact ⟨rfl, hb'⟩

set_option maxRecDepth 100000 in
set_option maxHeartbeats 4000000 in
theorem where_any {w0 w : World} {g r most N : Nat} (S : SimE w0 w g r most N) (kd y1 y2 y4 y5 : Int) (y3 : List UInt8) (y6 : Bool) (hy : fitI y4) :
    Calls Try.prog 10 #[.pointer (some ⟨r, 0, none⟩), .agg #[.int .i64 kd, .int .i64 y1, .int .i64 y2, .string ⟨y3.toArray⟩, .int .i64 y4, .int .i64 y5, .bool y6]] w fun e w' => ∃ x, fitI x ∧ e = .returned (.int .i64 x) ∧ Below w.heap.size w w' := by
  obtain ⟨mb, Aw, cw, Aa, ca, AL, cL, ms, n, f, S, hms, hn⟩ := S
  have hal : Below w.heap.size w (w.alloc (.cells #[.int .i64 kd, .int .i64 y1, .int .i64 y2, .string ⟨y3.toArray⟩, .int .i64 y4, .int .i64 y5, .bool y6] 32)) := (Below.refl _ _).alloc (Nat.le_refl _) _
  have X := S.rf.beside hal
  have c1 := X.box.cell 1
  have hlt := X.box.lt
  have HAL := Lib.hid hal
  have HY := Lib.hid hy
  have hF := S.fits
  unfold fitI at hy
  by_cases h6 : y6 = true
  · subst h6
    by_cases h4 : y4 < 0
    · clear S X hF hal
      go_enter Try.func10, Try.ntmps10
      go_wp2
      go_ret
      exact ⟨_, HY.out, rfl, HAL.out⟩
    · obtain ⟨a, rfl⟩ : ∃ a : Nat, y4 = (a : Int) := ⟨y4.toNat, by omega⟩
      by_cases hl : ms.length = 0
      · have hl0 : ¬ (0 : Int) < (ms.length : Int) := by omega
        clear S X hF hal
        go_enter Try.func10, Try.ntmps10
        go_wp2
        go_ret
        exact ⟨_, HY.out, rfl, HAL.out⟩
      · have hl0 : (0 : Int) < (ms.length : Int) := by omega
        have hix : a % ms.length < ms.length := Nat.mod_lt _ (by omega)
        have e : ms = ms.take (a % ms.length) ++ ms[a % ms.length] :: ms.drop (a % ms.length + 1) := by rw [← List.drop_eq_getElem_cons hix, List.take_append_drop]
        obtain ⟨b, o, rfl, k0, _⟩ := X.cells e
        rw [List.length_take, Nat.min_eq_left (Nat.le_of_lt hix)] at k0
        have hfx : fitI ms[a % ms.length].at_ := by
          have hm : ms[a % ms.length].at_ ∈ adr 0 (things ms) := by
            rw [← S.rf.ats]
            exact List.mem_map.2 ⟨_, List.getElem_mem hix, rfl⟩
          have h9 := adr_low (things ms) 0 _ hm
          have := hF.len
          have := hF.top
          unfold fitI
          omega
        have HFx := Lib.hid hfx
        have hrem : (a : Int) % (ms.length : Int) = ((a % ms.length : Nat) : Int) := by simp
        have hrem2 : (a : Int).tmod (ms.length : Int) = ((a % ms.length : Nat) : Int) := by rw [Int.tmod_eq_emod_of_nonneg (Int.natCast_nonneg a)]; simp
        generalize ms[a % ms.length] = m at *
        generalize a % ms.length = ix at *
        have hix1 : (ix : Int) < (ms.length : Int) := by omega
        have hnz : (ms.length : Int) ≠ 0 := by omega
        have hnz2 : ((ms.length : Int) == 0) = false := by rw [beq_eq_false_iff_ne]; exact hnz
        clear S X hF hal e hfx
        generalize ms.length = L at *
        go_enter Try.func10, Try.ntmps10
        go_wp2_with fail
        go_region
        go_wp2_with fail
        go_ret
        exact ⟨_, HFx.out, rfl, HAL.out.drew⟩
  · have h6' : y6 = false := by simpa using h6
    subst h6'
    clear S X hF hal
    go_enter Try.func10, Try.ntmps10
    go_wp2
    go_ret
    exact ⟨_, HY.out, rfl, HAL.out⟩

/-- how many words, in both -/
theorem used_two {w0 w : World} {g r most N : Nat} (S : SimE w0 w g r most N) (hN : N ≤ 900) : ∃ U : Int, Calls Try.prog 13 #[.pointer (some ⟨g, 0, none⟩)] w (fun e w' => e = .returned (.int .i64 U) ∧ w = w') ∧
    Calls Try.prog 14 #[.pointer (some ⟨r, 0, none⟩)] w (fun e w' => e = .returned (.int .i64 U) ∧ w = w') ∧ Calls Try.prog 15 #[.pointer (some ⟨g, 0, none⟩)] w (fun e w' => e = .returned (.int .i64 (most : Int)) ∧ w = w') := by
  obtain ⟨mb, Aw, cw, Aa, ca, AL, cL, ms, n, f, S, hms, hn⟩ := S
  have := S.fits.len
  have := S.fits.top
  exact ⟨_, used_any S.hp, rused_any S.rf (by omega) (by omega), cap_any S.hp⟩
/-- all words and all addresses, in both -/
theorem ends {w0 w : World} {g r most N : Nat} (S : SimE w0 w g r most N) (hN : N ≤ 900) : ∃ R L : List Int, R.length ≤ 4096 ∧ L.length ≤ 4096 ∧ ∀ W, Below w.heap.size w W →
    Calls Try.prog 17 #[.pointer (some ⟨g, 0, none⟩)] W (fun e w' => ∃ A c, e = .returned (.slice A R.length c) ∧ Rds w' A (R.map (Value.int .i64)) ∧ Below W.heap.size W w') ∧
    Calls Try.prog 18 #[.pointer (some ⟨r, 0, none⟩)] W (fun e w' => ∃ A c, e = .returned (.slice A R.length c) ∧ Rds w' A (R.map (Value.int .i64)) ∧ Below W.heap.size W w') ∧
    Calls Try.prog 19 #[.pointer (some ⟨g, 0, none⟩)] W (fun e w' => ∃ A c, e = .returned (.slice A L.length c) ∧ Rds w' A (L.map (Value.int .i64)) ∧ Below W.heap.size W w') ∧
    Calls Try.prog 20 #[.pointer (some ⟨r, 0, none⟩)] W (fun e w' => ∃ A c, e = .returned (.slice A L.length c) ∧ Rds w' A (L.map (Value.int .i64)) ∧ Below W.heap.size W w') := by
  obtain ⟨mb, Aw, cw, Aa, ca, AL, cL, ms, n, f, S, hms, hn⟩ := S
  have h1 := S.fits.len
  have h2 := S.fits.top
  have h3 := adr_length (things ms) 0
  have hc : ∀ (W : World) (l : List Int) (e : Ending) (w' : World), (∃ v, e = .returned v ∧ OwnI w' W.heap.size v l ∧ Below W.heap.size W w') → ∃ A c, e = .returned (.slice A l.length c) ∧ Rds w' A (l.map (Value.int .i64)) ∧ Below W.heap.size W w' := fun W l e w' h => by
    obtain ⟨v, rfl, q1, q2⟩ := h
    obtain ⟨A, c, rfl, _⟩ := own_slice q1
    exact ⟨A, c, rfl, own_rds q1, q2⟩
  refine ⟨raw (things ms), adr 0 (things ms), by omega, by omega, fun W hb => ⟨(raw_any (S.hp.beside hb) (by omega)).mono (hc W _), (rraw_any (S.rf.beside hb) (by omega) (by omega) (fun m hm => S.fits.ids m.t (List.mem_map.2 ⟨m, hm, rfl⟩))).mono (hc W _), (all_any (S.hp.beside hb) (by omega)).mono (hc W _), ?_⟩⟩
  have h := rall_any (S.rf.beside hb) (by omega)
  rw [S.rf.ats] at h
  exact h.mono (hc W _)

end HpC
end Go.Proofs.Ytfmodaelpldpfaa
