/-
  PoolAdds: what the law returns, walked in the order of its text.
-/
import Derived.Test.YtnkkeifjggcncaaDoorPoolG
import Derived.Test.YtnkkeifjggcncaaDoorPoolU
namespace Go.Proofs.YtnkkeifjggcncaaDoor
namespace WPoolAdds
open Go.RowKit Base BinM Stru PoolM PoolA PoolB PoolK PoolG PoolJ

theorem elemC : (sizeOf (Tryd.prog.elem 38)).run Tryd.prog = fun W => .ok 5 W := by kernel_rfl
theorem sliceC (A : Option Addr) (m c k : Nat) (h : k ≤ c) (W : World) : (Instr.slice 38 (.slice A m c) none (some (.int .i64 (k : Int))) none).run Tryd.prog W = .ok (.slice A k c) W := by
  have hu : Tryd.prog.underlying 38 = some (.slice (Tryd.prog.elem 38)) := by kernel_rfl
  rw [run_slice_h W 38 A m c hu .i64 (k : Int) (by omega) (by omega), elemC]
  cases A <;> simp [Result.andThen, sliced, Addr.add]

/-- what is put in a list more stands behind it -/
theorem addC_ok {q : List Cst} {c : Cst} {p : List Cst} {n e : Int} (h : addC q c = (p, n, e)) (he : e = 0) : p.length ≤ q.length + 1 ∧ ∃ r, p = q ++ r := by
  unfold addC at h
  split at h
  · injection h with h1 h2; injection h2 with h2 h3; omega
  · split at h
    · injection h with h1 h2; subst h1; exact ⟨by omega, [], by simp⟩
    · split at h
      · injection h with h1 h2; injection h2 with h2 h3; omega
      · injection h with h1 h2; subst h1; exact ⟨by simp, [c], rfl⟩

set_option maxRecDepth 100000 in
set_option maxHeartbeats 8000000 in
theorem walk (a0 : Option Addr) (m0 c0 : Nat) (l0 : List Cst) (a1 : Option Addr) (m1 c1 : Nat) (l1 : List Cst) (w : World) (w0 : IsCsts w a0 m0 c0 l0) (_ : ∀ x ∈ l0, x.s.length ≤ 140737488351232 ∧ x.t.length ≤ 140737488351232 ∧ x.u.length ≤ 140737488351232) (w1 : IsCsts w a1 m1 c1 l1) (b1 : ∀ x ∈ l1, x.s.length ≤ 140737488351232 ∧ x.t.length ≤ 140737488351232 ∧ x.u.length ≤ 140737488351232) :
    Calls Tryd.prog 4 #[.slice a0 m0 c0, .slice a1 m1 c1] w fun e w' => e = .returned (.bool true) ∧ Below w.heap.size w w' := by

  have hm0 : l0.length = m0 := w0.len.symm
  have hm1 : l1.length = m1 := w1.len.symm
  have W0 := Lib.hid w0
  have W1 := Lib.hid w1
  have B1 := Lib.hid b1
  clear w0 w1 b1
  by_cases hbig : (300 : Int) < (m0 : Int)
  · go_enter Tryd.func4, Tryd.ntmps4
    go_wp2_with fail
    refine (PoolU.known_any _).mono ?_
    rintro e w9 ⟨rfl, hb9⟩
    go_wp2_with fail
    go_ret
    exact ⟨rfl, hb9⟩
  · by_cases hbig1 : (60 : Int) < (m1 : Int)
    · go_enter Tryd.func4, Tryd.ntmps4
      go_wp2_with fail
      refine (PoolU.known_any _).mono ?_
      rintro e w9 ⟨rfl, hb9⟩
      go_wp2_with fail
      go_ret
      exact ⟨rfl, hb9⟩
    · go_enter Tryd.func4, Tryd.ntmps4
      go_wp2_with fail
      go_loopw [5, 6, 7] (fun x y i wr => ∃ j : Nat, j ≤ m1 ∧ i = .int .i64 j ∧ ∃ (q : List Cst) (A B : Option Addr) (c d : Nat), x = .slice A q.length c ∧ y = .slice B q.length d ∧ IsCsts wr A q.length c q ∧ IsCsts wr B q.length d q ∧ q.length ≤ m0 + j ∧ (∃ r, q = l0 ++ r) ∧ Below w.heap.size w wr) (fun _ _ i _ => m1 - (intOf i).toNat)
      case atStart =>
        have h := W0.out
        rw [← hm0] at h
        exact ⟨0, Nat.zero_le _, rfl, l0, a0, a0, c0, c0, by rw [hm0], by rw [hm0], h, h, by omega, ⟨[], by simp⟩, Below.refl _ _⟩
      case round =>
        obtain ⟨j, hj, rfl, q, A, B, c, d, rfl, rfl, hA, hB, hql, hpre, hbel⟩ := hrel
        have HA := Lib.hid hA
        have HB := Lib.hid hB
        have Hpre := Lib.hid hpre
        have Hbel := Lib.hid hbel
        have hq : q.length ≤ 50000 := by omega
        clear hA hB hpre
        by_cases hlt : j < m1
        · have hja : j < l1.length := by omega
          obtain ⟨b1, o1, rfl, hb1, hd0, hd1, hd2, hd3, hd4⟩ := csts_at (W1.out.rds.below hbel) hja
          have hj1 : (j : Int) < (m1 : Int) := by omega
          have hj0 : (0 : Int) ≤ (j : Int) := by omega
          have Hbx := Lib.hid (show ∀ W', Below w.heap.size w W' → W'.cell? ⟨b1, o1 + j * 5, none⟩ = some (.int .i64 l1[j].kind) ∧ W'.cell? ⟨b1, o1 + j * 5 + 1, none⟩ = some (.int .i64 l1[j].n) ∧ W'.cell? ⟨b1, o1 + j * 5 + 2, none⟩ = some (.string ⟨l1[j].s.toArray⟩) ∧ W'.cell? ⟨b1, o1 + j * 5 + 3, none⟩ = some (.string ⟨l1[j].t.toArray⟩) ∧ W'.cell? ⟨b1, o1 + j * 5 + 4, none⟩ = some (.string ⟨l1[j].u.toArray⟩) by
            intro W' hW'
            obtain ⟨b2, o2, he, _, k0, k1, k2, k3, k4⟩ := csts_at (W1.out.rds.below hW') hja
            injection he with he
            injection he with he1 he2
            subst he1 he2
            exact ⟨k0, k1, k2, k3, k4⟩)
          have hfx := W1.out.fit _ (List.getElem_mem hja)
          have hbx := B1.out _ (List.getElem_mem hja)
          clear hbel
          generalize l1[j] = x at *
          obtain ⟨x0, x1, x2, x3, x4⟩ := x
          simp only at hd0 hd1 hd2 hd3 hd4 hfx hbx
          have Hbx := Lib.hid Hbx.out
          simp only at Hbx
          have hfi := fun (A : Option Addr) (c : Nat) (W : World) (h : IsCsts W A q.length c q) => find_any A q q.length c x0 x1 x2 x3 x4 W h
          have hrfi := fun (A : Option Addr) (c : Nat) (W : World) (h : IsCsts W A q.length c q) => refFind_any A q q.length c x0 x1 x2 x3 x4 W h
          have had := fun (A : Option Addr) (c : Nat) (W : World) (h : IsCsts W A q.length c q) => add_any A q q.length c x0 x1 x2 x3 x4 W h hq hfx.1 hfx.2 (by omega) (by omega) (by omega)
          have hrad := fun (A : Option Addr) (c : Nat) (W : World) (h : IsCsts W A q.length c q) => refAdd_any A q q.length c x0 x1 x2 x3 x4 W h hq hfx.1 hfx.2 (by omega) (by omega) (by omega)
          have hok := fun p n e => @addC_ok q ⟨x0, x1, x2, x3, x4⟩ p n e
          generalize findC q ⟨x0, x1, x2, x3, x4⟩ = F at *
          generalize addC q ⟨x0, x1, x2, x3, x4⟩ = G at *
          obtain ⟨p, n, e⟩ := G
          have hokk := hok p n e rfl
          unfold GivesA at had hrad
          simp only at had hrad
          have hnF : (F != F) = false := by simp
          have hnn : (n != n) = false := by simp
          have hne : (e != e) = false := by simp
          have Hfi := Lib.hid hfi
          have Hrfi := Lib.hid hrfi
          have Had := Lib.hid had
          have Hrad := Lib.hid hrad
          have Hok := Lib.hid hokk
          clear hfi hrfi had hrad hok hokk hfx hbx
          have hB0 := Below.refl wr.heap.size wr
          have hB1 := hB0.drew
          have hwsz := Hbel.out.size
          go_wp2_with fail
          go_region_held3 (fun w' => w'.cell? ⟨b1, o1 + j * 5, none⟩ = some (.int .i64 x0) ∧ w'.cell? ⟨b1, o1 + j * 5 + 1, none⟩ = some (.int .i64 x1) ∧ w'.cell? ⟨b1, o1 + j * 5 + 2, none⟩ = some (.string ⟨x2.toArray⟩) ∧ w'.cell? ⟨b1, o1 + j * 5 + 3, none⟩ = some (.string ⟨x3.toArray⟩) ∧ w'.cell? ⟨b1, o1 + j * 5 + 4, none⟩ = some (.string ⟨x4.toArray⟩))
            (first | go_keep)
            (first
              | (go_at_call 17
                 refine (Hfi.out A c _ (HA.out.below (by assumption))).mono ?_
                 rintro ee wm ⟨rfl, hbm⟩
                 have hBm := Below.trans (B := wr.heap.size) (by assumption) (hbm.mono (Below.size (by assumption)))
                 obtain ⟨hdm0, hdm1, hdm2, hdm3, hdm4⟩ := Hbx.out wm (Hbel.out.trans (hBm.mono hwsz))
                 clear hbm)
              | (go_at_call 18
                 refine (Hrfi.out B d _ (HB.out.below (by assumption))).mono ?_
                 rintro ee wn ⟨rfl, hbn⟩
                 have hBn := Below.trans (B := wr.heap.size) (by assumption) (hbn.mono (Below.size (by assumption)))
                 obtain ⟨hdn0, hdn1, hdn2, hdn3, hdn4⟩ := Hbx.out wn (Hbel.out.trans (hBn.mono hwsz))
                 clear hbn))
          have Hb2 := Lib.hid (Hbel.out.trans (hBn.mono hwsz))
          have HA2 := Lib.hid (HA.out.below hBn)
          have HB2 := Lib.hid (HB.out.below hBn)
          have hs2 := Hb2.out.size
          clear hdm0 hdm1 hdm2 hdm3 hdm4 hd0 hd1 hd2 hd3 hd4 hBm hBn hB0 hB1 Hfi Hrfi
          go_wp2_with fail
          refine Calls.mono (Had.out A c wn HA2.out) ?_
          rintro ee w3 ⟨A3, c3, rfl, hc3, hb3⟩
          have Hb3 := Lib.hid (Hb2.out.trans (hb3.mono hs2))
          have HA3 := Lib.hid (HA2.out.below hb3)
          have HB3 := Lib.hid (HB2.out.below hb3)
          have HP3 := Lib.hid hc3
          have hs3 := Hb3.out.size
          clear hb3 hc3 hdn0 hdn1 hdn2 hdn3 hdn4
          obtain ⟨hd0, hd1, hd2, hd3, hd4⟩ := Hbx.out w3 Hb3.out
          go_wp2_with fail
          refine Calls.mono (Hrad.out B d w3 HB3.out) ?_
          rintro ee w4 ⟨A4, c4, rfl, hc4, hb4⟩
          have Hb4 := Lib.hid (Hb3.out.trans (hb4.mono hs3))
          have HA4 := Lib.hid (HA3.out.below hb4)
          have HB4 := Lib.hid (HB3.out.below hb4)
          have HP4 := Lib.hid (HP3.out.below hb4)
          have HR4 := Lib.hid hc4
          have hs4 := Hb4.out.size
          clear hb4 hc4 hd0 hd1 hd2 hd3 hd4
          go_wp2_with fail
          refine Calls.mono (sameCs_any A3 A4 p p _ _ c3 c4 w4 rfl rfl (Nat.le_trans HP4.out.le HP4.out.max) HP4.out.rds HR4.out.rds) ?_
          rw [decide_eq_true (rfl : p = p)]
          rintro ee w5 ⟨rfl, hb5⟩
          have Hb5 := Lib.hid (Hb4.out.trans (hb5.mono hs4))
          have HA5 := Lib.hid (HA4.out.below hb5)
          have HB5 := Lib.hid (HB4.out.below hb5)
          have HP5 := Lib.hid (HP4.out.below hb5)
          have HR5 := Lib.hid (HR4.out.below hb5)
          clear hb5
          by_cases he : e = 0
          · obtain ⟨hpl, r, hr⟩ := Hok.out he
            obtain ⟨r0, hr0⟩ := Hpre.out
            have Hp2 := Lib.hid (show ∃ r, p = l0 ++ r from ⟨r0 ++ r, by rw [hr, hr0, List.append_assoc]⟩)
            subst he
            clear hr hr0 hnF hnn hne
            have hnn : (n != n) = false := by simp
            go_wp2_with fail
            go_roundw
            case rel => exact ⟨j + 1, by omega, by go_num, p, A3, A4, c3, c4, rfl, rfl, HP5.out, HR5.out, by omega, Hp2.out, Hb5.out⟩
            case measure => simp [intOf]; omega
          · have he1 : (e == 0) = false := by simpa using he
            go_wp2_with fail
            go_roundw
            case rel => exact ⟨j + 1, by omega, by go_num, q, A, B, c, d, rfl, rfl, HA5.out, HB5.out, by omega, Hpre.out, Hb5.out⟩
            case measure => simp [intOf]; omega
        · obtain ⟨r0, hr0⟩ := Hpre.out
          have hlen : m0 ≤ q.length := by rw [hr0, ← hm0]; simp
          have Htk := Lib.hid (show q.take m0 = l0 by rw [hr0, ← hm0]; simp)
          have hge : (m0 : Int) ≤ (q.length : Int) := by omega
          have hnl : ¬ ((q.length : Int) < (m0 : Int)) := by omega
          have hsl := sliceC B q.length d m0 (Nat.le_trans hlen HB.out.le)
          have Hr := Lib.hid (show Rds wr B ((q.take m0).flatMap Cst.vals) by
            rcases HB.out.rds with h | ⟨b, o, hB, hb, hc⟩
            · left
              have h2 := vals_len q
              rw [h] at h2
              have : q.length = 0 := by simp at h2; omega
              have hq0 : q = [] := List.eq_nil_of_length_eq_zero this
              rw [hq0]; simp
            · right
              refine ⟨b, o, hB, hb, fun j u hu => hc j u ?_⟩
              rw [hr0, ← hm0] at hu
              rw [List.take_left'  rfl] at hu
              rw [hr0, List.flatMap_append]
              rw [List.getElem?_append_left (List.getElem?_eq_some_iff.1 hu).1]
              exact hu)
          have Hl := Lib.hid (W0.out.below hbel)
          have hwsz := hbel.size
          clear hbel hr0
          go_wp2_with fail
          refine Calls.mono (sameCs_any B a0 l0 l0 m0 m0 d c0 wr hm0.symm hm0.symm (Nat.le_trans W0.out.le W0.out.max) (by have h := Hr.out; rw [Htk.out] at h; exact h) Hl.out.rds) ?_
          rw [decide_eq_true (rfl : l0 = l0)]
          rintro ee w5 ⟨rfl, hb5⟩
          have Hb5 := Lib.hid (Hbel.out.trans (hb5.mono hwsz))
          clear hb5
          go_wp2_with fail
          refine (PoolU.known_any _).mono ?_
          rintro ee w9 ⟨rfl, hb9⟩
          have Hb9 := Lib.hid (Hb5.out.trans (hb9.mono Hb5.out.size))
          clear hb9
          go_wp2_with fail
          go_ret
          exact ⟨rfl, Hb9.out⟩

end WPoolAdds
end Go.Proofs.YtnkkeifjggcncaaDoor
