/-
  What an instruction means with its constant, and whether two mean the same (delta.meant, alike); slices.EqualFunc over code; delta.Same.
-/
import Derived.Test.YtiagjnimafdbhaaGreatDoorG29
import Derived.Test.YtiagjnimafdbhaaGreatDoorG30
namespace Go.Proofs.YtiagjnimafdbhaaGreatDoor
namespace DlA
open Go.RowKit Base BinM Stru PoolM InsM DescM DescW DescX HierS HierT HierM HierC HierD HierN Kls KlsP KlsQ TabC TabM TabK TabP TabE TabB TabG TabH TabT TabU TabI TabV TabCl TabHc

def noK : Cst := ⟨0, 0, [], [], []⟩
/-- an instruction's constant, if it has one -/
def meanP (ks : List Cst) (x : InsT) : InsT × Cst × Bool :=
  if kindI x.1 < 1 ∨ 5 < kindI x.1 then (x, noK, true) else if 0 ≤ x.2 ∧ x.2 < ks.length then ((x.1, 0), ks.getD x.2.toNat noK, true) else ((0, 0), noK, false)
def meanV (x : InsT) (c : Cst) : Value := .agg #[.int .i64 x.1, .int .i64 x.2, .int .i64 c.kind, .int .i64 c.n, .string ⟨c.s.toArray⟩, .string ⟨c.t.toArray⟩, .string ⟨c.u.toArray⟩]
def alikeB (ks : List Cst) (x : InsT) (qs : List Cst) (y : InsT) : Bool := (meanP ks x).2.2 && (meanP qs y).2.2 && insEqb (meanP ks x).1 (meanP qs y).1 && sameC (meanP ks x).2.1 (meanP qs y).2.1
theorem sizeMean : (Tryz.prog.info? 189).map (·.size) = some 7 := by kernel_rfl
set_option maxRecDepth 100000 in
set_option maxHeartbeats 4000000 in
theorem meant_any (k : ClsT) (x : InsT) (w : World) (hk : k.is w) (hL : InsA.Laid w) (hx : fitI x.1 ∧ fitI x.2) :
    Calls Tryz.prog 108 #[.agg #[.string ⟨k.name.toArray⟩, .string ⟨k.sup.toArray⟩, .slice k.kA k.km k.kc, .slice k.fA k.fm k.fc, .slice k.mA k.mm k.mc], .agg #[.int .i64 x.1, .int .i64 x.2]] w fun e w' => e = .returned (.tuple #[meanV (meanP k.consts x).1 (meanP k.consts x).2.1, .bool (meanP k.consts x).2.2]) ∧ Below w.heap.size w w' := by
  obtain ⟨op, a⟩ := x
  simp only at hx ⊢
  obtain ⟨kn, ks, kA, km, kc, fA, fm, fc, mA, mm, mc, kcs, kfs, kms⟩ := k
  have hb1 : Below w.heap.size w (w.alloc (.cells #[.string ⟨kn.toArray⟩, .string ⟨ks.toArray⟩, .slice kA km kc, .slice fA fm fc, .slice mA mm mc] 43)) := (Below.refl _ _).alloc (Nat.le_refl _) _
  have hb2 := hb1.alloc hb1.size (.cells #[.int .i64 op, .int .i64 a] 57)
  have hb3 := hb2.alloc hb2.size (.cells #[.int .i64 0, .int .i64 0, .int .i64 0, .int .i64 0, .string ⟨#[]⟩, .string ⟨#[]⟩, .string ⟨#[]⟩] 189)
  have HK := Lib.hid (InsA.kind_any op _ (hL.below hb3 hL.1))
  have HB := Lib.hid hb3
  have hkl : km ≤ kcs.length := Nat.le_of_eq hk.consts.len
  have hkl2 : kcs.length ≤ km := Nat.le_of_eq hk.consts.len.symm
  have hkm := hk.consts.max
  have HR := Lib.hid (hk.consts.rds.below hb3)
  have HM := Lib.hid (show meanP kcs (op, a) = if kindI op < 1 ∨ 5 < kindI op then ((op, a), noK, true) else if 0 ≤ a ∧ a < kcs.length then ((op, 0), kcs.getD a.toNat noK, true) else ((0, 0), noK, false) from rfl)
  simp only at hkm HR ⊢
  clear hb1 hb2 hb3 hk hL
  generalize meanP kcs (op, a) = R at *
  generalize kindI op = kd at *
  have hbx : ∀ (v0 v1 v2 v3 v4 v5 v6 : Value), Bx (((w.alloc (.cells #[.string ⟨kn.toArray⟩, .string ⟨ks.toArray⟩, .slice kA km kc, .slice fA fm fc, .slice mA mm mc] 43)).alloc (.cells #[.int .i64 op, .int .i64 a] 57)).alloc (.cells #[v0, v1, v2, v3, v4, v5, v6] 189)) (w.heap.size + 1 + 1) #[v0, v1, v2, v3, v4, v5, v6] 189 := fun v0 v1 v2 v3 v4 v5 v6 => by
    have h := Bx.new ((w.alloc (.cells #[.string ⟨kn.toArray⟩, .string ⟨ks.toArray⟩, .slice kA km kc, .slice fA fm fc, .slice mA mm mc] 43)).alloc (.cells #[.int .i64 op, .int .i64 a] 57)) #[v0, v1, v2, v3, v4, v5, v6] 189
    have e : ((w.alloc (.cells #[.string ⟨kn.toArray⟩, .string ⟨ks.toArray⟩, .slice kA km kc, .slice fA fm fc, .slice mA mm mc] 43)).alloc (.cells #[.int .i64 op, .int .i64 a] 57)).heap.size = w.heap.size + 1 + 1 := by simp
    rw [e] at h
    exact h
  have hbl : ∀ (v0 v1 v2 v3 v4 v5 v6 : Value), Below w.heap.size w (((w.alloc (.cells #[.string ⟨kn.toArray⟩, .string ⟨ks.toArray⟩, .slice kA km kc, .slice fA fm fc, .slice mA mm mc] 43)).alloc (.cells #[.int .i64 op, .int .i64 a] 57)).alloc (.cells #[v0, v1, v2, v3, v4, v5, v6] 189)) := fun _ _ _ _ _ _ _ => (((Below.refl _ _).alloc (Nat.le_refl _) _).alloc (by simp) _).alloc (by simp; omega) _
  have HBx := Lib.hid hbx
  have HBl := Lib.hid hbl
  clear hbx hbl
  by_cases h1 : kd < 1
  · have HR := Lib.hid (show R = ((op, a), noK, true) by rw [HM.out, if_pos (.inl h1)])
    rw [HR.out]
    go_enter Tryz.func108, Tryz.ntmps108
    go_wp2_with fail
    refine HK.out.mono ?_
    rintro e w' ⟨rfl, rfl⟩
    go_wp2_with fail
    exact bodyPost_ret (v := .tuple #[meanV (op, a) noK, .bool true]) (result2 Tryz.results108 _ _ _ _ rfl (run_loadVar_row _ _ _ _ #[.int .i64 op, .int .i64 a, .int .i64 0, .int .i64 0, .string ⟨#[]⟩, .string ⟨#[]⟩, .string ⟨#[]⟩] (0, 0) _ (HBx.out _ _ _ _ _ _ _) Tryz.underlying189 rfl sizeMean)) rfl ⟨rfl, HBl.out _ _ _ _ _ _ _⟩
  · by_cases h5 : 5 < kd
    · have HR := Lib.hid (show R = ((op, a), noK, true) by rw [HM.out, if_pos (.inr h5)])
      rw [HR.out]
      go_enter Tryz.func108, Tryz.ntmps108
      go_wp2_with fail
      refine HK.out.mono ?_
      rintro e w' ⟨rfl, rfl⟩
      go_wp2_with fail
      exact bodyPost_ret (v := .tuple #[meanV (op, a) noK, .bool true]) (result2 Tryz.results108 _ _ _ _ rfl (run_loadVar_row _ _ _ _ #[.int .i64 op, .int .i64 a, .int .i64 0, .int .i64 0, .string ⟨#[]⟩, .string ⟨#[]⟩, .string ⟨#[]⟩] (0, 0) _ (HBx.out _ _ _ _ _ _ _) Tryz.underlying189 rfl sizeMean)) rfl ⟨rfl, HBl.out _ _ _ _ _ _ _⟩
    · by_cases h0 : a < 0
      · have HR := Lib.hid (show R = ((0, 0), noK, false) by rw [HM.out, if_neg (by omega), if_neg (by omega)])
        rw [HR.out]
        go_enter Tryz.func108, Tryz.ntmps108
        go_wp2_with fail
        refine HK.out.mono ?_
        rintro e w' ⟨rfl, rfl⟩
        go_wp2_with fail
        exact bodyPost_ret (v := .tuple #[meanV (0, 0) noK, .bool false]) (result2 Tryz.results108 _ _ _ _ rfl (run_loadVar_row _ _ _ _ #[.int .i64 0, .int .i64 0, .int .i64 0, .int .i64 0, .string ⟨#[]⟩, .string ⟨#[]⟩, .string ⟨#[]⟩] (0, 0) _ (HBx.out _ _ _ _ _ _ _) Tryz.underlying189 rfl sizeMean)) rfl ⟨rfl, HBl.out _ _ _ _ _ _ _⟩
      · by_cases hlt : a < (kcs.length : Int)
        · obtain ⟨j, rfl⟩ : ∃ j : Nat, a = (j : Int) := ⟨a.toNat, by omega⟩
          have hj : j < kcs.length := by omega
          have hjm : (j : Int) < (km : Int) := by omega
          have hj0 : (0 : Int) ≤ (j : Int) := by omega
          have hjn : ¬ (km : Int) ≤ (j : Int) := by omega
          obtain ⟨g, o, rfl, hg, d0, d1, d2, d3, d4⟩ := csts_at HR.out hj
          have hR : R = ((op, 0), kcs[j], true) := by rw [HM.out, if_neg (by omega), if_pos ⟨hj0, hlt⟩, Int.toNat_natCast, List.getD_eq_getElem?_getD, List.getElem?_eq_getElem hj]; rfl
          rw [hR]
          clear HM hR HR
          generalize kcs[j] = c at *
          obtain ⟨c0, c1, c2, c3, c4⟩ := c
          simp only at d0 d1 d2 d3 d4
          go_enter Tryz.func108, Tryz.ntmps108
          go_wp2_with fail
          refine HK.out.mono ?_
          rintro e w' ⟨rfl, rfl⟩
          go_wp2_with fail
          go_region
          go_wp2_with fail
          exact bodyPost_ret (v := .tuple #[meanV (op, 0) ⟨c0, c1, c2, c3, c4⟩, .bool true]) (result2 Tryz.results108 _ _ _ _ rfl (run_loadVar_row _ _ _ _ #[.int .i64 op, .int .i64 0, .int .i64 c0, .int .i64 c1, .string ⟨c2.toArray⟩, .string ⟨c3.toArray⟩, .string ⟨c4.toArray⟩] (0, 0) _ (TabHc.bx_drew (HBx.out _ _ _ _ _ _ _)) Tryz.underlying189 rfl sizeMean)) rfl ⟨rfl, (HBl.out _ _ _ _ _ _ _).drew⟩
        · have HR := Lib.hid (show R = ((0, 0), noK, false) by rw [HM.out, if_neg (by omega), if_neg (by omega)])
          have hge : (km : Int) ≤ a := by omega
          have hge2 : ¬ a < (km : Int) := by omega
          rw [HR.out]
          go_enter Tryz.func108, Tryz.ntmps108
          go_wp2_with fail
          refine HK.out.mono ?_
          rintro e w' ⟨rfl, rfl⟩
          go_wp2_with fail
          exact bodyPost_ret (v := .tuple #[meanV (0, 0) noK, .bool false]) (result2 Tryz.results108 _ _ _ _ rfl (run_loadVar_row _ _ _ _ #[.int .i64 0, .int .i64 0, .int .i64 0, .int .i64 0, .string ⟨#[]⟩, .string ⟨#[]⟩, .string ⟨#[]⟩] (0, 0) _ (HBx.out _ _ _ _ _ _ _) Tryz.underlying189 rfl sizeMean)) rfl ⟨rfl, HBl.out _ _ _ _ _ _ _⟩

set_option maxRecDepth 100000 in
/-- the same meaning -/
theorem eq_mean (a b : Int) (c : Cst) (a' b' : Int) (c' : Cst) (W : World) : (Op.equalIn 10000 189 (meanV (a, b) c) (meanV (a', b') c')).run Tryz.prog W = .ok (insEqb (a, b) (a', b') && sameC c c') W := by
  have u2 := Tryz.underlying2
  have a2 := Tryz.isAgg2
  have z2 := Tryz.sizeOf2
  have u3 := Tryz.underlying3
  have a3 := Tryz.isAgg3
  have z3 := Tryz.sizeOf3
  have u9 := Tryz.underlying9
  have a9 := Tryz.isAgg9
  have z9 := Tryz.sizeOf9
  have hS : Tryz.prog.underlying 189 = some (.struct (Tryz.prog.fieldsOf 189)) := by kernel_rfl
  have hp : Tryz.prog.stoodInHeld 189 = false := by kernel_rfl
  obtain ⟨k, n, s, t, u⟩ := c
  obtain ⟨k', n', s', t', u'⟩ := c'
  unfold meanV
  rw [show (10000 : Nat) = 9999 + 1 from rfl, run_equalIn_agg W 9999 189 _ _ hS hp]
  simp only [Program.fieldsOf, Tryz.underlying189]
  go_simp
  unfold insEqb sameC
  by_cases h0 : a = a' <;> by_cases h00 : b = b' <;> by_cases h1 : k = k' <;> by_cases h2 : n = n' <;> by_cases h3 : s = s' <;> by_cases h4 : t = t' <;> by_cases h5 : u = u' <;> simp [h0, h00, h1, h2, h3, h4, h5]
def clsA (k : ClsT) : Array Value := #[.string ⟨k.name.toArray⟩, .string ⟨k.sup.toArray⟩, .slice k.kA k.km k.kc, .slice k.fA k.fm k.fc, .slice k.mA k.mm k.mc]
set_option maxRecDepth 100000 in
set_option maxHeartbeats 4000000 in
theorem alike_any (k : ClsT) (x : InsT) (l : ClsT) (y : InsT) (w : World) (hk : k.is w) (hl : l.is w) (hL : InsA.Laid w) (hx : fitI x.1 ∧ fitI x.2) (hy : fitI y.1 ∧ fitI y.2) :
    Calls Tryz.prog 53 #[.agg (clsA k), .agg #[.int .i64 x.1, .int .i64 x.2], .agg (clsA l), .agg #[.int .i64 y.1, .int .i64 y.2]] w fun e w' => e = .returned (.bool (alikeB k.consts x l.consts y)) ∧ Below w.heap.size w w' := by
  have hb1 : Below w.heap.size w (w.alloc (.cells (clsA k) 43)) := (Below.refl _ _).alloc (Nat.le_refl _) _
  have hb2 := hb1.alloc hb1.size (.cells #[.int .i64 x.1, .int .i64 x.2] 57)
  have hb3 := hb2.alloc hb2.size (.cells (clsA l) 43)
  have hb4 := hb3.alloc hb3.size (.cells #[.int .i64 y.1, .int .i64 y.2] 57)
  have HM1 := Lib.hid (meant_any k x _ (hk.below hb4) (hL.below hb4 hL.1) hx)
  have HM2 := Lib.hid (fun W (hb : Below w.heap.size w W) => meant_any l y W (hl.below hb) (hL.below hb hL.1) hy)
  have HA := Lib.hid (show alikeB k.consts x l.consts y = ((meanP k.consts x).2.2 && (meanP l.consts y).2.2 && insEqb (meanP k.consts x).1 (meanP l.consts y).1 && sameC (meanP k.consts x).2.1 (meanP l.consts y).2.1) from rfl)
  have e1 : (w.alloc (.cells (clsA k) 43)).heap.size = w.heap.size + 1 := by simp
  have e2 : ((w.alloc (.cells (clsA k) 43)).alloc (.cells #[.int .i64 x.1, .int .i64 x.2] 57)).heap.size = w.heap.size + 1 + 1 := by simp
  have e3 : (((w.alloc (.cells (clsA k) 43)).alloc (.cells #[.int .i64 x.1, .int .i64 x.2] 57)).alloc (.cells (clsA l) 43)).heap.size = w.heap.size + 1 + 1 + 1 := by simp
  have x3 := TabZ.bx_al (Bx.new ((w.alloc (.cells (clsA k) 43)).alloc (.cells #[.int .i64 x.1, .int .i64 x.2] 57)) (clsA l) 43) (.cells #[.int .i64 y.1, .int .i64 y.2] 57)
  have x4 := Bx.new (((w.alloc (.cells (clsA k) 43)).alloc (.cells #[.int .i64 x.1, .int .i64 x.2] 57)).alloc (.cells (clsA l) 43)) #[.int .i64 y.1, .int .i64 y.2] 57
  rw [e2] at x3
  rw [e3] at x4
  have X3 := Lib.hid x3
  have X4 := Lib.hid x4
  have HB4 := Lib.hid hb4
  clear hb1 hb2 hb3 hb4 e1 e2 e3 x3 x4 hk hl hL hx hy
  generalize alikeB k.consts x l.consts y = R at *
  generalize meanP k.consts x = P at *
  generalize meanP l.consts y = Q at *
  obtain ⟨⟨p0, p1⟩, pc, pb⟩ := P
  obtain ⟨⟨q0, q1⟩, qc, qb⟩ := Q
  obtain ⟨x0, x1⟩ := x
  obtain ⟨y0, y1⟩ := y
  unfold clsA at *
  simp only at HM1 HM2 HA ⊢
  have HEq := Lib.hid (fun W => eq_mean p0 p1 pc q0 q1 qc W)
  unfold meanV at HEq HM1 HM2
  go_enter Tryz.func53, Tryz.ntmps53
  go_wp2_with fail
  refine HM1.out.mono ?_
  rintro e w5 ⟨rfl, hb5⟩
  have HB5 := Lib.hid (HB4.out.trans (hb5.mono HB4.out.size))
  have hal := (Below.refl w5.heap.size w5).alloc (Nat.le_refl _) (.cells #[.int .i64 p0, .int .i64 p1, .int .i64 pc.kind, .int .i64 pc.n, .string ⟨pc.s.toArray⟩, .string ⟨pc.t.toArray⟩, .string ⟨pc.u.toArray⟩] 189)
  have HB6 := Lib.hid (HB5.out.trans (hal.mono HB5.out.size))
  have r3 := ((X3.out.after hb5).after hal)
  have r4 := ((X4.out.after hb5).after hal)
  have a0 := r3.cell 0
  have a1 := r3.cell 1
  have a2 := r3.cell 2
  have a3 := r3.cell 3
  have a4 := r3.cell 4
  have b0 := r4.cell 0
  have b1 := r4.cell 1
  have l4 := r4.lt
  have l3 := r3.lt
  have X5 := Lib.hid (Bx.new w5 #[.int .i64 p0, .int .i64 p1, .int .i64 pc.kind, .int .i64 pc.n, .string ⟨pc.s.toArray⟩, .string ⟨pc.t.toArray⟩, .string ⟨pc.u.toArray⟩] 189)
  clear hb5 hal r3 r4
  go_wp2_with fail
  refine (HM2.out _ HB6.out).mono ?_
  rintro e w7 ⟨rfl, hb7⟩
  have HB7 := Lib.hid (HB6.out.trans (hb7.mono HB6.out.size))
  have r5 := X5.out.after hb7
  have m0 := r5.cell 0
  have m1 := r5.cell 1
  have m2 := r5.cell 2
  have m3 := r5.cell 3
  have m4 := r5.cell 4
  have m5 := r5.cell 5
  have m6 := r5.cell 6
  have l5 := r5.lt
  have he := HEq.out
  have HBF := Lib.hid (HB7.out.alloc HB7.out.size (.cells #[.int .i64 q0, .int .i64 q1, .int .i64 qc.kind, .int .i64 qc.n, .string ⟨qc.s.toArray⟩, .string ⟨qc.t.toArray⟩, .string ⟨qc.u.toArray⟩] 189))
  clear hb7 r5 a0 a1 a2 a3 a4 b0 b1 l4 l3
  cases pb
  · have HR := Lib.hid (show R = false by rw [HA.out]; rfl)
    go_wp2_with fail
    go_ret
    exact ⟨InsA.ret_bool HR.out.symm, HBF.out⟩
  · cases qb
    · have HR := Lib.hid (show R = false by rw [HA.out]; rfl)
      go_wp2_with fail
      go_ret
      exact ⟨InsA.ret_bool HR.out.symm, HBF.out⟩
    · have HR := Lib.hid (show R = (insEqb (p0, p1) (q0, q1) && sameC pc qc) by rw [HA.out]; simp)
      obtain ⟨pk, pn, ps, pt, pu⟩ := pc
      obtain ⟨qk, qn, qs, qt, qu⟩ := qc
      simp only at m2 m3 m4 m5 m6 he HBF HR ⊢
      generalize (insEqb (p0, p1) (q0, q1) && sameC ⟨pk, pn, ps, pt, pu⟩ ⟨qk, qn, qs, qt, qu⟩) = D at *
      go_wp2_with fail
      go_ret
      exact ⟨InsA.ret_bool HR.out.symm, HBF.out⟩

set_option maxRecDepth 100000 in
set_option maxHeartbeats 1000000 in
/-- Same's own function -/
theorem cloS_any (k : ClsT) (x : InsT) (l : ClsT) (y : InsT) (g1 g2 : Nat) (w : World) (hk : k.is w) (hl : l.is w) (hL : InsA.Laid w) (hx : fitI x.1 ∧ fitI x.2) (hy : fitI y.1 ∧ fitI y.2) (h1 : Bx w g1 (clsA k) 43) (h2 : Bx w g2 (clsA l) 43) :
    Calls Tryz.prog 52 #[.agg #[.int .i64 x.1, .int .i64 x.2], .agg #[.int .i64 y.1, .int .i64 y.2], .pointer (some ⟨g1, 0, none⟩), .pointer (some ⟨g2, 0, none⟩)] w fun e w' => e = .returned (.bool (alikeB k.consts x l.consts y)) ∧ Below w.heap.size w w' := by
  have hb1 := (Below.refl w.heap.size w).alloc (Nat.le_refl _) (.cells #[.int .i64 x.1, .int .i64 x.2] 57)
  have hb2 := hb1.alloc hb1.size (.cells #[.int .i64 y.1, .int .i64 y.2] 57)
  have HA := Lib.hid (alike_any k x l y _ (hk.below hb2) (hl.below hb2) (hL.below hb2 hL.1) hx hy)
  have HB2 := Lib.hid hb2
  have r1 := h1.after hb2
  have r2 := h2.after hb2
  have l1 := h1.lt
  have l2 := h2.lt
  clear hb1 hb2 hk hl hL hx hy
  generalize alikeB k.consts x l.consts y = R at *
  unfold clsA at *
  have a0 := r1.cell 0
  have a1 := r1.cell 1
  have a2 := r1.cell 2
  have a3 := r1.cell 3
  have a4 := r1.cell 4
  have b0 := r2.cell 0
  have b1 := r2.cell 1
  have b2 := r2.cell 2
  have b3 := r2.cell 3
  have b4 := r2.cell 4
  have c0 := h1.cell 0
  have c1 := h1.cell 1
  have c2 := h1.cell 2
  have c3 := h1.cell 3
  have c4 := h1.cell 4
  have d0 := h2.cell 0
  have d1 := h2.cell 1
  have d2 := h2.cell 2
  have d3 := h2.cell 3
  have d4 := h2.cell 4
  clear h1 h2 r1 r2
  go_enter Tryz.func52, Tryz.ntmps52
  go_wp2_with fail
  refine HA.out.mono ?_
  rintro e w3 ⟨rfl, hb3⟩
  have HB3 := Lib.hid (HB2.out.trans (hb3.mono HB2.out.size))
  clear hb3
  go_wp2_with fail
  go_ret
  exact ⟨rfl, HB3.out⟩
/-- two codes that mean the same -/
def codeB (ks : List Cst) (xs : List InsT) (qs : List Cst) (ys : List InsT) : Bool := decide (xs.length = ys.length) && (List.range xs.length).all fun j => alikeB ks (xs.getD j (0, 0)) qs (ys.getD j (0, 0))
theorem code_len {ks : List Cst} {xs : List InsT} {qs : List Cst} {ys : List InsT} (h : xs.length ≠ ys.length) : codeB ks xs qs ys = false := by unfold codeB; rw [decide_eq_false h]; rfl
theorem code_no {ks : List Cst} {xs : List InsT} {qs : List Cst} {ys : List InsT} {j : Nat} (hj : j < xs.length) (h : alikeB ks (xs.getD j (0, 0)) qs (ys.getD j (0, 0)) = false) : codeB ks xs qs ys = false := by
  unfold codeB
  rw [Bool.and_eq_false_iff]
  right
  rw [List.all_eq_false]
  exact ⟨j, List.mem_range.2 hj, by rw [h]; simp⟩
theorem code_yes {ks : List Cst} {xs : List InsT} {qs : List Cst} {ys : List InsT} (hl : xs.length = ys.length) (h : ∀ j, j < xs.length → alikeB ks (xs.getD j (0, 0)) qs (ys.getD j (0, 0)) = true) : codeB ks xs qs ys = true := by
  unfold codeB
  rw [decide_eq_true hl, Bool.true_and, List.all_eq_true]
  exact fun j hj => h j (List.mem_range.1 hj)

set_option maxRecDepth 100000 in
set_option maxHeartbeats 4000000 in
theorem equalCode_any (k l : ClsT) (g1 g2 : Nat) (A B : Option Addr) (xs ys : List InsT) (c d : Nat) (w : World) (hk : k.is w) (hl : l.is w) (hL : InsA.Laid w) (hx : ∀ x ∈ xs, fitI x.1 ∧ fitI x.2) (hy : ∀ x ∈ ys, fitI x.1 ∧ fitI x.2) (h1 : Bx w g1 (clsA k) 43) (h2 : Bx w g2 (clsA l) 43)
    (hmx : xs.length ≤ 1000000) (hr : Rds w A (xs.flatMap insV)) (hr2 : Rds w B (ys.flatMap insV)) :
    Calls Tryz.prog 51 #[.slice A xs.length c, .slice B ys.length d, .func (.func 52) #[] #[.pointer (some ⟨g1, 0, none⟩), .pointer (some ⟨g2, 0, none⟩)]] w fun e w' => e = .returned (.bool (codeB k.consts xs l.consts ys)) ∧ Below w.heap.size w w' := by
  have eg : ∀ args w, (callFunc 52 args).run Tryz.prog w = .ok (.enter 52 args) w := enters_of Tryz.func52 (by kernel_rfl) rfl
  have Hr := Lib.hid hr
  have Hr2 := Lib.hid hr2
  have Z := Lib.hid (Below.refl w.heap.size w)
  have HC := Lib.hid (fun W (hb : Below w.heap.size w W) (x y : InsT) (hx : fitI x.1 ∧ fitI x.2) (hy : fitI y.1 ∧ fitI y.2) => cloS_any k x l y g1 g2 W (hk.below hb) (hl.below hb) (hL.below hb hL.1) hx hy (h1.after hb) (h2.after hb))
  have Hx := Lib.hid hx
  have Hy := Lib.hid hy
  clear hr hr2 hk hl hL hx hy h1 h2
  by_cases hmk : xs.length = ys.length
  · have hb : ((xs.length : Int) != (ys.length : Int)) = false := by rw [hmk]; simp
    have hkm : ys.length ≤ xs.length := by omega
    have hmk' : xs.length ≤ ys.length := by omega
    have Hmk := Lib.hid hmk
    have HNo := Lib.hid (fun (j : Nat) (hj : j < xs.length) h => code_no (ks := k.consts) (xs := xs) (qs := l.consts) (ys := ys) hj h)
    have HYes := Lib.hid (fun h => code_yes (ks := k.consts) (xs := xs) (qs := l.consts) (ys := ys) hmk h)
    clear hmk
    generalize codeB k.consts xs l.consts ys = R at *
    go_enter Tryz.func51, Tryz.ntmps51
    go_wp2_with fail
    go_loopw [7, 17] (fun _ i wr => ∃ j : Nat, j ≤ xs.length ∧ i = .int .i64 j ∧ Hid (∀ q, q < j → alikeB k.consts (xs.getD q (0, 0)) l.consts (ys.getD q (0, 0)) = true) ∧ Below w.heap.size w wr) (fun _ i _ => xs.length - (intOf i).toNat)
    case atStart => exact ⟨0, Nat.zero_le _, rfl, Lib.hid (fun q hq => by omega), Below.refl _ _⟩
    case round =>
      obtain ⟨j, hj, rfl, Hsame, hbel⟩ := hrel
      have Hbel := Lib.hid hbel
      have hsz := hbel.size
      by_cases hlt : j < xs.length
      · have hjb : j < ys.length := by omega
        obtain ⟨b1, o1, rfl, hb1, c0, c1⟩ := code_at (Hr.out.below hbel) hlt
        obtain ⟨b2, o2, rfl, hb2, d0, d1⟩ := code_at (Hr2.out.below hbel) hjb
        have hj1 : (j : Int) < (xs.length : Int) := by omega
        have hj2 : (j : Int) < (ys.length : Int) := by omega
        have hj0 : (0 : Int) ≤ (j : Int) := by omega
        have e1 : xs.getD j (0, 0) = xs[j] := by rw [List.getD_eq_getElem?_getD, List.getElem?_eq_getElem hlt]; rfl
        have e2 : ys.getD j (0, 0) = ys[j] := by rw [List.getD_eq_getElem?_getD, List.getElem?_eq_getElem hjb]; rfl
        have HNj := Lib.hid (HNo.out j hlt)
        have HYj : Hid (alikeB k.consts xs[j] l.consts ys[j] = true → ∀ q, q < j + 1 → alikeB k.consts (xs.getD q (0, 0)) l.consts (ys.getD q (0, 0)) = true) := Lib.hid (fun hh q hq => by
          rcases Nat.lt_succ_iff_lt_or_eq.1 hq with h | h
          · exact Hsame.out q h
          · subst h; rw [e1, e2]; exact hh)
        rw [e1, e2] at HNj
        have Hclo := Lib.hid (fun W hb => HC.out W hb xs[j] ys[j] (Hx.out _ (List.getElem_mem hlt)) (Hy.out _ (List.getElem_mem hjb)))
        clear hbel e1 e2
        generalize xs[j] = x at *
        generalize ys[j] = y at *
        generalize alikeB k.consts x l.consts y = D at *
        obtain ⟨x0, x1⟩ := x
        obtain ⟨y0, y1⟩ := y
        simp only at c0 c1 d0 d1 Hclo
        have hAl : Below w.heap.size w ((wr.alloc (.cells #[.int .i64 x0, .int .i64 x1] 57)).alloc (.cells #[.int .i64 y0, .int .i64 y1] 57)) := (Hbel.out.alloc hsz _).alloc (by simp; omega) _
        have HAl := Lib.hid hAl
        clear hAl
        go_wp2_with fail
        refine Calls.mono (Hclo.out _ HAl.out) ?_
        rintro e w3 ⟨rfl, hb3⟩
        have B3 := Lib.hid (HAl.out.trans (hb3.mono HAl.out.size))
        clear hb3
        cases D
        · have Hq := Lib.hid (HNj.out rfl)
          go_wp2_with fail
          go_ret
          exact ⟨InsA.ret_bool Hq.out.symm, B3.out⟩
        · have Hq := Lib.hid (HYj.out rfl)
          go_wp2_with fail
          go_roundw
          case rel => exact ⟨j + 1, by omega, by go_num, Hq, B3.out⟩
          case measure => simp [intOf]; omega
      · have Hfin := Lib.hid (HYes.out (fun q hq => Hsame.out q (by omega)))
        clear hbel
        go_wp2_with fail
        go_ret
        exact ⟨InsA.ret_bool Hfin.out.symm, Hbel.out⟩
  · have hb : ((xs.length : Int) != (ys.length : Int)) = true := by simp; omega
    have Hfin := Lib.hid (code_len (ks := k.consts) (qs := l.consts) hmk)
    generalize codeB k.consts xs l.consts ys = R at *
    clear hmk
    go_enter Tryz.func51, Tryz.ntmps51
    go_wp2_with fail
    go_ret
    exact ⟨InsA.ret_bool Hfin.out.symm, Z.out⟩

/-- whether two classes' own methods do the same -/
def sameB (x : ClsT) (m : T) (y : ClsT) (n : T) : Bool :=
  (ownP x m).2 && (ownP y n).2 && ((ownP x m).1.sig == (ownP y n).1.sig) && ((ownP x m).1.locals == (ownP y n).1.locals) && decide ((ownP x m).1.hand = (ownP y n).1.hand) && codeB x.consts (ownP x m).1.code y.consts (ownP y n).1.code

set_option maxRecDepth 100000 in
set_option maxHeartbeats 8000000 in
theorem same_any (x : ClsT) (m : T) (y : ClsT) (n : T) (w : World) (hx : x.is w) (hy : y.is w) (hL : InsA.Laid w) (hxs : ∀ z ∈ x.meths, z.code.length ≤ 100000 ∧ z.hand.length ≤ 100000) (hys : ∀ z ∈ y.meths, z.code.length ≤ 100000 ∧ z.hand.length ≤ 100000) :
    Calls Tryz.prog 18 #[.agg (clsA x), .string ⟨m.toArray⟩, .agg (clsA y), .string ⟨n.toArray⟩] w fun e w' => e = .returned (.bool (sameB x m y n)) ∧ Below w.heap.size w w' := by
  have hb1 := (Below.refl w.heap.size w).alloc (Nat.le_refl _) (.cells (clsA x) 43)
  have hb2 := hb1.alloc hb1.size (.cells (clsA y) 43)
  have e1 : (w.alloc (.cells (clsA x) 43)).heap.size = w.heap.size + 1 := by simp
  have x1 := TabZ.bx_al (Bx.new w (clsA x) 43) (.cells (clsA y) 43)
  have x2 := Bx.new (w.alloc (.cells (clsA x) 43)) (clsA y) 43
  rw [e1] at x2
  have HM1 := Lib.hid (fun W (hb : Below w.heap.size w W) => atM_any x m W (hx.below hb))
  have HM2 := Lib.hid (fun W (hb : Below w.heap.size w W) => atM_any y n W (hy.below hb))
  have X1 := Lib.hid x1
  have X2 := Lib.hid x2
  have HB2 := Lib.hid hb2
  have HX := Lib.hid hx
  have HY := Lib.hid hy
  unfold ClsT.V at HM1 HM2
  unfold clsA at X1 X2 HB2 ⊢
  clear hb1 hb2 x1 x2 e1
  have HP1 := Lib.hid (findP_cases (nameM m) x.meths)
  have HP2 := Lib.hid (findP_cases (nameM n) y.meths)
  generalize hk1 : findP (nameM m) x.meths = k1 at *
  generalize hk2 : findP (nameM n) y.meths = k2 at *
  have HK := Lib.hid (And.intro hk1 hk2)
  clear hk1 hk2
  obtain ⟨W2, hW2⟩ : ∃ W, (w.alloc (.cells #[.string ⟨x.name.toArray⟩, .string ⟨x.sup.toArray⟩, .slice x.kA x.km x.kc, .slice x.fA x.fm x.fc, .slice x.mA x.mm x.mc] 43)).alloc (.cells #[.string ⟨y.name.toArray⟩, .string ⟨y.sup.toArray⟩, .slice y.kA y.km y.kc, .slice y.fA y.fm y.fc, .slice y.mA y.mm y.mc] 43) = W := ⟨_, rfl⟩
  rw [hW2] at X1 X2 HB2
  have p0 := X1.out.cell 0
  have p1 := X1.out.cell 1
  have p2 := X1.out.cell 2
  have p3 := X1.out.cell 3
  have p4 := X1.out.cell 4
  have q0 := X2.out.cell 0
  have q1 := X2.out.cell 1
  have q2 := X2.out.cell 2
  have q3 := X2.out.cell 3
  have q4 := X2.out.cell 4
  have hl2 := X2.out.lt
  go_enter Tryz.func18, Tryz.ntmps18
  go_wp2_with fail
  clear hW2
  have hB2 := HB2.out
  have hBd := hB2.drew
  have Z2 := Below.refl W2.heap.size W2
  have Zd := Z2.drew
  go_region_held3 (fun w' => w'.cell? ⟨w.heap.size, 0, none⟩ = some (.string ⟨x.name.toArray⟩) ∧ w'.cell? ⟨w.heap.size, 1, none⟩ = some (.string ⟨x.sup.toArray⟩) ∧ w'.cell? ⟨w.heap.size, 2, none⟩ = some (.slice x.kA x.km x.kc) ∧ w'.cell? ⟨w.heap.size, 3, none⟩ = some (.slice x.fA x.fm x.fc) ∧ w'.cell? ⟨w.heap.size, 4, none⟩ = some (.slice x.mA x.mm x.mc)
      ∧ w'.cell? ⟨w.heap.size + 1, 0, none⟩ = some (.string ⟨y.name.toArray⟩) ∧ w'.cell? ⟨w.heap.size + 1, 1, none⟩ = some (.string ⟨y.sup.toArray⟩) ∧ w'.cell? ⟨w.heap.size + 1, 2, none⟩ = some (.slice y.kA y.km y.kc) ∧ w'.cell? ⟨w.heap.size + 1, 3, none⟩ = some (.slice y.fA y.fm y.fc) ∧ w'.cell? ⟨w.heap.size + 1, 4, none⟩ = some (.slice y.mA y.mm y.mc))
    (first | (with_reducible exact ⟨p0, p1, p2, p3, p4, q0, q1, q2, q3, q4⟩) | (with_reducible exact ⟨s0, s1, s2, s3, s4, t0, t1, t2, t3, t4⟩) | (with_reducible exact ⟨u0, u1, u2, u3, u4, v0, v1, v2, v3, v4⟩) | go_keep)
    (first
      | (go_at_call 49
         have hG := hM1
         clear hG
         with_reducible refine (HM2.out _ hB3).mono ?_
         rintro e w4 ⟨rfl, hb4⟩
         have hB4 := hB3.trans (hb4.mono hB3.size)
         have Z4 := Z3.trans (hb4.mono Z3.size)
         have u0 := (X1.out.after Z4).cell 0
         have u1 := (X1.out.after Z4).cell 1
         have u2 := (X1.out.after Z4).cell 2
         have u3 := (X1.out.after Z4).cell 3
         have u4 := (X1.out.after Z4).cell 4
         have v0 := (X2.out.after Z4).cell 0
         have v1 := (X2.out.after Z4).cell 1
         have v2 := (X2.out.after Z4).cell 2
         have v3 := (X2.out.after Z4).cell 3
         have v4 := (X2.out.after Z4).cell 4)
      | (go_at_call 49
         with_reducible refine (HM1.out _ hBd).mono ?_
         rintro e w3 ⟨rfl, hb3⟩
         have hM1 := hb3
         have hB3 := hBd.trans (hb3.mono hBd.size)
         have Z3 := Zd.trans (hb3.mono Zd.size)
         have s0 := (X1.out.after Z3).cell 0
         have s1 := (X1.out.after Z3).cell 1
         have s2 := (X1.out.after Z3).cell 2
         have s3 := (X1.out.after Z3).cell 3
         have s4 := (X1.out.after Z3).cell 4
         have t0 := (X2.out.after Z3).cell 0
         have t1 := (X2.out.after Z3).cell 1
         have t2 := (X2.out.after Z3).cell 2
         have t3 := (X2.out.after Z3).cell 3
         have t4 := (X2.out.after Z3).cell 4))
  rename_i hHeld
  have X14 := Lib.hid (X1.out.after Z4)
  have X24 := Lib.hid (X2.out.after Z4)
  have HB4 := Lib.hid hB4
  have HX4 := Lib.hid (HX.out.below hB4)
  have HY4 := Lib.hid (HY.out.below hB4)
  have HL4 := Lib.hid (hL.below hB4 hL.1)
  obtain ⟨g1, hg1⟩ : ∃ g, g = w.heap.size := ⟨_, rfl⟩
  obtain ⟨g2, hg2⟩ : ∃ g, g = w.heap.size + 1 := ⟨_, rfl⟩
  rw [← hg1] at X14 u0 u1 u2 u3 u4
  rw [← hg2] at X24 v0 v1 v2 v3 v4
  have hw4 : g2 < w4.heap.size := X24.out.lt
  have hw3 : g1 < w4.heap.size := X14.out.lt
  have hlow : w.heap.size ≤ w4.heap.size := HB4.out.size
  simp only [← hg2]
  simp only [← hg1]
  clear hg1 hg2
  clear hHeld p0 p1 p2 p3 p4 q0 q1 q2 q3 q4 s0 s1 s2 s3 s4 t0 t1 t2 t3 t4 hB2 hBd Z2 Zd hM1 hb3 hb4 hB3 hB4 Z3 Z4 hx hy hL X1 X2 HB2 HM1 HM2 HX HY hl2
  have HS := Lib.hid (show sameB x m y n = ((ownP x m).2 && (ownP y n).2 && ((ownP x m).1.sig == (ownP y n).1.sig) && ((ownP x m).1.locals == (ownP y n).1.locals) && decide ((ownP x m).1.hand = (ownP y n).1.hand) && codeB x.consts (ownP x m).1.code y.consts (ownP y n).1.code) from rfl)
  rcases HP1.out with h | ⟨i, hi, h⟩
  · have HR := Lib.hid (show sameB x m y n = false by rw [HS.out, own_no_ (by rw [HK.out.1]; exact h)]; rfl)
    subst h
    clear u0 u1 u2 u3 u4 v0 v1 v2 v3 v4
    go_wp2_with fail
    go_ret
    exact ⟨InsA.ret_bool HR.out.symm, HB4.out⟩
  · rcases HP2.out with h' | ⟨j, hj, h'⟩
    · have HR := Lib.hid (show sameB x m y n = false by rw [HS.out, own_no_ (k := y) (by rw [HK.out.2]; exact h')]; simp)
      subst h
      subst h'
      clear u0 u1 u2 u3 u4 v0 v1 v2 v3 v4
      go_wp2_with fail
      go_ret
      exact ⟨InsA.ret_bool HR.out.symm, HB4.out⟩
    · have ho1 := own_yes (k := x) (nm := m) hi (by rw [HK.out.1]; exact h)
      have ho2 := own_yes (k := y) (nm := n) hj (by rw [HK.out.2]; exact h')
      rw [ho1, ho2] at HS
      simp only [Bool.true_and] at HS
      obtain ⟨b1, o1, hA1, hb1, c0, c1, c2, c3, c4⟩ := mth_at HX4.out.meths.rds hi
      obtain ⟨b2, o2, hA2, hb2, d0, d1, d2, d3, d4⟩ := mth_at HY4.out.meths.rds hj
      have hxm := hxs _ (List.getElem_mem hi)
      have hym := hys _ (List.getElem_mem hj)
      have HZ1 := Lib.hid (HX4.out.meths.each _ (List.getElem_mem hi))
      have HZ2 := Lib.hid (HY4.out.meths.each _ (List.getElem_mem hj))
      have him : (i : Int) < (x.mm : Int) := by have := HX4.out.meths.len; omega
      have hjm : (j : Int) < (y.mm : Int) := by have := HY4.out.meths.len; omega
      have hi0 : (0 : Int) ≤ (i : Int) := by omega
      have hj0 : (0 : Int) ≤ (j : Int) := by omega
      clear ho1 ho2 HP1 HP2 HK
      subst h
      subst h'
      generalize x.meths[i] = z1 at *
      generalize y.meths[j] = z2 at *
      rw [hA1] at u4
      rw [hA2] at v4
      go_wp2_with fail
      go_region
      · have hbl : Below w4.heap.size w4 (((w4.alloc (.cells #[.string ⟨z1.name.toArray⟩, .string ⟨z1.sig.toArray⟩, .int .i64 z1.locals, .slice z1.cA z1.cm z1.cc, .slice z1.hA z1.hm z1.hc] 55)).alloc (.cells #[.string ⟨z2.name.toArray⟩, .string ⟨z2.sig.toArray⟩, .int .i64 z2.locals, .slice z2.cA z2.cm z2.cc, .slice z2.hA z2.hm z2.hc] 55)).drew) := (((Below.refl _ _).alloc (Nat.le_refl _) _).alloc (by simp) _).drew
        have k1 : Bx (((w4.alloc (.cells #[.string ⟨z1.name.toArray⟩, .string ⟨z1.sig.toArray⟩, .int .i64 z1.locals, .slice z1.cA z1.cm z1.cc, .slice z1.hA z1.hm z1.hc] 55)).alloc (.cells #[.string ⟨z2.name.toArray⟩, .string ⟨z2.sig.toArray⟩, .int .i64 z2.locals, .slice z2.cA z2.cm z2.cc, .slice z2.hA z2.hm z2.hc] 55)).drew) w4.heap.size #[.string ⟨z1.name.toArray⟩, .string ⟨z1.sig.toArray⟩, .int .i64 z1.locals, .slice z1.cA z1.cm z1.cc, .slice z1.hA z1.hm z1.hc] 55 := TabHc.bx_drew (TabZ.bx_al (Bx.new w4 #[.string ⟨z1.name.toArray⟩, .string ⟨z1.sig.toArray⟩, .int .i64 z1.locals, .slice z1.cA z1.cm z1.cc, .slice z1.hA z1.hm z1.hc] 55) _)
        have k2 : Bx (((w4.alloc (.cells #[.string ⟨z1.name.toArray⟩, .string ⟨z1.sig.toArray⟩, .int .i64 z1.locals, .slice z1.cA z1.cm z1.cc, .slice z1.hA z1.hm z1.hc] 55)).alloc (.cells #[.string ⟨z2.name.toArray⟩, .string ⟨z2.sig.toArray⟩, .int .i64 z2.locals, .slice z2.cA z2.cm z2.cc, .slice z2.hA z2.hm z2.hc] 55)).drew) (w4.heap.size + 1) #[.string ⟨z2.name.toArray⟩, .string ⟨z2.sig.toArray⟩, .int .i64 z2.locals, .slice z2.cA z2.cm z2.cc, .slice z2.hA z2.hm z2.hc] 55 := TabHc.bx_drew (by
          have h := Bx.new (w4.alloc (.cells #[.string ⟨z1.name.toArray⟩, .string ⟨z1.sig.toArray⟩, .int .i64 z1.locals, .slice z1.cA z1.cm z1.cc, .slice z1.hA z1.hm z1.hc] 55)) #[.string ⟨z2.name.toArray⟩, .string ⟨z2.sig.toArray⟩, .int .i64 z2.locals, .slice z2.cA z2.cm z2.cc, .slice z2.hA z2.hm z2.hc] 55
          rw [show (w4.alloc (.cells #[.string ⟨z1.name.toArray⟩, .string ⟨z1.sig.toArray⟩, .int .i64 z1.locals, .slice z1.cA z1.cm z1.cc, .slice z1.hA z1.hm z1.hc] 55)).heap.size = w4.heap.size + 1 by simp] at h
          exact h)
        generalize ((w4.alloc (.cells #[.string ⟨z1.name.toArray⟩, .string ⟨z1.sig.toArray⟩, .int .i64 z1.locals, .slice z1.cA z1.cm z1.cc, .slice z1.hA z1.hm z1.hc] 55)).alloc (.cells #[.string ⟨z2.name.toArray⟩, .string ⟨z2.sig.toArray⟩, .int .i64 z2.locals, .slice z2.cA z2.cm z2.cc, .slice z2.hA z2.hm z2.hc] 55)).drew = WF at *
        obtain ⟨r2, hr2⟩ : ∃ r, r = w4.heap.size + 1 := ⟨_, rfl⟩
        obtain ⟨r1, hr1⟩ : ∃ r, r = w4.heap.size := ⟨_, rfl⟩
        rw [← hr1] at k1
        rw [← hr2] at k2
        simp only [← hr2]
        simp only [← hr1]
        clear hr1 hr2
        have x1 := k1.cell 1
        have x2 := k1.cell 2
        have x3 := k1.cell 3
        have x4 := k1.cell 4
        have y1 := k2.cell 1
        have y2 := k2.cell 2
        have y3 := k2.cell 3
        have y4 := k2.cell 4
        have K1 := Lib.hid k1
        have K2 := Lib.hid k2
        have HBF := Lib.hid (HB4.out.trans (hbl.mono hlow))
        have hz1 := HZ1.out.below hbl
        have hz2 := HZ2.out.below hbl
        have HE := Lib.hid (equalH_any z1.hA z2.hA z1.hand z2.hand z1.hm z2.hm z1.hc z2.hc WF hz1.hand.len hz2.hand.len (Nat.le_trans hz1.hand.le hz1.hand.max) hz1.hand.rds hz2.hand.rds)
        have hbx1 := X14.out.after hbl
        have hbx2 := X24.out.after hbl
        have HC : Hid (∀ W, Below WF.heap.size WF W → Calls Tryz.prog 51 #[.slice z1.cA z1.cm z1.cc, .slice z2.cA z2.cm z2.cc, .func (.func 52) #[] #[.pointer (some ⟨g1, 0, none⟩), .pointer (some ⟨g2, 0, none⟩)]] W fun e w' => e = .returned (.bool (codeB x.consts z1.code y.consts z2.code)) ∧ Below W.heap.size W w') := Lib.hid (fun W hb => by
          rw [hz1.code.len, hz2.code.len]
          exact equalCode_any x y g1 g2 z1.cA z2.cA z1.code z2.code z1.cc z2.cc W ((HX4.out.below hbl).below hb) ((HY4.out.below hbl).below hb) ((HL4.out.below hbl HL4.out.1).below hb (Nat.lt_of_lt_of_le HL4.out.1 hbl.size)) hz1.code.fit hz2.code.fit (hbx1.after hb) (hbx2.after hb) (by omega) (hz1.code.rds.below hb) (hz2.code.rds.below hb))
        clear k1 k2 hz1 hz2 hbx1 hbx2 hbl HZ1 HZ2 X14 X24 HX4 HY4 HL4 c0 c1 c2 c3 c4 d0 d1 d2 d3 d4 u0 u1 u2 u3 u4 v0 v1 v2 v3 v4
        generalize codeB x.consts z1.code y.consts z2.code = CB at *
        generalize decide (z1.hand = z2.hand) = DH at *
        cases hS : z1.sig == z2.sig
        · have HR := Lib.hid (show sameB x m y n = false by rw [HS.out, hS]; rfl)
          go_wp2_with fail
          go_ret
          exact ⟨InsA.ret_bool HR.out.symm, HBF.out⟩
        · cases hLo : z1.locals == z2.locals
          · have HR := Lib.hid (show sameB x m y n = false by rw [HS.out, hS, hLo]; rfl)
            go_wp2_with fail
            go_ret
            exact ⟨InsA.ret_bool HR.out.symm, HBF.out⟩
          · have HS2 := Lib.hid (show sameB x m y n = (DH && CB) by rw [HS.out, hS, hLo]; simp)
            clear HS
            go_wp2_with fail
            refine HE.out.mono ?_
            rintro e w5 ⟨rfl, hb5⟩
            have HC5 := Lib.hid (HC.out w5 hb5)
            have HB5 := Lib.hid (HBF.out.trans (hb5.mono HBF.out.size))
            have x3' := (K1.out.after hb5).cell 3
            have y3' := (K2.out.after hb5).cell 3
            clear hb5 HC x1 x2 x3 x4 y1 y2 y3 y4
            cases DH
            · have HR := Lib.hid (show sameB x m y n = false by rw [HS2.out]; rfl)
              go_wp2_with fail
              go_ret
              exact ⟨InsA.ret_bool HR.out.symm, HB5.out⟩
            · have HR := Lib.hid (show sameB x m y n = CB by rw [HS2.out]; simp)
              go_wp2_with fail
              refine HC5.out.mono ?_
              rintro e w6 ⟨rfl, hb6⟩
              have HB6 := Lib.hid (HB5.out.trans (hb6.mono HB5.out.size))
              clear hb6
              go_wp2_with fail
              go_ret
              exact ⟨InsA.ret_bool HR.out.symm, HB6.out⟩
      · have hbl : Below w4.heap.size w4 (((w4.alloc (.cells #[.string ⟨z2.name.toArray⟩, .string ⟨z2.sig.toArray⟩, .int .i64 z2.locals, .slice z2.cA z2.cm z2.cc, .slice z2.hA z2.hm z2.hc] 55)).alloc (.cells #[.string ⟨z1.name.toArray⟩, .string ⟨z1.sig.toArray⟩, .int .i64 z1.locals, .slice z1.cA z1.cm z1.cc, .slice z1.hA z1.hm z1.hc] 55)).drew) := (((Below.refl _ _).alloc (Nat.le_refl _) _).alloc (by simp) _).drew
        have k2 : Bx (((w4.alloc (.cells #[.string ⟨z2.name.toArray⟩, .string ⟨z2.sig.toArray⟩, .int .i64 z2.locals, .slice z2.cA z2.cm z2.cc, .slice z2.hA z2.hm z2.hc] 55)).alloc (.cells #[.string ⟨z1.name.toArray⟩, .string ⟨z1.sig.toArray⟩, .int .i64 z1.locals, .slice z1.cA z1.cm z1.cc, .slice z1.hA z1.hm z1.hc] 55)).drew) w4.heap.size #[.string ⟨z2.name.toArray⟩, .string ⟨z2.sig.toArray⟩, .int .i64 z2.locals, .slice z2.cA z2.cm z2.cc, .slice z2.hA z2.hm z2.hc] 55 := TabHc.bx_drew (TabZ.bx_al (Bx.new w4 #[.string ⟨z2.name.toArray⟩, .string ⟨z2.sig.toArray⟩, .int .i64 z2.locals, .slice z2.cA z2.cm z2.cc, .slice z2.hA z2.hm z2.hc] 55) _)
        have k1 : Bx (((w4.alloc (.cells #[.string ⟨z2.name.toArray⟩, .string ⟨z2.sig.toArray⟩, .int .i64 z2.locals, .slice z2.cA z2.cm z2.cc, .slice z2.hA z2.hm z2.hc] 55)).alloc (.cells #[.string ⟨z1.name.toArray⟩, .string ⟨z1.sig.toArray⟩, .int .i64 z1.locals, .slice z1.cA z1.cm z1.cc, .slice z1.hA z1.hm z1.hc] 55)).drew) (w4.heap.size + 1) #[.string ⟨z1.name.toArray⟩, .string ⟨z1.sig.toArray⟩, .int .i64 z1.locals, .slice z1.cA z1.cm z1.cc, .slice z1.hA z1.hm z1.hc] 55 := TabHc.bx_drew (by
          have h := Bx.new (w4.alloc (.cells #[.string ⟨z2.name.toArray⟩, .string ⟨z2.sig.toArray⟩, .int .i64 z2.locals, .slice z2.cA z2.cm z2.cc, .slice z2.hA z2.hm z2.hc] 55)) #[.string ⟨z1.name.toArray⟩, .string ⟨z1.sig.toArray⟩, .int .i64 z1.locals, .slice z1.cA z1.cm z1.cc, .slice z1.hA z1.hm z1.hc] 55
          rw [show (w4.alloc (.cells #[.string ⟨z2.name.toArray⟩, .string ⟨z2.sig.toArray⟩, .int .i64 z2.locals, .slice z2.cA z2.cm z2.cc, .slice z2.hA z2.hm z2.hc] 55)).heap.size = w4.heap.size + 1 by simp] at h
          exact h)
        generalize ((w4.alloc (.cells #[.string ⟨z2.name.toArray⟩, .string ⟨z2.sig.toArray⟩, .int .i64 z2.locals, .slice z2.cA z2.cm z2.cc, .slice z2.hA z2.hm z2.hc] 55)).alloc (.cells #[.string ⟨z1.name.toArray⟩, .string ⟨z1.sig.toArray⟩, .int .i64 z1.locals, .slice z1.cA z1.cm z1.cc, .slice z1.hA z1.hm z1.hc] 55)).drew = WF at *
        obtain ⟨r1, hr1⟩ : ∃ r, r = w4.heap.size + 1 := ⟨_, rfl⟩
        obtain ⟨r2, hr2⟩ : ∃ r, r = w4.heap.size := ⟨_, rfl⟩
        rw [← hr2] at k2
        rw [← hr1] at k1
        simp only [← hr1]
        simp only [← hr2]
        clear hr1 hr2
        have x1 := k1.cell 1
        have x2 := k1.cell 2
        have x3 := k1.cell 3
        have x4 := k1.cell 4
        have y1 := k2.cell 1
        have y2 := k2.cell 2
        have y3 := k2.cell 3
        have y4 := k2.cell 4
        have K1 := Lib.hid k1
        have K2 := Lib.hid k2
        have HBF := Lib.hid (HB4.out.trans (hbl.mono hlow))
        have hz1 := HZ1.out.below hbl
        have hz2 := HZ2.out.below hbl
        have HE := Lib.hid (equalH_any z1.hA z2.hA z1.hand z2.hand z1.hm z2.hm z1.hc z2.hc WF hz1.hand.len hz2.hand.len (Nat.le_trans hz1.hand.le hz1.hand.max) hz1.hand.rds hz2.hand.rds)
        have hbx1 := X14.out.after hbl
        have hbx2 := X24.out.after hbl
        have HC : Hid (∀ W, Below WF.heap.size WF W → Calls Tryz.prog 51 #[.slice z1.cA z1.cm z1.cc, .slice z2.cA z2.cm z2.cc, .func (.func 52) #[] #[.pointer (some ⟨g1, 0, none⟩), .pointer (some ⟨g2, 0, none⟩)]] W fun e w' => e = .returned (.bool (codeB x.consts z1.code y.consts z2.code)) ∧ Below W.heap.size W w') := Lib.hid (fun W hb => by
          rw [hz1.code.len, hz2.code.len]
          exact equalCode_any x y g1 g2 z1.cA z2.cA z1.code z2.code z1.cc z2.cc W ((HX4.out.below hbl).below hb) ((HY4.out.below hbl).below hb) ((HL4.out.below hbl HL4.out.1).below hb (Nat.lt_of_lt_of_le HL4.out.1 hbl.size)) hz1.code.fit hz2.code.fit (hbx1.after hb) (hbx2.after hb) (by omega) (hz1.code.rds.below hb) (hz2.code.rds.below hb))
        clear k1 k2 hz1 hz2 hbx1 hbx2 hbl HZ1 HZ2 X14 X24 HX4 HY4 HL4 c0 c1 c2 c3 c4 d0 d1 d2 d3 d4 u0 u1 u2 u3 u4 v0 v1 v2 v3 v4
        generalize codeB x.consts z1.code y.consts z2.code = CB at *
        generalize decide (z1.hand = z2.hand) = DH at *
        cases hS : z1.sig == z2.sig
        · have HR := Lib.hid (show sameB x m y n = false by rw [HS.out, hS]; rfl)
          go_wp2_with fail
          go_ret
          exact ⟨InsA.ret_bool HR.out.symm, HBF.out⟩
        · cases hLo : z1.locals == z2.locals
          · have HR := Lib.hid (show sameB x m y n = false by rw [HS.out, hS, hLo]; rfl)
            go_wp2_with fail
            go_ret
            exact ⟨InsA.ret_bool HR.out.symm, HBF.out⟩
          · have HS2 := Lib.hid (show sameB x m y n = (DH && CB) by rw [HS.out, hS, hLo]; simp)
            clear HS
            go_wp2_with fail
            refine HE.out.mono ?_
            rintro e w5 ⟨rfl, hb5⟩
            have HC5 := Lib.hid (HC.out w5 hb5)
            have HB5 := Lib.hid (HBF.out.trans (hb5.mono HBF.out.size))
            have x3' := (K1.out.after hb5).cell 3
            have y3' := (K2.out.after hb5).cell 3
            clear hb5 HC x1 x2 x3 x4 y1 y2 y3 y4
            cases DH
            · have HR := Lib.hid (show sameB x m y n = false by rw [HS2.out]; rfl)
              go_wp2_with fail
              go_ret
              exact ⟨InsA.ret_bool HR.out.symm, HB5.out⟩
            · have HR := Lib.hid (show sameB x m y n = CB by rw [HS2.out]; simp)
              go_wp2_with fail
              refine HC5.out.mono ?_
              rintro e w6 ⟨rfl, hb6⟩
              have HB6 := Lib.hid (HB5.out.trans (hb6.mono HB5.out.size))
              clear hb6
              go_wp2_with fail
              go_ret
              exact ⟨InsA.ret_bool HR.out.symm, HB6.out⟩
end DlA
end Go.Proofs.YtiagjnimafdbhaaGreatDoor
