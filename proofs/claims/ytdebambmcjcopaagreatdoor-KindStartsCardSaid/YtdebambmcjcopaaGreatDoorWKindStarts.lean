/-
  The law KindStarts, walked: for every two texts and every number it returns true, and nothing that was there is written.
-/
import Derived.Test.YtdebambmcjcopaaGreatDoorKndT
import Derived.Test.YtdebambmcjcopaaGreatDoorLaidM
namespace Go.Proofs.YtdebambmcjcopaaGreatDoor
namespace WKindStarts
open Go.RowKit Base BinM Stru DescM DescW DescX HierS HierT HierM HierR TabC TabM TabK TabP TabE TabB TabG TabH TabT TabU KndB KndM KndS KndK KndT

theorem texts_same (A B : Option Addr) (a : List T) (m k c d : Nat) (w : World) (hm : m = a.length) (hk : k = a.length) (hmx : m ≤ maxLen) (hr : Rds w A (a.map sv)) (hr2 : Rds w B (a.map sv)) :
    Calls Tryz.prog 14 #[.slice A m c, .slice B k d] w fun e w' => e = .returned (.bool true) ∧ Below w.heap.size w w' :=
  (HierR.texts_any A B a a m k c d w hm hk hmx hr hr2).mono fun e w' ⟨h1, h2⟩ => ⟨by rw [h1]; simp, h2⟩

set_option maxRecDepth 100000 in
theorem taken_any (a b : Value) (ha : ∃ A n c, a = .slice A n c) (hb : ∃ A n c, b = .slice A n c) (w : World) :
    Calls Tryz.prog 8 #[.agg #[a, b]] w fun e w' => e = .returned (.agg #[a, b]) ∧ Below w.heap.size w w' := by
  obtain ⟨A, n, c, rfl⟩ := ha
  obtain ⟨B, m, d, rfl⟩ := hb
  have hb1 : Below w.heap.size w ((w.alloc (.cells #[.slice A n c, .slice B m d] 28)).alloc (.cells #[.slice A n c, .slice B m d] 32)) := ((Below.refl _ _).alloc (Nat.le_refl _) _).alloc (by simp) _
  have e1 : (w.alloc (.cells #[.slice A n c, .slice B m d] 28)).heap.size = w.heap.size + 1 := by simp
  have hx := Bx.new (w.alloc (.cells #[.slice A n c, .slice B m d] 28)) #[.slice A n c, .slice B m d] 32
  rw [e1] at hx
  have HX := Lib.hid hx
  have HB := Lib.hid hb1
  clear hb1 e1 hx
  go_enter Tryz.func8, Tryz.ntmps8
  go_wp2_with fail
  exact bodyPost_ret (v := .agg #[.slice A n c, .slice B m d]) (TabM.result1 Tryz.results8 _ _ _ _ rfl (run_loadVar_row _ _ _ _ #[.slice A n c, .slice B m d] (0, 0) _ HX.out Tryz.underlying32 rfl sizeFrR)) rfl ⟨rfl, HB.out⟩

set_option maxRecDepth 100000 in
set_option maxHeartbeats 1000000 in
theorem same_any (A B : Option Addr) (c d : Nat) (l : List T) (w : World) (hm : l.length ≤ maxLen) (hr : Rds w A (l.map sv)) (hr2 : Rds w B (l.map sv)) :
    Calls Tryz.prog 7 #[.agg #[.slice A l.length c, .slice none 0 0], .agg #[.slice B l.length d, .slice none 0 0]] w fun e w' => e = .returned (.bool true) ∧ Below w.heap.size w w' := by
  have hb1 : Below w.heap.size w ((w.alloc (.cells #[.slice A l.length c, .slice none 0 0] 32)).alloc (.cells #[.slice B l.length d, .slice none 0 0] 32)) := ((Below.refl _ _).alloc (Nat.le_refl _) _).alloc (by simp) _
  have e1 : (w.alloc (.cells #[.slice A l.length c, .slice none 0 0] 32)).heap.size = w.heap.size + 1 := by simp
  have hx1 := TabZ.bx_al (Bx.new w #[.slice A l.length c, .slice none 0 0] 32) (.cells #[.slice B l.length d, .slice none 0 0] 32)
  have hx2 := Bx.new (w.alloc (.cells #[.slice A l.length c, .slice none 0 0] 32)) #[.slice B l.length d, .slice none 0 0] 32
  rw [e1] at hx2
  have X1 := Lib.hid hx1
  have X2 := Lib.hid hx2
  have HB := Lib.hid hb1
  have HT1 := Lib.hid (texts_same A B l l.length l.length c d _ rfl rfl hm (hr.below hb1) (hr2.below hb1))
  have HT2 := Lib.hid (fun W => texts_same none none [] 0 0 0 0 W rfl rfl (Nat.zero_le _) (.inl rfl) (.inl rfl))
  clear hb1 e1 hx1 hx2 hr hr2
  go_enter Tryz.func7, Tryz.ntmps7
  go_wp2_with fail
  refine HT1.out.mono ?_
  rintro e w1 ⟨rfl, hb1⟩
  have B1 := Lib.hid (HB.out.trans (hb1.mono HB.out.size))
  have h1 := X1.out.after hb1
  have h2 := X2.out.after hb1
  have c1 : w1.cell? ⟨w.heap.size, 1, none⟩ = some (.slice none 0 0) := h1.cell 1
  have l1 := h1.lt
  have c2 : w1.cell? ⟨w.heap.size + 1, 1, none⟩ = some (.slice none 0 0) := h2.cell 1
  have l2 := h2.lt
  clear hb1 h1 h2
  go_wp2_with fail
  refine (HT2.out _).mono ?_
  rintro e w2 ⟨rfl, hb2⟩
  have B2 := Lib.hid (B1.out.trans (hb2.mono B1.out.size))
  clear hb2
  go_wp2_with fail
  go_ret
  exact ⟨rfl, B2.out⟩

set_option maxRecDepth 100000 in
set_option maxHeartbeats 8000000 in
theorem walk (a0 : ByteArray) (a1 : ByteArray) (a2 : Int) (w : World) (hl : InsA.Laid w) (b0 : a0.size ≤ 140737488351232) (b1 : a1.size ≤ 140737488351232) (_ : (Lit.int .i64 a2).wf = true) :
    Calls Tryz.prog 3 #[.string a0, .string a1, .int .i64 a2] w fun e w' => e = .returned (.bool true) ∧ Below w.heap.size w w' := by
  obtain ⟨cls, rfl⟩ : ∃ l : List UInt8, a0 = ⟨l.toArray⟩ := ⟨a0.data.toList, (Lib.mk_data a0).symm⟩
  obtain ⟨sig, rfl⟩ : ∃ l : List UInt8, a1 = ⟨l.toArray⟩ := ⟨a1.data.toList, (Lib.mk_data a1).symm⟩
  rw [size_mk] at b0 b1
  have hal : Below w.heap.size w (w.alloc (.cells #[.string ⟨#[109]⟩, .string ⟨sig.toArray⟩, .int .i64 a2, .slice none 0 0, .slice none 0 0] 25)) := (Below.refl _ _).alloc (Nat.le_refl _) _
  have XM := Lib.hid (Bx.new w #[.string ⟨#[109]⟩, .string ⟨sig.toArray⟩, .int .i64 a2, .slice none 0 0, .slice none 0 0] 25)
  have HB := Lib.hid hal
  have HS1 := Lib.hid (start_any cls sig [109] a2 (w.alloc (.cells #[.string ⟨#[109]⟩, .string ⟨sig.toArray⟩, .int .i64 a2, .slice none 0 0, .slice none 0 0] 25)) b0 b1)
  have HS2 := Lib.hid (fun W => startR_any cls sig [109] a2 W b0 b1)
  have HK := Lib.hid (fun W (hb : Below w.heap.size w W) => known_any W (hl.below hb hl.1))
  have hlen : (startE cls sig a2).1.length ≤ 24 := by
    unfold startE
    split
    · simp
    · split
      · simp
      · rename_i h
        rw [start_len (by omega)]
        omega
  clear hal hl b0 b1
  generalize startE cls sig a2 = F at *
  obtain ⟨ls, er⟩ := F
  unfold GivesB at HS1 HS2
  simp only at HS1 HS2 hlen
  go_enter Tryz.func3, Tryz.ntmps3
  go_wp2_with fail
  refine HS1.out.mono ?_
  rintro e w1 ⟨A1, c1, rfl, r1, hb1⟩
  have ha1 : Below w1.heap.size w1 (w1.alloc (.cells #[.slice A1 ls.length c1, .slice none 0 0] 28)) := (Below.refl _ _).alloc (Nat.le_refl _) _
  have B1 := Lib.hid ((HB.out.trans (hb1.mono HB.out.size)).trans (ha1.mono (HB.out.trans (hb1.mono HB.out.size)).size))
  have X1 := Lib.hid (Bx.new w1 #[.slice A1 ls.length c1, .slice none 0 0] 28)
  have R1 := Lib.hid (r1.below ha1)
  have hm := (XM.out.after hb1).after ha1
  have m0 : (w1.alloc (.cells #[.slice A1 ls.length c1, .slice none 0 0] 28)).cell? ⟨w.heap.size, 0, none⟩ = some (.string ⟨#[109]⟩) := hm.cell 0
  have m1 : (w1.alloc (.cells #[.slice A1 ls.length c1, .slice none 0 0] 28)).cell? ⟨w.heap.size, 1, none⟩ = some (.string ⟨sig.toArray⟩) := hm.cell 1
  have m2 : (w1.alloc (.cells #[.slice A1 ls.length c1, .slice none 0 0] 28)).cell? ⟨w.heap.size, 2, none⟩ = some (.int .i64 a2) := hm.cell 2
  have m3 : (w1.alloc (.cells #[.slice A1 ls.length c1, .slice none 0 0] 28)).cell? ⟨w.heap.size, 3, none⟩ = some (.slice none 0 0) := hm.cell 3
  have m4 : (w1.alloc (.cells #[.slice A1 ls.length c1, .slice none 0 0] 28)).cell? ⟨w.heap.size, 4, none⟩ = some (.slice none 0 0) := hm.cell 4
  have ml := hm.lt
  clear hb1 ha1 r1 hm HS1
  go_wp2_with fail
  refine (HS2.out _).mono ?_
  rintro e w2 ⟨A2, c2, rfl, r2, hb2⟩
  have ha2 : Below w2.heap.size w2 (w2.alloc (.cells #[.slice A2 ls.length c2, .slice none 0 0] 32)) := (Below.refl _ _).alloc (Nat.le_refl _) _
  have hb2' := hb2.trans (ha2.mono hb2.size)
  have hX1 := X1.out.after hb2'
  have hX2 := Bx.new w2 #[.slice A2 ls.length c2, .slice none 0 0] 32
  have hr1 := R1.out.below hb2'
  have hr2 := r2.below ha2
  have hBZ := B1.out.trans (hb2'.mono B1.out.size)
  have HX1 := Lib.hid hX1
  have HX2 := Lib.hid hX2
  have HBZ := Lib.hid hBZ
  have HSm := Lib.hid (fun W (hb : Below (w2.alloc (.cells #[.slice A2 ls.length c2, .slice none 0 0] 32)).heap.size (w2.alloc (.cells #[.slice A2 ls.length c2, .slice none 0 0] 32)) W) => same_any A1 A2 c1 c2 ls W (by unfold maxLen; omega) (hr1.below hb) (hr2.below hb))
  have HTk := Lib.hid (fun W => taken_any (.slice A1 ls.length c1) (.slice none 0 0) ⟨_, _, _, rfl⟩ ⟨_, _, _, rfl⟩ W)
  have Q0 := Lib.hid (show (w2.alloc (.cells #[.slice A2 ls.length c2, .slice none 0 0] 32)).cell? ⟨w1.heap.size, 0, none⟩ = some (.slice A1 ls.length c1) from hX1.cell 0)
  have Q1 := Lib.hid (show (w2.alloc (.cells #[.slice A2 ls.length c2, .slice none 0 0] 32)).cell? ⟨w1.heap.size, 1, none⟩ = some (.slice none 0 0) from hX1.cell 1)
  have Q3 := Lib.hid (show (w2.alloc (.cells #[.slice A2 ls.length c2, .slice none 0 0] 32)).cell? ⟨w2.heap.size, 0, none⟩ = some (.slice A2 ls.length c2) from hX2.cell 0)
  have Q4 := Lib.hid (show (w2.alloc (.cells #[.slice A2 ls.length c2, .slice none 0 0] 32)).cell? ⟨w2.heap.size, 1, none⟩ = some (.slice none 0 0) from hX2.cell 1)
  have he : (er == er) = true := by simp
  clear ha2 hb2' hb2 hX1 hX2 hr1 hr2 hBZ r2 HS2 X1 R1
  go_wp2_with fail
  generalize (w2.alloc (.cells #[.slice A2 ls.length c2, .slice none 0 0] 32)) = WZ at *
  have a0 := Q0.out
  have a1 := Q1.out
  have a3 := Q3.out
  have a4 := Q4.out
  have hB0 := Below.refl WZ.heap.size WZ
  have hB1 := hB0.drew
  go_region_held3 (fun w' => w'.cell? ⟨w1.heap.size, 0, none⟩ = some (.slice A1 ls.length c1) ∧ w'.cell? ⟨w1.heap.size, 1, none⟩ = some (.slice none 0 0) ∧ w'.cell? ⟨w2.heap.size, 0, none⟩ = some (.slice A2 ls.length c2) ∧ w'.cell? ⟨w2.heap.size, 1, none⟩ = some (.slice none 0 0))
    (first | (with_reducible exact ⟨a0, a1, a3, a4⟩) | (with_reducible exact ⟨x0, x1, x2, x3⟩) | (with_reducible exact ⟨y0, y1, y2, y3⟩) | (with_reducible exact ⟨z0, z1, z2, z3⟩) | go_keep)
    (first
      | (go_at_call 9
         refine (HK.out _ (HBZ.out.trans (hB4.mono HBZ.out.size))).mono ?_
         rintro e w5 ⟨rfl, hb5⟩
         have hB5 := hB4.trans (hb5.mono hB4.size)
         have z0 : w5.cell? ⟨w1.heap.size, 0, none⟩ = some (.slice A1 ls.length c1) := (HX1.out.after hB5).cell 0
         have z1 : w5.cell? ⟨w1.heap.size, 1, none⟩ = some (.slice none 0 0) := (HX1.out.after hB5).cell 1
         have z2 : w5.cell? ⟨w2.heap.size, 0, none⟩ = some (.slice A2 ls.length c2) := (HX2.out.after hB5).cell 0
         have z3 : w5.cell? ⟨w2.heap.size, 1, none⟩ = some (.slice none 0 0) := (HX2.out.after hB5).cell 1)
      | (go_at_call 7
         refine (HSm.out _ hB3).mono ?_
         rintro e w4 ⟨rfl, hb4⟩
         have hB4 := hB3.trans (hb4.mono hB3.size)
         have y0 : w4.cell? ⟨w1.heap.size, 0, none⟩ = some (.slice A1 ls.length c1) := (HX1.out.after hB4).cell 0
         have y1 : w4.cell? ⟨w1.heap.size, 1, none⟩ = some (.slice none 0 0) := (HX1.out.after hB4).cell 1
         have y2 : w4.cell? ⟨w2.heap.size, 0, none⟩ = some (.slice A2 ls.length c2) := (HX2.out.after hB4).cell 0
         have y3 : w4.cell? ⟨w2.heap.size, 1, none⟩ = some (.slice none 0 0) := (HX2.out.after hB4).cell 1)
      | (go_at_call 8
         refine (HTk.out _).mono ?_
         rintro e w3 ⟨rfl, hb3⟩
         have hB3 := hB1.trans (hb3.mono hB1.size)
         have x0 : w3.cell? ⟨w1.heap.size, 0, none⟩ = some (.slice A1 ls.length c1) := (HX1.out.after hB3).cell 0
         have x1 : w3.cell? ⟨w1.heap.size, 1, none⟩ = some (.slice none 0 0) := (HX1.out.after hB3).cell 1
         have x2 : w3.cell? ⟨w2.heap.size, 0, none⟩ = some (.slice A2 ls.length c2) := (HX2.out.after hB3).cell 0
         have x3 : w3.cell? ⟨w2.heap.size, 1, none⟩ = some (.slice none 0 0) := (HX2.out.after hB3).cell 1))
  all_goals
    go_wp2_with fail
    go_ret
    exact ⟨rfl, HBZ.out.trans (hB5.mono HBZ.out.size)⟩
end WKindStarts
end Go.Proofs.YtdebambmcjcopaaGreatDoor
