/- pieces -/
import Derived.Test.YtehainbhoflpnaaGreatDoorK32
namespace Go.Proofs.YtehainbhoflpnaaGreatDoor
namespace KndG
open Go.RowKit Base BinM Stru DescM DescW DescX HierS HierT HierM HierR TabC TabM TabK TabP TabE TabB TabG TabH TabT TabU KndB KndM KndS
theorem qc : (Tryz.prog.info? 27).map (·.size) = some 2 := by kernel_rfl
theorem Jz (A B : Option Addr) (a : List T) (m k c d : Nat) (w : World) (hm : m = a.length) (hk : k = a.length) (hmx : m ≤ maxLen) (hr : Rds w A (a.map sv)) (hr2 : Rds w B (a.map sv)) :
 Calls Tryz.prog 13 #[.slice A m c, .slice B k d] w fun e w' => e = .returned (.bool true) ∧ Below w.heap.size w w' :=
 (HierR.UR A B a a m k c d w hm hk hmx hr hr2).mono fun e w' ⟨h1, h2⟩ => ⟨by rw [h1]; simp, h2⟩
set_option maxRecDepth 100000 in
theorem zh8 (A B : Option Addr) (m c k d : Nat) (w : World) :
 Calls Tryz.prog 5 #[.agg #[.slice A m c, .slice B k d]] w fun e w' => e = .returned (.bool (decide (m ≤ 60) && decide (k ≤ 60))) ∧ Below w.heap.size w w' := by
 have hb1 := zH ((Below.refl w.heap.size w).alloc (Nat.le_refl _) (.cells #[.slice A m c, .slice B k d] 27))
 by_cases h1 : m ≤ 60
 · by_cases h2 : k ≤ 60
   · have h1i : (m : Int) ≤ 60 := by omega
     have h2i : (k : Int) ≤ 60 := by omega
     rw [decide_eq_true h1, decide_eq_true h2]
     go_enter Tryz.func5, Tryz.ntmps5
     go_wp2_with fail
     go_ret
     exact ⟨rfl, hb1.out⟩
   · have h1i : (m : Int) ≤ 60 := by omega
     have h2i : ¬ (k : Int) ≤ 60 := by omega
     rw [decide_eq_true h1, decide_eq_false h2]
     go_enter Tryz.func5, Tryz.ntmps5
     go_wp2_with fail
     go_ret
     exact ⟨rfl, hb1.out⟩
 · have h1i : ¬ (m : Int) ≤ 60 := by omega
   rw [decide_eq_false h1]
   go_enter Tryz.func5, Tryz.ntmps5
   go_wp2_with fail
   go_ret
   exact ⟨rfl, hb1.out⟩
set_option maxRecDepth 100000 in
theorem zh1 (A B : Option Addr) (n c m d : Nat) (w : World) :
 Calls Tryz.prog 12 #[.agg #[.slice A n c, .slice B m d]] w fun e w' => e = .returned (.agg #[.slice A n c, .slice B m d]) ∧ Below w.heap.size w w' := by
 have hb1 : Below w.heap.size w ((w.alloc (.cells #[.slice A n c, .slice B m d] 34)).alloc (.cells #[.slice A n c, .slice B m d] 27)) := ((Below.refl _ _).alloc (Nat.le_refl _) _).alloc (by simp) _
 have e1 : (w.alloc (.cells #[.slice A n c, .slice B m d] 34)).heap.size = w.heap.size + 1 := by simp
 have hx := Bx.new (w.alloc (.cells #[.slice A n c, .slice B m d] 34)) #[.slice A n c, .slice B m d] 27
 rw [e1] at hx
 have HX := zH hx
 have HB := zH hb1
 clear hb1 e1 hx
 go_enter Tryz.func12, Tryz.ntmps12
 go_wp2_with fail
 exact bodyPost_ret (v := .agg #[.slice A n c, .slice B m d]) (TabM.jl Tryz.results12 _ _ _ _ rfl (run_loadVar_row _ _ _ _ #[.slice A n c, .slice B m d] (0, 0) _ HX.out Tryz.underlying27 rfl qc)) rfl ⟨rfl, HB.out⟩
set_option maxRecDepth 100000 in
theorem yR (A B : Option Addr) (n c m d : Nat) (w : World) :
 Calls Tryz.prog 8 #[.agg #[.slice A n c, .slice B m d]] w fun e w' => e = .returned (.agg #[.slice A n c, .slice B m d]) ∧ Below w.heap.size w w' := by
 have hb1 : Below w.heap.size w ((w.alloc (.cells #[.slice A n c, .slice B m d] 27)).alloc (.cells #[.slice A n c, .slice B m d] 34)) := ((Below.refl _ _).alloc (Nat.le_refl _) _).alloc (by simp) _
 have e1 : (w.alloc (.cells #[.slice A n c, .slice B m d] 27)).heap.size = w.heap.size + 1 := by simp
 have hx := Bx.new (w.alloc (.cells #[.slice A n c, .slice B m d] 27)) #[.slice A n c, .slice B m d] 34
 rw [e1] at hx
 have HX := zH hx
 have HB := zH hb1
 clear hb1 e1 hx
 go_enter Tryz.func8, Tryz.ntmps8
 go_wp2_with fail
 exact bodyPost_ret (v := .agg #[.slice A n c, .slice B m d]) (TabM.jl Tryz.results8 _ _ _ _ rfl (run_loadVar_row _ _ _ _ #[.slice A n c, .slice B m d] (0, 0) _ HX.out Tryz.underlying34 rfl jW)) rfl ⟨rfl, HB.out⟩
set_option maxRecDepth 100000 in
set_option maxHeartbeats 1000000 in
theorem zn8 (A B A2 B2 : Option Addr) (c d c2 d2 : Nat) (l l2 : List T) (w : World) (hm : l.length ≤ maxLen) (hm2 : l2.length ≤ maxLen) (hr : Rds w A (l.map sv)) (hr2 : Rds w B (l.map sv)) (hr3 : Rds w A2 (l2.map sv)) (hr4 : Rds w B2 (l2.map sv)) :
 Calls Tryz.prog 11 #[.agg #[.slice A l.length c, .slice A2 l2.length c2], .agg #[.slice B l.length d, .slice B2 l2.length d2]] w fun e w' => e = .returned (.bool true) ∧ Below w.heap.size w w' := by
 have hb1 : Below w.heap.size w ((w.alloc (.cells #[.slice A l.length c, .slice A2 l2.length c2] 27)).alloc (.cells #[.slice B l.length d, .slice B2 l2.length d2] 27)) := ((Below.refl _ _).alloc (Nat.le_refl _) _).alloc (by simp) _
 have e1 : (w.alloc (.cells #[.slice A l.length c, .slice A2 l2.length c2] 27)).heap.size = w.heap.size + 1 := by simp
 have hx1 := TabZ.Zn (Bx.new w #[.slice A l.length c, .slice A2 l2.length c2] 27) (.cells #[.slice B l.length d, .slice B2 l2.length d2] 27)
 have hx2 := Bx.new (w.alloc (.cells #[.slice A l.length c, .slice A2 l2.length c2] 27)) #[.slice B l.length d, .slice B2 l2.length d2] 27
 rw [e1] at hx2
 have X1 := zH hx1
 have X2 := zH hx2
 have HB := zH hb1
 have HT1 := zH (Jz A B l l.length l.length c d _ rfl rfl hm (hr.below hb1) (hr2.below hb1))
 have HT2 := zH (fun W (hb : Below w.heap.size w W) => Jz A2 B2 l2 l2.length l2.length c2 d2 W rfl rfl hm2 (hr3.below hb) (hr4.below hb))
 clear hb1 e1 hx1 hx2 hr hr2 hr3 hr4
 go_enter Tryz.func11, Tryz.ntmps11
 go_wp2_with fail
 refine HT1.out.mono ?_
 rintro e w1 ⟨rfl, hb1⟩
 have B1 := zH (HB.out.trans (hb1.mono HB.out.size))
 have h1 := X1.out.after hb1
 have h2 := X2.out.after hb1
 have c1 : w1.cell? ⟨w.heap.size, 1, none⟩ = some (.slice A2 l2.length c2) := h1.cell 1
 have l1 := h1.lt
 have c2' : w1.cell? ⟨w.heap.size + 1, 1, none⟩ = some (.slice B2 l2.length d2) := h2.cell 1
 have l2' := h2.lt
 clear hb1 h1 h2
 go_wp2_with fail
 refine (HT2.out _ B1.out).mono ?_
 rintro e w2 ⟨rfl, hb2⟩
 have B2' := zH (B1.out.trans (hb2.mono B1.out.size))
 clear hb2
 go_wp2_with fail
 go_ret
 exact ⟨rfl, B2'.out⟩
end KndG
end Go.Proofs.YtehainbhoflpnaaGreatDoor
