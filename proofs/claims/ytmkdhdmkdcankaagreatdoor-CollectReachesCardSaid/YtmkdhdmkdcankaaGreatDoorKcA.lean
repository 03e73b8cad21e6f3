/- pieces -/
import Derived.Test.YtmkdhdmkdcankaaGreatDoorK1
import Derived.Test.YtmkdhdmkdcankaaGreatDoorK46
import Derived.Deep.RegionLaw
import Derived.Test.YtmkdhdmkdcankaaGreatDoorK48
import Derived.Test.YtmkdhdmkdcankaaGreatDoorRows
import Derived.Test.YtmkdhdmkdcankaaGreatDoorK17
import Derived.ProofKit
import Derived.SizedLaws
import Derived.SliceStrings
namespace Go.Proofs.YtmkdhdmkdcankaaGreatDoor
namespace CeD
open Go.RowKit BinM DescM DescW DescX DescR
open BinName (ret_bool)
theorem right_head {l : List UInt8} (h : rightB l = true) (h0 : 0 < l.length) : l = [73] ∨ l = [66] ∨ l = [83] ∨ l[0] = 76 ∨ l[0] = 91 := by
 cases l with
 | nil => simp at h0
 | cons c t =>
   by_cases hc : c = 91
   · subst hc; simp
   · have hb : brk (c :: t) = 0 := by simp [brk, hc]
     rw [right_tail, hb, List.drop_zero] at h
     simp only [Bool.and_eq_true, decide_eq_true_eq] at h
     have h2 := h.2
     simp only [tailB, Bool.or_eq_true, Bool.and_eq_true, beq_iff_eq, decide_eq_true_eq] at h2
     rcases h2 with ((h2 | h2) | h2) | ⟨⟨⟨_, h2⟩, _⟩, _⟩
     · exact .inl h2
     · exact .inr (.inl h2)
     · exact .inr (.inr (.inl h2))
     · simp at h2; simp [h2]
theorem refElem_any (l : List UInt8) (w : World) (hl : l.length ≤ 140737488355328) :
   Calls Tryz.prog 89 #[.string ⟨l.toArray⟩] w fun e w' => e = .returned (twoI (elemT l)) ∧ w = w' := by
 cases hR : rightB l
 · have Hfin := zH (show elemT l = ([], 10) by unfold elemT elemB; rw [hR]; rfl)
   have HR := zH hR
   clear hR
   go_enter Tryz.func89, Tryz.ntmps89
   go_wp2_with (go_at_call 115; refine (refRight_any l _ (by omega)).mono ?_; rw [HR.out]; rintro e w' ⟨rfl, rfl⟩)
   go_ret2
   exact ⟨ret2I Hfin.out rfl, rfl⟩
 · have hp := right_pos hR
   have hp0 : 0 < l.length := by omega
   have hh := head_at hp0 91
   have hx0 := fun h' => at0 hp0 h'
   have HR := zH hR
   cases hc : ((l[0].toNat : Int) == 91)
   · have hc2 : ((l[0].toNat : Int) != 91) = true := by rw [bne, hc]; rfl
     have Hfin := zH (show elemT l = ([], 10) by unfold elemT elemB; rw [hR, hh]; rw [show ((91 : UInt8).toNat : Int) = 91 from rfl, hc]; rfl)
     clear hR hh
     go_enter Tryz.func89, Tryz.ntmps89
     go_wp2_with (go_at_call 115; refine (refRight_any l _ (by omega)).mono ?_; rw [HR.out]; rintro e w' ⟨rfl, rfl⟩)
     go_ret2
     exact ⟨ret2I Hfin.out rfl, rfl⟩
   · have hc2 : ((l[0].toNat : Int) != 91) = false := by rw [bne, hc]; rfl
     have Hfin := zH (show elemT l = (l.drop 1, 0) by unfold elemT elemB; rw [hR, hh]; rw [show ((91 : UInt8).toNat : Int) = 91 from rfl, hc]; rfl)
     clear hR hh
     go_enter Tryz.func89, Tryz.ntmps89
     go_wp2_with (go_at_call 115; refine (refRight_any l _ (by omega)).mono ?_; rw [HR.out]; rintro e w' ⟨rfl, rfl⟩)
     go_ret2
     exact ⟨ret2I Hfin.out (by rw [ext, List.take_of_length_le (by simp)]), rfl⟩
theorem refRef_any (l : List UInt8) (w : World) (hl : l.length ≤ 140737488355328) :
   Calls Tryz.prog 88 #[.string ⟨l.toArray⟩] w fun e w' => e = .returned (.bool (refB l)) ∧ w = w' := by
 cases hN : l == [78]
 · cases hS : l == [83]
   · cases hR : rightB l
     · have Hfin := zH (show refB l = false by unfold refB; rw [hN, hR]; rfl)
       have HR := zH hR
       clear hR
       go_enter Tryz.func88, Tryz.ntmps88
       go_wp2_with (go_at_call 115; refine (refRight_any l _ (by omega)).mono ?_; rw [HR.out]; rintro e w' ⟨rfl, rfl⟩)
       go_ret
       exact ⟨ret_bool (by rw [Hfin.out]), rfl⟩
     · have hp0 : 0 < l.length := right_pos hR
       have hx0 := fun h' => at_mk 0 hp0 h'
       have hh := right_head hR hp0
       have HR := zH hR
       have hS' : ¬ l = [83] := by intro h; rw [h] at hS; simp at hS
       cases q1 : ((l[0].toNat : Int) == 76)
       · cases q2 : ((l[0].toNat : Int) == 91)
         · have Hfin := zH (show refB l = false by
             unfold refB
             rw [hN, hR]
             rcases hh with h | h | h | h | h
             · rw [h]; rfl
             · rw [h]; rfl
             · exact absurd h hS'
             · rw [h] at q1; simp at q1
             · rw [h] at q2; simp at q2)
           clear hR hh hS'
           go_enter Tryz.func88, Tryz.ntmps88
           go_wp2_with (go_at_call 115; refine (refRight_any l _ (by omega)).mono ?_; rw [HR.out]; rintro e w' ⟨rfl, rfl⟩)
           go_ret
           exact ⟨ret_bool (by rw [Hfin.out]), rfl⟩
         · have Hfin := zH (show refB l = true by
             unfold refB
             rw [hN, hR]
             have h1 : ¬ l = [73] := by intro h; subst h; simp at q2
             have h2 : ¬ l = [66] := by intro h; subst h; simp at q2
             simp [h1, h2])
           clear hR hh hS'
           go_enter Tryz.func88, Tryz.ntmps88
           go_wp2_with (go_at_call 115; refine (refRight_any l _ (by omega)).mono ?_; rw [HR.out]; rintro e w' ⟨rfl, rfl⟩)
           go_ret
           exact ⟨ret_bool (by rw [Hfin.out]), rfl⟩
       · have Hfin := zH (show refB l = true by
           unfold refB
           rw [hN, hR]
           have h1 : ¬ l = [73] := by intro h; subst h; simp at q1
           have h2 : ¬ l = [66] := by intro h; subst h; simp at q1
           simp [h1, h2])
         clear hR hh hS'
         go_enter Tryz.func88, Tryz.ntmps88
         go_wp2_with (go_at_call 115; refine (refRight_any l _ (by omega)).mono ?_; rw [HR.out]; rintro e w' ⟨rfl, rfl⟩)
         go_ret
         exact ⟨ret_bool (by rw [Hfin.out]), rfl⟩
   · have Hfin := zH (show refB l = true by have := eq_of_beq hS; subst this; decide)
     go_enter Tryz.func88, Tryz.ntmps88
     go_wp2
     go_ret
     exact ⟨ret_bool (by rw [Hfin.out]), rfl⟩
 · have Hfin := zH (show refB l = true by unfold refB; rw [hN]; rfl)
   go_enter Tryz.func88, Tryz.ntmps88
   go_wp2
   go_ret
   exact ⟨ret_bool (by rw [Hfin.out]), rfl⟩
end CeD
namespace CeA
open Go.RowKit Base BinM Stru DescM DescW DescX DescR DescS DescG DescP DescQ HierS HierT HierM HierC HierD HierN HierV HierR HierU Kls KlsP KlsQ OpenK TabC TabM TabK TabP TabE TabB TabG TabH TabT TabU TabV TabX TabW TabF TabN TabO TabY TabCs TabL TabR TabQ LnkA LnkC LnkS ClZ ClI CeD
def standP (cb hb eb kb sb rb : Bool) (cl : Sh) : Sh × Bool := if cb && hb then (cl, true) else if eb && kb then (⟨1, 0, [], rb⟩, true) else if sb then (⟨2, 0, [], false⟩, true) else (noSh, false)
def standE (ps : List P2) (L : List ClsT) (d : T) : Sh × Bool :=
 standP (classT d).2 (hasR (refL ps) (classT d).1) ((elemT d).2 == 0) ((mk ps).known d) (d == [83]) (refB (elemT d).1) (clsSh L (classT d).1)
set_option maxRecDepth 100000 in
theorem stand_bs (f : Nat) : ∀ d ∈ [0, 1, 2, 3, 4, 5, 6], standE (pairs (bs f)) (bs f) (LnkA.nameE tyn ((d : Nat) : Int)) = ClA.shp d := by
 intro d hd
 simp only [List.mem_cons, List.not_mem_nil, or_false] at hd
 rcases hd with rfl | rfl | rfl | rfl | rfl | rfl | rfl <;> kernel_rfl
theorem sizeShapeR : (Tryz.prog.info? 107).map (·.size) = some 4 := by kernel_rfl
theorem shapeR_ret {W : World} {b : Nat} {k s : Int} {A : Option Addr} {n c : Nat} {all : Bool} (h : HpM.Bx W b #[.int .i64 k, .int .i64 s, .slice A n c, .bool all] 107) :
   (loadVar 107 ⟨b, 0, none⟩).run Tryz.prog W = .ok (.agg #[.int .i64 k, .int .i64 s, .slice A n c, .bool all]) W :=
 run_loadVar_row _ _ _ _ #[.int .i64 k, .int .i64 s, .slice A n c, .bool all] (0, 0) _ h Tryz.underlying107 rfl sizeShapeR
set_option maxRecDepth 100000 in
set_option maxHeartbeats 8000000 in
theorem stand_cls {lo : Nat} {w : World} {r g : Nat} {A : Option Addr} {c : Nat} {ps : List P2} {L : List ClsT} (H : RT lo w r g A c ps L) (U : Ups ps L) (d : T) (hdl : d.length ≤ 10000) (hds : ∀ y ∈ (hav L (classT d).1).1.map fldOf, y.desc.length ≤ 140737488355328) (h1 : (classT d).2 = true) (h2 : hasR (refL ps) (classT d).1 = true) :
   Calls Tryz.prog 50 #[.pointer (some ⟨r, 0, none⟩), .string ⟨d.toArray⟩] w (GivesS w (clsSh L (classT d).1, true)) := by
 have hb : Below w.heap.size w (w.alloc (.cells #[.int .i64 0, .int .i64 0, .slice none 0 0, .bool false] 107)) := (Below.refl _ _).alloc (Nat.le_refl _) _
 have HC : Hid (∀ W, Calls Tryz.prog 85 #[.string ⟨d.toArray⟩] W fun e w' => e = .returned (.tuple #[.string ⟨(classT d).1.toArray⟩, .bool true]) ∧ W = w') := zH (fun W => by have := refClass_any d W (by omega); unfold twoB at this; rw [h1] at this; exact this)
 have HHs := zH (hasR_any lo g (refL ps) (classT d).1 _ (H.ext hb).hier)
 rw [h2] at HHs
 have HL := zH (layoutR_any (H.ext hb) U (classT d).1)
 have p0 : (w.alloc (.cells #[.int .i64 0, .int .i64 0, .slice none 0 0, .bool false] 107)).cell? ⟨r, 0, none⟩ = some (.pointer (some ⟨g, 0, none⟩)) := (H.ext hb).box.cell 0
 have hrl := H.box.lt
 have HR := zH (HpM.Bx.new w #[.int .i64 0, .int .i64 0, .slice none 0 0, .bool false] 107)
 have hl5 := (hav_len U.few (classT d).1).1
 have HD := zH hds
 have hll : ((hav L (classT d).1).1.map fldOf).length ≤ 5000 := by simpa using hl5
 have HB := zH hb
 unfold clsSh
 unfold GivesL at HL
 clear H hb hds hl5 h1 h2
 generalize (hav L (classT d).1).1.map fldOf = l at *
 generalize (classT d).1 = q at *
 go_enter Tryz.func50, Tryz.ntmps50
 go_wp2_with (first
   | (go_at_call 85; refine (HC.out _).mono ?_; rintro e w' ⟨rfl, rfl⟩)
   | (go_at_call 86; refine HHs.out.mono ?_; rintro e w' ⟨rfl, rfl⟩))
 refine HL.out.mono ?_
 rintro e w1 ⟨v1, rfl, ho1, hb1⟩
 obtain ⟨A1, c1, rfl, hc1, hc2, _, _⟩ := own_slice ho1
 have R1 := zH (Rds.own ho1)
 have HR1 := zH (HR.out.after hb1)
 have HB1 := zH (HB.out.trans (hb1.mono HB.out.size))
 have hs1 := hb1.size
 clear ho1 hb1
 have hrow : ∀ k (hk : k < l.length), l[k].desc.length ≤ 140737488355328 := fun k hk => HD.out _ (List.getElem_mem hk)
 have HRow := zH hrow
 clear hrow
 have Z := zH ((Below.refl w1.heap.size w1).alloc (Nat.le_refl _) (.cells #[.int .i64 0, .int .i64 (l.length : Int), .slice none 0 0, .bool false] 107))
 have ZX := zH (HpM.Bx.new w1 #[.int .i64 0, .int .i64 (l.length : Int), .slice none 0 0, .bool false] 107)
 go_wp2_with fail
 go_loopw [10] (fun i wr => ∃ (k : Nat) (v : Value), k ≤ l.length ∧ i = .int .i64 (k : Int) ∧ HpM.Bx wr w1.heap.size #[.int .i64 0, .int .i64 (l.length : Int), v, .bool false] 107 ∧ OwnJ wr w1.heap.size v (refsP l k) ∧ Below w1.heap.size w1 wr) (fun i _ => l.length - (intOf i).toNat)
 case atStart => exact ⟨0, _, Nat.zero_le _, rfl, ZX.out, OwnJ.nil _ _, Z.out⟩
 case round =>
   obtain ⟨k, v, hk, rfl, hbx, hown, hbel⟩ := hrel
   obtain ⟨A2, c2, rfl, hc3, hc4, _, hat⟩ := hown.slice
   have HAt := zH hat
   clear hat
   have hszr := hbel.size
   have hbl := hbx.lt
   by_cases hlt : k < l.length
   · obtain ⟨b, o, rfl, hb1, hd0, hd1⟩ := fld_at (R1.out.below hbel) hlt
     have HS := zH (refsP_succ l k hlt)
     have HRf := zH (fun w => refRef_any l[k].desc w (HRow.out k hlt))
     have hrl := refsP_len l k
     have x2 : wr.cell? ⟨w1.heap.size, 2, none⟩ = some (.slice A2 (refsP l k).length c2) := hbx.cell 2
     have hnb := own_neG hown hbx (by decide)
     have HX := zH hbx
     have HO := zH hown
     have HBe := zH hbel
     clear hbx hown hbel
     have hk1 : (k : Int) < (l.length : Int) := by omega
     generalize l[k] = y at *
     obtain ⟨y0, y1⟩ := y
     simp only at hd0 hd1 HRf HS
     cases hq2 : refB y1
     · have HE := zH (show refsP l (k + 1) = refsP l k by rw [HS.out, hq2]; rfl)
       rw [hq2] at HRf
       clear HS hq2
       go_wp2_with (go_at_call 88; refine (HRf.out _).mono ?_; rintro e w' ⟨rfl, rfl⟩)
       go_roundw
       case rel => exact ⟨k + 1, _, by omega, by go_num, HX.out, by rw [HE.out]; exact HO.out, HBe.out⟩
       case measure => simp [intOf]; omega
     · have HE := zH (show refsP l (k + 1) = refsP l k ++ [(k : Int)] by rw [HS.out, hq2]; rfl)
       rw [hq2] at HRf
       clear HS hq2
       have HO2 := zH (World.ownsRow.alloc HO.out (.cells #[.int .i64 (k : Int)] 3))
       have HRd := zH (LnkA.rds_bx (HpM.Bx.new wr #[.int .i64 (k : Int)] 3))
       have HS2 : Hid (w1.heap.size ≤ (wr.alloc (.cells #[.int .i64 (k : Int)] 3)).heap.size) := zH (by simp; omega)
       have HBx2 := zH (HX.out.after ((Below.refl _ _).alloc (Nat.le_refl _) (.cells #[.int .i64 (k : Int)] 3)))
       have HBe2 := zH (HBe.out.alloc hszr (.cells #[.int .i64 (k : Int)] 3))
       go_wp2_with (first
         | (go_at_call 88; refine (HRf.out _).mono ?_; rintro e w' ⟨rfl, rfl⟩)
         | (at_builtin; refine appJ rfl (.tmp 46) (.tmp 48) rfl w1.heap.size _ (refsP l k) rfl HO2.out (some ⟨wr.heap.size, 0, none⟩) 1 1 [(k : Int)] rfl rfl HRd.out (by simp; omega) HS2.out ?_; intro v2 w2 hown2 hg2; obtain ⟨A3, n3, c3, rfl⟩ : ∃ A n c, v2 = .slice A n c := ⟨_, _, _, hown2.slice.choose_spec.choose_spec.1⟩; have hx3 := (hg2.block _ HBx2.out.lt (fun e => hnb e.symm)).trans HBx2.out; have r2 : w2.cell? ⟨w1.heap.size, 2, none⟩ = some (.slice A2 (refsP l k).length c2) := HpM.Bx.cell hx3 2; have r3 := HpM.Bx.free hx3 2; have r4 := HpM.Bx.lt hx3; have HX3 := zH (HpM.Bx.set hx3 2 (.slice A3 n3 c3)); have HO3 := zH hown2; have HB3 := zH (below_own HBe2.out HO2.out (Nat.le_refl _) HS2.out hg2); have hn3 := own_neG hown2 hx3 (by decide); clear hx3 hown2 hg2))
       go_roundw
       case rel => exact ⟨k + 1, _, by omega, by go_num, HX3.out, by rw [HE.out]; exact TabM.own_same HO3.out (fun j hj => heap_setCell_other _ ⟨w1.heap.size, 2, none⟩ _ _ (fun e => hn3 (by rw [hj, e]))), HB3.out.setCell (p := ⟨w1.heap.size, 2, none⟩) (Nat.le_refl _) _⟩
       case measure => simp [intOf]; omega
   · have hkl : k = l.length := by omega
     subst hkl
     have HX := zH hbx
     have HO := zH hown
     have HRr := zH (HR1.out.after hbel)
     have HBa := zH (HB1.out.trans (hbel.mono HB1.out.size))
     have q0 : wr.cell? ⟨w1.heap.size, 0, none⟩ = some (.int .i64 0) := hbx.cell 0
     have q1 : wr.cell? ⟨w1.heap.size, 1, none⟩ = some (.int .i64 (l.length : Int)) := hbx.cell 1
     have q2 : wr.cell? ⟨w1.heap.size, 2, none⟩ = some (.slice A2 (refsP l l.length).length c2) := hbx.cell 2
     have q3 : wr.cell? ⟨w1.heap.size, 3, none⟩ = some (.bool false) := hbx.cell 3
     have u0 := HRr.out.free 0
     have u1 := HRr.out.free 1
     have u2 := HRr.out.free 2
     have u3 := HRr.out.free 3
     have s0 : wr.cell? ⟨w.heap.size, 0, none⟩ = some (.int .i64 0) := HRr.out.cell 0
     have s1 : wr.cell? ⟨w.heap.size, 1, none⟩ = some (.int .i64 0) := HRr.out.cell 1
     have s2 : wr.cell? ⟨w.heap.size, 2, none⟩ = some (.slice none 0 0) := HRr.out.cell 2
     have s3 : wr.cell? ⟨w.heap.size, 3, none⟩ = some (.bool false) := HRr.out.cell 3
     have hwl := HRr.out.lt
     clear hbx hown hbel
     have hnb := own_neG HO.out HRr.out (by decide)
     have EX1 := zH (fov_bx HRr.out (.int .i64 0) (.int .i64 (l.length : Int)) (.slice A2 (refsP l l.length).length c2) (.bool false))
     have EB1 := zH (fov_below HBa.out (Nat.le_refl w.heap.size) (.int .i64 0) (.int .i64 (l.length : Int)) (.slice A2 (refsP l l.length).length c2) (.bool false))
     have ER1 : Hid (Rds (fov wr w.heap.size (.int .i64 0) (.int .i64 (l.length : Int)) (.slice A2 (refsP l l.length).length c2) (.bool false)) A2 ((refsP l l.length).map (Value.int .i64))) := zH (Rds.own (TabM.own_same HO.out (fun j hj => fov_other wr w.heap.size (.int .i64 0) (.int .i64 (l.length : Int)) (.slice A2 (refsP l l.length).length c2) (.bool false) j (fun e => hnb (by rw [hj, e])))))
     clear hnb
     go_wp2_with fail
     exact bodyPost_ret (v := .tuple #[.agg #[.int .i64 0, .int .i64 (l.length : Int), .slice A2 (refsP l l.length).length c2, .bool false], .bool true]) (result2 Tryz.results50 _ _ _ _ rfl (shapeR_ret EX1.out)) rfl ⟨A2, c2, rfl, ER1.out, hc3, EB1.out, fun a ha => Nat.le_trans HB1.out.size (HAt.out a ha).1⟩
set_option maxRecDepth 100000 in
set_option maxHeartbeats 8000000 in
theorem stand_no {lo : Nat} {w : World} {r g : Nat} {A : Option Addr} {c : Nat} {ps : List P2} {L : List ClsT} (H : RT lo w r g A c ps L) (d : T) (hdl : d.length ≤ 10000) (hn : ((classT d).2 && hasR (refL ps) (classT d).1) = false) :
   Calls Tryz.prog 50 #[.pointer (some ⟨r, 0, none⟩), .string ⟨d.toArray⟩] w (GivesS w (standE ps L d)) := by
 have hb : Below w.heap.size w (w.alloc (.cells #[.int .i64 0, .int .i64 0, .slice none 0 0, .bool false] 107)) := (Below.refl _ _).alloc (Nat.le_refl _) _
 have HC : Hid (∀ W, Calls Tryz.prog 85 #[.string ⟨d.toArray⟩] W fun e w' => e = .returned (.tuple #[.string ⟨(classT d).1.toArray⟩, .bool (classT d).2]) ∧ W = w') := zH (fun W => refClass_any d W (by omega))
 have HEl : Hid (∀ W, Calls Tryz.prog 89 #[.string ⟨d.toArray⟩] W fun e w' => e = .returned (.tuple #[.string ⟨(elemT d).1.toArray⟩, .int .i64 (elemT d).2]) ∧ W = w') := zH (fun W => refElem_any d W (by omega))
 have hel := elemT_len d
 have HRf := zH (fun W => refRef_any (elemT d).1 W (by omega))
 have HHs := zH (hasR_any lo g (refL ps) (classT d).1 _ (H.ext hb).hier)
 have HKn := zH (knownR_any lo g ps d _ (H.ext hb).hier (by omega))
 have p0 : (w.alloc (.cells #[.int .i64 0, .int .i64 0, .slice none 0 0, .bool false] 107)).cell? ⟨r, 0, none⟩ = some (.pointer (some ⟨g, 0, none⟩)) := (H.ext hb).box.cell 0
 have hrl := H.box.lt
 unfold standE standP
 rw [hn]
 clear H hb
 generalize classT d = C at *
 obtain ⟨q, cb⟩ := C
 generalize elemT d = E at *
 obtain ⟨E1, E2⟩ := E
 simp only at hel hn HC HEl HRf HHs ⊢
 generalize hasR (refL ps) q = hb at *
 generalize (mk ps).known d = kb at *
 generalize refB E1 = rb at *
 generalize hS : (d == [83]) = sb at *
 generalize hE : (E2 == 0) = eb at *
 cases cb <;> cases hb <;> (try (cases hn; done)) <;> cases eb <;> cases kb <;> cases sb
 all_goals
   go_enter Tryz.func50, Tryz.ntmps50
   go_wp2_with (first
     | (go_at_call 85; refine (HC.out _).mono ?_; rintro e w' ⟨rfl, rfl⟩)
     | (go_at_call 86; refine HHs.out.mono ?_; rintro e w' ⟨rfl, rfl⟩)
     | (go_at_call 89; refine (HEl.out _).mono ?_; rintro e w' ⟨rfl, rfl⟩)
     | (go_at_call 90; refine HKn.out.mono ?_; rintro e w' ⟨rfl, rfl⟩)
     | (go_at_call 88; refine (HRf.out _).mono ?_; rintro e w' ⟨rfl, rfl⟩))
   first
     | exact bodyPost_ret (v := .tuple #[.agg #[.int .i64 1, .int .i64 0, .slice none 0 0, .bool rb], .bool true]) (result2 Tryz.results50 _ _ _ _ rfl (shapeR_ret (HpM.Bx.new w #[.int .i64 1, .int .i64 0, .slice none 0 0, .bool rb] 107))) rfl ⟨none, 0, rfl, .inl rfl, Nat.le_refl _, (Below.refl _ _).alloc (Nat.le_refl _) _, fun a ha => by cases ha⟩
     | exact bodyPost_ret (v := .tuple #[.agg #[.int .i64 2, .int .i64 0, .slice none 0 0, .bool false], .bool true]) (result2 Tryz.results50 _ _ _ _ rfl (shapeR_ret (HpM.Bx.new w #[.int .i64 2, .int .i64 0, .slice none 0 0, .bool false] 107))) rfl ⟨none, 0, rfl, .inl rfl, Nat.le_refl _, (Below.refl _ _).alloc (Nat.le_refl _) _, fun a ha => by cases ha⟩
     | exact bodyPost_ret (v := .tuple #[.agg #[.int .i64 0, .int .i64 0, .slice none 0 0, .bool false], .bool false]) (result2 Tryz.results50 _ _ _ _ rfl (shapeR_ret (HpM.Bx.new w #[.int .i64 0, .int .i64 0, .slice none 0 0, .bool false] 107))) rfl ⟨none, 0, rfl, .inl rfl, Nat.le_refl _, (Below.refl _ _).alloc (Nat.le_refl _) _, fun a ha => by cases ha⟩
theorem stand_any {lo : Nat} {w : World} {r g : Nat} {A : Option Addr} {c : Nat} {ps : List P2} {L : List ClsT} (H : RT lo w r g A c ps L) (U : Ups ps L) (d : T) (hdl : d.length ≤ 10000) (hds : ∀ y ∈ (hav L (classT d).1).1.map fldOf, y.desc.length ≤ 140737488355328) :
   Calls Tryz.prog 50 #[.pointer (some ⟨r, 0, none⟩), .string ⟨d.toArray⟩] w (GivesS w (standE ps L d)) := by
 cases h : (classT d).2 && hasR (refL ps) (classT d).1
 · exact stand_no H d hdl h
 · have h2 := h
   rw [Bool.and_eq_true] at h2
   have e : standE ps L d = (clsSh L (classT d).1, true) := by unfold standE standP; rw [h]; rfl
   rw [e]
   exact stand_cls H U d hdl hds h2.1 h2.2
end CeA
end Go.Proofs.YtmkdhdmkdcankaaGreatDoor
namespace Go.Proofs.YtmkdhdmkdcankaaGreatDoor
namespace CeG
open Go.RowKit Base BinM HpM HpA HpS HpB HpG HpP HpT HpZ HpR HpQ
section
variable {w w' : World} {r : Nat} {AL : Option Addr} {cL most : Nat} {ms : List ThM}
set_option maxRecDepth 100000 in
theorem rget_yes {p : List ThM} {m : ThM} {q : List ThM} (H : RfX w r AL cL most (p ++ m :: q)) (hn : (p ++ m :: q).length ≤ 4096) (hW : m.t.W.length ≤ 4096) (i : Int) :
   Calls Tryz.prog 47 #[.pointer (some ⟨r, 0, none⟩), .int .i64 m.at_, .int .i64 i] w fun e w' => e = .returned (.tuple #[.int .i64 (getE m.t.W i).1, .int .i64 (getE m.t.W i).2]) ∧ w = w' := by
 have HB := zH (find_yes H hn)
 have c1 := H.box.cell 1
 obtain ⟨b, o, rfl, _, _, k2, _⟩ := H.cells rfl
 have hpl : (p.length : Int) < ((p ++ m :: q).length : Int) := by simp; omega
 have hpl2 : (p.length : Int) ≤ 4096 := by omega
 have hrow := H.each m (by simp)
 clear H
 generalize (p ++ m :: q).length = L at *
 generalize p.length = P at *
 generalize m.t.W = W at *
 by_cases h0 : i < 0
 · have hE := zH (show getE W i = (0, 3) by unfold getE; rw [if_neg (by omega)])
   clear hrow
   go_enter Tryz.func47, Tryz.ntmps47
   go_wp2_with (go_at_call 45; refine HB.out.mono ?_; rintro e w' ⟨rfl, rfl⟩)
   go_ret2
   exact ⟨by rw [hE.out]; rfl, rfl⟩
 · by_cases h1 : (W.length : Int) ≤ i
   · have hE := zH (show getE W i = (0, 3) by unfold getE; rw [if_neg (by omega)])
     clear hrow
     go_enter Tryz.func47, Tryz.ntmps47
     go_wp2_with (go_at_call 45; refine HB.out.mono ?_; rintro e w' ⟨rfl, rfl⟩)
     go_ret2
     exact ⟨by rw [hE.out]; rfl, rfl⟩
   · obtain ⟨k, rfl⟩ : ∃ k : Nat, i = (k : Int) := ⟨i.toNat, by omega⟩
     have hk : k < W.length := by omega
     have hE := zH (show getE W (k : Int) = (W[k], 0) by
       unfold getE
       rw [if_pos (by omega), Int.toNat_natCast, List.getD_eq_getElem?_getD, List.getElem?_eq_getElem hk]; rfl)
     obtain ⟨bw, hbw, _⟩ := own_head hrow (by omega)
     rw [hbw] at k2 hrow
     have hc := own_cell hrow (List.getElem?_eq_getElem hk)
     clear hrow
     generalize W[k] = x at *
     generalize W.length = wl at *
     go_enter Tryz.func47, Tryz.ntmps47
     go_wp2_with (go_at_call 45; refine HB.out.mono ?_; rintro e w' ⟨rfl, rfl⟩)
     go_ret2
     exact ⟨by rw [hE.out]; rfl, rfl⟩
end
end CeG
namespace CeB
open Go.RowKit Base BinM Stru DescM DescW DescX DescR DescS DescG DescP DescQ HierS HierT HierM HierC HierD HierN HierV HierR HierU Kls KlsP KlsQ OpenK TabC TabM TabK TabP TabE TabB TabG TabH TabT TabU TabV TabX TabW TabF TabN TabO TabY TabCs TabL TabR TabQ LnkA LnkC LnkS ClA ClZ ClI CeA
open HpM (fitI OwnI)
open ClM (refsE reachE reachF thAt come wordsE thAt_mid)
open HpA (Th raw adr adr_split)
open HpB (Fits)
open HpR (RfX ThM things)
structure Doc (w : World) (r u : Nat) (An : Option Addr) (ts : List Th) : Prop where
 rf : ∃ AL cL ms, RfX w r AL cL 400 ms ∧ things ms = ts
 fits : Fits 400 ts
 few : ts.length ≤ 40
 tab : ∃ f lo g A c, RT lo w u g A c (pairs (bs f)) (bs f)
 nam : Rds w An (tyn.map sv)
section
variable {w w' : World} {r u : Nat} {An : Option Addr} {ts : List Th}
theorem Doc.later (D : Doc w r u An ts) (hb : Below w.heap.size w w') : Doc w' r u An ts := by
 obtain ⟨⟨AL, cL, ms, h1, h2⟩, h3, h4, ⟨f, lo, g, A, c, h5⟩, h6⟩ := D
 exact ⟨⟨AL, cL, ms, h1.beside hb, h2⟩, h3, h4, ⟨f, lo, g, A, c, h5.ext hb⟩, h6.below hb⟩
theorem word_len (F : Fits 400 ts) {t : Th} (h : t ∈ ts) : t.W.length ≤ 400 := by
 have hl := F.len
 obtain ⟨p, q, rfl⟩ := List.append_of_mem h
 rw [HpA.raw_append, List.length_append] at hl
 have : (raw (t :: q)).length = 1 + t.W.length + (raw q).length := by
   unfold raw
   simp [HpA.row_length]
 omega
theorem split_at {ms0 : List ThM} (h : things ms0 = ts) {p : List Th} {t : Th} {q : List Th} (e : ts = p ++ t :: q) : ∃ p' m q', ms0 = p' ++ m :: q' ∧ things p' = p ∧ m.t = t ∧ p'.length = p.length := by
 subst e
 unfold things at h
 obtain ⟨p', l2, rfl, h1, h2⟩ := List.map_eq_append_iff.1 h
 obtain ⟨m, q', rfl, h3, h4⟩ := List.map_eq_cons_iff.1 h2
 exact ⟨p', m, q', rfl, h1, h3, by rw [← h1, List.length_map]⟩
theorem at_adr {r : Nat} {AL : Option Addr} {cL : Nat} {p : List ThM} {m : ThM} {q : List ThM} (H : RfX w r AL cL 400 (p ++ m :: q)) : m.at_ = (((raw (things p)).length + 1 : Nat) : Int) := HpQ.at_val H.ats
theorem dfind_yes (D : Doc w r u An ts) {p : List Th} {t : Th} {q : List Th} (e : ts = p ++ t :: q) :
   Calls Tryz.prog 45 #[.pointer (some ⟨r, 0, none⟩), .int .i64 (((raw p).length + 1 : Nat) : Int)] w fun e w' => e = .returned (.int .i64 (p.length : Int)) ∧ w = w' := by
 obtain ⟨AL, cL, ms, H, h2⟩ := D.rf
 obtain ⟨p', m, q', rfl, h3, h4, h5⟩ := split_at h2 e
 have hl : (p' ++ m :: q').length ≤ 4096 := by
   have := D.few
   rw [← h2] at this
   unfold things at this
   rw [List.length_map] at this
   omega
 have h := HpQ.find_yes H hl
 rw [at_adr H, h3, h5] at h
 exact h
theorem dfind_no (D : Doc w r u An ts) {x : Int} (hx : x ∉ adr 0 ts) :
   Calls Tryz.prog 45 #[.pointer (some ⟨r, 0, none⟩), .int .i64 x] w fun e w' => e = .returned (.int .i64 (-1)) ∧ w = w' := by
 obtain ⟨AL, cL, ms, H, h2⟩ := D.rf
 have hl : ms.length ≤ 4096 := by
   have := D.few
   rw [← h2] at this
   unfold things at this
   rw [List.length_map] at this
   omega
 exact HpQ.find_no H hl x (by rw [h2]; exact hx)
theorem dfind_any (D : Doc w r u An ts) (x : Int) : ∃ i : Int, (i < 0 ↔ x ∉ adr 0 ts) ∧ (0 ≤ i → i < 40) ∧
   Calls Tryz.prog 45 #[.pointer (some ⟨r, 0, none⟩), .int .i64 x] w fun e w' => e = .returned (.int .i64 i) ∧ w = w' := by
 by_cases hx : x ∈ adr 0 ts
 · obtain ⟨p, t, q, e, rfl⟩ := adr_split hx
   have h := dfind_yes D e
   rw [Nat.zero_add] at hx ⊢
   refine ⟨(p.length : Int), ⟨fun h => by omega, fun h => absurd hx h⟩, fun _ => ?_, h⟩
   have := D.few
   rw [e, List.length_append, List.length_cons] at this
   omega
 · exact ⟨-1, ⟨fun _ => hx, fun _ => by omega⟩, fun h => by omega, dfind_no D hx⟩
theorem dget_yes (D : Doc w r u An ts) {p : List Th} {t : Th} {q : List Th} (e : ts = p ++ t :: q) (i : Int) :
   Calls Tryz.prog 47 #[.pointer (some ⟨r, 0, none⟩), .int .i64 (((raw p).length + 1 : Nat) : Int), .int .i64 i] w fun e w' => e = .returned (.tuple #[.int .i64 (HpG.getE t.W i).1, .int .i64 (HpG.getE t.W i).2]) ∧ w = w' := by
 have hW : t.W.length ≤ 400 := word_len D.fits (by rw [e]; simp)
 obtain ⟨AL, cL, ms, H, h2⟩ := D.rf
 obtain ⟨p', m, q', rfl, h3, h4, h5⟩ := split_at h2 e
 have hl : (p' ++ m :: q').length ≤ 4096 := by
   have := D.few
   rw [← h2] at this
   unfold things at this
   rw [List.length_map] at this
   omega
 have h := CeG.rget_yes H hl (by rw [h4]; omega) i
 rw [at_adr H, h3, h4] at h
 exact h
end
set_option maxRecDepth 100000 in
theorem among_any (A : Option Addr) (l : List Int) (n c : Nat) (x : Int) (w : World) (hn : n = l.length) (hbig : n ≤ 100000) (hr : Rds w A (l.map (Value.int .i64))) :
   Calls Tryz.prog 46 #[.slice A n c, .int .i64 x] w fun e w' => e = .returned (.bool (decide (x ∈ l))) ∧ w = w' := by
 subst hn
 have HR := zH hr
 clear hr
 go_enter Tryz.func46, Tryz.ntmps46
 go_wp2_with fail
 go_loopw [5] (fun i wr => ∃ j : Nat, j ≤ l.length ∧ i = .int .i64 j ∧ w = wr ∧ x ∉ l.take j) (fun i _ => l.length - (intOf i).toNat)
 case atStart => exact ⟨0, Nat.zero_le _, rfl, rfl, by simp⟩
 case round =>
   obtain ⟨j, hj, rfl, rfl, hno⟩ := hrel
   have HNo := zH hno
   clear hno
   by_cases hlt : j < l.length
   · obtain ⟨b, o, rfl, _, q0⟩ := HpS.rds_getD HR.out hlt
     have hj1 : (j : Int) < (l.length : Int) := by omega
     have e : l.getD j 0 = l[j] := by rw [List.getD_eq_getElem?_getD, List.getElem?_eq_getElem hlt]; rfl
     rw [e] at q0
     have HHit : Hid (l[j] = x → decide (x ∈ l) = true) := zH (fun e => by subst e; exact decide_eq_true (List.getElem_mem hlt))
     have HNx : Hid (l[j] ≠ x → x ∉ l.take (j + 1)) := zH (fun e h => by
       rw [List.take_succ_eq_append_getElem hlt, List.mem_append, List.mem_singleton] at h
       rcases h with h | h
       · exact HNo.out h
       · exact e h.symm)
     clear e
     generalize l[j] = y at *
     by_cases hy : y = x
     · have hy1 : (y == x) = true := by simpa using hy
       have HZ := zH (HHit.out hy)
       clear hy HHit HNx
       go_wp2_with fail
       go_ret
       exact ⟨by rw [HZ.out]; rfl, rfl⟩
     · have hy1 : (y == x) = false := by simpa using hy
       have HZ := zH (HNx.out hy)
       clear HHit HNx
       go_wp2_with fail
       go_roundw
       case rel => exact ⟨j + 1, by omega, by go_num, trivial, HZ.out⟩
       case measure => simp [intOf]; omega
   · have hj1 : ¬ (j : Int) < (l.length : Int) := by omega
     have HZ : Hid (decide (x ∈ l) = false) := zH (decide_eq_false (by have := HNo.out; rwa [List.take_of_length_le (by omega)] at this))
     go_wp2_with fail
     go_ret
     exact ⟨by rw [HZ.out]; rfl, rfl⟩
end CeB
end Go.Proofs.YtmkdhdmkdcankaaGreatDoor
namespace Go.Proofs.YtmkdhdmkdcankaaGreatDoor
namespace CeC
open Go.RowKit Base BinM Stru DescM DescW DescX DescR DescS DescG DescP DescQ HierS HierT HierM HierC HierD HierN HierV HierR HierU Kls KlsP KlsQ OpenK TabC TabM TabK TabP TabE TabB TabG TabH TabT TabU TabV TabX TabW TabF TabN TabO TabY TabCs TabL TabR TabQ LnkA LnkC LnkS ClA ClZ ClI CeA CeB
open HpM (fitI OwnI)
open ClM (refsE reachE reachF thAt come wordsE thAt_mid)
open HpA (Th raw adr adr_split)
open HpB (Fits)
open HpR (RfX ThM things)
section
variable {w w' : World} {r u : Nat} {An : Option Addr} {ts : List Th}
theorem dcells (D : Doc w r u An ts) {p : List Th} {t : Th} {q : List Th} (e : ts = p ++ t :: q) : ∃ AL cL b o n mA mc, HpM.Bx w r #[.int .i64 400, .slice AL n cL] 63 ∧ AL = some ⟨b, o, none⟩ ∧ p.length < n ∧ n ≤ 40 ∧
   w.cell? ⟨b, o + p.length * 4, none⟩ = some (.int .i64 (((raw p).length + 1 : Nat) : Int)) ∧ w.cell? ⟨b, o + p.length * 4 + 1, none⟩ = some (.int .i64 (t.id : Int)) ∧ w.cell? ⟨b, o + p.length * 4 + 2, none⟩ = some (.slice mA t.W.length mc) ∧ w.cell? ⟨b, o + p.length * 4 + 3, none⟩ = some (.int .i64 t.s) := by
 obtain ⟨AL, cL, ms, H, h2⟩ := D.rf
 obtain ⟨p', m, q', rfl, h3, h4, h5⟩ := split_at h2 e
 have hl : (p' ++ m :: q').length ≤ 40 := by
   have := D.few
   rw [← h2] at this
   unfold things at this
   rw [List.length_map] at this
   exact this
 obtain ⟨b, o, e1, k0, k1, k2, k3⟩ := H.cells rfl
 rw [h5] at k0 k1 k2 k3
 rw [at_adr H, h3] at k0
 rw [h4] at k1 k2 k3
 exact ⟨AL, cL, b, o, _, _, _, H.box, e1, by rw [← h5]; simp, hl, k0, k1, k2, k3⟩
theorem dstand (D : Doc w r u An ts) (i : Nat) : Calls Tryz.prog 50 #[.pointer (some ⟨u, 0, none⟩), .string ⟨(LnkA.nameE tyn (i : Int)).toArray⟩] w (LnkS.GivesS w (shp i)) := by
 obtain ⟨f, lo, g, A, c, H⟩ := D.tab
 have hT : (whyT (pairs (bs f))).2 = 0 ∧ ∀ x ∈ bs f, clsE x = 0 := ⟨by kernel_rfl, fun x hx => by simp only [bs, List.mem_cons, List.not_mem_nil, or_false] at hx; rcases hx with rfl | rfl <;> kernel_rfl⟩
 have h := stand_any H (ups_of hT.1 hT.2) (LnkA.nameE tyn (i : Int)) (name_len (by intro d hd; simp only [tyn, List.mem_cons, List.not_mem_nil, or_false] at hd; rcases hd with rfl | rfl | rfl | rfl | rfl | rfl <;> simp) _) (fun y hy => by
   obtain ⟨z, hz, rfl⟩ := List.mem_map.1 hy
   exact bs_desc rfl _ z hz)
 have hs : standE (pairs (bs f)) (bs f) (LnkA.nameE tyn (i : Int)) = shp i := by
   by_cases hi : i < 7
   · exact stand_bs f i (by simp; omega)
   · have h7 := stand_bs f 6 (by simp)
     rw [nameE_out 6 (by omega)] at h7
     rw [nameE_out i (by omega), h7]
     unfold shp
     simp only [show ¬ (i = 0) by omega, show ¬ (i = 1) by omega, show ¬ (i = 2) by omega, show ¬ (i = 3) by omega, show ¬ (i = 4) by omega, if_false]
     rfl
 rw [hs] at h
 exact h
end
theorem shp_fact (i : Nat) : ((shp i).1.all = true → (shp i).1.k = 1) ∧ ((shp i).1.k ≠ 0 → (shp i).1.refs = []) := by
 unfold shp
 split
 · simp
 split
 · simp
 split
 · simp
 split
 · simp
 split
 · simp
 · simp [noSh]
set_option maxRecDepth 100000 in
set_option maxHeartbeats 8000000 in
theorem drefs_any {w : World} {r u : Nat} {An : Option Addr} {ts : List Th} (D : Doc w r u An ts) (cn : Nat) (x : Int) :
   Calls Tryz.prog 17 #[.pointer (some ⟨r, 0, none⟩), .pointer (some ⟨u, 0, none⟩), .slice An 6 cn, .int .i64 x] w (GivesRefs w (refsX ts x)) := by
 by_cases hx : x ∈ adr 0 ts
 · obtain ⟨p, t, q, e, rfl⟩ := adr_split hx
   rw [Nat.zero_add] at hx ⊢
   have HF := zH (dfind_yes D e)
   obtain ⟨AL, cL, b, o, nL, mA, mc, hbx, rfl, hpn, hn40, k0, k1, k2, k3⟩ := dcells D e
   have hE : refsX ts (((raw p).length + 1 : Nat) : Int) = refsS (shp t.id) t.W.length := by
     unfold refsX
     rw [e, thAt_mid, refsS_shp]
   rw [hE]
   have hW : t.W.length ≤ 400 := word_len D.fits (by rw [e]; simp)
   have c1 : w.cell? ⟨r, 1, none⟩ = some (.slice (some ⟨b, o, none⟩) nL cL) := hbx.cell 1
   have hal : Below w.heap.size w (w.alloc (.cells #[.int .i64 (((raw p).length + 1 : Nat) : Int), .int .i64 (t.id : Int), .slice mA t.W.length mc, .int .i64 t.s] 60)) := (Below.refl _ w).alloc (Nat.le_refl _) _
   have HSt := zH (dstand (D.later hal) t.id)
   have HX := zH (HpM.Bx.new w #[.int .i64 (((raw p).length + 1 : Nat) : Int), .int .i64 (t.id : Int), .slice mA t.W.length mc, .int .i64 t.s] 60)
   have HA := zH hal
   have hp1 : (p.length : Int) < (nL : Int) := by omega
   have hp0 : ¬ (p.length : Int) < 0 := by omega
   have hfc := shp_fact t.id
   have hnm := (D.later hal).nam
   have HT := zH (show (t.id < 6 → ∃ bn on, An = some ⟨bn, on, none⟩ ∧ (w.alloc (.cells #[.int .i64 (((raw p).length + 1 : Nat) : Int), .int .i64 (t.id : Int), .slice mA t.W.length mc, .int .i64 t.s] 60)).cell? ⟨bn, on + t.id, none⟩ = some (.string ⟨(LnkA.nameE tyn (t.id : Int)).toArray⟩)) ∧ (¬ t.id < 6 → LnkA.nameE tyn (t.id : Int) = []) from ⟨fun h => by
     obtain ⟨bn, on, e1, _, h2⟩ := hnm.at_ (k := t.id) (by simpa [tyn] using h)
     refine ⟨bn, on, e1, ?_⟩
     rw [h2, List.getElem_map]
     unfold LnkA.nameE sv
     rw [if_pos (by simp [tyn]; omega), Int.toNat_natCast, List.getD_eq_getElem?_getD, List.getElem?_eq_getElem (by simpa [tyn] using h)]
     rfl, fun h => nameE_out _ (by omega)⟩)
   clear D hal hE hx hbx hnm e
   generalize LnkA.nameE tyn (t.id : Int) = d at *
   generalize ((raw p).length + 1 : Nat) = at_ at *
   obtain ⟨tid, tW, tS⟩ := t
   simp only at k1 k2 k3 HSt HX HA hfc HT hW ⊢
   generalize tW.length = n at *
   generalize shp tid = R at *
   obtain ⟨⟨sk, ss, sr, sa⟩, so⟩ := R
   simp only at hfc
   unfold LnkS.GivesS at HSt
   simp only at HSt
   obtain ⟨hf1, hf2⟩ := hfc
   have hE1 := zH (show so = false → refsS (⟨sk, ss, sr, sa⟩, so) n = (5, []) from fun h => by subst h; rfl)
   have hE2 := zH (show so = true → sk = 0 → ss ≠ (n : Int) → refsS (⟨sk, ss, sr, sa⟩, so) n = (5, []) from fun h h1 h2 => by subst h; unfold refsS; rw [if_neg (by simp), if_pos ⟨h1, h2⟩])
   have hE3 := zH (show so = true → (sk = 0 → ss = (n : Int)) → sa = false → refsS (⟨sk, ss, sr, sa⟩, so) n = (0, sr) from fun h h1 h2 => by subst h; subst h2; unfold refsS; rw [if_neg (by simp), if_neg (fun k => k.2 (h1 k.1)), if_neg (by simp)])
   have hE4 := zH (show so = true → sk = 1 → sa = true → refsS (⟨sk, ss, sr, sa⟩, so) n = (0, (List.range' 1 (n - 1)).map (fun (k : Nat) => (k : Int))) from fun h h1 h2 => by subst h; subst h2; unfold refsS; rw [if_neg (by simp), if_neg (fun k => by have := k.1; simp only at this; omega), if_pos rfl])
   have HN : Hid (tid < 6 ∨ ¬ tid < 6) := zH (Nat.lt_or_ge tid 6 |>.imp id (fun h => by omega))
   rcases HN.out with h6 | h6
   · obtain ⟨bn, on, rfl, n0⟩ := HT.out.1 h6
     have hid1 : (tid : Int) < 6 := by omega
     clear HT
     go_enter Tryz.func17, Tryz.ntmps17
     go_wp2_with (go_at_call 45; refine HF.out.mono ?_; rintro e w' ⟨rfl, rfl⟩)
     refine HSt.out.mono ?_
     rintro e w2 ⟨A2, c2, rfl, hr2, hc2, hb2, ha2⟩
     have B2 := zH (HA.out.trans (hb2.mono HA.out.size))
     have hx2 := HX.out.after hb2
     have q2 : w2.cell? ⟨w.heap.size, 2, none⟩ = some (.slice mA n mc) := hx2.cell 2
     have ql := hx2.lt
     have R2 := zH hr2
     have A2l := zH ha2
     have X3 := zH (HpM.Bx.new w2 #[.int .i64 sk, .int .i64 ss, .slice A2 sr.length c2, .bool sa] 107)
     have B3 := zH ((Below.refl w2.heap.size w2).alloc (Nat.le_refl _) (.cells #[.int .i64 sk, .int .i64 ss, .slice A2 sr.length c2, .bool sa] 107))
     have X1 := zH (hx2.after B3.out)
     clear hb2 hr2 ha2 hx2
     have hszx : (w.alloc (.cells #[.int .i64 (at_ : Int), .int .i64 (tid : Int), .slice mA n mc, .int .i64 tS] 60)).heap.size = w.heap.size + 1 := by simp
     rw [hszx] at A2l
     cases so
     · have hE := zH (hE1.out rfl)
       go_wp2_with fail
       go_ret2
       exact ⟨none, 0, by rw [hE.out]; rfl, by rw [hE.out]; exact .inl rfl, by rw [hE.out]; exact Nat.le_refl _, (B2.out.trans (B3.out.mono B2.out.size)), fun a ha => by cases ha⟩
     · by_cases hk0 : sk = 0
       · by_cases hs0 : ss = (n : Int)
         · have hsa : sa = false := by
             cases sa
             · rfl
             · exact absurd (hf1 rfl) (by omega)
           subst hsa
           have hE := zH (hE3.out rfl (fun _ => hs0) rfl)
           have hk0' : (sk == 0) = true := by simpa using hk0
           have hs0' : (ss != (n : Int)) = false := by simpa using hs0
           clear hk0 hs0 hE1 hE2 hE3 hE4
           go_wp2_with fail
           go_ret2
           exact ⟨A2, c2, by rw [hE.out]; rfl, by rw [hE.out]; exact R2.out.below B3.out, by rw [hE.out]; exact hc2, (B2.out.trans (B3.out.mono B2.out.size)), fun a ha => by have := A2l.out a ha; omega⟩
         · have hE := zH (hE2.out rfl hk0 hs0)
           have hk0' : (sk == 0) = true := by simpa using hk0
           have hs0' : (ss != (n : Int)) = true := by simpa using hs0
           clear hk0 hs0 hE1 hE2 hE3 hE4
           go_wp2_with fail
           go_ret2
           exact ⟨none, 0, by rw [hE.out]; rfl, by rw [hE.out]; exact .inl rfl, by rw [hE.out]; exact Nat.le_refl _, (B2.out.trans (B3.out.mono B2.out.size)), fun a ha => by cases ha⟩
       · have hk0' : (sk == 0) = false := by simpa using hk0
         cases sa
         · have hE := zH (hE3.out rfl (fun h => absurd h hk0) rfl)
           have hsr := hf2 hk0
           have HSr := zH hsr
           have x0 : (w2.alloc (.cells #[.int .i64 sk, .int .i64 ss, .slice A2 sr.length c2, .bool false] 107)).cell? ⟨w2.heap.size, 0, none⟩ = some (.int .i64 sk) := X3.out.cell 0
           have x3 : (w2.alloc (.cells #[.int .i64 sk, .int .i64 ss, .slice A2 sr.length c2, .bool false] 107)).cell? ⟨w2.heap.size, 3, none⟩ = some (.bool false) := X3.out.cell 3
           have x2 : (w2.alloc (.cells #[.int .i64 sk, .int .i64 ss, .slice A2 sr.length c2, .bool false] 107)).cell? ⟨w.heap.size, 2, none⟩ = some (.slice mA n mc) := X1.out.cell 2
           have X0 := zH x0
           have X33 := zH x3
           have X22 := zH x2
           have hk01 : ∀ b : Bool, (sk == 1) = b → True := fun _ _ => trivial
           clear hk0 hE1 hE2 hE3 hE4 x0 x3 x2 hsr hf1 hf2
           generalize hk1 : (sk == 1) = b1 at *
           go_wp2_with fail
           go_loopw [15, 16] (fun s i wr => s = .slice none 0 0 ∧ i = .int .i64 1 ∧ w2.alloc (.cells #[.int .i64 sk, .int .i64 ss, .slice A2 sr.length c2, .bool false] 107) = wr) (fun _ _ _ => 0)
           case atStart => exact ⟨rfl, rfl, rfl⟩
           case round =>
             obtain ⟨rfl, rfl, hwr⟩ := hrel
             have y0 := X0.out
             have y3 := X33.out
             have y2 := X22.out
             have B3w := B3.out
             rw [hwr] at y0 y3 y2 B3w
             have HB3w := zH B3w
             clear X0 X33 X22 hwr X3 X1 B3 B3w
             by_cases hn1 : (1 : Int) < (n : Int)
             · cases b1
               · go_wp2_with fail
                 go_ret2
                 exact ⟨none, 0, by rw [hE.out, HSr.out]; rfl, by rw [hE.out, HSr.out]; exact .inl rfl, by rw [hE.out, HSr.out]; exact Nat.le_refl _, (B2.out.trans (HB3w.out.mono B2.out.size)), fun a ha => by cases ha⟩
               · go_wp2_with fail
                 go_ret2
                 exact ⟨none, 0, by rw [hE.out, HSr.out]; rfl, by rw [hE.out, HSr.out]; exact .inl rfl, by rw [hE.out, HSr.out]; exact Nat.le_refl _, (B2.out.trans (HB3w.out.mono B2.out.size)), fun a ha => by cases ha⟩
             · go_wp2_with fail
               go_ret2
               exact ⟨none, 0, by rw [hE.out, HSr.out]; rfl, by rw [hE.out, HSr.out]; exact .inl rfl, by rw [hE.out, HSr.out]; exact Nat.le_refl _, (B2.out.trans (HB3w.out.mono B2.out.size)), fun a ha => by cases ha⟩
         · have hk1 := hf1 rfl
           have hE := zH (hE4.out rfl hk1 rfl)
           have hk1' : (sk == 1) = true := by simpa using hk1
           clear hk0 hE1 hE2 hE3 hE4 hf1 hf2 hk1
           go_wp2_with fail
           generalize w2.alloc (.cells #[.int .i64 sk, .int .i64 ss, .slice A2 sr.length c2, .bool true] 107) = w3 at *
           have hB23 := B2.out.trans (B3.out.mono B2.out.size)
           have HB23 := zH hB23
           have hsz3 := B3.out.size
           have hx3l := X3.out.lt
           have hx1l := X1.out.lt
           go_loopw [15, 16] (fun s i wr => ∃ (j : Nat) (v : Value), 1 ≤ j ∧ (j ≤ n ∨ j = 1) ∧ i = .int .i64 (j : Int) ∧ s = v ∧ OwnJ wr w3.heap.size v ((List.range' 1 (j - 1)).map (fun (k : Nat) => (k : Int))) ∧ Below w3.heap.size w3 wr) (fun _ i _ => n - (intOf i).toNat)
           case atStart => exact ⟨1, _, Nat.le_refl _, .inr rfl, rfl, rfl, OwnJ.nil _ _, Below.refl _ _⟩
           case round =>
             obtain ⟨j, v, hj1, hjn, rfl, rfl, hown, hbel⟩ := hrel
             obtain ⟨A5, c5, rfl, hc3, hc4, _, hat⟩ := hown.slice
             have HAt := zH hat
             have HO := zH hown
             have HBe := zH hbel
             have hszr := hbel.size
             have y0 : wr.cell? ⟨w2.heap.size, 0, none⟩ = some (.int .i64 sk) := (X3.out.after hbel).cell 0
             have y3 : wr.cell? ⟨w2.heap.size, 3, none⟩ = some (.bool true) := (X3.out.after hbel).cell 3
             have y2 : wr.cell? ⟨w.heap.size, 2, none⟩ = some (.slice mA n mc) := (X1.out.after hbel).cell 2
             clear hat hown hbel
             by_cases hlt : j < n
             · have hjj : (j : Int) < (n : Int) := by omega
               have hjm : j < 1000 := by omega
               have HE : Hid ((List.range' 1 (j + 1 - 1)).map (fun (k : Nat) => (k : Int)) = (List.range' 1 (j - 1)).map (fun (k : Nat) => (k : Int)) ++ [(j : Int)]) := zH (by
                 have : j + 1 - 1 = (j - 1) + 1 := by omega
                 rw [this, List.range'_concat, List.map_append]
                 have h2 : 1 + 1 * (j - 1) = j := by omega
                 rw [h2]
                 rfl)
               have hlen : ((List.range' 1 (j - 1)).map (fun (k : Nat) => (k : Int))).length = j - 1 := by simp
               have HO2 := zH (World.ownsRow.alloc HO.out (.cells #[.int .i64 (j : Int)] 3))
               have HRd := zH (LnkA.rds_bx (HpM.Bx.new wr #[.int .i64 (j : Int)] 3))
               have HS2 : Hid (w3.heap.size ≤ (wr.alloc (.cells #[.int .i64 (j : Int)] 3)).heap.size) := zH (by simp; omega)
               have HBe2 := zH (HBe.out.alloc hszr (.cells #[.int .i64 (j : Int)] 3))
               generalize (List.range' 1 (j - 1)).map (fun (k : Nat) => (k : Int)) = L0 at *
               have hl0 : L0.length < 1000 := by omega
               go_wp2_with (first
                 | (at_builtin; refine appJ rfl (.tmp 81) (.tmp 83) rfl w3.heap.size _ L0 rfl HO2.out (some ⟨wr.heap.size, 0, none⟩) 1 1 [(j : Int)] rfl rfl HRd.out (by simp; omega) HS2.out ?_; intro v2 w5 hown2 hg2; have HO3 := zH hown2; have HB3 := zH (below_own HBe2.out HO2.out (Nat.le_refl _) HS2.out hg2); clear hown2 hg2))
               go_roundw
               case rel => exact ⟨j + 1, _, by omega, .inl (by omega), by go_num, rfl, by rw [HE.out]; exact HO3.out, HB3.out⟩
               case measure => simp [intOf]; omega
             · have hjj : ¬ (j : Int) < (n : Int) := by omega
               have HJ : Hid (n - 1 = j - 1) := zH (by omega)
               go_wp2_with fail
               go_ret2
               refine ⟨A5, c5, by rw [hE.out, HJ.out]; simp only [List.length_map, List.length_range']; rfl, by rw [hE.out, HJ.out]; exact Rds.own HO.out, by rw [hE.out, HJ.out]; exact hc3, HB23.out.trans (HBe.out.mono HB23.out.size), fun a ha => ?_⟩
               have := (HAt.out a ha).1
               have := HB23.out.size
               omega
   · have hd := HT.out.2 h6
     subst hd
     have hid1 : ¬ (tid : Int) < 6 := by omega
     clear HT
     go_enter Tryz.func17, Tryz.ntmps17
     go_wp2_with (go_at_call 45; refine HF.out.mono ?_; rintro e w' ⟨rfl, rfl⟩)
     refine HSt.out.mono ?_
     rintro e w2 ⟨A2, c2, rfl, hr2, hc2, hb2, ha2⟩
     have B2 := zH (HA.out.trans (hb2.mono HA.out.size))
     have hx2 := HX.out.after hb2
     have q2 : w2.cell? ⟨w.heap.size, 2, none⟩ = some (.slice mA n mc) := hx2.cell 2
     have ql := hx2.lt
     have R2 := zH hr2
     have A2l := zH ha2
     have X3 := zH (HpM.Bx.new w2 #[.int .i64 sk, .int .i64 ss, .slice A2 sr.length c2, .bool sa] 107)
     have B3 := zH ((Below.refl w2.heap.size w2).alloc (Nat.le_refl _) (.cells #[.int .i64 sk, .int .i64 ss, .slice A2 sr.length c2, .bool sa] 107))
     have X1 := zH (hx2.after B3.out)
     clear hb2 hr2 ha2 hx2
     have hszx : (w.alloc (.cells #[.int .i64 (at_ : Int), .int .i64 (tid : Int), .slice mA n mc, .int .i64 tS] 60)).heap.size = w.heap.size + 1 := by simp
     rw [hszx] at A2l
     cases so
     · have hE := zH (hE1.out rfl)
       go_wp2_with fail
       go_ret2
       exact ⟨none, 0, by rw [hE.out]; rfl, by rw [hE.out]; exact .inl rfl, by rw [hE.out]; exact Nat.le_refl _, (B2.out.trans (B3.out.mono B2.out.size)), fun a ha => by cases ha⟩
     · by_cases hk0 : sk = 0
       · by_cases hs0 : ss = (n : Int)
         · have hsa : sa = false := by
             cases sa
             · rfl
             · exact absurd (hf1 rfl) (by omega)
           subst hsa
           have hE := zH (hE3.out rfl (fun _ => hs0) rfl)
           have hk0' : (sk == 0) = true := by simpa using hk0
           have hs0' : (ss != (n : Int)) = false := by simpa using hs0
           clear hk0 hs0 hE1 hE2 hE3 hE4
           go_wp2_with fail
           go_ret2
           exact ⟨A2, c2, by rw [hE.out]; rfl, by rw [hE.out]; exact R2.out.below B3.out, by rw [hE.out]; exact hc2, (B2.out.trans (B3.out.mono B2.out.size)), fun a ha => by have := A2l.out a ha; omega⟩
         · have hE := zH (hE2.out rfl hk0 hs0)
           have hk0' : (sk == 0) = true := by simpa using hk0
           have hs0' : (ss != (n : Int)) = true := by simpa using hs0
           clear hk0 hs0 hE1 hE2 hE3 hE4
           go_wp2_with fail
           go_ret2
           exact ⟨none, 0, by rw [hE.out]; rfl, by rw [hE.out]; exact .inl rfl, by rw [hE.out]; exact Nat.le_refl _, (B2.out.trans (B3.out.mono B2.out.size)), fun a ha => by cases ha⟩
       · have hk0' : (sk == 0) = false := by simpa using hk0
         cases sa
         · have hE := zH (hE3.out rfl (fun h => absurd h hk0) rfl)
           have hsr := hf2 hk0
           have HSr := zH hsr
           have x0 : (w2.alloc (.cells #[.int .i64 sk, .int .i64 ss, .slice A2 sr.length c2, .bool false] 107)).cell? ⟨w2.heap.size, 0, none⟩ = some (.int .i64 sk) := X3.out.cell 0
           have x3 : (w2.alloc (.cells #[.int .i64 sk, .int .i64 ss, .slice A2 sr.length c2, .bool false] 107)).cell? ⟨w2.heap.size, 3, none⟩ = some (.bool false) := X3.out.cell 3
           have x2 : (w2.alloc (.cells #[.int .i64 sk, .int .i64 ss, .slice A2 sr.length c2, .bool false] 107)).cell? ⟨w.heap.size, 2, none⟩ = some (.slice mA n mc) := X1.out.cell 2
           have X0 := zH x0
           have X33 := zH x3
           have X22 := zH x2
           have hk01 : ∀ b : Bool, (sk == 1) = b → True := fun _ _ => trivial
           clear hk0 hE1 hE2 hE3 hE4 x0 x3 x2 hsr hf1 hf2
           generalize hk1 : (sk == 1) = b1 at *
           go_wp2_with fail
           go_loopw [15, 16] (fun s i wr => s = .slice none 0 0 ∧ i = .int .i64 1 ∧ w2.alloc (.cells #[.int .i64 sk, .int .i64 ss, .slice A2 sr.length c2, .bool false] 107) = wr) (fun _ _ _ => 0)
           case atStart => exact ⟨rfl, rfl, rfl⟩
           case round =>
             obtain ⟨rfl, rfl, hwr⟩ := hrel
             have y0 := X0.out
             have y3 := X33.out
             have y2 := X22.out
             have B3w := B3.out
             rw [hwr] at y0 y3 y2 B3w
             have HB3w := zH B3w
             clear X0 X33 X22 hwr X3 X1 B3 B3w
             by_cases hn1 : (1 : Int) < (n : Int)
             · cases b1
               · go_wp2_with fail
                 go_ret2
                 exact ⟨none, 0, by rw [hE.out, HSr.out]; rfl, by rw [hE.out, HSr.out]; exact .inl rfl, by rw [hE.out, HSr.out]; exact Nat.le_refl _, (B2.out.trans (HB3w.out.mono B2.out.size)), fun a ha => by cases ha⟩
               · go_wp2_with fail
                 go_ret2
                 exact ⟨none, 0, by rw [hE.out, HSr.out]; rfl, by rw [hE.out, HSr.out]; exact .inl rfl, by rw [hE.out, HSr.out]; exact Nat.le_refl _, (B2.out.trans (HB3w.out.mono B2.out.size)), fun a ha => by cases ha⟩
             · go_wp2_with fail
               go_ret2
               exact ⟨none, 0, by rw [hE.out, HSr.out]; rfl, by rw [hE.out, HSr.out]; exact .inl rfl, by rw [hE.out, HSr.out]; exact Nat.le_refl _, (B2.out.trans (HB3w.out.mono B2.out.size)), fun a ha => by cases ha⟩
         · have hk1 := hf1 rfl
           have hE := zH (hE4.out rfl hk1 rfl)
           have hk1' : (sk == 1) = true := by simpa using hk1
           clear hk0 hE1 hE2 hE3 hE4 hf1 hf2 hk1
           go_wp2_with fail
           generalize w2.alloc (.cells #[.int .i64 sk, .int .i64 ss, .slice A2 sr.length c2, .bool true] 107) = w3 at *
           have hB23 := B2.out.trans (B3.out.mono B2.out.size)
           have HB23 := zH hB23
           have hsz3 := B3.out.size
           have hx3l := X3.out.lt
           have hx1l := X1.out.lt
           go_loopw [15, 16] (fun s i wr => ∃ (j : Nat) (v : Value), 1 ≤ j ∧ (j ≤ n ∨ j = 1) ∧ i = .int .i64 (j : Int) ∧ s = v ∧ OwnJ wr w3.heap.size v ((List.range' 1 (j - 1)).map (fun (k : Nat) => (k : Int))) ∧ Below w3.heap.size w3 wr) (fun _ i _ => n - (intOf i).toNat)
           case atStart => exact ⟨1, _, Nat.le_refl _, .inr rfl, rfl, rfl, OwnJ.nil _ _, Below.refl _ _⟩
           case round =>
             obtain ⟨j, v, hj1, hjn, rfl, rfl, hown, hbel⟩ := hrel
             obtain ⟨A5, c5, rfl, hc3, hc4, _, hat⟩ := hown.slice
             have HAt := zH hat
             have HO := zH hown
             have HBe := zH hbel
             have hszr := hbel.size
             have y0 : wr.cell? ⟨w2.heap.size, 0, none⟩ = some (.int .i64 sk) := (X3.out.after hbel).cell 0
             have y3 : wr.cell? ⟨w2.heap.size, 3, none⟩ = some (.bool true) := (X3.out.after hbel).cell 3
             have y2 : wr.cell? ⟨w.heap.size, 2, none⟩ = some (.slice mA n mc) := (X1.out.after hbel).cell 2
             clear hat hown hbel
             by_cases hlt : j < n
             · have hjj : (j : Int) < (n : Int) := by omega
               have hjm : j < 1000 := by omega
               have HE : Hid ((List.range' 1 (j + 1 - 1)).map (fun (k : Nat) => (k : Int)) = (List.range' 1 (j - 1)).map (fun (k : Nat) => (k : Int)) ++ [(j : Int)]) := zH (by
                 have : j + 1 - 1 = (j - 1) + 1 := by omega
                 rw [this, List.range'_concat, List.map_append]
                 have h2 : 1 + 1 * (j - 1) = j := by omega
                 rw [h2]
                 rfl)
               have hlen : ((List.range' 1 (j - 1)).map (fun (k : Nat) => (k : Int))).length = j - 1 := by simp
               have HO2 := zH (World.ownsRow.alloc HO.out (.cells #[.int .i64 (j : Int)] 3))
               have HRd := zH (LnkA.rds_bx (HpM.Bx.new wr #[.int .i64 (j : Int)] 3))
               have HS2 : Hid (w3.heap.size ≤ (wr.alloc (.cells #[.int .i64 (j : Int)] 3)).heap.size) := zH (by simp; omega)
               have HBe2 := zH (HBe.out.alloc hszr (.cells #[.int .i64 (j : Int)] 3))
               generalize (List.range' 1 (j - 1)).map (fun (k : Nat) => (k : Int)) = L0 at *
               have hl0 : L0.length < 1000 := by omega
               go_wp2_with (first
                 | (at_builtin; refine appJ rfl (.tmp 81) (.tmp 83) rfl w3.heap.size _ L0 rfl HO2.out (some ⟨wr.heap.size, 0, none⟩) 1 1 [(j : Int)] rfl rfl HRd.out (by simp; omega) HS2.out ?_; intro v2 w5 hown2 hg2; have HO3 := zH hown2; have HB3 := zH (below_own HBe2.out HO2.out (Nat.le_refl _) HS2.out hg2); clear hown2 hg2))
               go_roundw
               case rel => exact ⟨j + 1, _, by omega, .inl (by omega), by go_num, rfl, by rw [HE.out]; exact HO3.out, HB3.out⟩
               case measure => simp [intOf]; omega
             · have hjj : ¬ (j : Int) < (n : Int) := by omega
               have HJ : Hid (n - 1 = j - 1) := zH (by omega)
               go_wp2_with fail
               go_ret2
               refine ⟨A5, c5, by rw [hE.out, HJ.out]; simp only [List.length_map, List.length_range']; rfl, by rw [hE.out, HJ.out]; exact Rds.own HO.out, by rw [hE.out, HJ.out]; exact hc3, HB23.out.trans (HBe.out.mono HB23.out.size), fun a ha => ?_⟩
               have := (HAt.out a ha).1
               have := HB23.out.size
               omega
 · have HF := zH (dfind_no D hx)
   have HE := zH (show refsX ts x = (3, []) by unfold refsX; rw [thAt_none hx])
   clear D hx
   go_enter Tryz.func17, Tryz.ntmps17
   go_wp2_with (go_at_call 45; refine HF.out.mono ?_; rintro e w' ⟨rfl, rfl⟩)
   go_ret2
   exact ⟨none, 0, by rw [HE.out]; rfl, by rw [HE.out]; exact .inl rfl, by rw [HE.out]; exact Nat.le_refl _, Below.refl _ _, fun a ha => by cases ha⟩
end CeC
end Go.Proofs.YtmkdhdmkdcankaaGreatDoor
namespace Go.Proofs.YtmkdhdmkdcankaaGreatDoor
namespace CeR
open Go.RowKit Base BinM LnkA LnkC LnkS ClA ClC CeB CeC
open HpM (fitI OwnI info64)
open ClM (refsE reachE reachF thAt come wordsE thAt_mid come_append come_good refsE_lt refsE_len)
open HpA (Th raw adr adr_split)
structure Ro (w wr : World) (A : Option Addr) (n c : Nat) (o : List Int) : Prop where
 len : n = o.length
 bel : Below w.heap.size w wr
 own : wr.ownsRow w.heap.size 2 1 (.slice A n c) n (o.map (Value.int .i64))
theorem Ro.start (w : World) : Ro w w none 0 0 [] := ⟨rfl, Below.refl _ _, World.ownsRow_nil _ _ _ _⟩
section
variable {w wr w5 : World} {A A2 : Option Addr} {n c b5 c5 : Nat} {o P : List Int}
theorem Ro.later (h : Ro w wr A n c o) (hb : Below wr.heap.size wr w5) : Ro w w5 A n c o :=
 ⟨h.len, h.bel.trans (hb.mono h.bel.size), TabM.own_same h.own (fun k hk => hb.block k (h.own.lt k hk).2)⟩
theorem Ro.alloc (h : Ro w wr A n c o) (O : Obj) : (wr.alloc O).ownsRow w.heap.size 2 1 (.slice A n c) n (o.map (Value.int .i64)) := World.ownsRow.alloc h.own O
theorem Ro.push (h : Ro w wr A n c o) (x : Int) (hg : (wr.alloc (.cells #[.int .i64 x] 2)).grownBy w5 (Value.slice A n c).ownBlock)
   (h5 : w5.ownsRow w.heap.size 2 1 (.slice (some ⟨b5, 0, none⟩) (n + 1) c5) (n + 1) (o.map (Value.int .i64) ++ [.int .i64 x])) : Ro w w5 (some ⟨b5, 0, none⟩) (n + 1) c5 (o ++ [x]) := by
 refine ⟨by rw [h.len, List.length_append]; rfl, (h.bel.alloc h.bel.size _).grown hg (by have := h.bel.size; simp; omega) (fun k hk => (h.own.lt k hk).1), ?_⟩
 rw [List.map_append]
 exact h5
theorem rds_same {w w' : World} {A : Option Addr} {xs : List Value} (h : Rds w A xs) (hs : w.heap.size ≤ w'.heap.size) (hb : ∀ a, A = some a → w'.heap[a.block]? = w.heap[a.block]?) : Rds w' A xs := by
 rcases h with rfl | ⟨b, o, rfl, hlt, hc⟩
 · exact .inl rfl
 · refine .inr ⟨b, o, rfl, by omega, fun j u hu => ?_⟩
   rw [← hc j u hu]
   simp only [World.cell?, hb _ rfl]
theorem push_far (_ : Ro w wr A n c o) (R : Rds wr A2 (P.map (Value.int .i64))) (far : P ≠ [] → ∀ a, A2 = some a → (Value.slice A n c).ownBlock ≠ some a.block) (x : Int) (hg : (wr.alloc (.cells #[.int .i64 x] 2)).grownBy w5 (Value.slice A n c).ownBlock)
   (hat : (Value.slice A n c).ownBlock = some b5 ∨ b5 = (wr.alloc (.cells #[.int .i64 x] 2)).heap.size) : Rds w5 A2 (P.map (Value.int .i64)) ∧ (P ≠ [] → ∀ a, A2 = some a → (Value.slice (some ⟨b5, 0, none⟩) (n + 1) c5).ownBlock ≠ some a.block) := by
 by_cases hP : P = []
 · subst hP
   exact ⟨.inl rfl, fun h => absurd rfl h⟩
 · have hlt : ∀ a, A2 = some a → a.block < wr.heap.size := fun a ha => rds_block R (by simpa using hP) ha
   have R1 := R.below ((Below.refl _ wr).alloc (Nat.le_refl _) (.cells #[.int .i64 x] 2))
   refine ⟨rds_same R1 hg.size (fun a ha => hg.block a.block (by have := hlt a ha; simp; omega) (fun e => far hP a ha e.symm)), fun _ a ha e => ?_⟩
   have h1 := hlt a ha
   have e2 : b5 = a.block := by injection e
   rcases hat with h2 | h2
   · exact far hP a ha (by rw [h2, e2])
   · rw [World.size_alloc] at h2
     omega
end
theorem come_one {A o : List Int} (x : Int) : come A o [x] = if x = 0 ∨ x ∈ o then some o else if x ∈ A then some (o ++ [x]) else none := by
 rw [come]
 rfl
theorem come_take {A : List Int} {xs : List Int} {j : Nat} (hj : j < xs.length) {o0 o : List Int} (h : come A o0 (xs.take j) = some o) : come A o0 (xs.take (j + 1)) = come A o [xs[j]] := by
 rw [List.take_succ_eq_append_getElem hj, come_append, h]
 rfl
theorem come_none {A : List Int} {xs : List Int} {j : Nat} {o0 : List Int} (h : come A o0 (xs.take j) = none) : come A o0 xs = none := by
 have e : xs = xs.take j ++ xs.drop j := (List.take_append_drop j xs).symm
 rw [e, come_append, h]
 rfl
set_option maxRecDepth 100000 in
set_option maxHeartbeats 16000000 in
theorem dreach_any {w : World} {r u : Nat} {An : Option Addr} {ts : List Th} (D : Doc w r u An ts) (cn : Nat) {Ar : Option Addr} {cr : Nat} {roots : List Int} (R : Rds w Ar (roots.map (Value.int .i64))) (hrl : roots.length ≤ 100000) :
   Calls Tryz.prog 11 #[.pointer (some ⟨r, 0, none⟩), .pointer (some ⟨u, 0, none⟩), .slice An 6 cn, .slice Ar roots.length cr] w (GivesReach w (reachE ts roots)) := by
 obtain ⟨i0, hi, hz, hz1, hz2⟩ := info_parts info64
 have I0 := zH hi
 have I1 := zH hz
 have I2 := zH hz1
 have I3 := zH hz2
 have HD := zH (fun wr (hb : Below w.heap.size w wr) => D.later hb)
 have HR := zH R
 have HFew := zH D.few
 have HFit := zH D.fits
 have HAl := zH (ClM.adr_len ts 0)
 have HQ := zH (show reachE ts roots = match come (adr 0 ts) [] roots with | none => (3, []) | some o => reachF ts (ts.length + 1) 0 o from rfl)
 clear hi hz hz1 hz2 D R
 go_enter Tryz.func11, Tryz.ntmps11
 go_wp2_with fail
 go_loopw [10, 11] (fun s i wr => ∃ (j n : Nat) (A : Option Addr) (c : Nat) (o : List Int), j ≤ roots.length ∧ i = .int .i64 (j : Int) ∧ s = .slice A n c ∧ Ro w wr A n c o ∧ come (adr 0 ts) [] (roots.take j) = some o ∧ ClM.Good (adr 0 ts) o) (fun _ i _ => roots.length - (intOf i).toNat)
 case atStart => exact ⟨0, 0, none, 0, [], Nat.zero_le _, rfl, rfl, Ro.start w, rfl, ClM.Good.nil _⟩
 case round =>
   obtain ⟨j, n, A, c, o, hj, rfl, rfl, hro, hcm, hgo⟩ := hrel
   have HRo := zH hro
   have HCm := zH hcm
   have HGo := zH hgo
   have hnl := hro.len
   have hol := hgo.len
   rw [HAl.out] at hol
   have hfew := HFew.out
   have hn40 : n ≤ 40 := by omega
   have hszr := hro.bel.size
   have HDr := zH (HD.out wr hro.bel)
   have HLen := zH hnl
   clear hcm hgo hnl hol
   by_cases hlt : j < roots.length
   · obtain ⟨rb, ro, rfl, hrb, q0⟩ := HpS.rds_getD (HR.out.below hro.bel) hlt
     have hj1 : (j : Int) < (roots.length : Int) := by omega
     have e : roots.getD j 0 = roots[j] := by rw [List.getD_eq_getElem?_getD, List.getElem?_eq_getElem hlt]; rfl
     rw [e] at q0
     have HT := zH (come_take hlt HCm.out)
     have HN := zH (fun h => come_none (xs := roots) (j := j + 1) (A := adr 0 ts) (o0 := []) h)
     clear e hro
     generalize roots[j] = x at *
     obtain ⟨fi, hfi, hfi2, hFd⟩ := dfind_any HDr.out x
     have HFd := zH hFd
     have HAm := zH (fun (W : World) (hr2 : Rds W A (o.map (Value.int .i64))) => among_any A o n c x W HLen.out (by omega) hr2)
     have HOr := zH (show Rds wr A (o.map (Value.int .i64)) from Rds.own HRo.out.own)
     clear hFd
     by_cases hx0 : x = 0
     · have hx0' : (x != 0) = false := by simpa using hx0
       have HE := zH (show come (adr 0 ts) [] (roots.take (j + 1)) = some o by rw [HT.out, come_one, if_pos (.inl hx0)])
       clear hx0 hfi hfi2
       go_wp2_with fail
       go_roundw
       case rel => exact ⟨j + 1, n, A, c, o, by omega, by go_num, rfl, HRo.out, HE.out, HGo.out⟩
       case measure => simp [intOf]; omega
     · have hx0' : (x != 0) = true := by simpa using hx0
       by_cases hxA : x ∈ adr 0 ts
       · have hfi0 : ¬ fi < 0 := fun h => (hfi.1 h) hxA
         have HAm1 := zH (HAm.out wr HOr.out)
         by_cases hxo : x ∈ o
         · have HE := zH (show come (adr 0 ts) [] (roots.take (j + 1)) = some o by rw [HT.out, come_one, if_pos (.inr hxo)])
           rw [decide_eq_true hxo] at HAm1
           clear hfi hfi2 hx0 hxA hxo HAm
           go_wp2_with (first
             | (go_at_call 45; refine HFd.out.mono ?_; rintro e w' ⟨rfl, rfl⟩)
             | (go_at_call 46; refine HAm1.out.mono ?_; rintro e w' ⟨rfl, rfl⟩))
           go_roundw
           case rel => exact ⟨j + 1, n, A, c, o, by omega, by go_num, rfl, HRo.out, HE.out, HGo.out⟩
           case measure => simp [intOf]; omega
         · have HE := zH (show come (adr 0 ts) [] (roots.take (j + 1)) = some (o ++ [x]) by rw [HT.out, come_one, if_neg (by simp [hx0, hxo]), if_pos hxA])
           have HG2 := zH (HGo.out.push hxA hxo)
           rw [decide_eq_false hxo] at HAm1
           clear hfi hfi2 hx0 hxA hxo HAm
           go_wp2_with (first
             | (go_at_call 45; refine HFd.out.mono ?_; rintro e w' ⟨rfl, rfl⟩)
             | (go_at_call 46; refine HAm1.out.mono ?_; rintro e w' ⟨rfl, rfl⟩)
             | (at_builtin
                refine wpList_append_lies _ rfl (.tmp 52) (.tmp 57) 27 rfl w.heap.size 2 i0 _ 1 8 Tryz.underlying27 I0.out I1.out I2.out I3.out rfl (by omega) (.slice A n c) n (o.map (Value.int .i64)) rfl (HRo.out.alloc _) ⟨wr.heap.size, 0, none⟩ 1 1 [.int .i64 x] rfl rfl (World.news_of_block (cs := #[.int .i64 x]) (t := 2) (fr := (0, 0)) (heap_alloc_new wr _)) (by simp [Value.oneCell']) (by omega) (by unfold maxLen; omega) (by omega) (by simp; omega) _ rfl ?_
                intro b5 c5 w5 hown5 hg5 hat5 hlt5
                have P5 := zH (HRo.out.push (b5 := b5) (c5 := c5) x hg5 hown5)
                clear hown5 hg5 hat5))
           go_roundw
           case rel => exact ⟨j + 1, n + 1, _, _, o ++ [x], by omega, by go_num, rfl, P5.out, HE.out, HG2.out⟩
           case measure => simp [intOf]; omega
       · have hfi0 : fi < 0 := hfi.2 hxA
         have HE := zH (show reachE ts roots = (3, []) by
           rw [HQ.out, HN.out (by rw [HT.out, come_one, if_neg (by
             rintro (h | h)
             · exact hx0 h
             · exact hxA (HGo.out.sub _ h)), if_neg hxA])])
         have HB := zH HRo.out.bel
         clear hfi hfi2 hx0 hxA
         go_wp2_with (first
           | (go_at_call 45; refine HFd.out.mono ?_; rintro e w' ⟨rfl, rfl⟩))
         go_ret2
         exact ⟨none, 0, by rw [HE.out]; rfl, by rw [HE.out]; exact .inl rfl, HB.out, fun a ha => by cases ha⟩
   · have hj1 : ¬ (j : Int) < (roots.length : Int) := by omega
     have HE := zH (show reachE ts roots = reachF ts (ts.length + 1) 0 o by
       have h := HCm.out
       rw [List.take_of_length_le (by omega)] at h
       rw [HQ.out, h])
     clear hro
     go_wp2_with fail
     go_loopw [10, 12] (fun s i wr => ∃ (k n : Nat) (A : Option Addr) (c : Nat) (o : List Int), k ≤ o.length ∧ i = .int .i64 (k : Int) ∧ s = .slice A n c ∧ Ro w wr A n c o ∧ ClM.Good (adr 0 ts) o ∧ reachF ts (ts.length + 1 - k) k o = reachE ts roots) (fun _ i _ => ts.length + 1 - (intOf i).toNat)
     case atStart => exact ⟨0, n, A, c, o, Nat.zero_le _, rfl, rfl, HRo.out, HGo.out, HE.out.symm⟩
     case round =>
       clear HDr HLen HRo HCm HGo HE hszr hn40 hfew
       obtain ⟨k, n', A', c', o', hk, rfl, rfl, hro, hgo, hre⟩ := hrel
       have HRo := zH hro
       have HGo := zH hgo
       have hnl := hro.len
       have hol := hgo.len
       rw [HAl.out] at hol
       have hfew := HFew.out
       have hn40 : n' ≤ 40 := by omega
       have hszr := hro.bel.size
       have HDr := zH (HD.out wr hro.bel)
       by_cases hlt : k < o'.length
       · have hown : OwnI wr w.heap.size (.slice A' o'.length c') o' := by
           have := hro.own
           rw [hnl] at this
           exact this
         obtain ⟨g, hA, hgl⟩ := HpB.own_head hown (by omega)
         subst hA
         have hc0 : wr.cell? ⟨g, k, none⟩ = some (.int .i64 o'[k]) := HpB.own_cell hown (List.getElem?_eq_getElem hlt)
         obtain ⟨pp, th, rr, hts2, hx⟩ := adr_split (hgo.sub _ (List.getElem_mem hlt))
         rw [Nat.zero_add] at hx
         have hth : thAt ts o'[k] = some th := by rw [hts2, hx]; exact thAt_mid pp th rr
         have hks : ts.length + 1 - k = (ts.length - k) + 1 := by omega
         have hstep := reachF_step (k := ts.length - k) hlt hth
         rw [← hks, hre] at hstep
         have hRx : refsX ts o'[k] = match refsE th with | none => (5, []) | some ps => (0, ps.map (fun (k : Nat) => (k : Int))) := by unfold refsX; simp only [hth]; cases refsE th <;> rfl
         have HRf := drefs_any HDr.out cn o'[k]
         have hkn : (k : Int) < (n' : Int) := by omega
         have HBl := zH hro.bel
         have HGe : Hid (∀ W, Below w.heap.size w W → ∀ i : Int, Calls Tryz.prog 47 #[.pointer (some ⟨r, 0, none⟩), .int .i64 o'[k], .int .i64 i] W fun e w' => e = .returned (.tuple #[.int .i64 (HpG.getE th.W i).1, .int .i64 (HpG.getE th.W i).2]) ∧ W = w') := zH (fun W hW i => by rw [hx]; exact dget_yes (HD.out W hW) hts2 i)
         rw [hRx] at HRf
         cases hq : refsE th with
         | none =>
           rw [hq] at HRf hstep
           have HRf1 := zH HRf
           have HEn := zH (show reachE ts roots = (5, []) from hstep)
           clear hro hgo hre hstep hRx HRf hx hth hks hown hol hnl HGe
           generalize o'[k] = x at *
           go_wp2_with fail
           refine HRf1.out.mono ?_
           rintro e w4 ⟨A2, c2, rfl, hr4, hc4, hb4, _⟩
           have HB4 := zH (HBl.out.trans (hb4.mono HBl.out.size))
           clear hr4 hb4
           go_wp2_with fail
           go_ret2
           exact ⟨none, 0, by rw [HEn.out]; rfl, by rw [HEn.out]; exact .inl rfl, HB4.out, fun a ha => by cases ha⟩
         | some ps =>
           rw [hq] at HRf hstep
           replace hstep : reachE ts roots = (match come (adr 0 ts) o' (wordsE th ps) with | none => (3, []) | some o' => reachF ts (ts.length - k) (k + 1) o') := hstep
           have HSt := zH hstep
           have HRf1 := zH HRf
           have hplt := refsE_lt hq
           have HPlt := zH hplt
           have hwl : (wordsE th ps).length = ps.length := by simp [wordsE]
           have HWl := zH hwl
           have HWat : Hid (∀ j (h : j < ps.length) (h2 : j < (wordsE th ps).length), (wordsE th ps)[j] = (HpG.getE th.W ((ps[j] : Nat) : Int)).1) := zH (fun j h h2 => by
             have := hplt ps[j] (List.getElem_mem h)
             simp only [wordsE, HpG.getE, List.getElem_map]
             rw [if_pos (by omega), Int.toNat_natCast])
           have HPre : Hid (∀ (q : List Int), o' <+: q → ∃ h : k < q.length, q[k] = o'[k]) := zH (fun q h => by
             obtain ⟨s, rfl⟩ := h
             exact ⟨by rw [List.length_append]; omega, by rw [List.getElem_append_left hlt]⟩)
           have hpsl := refsE_len hq
           have hw400 := word_len HFit.out (t := th) (by rw [hts2]; simp)
           clear hro hgo hre hstep hRx HRf hx hth hks hown hol hnl hplt hwl
           generalize o'[k] = x at *
           go_wp2_with fail
           refine HRf1.out.mono ?_
           rintro e w4 ⟨A2, c2, rfl, hr4, hc4, hb4, hfar⟩
           have HRo4 := zH (HRo.out.later hb4)
           have HR4 := zH hr4
           have HFar4 : Hid (ps.map (fun (k : Nat) => (k : Int)) ≠ [] → ∀ a, A2 = some a → (Value.slice (some ⟨g, 0, none⟩) n' c').ownBlock ≠ some a.block) := zH (fun _ a ha e => by
             have h1 := hfar a ha
             have h2 : g = a.block := by injection e
             omega)
           clear hr4 hb4 hfar
           go_wp2_with fail
           go_loopw [10, 15] (fun s i wr => ∃ (j m : Nat) (B : Option Addr) (d : Nat) (q : List Int), j ≤ ps.length ∧ i = .int .i64 (j : Int) ∧ s = .slice B m d ∧ Ro w wr B m d q ∧ Rds wr A2 ((ps.map (fun (k : Nat) => (k : Int))).map (Value.int .i64)) ∧ (ps.map (fun (k : Nat) => (k : Int)) ≠ [] → ∀ a, A2 = some a → (Value.slice B m d).ownBlock ≠ some a.block) ∧ come (adr 0 ts) o' ((wordsE th ps).take j) = some q ∧ ClM.Good (adr 0 ts) q ∧ o' <+: q) (fun _ i _ => ps.length - (intOf i).toNat)
           case atStart => exact ⟨0, n', _, c', o', Nat.zero_le _, rfl, rfl, HRo4.out, HR4.out, HFar4.out, rfl, HGo.out, List.prefix_refl _⟩
           case round =>
             clear HRo4 HR4 HFar4 HDr HRo
             obtain ⟨j, m, B, d, q, hj, rfl, rfl, hro, hr2, hfar, hcm, hgq, hpre⟩ := hrel
             have HRo := zH hro
             have HCm := zH hcm
             have HGq := zH hgq
             have HPr := zH hpre
             have hnl := hro.len
             have HLen := zH hnl
             have hol := hgq.len
             rw [HAl.out] at hol
             have hm40 : m ≤ 40 := by omega
             have hszr := hro.bel.size
             have HFr := zH hfar
             have HR2 := zH hr2
             obtain ⟨hkq, hqk⟩ := HPre.out q hpre
             by_cases hlt2 : j < ps.length
             · have hown : OwnI wr w.heap.size (.slice B q.length d) q := by
                 have := hro.own
                 rw [hnl] at this
                 exact this
               obtain ⟨g2, hB, hgl2⟩ := HpB.own_head hown (by omega)
               subst hB
               have hc1 : wr.cell? ⟨g2, k, none⟩ = some (.int .i64 x) := by
                 have := HpB.own_cell hown (List.getElem?_eq_getElem hkq)
                 rw [hqk] at this
                 exact this
               obtain ⟨rb, ro, rfl, hrb, q0⟩ := HpS.rds_getD hr2 (k := j) (by simpa using hlt2)
               have e : (ps.map (fun (k : Nat) => (k : Int))).getD j 0 = ((ps[j] : Nat) : Int) := by rw [List.getD_eq_getElem?_getD, List.getElem?_map, List.getElem?_eq_getElem hlt2]; rfl
               rw [e] at q0
               have hkm : (k : Int) < (m : Int) := by omega
               have hj1 : (j : Int) < (ps.length : Int) := by omega
               have hjw : j < (wordsE th ps).length := by rw [HWl.out]; exact hlt2
               have HT := zH (come_take hjw HCm.out)
               have HN := zH (fun h => come_none (xs := wordsE th ps) (j := j + 1) (A := adr 0 ts) (o0 := o') h)
               have HGq2 : Hid (∀ nq, Calls Tryz.prog 47 #[.pointer (some ⟨r, 0, none⟩), .int .i64 x, .int .i64 ((ps[j] : Nat) : Int)] (wr.drewN nq) fun e w' => e = .returned (.tuple #[.int .i64 ((wordsE th ps)[j]'hjw), .int .i64 (HpG.getE th.W ((ps[j] : Nat) : Int)).2]) ∧ w' = wr.drewN nq) := zH (fun nq => by
                 rw [HWat.out j hlt2 hjw]
                 exact (HGe.out (wr.drewN nq) (hro.bel.trans ((HpE.drewN_below wr nq).mono hszr)) _).mono (fun e w' h => ⟨h.1, h.2.symm⟩))
               have HRoD := zH (fun nq => hro.later (HpE.drewN_below wr nq))
               have HR2D : Hid (∀ nq, Rds (wr.drewN nq) (some ⟨rb, ro, none⟩) ((ps.map (fun (k : Nat) => (k : Int))).map (Value.int .i64))) := zH (fun nq => hr2.below (HpE.drewN_below wr nq))
               clear e hro hr2 hfar hcm hgq hpre hown hnl hol HWat
               generalize (wordsE th ps)[j] = v at *
               generalize (HpG.getE th.W ((ps[j] : Nat) : Int)).2 = ge at *
               generalize ((ps[j] : Nat) : Int) = pj at *
               go_wp2_with fail
               go_quiet ((go_at_call 47; exact Calls.quiet_of_same (HGq2.out _)))
               have HRw := zH (HRoD.out nq)
               have HR2w := zH (HR2D.out nq)
               clear HRoD HR2D HRo HR2 hc1 q0 HGq2
               generalize wr.drewN nq = wd at *
               have hszr2 := HRw.out.bel.size
               have HDw := zH (HD.out wd HRw.out.bel)
               obtain ⟨fi, hfi, hfi2, hFd⟩ := dfind_any HDw.out v
               have HFd := zH hFd
               have HAm := zH (among_any (some ⟨g2, 0, none⟩) q m d v wd HLen.out (by omega) (Rds.own HRw.out.own))
               clear hFd
               by_cases hx0 : v = 0
               · have hx0' : (v != 0) = false := by simpa using hx0
                 have HE2 := zH (show come (adr 0 ts) o' ((wordsE th ps).take (j + 1)) = some q by rw [HT.out, come_one, if_pos (.inl hx0)])
                 clear hx0 hfi hfi2
                 go_wp2_with fail
                 go_roundw
                 case rel => exact ⟨j + 1, m, _, d, q, by omega, by go_num, rfl, HRw.out, HR2w.out, HFr.out, HE2.out, HGq.out, HPr.out⟩
                 case measure => simp [intOf]; omega
               · have hx0' : (v != 0) = true := by simpa using hx0
                 by_cases hxA : v ∈ adr 0 ts
                 · have hfi0 : ¬ fi < 0 := fun h => (hfi.1 h) hxA
                   by_cases hxo : v ∈ q
                   · have HE2 := zH (show come (adr 0 ts) o' ((wordsE th ps).take (j + 1)) = some q by rw [HT.out, come_one, if_pos (.inr hxo)])
                     rw [decide_eq_true hxo] at HAm
                     clear hfi hfi2 hx0 hxA hxo
                     go_wp2_with (first
                       | (go_at_call 45; refine HFd.out.mono ?_; rintro e w' ⟨rfl, rfl⟩)
                       | (go_at_call 46; refine HAm.out.mono ?_; rintro e w' ⟨rfl, rfl⟩))
                     go_roundw
                     case rel => exact ⟨j + 1, m, _, d, q, by omega, by go_num, rfl, HRw.out, HR2w.out, HFr.out, HE2.out, HGq.out, HPr.out⟩
                     case measure => simp [intOf]; omega
                   · have HE2 := zH (show come (adr 0 ts) o' ((wordsE th ps).take (j + 1)) = some (q ++ [v]) by rw [HT.out, come_one, if_neg (by simp [hx0, hxo]), if_pos hxA])
                     have HG2 := zH (HGq.out.push hxA hxo)
                     have HP2 := zH (HPr.out.trans (List.prefix_append q [v]))
                     rw [decide_eq_false hxo] at HAm
                     clear hfi hfi2 hx0 hxA hxo
                     go_wp2_with (first
                       | (go_at_call 45; refine HFd.out.mono ?_; rintro e w' ⟨rfl, rfl⟩)
                       | (go_at_call 46; refine HAm.out.mono ?_; rintro e w' ⟨rfl, rfl⟩)
                       | (at_builtin
                          refine wpList_append_lies _ rfl (.tmp 114) (.tmp 116) 27 rfl w.heap.size 2 i0 _ 1 8 Tryz.underlying27 I0.out I1.out I2.out I3.out rfl (by omega) (.slice (some ⟨g2, 0, none⟩) m d) m (q.map (Value.int .i64)) rfl (HRw.out.alloc _) ⟨wd.heap.size, 0, none⟩ 1 1 [.int .i64 v] rfl rfl (World.news_of_block (cs := #[.int .i64 v]) (t := 2) (fr := (0, 0)) (heap_alloc_new wd _)) (by simp [Value.oneCell']) (by omega) (by unfold maxLen; omega) (by omega) (by simp; omega) _ rfl ?_
                          intro b5 c5 w5 hown5 hg5 hat5 hlt5
                          have P5 := zH (HRw.out.push (b5 := b5) (c5 := c5) v hg5 hown5)
                          have F5 := zH (push_far (c5 := c5) HRw.out HR2w.out HFr.out v hg5 hat5)
                          clear hown5 hg5 hat5))
                     go_roundw
                     case rel => exact ⟨j + 1, m + 1, _, _, q ++ [v], by omega, by go_num, rfl, P5.out, F5.out.1, F5.out.2, HE2.out, HG2.out, HP2.out⟩
                     case measure => simp [intOf]; omega
                 · have hfi0 : fi < 0 := hfi.2 hxA
                   have HE2 := zH (show reachE ts roots = (3, []) by
                     rw [HSt.out, HN.out (by rw [HT.out, come_one, if_neg (by
                       rintro (h | h)
                       · exact hx0 h
                       · exact hxA (HGq.out.sub _ h)), if_neg hxA])])
                   have HB := zH HRw.out.bel
                   clear hfi hfi2 hx0 hxA
                   go_wp2_with (first
                     | (go_at_call 45; refine HFd.out.mono ?_; rintro e w' ⟨rfl, rfl⟩))
                   go_ret2
                   exact ⟨none, 0, by rw [HE2.out]; rfl, by rw [HE2.out]; exact .inl rfl, HB.out, fun a ha => by cases ha⟩
             · have hj1 : ¬ (j : Int) < (ps.length : Int) := by omega
               have HE2 := zH (show reachF ts (ts.length + 1 - (k + 1)) (k + 1) q = reachE ts roots by
                 have h := HCm.out
                 rw [List.take_of_length_le (by rw [HWl.out]; omega)] at h
                 rw [HSt.out, h, show ts.length + 1 - (k + 1) = ts.length - k by omega])
               clear hro hr2 hfar hcm hgq hpre
               go_wp2_with fail
               go_roundw
               case rel => exact ⟨k + 1, m, B, d, q, by omega, by go_num, rfl, HRo.out, HGq.out, HE2.out⟩
               case measure => simp [intOf]; omega
       · have hkn : ¬ (k : Int) < (n' : Int) := by omega
         have HEn := zH (show reachE ts roots = (0, o') by rw [← hre, reachF_end (by omega)])
         have HRd : Hid (Rds wr A' (o'.map (Value.int .i64))) := zH (Rds.own hro.own)
         have HBl := zH hro.bel
         have HOw : Hid (∀ a, A' = some a → w.heap.size ≤ a.block) := zH (fun a ha => by subst ha; exact (hro.own.lt _ rfl).1)
         have HLn := zH hnl
         clear hro hgo hre hnl hol
         go_wp2_with fail
         go_ret2
         exact ⟨A', c', by rw [HEn.out, HLn.out]; rfl, by rw [HEn.out]; exact HRd.out, HBl.out, HOw.out⟩
end CeR
end Go.Proofs.YtmkdhdmkdcankaaGreatDoor
namespace Go.Proofs.YtmkdhdmkdcankaaGreatDoor
namespace CeI
open Go.RowKit Base BinM Stru
set_option maxRecDepth 100000 in
set_option maxHeartbeats 1000000 in
theorem ints_any (A B : Option Addr) (a b : List Int) (m k c d : Nat) (w : World) (hm : m = a.length) (hk : k = b.length) (hmx : m ≤ maxLen) (hr : Rds w A (a.map (Value.int .i64))) (hr2 : Rds w B (b.map (Value.int .i64))) :
   Calls Tryz.prog 18 #[.slice A m c, .slice B k d] w fun e w' => e = .returned (.bool (decide (a = b))) ∧ Below w.heap.size w w' := by
 have hml : a.length ≤ m := Nat.le_of_eq hm.symm
 have hml2 : m ≤ a.length := Nat.le_of_eq hm
 have hkl : b.length ≤ k := Nat.le_of_eq hk.symm
 have hkl2 : k ≤ b.length := Nat.le_of_eq hk
 have Hr := zH hr
 have Hr2 := zH hr2
 unfold maxLen at hmx
 clear hm hk hr hr2
 by_cases hmk : m = k
 · have hb : ((m : Int) != (k : Int)) = false := by rw [hmk]; simp
   have hkm : k ≤ m := by omega
   have hmk' : m ≤ k := by omega
   clear hmk
   go_enter Tryz.func18, Tryz.ntmps18
   go_wp2_with fail
   go_loopw [5] (fun i wr => ∃ j : Nat, j ≤ m ∧ i = .int .i64 j ∧ a.take j = b.take j ∧ Below w.heap.size w wr) (fun i _ => m - (intOf i).toNat)
   case atStart => exact ⟨0, Nat.zero_le _, rfl, rfl, Below.refl _ _⟩
   case round =>
     obtain ⟨j, hj, rfl, hsame, hbel⟩ := hrel
     have Hsame := zH hsame
     have Hbel := zH hbel
     clear hsame
     by_cases hlt : j < m
     · have hja : j < a.length := by omega
       have hjb : j < b.length := by omega
       obtain ⟨b1, o1, rfl, hb1, hcell1⟩ := (Hr.out.below hbel).at_ (k := j) (by simp; omega)
       obtain ⟨b2, o2, rfl, hb2, hcell2⟩ := (Hr2.out.below hbel).at_ (k := j) (by simp; omega)
       have hc1 : wr.cell? ⟨b1, o1 + j, none⟩ = some (.int .i64 a[j]) := by rw [hcell1]; simp
       have hc2 : wr.cell? ⟨b2, o2 + j, none⟩ = some (.int .i64 b[j]) := by rw [hcell2]; simp
       have e1 : a.take (j + 1) = a.take j ++ [a[j]] := List.take_succ_eq_append_getElem hja
       have e2 : b.take (j + 1) = b.take j ++ [b[j]] := List.take_succ_eq_append_getElem hjb
       have hj1 : (j : Int) < (m : Int) := by omega
       have hj2 : (j : Int) < (k : Int) := by omega
       have hj0 : (0 : Int) ≤ (j : Int) := by omega
       clear hbel hcell1 hcell2
       cases hx : (a[j] == b[j])
       · have Hfin := zH (show decide (a = b) = false by
           rw [decide_eq_false_iff_not]
           intro h
           have : a[j] = b[j] := by subst h; rfl
           rw [this] at hx
           simp at hx)
         have hx' : (a[j] != b[j]) = true := by rw [bne, hx]; rfl
         clear e1 e2
         generalize a[j] = x at *
         generalize b[j] = y at *
         go_wp2_with fail
         go_quiet (fail)
         go_wp2_with fail
         go_ret
         exact ⟨by rw [Hfin.out]; rfl, drawn Hbel.out _⟩
       · have Hnext := zH (show a.take (j + 1) = b.take (j + 1) by rw [e1, e2, Hsame.out, eq_of_beq hx])
         have hx' : (a[j] != b[j]) = false := by rw [bne, hx]; rfl
         clear e1 e2
         generalize a[j] = x at *
         generalize b[j] = y at *
         go_wp2_with fail
         go_quiet (fail)
         go_wp2_with fail
         go_roundw
         case rel => exact ⟨j + 1, by omega, by go_num, Hnext.out, drawn Hbel.out _⟩
         case measure => simp [intOf]; omega
     · have Hfin := zH (show decide (a = b) = true by
         have h := Hsame.out
         rw [List.take_of_length_le (by omega), List.take_of_length_le (by omega)] at h
         simp [h])
       go_wp2_with fail
       go_ret
       exact ⟨by rw [Hfin.out]; rfl, hbel⟩
 · have hb : ((m : Int) != (k : Int)) = true := by simp; omega
   have Hfin := zH (show decide (a = b) = false by
     rw [decide_eq_false_iff_not]
     rintro rfl
     omega)
   clear hmk
   go_enter Tryz.func18, Tryz.ntmps18
   go_wp2_with fail
   go_ret
   exact ⟨by rw [Hfin.out]; rfl, Below.refl _ _⟩
end CeI
namespace CeL
open Go.RowKit Base BinM LnkA LnkC LnkS ClA ClC ClL ClI ClJ ClP CeB CeC CeR
open HpM (fitI OwnI info64)
open ClM (refsE reachE reachF thAt come wordsE thAt_mid come_append come_good)
open HpA (Th raw adr adr_split)
theorem doc_of {w wr : World} {x g r p u : Nat} {ts : List Th} {An : Option Addr} (P : Play w wr x g r p u ts) (Rn : Rds wr An (ClZ.tyn.map HierM.sv)) : Doc wr r u An ts := by
 obtain ⟨⟨w1, h1, S0, h2, ⟨f, lo, gg, A, c, hT⟩⟩, h4⟩ := P
 have hl := sim_low S0
 obtain ⟨a1, a2, a3, a4, a5, AL, cL, ms, a9, S, rfl, h5, h6⟩ := S0
 exact ⟨⟨AL, cL, ms, S.rf, rfl⟩, S.fits, h4, ⟨f, lo, gg, A, c, hT wr hl⟩, Rn⟩
theorem reachF_err {ts : List Th} : ∀ (k i : Nat) (out : List Int), (reachF ts k i out).1 ≠ 0 → (reachF ts k i out).2 = []
 | 0, i, out, h => by rw [reachF] at h; exact absurd rfl h
 | k + 1, i, out, h => by
   rw [reachF] at h ⊢
   cases ho : out[i]? with
   | none => rw [ho] at h; exact absurd rfl h
   | some x =>
     rw [ho] at h
     simp only at h ⊢
     cases ht : thAt ts x with
     | none => rfl
     | some t =>
       rw [ht] at h
       simp only at h ⊢
       cases hq : refsE t with
       | none => rfl
       | some ps =>
         rw [hq] at h
         simp only at h ⊢
         cases hc : come (adr 0 ts) out (wordsE t ps) with
         | none => rfl
         | some o =>
           rw [hc] at h
           exact reachF_err k (i + 1) o h
theorem reachE_err {ts : List Th} {roots : List Int} (h : (reachE ts roots).1 ≠ 0) : (reachE ts roots).2 = [] := by
 unfold reachE at h ⊢
 cases hc : come (adr 0 ts) [] roots with
 | none => rfl
 | some o =>
   rw [hc] at h
   exact reachF_err _ _ _ h
set_option maxRecDepth 100000 in
set_option maxHeartbeats 8000000 in
theorem dlive_any {w : World} {r u : Nat} {An : Option Addr} {ts : List Th} (D : Doc w r u An ts) (cn : Nat) {Ar : Option Addr} {cr : Nat} {roots : List Int} (R : Rds w Ar (roots.map (Value.int .i64))) (hrl : roots.length ≤ 100000) :
   Calls Tryz.prog 14 #[.pointer (some ⟨r, 0, none⟩), .pointer (some ⟨u, 0, none⟩), .slice An 6 cn, .slice Ar roots.length cr] w fun e w' => e = .returned (.tuple #[.int .i64 (liveE ts roots).1, .int .i64 (liveE ts roots).2]) ∧ Below w.heap.size w w' := by
 have HRe := zH (dreach_any D cn (cr := cr) R hrl)
 have hall : (∀ y ∈ (reachE ts roots).2, y ∈ adr 0 ts) ∧ (reachE ts roots).2.length ≤ 40 ∧ (liveE ts roots) = (((sumW ts (reachE ts roots).2 : Nat) : Int), (reachE ts roots).1) := by
   by_cases h : (reachE ts roots).1 = 0
   · have hg := reachE_good (show reachE ts roots = (0, (reachE ts roots).2) from Prod.ext h rfl)
     have h2 := hg.len
     rw [ClM.adr_len] at h2
     refine ⟨hg.sub, by have := D.few; omega, ?_⟩
     unfold liveE
     rw [if_pos h, h]
   · have h2 := reachE_err h
     refine ⟨by rw [h2]; simp, by rw [h2]; simp, ?_⟩
     unfold liveE
     rw [if_neg h, h2]
     rfl
 obtain ⟨h1, h2, h3⟩ := hall
 rw [h3]
 have HD := zH (fun wr (hb : Below w.heap.size w wr) => D.later hb)
 have HSub := zH h1
 have HFit := zH D.fits
 have HS4 : Hid (∀ l : List Int, sumW ts l ≤ l.length * 4097) := zH (sumW_le (fun t ht => by have := word_len D.fits ht; omega))
 clear D R h1 h3
 generalize reachE ts roots = E at *
 obtain ⟨er, l⟩ := E
 simp only at h2
 go_enter Tryz.func14, Tryz.ntmps14
 go_wp2_with fail
 refine HRe.out.mono ?_
 rintro e w1 ⟨A, c, rfl, hr, hb, _⟩
 have HR1 := zH hr
 have HB1 := zH hb
 clear hr hb
 simp only at HR1 HSub ⊢
 go_wp2_with fail
 go_loopw [12, 13] (fun s i wr => ∃ j : Nat, j ≤ l.length ∧ i = .int .i64 (j : Int) ∧ s = .int .i64 ((sumW ts (l.take j) : Nat) : Int) ∧ w1 = wr) (fun _ i _ => l.length - (intOf i).toNat)
 case atStart => exact ⟨0, Nat.zero_le _, rfl, rfl, rfl⟩
 case round =>
   obtain ⟨j, hj, rfl, rfl, rfl⟩ := hrel
   by_cases hlt : j < l.length
   · obtain ⟨rb, ro, rfl, hrb, q0⟩ := HpS.rds_getD HR1.out hlt
     have hj1 : (j : Int) < (l.length : Int) := by omega
     have e : l.getD j 0 = l[j] := by rw [List.getD_eq_getElem?_getD, List.getElem?_eq_getElem hlt]; rfl
     rw [e] at q0
     have D1 := HD.out w1 HB1.out
     obtain ⟨p, t, q, hts, hx⟩ := adr_split (HSub.out _ (List.getElem_mem hlt))
     rw [Nat.zero_add] at hx
     have ht : thAt ts l[j] = some t := by rw [hx, hts]; exact thAt_mid p t q
     have HSum := zH (sumW_take hlt ht)
     have hs4 := HS4.out (l.take j)
     have hs5 : (l.take j).length ≤ 40 := by rw [List.length_take]; omega
     have hW : t.W.length ≤ 400 := word_len HFit.out (by rw [hts]; simp)
     have HFd := zH (dfind_yes D1 hts)
     obtain ⟨AL, cL, b, o, nL, mA, mc, hbx, rfl, hpn, hn40, k0, k1, k2, k3⟩ := dcells D1 hts
     have c1 : w1.cell? ⟨r, 1, none⟩ = some (.slice (some ⟨b, o, none⟩) nL cL) := hbx.cell 1
     have hp1 : (p.length : Int) < (nL : Int) := by omega
     rw [hx] at q0
     clear e D1 ht hbx hx hts k0 k1 k3
     generalize sumW ts (l.take j) = sm at *
     generalize ((raw p).length + 1 : Nat) = xx at *
     go_wp2_with (go_at_call 45; refine HFd.out.mono ?_; rintro e w' ⟨rfl, rfl⟩)
     go_roundw
     case rel => exact ⟨j + 1, by omega, by go_num, by rw [HSum.out]; go_num, trivial⟩
     case measure => simp [intOf]; omega
   · have hj1 : ¬ (j : Int) < (l.length : Int) := by omega
     have HE := zH (show l.take j = l from List.take_of_length_le (by omega))
     go_wp2_with fail
     go_ret2
     exact ⟨by rw [HE.out]; rfl, HB1.out⟩
end CeL
end Go.Proofs.YtmkdhdmkdcankaaGreatDoor
namespace Go.Proofs.YtmkdhdmkdcankaaGreatDoor
namespace Opened
open Go.RowKit Go.ChangeShapes Base
def Places {H : Type} (d : DataW H) (c : Nat) : Prop := (d = .nil ∧ c = 0) ∨ ∃ el sp, d = .slice el sp ∧ el.length + sp.length = c
section
variable {H : Type} {enc : TypeId × Value → H} {P : Program} {w : World}
theorem rds_of_cells {x : Addr} {f : Nat → Value} {n : Nat} {xs : List Value} (hx : xs.length ≤ n) (h : ∀ i, i < n → w.cell? (x.add i) = some (f i)) (hf : ∀ i (hi : i < xs.length), xs[i] = f i) : Rds w (some x) xs := by
 rcases Nat.eq_zero_or_pos xs.length with h0 | h0
 · exact .inl (List.eq_nil_of_length_eq_zero h0)
 · obtain ⟨b, o, spot⟩ := x
   have hc := h 0 (by omega)
   have hs : spot = none := by simpa [Addr.add] using World.cell?_spot hc
   subst hs
   have hc' : w.cell? ⟨b, o, none⟩ = some (f 0) := by simpa [Addr.add] using hc
   refine .inr ⟨b, o, rfl, World.block_lt_of_cell? w ⟨b, o, none⟩ hc', fun j u hu => ?_⟩
   obtain ⟨hj, rfl⟩ := List.getElem?_eq_some_iff.1 hu
   have := h j (by omega)
   rw [Addr.add_mid] at this
   rw [this, hf j hj]
theorem open_nums {t e : TypeId} {fuel : Nat} {A : Option Addr} {m c : Nat} {d : DataW H} {p : List MemPlace} (ht : P.underlying t = some (.slice e)) (he : P.underlying e = some (.int .i64)) (hc : P.cellsOf e = 1)
   (h : DataW.trod enc P w 0 (fun _ => true) true fuel t (Value.slice A m c).cells.toList = some (d, p)) :
   ∃ l, IsInts w A m c l ∧ Places d c := by
 rcases open_ints ht he hc h with ⟨hcs, hd⟩ | ⟨x, len, cap, zs, hcs, _, hl, hm, hz, hd, hcell, hwf⟩
 · simp [Value.cells] at hcs
   obtain ⟨rfl, rfl, rfl⟩ := hcs
   injection hd with hd
   exact ⟨[], ⟨rfl, Nat.le_refl _, by simp [maxLen], .inl rfl, by simp⟩, .inl ⟨hd, rfl⟩⟩
 · simp [Value.cells] at hcs
   obtain ⟨rfl, rfl, rfl⟩ := hcs
   injection hd with hd
   simp only [if_true] at hz
   refine ⟨zs.take m, ⟨by simp; omega, hl, hm, ?_, fun x hx => ?_⟩, .inr ⟨_, _, hd, by simp [lits]; omega⟩⟩
   · refine rds_of_cells (n := zs.length) (f := fun i => .int .i64 (zs.getD i 0)) (by simp; omega) hcell (fun i hi => ?_)
     have hi' : i < zs.length := by simp at hi; omega
     simp only [List.getElem_map, List.getElem_take]
     rw [List.getD_eq_getElem?_getD, List.getElem?_eq_getElem hi', Option.getD_some]
   · have := hwf x (List.mem_of_mem_take hx)
     simp [Lit.wf, IntKind.min, IntKind.max, IntKind.bits, IntKind.signed] at this
     omega
theorem reach_slice {ts : List TypeId} {ds : List (DataW H)} (h : (DataW.weightsEach P ts ds).all (· ≤ reachBytes) = true) {j : Nat} {t e : TypeId} {d : DataW H} {c : Nat} (ht : ts[j]? = some t) (hd : ds[j]? = some d)
   (hp : Places d c) (hu : P.underlying t = some (.slice e)) {k : Nat} (hk : P.bytesOf e = k) : c * k ≤ 140737488351232 := by
 rcases hp with ⟨_, rfl⟩ | ⟨el, sp, rfl, rfl⟩
 · simp
 · have := sized_slice h ht hd hu
   rw [hk] at this
   simpa [reachBytes] using this
end
end Opened
namespace OpenG
open Go.RowKit Go.ChangeShapes Go.WideShapes Go.Deep Base Stru Opened OpenS
section
variable {H : Type} {P : Program}
theorem Light.of_each {ts : List TypeId} {ds : List (DataW H)} (h : (DataW.weightsEach P ts ds).all (· ≤ reachBytes) = true) {j : Nat} {t : TypeId} {d : DataW H} (ht : ts[j]? = some t) (hd : ds[j]? = some d) : Light P t d :=
 fun q hq => of_decide_eq_true (List.all_eq_true.1 h _ (DataW.weights_mem_each ht hd q hq))
end
end OpenG
end Go.Proofs.YtmkdhdmkdcankaaGreatDoor
