/- pieces -/
import Derived.Test.YtmkdhdmkdcankaaGreatDoorK46
import Derived.Test.YtmkdhdmkdcankaaGreatDoorK48
import Derived.Test.YtmkdhdmkdcankaaGreatDoorK36
namespace Go.Proofs.YtmkdhdmkdcankaaGreatDoor
set_option maxRecDepth 100000
set_option maxHeartbeats 8000000
namespace CeD
open Go.RowKit BinM DescM DescW DescX DescR
open BinName (z8)
theorem GN {l : List UInt8} (h : zq l = true) (h0 : 0 < l.length) : l = [73] ∨ l = [66] ∨ l = [83] ∨ l[0] = 76 ∨ l[0] = 91 := by
 cases l with
 | nil => simp at h0
 | cons c t =>
   by_cases hc : c = 91
   · subst hc; simp
   · have hb : brk (c :: t) = 0 := by simp [brk, hc]
     rw [Y9, hb, List.drop_zero] at h
     simp only [Bool.and_eq_true, decide_eq_true_eq] at h
     have h2 := h.2
     simp only [Yy, Bool.or_eq_true, Bool.and_eq_true, beq_iff_eq, decide_eq_true_eq] at h2
     rcases h2 with ((h2 | h2) | h2) | ⟨⟨⟨_, h2⟩, _⟩, _⟩
     · exact .inl h2
     · exact .inr (.inl h2)
     · exact .inr (.inr (.inl h2))
     · simp at h2; simp [h2]
theorem Kg (l : List UInt8) (w : World) (hl : l.length ≤ 140737488355328) :
 Calls Tryz.prog 89 #[.string ⟨l.toArray⟩] w fun e w' => e = .returned (Gw (Zx l)) ∧ w = w' := by
 cases hR : zq l
 · have Hfin := zH (show Zx l = ([], 10) by unfold Zx Uc; rw [hR]; rfl)
   have HR := zH hR
   clear hR
   go_enter Tryz.func89, Tryz.ntmps89
   go_wp2_with (go_at_call 115; refine (zD l _ (by omega)).mono ?_; rw [HR.out]; rintro e w' ⟨rfl, rfl⟩)
   go_ret2
   exact ⟨JI Hfin.out rfl, rfl⟩
 · have hp := jW hR
   have hp0 : 0 < l.length := by omega
   have hh := Ju hp0 91
   have hx0 := fun h' => at0 hp0 h'
   have HR := zH hR
   cases hc : ((l[0].toNat : Int) == 91)
   · have hc2 : ((l[0].toNat : Int) != 91) = true := by rw [bne, hc]; rfl
     have Hfin := zH (show Zx l = ([], 10) by unfold Zx Uc; rw [hR, hh]; rw [show ((91 : UInt8).toNat : Int) = 91 from rfl, hc]; rfl)
     clear hR hh
     go_enter Tryz.func89, Tryz.ntmps89
     go_wp2_with (go_at_call 115; refine (zD l _ (by omega)).mono ?_; rw [HR.out]; rintro e w' ⟨rfl, rfl⟩)
     go_ret2
     exact ⟨JI Hfin.out rfl, rfl⟩
   · have hc2 : ((l[0].toNat : Int) != 91) = false := by rw [bne, hc]; rfl
     have Hfin := zH (show Zx l = (l.drop 1, 0) by unfold Zx Uc; rw [hR, hh]; rw [show ((91 : UInt8).toNat : Int) = 91 from rfl, hc]; rfl)
     clear hR hh
     go_enter Tryz.func89, Tryz.ntmps89
     go_wp2_with (go_at_call 115; refine (zD l _ (by omega)).mono ?_; rw [HR.out]; rintro e w' ⟨rfl, rfl⟩)
     go_ret2
     exact ⟨JI Hfin.out (by rw [ext, List.take_of_length_le (by simp)]), rfl⟩
theorem uI (l : List UInt8) (w : World) (hl : l.length ≤ 140737488355328) :
 Calls Tryz.prog 88 #[.string ⟨l.toArray⟩] w fun e w' => e = .returned (.bool (qR l)) ∧ w = w' := by
 cases hN : l == [78]
 · cases hS : l == [83]
   · cases hR : zq l
     · have Hfin := zH (show qR l = false by unfold qR; rw [hN, hR]; rfl)
       have HR := zH hR
       clear hR
       go_enter Tryz.func88, Tryz.ntmps88
       go_wp2_with (go_at_call 115; refine (zD l _ (by omega)).mono ?_; rw [HR.out]; rintro e w' ⟨rfl, rfl⟩)
       go_ret
       exact ⟨z8 (by rw [Hfin.out]), rfl⟩
     · have hp0 : 0 < l.length := jW hR
       have hx0 := fun h' => Jh 0 hp0 h'
       have hh := GN hR hp0
       have HR := zH hR
       have hS' : ¬ l = [83] := by intro h; rw [h] at hS; simp at hS
       cases q1 : ((l[0].toNat : Int) == 76)
       · cases q2 : ((l[0].toNat : Int) == 91)
         · have Hfin := zH (show qR l = false by
            unfold qR
            rw [hN, hR]
            rcases hh with h | h | h | h | h
            · rw [h]; rfl
            · rw [h]; rfl
            · exact absurd h hS'
            · rw [h] at q1; simp at q1
            · rw [h] at q2; simp at q2)
           clear hR hh hS'
           go_enter Tryz.func88, Tryz.ntmps88
           go_wp2_with (go_at_call 115; refine (zD l _ (by omega)).mono ?_; rw [HR.out]; rintro e w' ⟨rfl, rfl⟩)
           go_ret
           exact ⟨z8 (by rw [Hfin.out]), rfl⟩
         · have Hfin := zH (show qR l = true by
            unfold qR
            rw [hN, hR]
            have h1 : ¬ l = [73] := by intro h; subst h; simp at q2
            have h2 : ¬ l = [66] := by intro h; subst h; simp at q2
            simp [h1, h2])
           clear hR hh hS'
           go_enter Tryz.func88, Tryz.ntmps88
           go_wp2_with (go_at_call 115; refine (zD l _ (by omega)).mono ?_; rw [HR.out]; rintro e w' ⟨rfl, rfl⟩)
           go_ret
           exact ⟨z8 (by rw [Hfin.out]), rfl⟩
       · have Hfin := zH (show qR l = true by
          unfold qR
          rw [hN, hR]
          have h1 : ¬ l = [73] := by intro h; subst h; simp at q1
          have h2 : ¬ l = [66] := by intro h; subst h; simp at q1
          simp [h1, h2])
         clear hR hh hS'
         go_enter Tryz.func88, Tryz.ntmps88
         go_wp2_with (go_at_call 115; refine (zD l _ (by omega)).mono ?_; rw [HR.out]; rintro e w' ⟨rfl, rfl⟩)
         go_ret
         exact ⟨z8 (by rw [Hfin.out]), rfl⟩
   · have Hfin := zH (show qR l = true by have := eq_of_beq hS; subst this; decide)
     go_enter Tryz.func88, Tryz.ntmps88
     go_wp2
     go_ret
     exact ⟨z8 (by rw [Hfin.out]), rfl⟩
 · have Hfin := zH (show qR l = true by unfold qR; rw [hN]; rfl)
   go_enter Tryz.func88, Tryz.ntmps88
   go_wp2
   go_ret
   exact ⟨z8 (by rw [Hfin.out]), rfl⟩
end CeD
namespace CeA
open Go.RowKit Base BinM Stru DescM DescW DescX DescR DescS DescG DescP DescQ HierS HierT HierM HierC HierD HierN HierV HierR HierU Kls KlsP KlsQ OpenK TabC TabM TabK TabP TabE TabB TabG TabH TabT TabU TabV TabX TabW TabF TabN TabO TabY TabCs TabL TabR TabQ LnkA LnkC LnkS ClZ ClI CeD
def GD (cb hb eb kb sb rb : Bool) (cl : Sh) : Sh × Bool := if cb && hb then (cl, true) else if eb && kb then (⟨1, 0, [], rb⟩, true) else if sb then (⟨2, 0, [], false⟩, true) else (noSh, false)
def Y3 (ps : List P2) (L : List za) (d : T) : Sh × Bool :=
 GD (zl d).2 (XE (QC ps) (zl d).1) ((Zx d).2 == 0) ((mk ps).known d) (d == [83]) (qR (Zx d).1) (JD L (zl d).1)
theorem kX (f : Nat) : ∀ d ∈ [0, 1, 2, 3, 4, 5, 6], Y3 (pairs (bs f)) (bs f) (LnkA.zG tyn ((d : Nat) : Int)) = ClA.shp d := by
 intro d hd
 simp only [List.mem_cons, List.not_mem_nil, or_false] at hd
 rcases hd with rfl | rfl | rfl | rfl | rfl | rfl | rfl <;> kernel_rfl
theorem GH : (Tryz.prog.info? 107).map (·.size) = some 4 := by kernel_rfl
theorem Jk {W : World} {b : Nat} {k s : Int} {A : Option Addr} {n c : Nat} {all : Bool} (h : HpM.Bx W b #[.int .i64 k, .int .i64 s, .slice A n c, .bool all] 107) :
 (loadVar 107 ⟨b, 0, none⟩).run Tryz.prog W = .ok (.agg #[.int .i64 k, .int .i64 s, .slice A n c, .bool all]) W :=
 run_loadVar_row _ _ _ _ #[.int .i64 k, .int .i64 s, .slice A n c, .bool all] (0, 0) _ h Tryz.underlying107 rfl GH
theorem zl1 {lo : Nat} {w : World} {r g : Nat} {A : Option Addr} {c : Nat} {ps : List P2} {L : List za} (H : RT lo w r g A c ps L) (U : Ups ps L) (d : T) (hdl : d.length ≤ 10000) (hds : ∀ y ∈ (hav L (zl d).1).1.map ZJ, y.desc.length ≤ 140737488355328) (h1 : (zl d).2 = true) (h2 : XE (QC ps) (zl d).1 = true) :
 Calls Tryz.prog 50 #[.pointer (some ⟨r, 0, none⟩), .string ⟨d.toArray⟩] w (QJ w (JD L (zl d).1, true)) := by
 have hb : Below w.heap.size w (w.alloc (.cells #[.int .i64 0, .int .i64 0, .slice none 0 0, .bool false] 107)) := (Below.refl _ _).alloc (Nat.le_refl _) _
 have HC : Hid (∀ W, Calls Tryz.prog 85 #[.string ⟨d.toArray⟩] W fun e w' => e = .returned (.tuple #[.string ⟨(zl d).1.toArray⟩, .bool true]) ∧ W = w') := zH (fun W => by have := Jm d W (by omega); unfold kT at this; rw [h1] at this; exact this)
 have HHs := zH (Jd lo g (QC ps) (zl d).1 _ (H.ext hb).hier)
 rw [h2] at HHs
 have HL := zH (JQ (H.ext hb) U (zl d).1)
 have p0 : (w.alloc (.cells #[.int .i64 0, .int .i64 0, .slice none 0 0, .bool false] 107)).cell? ⟨r, 0, none⟩ = some (.pointer (some ⟨g, 0, none⟩)) := (H.ext hb).box.cell 0
 have hrl := H.box.lt
 have HR := zH (HpM.Bx.new w #[.int .i64 0, .int .i64 0, .slice none 0 0, .bool false] 107)
 have hl5 := (QL U.few (zl d).1).1
 have HD := zH hds
 have hll : ((hav L (zl d).1).1.map ZJ).length ≤ 5000 := by simpa using hl5
 have HB := zH hb
 unfold JD
 unfold Yt at HL
 clear H hb hds hl5 h1 h2
 generalize (hav L (zl d).1).1.map ZJ = l at *
 generalize (zl d).1 = q at *
 go_enter Tryz.func50, Tryz.ntmps50
 go_wp2_with (first
  | (go_at_call 85; refine (HC.out _).mono ?_; rintro e w' ⟨rfl, rfl⟩)
  | (go_at_call 86; refine HHs.out.mono ?_; rintro e w' ⟨rfl, rfl⟩))
 refine HL.out.mono ?_
 rintro e w1 ⟨v1, rfl, ho1, hb1⟩
 obtain ⟨A1, c1, rfl, hc1, hc2, _, _⟩ := zi ho1
 have R1 := zH (Rds.own ho1)
 have HR1 := zH (HR.out.after hb1)
 have HB1 := zH (HB.out.trans (hb1.mono HB.out.size))
 have hs1 := hb1.size
 clear ho1 hb1
 have hrow : ∀ k (hk : k < l.length), l[k].desc.length ≤ 140737488355328 := fun k hk => HD.out _ (List.getElem_mem hk)
 have HRow := zH hrow
 clear hrow
 have Z := zH ((Below.refl w1.heap.size w1).alloc (Nat.le_refl _) (.cells #[.int .i64 0, .int .i64 (l.length : Int), .slice none 0 0, .bool false] 107))
 have ZX := zH (HpM.Bx.new w1 #[.int .i64 0, .int .i64 (l.length : Int), .slice none 0 0, .bool false] 107)
 go_wp2_with fail
 go_loopw [10] (fun i wr => ∃ (k : Nat) (v : Value), k ≤ l.length ∧ i = .int .i64 (k : Int) ∧ HpM.Bx wr w1.heap.size #[.int .i64 0, .int .i64 (l.length : Int), v, .bool false] 107 ∧ Jz wr w1.heap.size v (Ze l k) ∧ Below w1.heap.size w1 wr) (fun i _ => l.length - (intOf i).toNat)
 case atStart => exact ⟨0, _, Nat.zero_le _, rfl, ZX.out, Jz.nil _ _, Z.out⟩
 case round =>
  obtain ⟨k, v, hk, rfl, hbx, hown, hbel⟩ := hrel
  obtain ⟨A2, c2, rfl, hc3, hc4, _, hat⟩ := hown.slice
  have HAt := zH hat
  clear hat
  have hszr := hbel.size
  have hbl := hbx.lt
  by_cases hlt : k < l.length
  · obtain ⟨b, o, rfl, hb1, hd0, hd1⟩ := jr (R1.out.below hbel) hlt
    have HS := zH (uH l k hlt)
    have HRf := zH (fun w => uI l[k].desc w (HRow.out k hlt))
    have hrl := vE l k
    have x2 : wr.cell? ⟨w1.heap.size, 2, none⟩ = some (.slice A2 (Ze l k).length c2) := hbx.cell 2
    have hnb := jG hown hbx (by decide)
    have HX := zH hbx
    have HO := zH hown
    have HBe := zH hbel
    clear hbx hown hbel
    have hk1 : (k : Int) < (l.length : Int) := by omega
    generalize l[k] = y at *
    obtain ⟨y0, y1⟩ := y
    simp only at hd0 hd1 HRf HS
    cases hq2 : qR y1
    · have HE := zH (show Ze l (k + 1) = Ze l k by rw [HS.out, hq2]; rfl)
      rw [hq2] at HRf
      clear HS hq2
      go_wp2_with (go_at_call 88; refine (HRf.out _).mono ?_; rintro e w' ⟨rfl, rfl⟩)
      go_roundw
      case rel => exact ⟨k + 1, _, by omega, by go_num, HX.out, by rw [HE.out]; exact HO.out, HBe.out⟩
      case measure => simp [intOf]; omega
    · have HE := zH (show Ze l (k + 1) = Ze l k ++ [(k : Int)] by rw [HS.out, hq2]; rfl)
      rw [hq2] at HRf
      clear HS hq2
      have HO2 := zH (World.ownsRow.alloc HO.out (.cells #[.int .i64 (k : Int)] 3))
      have HRd := zH (LnkA.ZG (HpM.Bx.new wr #[.int .i64 (k : Int)] 3))
      have HS2 : Hid (w1.heap.size ≤ (wr.alloc (.cells #[.int .i64 (k : Int)] 3)).heap.size) := zH (by simp; omega)
      have HBx2 := zH (HX.out.after ((Below.refl _ _).alloc (Nat.le_refl _) (.cells #[.int .i64 (k : Int)] 3)))
      have HBe2 := zH (HBe.out.alloc hszr (.cells #[.int .i64 (k : Int)] 3))
      go_wp2_with (first
       | (go_at_call 88; refine (HRf.out _).mono ?_; rintro e w' ⟨rfl, rfl⟩)
       | (at_builtin; refine appJ rfl (.tmp 46) (.tmp 48) rfl w1.heap.size _ (Ze l k) rfl HO2.out (some ⟨wr.heap.size, 0, none⟩) 1 1 [(k : Int)] rfl rfl HRd.out (by simp; omega) HS2.out ?_; intro v2 w2 hown2 hg2; obtain ⟨A3, n3, c3, rfl⟩ : ∃ A n c, v2 = .slice A n c := ⟨_, _, _, hown2.slice.choose_spec.choose_spec.1⟩; have hx3 := (hg2.block _ HBx2.out.lt (fun e => hnb e.symm)).trans HBx2.out; have r2 : w2.cell? ⟨w1.heap.size, 2, none⟩ = some (.slice A2 (Ze l k).length c2) := HpM.Bx.cell hx3 2; have r3 := HpM.Bx.free hx3 2; have r4 := HpM.Bx.lt hx3; have HX3 := zH (HpM.Bx.set hx3 2 (.slice A3 n3 c3)); have HO3 := zH hown2; have HB3 := zH (zC HBe2.out HO2.out (Nat.le_refl _) HS2.out hg2); have hn3 := jG hown2 hx3 (by decide); clear hx3 hown2 hg2))
      go_roundw
      case rel => exact ⟨k + 1, _, by omega, by go_num, HX3.out, by rw [HE.out]; exact TabM.ze HO3.out (fun j hj => heap_setCell_other _ ⟨w1.heap.size, 2, none⟩ _ _ (fun e => hn3 (by rw [hj, e]))), HB3.out.setCell (p := ⟨w1.heap.size, 2, none⟩) (Nat.le_refl _) _⟩
      case measure => simp [intOf]; omega
  · have hkl : k = l.length := by omega
    subst hkl
    have HX := zH hbx
    have HO := zH hown
    have HRr := zH (HR1.out.after hbel)
    have HBa := zH (HB1.out.trans (hbel.mono HB1.out.size))
    have q0 : wr.cell? ⟨w1.heap.size, 0, none⟩ = some (.int .i64 0) := hbx.cell 0
    have q1 : wr.cell? ⟨w1.heap.size, 1, none⟩ = some (.int .i64 (l.length : Int)) := hbx.cell 1
    have q2 : wr.cell? ⟨w1.heap.size, 2, none⟩ = some (.slice A2 (Ze l l.length).length c2) := hbx.cell 2
    have q3 : wr.cell? ⟨w1.heap.size, 3, none⟩ = some (.bool false) := hbx.cell 3
    have u0 := HRr.out.free 0
    have u1 := HRr.out.free 1
    have u2 := HRr.out.free 2
    have u3 := HRr.out.free 3
    have s0 : wr.cell? ⟨w.heap.size, 0, none⟩ = some (.int .i64 0) := HRr.out.cell 0
    have s1 : wr.cell? ⟨w.heap.size, 1, none⟩ = some (.int .i64 0) := HRr.out.cell 1
    have s2 : wr.cell? ⟨w.heap.size, 2, none⟩ = some (.slice none 0 0) := HRr.out.cell 2
    have s3 : wr.cell? ⟨w.heap.size, 3, none⟩ = some (.bool false) := HRr.out.cell 3
    have hwl := HRr.out.lt
    clear hbx hown hbel
    have hnb := jG HO.out HRr.out (by decide)
    have EX1 := zH (zc4 HRr.out (.int .i64 0) (.int .i64 (l.length : Int)) (.slice A2 (Ze l l.length).length c2) (.bool false))
    have EB1 := zH (xY HBa.out (Nat.le_refl w.heap.size) (.int .i64 0) (.int .i64 (l.length : Int)) (.slice A2 (Ze l l.length).length c2) (.bool false))
    have ER1 : Hid (Rds (fov wr w.heap.size (.int .i64 0) (.int .i64 (l.length : Int)) (.slice A2 (Ze l l.length).length c2) (.bool false)) A2 ((Ze l l.length).map (Value.int .i64))) := zH (Rds.own (TabM.ze HO.out (fun j hj => xX wr w.heap.size (.int .i64 0) (.int .i64 (l.length : Int)) (.slice A2 (Ze l l.length).length c2) (.bool false) j (fun e => hnb (by rw [hj, e])))))
    clear hnb
    go_wp2_with fail
    exact bodyPost_ret (v := .tuple #[.agg #[.int .i64 0, .int .i64 (l.length : Int), .slice A2 (Ze l l.length).length c2, .bool false], .bool true]) (ZI Tryz.results50 _ _ _ _ rfl (Jk EX1.out)) rfl ⟨A2, c2, rfl, ER1.out, hc3, EB1.out, fun a ha => Nat.le_trans HB1.out.size (HAt.out a ha).1⟩
theorem stand_no {lo : Nat} {w : World} {r g : Nat} {A : Option Addr} {c : Nat} {ps : List P2} {L : List za} (H : RT lo w r g A c ps L) (d : T) (hdl : d.length ≤ 10000) (hn : ((zl d).2 && XE (QC ps) (zl d).1) = false) :
 Calls Tryz.prog 50 #[.pointer (some ⟨r, 0, none⟩), .string ⟨d.toArray⟩] w (QJ w (Y3 ps L d)) := by
 have hb : Below w.heap.size w (w.alloc (.cells #[.int .i64 0, .int .i64 0, .slice none 0 0, .bool false] 107)) := (Below.refl _ _).alloc (Nat.le_refl _) _
 have HC : Hid (∀ W, Calls Tryz.prog 85 #[.string ⟨d.toArray⟩] W fun e w' => e = .returned (.tuple #[.string ⟨(zl d).1.toArray⟩, .bool (zl d).2]) ∧ W = w') := zH (fun W => Jm d W (by omega))
 have HEl : Hid (∀ W, Calls Tryz.prog 89 #[.string ⟨d.toArray⟩] W fun e w' => e = .returned (.tuple #[.string ⟨(Zx d).1.toArray⟩, .int .i64 (Zx d).2]) ∧ W = w') := zH (fun W => Kg d W (by omega))
 have hel := vZ d
 have HRf := zH (fun W => uI (Zx d).1 W (by omega))
 have HHs := zH (Jd lo g (QC ps) (zl d).1 _ (H.ext hb).hier)
 have HKn := zH (U0 lo g ps d _ (H.ext hb).hier (by omega))
 have p0 : (w.alloc (.cells #[.int .i64 0, .int .i64 0, .slice none 0 0, .bool false] 107)).cell? ⟨r, 0, none⟩ = some (.pointer (some ⟨g, 0, none⟩)) := (H.ext hb).box.cell 0
 have hrl := H.box.lt
 unfold Y3 GD
 rw [hn]
 clear H hb
 generalize zl d = C at *
 obtain ⟨q, cb⟩ := C
 generalize Zx d = E at *
 obtain ⟨E1, E2⟩ := E
 simp only at hel hn HC HEl HRf HHs ⊢
 generalize XE (QC ps) q = hb at *
 generalize (mk ps).known d = kb at *
 generalize qR E1 = rb at *
 generalize hS : (d == [83]) = sb at *
 generalize hE : (E2 == 0) = eb at *
 cases cb <;> cases hb <;> (try (cases hn; done)) <;> cases eb <;> cases kb <;> cases sb
 all_goals
  go_enter Tryz.func50, Tryz.ntmps50
  go_wp2_with (first
   | (go_at_call 85; refine (HC.out _).mono ?_; rintro e w' ⟨rfl, rfl⟩)
   | (go_at_call 86; refine HHs.out.mono ?_; rintro e w' ⟨rfl, rfl⟩)
   | (go_at_call 89; refine (HEl.out _).mono ?_; rintro e w' ⟨rfl, rfl⟩)
   | (go_at_call 90; refine HKn.out.mono ?_; rintro e w' ⟨rfl, rfl⟩)
   | (go_at_call 88; refine (HRf.out _).mono ?_; rintro e w' ⟨rfl, rfl⟩))
  first
   | exact bodyPost_ret (v := .tuple #[.agg #[.int .i64 1, .int .i64 0, .slice none 0 0, .bool rb], .bool true]) (ZI Tryz.results50 _ _ _ _ rfl (Jk (HpM.Bx.new w #[.int .i64 1, .int .i64 0, .slice none 0 0, .bool rb] 107))) rfl ⟨none, 0, rfl, .inl rfl, Nat.le_refl _, (Below.refl _ _).alloc (Nat.le_refl _) _, fun a ha => by cases ha⟩
   | exact bodyPost_ret (v := .tuple #[.agg #[.int .i64 2, .int .i64 0, .slice none 0 0, .bool false], .bool true]) (ZI Tryz.results50 _ _ _ _ rfl (Jk (HpM.Bx.new w #[.int .i64 2, .int .i64 0, .slice none 0 0, .bool false] 107))) rfl ⟨none, 0, rfl, .inl rfl, Nat.le_refl _, (Below.refl _ _).alloc (Nat.le_refl _) _, fun a ha => by cases ha⟩
   | exact bodyPost_ret (v := .tuple #[.agg #[.int .i64 0, .int .i64 0, .slice none 0 0, .bool false], .bool false]) (ZI Tryz.results50 _ _ _ _ rfl (Jk (HpM.Bx.new w #[.int .i64 0, .int .i64 0, .slice none 0 0, .bool false] 107))) rfl ⟨none, 0, rfl, .inl rfl, Nat.le_refl _, (Below.refl _ _).alloc (Nat.le_refl _) _, fun a ha => by cases ha⟩
theorem zl2 {lo : Nat} {w : World} {r g : Nat} {A : Option Addr} {c : Nat} {ps : List P2} {L : List za} (H : RT lo w r g A c ps L) (U : Ups ps L) (d : T) (hdl : d.length ≤ 10000) (hds : ∀ y ∈ (hav L (zl d).1).1.map ZJ, y.desc.length ≤ 140737488355328) :
 Calls Tryz.prog 50 #[.pointer (some ⟨r, 0, none⟩), .string ⟨d.toArray⟩] w (QJ w (Y3 ps L d)) := by
 cases h : (zl d).2 && XE (QC ps) (zl d).1
 · exact stand_no H d hdl h
 · have h2 := h
   rw [Bool.and_eq_true] at h2
   have e : Y3 ps L d = (JD L (zl d).1, true) := by unfold Y3 GD; rw [h]; rfl
   rw [e]
   exact zl1 H U d hdl hds h2.1 h2.2
end CeA
end Go.Proofs.YtmkdhdmkdcankaaGreatDoor
namespace Go.Proofs.YtmkdhdmkdcankaaGreatDoor
set_option maxRecDepth 100000
namespace CeG
open Go.RowKit Base BinM HpM HpA HpS HpB HpG HpP HpT HpZ HpR HpQ
section
variable {w w' : World} {r : Nat} {AL : Option Addr} {cL most : Nat} {ms : List ThM}
theorem rget_yes {p : List ThM} {m : ThM} {q : List ThM} (H : RfX w r AL cL most (p ++ m :: q)) (hn : (p ++ m :: q).length ≤ 4096) (hW : m.t.W.length ≤ 4096) (i : Int) :
 Calls Tryz.prog 47 #[.pointer (some ⟨r, 0, none⟩), .int .i64 m.at_, .int .i64 i] w fun e w' => e = .returned (.tuple #[.int .i64 (qD m.t.W i).1, .int .i64 (qD m.t.W i).2]) ∧ w = w' := by
 have HB := zH (U9 H hn)
 have c1 := H.box.cell 1
 obtain ⟨b, o, rfl, _, _, k2, _⟩ := H.cells rfl
 have hpl : (p.length : Int) < ((p ++ m :: q).length : Int) := by simp; omega
 have hpl2 : (p.length : Int) ≤ 4096 := by omega
 have hrow := H.each m (by simp)
 clear H
 generalize (p ++ m :: q).length = L at *
 generalize p.length = P at *
 generalize m.t.W = W at *
 by_cases h0 : i < 0
 · have hE := zH (show qD W i = (0, 3) by unfold qD; rw [if_neg (by omega)])
   clear hrow
   go_enter Tryz.func47, Tryz.ntmps47
   go_wp2_with (go_at_call 45; refine HB.out.mono ?_; rintro e w' ⟨rfl, rfl⟩)
   go_ret2
   exact ⟨by rw [hE.out]; rfl, rfl⟩
 · by_cases h1 : (W.length : Int) ≤ i
   · have hE := zH (show qD W i = (0, 3) by unfold qD; rw [if_neg (by omega)])
     clear hrow
     go_enter Tryz.func47, Tryz.ntmps47
     go_wp2_with (go_at_call 45; refine HB.out.mono ?_; rintro e w' ⟨rfl, rfl⟩)
     go_ret2
     exact ⟨by rw [hE.out]; rfl, rfl⟩
   · obtain ⟨k, rfl⟩ : ∃ k : Nat, i = (k : Int) := ⟨i.toNat, by omega⟩
     have hk : k < W.length := by omega
     have hE := zH (show qD W (k : Int) = (W[k], 0) by
      unfold qD
      rw [if_pos (by omega), Int.toNat_natCast, List.getD_eq_getElem?_getD, List.getElem?_eq_getElem hk]; rfl)
     obtain ⟨bw, hbw, _⟩ := qH hrow (by omega)
     rw [hbw] at k2 hrow
     have hc := Zq hrow (List.getElem?_eq_getElem hk)
     clear hrow
     generalize W[k] = x at *
     generalize W.length = wl at *
     go_enter Tryz.func47, Tryz.ntmps47
     go_wp2_with (go_at_call 45; refine HB.out.mono ?_; rintro e w' ⟨rfl, rfl⟩)
     go_ret2
     exact ⟨by rw [hE.out]; rfl, rfl⟩
end
end CeG
namespace CeB
open Go.RowKit Base BinM Stru DescM DescW DescX DescR DescS DescG DescP DescQ HierS HierT HierM HierC HierD HierN HierV HierR HierU Kls KlsP KlsQ OpenK TabC TabM TabK TabP TabE TabB TabG TabH TabT TabU TabV TabX TabW TabF TabN TabO TabY TabCs TabL TabR TabQ LnkA LnkC LnkS ClA ClZ ClI CeA
open HpM (zo zT)
open ClM (Zh zn zP Zp come zB Zl)
open HpA (Th raw adr Za)
open HpB (Fits)
open HpR (RfX ThM things)
structure Doc (w : World) (r u : Nat) (An : Option Addr) (ts : List Th) : Prop where
 rf : ∃ AL cL ms, RfX w r AL cL 400 ms ∧ things ms = ts
 fits : Fits 400 ts
 few : ts.length ≤ 40
 tab : ∃ f lo g A c, RT lo w u g A c (pairs (bs f)) (bs f)
 nam : Rds w An (tyn.map sv)
section
variable {w w' : World} {r u : Nat} {An : Option Addr} {ts : List Th}
theorem Doc.later (D : Doc w r u An ts) (hb : Below w.heap.size w w') : Doc w' r u An ts := by
 obtain ⟨⟨AL, cL, ms, h1, h2⟩, h3, h4, ⟨f, lo, g, A, c, h5⟩, h6⟩ := D
 exact ⟨⟨AL, cL, ms, h1.beside hb, h2⟩, h3, h4, ⟨f, lo, g, A, c, h5.ext hb⟩, h6.below hb⟩
theorem Yv (F : Fits 400 ts) {t : Th} (h : t ∈ ts) : t.W.length ≤ 400 := by
 have hl := F.len
 obtain ⟨p, q, rfl⟩ := List.append_of_mem h
 rw [HpA.Q8, List.length_append] at hl
 have : (raw (t :: q)).length = 1 + t.W.length + (raw q).length := by
  unfold raw
  simp [HpA.Zd]
 omega
theorem JE {ms0 : List ThM} (h : things ms0 = ts) {p : List Th} {t : Th} {q : List Th} (e : ts = p ++ t :: q) : ∃ p' m q', ms0 = p' ++ m :: q' ∧ things p' = p ∧ m.t = t ∧ p'.length = p.length := by
 subst e
 unfold things at h
 obtain ⟨p', l2, rfl, h1, h2⟩ := List.map_eq_append_iff.1 h
 obtain ⟨m, q', rfl, h3, h4⟩ := List.map_eq_cons_iff.1 h2
 exact ⟨p', m, q', rfl, h1, h3, by rw [← h1, List.length_map]⟩
theorem Ul {r : Nat} {AL : Option Addr} {cL : Nat} {p : List ThM} {m : ThM} {q : List ThM} (H : RfX w r AL cL 400 (p ++ m :: q)) : m.at_ = (((raw (things p)).length + 1 : Nat) : Int) := HpQ.zd2 H.ats
theorem X9 (D : Doc w r u An ts) {p : List Th} {t : Th} {q : List Th} (e : ts = p ++ t :: q) :
 Calls Tryz.prog 45 #[.pointer (some ⟨r, 0, none⟩), .int .i64 (((raw p).length + 1 : Nat) : Int)] w fun e w' => e = .returned (.int .i64 (p.length : Int)) ∧ w = w' := by
 obtain ⟨AL, cL, ms, H, h2⟩ := D.rf
 obtain ⟨p', m, q', rfl, h3, h4, h5⟩ := JE h2 e
 have hl : (p' ++ m :: q').length ≤ 4096 := by
  have := D.few
  rw [← h2] at this
  unfold things at this
  rw [List.length_map] at this
  omega
 have h := HpQ.U9 H hl
 rw [Ul H, h3, h5] at h
 exact h
theorem gU (D : Doc w r u An ts) {x : Int} (hx : x ∉ adr 0 ts) :
 Calls Tryz.prog 45 #[.pointer (some ⟨r, 0, none⟩), .int .i64 x] w fun e w' => e = .returned (.int .i64 (-1)) ∧ w = w' := by
 obtain ⟨AL, cL, ms, H, h2⟩ := D.rf
 have hl : ms.length ≤ 4096 := by
  have := D.few
  rw [← h2] at this
  unfold things at this
  rw [List.length_map] at this
  omega
 exact HpQ.QN H hl x (by rw [h2]; exact hx)
theorem V6 (D : Doc w r u An ts) (x : Int) : ∃ i : Int, (i < 0 ↔ x ∉ adr 0 ts) ∧ (0 ≤ i → i < 40) ∧
 Calls Tryz.prog 45 #[.pointer (some ⟨r, 0, none⟩), .int .i64 x] w fun e w' => e = .returned (.int .i64 i) ∧ w = w' := by
 by_cases hx : x ∈ adr 0 ts
 · obtain ⟨p, t, q, e, rfl⟩ := Za hx
   have h := X9 D e
   rw [Nat.zero_add] at hx ⊢
   refine ⟨(p.length : Int), ⟨fun h => by omega, fun h => absurd hx h⟩, fun _ => ?_, h⟩
   have := D.few
   rw [e, List.length_append, List.length_cons] at this
   omega
 · exact ⟨-1, ⟨fun _ => hx, fun _ => by omega⟩, fun h => by omega, gU D hx⟩
theorem gQ (D : Doc w r u An ts) {p : List Th} {t : Th} {q : List Th} (e : ts = p ++ t :: q) (i : Int) :
 Calls Tryz.prog 47 #[.pointer (some ⟨r, 0, none⟩), .int .i64 (((raw p).length + 1 : Nat) : Int), .int .i64 i] w fun e w' => e = .returned (.tuple #[.int .i64 (HpG.qD t.W i).1, .int .i64 (HpG.qD t.W i).2]) ∧ w = w' := by
 have hW : t.W.length ≤ 400 := Yv D.fits (by rw [e]; simp)
 obtain ⟨AL, cL, ms, H, h2⟩ := D.rf
 obtain ⟨p', m, q', rfl, h3, h4, h5⟩ := JE h2 e
 have hl : (p' ++ m :: q').length ≤ 4096 := by
  have := D.few
  rw [← h2] at this
  unfold things at this
  rw [List.length_map] at this
  omega
 have h := CeG.rget_yes H hl (by rw [h4]; omega) i
 rw [Ul H, h3, h4] at h
 exact h
end
theorem Vm (A : Option Addr) (l : List Int) (n c : Nat) (x : Int) (w : World) (hn : n = l.length) (hbig : n ≤ 100000) (hr : Rds w A (l.map (Value.int .i64))) :
 Calls Tryz.prog 46 #[.slice A n c, .int .i64 x] w fun e w' => e = .returned (.bool (decide (x ∈ l))) ∧ w = w' := by
 subst hn
 have HR := zH hr
 clear hr
 go_enter Tryz.func46, Tryz.ntmps46
 go_wp2_with fail
 go_loopw [5] (fun i wr => ∃ j : Nat, j ≤ l.length ∧ i = .int .i64 j ∧ w = wr ∧ x ∉ l.take j) (fun i _ => l.length - (intOf i).toNat)
 case atStart => exact ⟨0, Nat.zero_le _, rfl, rfl, by simp⟩
 case round =>
  obtain ⟨j, hj, rfl, rfl, hno⟩ := hrel
  have HNo := zH hno
  clear hno
  by_cases hlt : j < l.length
  · obtain ⟨b, o, rfl, _, q0⟩ := HpS.ZP HR.out hlt
    have hj1 : (j : Int) < (l.length : Int) := by omega
    have e : l.getD j 0 = l[j] := by rw [List.getD_eq_getElem?_getD, List.getElem?_eq_getElem hlt]; rfl
    rw [e] at q0
    have HHit : Hid (l[j] = x → decide (x ∈ l) = true) := zH (fun e => by subst e; exact decide_eq_true (List.getElem_mem hlt))
    have HNx : Hid (l[j] ≠ x → x ∉ l.take (j + 1)) := zH (fun e h => by
     rw [List.take_succ_eq_append_getElem hlt, List.mem_append, List.mem_singleton] at h
     rcases h with h | h
     · exact HNo.out h
     · exact e h.symm)
    clear e
    generalize l[j] = y at *
    by_cases hy : y = x
    · have hy1 : (y == x) = true := by simpa using hy
      have HZ := zH (HHit.out hy)
      clear hy HHit HNx
      go_wp2_with fail
      go_ret
      exact ⟨by rw [HZ.out]; rfl, rfl⟩
    · have hy1 : (y == x) = false := by simpa using hy
      have HZ := zH (HNx.out hy)
      clear HHit HNx
      go_wp2_with fail
      go_roundw
      case rel => exact ⟨j + 1, by omega, by go_num, trivial, HZ.out⟩
      case measure => simp [intOf]; omega
  · have hj1 : ¬ (j : Int) < (l.length : Int) := by omega
    have HZ : Hid (decide (x ∈ l) = false) := zH (decide_eq_false (by have := HNo.out; rwa [List.take_of_length_le (by omega)] at this))
    go_wp2_with fail
    go_ret
    exact ⟨by rw [HZ.out]; rfl, rfl⟩
end CeB
end Go.Proofs.YtmkdhdmkdcankaaGreatDoor
namespace Go.Proofs.YtmkdhdmkdcankaaGreatDoor
namespace CeC
open Go.RowKit Base BinM Stru DescM DescW DescX DescR DescS DescG DescP DescQ HierS HierT HierM HierC HierD HierN HierV HierR HierU Kls KlsP KlsQ OpenK TabC TabM TabK TabP TabE TabB TabG TabH TabT TabU TabV TabX TabW TabF TabN TabO TabY TabCs TabL TabR TabQ LnkA LnkC LnkS ClA ClZ ClI CeA CeB
open HpM (zo zT)
open ClM (Zh zn zP Zp come zB Zl)
open HpA (Th raw adr Za)
open HpB (Fits)
open HpR (RfX ThM things)
section
variable {w w' : World} {r u : Nat} {An : Option Addr} {ts : List Th}
theorem dcells (D : Doc w r u An ts) {p : List Th} {t : Th} {q : List Th} (e : ts = p ++ t :: q) : ∃ AL cL b o n mA mc, HpM.Bx w r #[.int .i64 400, .slice AL n cL] 63 ∧ AL = some ⟨b, o, none⟩ ∧ p.length < n ∧ n ≤ 40 ∧
 w.cell? ⟨b, o + p.length * 4, none⟩ = some (.int .i64 (((raw p).length + 1 : Nat) : Int)) ∧ w.cell? ⟨b, o + p.length * 4 + 1, none⟩ = some (.int .i64 (t.id : Int)) ∧ w.cell? ⟨b, o + p.length * 4 + 2, none⟩ = some (.slice mA t.W.length mc) ∧ w.cell? ⟨b, o + p.length * 4 + 3, none⟩ = some (.int .i64 t.s) := by
 obtain ⟨AL, cL, ms, H, h2⟩ := D.rf
 obtain ⟨p', m, q', rfl, h3, h4, h5⟩ := JE h2 e
 have hl : (p' ++ m :: q').length ≤ 40 := by
  have := D.few
  rw [← h2] at this
  unfold things at this
  rw [List.length_map] at this
  exact this
 obtain ⟨b, o, e1, k0, k1, k2, k3⟩ := H.cells rfl
 rw [h5] at k0 k1 k2 k3
 rw [Ul H, h3] at k0
 rw [h4] at k1 k2 k3
 exact ⟨AL, cL, b, o, _, _, _, H.box, e1, by rw [← h5]; simp, hl, k0, k1, k2, k3⟩
theorem dstand (D : Doc w r u An ts) (i : Nat) : Calls Tryz.prog 50 #[.pointer (some ⟨u, 0, none⟩), .string ⟨(LnkA.zG tyn (i : Int)).toArray⟩] w (LnkS.QJ w (shp i)) := by
 obtain ⟨f, lo, g, A, c, H⟩ := D.tab
 have hT : (ZA (pairs (bs f))).2 = 0 ∧ ∀ x ∈ bs f, qE x = 0 := ⟨by kernel_rfl, fun x hx => by simp only [bs, List.mem_cons, List.not_mem_nil, or_false] at hx; rcases hx with rfl | rfl <;> kernel_rfl⟩
 have h := zl2 H (ups_of hT.1 hT.2) (LnkA.zG tyn (i : Int)) (QD (by intro d hd; simp only [tyn, List.mem_cons, List.not_mem_nil, or_false] at hd; rcases hd with rfl | rfl | rfl | rfl | rfl | rfl <;> simp) _) (fun y hy => by
  obtain ⟨z, hz, rfl⟩ := List.mem_map.1 hy
  exact zj9 rfl _ z hz)
 have hs : Y3 (pairs (bs f)) (bs f) (LnkA.zG tyn (i : Int)) = shp i := by
  by_cases hi : i < 7
  · exact kX f i (by simp; omega)
  · have h7 := kX f 6 (by simp)
    rw [J7 6 (by omega)] at h7
    rw [J7 i (by omega), h7]
    unfold shp
    simp only [show ¬ (i = 0) by omega, show ¬ (i = 1) by omega, show ¬ (i = 2) by omega, show ¬ (i = 3) by omega, show ¬ (i = 4) by omega, if_false]
    rfl
 rw [hs] at h
 exact h
end
theorem shp_fact (i : Nat) : ((shp i).1.all = true → (shp i).1.k = 1) ∧ ((shp i).1.k ≠ 0 → (shp i).1.refs = []) := by
 unfold shp
 split
 · simp
 split
 · simp
 split
 · simp
 split
 · simp
 split
 · simp
 · simp [noSh]
set_option maxRecDepth 100000 in
set_option maxHeartbeats 8000000 in
theorem V4 {w : World} {r u : Nat} {An : Option Addr} {ts : List Th} (D : Doc w r u An ts) (cn : Nat) (x : Int) :
 Calls Tryz.prog 17 #[.pointer (some ⟨r, 0, none⟩), .pointer (some ⟨u, 0, none⟩), .slice An 6 cn, .int .i64 x] w (Xj w (Qq ts x)) := by
 by_cases hx : x ∈ adr 0 ts
 · obtain ⟨p, t, q, e, rfl⟩ := Za hx
   rw [Nat.zero_add] at hx ⊢
   have HF := zH (X9 D e)
   obtain ⟨AL, cL, b, o, nL, mA, mc, hbx, rfl, hpn, hn40, k0, k1, k2, k3⟩ := dcells D e
   have hE : Qq ts (((raw p).length + 1 : Nat) : Int) = qG (shp t.id) t.W.length := by
    unfold Qq
    rw [e, Zl, vD]
   rw [hE]
   have hW : t.W.length ≤ 400 := Yv D.fits (by rw [e]; simp)
   have c1 : w.cell? ⟨r, 1, none⟩ = some (.slice (some ⟨b, o, none⟩) nL cL) := hbx.cell 1
   have hal : Below w.heap.size w (w.alloc (.cells #[.int .i64 (((raw p).length + 1 : Nat) : Int), .int .i64 (t.id : Int), .slice mA t.W.length mc, .int .i64 t.s] 60)) := (Below.refl _ w).alloc (Nat.le_refl _) _
   have HSt := zH (dstand (D.later hal) t.id)
   have HX := zH (HpM.Bx.new w #[.int .i64 (((raw p).length + 1 : Nat) : Int), .int .i64 (t.id : Int), .slice mA t.W.length mc, .int .i64 t.s] 60)
   have HA := zH hal
   have hp1 : (p.length : Int) < (nL : Int) := by omega
   have hp0 : ¬ (p.length : Int) < 0 := by omega
   have hfc := shp_fact t.id
   have hnm := (D.later hal).nam
   have HT := zH (show (t.id < 6 → ∃ bn on, An = some ⟨bn, on, none⟩ ∧ (w.alloc (.cells #[.int .i64 (((raw p).length + 1 : Nat) : Int), .int .i64 (t.id : Int), .slice mA t.W.length mc, .int .i64 t.s] 60)).cell? ⟨bn, on + t.id, none⟩ = some (.string ⟨(LnkA.zG tyn (t.id : Int)).toArray⟩)) ∧ (¬ t.id < 6 → LnkA.zG tyn (t.id : Int) = []) from ⟨fun h => by
    obtain ⟨bn, on, e1, _, h2⟩ := hnm.at_ (k := t.id) (by simpa [tyn] using h)
    refine ⟨bn, on, e1, ?_⟩
    rw [h2, List.getElem_map]
    unfold LnkA.zG sv
    rw [if_pos (by simp [tyn]; omega), Int.toNat_natCast, List.getD_eq_getElem?_getD, List.getElem?_eq_getElem (by simpa [tyn] using h)]
    rfl, fun h => J7 _ (by omega)⟩)
   clear D hal hE hx hbx hnm e
   generalize LnkA.zG tyn (t.id : Int) = d at *
   generalize ((raw p).length + 1 : Nat) = at_ at *
   obtain ⟨tid, tW, tS⟩ := t
   simp only at k1 k2 k3 HSt HX HA hfc HT hW ⊢
   generalize tW.length = n at *
   generalize shp tid = R at *
   obtain ⟨⟨sk, ss, sr, sa⟩, so⟩ := R
   simp only at hfc
   unfold LnkS.QJ at HSt
   simp only at HSt
   obtain ⟨hf1, hf2⟩ := hfc
   have hE1 := zH (show so = false → qG (⟨sk, ss, sr, sa⟩, so) n = (5, []) from fun h => by subst h; rfl)
   have hE2 := zH (show so = true → sk = 0 → ss ≠ (n : Int) → qG (⟨sk, ss, sr, sa⟩, so) n = (5, []) from fun h h1 h2 => by subst h; unfold qG; rw [if_neg (by simp), if_pos ⟨h1, h2⟩])
   have hE3 := zH (show so = true → (sk = 0 → ss = (n : Int)) → sa = false → qG (⟨sk, ss, sr, sa⟩, so) n = (0, sr) from fun h h1 h2 => by subst h; subst h2; unfold qG; rw [if_neg (by simp), if_neg (fun k => k.2 (h1 k.1)), if_neg (by simp)])
   have hE4 := zH (show so = true → sk = 1 → sa = true → qG (⟨sk, ss, sr, sa⟩, so) n = (0, (List.range' 1 (n - 1)).map (fun (k : Nat) => (k : Int))) from fun h h1 h2 => by subst h; subst h2; unfold qG; rw [if_neg (by simp), if_neg (fun k => by have := k.1; simp only at this; omega), if_pos rfl])
   have HN : Hid (tid < 6 ∨ ¬ tid < 6) := zH (Nat.lt_or_ge tid 6 |>.imp id (fun h => by omega))
   rcases HN.out with h6 | h6
   · obtain ⟨bn, on, rfl, n0⟩ := HT.out.1 h6
     have hid1 : (tid : Int) < 6 := by omega
     clear HT
     go_enter Tryz.func17, Tryz.ntmps17
     go_wp2_with (go_at_call 45; refine HF.out.mono ?_; rintro e w' ⟨rfl, rfl⟩)
     refine HSt.out.mono ?_
     rintro e w2 ⟨A2, c2, rfl, hr2, hc2, hb2, ha2⟩
     have B2 := zH (HA.out.trans (hb2.mono HA.out.size))
     have hx2 := HX.out.after hb2
     have q2 : w2.cell? ⟨w.heap.size, 2, none⟩ = some (.slice mA n mc) := hx2.cell 2
     have ql := hx2.lt
     have R2 := zH hr2
     have A2l := zH ha2
     have X3 := zH (HpM.Bx.new w2 #[.int .i64 sk, .int .i64 ss, .slice A2 sr.length c2, .bool sa] 107)
     have B3 := zH ((Below.refl w2.heap.size w2).alloc (Nat.le_refl _) (.cells #[.int .i64 sk, .int .i64 ss, .slice A2 sr.length c2, .bool sa] 107))
     have X1 := zH (hx2.after B3.out)
     clear hb2 hr2 ha2 hx2
     have hszx : (w.alloc (.cells #[.int .i64 (at_ : Int), .int .i64 (tid : Int), .slice mA n mc, .int .i64 tS] 60)).heap.size = w.heap.size + 1 := by simp
     rw [hszx] at A2l
     cases so
     · have hE := zH (hE1.out rfl)
       go_wp2_with fail
       go_ret2
       exact ⟨none, 0, by rw [hE.out]; rfl, by rw [hE.out]; exact .inl rfl, by rw [hE.out]; exact Nat.le_refl _, (B2.out.trans (B3.out.mono B2.out.size)), fun a ha => by cases ha⟩
     · by_cases hk0 : sk = 0
       · by_cases hs0 : ss = (n : Int)
         · have hsa : sa = false := by
            cases sa
            · rfl
            · exact absurd (hf1 rfl) (by omega)
           subst hsa
           have hE := zH (hE3.out rfl (fun _ => hs0) rfl)
           have hk0' : (sk == 0) = true := by simpa using hk0
           have hs0' : (ss != (n : Int)) = false := by simpa using hs0
           clear hk0 hs0 hE1 hE2 hE3 hE4
           go_wp2_with fail
           go_ret2
           exact ⟨A2, c2, by rw [hE.out]; rfl, by rw [hE.out]; exact R2.out.below B3.out, by rw [hE.out]; exact hc2, (B2.out.trans (B3.out.mono B2.out.size)), fun a ha => by have := A2l.out a ha; omega⟩
         · have hE := zH (hE2.out rfl hk0 hs0)
           have hk0' : (sk == 0) = true := by simpa using hk0
           have hs0' : (ss != (n : Int)) = true := by simpa using hs0
           clear hk0 hs0 hE1 hE2 hE3 hE4
           go_wp2_with fail
           go_ret2
           exact ⟨none, 0, by rw [hE.out]; rfl, by rw [hE.out]; exact .inl rfl, by rw [hE.out]; exact Nat.le_refl _, (B2.out.trans (B3.out.mono B2.out.size)), fun a ha => by cases ha⟩
       · have hk0' : (sk == 0) = false := by simpa using hk0
         cases sa
         · have hE := zH (hE3.out rfl (fun h => absurd h hk0) rfl)
           have hsr := hf2 hk0
           have HSr := zH hsr
           have x0 : (w2.alloc (.cells #[.int .i64 sk, .int .i64 ss, .slice A2 sr.length c2, .bool false] 107)).cell? ⟨w2.heap.size, 0, none⟩ = some (.int .i64 sk) := X3.out.cell 0
           have x3 : (w2.alloc (.cells #[.int .i64 sk, .int .i64 ss, .slice A2 sr.length c2, .bool false] 107)).cell? ⟨w2.heap.size, 3, none⟩ = some (.bool false) := X3.out.cell 3
           have x2 : (w2.alloc (.cells #[.int .i64 sk, .int .i64 ss, .slice A2 sr.length c2, .bool false] 107)).cell? ⟨w.heap.size, 2, none⟩ = some (.slice mA n mc) := X1.out.cell 2
           have X0 := zH x0
           have X33 := zH x3
           have X22 := zH x2
           have hk01 : ∀ b : Bool, (sk == 1) = b → True := fun _ _ => trivial
           clear hk0 hE1 hE2 hE3 hE4 x0 x3 x2 hsr hf1 hf2
           generalize hk1 : (sk == 1) = b1 at *
           go_wp2_with fail
           go_loopw [15, 16] (fun s i wr => s = .slice none 0 0 ∧ i = .int .i64 1 ∧ w2.alloc (.cells #[.int .i64 sk, .int .i64 ss, .slice A2 sr.length c2, .bool false] 107) = wr) (fun _ _ _ => 0)
           case atStart => exact ⟨rfl, rfl, rfl⟩
           case round =>
            obtain ⟨rfl, rfl, hwr⟩ := hrel
            have y0 := X0.out
            have y3 := X33.out
            have y2 := X22.out
            have B3w := B3.out
            rw [hwr] at y0 y3 y2 B3w
            have HB3w := zH B3w
            clear X0 X33 X22 hwr X3 X1 B3 B3w
            by_cases hn1 : (1 : Int) < (n : Int)
            · cases b1
              · go_wp2_with fail
                go_ret2
                exact ⟨none, 0, by rw [hE.out, HSr.out]; rfl, by rw [hE.out, HSr.out]; exact .inl rfl, by rw [hE.out, HSr.out]; exact Nat.le_refl _, (B2.out.trans (HB3w.out.mono B2.out.size)), fun a ha => by cases ha⟩
              · go_wp2_with fail
                go_ret2
                exact ⟨none, 0, by rw [hE.out, HSr.out]; rfl, by rw [hE.out, HSr.out]; exact .inl rfl, by rw [hE.out, HSr.out]; exact Nat.le_refl _, (B2.out.trans (HB3w.out.mono B2.out.size)), fun a ha => by cases ha⟩
            · go_wp2_with fail
              go_ret2
              exact ⟨none, 0, by rw [hE.out, HSr.out]; rfl, by rw [hE.out, HSr.out]; exact .inl rfl, by rw [hE.out, HSr.out]; exact Nat.le_refl _, (B2.out.trans (HB3w.out.mono B2.out.size)), fun a ha => by cases ha⟩
         · have hk1 := hf1 rfl
           have hE := zH (hE4.out rfl hk1 rfl)
           have hk1' : (sk == 1) = true := by simpa using hk1
           clear hk0 hE1 hE2 hE3 hE4 hf1 hf2 hk1
           go_wp2_with fail
           generalize w2.alloc (.cells #[.int .i64 sk, .int .i64 ss, .slice A2 sr.length c2, .bool true] 107) = w3 at *
           have hB23 := B2.out.trans (B3.out.mono B2.out.size)
           have HB23 := zH hB23
           have hsz3 := B3.out.size
           have hx3l := X3.out.lt
           have hx1l := X1.out.lt
           go_loopw [15, 16] (fun s i wr => ∃ (j : Nat) (v : Value), 1 ≤ j ∧ (j ≤ n ∨ j = 1) ∧ i = .int .i64 (j : Int) ∧ s = v ∧ Jz wr w3.heap.size v ((List.range' 1 (j - 1)).map (fun (k : Nat) => (k : Int))) ∧ Below w3.heap.size w3 wr) (fun _ i _ => n - (intOf i).toNat)
           case atStart => exact ⟨1, _, Nat.le_refl _, .inr rfl, rfl, rfl, Jz.nil _ _, Below.refl _ _⟩
           case round =>
            obtain ⟨j, v, hj1, hjn, rfl, rfl, hown, hbel⟩ := hrel
            obtain ⟨A5, c5, rfl, hc3, hc4, _, hat⟩ := hown.slice
            have HAt := zH hat
            have HO := zH hown
            have HBe := zH hbel
            have hszr := hbel.size
            have y0 : wr.cell? ⟨w2.heap.size, 0, none⟩ = some (.int .i64 sk) := (X3.out.after hbel).cell 0
            have y3 : wr.cell? ⟨w2.heap.size, 3, none⟩ = some (.bool true) := (X3.out.after hbel).cell 3
            have y2 : wr.cell? ⟨w.heap.size, 2, none⟩ = some (.slice mA n mc) := (X1.out.after hbel).cell 2
            clear hat hown hbel
            by_cases hlt : j < n
            · have hjj : (j : Int) < (n : Int) := by omega
              have hjm : j < 1000 := by omega
              have HE : Hid ((List.range' 1 (j + 1 - 1)).map (fun (k : Nat) => (k : Int)) = (List.range' 1 (j - 1)).map (fun (k : Nat) => (k : Int)) ++ [(j : Int)]) := zH (by
               have : j + 1 - 1 = (j - 1) + 1 := by omega
               rw [this, List.range'_concat, List.map_append]
               have h2 : 1 + 1 * (j - 1) = j := by omega
               rw [h2]
               rfl)
              have hlen : ((List.range' 1 (j - 1)).map (fun (k : Nat) => (k : Int))).length = j - 1 := by simp
              have HO2 := zH (World.ownsRow.alloc HO.out (.cells #[.int .i64 (j : Int)] 3))
              have HRd := zH (LnkA.ZG (HpM.Bx.new wr #[.int .i64 (j : Int)] 3))
              have HS2 : Hid (w3.heap.size ≤ (wr.alloc (.cells #[.int .i64 (j : Int)] 3)).heap.size) := zH (by simp; omega)
              have HBe2 := zH (HBe.out.alloc hszr (.cells #[.int .i64 (j : Int)] 3))
              generalize (List.range' 1 (j - 1)).map (fun (k : Nat) => (k : Int)) = L0 at *
              have hl0 : L0.length < 1000 := by omega
              go_wp2_with (first
               | (at_builtin; refine appJ rfl (.tmp 81) (.tmp 83) rfl w3.heap.size _ L0 rfl HO2.out (some ⟨wr.heap.size, 0, none⟩) 1 1 [(j : Int)] rfl rfl HRd.out (by simp; omega) HS2.out ?_; intro v2 w5 hown2 hg2; have HO3 := zH hown2; have HB3 := zH (zC HBe2.out HO2.out (Nat.le_refl _) HS2.out hg2); clear hown2 hg2))
              go_roundw
              case rel => exact ⟨j + 1, _, by omega, .inl (by omega), by go_num, rfl, by rw [HE.out]; exact HO3.out, HB3.out⟩
              case measure => simp [intOf]; omega
            · have hjj : ¬ (j : Int) < (n : Int) := by omega
              have HJ : Hid (n - 1 = j - 1) := zH (by omega)
              go_wp2_with fail
              go_ret2
              refine ⟨A5, c5, by rw [hE.out, HJ.out]; simp only [List.length_map, List.length_range']; rfl, by rw [hE.out, HJ.out]; exact Rds.own HO.out, by rw [hE.out, HJ.out]; exact hc3, HB23.out.trans (HBe.out.mono HB23.out.size), fun a ha => ?_⟩
              have := (HAt.out a ha).1
              have := HB23.out.size
              omega
   · have hd := HT.out.2 h6
     subst hd
     have hid1 : ¬ (tid : Int) < 6 := by omega
     clear HT
     go_enter Tryz.func17, Tryz.ntmps17
     go_wp2_with (go_at_call 45; refine HF.out.mono ?_; rintro e w' ⟨rfl, rfl⟩)
     refine HSt.out.mono ?_
     rintro e w2 ⟨A2, c2, rfl, hr2, hc2, hb2, ha2⟩
     have B2 := zH (HA.out.trans (hb2.mono HA.out.size))
     have hx2 := HX.out.after hb2
     have q2 : w2.cell? ⟨w.heap.size, 2, none⟩ = some (.slice mA n mc) := hx2.cell 2
     have ql := hx2.lt
     have R2 := zH hr2
     have A2l := zH ha2
     have X3 := zH (HpM.Bx.new w2 #[.int .i64 sk, .int .i64 ss, .slice A2 sr.length c2, .bool sa] 107)
     have B3 := zH ((Below.refl w2.heap.size w2).alloc (Nat.le_refl _) (.cells #[.int .i64 sk, .int .i64 ss, .slice A2 sr.length c2, .bool sa] 107))
     have X1 := zH (hx2.after B3.out)
     clear hb2 hr2 ha2 hx2
     have hszx : (w.alloc (.cells #[.int .i64 (at_ : Int), .int .i64 (tid : Int), .slice mA n mc, .int .i64 tS] 60)).heap.size = w.heap.size + 1 := by simp
     rw [hszx] at A2l
     cases so
     · have hE := zH (hE1.out rfl)
       go_wp2_with fail
       go_ret2
       exact ⟨none, 0, by rw [hE.out]; rfl, by rw [hE.out]; exact .inl rfl, by rw [hE.out]; exact Nat.le_refl _, (B2.out.trans (B3.out.mono B2.out.size)), fun a ha => by cases ha⟩
     · by_cases hk0 : sk = 0
       · by_cases hs0 : ss = (n : Int)
         · have hsa : sa = false := by
            cases sa
            · rfl
            · exact absurd (hf1 rfl) (by omega)
           subst hsa
           have hE := zH (hE3.out rfl (fun _ => hs0) rfl)
           have hk0' : (sk == 0) = true := by simpa using hk0
           have hs0' : (ss != (n : Int)) = false := by simpa using hs0
           clear hk0 hs0 hE1 hE2 hE3 hE4
           go_wp2_with fail
           go_ret2
           exact ⟨A2, c2, by rw [hE.out]; rfl, by rw [hE.out]; exact R2.out.below B3.out, by rw [hE.out]; exact hc2, (B2.out.trans (B3.out.mono B2.out.size)), fun a ha => by have := A2l.out a ha; omega⟩
         · have hE := zH (hE2.out rfl hk0 hs0)
           have hk0' : (sk == 0) = true := by simpa using hk0
           have hs0' : (ss != (n : Int)) = true := by simpa using hs0
           clear hk0 hs0 hE1 hE2 hE3 hE4
           go_wp2_with fail
           go_ret2
           exact ⟨none, 0, by rw [hE.out]; rfl, by rw [hE.out]; exact .inl rfl, by rw [hE.out]; exact Nat.le_refl _, (B2.out.trans (B3.out.mono B2.out.size)), fun a ha => by cases ha⟩
       · have hk0' : (sk == 0) = false := by simpa using hk0
         cases sa
         · have hE := zH (hE3.out rfl (fun h => absurd h hk0) rfl)
           have hsr := hf2 hk0
           have HSr := zH hsr
           have x0 : (w2.alloc (.cells #[.int .i64 sk, .int .i64 ss, .slice A2 sr.length c2, .bool false] 107)).cell? ⟨w2.heap.size, 0, none⟩ = some (.int .i64 sk) := X3.out.cell 0
           have x3 : (w2.alloc (.cells #[.int .i64 sk, .int .i64 ss, .slice A2 sr.length c2, .bool false] 107)).cell? ⟨w2.heap.size, 3, none⟩ = some (.bool false) := X3.out.cell 3
           have x2 : (w2.alloc (.cells #[.int .i64 sk, .int .i64 ss, .slice A2 sr.length c2, .bool false] 107)).cell? ⟨w.heap.size, 2, none⟩ = some (.slice mA n mc) := X1.out.cell 2
           have X0 := zH x0
           have X33 := zH x3
           have X22 := zH x2
           have hk01 : ∀ b : Bool, (sk == 1) = b → True := fun _ _ => trivial
           clear hk0 hE1 hE2 hE3 hE4 x0 x3 x2 hsr hf1 hf2
           generalize hk1 : (sk == 1) = b1 at *
           go_wp2_with fail
           go_loopw [15, 16] (fun s i wr => s = .slice none 0 0 ∧ i = .int .i64 1 ∧ w2.alloc (.cells #[.int .i64 sk, .int .i64 ss, .slice A2 sr.length c2, .bool false] 107) = wr) (fun _ _ _ => 0)
           case atStart => exact ⟨rfl, rfl, rfl⟩
           case round =>
            obtain ⟨rfl, rfl, hwr⟩ := hrel
            have y0 := X0.out
            have y3 := X33.out
            have y2 := X22.out
            have B3w := B3.out
            rw [hwr] at y0 y3 y2 B3w
            have HB3w := zH B3w
            clear X0 X33 X22 hwr X3 X1 B3 B3w
            by_cases hn1 : (1 : Int) < (n : Int)
            · cases b1
              · go_wp2_with fail
                go_ret2
                exact ⟨none, 0, by rw [hE.out, HSr.out]; rfl, by rw [hE.out, HSr.out]; exact .inl rfl, by rw [hE.out, HSr.out]; exact Nat.le_refl _, (B2.out.trans (HB3w.out.mono B2.out.size)), fun a ha => by cases ha⟩
              · go_wp2_with fail
                go_ret2
                exact ⟨none, 0, by rw [hE.out, HSr.out]; rfl, by rw [hE.out, HSr.out]; exact .inl rfl, by rw [hE.out, HSr.out]; exact Nat.le_refl _, (B2.out.trans (HB3w.out.mono B2.out.size)), fun a ha => by cases ha⟩
            · go_wp2_with fail
              go_ret2
              exact ⟨none, 0, by rw [hE.out, HSr.out]; rfl, by rw [hE.out, HSr.out]; exact .inl rfl, by rw [hE.out, HSr.out]; exact Nat.le_refl _, (B2.out.trans (HB3w.out.mono B2.out.size)), fun a ha => by cases ha⟩
         · have hk1 := hf1 rfl
           have hE := zH (hE4.out rfl hk1 rfl)
           have hk1' : (sk == 1) = true := by simpa using hk1
           clear hk0 hE1 hE2 hE3 hE4 hf1 hf2 hk1
           go_wp2_with fail
           generalize w2.alloc (.cells #[.int .i64 sk, .int .i64 ss, .slice A2 sr.length c2, .bool true] 107) = w3 at *
           have hB23 := B2.out.trans (B3.out.mono B2.out.size)
           have HB23 := zH hB23
           have hsz3 := B3.out.size
           have hx3l := X3.out.lt
           have hx1l := X1.out.lt
           go_loopw [15, 16] (fun s i wr => ∃ (j : Nat) (v : Value), 1 ≤ j ∧ (j ≤ n ∨ j = 1) ∧ i = .int .i64 (j : Int) ∧ s = v ∧ Jz wr w3.heap.size v ((List.range' 1 (j - 1)).map (fun (k : Nat) => (k : Int))) ∧ Below w3.heap.size w3 wr) (fun _ i _ => n - (intOf i).toNat)
           case atStart => exact ⟨1, _, Nat.le_refl _, .inr rfl, rfl, rfl, Jz.nil _ _, Below.refl _ _⟩
           case round =>
            obtain ⟨j, v, hj1, hjn, rfl, rfl, hown, hbel⟩ := hrel
            obtain ⟨A5, c5, rfl, hc3, hc4, _, hat⟩ := hown.slice
            have HAt := zH hat
            have HO := zH hown
            have HBe := zH hbel
            have hszr := hbel.size
            have y0 : wr.cell? ⟨w2.heap.size, 0, none⟩ = some (.int .i64 sk) := (X3.out.after hbel).cell 0
            have y3 : wr.cell? ⟨w2.heap.size, 3, none⟩ = some (.bool true) := (X3.out.after hbel).cell 3
            have y2 : wr.cell? ⟨w.heap.size, 2, none⟩ = some (.slice mA n mc) := (X1.out.after hbel).cell 2
            clear hat hown hbel
            by_cases hlt : j < n
            · have hjj : (j : Int) < (n : Int) := by omega
              have hjm : j < 1000 := by omega
              have HE : Hid ((List.range' 1 (j + 1 - 1)).map (fun (k : Nat) => (k : Int)) = (List.range' 1 (j - 1)).map (fun (k : Nat) => (k : Int)) ++ [(j : Int)]) := zH (by
               have : j + 1 - 1 = (j - 1) + 1 := by omega
               rw [this, List.range'_concat, List.map_append]
               have h2 : 1 + 1 * (j - 1) = j := by omega
               rw [h2]
               rfl)
              have hlen : ((List.range' 1 (j - 1)).map (fun (k : Nat) => (k : Int))).length = j - 1 := by simp
              have HO2 := zH (World.ownsRow.alloc HO.out (.cells #[.int .i64 (j : Int)] 3))
              have HRd := zH (LnkA.ZG (HpM.Bx.new wr #[.int .i64 (j : Int)] 3))
              have HS2 : Hid (w3.heap.size ≤ (wr.alloc (.cells #[.int .i64 (j : Int)] 3)).heap.size) := zH (by simp; omega)
              have HBe2 := zH (HBe.out.alloc hszr (.cells #[.int .i64 (j : Int)] 3))
              generalize (List.range' 1 (j - 1)).map (fun (k : Nat) => (k : Int)) = L0 at *
              have hl0 : L0.length < 1000 := by omega
              go_wp2_with (first
               | (at_builtin; refine appJ rfl (.tmp 81) (.tmp 83) rfl w3.heap.size _ L0 rfl HO2.out (some ⟨wr.heap.size, 0, none⟩) 1 1 [(j : Int)] rfl rfl HRd.out (by simp; omega) HS2.out ?_; intro v2 w5 hown2 hg2; have HO3 := zH hown2; have HB3 := zH (zC HBe2.out HO2.out (Nat.le_refl _) HS2.out hg2); clear hown2 hg2))
              go_roundw
              case rel => exact ⟨j + 1, _, by omega, .inl (by omega), by go_num, rfl, by rw [HE.out]; exact HO3.out, HB3.out⟩
              case measure => simp [intOf]; omega
            · have hjj : ¬ (j : Int) < (n : Int) := by omega
              have HJ : Hid (n - 1 = j - 1) := zH (by omega)
              go_wp2_with fail
              go_ret2
              refine ⟨A5, c5, by rw [hE.out, HJ.out]; simp only [List.length_map, List.length_range']; rfl, by rw [hE.out, HJ.out]; exact Rds.own HO.out, by rw [hE.out, HJ.out]; exact hc3, HB23.out.trans (HBe.out.mono HB23.out.size), fun a ha => ?_⟩
              have := (HAt.out a ha).1
              have := HB23.out.size
              omega
 · have HF := zH (gU D hx)
   have HE := zH (show Qq ts x = (3, []) by unfold Qq; rw [xC hx])
   clear D hx
   go_enter Tryz.func17, Tryz.ntmps17
   go_wp2_with (go_at_call 45; refine HF.out.mono ?_; rintro e w' ⟨rfl, rfl⟩)
   go_ret2
   exact ⟨none, 0, by rw [HE.out]; rfl, by rw [HE.out]; exact .inl rfl, by rw [HE.out]; exact Nat.le_refl _, Below.refl _ _, fun a ha => by cases ha⟩
end CeC
end Go.Proofs.YtmkdhdmkdcankaaGreatDoor
namespace Go.Proofs.YtmkdhdmkdcankaaGreatDoor
namespace CeR
open Go.RowKit Base BinM LnkA LnkC LnkS ClA ClC CeB CeC
open HpM (zo zT Qv)
open ClM (Zh zn zP Zp come zB Zl qb qN Qj QX)
open HpA (Th raw adr Za)
structure Ro (w wr : World) (A : Option Addr) (n c : Nat) (o : List Int) : Prop where
 len : n = o.length
 bel : Below w.heap.size w wr
 own : wr.ownsRow w.heap.size 2 1 (.slice A n c) n (o.map (Value.int .i64))
theorem Ro.start (w : World) : Ro w w none 0 0 [] := ⟨rfl, Below.refl _ _, World.ownsRow_nil _ _ _ _⟩
section
variable {w wr w5 : World} {A A2 : Option Addr} {n c b5 c5 : Nat} {o P : List Int}
theorem Ro.later (h : Ro w wr A n c o) (hb : Below wr.heap.size wr w5) : Ro w w5 A n c o :=
 ⟨h.len, h.bel.trans (hb.mono h.bel.size), TabM.ze h.own (fun k hk => hb.block k (h.own.lt k hk).2)⟩
theorem Ro.alloc (h : Ro w wr A n c o) (O : Obj) : (wr.alloc O).ownsRow w.heap.size 2 1 (.slice A n c) n (o.map (Value.int .i64)) := World.ownsRow.alloc h.own O
theorem Ro.push (h : Ro w wr A n c o) (x : Int) (hg : (wr.alloc (.cells #[.int .i64 x] 2)).grownBy w5 (Value.slice A n c).ownBlock)
 (h5 : w5.ownsRow w.heap.size 2 1 (.slice (some ⟨b5, 0, none⟩) (n + 1) c5) (n + 1) (o.map (Value.int .i64) ++ [.int .i64 x])) : Ro w w5 (some ⟨b5, 0, none⟩) (n + 1) c5 (o ++ [x]) := by
 refine ⟨by rw [h.len, List.length_append]; rfl, (h.bel.alloc h.bel.size _).grown hg (by have := h.bel.size; simp; omega) (fun k hk => (h.own.lt k hk).1), ?_⟩
 rw [List.map_append]
 exact h5
theorem qU {w w' : World} {A : Option Addr} {xs : List Value} (h : Rds w A xs) (hs : w.heap.size ≤ w'.heap.size) (hb : ∀ a, A = some a → w'.heap[a.block]? = w.heap[a.block]?) : Rds w' A xs := by
 rcases h with rfl | ⟨b, o, rfl, hlt, hc⟩
 · exact .inl rfl
 · refine .inr ⟨b, o, rfl, by omega, fun j u hu => ?_⟩
   rw [← hc j u hu]
   simp only [World.cell?, hb _ rfl]
theorem push_far (_ : Ro w wr A n c o) (R : Rds wr A2 (P.map (Value.int .i64))) (far : P ≠ [] → ∀ a, A2 = some a → (Value.slice A n c).ownBlock ≠ some a.block) (x : Int) (hg : (wr.alloc (.cells #[.int .i64 x] 2)).grownBy w5 (Value.slice A n c).ownBlock)
 (hat : (Value.slice A n c).ownBlock = some b5 ∨ b5 = (wr.alloc (.cells #[.int .i64 x] 2)).heap.size) : Rds w5 A2 (P.map (Value.int .i64)) ∧ (P ≠ [] → ∀ a, A2 = some a → (Value.slice (some ⟨b5, 0, none⟩) (n + 1) c5).ownBlock ≠ some a.block) := by
 by_cases hP : P = []
 · subst hP
   exact ⟨.inl rfl, fun h => absurd rfl h⟩
 · have hlt : ∀ a, A2 = some a → a.block < wr.heap.size := fun a ha => qL R (by simpa using hP) ha
   have R1 := R.below ((Below.refl _ wr).alloc (Nat.le_refl _) (.cells #[.int .i64 x] 2))
   refine ⟨qU R1 hg.size (fun a ha => hg.block a.block (by have := hlt a ha; simp; omega) (fun e => far hP a ha e.symm)), fun _ a ha e => ?_⟩
   have h1 := hlt a ha
   have e2 : b5 = a.block := by injection e
   rcases hat with h2 | h2
   · exact far hP a ha (by rw [h2, e2])
   · rw [World.size_alloc] at h2
     omega
end
theorem QG {A o : List Int} (x : Int) : come A o [x] = if x = 0 ∨ x ∈ o then some o else if x ∈ A then some (o ++ [x]) else none := by
 rw [come]
 rfl
theorem Vd {A : List Int} {xs : List Int} {j : Nat} (hj : j < xs.length) {o0 o : List Int} (h : come A o0 (xs.take j) = some o) : come A o0 (xs.take (j + 1)) = come A o [xs[j]] := by
 rw [List.take_succ_eq_append_getElem hj, qb, h]
 rfl
theorem yO {A : List Int} {xs : List Int} {j : Nat} {o0 : List Int} (h : come A o0 (xs.take j) = none) : come A o0 xs = none := by
 have e : xs = xs.take j ++ xs.drop j := (List.take_append_drop j xs).symm
 rw [e, qb, h]
 rfl
set_option maxRecDepth 100000 in
set_option maxHeartbeats 16000000 in
theorem Ud {w : World} {r u : Nat} {An : Option Addr} {ts : List Th} (D : Doc w r u An ts) (cn : Nat) {Ar : Option Addr} {cr : Nat} {roots : List Int} (R : Rds w Ar (roots.map (Value.int .i64))) (hrl : roots.length ≤ 100000) :
 Calls Tryz.prog 11 #[.pointer (some ⟨r, 0, none⟩), .pointer (some ⟨u, 0, none⟩), .slice An 6 cn, .slice Ar roots.length cr] w (Yr w (zn ts roots)) := by
 obtain ⟨i0, hi, hz, hz1, hz2⟩ := info_parts Qv
 have I0 := zH hi
 have I1 := zH hz
 have I2 := zH hz1
 have I3 := zH hz2
 have HD := zH (fun wr (hb : Below w.heap.size w wr) => D.later hb)
 have HR := zH R
 have HFew := zH D.few
 have HFit := zH D.fits
 have HAl := zH (ClM.qd ts 0)
 have HQ := zH (show zn ts roots = match come (adr 0 ts) [] roots with | none => (3, []) | some o => zP ts (ts.length + 1) 0 o from rfl)
 clear hi hz hz1 hz2 D R
 go_enter Tryz.func11, Tryz.ntmps11
 go_wp2_with fail
 go_loopw [10, 11] (fun s i wr => ∃ (j n : Nat) (A : Option Addr) (c : Nat) (o : List Int), j ≤ roots.length ∧ i = .int .i64 (j : Int) ∧ s = .slice A n c ∧ Ro w wr A n c o ∧ come (adr 0 ts) [] (roots.take j) = some o ∧ ClM.Good (adr 0 ts) o) (fun _ i _ => roots.length - (intOf i).toNat)
 case atStart => exact ⟨0, 0, none, 0, [], Nat.zero_le _, rfl, rfl, Ro.start w, rfl, ClM.Good.nil _⟩
 case round =>
  obtain ⟨j, n, A, c, o, hj, rfl, rfl, hro, hcm, hgo⟩ := hrel
  have HRo := zH hro
  have HCm := zH hcm
  have HGo := zH hgo
  have hnl := hro.len
  have hol := hgo.len
  rw [HAl.out] at hol
  have hfew := HFew.out
  have hn40 : n ≤ 40 := by omega
  have hszr := hro.bel.size
  have HDr := zH (HD.out wr hro.bel)
  have HLen := zH hnl
  clear hcm hgo hnl hol
  by_cases hlt : j < roots.length
  · obtain ⟨rb, ro, rfl, hrb, q0⟩ := HpS.ZP (HR.out.below hro.bel) hlt
    have hj1 : (j : Int) < (roots.length : Int) := by omega
    have e : roots.getD j 0 = roots[j] := by rw [List.getD_eq_getElem?_getD, List.getElem?_eq_getElem hlt]; rfl
    rw [e] at q0
    have HT := zH (Vd hlt HCm.out)
    have HN := zH (fun h => yO (xs := roots) (j := j + 1) (A := adr 0 ts) (o0 := []) h)
    clear e hro
    generalize roots[j] = x at *
    obtain ⟨fi, hfi, hfi2, hFd⟩ := V6 HDr.out x
    have HFd := zH hFd
    have HAm := zH (fun (W : World) (hr2 : Rds W A (o.map (Value.int .i64))) => Vm A o n c x W HLen.out (by omega) hr2)
    have HOr := zH (show Rds wr A (o.map (Value.int .i64)) from Rds.own HRo.out.own)
    clear hFd
    by_cases hx0 : x = 0
    · have hx0' : (x != 0) = false := by simpa using hx0
      have HE := zH (show come (adr 0 ts) [] (roots.take (j + 1)) = some o by rw [HT.out, QG, if_pos (.inl hx0)])
      clear hx0 hfi hfi2
      go_wp2_with fail
      go_roundw
      case rel => exact ⟨j + 1, n, A, c, o, by omega, by go_num, rfl, HRo.out, HE.out, HGo.out⟩
      case measure => simp [intOf]; omega
    · have hx0' : (x != 0) = true := by simpa using hx0
      by_cases hxA : x ∈ adr 0 ts
      · have hfi0 : ¬ fi < 0 := fun h => (hfi.1 h) hxA
        have HAm1 := zH (HAm.out wr HOr.out)
        by_cases hxo : x ∈ o
        · have HE := zH (show come (adr 0 ts) [] (roots.take (j + 1)) = some o by rw [HT.out, QG, if_pos (.inr hxo)])
          rw [decide_eq_true hxo] at HAm1
          clear hfi hfi2 hx0 hxA hxo HAm
          go_wp2_with (first
           | (go_at_call 45; refine HFd.out.mono ?_; rintro e w' ⟨rfl, rfl⟩)
           | (go_at_call 46; refine HAm1.out.mono ?_; rintro e w' ⟨rfl, rfl⟩))
          go_roundw
          case rel => exact ⟨j + 1, n, A, c, o, by omega, by go_num, rfl, HRo.out, HE.out, HGo.out⟩
          case measure => simp [intOf]; omega
        · have HE := zH (show come (adr 0 ts) [] (roots.take (j + 1)) = some (o ++ [x]) by rw [HT.out, QG, if_neg (by simp [hx0, hxo]), if_pos hxA])
          have HG2 := zH (HGo.out.push hxA hxo)
          rw [decide_eq_false hxo] at HAm1
          clear hfi hfi2 hx0 hxA hxo HAm
          go_wp2_with (first
           | (go_at_call 45; refine HFd.out.mono ?_; rintro e w' ⟨rfl, rfl⟩)
           | (go_at_call 46; refine HAm1.out.mono ?_; rintro e w' ⟨rfl, rfl⟩)
           | (at_builtin
              refine wpList_append_lies _ rfl (.tmp 52) (.tmp 57) 27 rfl w.heap.size 2 i0 _ 1 8 Tryz.underlying27 I0.out I1.out I2.out I3.out rfl (by omega) (.slice A n c) n (o.map (Value.int .i64)) rfl (HRo.out.alloc _) ⟨wr.heap.size, 0, none⟩ 1 1 [.int .i64 x] rfl rfl (World.news_of_block (cs := #[.int .i64 x]) (t := 2) (fr := (0, 0)) (heap_alloc_new wr _)) (by simp [Value.oneCell']) (by omega) (by unfold maxLen; omega) (by omega) (by simp; omega) _ rfl ?_
              intro b5 c5 w5 hown5 hg5 hat5 hlt5
              have P5 := zH (HRo.out.push (b5 := b5) (c5 := c5) x hg5 hown5)
              clear hown5 hg5 hat5))
          go_roundw
          case rel => exact ⟨j + 1, n + 1, _, _, o ++ [x], by omega, by go_num, rfl, P5.out, HE.out, HG2.out⟩
          case measure => simp [intOf]; omega
      · have hfi0 : fi < 0 := hfi.2 hxA
        have HE := zH (show zn ts roots = (3, []) by
         rw [HQ.out, HN.out (by rw [HT.out, QG, if_neg (by
          rintro (h | h)
          · exact hx0 h
          · exact hxA (HGo.out.sub _ h)), if_neg hxA])])
        have HB := zH HRo.out.bel
        clear hfi hfi2 hx0 hxA
        go_wp2_with (first
         | (go_at_call 45; refine HFd.out.mono ?_; rintro e w' ⟨rfl, rfl⟩))
        go_ret2
        exact ⟨none, 0, by rw [HE.out]; rfl, by rw [HE.out]; exact .inl rfl, HB.out, fun a ha => by cases ha⟩
  · have hj1 : ¬ (j : Int) < (roots.length : Int) := by omega
    have HE := zH (show zn ts roots = zP ts (ts.length + 1) 0 o by
     have h := HCm.out
     rw [List.take_of_length_le (by omega)] at h
     rw [HQ.out, h])
    clear hro
    go_wp2_with fail
    go_loopw [10, 12] (fun s i wr => ∃ (k n : Nat) (A : Option Addr) (c : Nat) (o : List Int), k ≤ o.length ∧ i = .int .i64 (k : Int) ∧ s = .slice A n c ∧ Ro w wr A n c o ∧ ClM.Good (adr 0 ts) o ∧ zP ts (ts.length + 1 - k) k o = zn ts roots) (fun _ i _ => ts.length + 1 - (intOf i).toNat)
    case atStart => exact ⟨0, n, A, c, o, Nat.zero_le _, rfl, rfl, HRo.out, HGo.out, HE.out.symm⟩
    case round =>
     clear HDr HLen HRo HCm HGo HE hszr hn40 hfew
     obtain ⟨k, n', A', c', o', hk, rfl, rfl, hro, hgo, hre⟩ := hrel
     have HRo := zH hro
     have HGo := zH hgo
     have hnl := hro.len
     have hol := hgo.len
     rw [HAl.out] at hol
     have hfew := HFew.out
     have hn40 : n' ≤ 40 := by omega
     have hszr := hro.bel.size
     have HDr := zH (HD.out wr hro.bel)
     by_cases hlt : k < o'.length
     · have hown : zT wr w.heap.size (.slice A' o'.length c') o' := by
        have := hro.own
        rw [hnl] at this
        exact this
       obtain ⟨g, hA, hgl⟩ := HpB.qH hown (by omega)
       subst hA
       have hc0 : wr.cell? ⟨g, k, none⟩ = some (.int .i64 o'[k]) := HpB.Zq hown (List.getElem?_eq_getElem hlt)
       obtain ⟨pp, th, rr, hts2, hx⟩ := Za (hgo.sub _ (List.getElem_mem hlt))
       rw [Nat.zero_add] at hx
       have hth : Zp ts o'[k] = some th := by rw [hts2, hx]; exact Zl pp th rr
       have hks : ts.length + 1 - k = (ts.length - k) + 1 := by omega
       have hstep := Xp (k := ts.length - k) hlt hth
       rw [← hks, hre] at hstep
       have hRx : Qq ts o'[k] = match Zh th with | none => (5, []) | some ps => (0, ps.map (fun (k : Nat) => (k : Int))) := by unfold Qq; simp only [hth]; cases Zh th <;> rfl
       have HRf := V4 HDr.out cn o'[k]
       have hkn : (k : Int) < (n' : Int) := by omega
       have HBl := zH hro.bel
       have HGe : Hid (∀ W, Below w.heap.size w W → ∀ i : Int, Calls Tryz.prog 47 #[.pointer (some ⟨r, 0, none⟩), .int .i64 o'[k], .int .i64 i] W fun e w' => e = .returned (.tuple #[.int .i64 (HpG.qD th.W i).1, .int .i64 (HpG.qD th.W i).2]) ∧ W = w') := zH (fun W hW i => by rw [hx]; exact gQ (HD.out W hW) hts2 i)
       rw [hRx] at HRf
       cases hq : Zh th with
       | none =>
         rw [hq] at HRf hstep
         have HRf1 := zH HRf
         have HEn := zH (show zn ts roots = (5, []) from hstep)
         clear hro hgo hre hstep hRx HRf hx hth hks hown hol hnl HGe
         generalize o'[k] = x at *
         go_wp2_with fail
         refine HRf1.out.mono ?_
         rintro e w4 ⟨A2, c2, rfl, hr4, hc4, hb4, _⟩
         have HB4 := zH (HBl.out.trans (hb4.mono HBl.out.size))
         clear hr4 hb4
         go_wp2_with fail
         go_ret2
         exact ⟨none, 0, by rw [HEn.out]; rfl, by rw [HEn.out]; exact .inl rfl, HB4.out, fun a ha => by cases ha⟩
       | some ps =>
         rw [hq] at HRf hstep
         replace hstep : zn ts roots = (match come (adr 0 ts) o' (zB th ps) with | none => (3, []) | some o' => zP ts (ts.length - k) (k + 1) o') := hstep
         have HSt := zH hstep
         have HRf1 := zH HRf
         have hplt := Qj hq
         have HPlt := zH hplt
         have hwl : (zB th ps).length = ps.length := by simp [zB]
         have HWl := zH hwl
         have HWat : Hid (∀ j (h : j < ps.length) (h2 : j < (zB th ps).length), (zB th ps)[j] = (HpG.qD th.W ((ps[j] : Nat) : Int)).1) := zH (fun j h h2 => by
          have := hplt ps[j] (List.getElem_mem h)
          simp only [zB, HpG.qD, List.getElem_map]
          rw [if_pos (by omega), Int.toNat_natCast])
         have HPre : Hid (∀ (q : List Int), o' <+: q → ∃ h : k < q.length, q[k] = o'[k]) := zH (fun q h => by
          obtain ⟨s, rfl⟩ := h
          exact ⟨by rw [List.length_append]; omega, by rw [List.getElem_append_left hlt]⟩)
         have hpsl := QX hq
         have hw400 := Yv HFit.out (t := th) (by rw [hts2]; simp)
         clear hro hgo hre hstep hRx HRf hx hth hks hown hol hnl hplt hwl
         generalize o'[k] = x at *
         go_wp2_with fail
         refine HRf1.out.mono ?_
         rintro e w4 ⟨A2, c2, rfl, hr4, hc4, hb4, hfar⟩
         have HRo4 := zH (HRo.out.later hb4)
         have HR4 := zH hr4
         have HFar4 : Hid (ps.map (fun (k : Nat) => (k : Int)) ≠ [] → ∀ a, A2 = some a → (Value.slice (some ⟨g, 0, none⟩) n' c').ownBlock ≠ some a.block) := zH (fun _ a ha e => by
          have h1 := hfar a ha
          have h2 : g = a.block := by injection e
          omega)
         clear hr4 hb4 hfar
         go_wp2_with fail
         go_loopw [10, 15] (fun s i wr => ∃ (j m : Nat) (B : Option Addr) (d : Nat) (q : List Int), j ≤ ps.length ∧ i = .int .i64 (j : Int) ∧ s = .slice B m d ∧ Ro w wr B m d q ∧ Rds wr A2 ((ps.map (fun (k : Nat) => (k : Int))).map (Value.int .i64)) ∧ (ps.map (fun (k : Nat) => (k : Int)) ≠ [] → ∀ a, A2 = some a → (Value.slice B m d).ownBlock ≠ some a.block) ∧ come (adr 0 ts) o' ((zB th ps).take j) = some q ∧ ClM.Good (adr 0 ts) q ∧ o' <+: q) (fun _ i _ => ps.length - (intOf i).toNat)
         case atStart => exact ⟨0, n', _, c', o', Nat.zero_le _, rfl, rfl, HRo4.out, HR4.out, HFar4.out, rfl, HGo.out, List.prefix_refl _⟩
         case round =>
          clear HRo4 HR4 HFar4 HDr HRo
          obtain ⟨j, m, B, d, q, hj, rfl, rfl, hro, hr2, hfar, hcm, hgq, hpre⟩ := hrel
          have HRo := zH hro
          have HCm := zH hcm
          have HGq := zH hgq
          have HPr := zH hpre
          have hnl := hro.len
          have HLen := zH hnl
          have hol := hgq.len
          rw [HAl.out] at hol
          have hm40 : m ≤ 40 := by omega
          have hszr := hro.bel.size
          have HFr := zH hfar
          have HR2 := zH hr2
          obtain ⟨hkq, hqk⟩ := HPre.out q hpre
          by_cases hlt2 : j < ps.length
          · have hown : zT wr w.heap.size (.slice B q.length d) q := by
             have := hro.own
             rw [hnl] at this
             exact this
            obtain ⟨g2, hB, hgl2⟩ := HpB.qH hown (by omega)
            subst hB
            have hc1 : wr.cell? ⟨g2, k, none⟩ = some (.int .i64 x) := by
             have := HpB.Zq hown (List.getElem?_eq_getElem hkq)
             rw [hqk] at this
             exact this
            obtain ⟨rb, ro, rfl, hrb, q0⟩ := HpS.ZP hr2 (k := j) (by simpa using hlt2)
            have e : (ps.map (fun (k : Nat) => (k : Int))).getD j 0 = ((ps[j] : Nat) : Int) := by rw [List.getD_eq_getElem?_getD, List.getElem?_map, List.getElem?_eq_getElem hlt2]; rfl
            rw [e] at q0
            have hkm : (k : Int) < (m : Int) := by omega
            have hj1 : (j : Int) < (ps.length : Int) := by omega
            have hjw : j < (zB th ps).length := by rw [HWl.out]; exact hlt2
            have HT := zH (Vd hjw HCm.out)
            have HN := zH (fun h => yO (xs := zB th ps) (j := j + 1) (A := adr 0 ts) (o0 := o') h)
            have HGq2 : Hid (∀ nq, Calls Tryz.prog 47 #[.pointer (some ⟨r, 0, none⟩), .int .i64 x, .int .i64 ((ps[j] : Nat) : Int)] (wr.drewN nq) fun e w' => e = .returned (.tuple #[.int .i64 ((zB th ps)[j]'hjw), .int .i64 (HpG.qD th.W ((ps[j] : Nat) : Int)).2]) ∧ w' = wr.drewN nq) := zH (fun nq => by
             rw [HWat.out j hlt2 hjw]
             exact (HGe.out (wr.drewN nq) (hro.bel.trans ((HpE.zf wr nq).mono hszr)) _).mono (fun e w' h => ⟨h.1, h.2.symm⟩))
            have HRoD := zH (fun nq => hro.later (HpE.zf wr nq))
            have HR2D : Hid (∀ nq, Rds (wr.drewN nq) (some ⟨rb, ro, none⟩) ((ps.map (fun (k : Nat) => (k : Int))).map (Value.int .i64))) := zH (fun nq => hr2.below (HpE.zf wr nq))
            clear e hro hr2 hfar hcm hgq hpre hown hnl hol HWat
            generalize (zB th ps)[j] = v at *
            generalize (HpG.qD th.W ((ps[j] : Nat) : Int)).2 = ge at *
            generalize ((ps[j] : Nat) : Int) = pj at *
            go_wp2_with fail
            go_quiet ((go_at_call 47; exact Calls.quiet_of_same (HGq2.out _)))
            have HRw := zH (HRoD.out nq)
            have HR2w := zH (HR2D.out nq)
            clear HRoD HR2D HRo HR2 hc1 q0 HGq2
            generalize wr.drewN nq = wd at *
            have hszr2 := HRw.out.bel.size
            have HDw := zH (HD.out wd HRw.out.bel)
            obtain ⟨fi, hfi, hfi2, hFd⟩ := V6 HDw.out v
            have HFd := zH hFd
            have HAm := zH (Vm (some ⟨g2, 0, none⟩) q m d v wd HLen.out (by omega) (Rds.own HRw.out.own))
            clear hFd
            by_cases hx0 : v = 0
            · have hx0' : (v != 0) = false := by simpa using hx0
              have HE2 := zH (show come (adr 0 ts) o' ((zB th ps).take (j + 1)) = some q by rw [HT.out, QG, if_pos (.inl hx0)])
              clear hx0 hfi hfi2
              go_wp2_with fail
              go_roundw
              case rel => exact ⟨j + 1, m, _, d, q, by omega, by go_num, rfl, HRw.out, HR2w.out, HFr.out, HE2.out, HGq.out, HPr.out⟩
              case measure => simp [intOf]; omega
            · have hx0' : (v != 0) = true := by simpa using hx0
              by_cases hxA : v ∈ adr 0 ts
              · have hfi0 : ¬ fi < 0 := fun h => (hfi.1 h) hxA
                by_cases hxo : v ∈ q
                · have HE2 := zH (show come (adr 0 ts) o' ((zB th ps).take (j + 1)) = some q by rw [HT.out, QG, if_pos (.inr hxo)])
                  rw [decide_eq_true hxo] at HAm
                  clear hfi hfi2 hx0 hxA hxo
                  go_wp2_with (first
                   | (go_at_call 45; refine HFd.out.mono ?_; rintro e w' ⟨rfl, rfl⟩)
                   | (go_at_call 46; refine HAm.out.mono ?_; rintro e w' ⟨rfl, rfl⟩))
                  go_roundw
                  case rel => exact ⟨j + 1, m, _, d, q, by omega, by go_num, rfl, HRw.out, HR2w.out, HFr.out, HE2.out, HGq.out, HPr.out⟩
                  case measure => simp [intOf]; omega
                · have HE2 := zH (show come (adr 0 ts) o' ((zB th ps).take (j + 1)) = some (q ++ [v]) by rw [HT.out, QG, if_neg (by simp [hx0, hxo]), if_pos hxA])
                  have HG2 := zH (HGq.out.push hxA hxo)
                  have HP2 := zH (HPr.out.trans (List.prefix_append q [v]))
                  rw [decide_eq_false hxo] at HAm
                  clear hfi hfi2 hx0 hxA hxo
                  go_wp2_with (first
                   | (go_at_call 45; refine HFd.out.mono ?_; rintro e w' ⟨rfl, rfl⟩)
                   | (go_at_call 46; refine HAm.out.mono ?_; rintro e w' ⟨rfl, rfl⟩)
                   | (at_builtin
                      refine wpList_append_lies _ rfl (.tmp 114) (.tmp 116) 27 rfl w.heap.size 2 i0 _ 1 8 Tryz.underlying27 I0.out I1.out I2.out I3.out rfl (by omega) (.slice (some ⟨g2, 0, none⟩) m d) m (q.map (Value.int .i64)) rfl (HRw.out.alloc _) ⟨wd.heap.size, 0, none⟩ 1 1 [.int .i64 v] rfl rfl (World.news_of_block (cs := #[.int .i64 v]) (t := 2) (fr := (0, 0)) (heap_alloc_new wd _)) (by simp [Value.oneCell']) (by omega) (by unfold maxLen; omega) (by omega) (by simp; omega) _ rfl ?_
                      intro b5 c5 w5 hown5 hg5 hat5 hlt5
                      have P5 := zH (HRw.out.push (b5 := b5) (c5 := c5) v hg5 hown5)
                      have F5 := zH (push_far (c5 := c5) HRw.out HR2w.out HFr.out v hg5 hat5)
                      clear hown5 hg5 hat5))
                  go_roundw
                  case rel => exact ⟨j + 1, m + 1, _, _, q ++ [v], by omega, by go_num, rfl, P5.out, F5.out.1, F5.out.2, HE2.out, HG2.out, HP2.out⟩
                  case measure => simp [intOf]; omega
              · have hfi0 : fi < 0 := hfi.2 hxA
                have HE2 := zH (show zn ts roots = (3, []) by
                 rw [HSt.out, HN.out (by rw [HT.out, QG, if_neg (by
                  rintro (h | h)
                  · exact hx0 h
                  · exact hxA (HGq.out.sub _ h)), if_neg hxA])])
                have HB := zH HRw.out.bel
                clear hfi hfi2 hx0 hxA
                go_wp2_with (first
                 | (go_at_call 45; refine HFd.out.mono ?_; rintro e w' ⟨rfl, rfl⟩))
                go_ret2
                exact ⟨none, 0, by rw [HE2.out]; rfl, by rw [HE2.out]; exact .inl rfl, HB.out, fun a ha => by cases ha⟩
          · have hj1 : ¬ (j : Int) < (ps.length : Int) := by omega
            have HE2 := zH (show zP ts (ts.length + 1 - (k + 1)) (k + 1) q = zn ts roots by
             have h := HCm.out
             rw [List.take_of_length_le (by rw [HWl.out]; omega)] at h
             rw [HSt.out, h, show ts.length + 1 - (k + 1) = ts.length - k by omega])
            clear hro hr2 hfar hcm hgq hpre
            go_wp2_with fail
            go_roundw
            case rel => exact ⟨k + 1, m, B, d, q, by omega, by go_num, rfl, HRo.out, HGq.out, HE2.out⟩
            case measure => simp [intOf]; omega
     · have hkn : ¬ (k : Int) < (n' : Int) := by omega
       have HEn := zH (show zn ts roots = (0, o') by rw [← hre, uK (by omega)])
       have HRd : Hid (Rds wr A' (o'.map (Value.int .i64))) := zH (Rds.own hro.own)
       have HBl := zH hro.bel
       have HOw : Hid (∀ a, A' = some a → w.heap.size ≤ a.block) := zH (fun a ha => by subst ha; exact (hro.own.lt _ rfl).1)
       have HLn := zH hnl
       clear hro hgo hre hnl hol
       go_wp2_with fail
       go_ret2
       exact ⟨A', c', by rw [HEn.out, HLn.out]; rfl, by rw [HEn.out]; exact HRd.out, HBl.out, HOw.out⟩
end CeR
end Go.Proofs.YtmkdhdmkdcankaaGreatDoor
namespace Go.Proofs.YtmkdhdmkdcankaaGreatDoor
namespace CeI
open Go.RowKit Base BinM Stru
end CeI
namespace CeL
open Go.RowKit Base BinM LnkA LnkC LnkS ClA ClC ClL ClI ClJ ClP CeB CeC CeR
open HpM (zo zT Qv)
open ClM (Zh zn zP Zp come zB Zl qb qN)
open HpA (Th raw adr Za)
theorem doc_of {w wr : World} {x g r p u : Nat} {ts : List Th} {An : Option Addr} (P : Qb w wr x g r p u ts) (Rn : Rds wr An (ClZ.tyn.map HierM.sv)) : Doc wr r u An ts := by
 obtain ⟨⟨w1, h1, S0, h2, ⟨f, lo, gg, A, c, hT⟩⟩, h4⟩ := P
 have hl := qZ S0
 obtain ⟨a1, a2, a3, a4, a5, AL, cL, ms, a9, S, rfl, h5, h6⟩ := S0
 exact ⟨⟨AL, cL, ms, S.rf, rfl⟩, S.fits, h4, ⟨f, lo, gg, A, c, hT wr hl⟩, Rn⟩
end CeL
end Go.Proofs.YtmkdhdmkdcankaaGreatDoor
namespace Go.Proofs.YtmkdhdmkdcankaaGreatDoor
namespace CeW
open Go.RowKit Base BinM HpM HpA HpB HpG HpP HpT HpZ HpR HpQ HpF CeR
set_option maxRecDepth 100000 in
theorem UR (A B : Option Addr) (l : List Int) (s : Int → Int) (n c d : Nat) (x : Int) (w : World) (hn : n = l.length) (hbig : n ≤ 100000) (hr : Rds w A (l.map (Value.int .i64))) (hr2 : Rds w B ((l.map s).map (Value.int .i64))) (hs : x ∉ l → s x = 0) :
 Calls Tryz.prog 59 #[.slice A n c, .slice B n d, .int .i64 x] w fun e w' => e = .returned (.int .i64 (s x)) ∧ w = w' := by
 subst hn
 have HR := zH hr
 have HR2 := zH hr2
 have HS := zH hs
 clear hr hr2 hs
 go_enter Tryz.func59, Tryz.ntmps59
 go_wp2_with fail
 go_loopw [7] (fun i wr => ∃ j : Nat, j ≤ l.length ∧ i = .int .i64 j ∧ w = wr ∧ x ∉ l.take j) (fun i _ => l.length - (intOf i).toNat)
 case atStart => exact ⟨0, Nat.zero_le _, rfl, rfl, by simp⟩
 case round =>
  obtain ⟨j, hj, rfl, rfl, hno⟩ := hrel
  have HNo := zH hno
  clear hno
  by_cases hlt : j < l.length
  · obtain ⟨b, o, rfl, _, q0⟩ := HpS.ZP HR.out hlt
    obtain ⟨b2, o2, rfl, _, q2⟩ := HpS.ZP HR2.out (k := j) (by rw [List.length_map]; exact hlt)
    have hj1 : (j : Int) < (l.length : Int) := by omega
    have e : l.getD j 0 = l[j] := by rw [List.getD_eq_getElem?_getD, List.getElem?_eq_getElem hlt]; rfl
    have e2 : (l.map s).getD j 0 = s l[j] := by rw [List.getD_eq_getElem?_getD, List.getElem?_map, List.getElem?_eq_getElem hlt]; rfl
    rw [e] at q0
    rw [e2] at q2
    have HHit : Hid (l[j] = x → s l[j] = s x) := zH (fun e => by rw [e])
    have HNx : Hid (l[j] ≠ x → x ∉ l.take (j + 1)) := zH (fun e h => by
     rw [List.take_succ_eq_append_getElem hlt, List.mem_append, List.mem_singleton] at h
     rcases h with h | h
     · exact HNo.out h
     · exact e h.symm)
    clear e e2
    generalize s l[j] = z at *
    generalize l[j] = y at *
    by_cases hy : y = x
    · have hy1 : (y == x) = true := by simpa using hy
      have HZ := zH (HHit.out hy)
      clear hy HHit HNx
      go_wp2_with fail
      go_ret
      exact ⟨by rw [HZ.out]; rfl, rfl⟩
    · have hy1 : (y == x) = false := by simpa using hy
      have HZ := zH (HNx.out hy)
      clear HHit HNx
      go_wp2_with fail
      go_roundw
      case rel => exact ⟨j + 1, by omega, by go_num, trivial, HZ.out⟩
      case measure => simp [intOf]; omega
  · have hj1 : ¬ (j : Int) < (l.length : Int) := by omega
    have HZ : Hid (s x = 0) := zH (HS.out (by have := HNo.out; rwa [List.take_of_length_le (by omega)] at this))
    go_wp2_with fail
    go_ret
    exact ⟨by rw [HZ.out]; rfl, rfl⟩
structure Rn (w0 wr : World) (r : Nat) (ns : List Th) (B : Option Addr) (m d : Nat) (now : List Int) (rows : List (Option Addr × List Value)) : Prop where
 ro : Ro w0 wr B m d now
 mem : ∃ AL cL ms, RfX wr r AL cL 400 ms ∧ things ms = ns ∧ (∀ k, Z6 r AL ms k → w0.heap.size ≤ k) ∧ (∀ k, (Value.slice B m d).ownBlock = some k → ¬ Z6 r AL ms k) ∧ ∀ q ∈ rows, Rds wr q.1 q.2 ∧ ∀ a, q.1 = some a → q.2 ≠ [] → ¬ Z6 r AL ms a.block
section
variable {w0 wr w' : World} {r : Nat} {ns : List Th} {B : Option Addr} {m d : Nat} {now : List Int} {rows : List (Option Addr × List Value)}
theorem Rn.bel (R : Rn w0 wr r ns B m d now rows) : Below w0.heap.size w0 wr := R.ro.bel
theorem Rn.beside (R : Rn w0 wr r ns B m d now rows) (hb : Below wr.heap.size wr w') : Rn w0 w' r ns B m d now rows := by
 obtain ⟨ro, AL, cL, ms, X, h1, h2, h3, h4⟩ := R
 exact ⟨ro.later hb, AL, cL, ms, X.beside hb, h1, h2, h3, fun q hq => ⟨(h4 q hq).1.below hb, (h4 q hq).2⟩⟩
theorem Rn.cons (R : Rn w0 wr r ns B m d now rows) (hb : Below wr.heap.size wr w') {A : Option Addr} {xs : List Value} (hR : Rds w' A xs) (hA : ∀ a, A = some a → wr.heap.size ≤ a.block) : Rn w0 w' r ns B m d now ((A, xs) :: rows) := by
 obtain ⟨ro, AL, cL, ms, X, h1, h2, h3, h4⟩ := R
 refine ⟨ro.later hb, AL, cL, ms, X.beside hb, h1, h2, h3, fun q hq => ?_⟩
 rcases List.mem_cons.1 hq with rfl | hq
 · refine ⟨hR, fun a ha _ hk => ?_⟩
   have h5 := hA a ha
   have h6 := X.lt hk
   omega
 · exact ⟨(h4 q hq).1.below hb, (h4 q hq).2⟩
theorem Rn.tail {q : Option Addr × List Value} (R : Rn w0 wr r ns B m d now (q :: rows)) : Rn w0 wr r ns B m d now rows := by
 obtain ⟨ro, AL, cL, ms, X, h1, h2, h3, h4⟩ := R
 exact ⟨ro, AL, cL, ms, X, h1, h2, h3, fun q hq => h4 q (List.mem_cons_of_mem _ hq)⟩
theorem Rn.head {A : Option Addr} {xs : List Value} (R : Rn w0 wr r ns B m d now ((A, xs) :: rows)) : Rds wr A xs := by
 obtain ⟨ro, AL, cL, ms, X, h1, h2, h3, h4⟩ := R
 exact (h4 _ List.mem_cons_self).1
theorem zf9 {AL : Option Addr} {cL : Nat} {ms ms' : List ThM} (ro : Ro w0 wr B m d now) (_ : RfX wr r AL cL 400 ms) (h2 : ∀ k, Z6 r AL ms k → w0.heap.size ≤ k) (h3 : ∀ k, (Value.slice B m d).ownBlock = some k → ¬ Z6 r AL ms k) (h4 : ∀ q ∈ rows, Rds wr q.1 q.2 ∧ ∀ a, q.1 = some a → q.2 ≠ [] → ¬ Z6 r AL ms a.block)
 (N : NextR wr w' (Z6 r AL ms) r 400 ms') : Rn w0 w' r (things ms') B m d now rows := by
 obtain ⟨AL', cL', X', T, hf⟩ := N
 have hlt : ∀ k, (Value.slice B m d).ownBlock = some k → k < wr.heap.size := fun k hk => (ro.own.lt k hk).2
 refine ⟨⟨ro.len, ro.bel.trans (T.below h2 ro.bel.size), TabM.ze ro.own (fun k hk => T.block k (hlt k hk) (h3 k hk))⟩, AL', cL', ms', X', rfl, fun k hk => ?_, fun k hk hk2 => ?_, fun q hq => ?_⟩
 · rcases hf k hk with h | h
   · exact h2 k h
   · exact Nat.le_trans ro.bel.size h
 · rcases hf k hk2 with h | h
   · exact h3 k hk h
   · exact Nat.lt_irrefl _ (Nat.lt_of_lt_of_le (hlt k hk) h)
 · obtain ⟨a1, a2⟩ := h4 q hq
   refine ⟨ClR.Qu a1 a2 T, fun a ha hx hk => ?_⟩
   rcases hf _ hk with h | h
   · exact a2 a ha hx h
   · exact Nat.lt_irrefl _ (Nat.lt_of_lt_of_le (ClC.qL a1 hx ha) h)
theorem rn_put (R : Rn w0 wr r ns B m d now rows) (id : Nat) (hid : id ≤ 65535) {A : Option Addr} {c : Nat} (W : List Int) (hr : Rds wr A (W.map (Value.int .i64))) (hl : (raw ns).length + (1 + W.length) ≤ 400) (hn : ns.length ≤ 4000) :
 Calls Tryz.prog 58 #[.pointer (some ⟨r, 0, none⟩), .int .i64 (id : Int), .slice A W.length c] wr fun e w' => e = .returned (.tuple #[.int .i64 (((raw ns).length + 1 : Nat) : Int), .int .i64 0]) ∧ Rn w0 w' r (ns ++ [⟨id, W, 0⟩]) B m d now rows := by
 obtain ⟨ro, AL, cL, ms, X, rfl, h2, h3, h4⟩ := R
 have hml : ms.length ≤ 4000 := by unfold things at hn; rwa [List.length_map] at hn
 have hE : Zr 400 (raw (things ms)).length (id : Int) (W.length : Int) = 0 := by
  unfold Zr
  rw [if_neg (by omega), if_neg (by omega)]
 refine (HpI.YJ X (by omega) (by omega) hml (id : Int) (c := c) W hr (by omega)).mono ?_
 rintro e w' (⟨h5, _⟩ | ⟨_, rfl, mm, h6, N⟩)
 · exact absurd hE h5
 · refine ⟨rfl, ?_⟩
   have := zf9 (rows := rows) ro X h2 h3 h4 N
   have e1 : things (ms ++ [mm]) = things ms ++ [⟨id, W, 0⟩] := by
    unfold things
    rw [List.map_append, List.map_cons, List.map_nil, h6, Int.toNat_natCast]
   rw [e1] at this
   exact this
theorem rn_set {p : List Th} {t : Th} {q : List Th} (R : Rn w0 wr r (p ++ t :: q) B m d now rows) (hn : (p ++ t :: q).length ≤ 4096) (hW : t.W.length ≤ 4096) (i : Nat) (hi : i < t.W.length) (v : Int) :
 Calls Tryz.prog 42 #[.pointer (some ⟨r, 0, none⟩), .int .i64 (((raw p).length + 1 : Nat) : Int), .int .i64 (i : Int), .int .i64 v] wr fun e w' => e = .returned (.int .i64 0) ∧ Rn w0 w' r (p ++ jT t i v :: q) B m d now rows := by
 obtain ⟨ro, AL, cL, ms, X, h1, h2, h3, h4⟩ := R
 obtain ⟨p', mm, q', rfl, h5, h6, h7⟩ := CeB.JE (ts := p ++ t :: q) h1 rfl
 have hml : (p' ++ mm :: q').length ≤ 4096 := by
  have h8 : (things (p' ++ mm :: q')).length = (p ++ t :: q).length := by rw [h1]
  unfold things at h8
  rw [List.length_map] at h8
  omega
 have hat := CeB.Ul X
 rw [h5] at hat
 have hq : things q' = q := by
  rw [Q7, h5, h6] at h1
  have := List.append_cancel_left h1
  injection this
 have hR := HpF.uE X hml (by rw [h6]; exact hW) (i : Int) v
 rw [hat] at hR
 refine hR.mono ?_
 rintro e w' (⟨h8, _⟩ | ⟨_, _, rfl, N⟩)
 · rw [h6] at h8
   exact absurd ⟨by omega, by omega⟩ h8
 · refine ⟨rfl, ?_⟩
   have := zf9 (rows := rows) ro X h2 h3 h4 N
   rw [Y1, h5, h6, hq, Int.toNat_natCast] at this
   exact this
end
section
variable {w0 wr w5 : World} {r : Nat} {ns : List Th} {B : Option Addr} {m d b5 c5 : Nat} {now : List Int}
theorem Rn.push (R : Rn w0 wr r ns B m d now []) (x : Int) (hg : (wr.alloc (.cells #[.int .i64 x] 2)).grownBy w5 (Value.slice B m d).ownBlock)
 (h5 : w5.ownsRow w0.heap.size 2 1 (.slice (some ⟨b5, 0, none⟩) (m + 1) c5) (m + 1) (now.map (Value.int .i64) ++ [.int .i64 x]))
 (hat : (Value.slice B m d).ownBlock = some b5 ∨ b5 = (wr.alloc (.cells #[.int .i64 x] 2)).heap.size) : Rn w0 w5 r ns (some ⟨b5, 0, none⟩) (m + 1) c5 (now ++ [x]) [] := by
 obtain ⟨ro, AL, cL, ms, X, h1, h2, h3, h4⟩ := R
 have hal := (Below.refl wr.heap.size wr).alloc (Nat.le_refl _) (.cells #[.int .i64 x] 2)
 have X1 := X.beside hal
 have hsz : (wr.alloc (.cells #[.int .i64 x] 2)).heap.size = wr.heap.size + 1 := World.size_alloc ..
 refine ⟨ro.push x hg h5, AL, cL, ms, X1.aside (fun k hk => hg.block k (X1.lt hk) (fun e => h3 k e.symm hk)), h1, h2, fun k hk hk2 => ?_, fun q hq => by cases hq⟩
 have e2 : b5 = k := by injection hk
 subst e2
 rcases hat with h | h
 · exact h3 _ h hk2
 · have := X.lt hk2
   omega
theorem Rn.start (w : World) (B' : World) (hb : Below w.heap.size w B') {r : Nat} (hr : w.heap.size ≤ r) (X : RfX B' r none 0 400 []) : Rn w B' r [] none 0 0 [] [] := by
 refine ⟨⟨rfl, hb, World.ownsRow_nil _ _ _ _⟩, none, 0, [], X, rfl, ?_, ?_, ?_⟩
 · intro k hk
   rcases hk with rfl | ⟨a, h, _⟩ | ⟨m, hm, _⟩
   · exact hr
   · cases h
   · cases hm
 · intro k hk
   cases hk
 · intro q hq
   cases hq
end
end CeW
end Go.Proofs.YtmkdhdmkdcankaaGreatDoor
namespace Go.Proofs.YtmkdhdmkdcankaaGreatDoor
namespace ClG
open Go.RowKit Base BinM HpM HpA HpB HpG HpT ClM ClL ClV
theorem xu {A : List Int} : ∀ {xs out o : List Int}, come A out xs = some o → ∀ x ∈ xs, x = 0 ∨ x ∈ o
 | [], _, _, _, x, hx => by cases hx
 | y :: ys, out, o, e, x, hx => by
   rw [come] at e
   rcases List.mem_cons.1 hx with rfl | hx
   · split at e
     · rename_i h
       exact h.imp id (fun hm => (ZY e).subset hm)
     · split at e
       · exact .inr ((ZY e).subset (by simp))
       · cases e
   · split at e
     · exact xu e x hx
     · split at e
       · exact xu e x hx
       · cases e
theorem yX {ts : List Th} : ∀ (k i : Nat) (out o : List Int), zP ts k i out = (0, o) → o.length < i + k → ∀ j (hj : j < o.length), i ≤ j → ∃ t ps, Zp ts o[j] = some t ∧ Zh t = some ps ∧ ∀ v ∈ zB t ps, v = 0 ∨ v ∈ o
 | 0, i, out, o, e, h, j, hj, hi => by omega
 | k + 1, i, out, o, e, h, j, hj, hi => by
   rw [zP] at e
   split at e
   · rename_i hn
     injection e with _ e
     subst e
     rw [List.getElem?_eq_none_iff] at hn
     omega
   · rename_i x hx
     split at e
     · injection e with e _; cases e
     · rename_i t ht
       split at e
       · injection e with e _; cases e
       · rename_i ps hp
         split at e
         · injection e with e _; cases e
         · rename_i o2 hc
           by_cases hij : i = j
           · subst hij
             have h3 := Zt k (i + 1) o2 o e
             have h2 : out <+: o := (ZY hc).trans h3
             obtain ⟨hl, rfl⟩ := List.getElem?_eq_some_iff.1 hx
             refine ⟨t, ps, ?_, hp, fun v hv => (xu hc v hv).imp id (fun hm => h3.subset hm)⟩
             rw [← ht]
             congr 1
             exact (h2.getElem hl).symm
           · exact yX k (i + 1) o2 o e (by omega) j hj (by omega)
theorem yY {ts : List Th} {roots o : List Int} (h : zn ts roots = (0, o)) : (∀ x ∈ roots, x = 0 ∨ x ∈ o) ∧ ∀ x ∈ o, ∃ t ps, Zp ts x = some t ∧ Zh t = some ps ∧ ∀ v ∈ zB t ps, v = 0 ∨ v ∈ o := by
 have hg := Zu h
 have hl := hg.len
 rw [qd] at hl
 unfold zn at h
 split at h
 · injection h with h _; cases h
 · rename_i o1 hc
   have hp := Zt _ _ _ _ h
   refine ⟨fun x hx => (xu hc x hx).imp id (fun hm => hp.subset hm), fun x hx => ?_⟩
   obtain ⟨j, hj, rfl⟩ := List.mem_iff_getElem.1 hx
   exact yX (ts.length + 1) 0 _ o h (by omega) j hj (Nat.zero_le _)
end ClG
end Go.Proofs.YtmkdhdmkdcankaaGreatDoor
namespace Go.Proofs.YtmkdhdmkdcankaaGreatDoor
namespace Opened
open Go.RowKit Go.ChangeShapes Base
def Places {H : Type} (d : DataW H) (c : Nat) : Prop := (d = .nil ∧ c = 0) ∨ ∃ el sp, d = .slice el sp ∧ el.length + sp.length = c
section
variable {H : Type} {enc : TypeId × Value → H} {P : Program} {w : World}
theorem VB {x : Addr} {f : Nat → Value} {n : Nat} {xs : List Value} (hx : xs.length ≤ n) (h : ∀ i, i < n → w.cell? (x.add i) = some (f i)) (hf : ∀ i (hi : i < xs.length), xs[i] = f i) : Rds w (some x) xs := by
 rcases Nat.eq_zero_or_pos xs.length with h0 | h0
 · exact .inl (List.eq_nil_of_length_eq_zero h0)
 · obtain ⟨b, o, spot⟩ := x
   have hc := h 0 (by omega)
   have hs : spot = none := by simpa [Addr.add] using World.cell?_spot hc
   subst hs
   have hc' : w.cell? ⟨b, o, none⟩ = some (f 0) := by simpa [Addr.add] using hc
   refine .inr ⟨b, o, rfl, World.block_lt_of_cell? w ⟨b, o, none⟩ hc', fun j u hu => ?_⟩
   obtain ⟨hj, rfl⟩ := List.getElem?_eq_some_iff.1 hu
   have := h j (by omega)
   rw [Addr.add_mid] at this
   rw [this, hf j hj]
theorem open_nums {t e : TypeId} {fuel : Nat} {A : Option Addr} {m c : Nat} {d : DataW H} {p : List MemPlace} (ht : P.underlying t = some (.slice e)) (he : P.underlying e = some (.int .i64)) (hc : P.cellsOf e = 1)
 (h : DataW.trod enc P w 0 (fun _ => true) true fuel t (Value.slice A m c).cells.toList = some (d, p)) :
 ∃ l, Uq w A m c l ∧ Places d c := by
 rcases open_ints ht he hc h with ⟨hcs, hd⟩ | ⟨x, len, cap, zs, hcs, _, hl, hm, hz, hd, hcell, hwf⟩
 · simp [Value.cells] at hcs
   obtain ⟨rfl, rfl, rfl⟩ := hcs
   injection hd with hd
   exact ⟨[], ⟨rfl, Nat.le_refl _, by simp [maxLen], .inl rfl, by simp⟩, .inl ⟨hd, rfl⟩⟩
 · simp [Value.cells] at hcs
   obtain ⟨rfl, rfl, rfl⟩ := hcs
   injection hd with hd
   simp only [if_true] at hz
   refine ⟨zs.take m, ⟨by simp; omega, hl, hm, ?_, fun x hx => ?_⟩, .inr ⟨_, _, hd, by simp [lits]; omega⟩⟩
   · refine VB (n := zs.length) (f := fun i => .int .i64 (zs.getD i 0)) (by simp; omega) hcell (fun i hi => ?_)
     have hi' : i < zs.length := by simp at hi; omega
     simp only [List.getElem_map, List.getElem_take]
     rw [List.getD_eq_getElem?_getD, List.getElem?_eq_getElem hi', Option.getD_some]
   · have := hwf x (List.mem_of_mem_take hx)
     simp [Lit.wf, IntKind.min, IntKind.max, IntKind.bits, IntKind.signed] at this
     omega
theorem Kh {ts : List TypeId} {ds : List (DataW H)} (h : (DataW.weightsEach P ts ds).all (· ≤ reachBytes) = true) {j : Nat} {t e : TypeId} {d : DataW H} {c : Nat} (ht : ts[j]? = some t) (hd : ds[j]? = some d)
 (hp : Places d c) (hu : P.underlying t = some (.slice e)) {k : Nat} (hk : P.bytesOf e = k) : c * k ≤ 140737488351232 := by
 rcases hp with ⟨_, rfl⟩ | ⟨el, sp, rfl, rfl⟩
 · simp
 · have := sized_slice h ht hd hu
   rw [hk] at this
   simpa [reachBytes] using this
end
end Opened
namespace OpenG
open Go.RowKit Go.ChangeShapes Go.WideShapes Go.Deep Base Stru Opened OpenS
section
variable {H : Type} {P : Program}
theorem Light.zg8 {ts : List TypeId} {ds : List (DataW H)} (h : (DataW.weightsEach P ts ds).all (· ≤ reachBytes) = true) {j : Nat} {t : TypeId} {d : DataW H} (ht : ts[j]? = some t) (hd : ds[j]? = some d) : Light P t d :=
 fun q hq => of_decide_eq_true (List.all_eq_true.1 h _ (DataW.weights_mem_each ht hd q hq))
end
end OpenG
namespace ClH
open Go.RowKit Base BinM HpM HpA HpB HpS HpG HpP HpT HpZ HpR HpQ HpW LnkC ClM ClX ClY ClZ ClI ClJ ClA ClC ClL ClS ClU ClV ClP ClG
section
variable {w : World} {g mb : Nat} {Aw : Option Addr} {cw : Nat} {Aa : Option Addr} {ca most n : Nat} {f : Int → Option Int} {ts : List Th}
theorem Gy {x : Int} {t : Th} (h : Zp ts x = some t) : ∃ p r, ts = p ++ t :: r ∧ x = (((raw p).length + 1 : Nat) : Int) := by
 by_cases hx : x ∈ adr 0 ts
 · obtain ⟨p, t', r, rfl, rfl⟩ := Za hx
   rw [Nat.zero_add] at h ⊢
   rw [Zl] at h
   injection h with h
   subst h
   exact ⟨p, r, rfl, rfl⟩
 · rw [xC hx] at h; cases h
theorem zk3 {ws al : List Int} (H : HpX w g mb Aw cw Aa ca most ws al n f) (hb : al.length ≤ 4096) :
 Calls Tryz.prog 26 #[.pointer (some ⟨g, 0, none⟩)] w fun e w' => ∃ v, e = .returned v ∧ zT w' w.heap.size v al ∧ Below w.heap.size w w' := by
 have c1 := H.box.cell 2
 have HC := zH (Vf Aa al.length ca al w rfl (by omega) (Qz H.adr))
 clear H
 go_enter Tryz.func26, Tryz.ntmps26
 go_wp2_with (go_at_call 52; refine HC.out.mono ?_; rintro e w' ⟨v, rfl, ho, hbl⟩)
 go_ret
 exact ⟨v, rfl, ho, hbl⟩
end
theorem zj6 {ts : List Th} {f : Int → Option Int} {x : Int} {t : Th} {ps : List Nat} (h : Zp ts x = some t) (hp : Zh t = some ps) : cpT ts f x = ⟨t.id, ZN f t ps ps.length, 0⟩ := by
 unfold cpT
 rw [h]
 simp only
 rw [hp]
theorem Va {f : Int → Option Int} {t : Th} {ps : List Nat} (hn : ∀ p ∈ ps, p < t.W.length) (j : Nat) : ∀ k, k ≤ ps.length → (ZN f t ps k).getD j 0 = if j ∈ ps.take k then (f (t.W.getD j 0)).getD 0 else t.W.getD j 0
 | 0, _ => by simp [ZN]
 | k + 1, hk => by
   have hlt : k < ps.length := by omega
   rw [Qw f t ps hlt, List.take_succ_eq_append_getElem (i := k) hlt]
   have ih := Va (f := f) hn j k (by omega)
   have hl : ps[k] < (ZN f t ps k).length := by rw [QZ]; exact hn _ (List.getElem_mem hlt)
   by_cases e : j = ps[k]
   · subst e
     rw [if_pos (List.mem_append_right _ (List.mem_singleton.2 rfl)), List.getD_eq_getElem?_getD, List.getElem?_set_self hl]
     rfl
   · rw [List.getD_eq_getElem?_getD, List.getElem?_set_ne (fun h => e h.symm), ← List.getD_eq_getElem?_getD, ih]
     by_cases hj : j ∈ ps.take k
     · rw [if_pos hj, if_pos (List.mem_append_left _ hj)]
     · rw [if_neg hj, if_neg (fun hm => (List.mem_append.1 hm).elim hj (fun h => e (List.mem_singleton.1 h)))]
theorem cp_word {ts : List Th} {f : Int → Option Int} {x : Int} {t : Th} {ps : List Nat} (h : Zp ts x = some t) (hp : Zh t = some ps) (j : Nat) :
 (cpT ts f x).W.getD j 0 = if j ∈ ps then (f (t.W.getD j 0)).getD 0 else t.W.getD j 0 := by
 rw [zj6 h hp]
 have := Va (f := f) (Qj hp) j ps.length (Nat.le_refl _)
 rw [List.take_length] at this
 exact this
theorem cp_refs {ts : List Th} {f : Int → Option Int} {x : Int} {t : Th} {ps : List Nat} (h : Zp ts x = some t) (hp : Zh t = some ps) : Zh (cpT ts f x) = some ps := by
 rw [zj6 h hp]
 unfold Zh at hp ⊢
 simp only [QZ]
 exact hp
theorem za5 {us : List Th} {i : Nat} (hi : i < us.length) : ∃ h : i < (adr 0 us).length, Zp us (adr 0 us)[i] = some us[i] := by
 have hl : i < (adr 0 us).length := by rw [qd]; exact hi
 refine ⟨hl, ?_⟩
 have e : us = us.take i ++ us[i] :: us.drop (i + 1) := by rw [← List.drop_eq_getElem_cons hi, List.take_append_drop]
 have e2 : (adr 0 us)[i]? = some (((raw (us.take i)).length + 1 : Nat) : Int) := by
  have e3 : adr 0 us = adr 0 (us.take i) ++ adr (0 + (raw (us.take i)).length) (us[i] :: us.drop (i + 1)) := by rw [← Qa, ← e]
  have hti : (adr 0 (us.take i)).length = i := by rw [qd, List.length_take]; omega
  rw [e3, List.getElem?_append_right (by omega), hti, Nat.sub_self, Nat.zero_add]
  rfl
 rw [List.getElem?_eq_getElem hl] at e2
 injection e2 with e2
 rw [e2]
 have := Zl (us.take i) us[i] (us.drop (i + 1))
 rwa [← e] at this
def news (ts : List Th) (out : List Int) : List Th := out.map (cpT ts (zh ts (fun _ => none) out))
end ClH
end Go.Proofs.YtmkdhdmkdcankaaGreatDoor
namespace Go.Proofs.YtmkdhdmkdcankaaGreatDoor
namespace CeN
open Go.RowKit Base BinM LnkA LnkC LnkS ClA ClC ClL ClS ClU ClV ClW ClH CeB CeC CeR CeW
open HpM (zo zT Qv)
open ClM (Zh zn zP Zp come zB Zl Qj QX)
open HpA (Th raw adr Za)
open HpB (Fits)
open HpR (RfX ThM things Z6)
def jg (ts : List Th) (x : Int) : Th := match Zp ts x with
 | some t => ⟨t.id, t.W, 0⟩
 | none => ⟨0, [], 0⟩
theorem za1 {ts : List Th} {x : Int} {t : Th} (h : Zp ts x = some t) : jg ts x = ⟨t.id, t.W, 0⟩ := by unfold jg; rw [h]
theorem zg6 (ts : List Th) (x : Int) : (jg ts x).W.length = (QA ts x).W.length := by
 unfold jg QA
 cases Zp ts x <;> simp
theorem raw_org (ts : List Th) (l : List Int) : (raw (l.map (jg ts))).length = jB ts l := by
 rw [← uL]
 refine qV ?_
 unfold zs
 rw [List.map_map, List.map_map]
 exact List.map_congr_left (fun x _ => zg6 ts x)
theorem pos_org {ts : List Th} {f : Int → Option Int} {out : List Int} (hn : out.Nodup) {k : Nat} (hk : k < out.length) : (zh ts f out out[k]).getD 0 = (((raw ((out.take k).map (jg ts))).length + 1 : Nat) : Int) := by
 rw [pos_at (f' := f) hn hk, Option.getD_some]
 congr 2
 refine qV ?_
 rw [List.map_map, List.map_map]
 exact List.map_congr_left (fun x _ => (VN ts f x).trans (zg6 ts x).symm)
def nsO (ts : List Th) (f : Int → Option Int) (out : List Int) (k : Nat) : List Th := (out.take k).map (cpT ts f) ++ (out.drop k).map (jg ts)
theorem nsO_zero (ts : List Th) (f : Int → Option Int) (out : List Int) : nsO ts f out 0 = out.map (jg ts) := by unfold nsO; simp
theorem nsO_at (ts : List Th) (f : Int → Option Int) {out : List Int} {k : Nat} (hk : k < out.length) : nsO ts f out k = (out.take k).map (cpT ts f) ++ jg ts out[k] :: (out.drop (k + 1)).map (jg ts) := by
 unfold nsO
 rw [List.drop_eq_getElem_cons hk, List.map_cons]
theorem nsO_succ (ts : List Th) (f : Int → Option Int) {out : List Int} {k : Nat} (hk : k < out.length) : nsO ts f out (k + 1) = (out.take k).map (cpT ts f) ++ cpT ts f out[k] :: (out.drop (k + 1)).map (jg ts) := by
 unfold nsO
 rw [List.take_succ_eq_append_getElem hk, List.map_append, List.append_assoc]
 rfl
theorem nsO_all (ts : List Th) (f : Int → Option Int) (out : List Int) : nsO ts f out out.length = out.map (cpT ts f) := by unfold nsO; simp
theorem zl9 (f : Int → Option Int) (t : Th) (ps : List Nat) {k : Nat} (hk : k < ps.length) : HpZ.jT ⟨t.id, ZN f t ps k, 0⟩ ps[k] ((f (t.W.getD ps[k] 0)).getD 0) = ⟨t.id, ZN f t ps (k + 1), 0⟩ := by
 rw [Qw f t ps hk]
 rfl
theorem dcells2 {w : World} {r u : Nat} {An : Option Addr} {ts : List Th} (D : Doc w r u An ts) {p : List Th} {t : Th} {q : List Th} (e : ts = p ++ t :: q) : ∃ AL cL b o n mA mc, HpM.Bx w r #[.int .i64 400, .slice AL n cL] 63 ∧ AL = some ⟨b, o, none⟩ ∧ p.length < n ∧ n ≤ 40 ∧
 w.cell? ⟨b, o + p.length * 4, none⟩ = some (.int .i64 (((raw p).length + 1 : Nat) : Int)) ∧ w.cell? ⟨b, o + p.length * 4 + 1, none⟩ = some (.int .i64 (t.id : Int)) ∧ w.cell? ⟨b, o + p.length * 4 + 2, none⟩ = some (.slice mA t.W.length mc) ∧ w.cell? ⟨b, o + p.length * 4 + 3, none⟩ = some (.int .i64 t.s) ∧ Rds w mA (t.W.map (Value.int .i64)) := by
 obtain ⟨AL, cL, ms, H, h2⟩ := D.rf
 obtain ⟨p', m, q', rfl, h3, h4, h5⟩ := JE h2 e
 have hl : (p' ++ m :: q').length ≤ 40 := by
  have := D.few
  rw [← h2] at this
  unfold things at this
  rw [List.length_map] at this
  exact this
 obtain ⟨b, o, e1, k0, k1, k2, k3⟩ := H.cells rfl
 have hw := HpB.Qz (H.each m (by simp))
 rw [h5] at k0 k1 k2 k3
 rw [Ul H, h3] at k0
 rw [h4] at k1 k2 k3 hw
 exact ⟨AL, cL, b, o, _, _, _, H.box, e1, by rw [← h5]; simp, hl, k0, k1, k2, k3, hw⟩
theorem cell_of {W : World} {b o : Nat} {l : List Int} {j : Nat} (R : Rds W (some ⟨b, o, none⟩) (l.map (Value.int .i64))) (h : j < l.length) : W.cell? ⟨b, o + j, none⟩ = some (.int .i64 l[j]) := by
 rcases R with h0 | ⟨b', o', e, hlt, hc⟩
 · rw [List.map_eq_nil_iff] at h0
   subst h0
   simp at h
 · injection e with e
   injection e with e1 e2
   subst e1
   subst e2
   exact hc j _ (by rw [List.getElem?_map, List.getElem?_eq_getElem h]; rfl)
def Vp (w : World) (ts : List Th) (roots : List Int) (e : Ending) (w' : World) : Prop :=
 Below w.heap.size w w' ∧ (((zn ts roots).1 ≠ 0 ∧ e = .returned (.tuple #[.pointer none, .slice none 0 0, .int .i64 (zn ts roots).1])) ∨
 ((zn ts roots).1 = 0 ∧ ∃ (r2 : Nat) (A : Option Addr) (c : Nat), e = .returned (.tuple #[.pointer (some ⟨r2, 0, none⟩), .slice A roots.length c, .int .i64 0]) ∧
   Rds w' A ((roots.map (fun x => (zh ts (fun _ => none) (zn ts roots).2 x).getD 0)).map (Value.int .i64)) ∧
   ∃ AL cL ms, RfX w' r2 AL cL 400 ms ∧ things ms = news ts (zn ts roots).2 ∧ ∀ k, Z6 r2 AL ms k → w.heap.size ≤ k))
set_option maxRecDepth 100000 in
set_option maxHeartbeats 16000000 in
theorem gP {w : World} {r u : Nat} {An : Option Addr} {ts : List Th} (D : Doc w r u An ts) (hs0 : ∀ t ∈ ts, t.s = 0) (cn : Nat) {Ar : Option Addr} {cr : Nat} {roots : List Int} (R : Rds w Ar (roots.map (Value.int .i64))) (hrl : roots.length ≤ 100000) :
 Calls Tryz.prog 22 #[.pointer (some ⟨r, 0, none⟩), .pointer (some ⟨u, 0, none⟩), .slice An 6 cn, .slice Ar roots.length cr] w (Vp w ts roots) := by
 have HRe := zH (Ud D cn (cr := cr) R hrl)
 obtain ⟨i0, hi, hz, hz1, hz2⟩ := info_parts Qv
 have I0 := zH hi
 have I1 := zH hz
 have I2 := zH hz1
 have I3 := zH hz2
 have hbox : ∃ AL cL n, HpM.Bx w r #[.int .i64 400, .slice AL n cL] 63 := by
  obtain ⟨AL, cL, ms, H, h2⟩ := D.rf
  exact ⟨_, _, _, H.box⟩
 obtain ⟨ALr, cLr, nr, hbox⟩ := hbox
 have HBx := zH hbox
 have HD := zH (fun wr (hb : Below w.heap.size w wr) => D.later hb)
 have HR := zH R
 have HFit := zH D.fits
 have HS0 := zH hs0
 have HFew := zH D.few
 have HAl := zH (ClM.qd ts 0)
 have hgd := @Zu ts roots
 have hrefs := @Xt ts roots
 unfold Vp news
 clear D R hs0 hbox hi hz hz1 hz2
 generalize hre : zn ts roots = re at *
 obtain ⟨e0, out⟩ := re
 by_cases h0 : e0 = 0
 · subst h0
   have HG := zH (hgd rfl)
   have HRs := zH (hrefs rfl)
   have hol := HG.out.len
   rw [HAl.out] at hol
   have hfew := HFew.out
   have ho40 : out.length ≤ 40 := by omega
   have HNd := zH HG.out.nodup
   have HPos : Hid (∀ j (h : j < out.length), (zh ts (fun _ => none) out (out[j]'h)).getD 0 = (((raw ((out.take j).map (jg ts))).length + 1 : Nat) : Int)) := zH (fun j h => pos_org HNd.out h)
   have HPos2 : Hid (∀ j (h : j < out.length), (zh ts (fun _ => none) out (out[j]'h)).getD 0 = (((raw ((out.take j).map (cpT ts (zh ts (fun _ => none) out)))).length + 1 : Nat) : Int)) := zH (fun j h => by rw [pos_at (f' := zh ts (fun _ => none) out) HNd.out h, Option.getD_some])
   have HOut : Hid (∀ x, x ∉ out → (zh ts (fun _ => none) out x).getD 0 = 0) := zH (fun x h => by unfold zh; rw [if_neg h]; rfl)
   have HSum : Hid (∀ j, j ≤ out.length → (raw ((out.take j).map (jg ts))).length ≤ 400) := zH (fun j _ => by
    rw [raw_org]
    exact Nat.le_trans (xD (yI HG.out j)) HFit.out.len)
   have hc400 := HBx.out.cell 0
   clear hgd hrefs hol hre
   go_enter Tryz.func22, Tryz.ntmps22
   go_wp2_with (go_at_call 11; refine HRe.out.mono ?_; rintro e w1 ⟨A1, c1, rfl, hr1, hb1, ha1⟩; have HR1 := zH hr1; have HB1 := zH hb1; have HA1 := zH ha1; have hbx1 := HBx.out.after hb1; have hc1 := hbx1.cell 0; clear hr1 hb1 ha1 hbx1)
   go_loopw [14, 15] (fun s i wr => ∃ (j m d : Nat) (B : Option Addr), j ≤ out.length ∧ i = .int .i64 (j : Int) ∧ s = .slice B m d ∧ Rn w1 wr w1.heap.size ((out.take j).map (jg ts)) B m d ((out.take j).map (fun x => (zh ts (fun _ => none) out x).getD 0)) []) (fun _ i _ => out.length - (intOf i).toNat)
   case atStart => exact ⟨0, 0, 0, none, Nat.zero_le _, rfl, rfl, Rn.start w1 _ ((Below.refl _ _).alloc (Nat.le_refl _) _) (Nat.le_refl _) ⟨HpM.Bx.new _ _ _, World.ownsRow_nil _ _ _ _, (fun m hm => by cases hm), (fun a ha => by cases ha), (fun m hm => by cases hm), List.Pairwise.nil, rfl⟩⟩
   case round =>
    obtain ⟨j, m, d, B, hj, rfl, rfl, hrn⟩ := hrel
    have HRn := zH hrn
    have HD1 := zH (HD.out wr ((HB1.out).trans (hrn.bel.mono HB1.out.size)))
    have hszr := hrn.bel.size
    have hml := hrn.ro.len
    rw [List.length_map] at hml
    by_cases hlt : j < out.length
    · obtain ⟨rb, ro, rfl, hrb, q0⟩ := HpS.ZP (HR1.out.below hrn.bel) hlt
      have hj1 : (j : Int) < (out.length : Int) := by omega
      have e : out.getD j 0 = out[j] := by rw [List.getD_eq_getElem?_getD, List.getElem?_eq_getElem hlt]; rfl
      rw [e] at q0
      obtain ⟨p, t, q, hts, hx⟩ := Za (HG.out.sub _ (List.getElem_mem hlt))
      rw [Nat.zero_add] at hx
      have hth : Zp ts out[j] = some t := by rw [hx, hts]; exact Zl p t q
      have ht0 : t.s = 0 := HS0.out t (by rw [hts]; simp)
      have HFd := zH (X9 HD1.out hts)
      obtain ⟨AL, cL, b, o, nL, mA, mc, hbx, rfl, hpn, hn40, k0, k1, k2, k3, hrw⟩ := dcells2 HD1.out hts
      rw [ht0] at k3
      have c1 := hbx.cell 1
      have hmj : m ≤ 40 := by rw [hml, List.length_take]; omega
      clear hml
      have hp1 : (p.length : Int) < (nL : Int) := by omega
      have hid : t.id ≤ 65535 := by
       have := HFit.out.ids t (by rw [hts]; simp)
       omega
      have hsum := HSum.out (j + 1) (by omega)
      rw [List.take_succ_eq_append_getElem hlt, List.map_append, HpA.Q8, List.length_append] at hsum
      have e1 : (raw ([out[j]].map (jg ts))).length = 1 + t.W.length := by
       rw [List.map_cons, List.map_nil, za1 hth]
       unfold raw
       simp [HpA.Zd]
      rw [e1] at hsum
      have HPut := zH (fun O => rn_put (hrn.beside ((Below.refl wr.heap.size wr).alloc (Nat.le_refl _) O)) t.id hid (c := mc) t.W (hrw.below ((Below.refl wr.heap.size wr).alloc (Nat.le_refl _) O)) hsum (by rw [List.length_map, List.length_take]; omega))
      have e2 : (out.take j).map (jg ts) ++ [⟨t.id, t.W, 0⟩] = (out.take (j + 1)).map (jg ts) := by
       rw [List.take_succ_eq_append_getElem hlt, List.map_append, List.map_cons, List.map_nil, za1 hth]
      have e3 : (((raw ((out.take j).map (jg ts))).length + 1 : Nat) : Int) = (zh ts (fun _ => none) out out[j]).getD 0 := (HPos.out j hlt).symm
      rw [e2, e3] at HPut
      have HNx : Hid ((out.take j).map (fun x => (zh ts (fun _ => none) out x).getD 0) ++ [(zh ts (fun _ => none) out out[j]).getD 0] = (out.take (j + 1)).map (fun x => (zh ts (fun _ => none) out x).getD 0)) := zH (by rw [List.take_succ_eq_append_getElem hlt, List.map_append]; rfl)
      rw [hx] at q0
      clear e e1 e2 e3 hx hth hts hrn hbx hrw hsum
      generalize (zh ts (fun _ => none) out out[j]).getD 0 = at_ at *
      generalize ((raw p).length + 1 : Nat) = xx at *
      go_wp2_with (first
       | (go_at_call 45; refine HFd.out.mono ?_; rintro e w' ⟨rfl, rfl⟩)
       | (go_at_call 58; refine (HPut.out _).mono ?_; rintro e w' ⟨rfl, hrn'⟩; have HRn' := zH hrn'; have hs' := hrn'.bel.size; clear hrn')
       | (at_builtin
          refine wpList_append_lies _ rfl (.tmp 76) (.tmp 78) 27 rfl w1.heap.size 2 i0 _ 1 8 Tryz.underlying27 I0.out I1.out I2.out I3.out rfl (by omega) (.slice B m d) m (((out.take j).map (fun x => (zh ts (fun _ => none) out x).getD 0)).map (Value.int .i64)) rfl (HRn'.out.ro.alloc _) ⟨w'.heap.size, 0, none⟩ 1 1 [.int .i64 at_] rfl rfl (World.news_of_block (cs := #[.int .i64 at_]) (t := 2) (fr := (0, 0)) (heap_alloc_new w' _)) (by simp [Value.oneCell']) (by omega) (by unfold maxLen; omega) (by omega) (by simp; omega) _ rfl ?_
          intro b5 c5 w5 hown5 hg5 hat5 hlt5
          have P5 := zH (HRn'.out.push (b5 := b5) (c5 := c5) at_ hg5 hown5 hat5)
          clear hown5 hg5 hat5))
      go_roundw
      case rel => exact ⟨j + 1, m + 1, _, _, by omega, by go_num, rfl, by rw [← HNx.out]; exact P5.out⟩
      case measure => simp [intOf]; omega
    · have hjo : j = out.length := by omega
      subst hjo
      have HRn2 : Hid (Rn w1 wr w1.heap.size (nsO ts (zh ts (fun _ => none) out) out 0) B m d (out.map (fun x => (zh ts (fun _ => none) out x).getD 0)) []) := zH (by
       rw [nsO_zero]
       have := HRn.out
       rw [List.take_length] at this
       exact this)
      rw [List.take_length] at hml
      clear hrn hj
      go_wp2_with fail
      subst hml
      go_loopw [20] (fun i wr => ∃ j : Nat, j ≤ out.length ∧ i = .int .i64 (j : Int) ∧ Rn w1 wr w1.heap.size (nsO ts (zh ts (fun _ => none) out) out j) B out.length d (out.map (fun x => (zh ts (fun _ => none) out x).getD 0)) []) (fun i _ => out.length - (intOf i).toNat)
      case atStart => exact ⟨0, Nat.zero_le _, rfl, HRn2.out⟩
      case round =>
       clear HRn HRn2 HD1 hszr
       obtain ⟨j, hj, rfl, hrn⟩ := hrel
       have HRn := zH hrn
       have HD1 := zH (HD.out _ ((HB1.out).trans (hrn.bel.mono HB1.out.size)))
       have hszr := hrn.bel.size
       by_cases hlt : j < out.length
       · obtain ⟨t, ps, hth, hps⟩ := HRs.out j hlt
         obtain ⟨p, q, hts, hx⟩ := Gy hth
         have hRx : Qq ts out[j] = (0, ps.map (fun (k : Nat) => (k : Int))) := by
          unfold Qq
          rw [hth]
          simp only [hps]
         obtain ⟨rb, ro, rfl, hrb, q0⟩ := HpS.ZP (HR1.out.below hrn.bel) hlt
         have hj1 : (j : Int) < (out.length : Int) := by omega
         have e : out.getD j 0 = out[j] := by rw [List.getD_eq_getElem?_getD, List.getElem?_eq_getElem hlt]; rfl
         rw [e] at q0
         have HQ0 : Hid (∀ W, Below w1.heap.size w1 W → W.cell? ⟨rb, ro + j, none⟩ = some (.int .i64 out[j])) := zH (fun W hW => cell_of (HR1.out.below hW) hlt)
         have HRf := V4 HD1.out cn out[j]
         rw [hRx] at HRf
         have HRf1 := zH HRf
         have hrn1 := hrn
         rw [nsO_at ts _ hlt, za1 hth] at hrn1
         have HSt : Hid (Rn w1 wr w1.heap.size ((out.take j).map (cpT ts (zh ts (fun _ => none) out)) ++ ⟨t.id, ZN (zh ts (fun _ => none) out) t ps 0, 0⟩ :: (out.drop (j + 1)).map (jg ts)) B out.length d (out.map (fun x => (zh ts (fun _ => none) out x).getD 0)) []) := zH hrn1
         have HEnd : Hid ((out.take j).map (cpT ts (zh ts (fun _ => none) out)) ++ ⟨t.id, ZN (zh ts (fun _ => none) out) t ps ps.length, 0⟩ :: (out.drop (j + 1)).map (jg ts) = nsO ts (zh ts (fun _ => none) out) out (j + 1)) := zH (by rw [nsO_succ ts _ hlt, zj6 hth hps])
         have HLn : Hid (∀ T : Th, ((out.take j).map (cpT ts (zh ts (fun _ => none) out)) ++ T :: (out.drop (j + 1)).map (jg ts)).length ≤ 4096) := zH (fun T => by
          rw [List.length_append, List.length_cons, List.length_map, List.length_map, List.length_take, List.length_drop]
          omega)
         have hown : zT wr w1.heap.size (.slice B (out.map (fun x => (zh ts (fun _ => none) out x).getD 0)).length d) (out.map (fun x => (zh ts (fun _ => none) out x).getD 0)) := by
          have := hrn.ro.own
          unfold zT
          rw [List.length_map]
          exact this
         obtain ⟨nb, hB, hnb⟩ := HpB.qH hown (by rw [List.length_map]; omega)
         subst hB
         have hplt := Qj hps
         have HPlt := zH hplt
         have hpsl := QX hps
         have hw400 := Yv HFit.out (t := t) (by rw [hts]; simp)
         have HGe : Hid (∀ W, Below w.heap.size w W → ∀ i : Int, Calls Tryz.prog 47 #[.pointer (some ⟨r, 0, none⟩), .int .i64 out[j], .int .i64 i] W fun e w' => e = .returned (.tuple #[.int .i64 (HpG.qD t.W i).1, .int .i64 (HpG.qD t.W i).2]) ∧ W = w') := zH (fun W hW i => by rw [hx]; exact gQ (HD.out W hW) hts i)
         have hP := HPos2.out j hlt
         clear e hRx HRf hrn1 hown hrn hth hts hx hplt HRn
         go_wp2_with (go_at_call 17; refine HRf1.out.mono ?_; rintro e w4 ⟨A2, c2, rfl, hr4, hc4, hb4, hfar⟩; have HS4 := zH (HSt.out.cons hb4 hr4 hfar); clear hr4 hb4 hfar hc4)
         go_loopw [23] (fun i wr => ∃ k : Nat, k ≤ ps.length ∧ i = .int .i64 (k : Int) ∧ Rn w1 wr w1.heap.size ((out.take j).map (cpT ts (zh ts (fun _ => none) out)) ++ ⟨t.id, ZN (zh ts (fun _ => none) out) t ps k, 0⟩ :: (out.drop (j + 1)).map (jg ts)) (some ⟨nb, 0, none⟩) out.length d (out.map (fun x => (zh ts (fun _ => none) out x).getD 0)) [(A2, (ps.map (fun (k : Nat) => (k : Int))).map (Value.int .i64))]) (fun i _ => ps.length - (intOf i).toNat)
         case atStart => exact ⟨0, Nat.zero_le _, rfl, HS4.out⟩
         case round =>
          clear HS4 HSt HD1 q0 hszr
          obtain ⟨k, hk, rfl, hrn⟩ := hrel
          have hbl := hrn.bel
          have hszr := hbl.size
          have HRn := zH hrn
          by_cases hlt2 : k < ps.length
          · obtain ⟨ab, ao, rfl, hrb, qk⟩ := HpS.ZP hrn.head (k := k) (by simpa using hlt2)
            have e : (ps.map (fun (k : Nat) => (k : Int))).getD k 0 = ((ps[k] : Nat) : Int) := by rw [List.getD_eq_getElem?_getD, List.getElem?_map, List.getElem?_eq_getElem hlt2]; rfl
            rw [e] at qk
            have hk1 : (k : Int) < (ps.length : Int) := by omega
            have q0 := HQ0.out wr hbl
            have hown : zT wr w1.heap.size (.slice (some ⟨nb, 0, none⟩) (out.map (fun x => (zh ts (fun _ => none) out x).getD 0)).length d) (out.map (fun x => (zh ts (fun _ => none) out x).getD 0)) := by
             have := hrn.ro.own
             unfold zT
             rw [List.length_map]
             exact this
            have qn := HpB.Zq hown (k := j) (List.getElem?_eq_getElem (by rw [List.length_map]; exact hlt))
            rw [List.getElem_map, hP] at qn
            have hpk := HPlt.out ps[k] (List.getElem_mem hlt2)
            have hge : (HpG.qD t.W ((ps[k] : Nat) : Int)).1 = t.W.getD ps[k] 0 := by
             unfold HpG.qD
             rw [if_pos (by omega), Int.toNat_natCast]
            have HG2 : Hid (∀ nq, Calls Tryz.prog 47 #[.pointer (some ⟨r, 0, none⟩), .int .i64 out[j], .int .i64 ((ps[k] : Nat) : Int)] (wr.drewN nq) fun e w' => e = .returned (.tuple #[.int .i64 (t.W.getD ps[k] 0), .int .i64 (HpG.qD t.W ((ps[k] : Nat) : Int)).2]) ∧ w' = wr.drewN nq) := zH (fun nq => by
             rw [← hge]
             exact (HGe.out (wr.drewN nq) ((HB1.out.trans (hbl.mono HB1.out.size)).trans ((HpE.zf wr nq).mono (Nat.le_trans HB1.out.size hszr))) ((ps[k] : Nat) : Int)).mono (fun e w' h => ⟨h.1, h.2.symm⟩))
            have HNC : Hid (∀ (W : World) (T : List Th) (Q : List (Option Addr × List Value)), Rn w1 W w1.heap.size T (some ⟨nb, 0, none⟩) out.length d (out.map (fun x => (zh ts (fun _ => none) out x).getD 0)) Q → W.cell? ⟨nb, j, none⟩ = some (.int .i64 (((raw ((out.take j).map (cpT ts (zh ts (fun _ => none) out)))).length + 1 : Nat) : Int))) := zH (fun W T Q hW => by
             have hown : zT W w1.heap.size (.slice (some ⟨nb, 0, none⟩) (out.map (fun x => (zh ts (fun _ => none) out x).getD 0)).length d) (out.map (fun x => (zh ts (fun _ => none) out x).getD 0)) := by
              have := hW.ro.own
              unfold zT
              rw [List.length_map]
              exact this
             have qn := HpB.Zq hown (k := j) (List.getElem?_eq_getElem (by rw [List.length_map]; exact hlt))
             rw [List.getElem_map, hP] at qn
             exact qn)
            have HAC : Hid (∀ (W : World) (T : List Th), Rn w1 W w1.heap.size T (some ⟨nb, 0, none⟩) out.length d (out.map (fun x => (zh ts (fun _ => none) out x).getD 0)) [(some ⟨ab, ao, none⟩, (ps.map (fun (k : Nat) => (k : Int))).map (Value.int .i64))] → W.cell? ⟨ab, ao + k, none⟩ = some (.int .i64 ((ps[k] : Nat) : Int))) := zH (fun W T hW => by
             have := cell_of hW.head (j := k) (by simpa using hlt2)
             rw [List.getElem_map] at this
             exact this)
            have HWh := zH (fun (W : World) (hW : Below wr.heap.size wr W) => UR (some ⟨rb, ro, none⟩) (some ⟨nb, 0, none⟩) out (fun x => (zh ts (fun _ => none) out x).getD 0) out.length c1 d (t.W.getD ps[k] 0) W rfl (by omega) ((HR1.out.below hbl).below hW) ((HpB.Qz hown).below hW) (HOut.out _))
            have HSt2 := zH (fun (W : World) (hW : Below wr.heap.size wr W) => rn_set (HRn.out.beside hW) (HLn.out _) (by show (ZN _ _ _ _).length ≤ 4096; rw [QZ]; omega) ps[k] (by show ps[k] < (ZN _ _ _ _).length; rw [QZ]; exact hpk) ((zh ts (fun _ => none) out (t.W.getD ps[k] 0)).getD 0))
            rw [zl9 _ _ _ hlt2] at HSt2
            clear e hge hown hpk hrn
            generalize (zh ts (fun _ => none) out (t.W.getD ps[k] 0)).getD 0 = sv at *
            generalize t.W.getD ps[k] 0 = v at *
            generalize (HpG.qD t.W ((ps[k] : Nat) : Int)).2 = ge at *
            generalize ((ps[k] : Nat) : Int) = pk at *
            go_wp2_with fail
            go_quiet ((go_at_call 47; exact Calls.quiet_of_same (HG2.out _)))
            have HRn3 := zH (HRn.out.beside (HpE.zf wr nq))
            have HAt : Hid (∀ W : World, Below (wr.drewN nq).heap.size (wr.drewN nq) W → (W.cell? ⟨nb, j, none⟩ = some (.int .i64 (((raw ((out.take j).map (cpT ts (zh ts (fun _ => none) out)))).length + 1 : Nat) : Int)) ∧ W.cell? ⟨ab, ao + k, none⟩ = some (.int .i64 pk))) := zH (fun W hW => ⟨HNC.out W _ _ (HRn3.out.beside hW), HAC.out W _ (HRn3.out.beside hW)⟩)
            have HWh1 : Hid (∀ W : World, Below (wr.drewN nq).heap.size (wr.drewN nq) W → Calls Tryz.prog 59 #[.slice (some ⟨rb, ro, none⟩) out.length c1, .slice (some ⟨nb, 0, none⟩) out.length d, .int .i64 v] W fun e w' => e = .returned (.int .i64 sv) ∧ Below W.heap.size W w') := zH (fun W hW => (HWh.out W ((HpE.zf wr nq).trans hW)).mono (fun e w' h => ⟨h.1, h.2 ▸ Below.refl _ _⟩))
            obtain ⟨S3, hS3⟩ : ∃ S3 : World → Prop, S3 = fun w' => Rn w1 w' w1.heap.size ((out.take j).map (cpT ts (zh ts (fun _ => none) out)) ++ ⟨t.id, ZN (zh ts (fun _ => none) out) t ps (k + 1), 0⟩ :: (out.drop (j + 1)).map (jg ts)) (some ⟨nb, 0, none⟩) out.length d (out.map (fun x => (zh ts (fun _ => none) out x).getD 0)) [(some ⟨ab, ao, none⟩, (ps.map (fun (k : Nat) => (k : Int))).map (Value.int .i64))] := ⟨_, rfl⟩
            have HSt3 : Hid (∀ W : World, Below (wr.drewN nq).heap.size (wr.drewN nq) W → Calls Tryz.prog 42 #[.pointer (some ⟨w1.heap.size, 0, none⟩), .int .i64 (((raw ((out.take j).map (cpT ts (zh ts (fun _ => none) out)))).length + 1 : Nat) : Int), .int .i64 pk, .int .i64 sv] W fun e w' => e = .returned (.int .i64 0) ∧ S3 w') := zH (fun W hW => by rw [hS3]; exact HSt2.out W ((HpE.zf wr nq).trans hW))
            have HAt3 : Hid (∀ W : World, S3 W → (W.cell? ⟨nb, j, none⟩ = some (.int .i64 (((raw ((out.take j).map (cpT ts (zh ts (fun _ => none) out)))).length + 1 : Nat) : Int)) ∧ W.cell? ⟨ab, ao + k, none⟩ = some (.int .i64 pk))) := zH (fun W hW => by rw [hS3] at hW; exact ⟨HNC.out W _ _ hW, HAC.out W _ hW⟩)
            have HS3 := zH hS3
            clear HG2 HWh HSt2 q0 qn qk HRn hbl hszr HNC HAC HRn3 hS3 hP
            generalize (((raw ((out.take j).map (cpT ts (zh ts (fun _ => none) out)))).length + 1 : Nat) : Int) = np at HAt HSt3 HAt3
            generalize wr.drewN nq = wd at *
            have hD : Below wd.heap.size wd wd.drew := ((Below.refl wd.heap.size wd)).drew
            obtain ⟨y1, y2⟩ := HAt.out wd (Below.refl _ _)
            go_wp2_with fail
            go_region_held3 (fun w' => w'.cell? ⟨nb, j, none⟩ = some (.int .i64 np) ∧ w'.cell? ⟨ab, ao + k, none⟩ = some (.int .i64 pk))
             (first | go_keep)
             (first
              | (go_at_call 59
                 refine (HWh1.out _ hD).mono ?_
                 rintro e v6 ⟨rfl, hb⟩
                 have hF : Below wd.heap.size wd v6 := Below.trans hD (hb.mono hD.size)
                 have y3 := (HAt.out v6 hF).1
                 have y4 := (HAt.out v6 hF).2
                 clear hb)
              | (go_at_call 42
                 refine (HSt3.out _ hF).mono ?_
                 rintro e v7 ⟨rfl, hs⟩
                 have HS7 := zH hs
                 have y5 := (HAt3.out v7 hs).1
                 have y6 := (HAt3.out v7 hs).2
                 clear hs))
            go_wp2_with fail
            go_roundw
            case rel => exact ⟨k + 1, by omega, by go_num, by have := HS7.out; rw [HS3.out] at this; exact this⟩
            case measure => simp [intOf]; omega
          · have HE := zH (show k = ps.length by omega)
            have hkn : ¬ (k : Int) < (ps.length : Int) := by omega
            clear hrn
            go_wp2_with fail
            go_roundw
            case rel =>
             refine ⟨j + 1, by omega, by go_num, ?_⟩
             have := HRn.out.tail
             rw [HE.out, HEnd.out] at this
             exact this
            case measure => simp [intOf]; omega
       · have hjo : j = out.length := by omega
         subst hjo
         have HEv := zH (nsO_all ts (zh ts (fun _ => none) out) out)
         have hb0 := (HB1.out).trans (hrn.bel.mono HB1.out.size)
         have HNow := zH (show Rds wr B ((out.map (fun x => (zh ts (fun _ => none) out x).getD 0)).map (Value.int .i64)) from Rds.own hrn.ro.own)
         have HRr := zH (HR.out.below hb0)
         have HRl := zH (HR1.out.below hrn.bel)
         have HWh : Hid (∀ W, Below wr.heap.size wr W → ∀ x, Calls Tryz.prog 59 #[.slice A1 out.length c1, .slice B out.length d, .int .i64 x] W fun e w' => e = .returned (.int .i64 ((zh ts (fun _ => none) out x).getD 0)) ∧ W = w') := zH (fun W hW x => UR A1 B out (fun x => (zh ts (fun _ => none) out x).getD 0) out.length c1 d x W rfl (by omega) (HRl.out.below hW) (HNow.out.below hW) (HOut.out x))
         have HRnE := zH hrn
         clear hj hrn HD1 hb0
         go_wp2_with fail
         go_loopw [26, 27] (fun s i wq => ∃ (j n c : Nat) (A : Option Addr), j ≤ roots.length ∧ i = .int .i64 (j : Int) ∧ s = .slice A n c ∧ Ro wr wq A n c ((roots.take j).map (fun x => (zh ts (fun _ => none) out x).getD 0))) (fun _ i _ => roots.length - (intOf i).toNat)
         case atStart => exact ⟨0, 0, 0, none, Nat.zero_le _, rfl, rfl, Ro.start wr⟩
         case round =>
          obtain ⟨j, n, c, A, hj, rfl, rfl, hro⟩ := hrel
          have HRo := zH hro
          have hszq := hro.bel.size
          have hnl := hro.len
          rw [List.length_map, List.length_take] at hnl
          by_cases hlt : j < roots.length
          · obtain ⟨rb, ro, rfl, hrb, q0⟩ := HpS.ZP (HRr.out.below hro.bel) hlt
            have hj1 : (j : Int) < (roots.length : Int) := by omega
            have e : roots.getD j 0 = roots[j] := by rw [List.getD_eq_getElem?_getD, List.getElem?_eq_getElem hlt]; rfl
            rw [e] at q0
            have HNx : Hid ((roots.take j).map (fun x => (zh ts (fun _ => none) out x).getD 0) ++ [(zh ts (fun _ => none) out roots[j]).getD 0] = (roots.take (j + 1)).map (fun x => (zh ts (fun _ => none) out x).getD 0)) := zH (by rw [List.take_succ_eq_append_getElem hlt, List.map_append]; rfl)
            have HW1 := zH (HWh.out _ hro.bel roots[j])
            have hnj : n ≤ 100000 := by omega
            clear e hro hnl
            generalize (zh ts (fun _ => none) out roots[j]).getD 0 = sv at *
            generalize roots[j] = x at *
            go_wp2_with (first
             | (go_at_call 59; refine HW1.out.mono ?_; rintro e w' ⟨rfl, rfl⟩)
             | (at_builtin
                refine wpList_append_lies _ rfl (.tmp 136) (.tmp 144) 27 rfl _ 2 i0 _ 1 8 Tryz.underlying27 I0.out I1.out I2.out I3.out rfl (by omega) (.slice A n c) n (((roots.take j).map (fun x => (zh ts (fun _ => none) out x).getD 0)).map (Value.int .i64)) rfl (HRo.out.alloc _) ⟨wr.heap.size, 0, none⟩ 1 1 [.int .i64 sv] rfl rfl (World.news_of_block (cs := #[.int .i64 sv]) (t := 2) (fr := (0, 0)) (heap_alloc_new wr _)) (by simp [Value.oneCell']) (by omega) (by unfold maxLen; omega) (by omega) (by simp; omega) _ rfl ?_
                intro b5 c5 w5 hown5 hg5 hat5 hlt5
                have P5 := zH (HRo.out.push (b5 := b5) (c5 := c5) sv hg5 hown5)
                clear hown5 hg5 hat5))
            go_roundw
            case rel => exact ⟨j + 1, n + 1, _, _, by omega, by go_num, rfl, by rw [← HNx.out]; exact P5.out⟩
            case measure => simp [intOf]; omega
          · have hj1 : ¬ (j : Int) < (roots.length : Int) := by omega
            have hn2 : n = roots.length := by omega
            subst hn2
            have HE := zH (show roots.take j = roots from List.take_of_length_le (by omega))
            clear hro hnl
            go_wp2_with fail
            go_ret3
            have hro := HRo.out
            have hrn := HRnE.out.beside hro.bel
            obtain ⟨ro', AL, cL, ms, X, h1, h2, h3, h4⟩ := hrn
            rw [HEv.out] at h1
            rw [HE.out] at hro
            exact ⟨HB1.out.trans (ro'.bel.mono HB1.out.size), w1.heap.size, A, ⟨c, rfl⟩, by rw [← List.map_map]; exact Rds.own hro.own, AL, cL, ms, X, h1, fun k hk => Nat.le_trans HB1.out.size (h2 k hk)⟩
 · have h0' : (e0 != 0) = true := by simpa using h0
   have h0'' : (e0 == 0) = false := by simpa using h0
   have HE0 := zH h0
   clear h0 hgd hrefs
   go_enter Tryz.func22, Tryz.ntmps22
   go_wp2_with (go_at_call 11; refine HRe.out.mono ?_; rintro e w1 ⟨A1, c1, rfl, hr1, hb1, ha1⟩; have HB1 := zH hb1; clear hr1 hb1 ha1)
   go_ret3
   exact ⟨HB1.out, .inl ⟨HE0.out, rfl⟩⟩
end CeN
end Go.Proofs.YtmkdhdmkdcankaaGreatDoor
namespace Go.Proofs.YtmkdhdmkdcankaaGreatDoor
namespace CeS
open Go.RowKit Base BinM HpM HpA HpB HpG HpP HpT HpZ ClM ClL ClS ClU ClV ClW ClG ClH
theorem adr_get {us : List Th} {i : Nat} (hi : i < us.length) : (adr 0 us)[i]? = some (((raw (us.take i)).length + 1 : Nat) : Int) := by
 have e : us = us.take i ++ us[i] :: us.drop (i + 1) := by rw [← List.drop_eq_getElem_cons hi, List.take_append_drop]
 have e3 : adr 0 us = adr 0 (us.take i) ++ adr (0 + (raw (us.take i)).length) (us[i] :: us.drop (i + 1)) := by rw [← Qa, ← e]
 have hti : (adr 0 (us.take i)).length = i := by rw [qd, List.length_take]; omega
 rw [e3, List.getElem?_append_right (by omega), hti, Nat.sub_self, Nat.zero_add]
 rfl
theorem Vo : ∀ {a b : List Th} (k : Nat), a.map (fun t => t.W.length) = b.map (fun t => t.W.length) → adr k a = adr k b
 | [], [], _, _ => rfl
 | [], _ :: _, _, h => by cases h
 | _ :: _, [], _, h => by cases h
 | x :: a, y :: b, k, h => by
   simp only [List.map_cons, List.cons.injEq] at h
   simp only [adr, h.1, Vo _ h.2]
theorem adr_nodup (us : List Th) : (adr 0 us).Nodup := (HpQ.zd7 us 0).imp (fun h => by omega)
def sF (ts : List Th) (out : List Int) (x : Int) : Int := (zh ts (fun _ => none) out x).getD 0
section
variable {ts : List Th} {out : List Int}
theorem ji : (news ts out).length = out.length := by unfold news; rw [List.length_map]
theorem jm (hn : out.Nodup) : out.map (sF ts out) = adr 0 (news ts out) := by
 apply List.ext_getElem?
 intro i
 by_cases hi : i < out.length
 · rw [adr_get (by rw [ji]; exact hi), List.getElem?_map, List.getElem?_eq_getElem hi]
   simp only [Option.map_some]
   unfold sF
   rw [pos_at (f' := zh ts (fun _ => none) out) hn hi, Option.getD_some]
   unfold news
   rw [← List.map_take]
 · rw [List.getElem?_eq_none (by rw [List.length_map]; omega), List.getElem?_eq_none (by rw [qd, ji]; omega)]
theorem GK {x : Int} (h : x ∉ out) : sF ts out x = 0 := by unfold sF zh; rw [if_neg h]; rfl
theorem zf8 (hg : ClM.Good (adr 0 ts) out) : sF ts out 0 = 0 := GK (fun h => by
 have := (QO ts 0 0 (hg.sub 0 h)).1
 omega)
theorem sF_ne {x : Int} (h : x ∈ out) : sF ts out x ≠ 0 := by
 unfold sF zh
 rw [if_pos h, Option.getD_some]
 unfold posE
 omega
theorem sF_inj (hn : out.Nodup) {x y : Int} (hx : x ∈ out) (hy : y ∈ out) (h : sF ts out x = sF ts out y) : x = y := by
 obtain ⟨i, hi, rfl⟩ := List.getElem_of_mem hx
 obtain ⟨j, hj, rfl⟩ := List.getElem_of_mem hy
 have hp := HpQ.zd7 (news ts out) 0
 rw [← jm hn, List.pairwise_map, List.pairwise_iff_getElem] at hp
 rcases Nat.lt_trichotomy i j with h1 | h1 | h1
 · have := hp i j hi hj h1
   omega
 · subst h1; rfl
 · have := hp j i hj hi h1
   omega
theorem th_new (hn : out.Nodup) {x : Int} (hx : x ∈ out) : Zp (news ts out) (sF ts out x) = some (cpT ts (zh ts (fun _ => none) out) x) := by
 obtain ⟨i, hi, rfl⟩ := List.getElem_of_mem hx
 obtain ⟨h1, h2⟩ := za5 (us := news ts out) (i := i) (by rw [ji]; exact hi)
 have h3 : (out.map (sF ts out))[i]? = (adr 0 (news ts out))[i]? := by rw [jm hn]
 rw [List.getElem?_map, List.getElem?_eq_getElem hi, List.getElem?_eq_getElem h1, Option.map_some] at h3
 injection h3 with h3
 rw [h3, h2]
 unfold news
 rw [List.getElem_map]
theorem YG (hg : ClM.Good (adr 0 ts) out) : ∀ {xs o o2 : List Int}, come (adr 0 ts) o xs = some o2 → (∀ x ∈ o2, x ∈ out) → come (adr 0 (news ts out)) (o.map (sF ts out)) (xs.map (sF ts out)) = some (o2.map (sF ts out))
 | [], o, o2, h, _ => by
   simp only [come, Option.some.injEq] at h
   subst h
   simp only [List.map_nil, come]
 | x :: xs, o, o2, h, hs => by
   rw [come] at h
   rw [List.map_cons, come]
   split at h
   · rename_i hc
     rw [if_pos (by
      rcases hc with rfl | hc
      · exact .inl (zf8 hg)
      · exact .inr (List.mem_map_of_mem hc))]
     exact YG hg h hs
   · rename_i hc
     split at h
     · have hp2 := ZY h
       have hx : x ∈ out := hs x (hp2.subset (by simp))
       rw [if_neg (by
        rintro (h0 | h0)
        · exact sF_ne hx h0
        · obtain ⟨y, hy, e⟩ := List.mem_map.1 h0
          have := sF_inj hg.nodup (hs y (hp2.subset (by simp [hy]))) hx e
          subst this
          exact hc (.inr hy)), if_pos (by
        rw [← jm hg.nodup]
        exact List.mem_map_of_mem hx)]
       have := YG hg h hs
       rw [List.map_append] at this
       exact this
     · cases h
theorem Xo {k i : Nat} {o : List Int} (h : zP ts k i o = (0, out)) (hi : out.length ≤ i) : o = out := by
 have hp := Zt _ _ _ _ h
 cases k with
 | zero =>
   rw [zP] at h
   injection h
 | succ k =>
   rw [zP, List.getElem?_eq_none (by have := hp.length_le; omega)] at h
   injection h
theorem YL {us : List Th} {k i : Nat} {o : List Int} (hi : o.length ≤ i) : zP us k i o = (0, o) := by
 cases k with
 | zero => rw [zP]
 | succ k => rw [zP, List.getElem?_eq_none hi]
theorem zl6 (hg : ClM.Good (adr 0 ts) out) : ∀ (k' k i : Nat) (o : List Int), zP ts k i o = (0, out) → out.length < i + k → out.length < i + k' → zP (news ts out) k' i (o.map (sF ts out)) = (0, out.map (sF ts out)) := by
 intro k'
 induction k' with
 | zero =>
   intro k i o h _ h2
   have ho := Xo h (by omega)
   subst ho
   exact YL (by rw [List.length_map]; omega)
 | succ k' ih =>
   intro k i o h h1 h2
   cases k with
   | zero =>
     have ho := Xo h (by omega)
     subst ho
     exact YL (by rw [List.length_map]; omega)
   | succ k =>
     have hpre := Zt _ _ _ _ h
     rw [zP] at h ⊢
     cases ho : o[i]? with
     | none =>
       rw [ho] at h
       injection h with _ h
       subst h
       rw [List.getElem?_map, ho]
       rfl
     | some x =>
       rw [ho] at h
       simp only at h
       rw [List.getElem?_map, ho]
       simp only [Option.map_some]
       cases ht : Zp ts x with
       | none => rw [ht] at h; simp at h
       | some t =>
         rw [ht] at h
         simp only at h
         cases hq : Zh t with
         | none => rw [hq] at h; simp at h
         | some ps =>
           rw [hq] at h
           simp only at h
           cases hc : come (adr 0 ts) o (zB t ps) with
           | none => rw [hc] at h; simp at h
           | some o2 =>
             rw [hc] at h
             simp only at h
             have hxo : x ∈ out := hpre.subset (List.mem_of_getElem? ho)
             rw [th_new hg.nodup hxo]
             simp only
             rw [cp_refs ht hq]
             simp only
             have hw : zB (cpT ts (zh ts (fun _ => none) out) x) ps = (zB t ps).map (sF ts out) := by
              unfold zB
              rw [List.map_map]
              exact List.map_congr_left (fun p hp => by rw [cp_word ht hq, if_pos hp]; rfl)
             rw [hw, YG hg hc (fun y hy => (Zt _ _ _ _ h).subset hy)]
             simp only
             exact ih k (i + 1) o2 h (by omega) (by omega)
theorem Ki {roots : List Int} (h : zn ts roots = (0, out)) : zn (news ts out) (roots.map (sF ts out)) = (0, adr 0 (news ts out)) := by
 have hg := Zu h
 have hl := hg.len
 rw [qd] at hl
 unfold zn at h ⊢
 cases hc : come (adr 0 ts) [] roots with
 | none => rw [hc] at h; simp at h
 | some o =>
   rw [hc] at h
   simp only at h
   have := YG hg hc (fun y hy => (Zt _ _ _ _ h).subset hy)
   rw [List.map_nil] at this
   rw [this, ← jm hg.nodup]
   simp only
   exact zl6 hg _ (ts.length + 1) 0 o h (by omega) (by rw [ji]; omega)
end
section
variable {us : List Th}
theorem sF_adr {x : Int} (hx : x ∈ adr 0 us) : sF us (adr 0 us) x = x := by
 have e := jm (ts := us) (adr_nodup us)
 have e2 : adr 0 (news us (adr 0 us)) = adr 0 us := Vo 0 (by
  unfold news
  rw [List.map_map]
  apply List.ext_getElem (by rw [List.length_map, List.length_map, qd])
  intro i h1 h2
  rw [List.length_map] at h2
  obtain ⟨h3, h4⟩ := za5 h2
  rw [List.getElem_map, List.getElem_map, Function.comp_apply, VN]
  unfold QA
  rw [h4]
  simp)
 rw [e2] at e
 obtain ⟨i, hi, rfl⟩ := List.getElem_of_mem hx
 have e3 : ((adr 0 us).map (sF us (adr 0 us)))[i]? = (adr 0 us)[i]? := by rw [e]
 rw [List.getElem?_map, List.getElem?_eq_getElem hi, Option.map_some] at e3
 injection e3
theorem V9 {f : Int → Option Int} {t : Th} {ps : List Nat} (hl : ∀ p ∈ ps, p < t.W.length) (hf : ∀ p ∈ ps, (f (t.W.getD p 0)).getD 0 = t.W.getD p 0) : ∀ k, k ≤ ps.length → ZN f t ps k = t.W
 | 0, _ => rfl
 | k + 1, hk => by
   have hlt : k < ps.length := by omega
   have hp := List.getElem_mem hlt
   rw [Qw f t ps hlt, V9 hl hf k (by omega), hf _ hp, List.getD_eq_getElem?_getD, List.getElem?_eq_getElem (hl _ hp), Option.getD_some, List.set_getElem_self]
theorem za4 (h0 : ∀ u ∈ us, u.s = 0) (hc : ∀ x ∈ adr 0 us, ∃ t ps, Zp us x = some t ∧ Zh t = some ps ∧ ∀ v ∈ zB t ps, v = 0 ∨ v ∈ adr 0 us) : news us (adr 0 us) = us := by
 apply List.ext_getElem (by rw [ji, qd])
 intro i h1 h2
 obtain ⟨h3, h4⟩ := za5 h2
 obtain ⟨t, ps, ht, hp, hw⟩ := hc _ (List.getElem_mem h3)
 have e : (news us (adr 0 us))[i] = cpT us (zh us (fun _ => none) (adr 0 us)) (adr 0 us)[i] := List.getElem_map _
 rw [e, zj6 ht hp]
 rw [h4] at ht
 injection ht with ht
 rw [ht]
 have hs := h0 _ (List.getElem_mem h2)
 rw [ht] at hs
 rw [V9 (Qj hp) (fun p hpp => ?_) _ (Nat.le_refl _)]
 · cases t
   simp only at hs
   subst hs
   rfl
 · have hv : t.W.getD p 0 ∈ zB t ps := by
    unfold zB
    exact List.mem_map.2 ⟨p, hpp, rfl⟩
   rcases hw _ hv with h | h
   · rw [h]
     exact GK (fun hm => by
      have := (QO us 0 0 hm).1
      omega)
   · exact sF_adr h
end
theorem news_s (ts : List Th) (out : List Int) : ∀ u ∈ news ts out, u.s = 0 := by
 intro u hu
 obtain ⟨x, _, rfl⟩ := List.mem_map.1 hu
 unfold cpT
 cases Zp ts x with
 | none => rfl
 | some t =>
   simp only
   cases Zh t <;> rfl
theorem again {ts : List Th} {roots out : List Int} (h : zn ts roots = (0, out)) :
 zn (news ts out) (roots.map (sF ts out)) = (0, adr 0 (news ts out)) ∧ news (news ts out) (adr 0 (news ts out)) = news ts out ∧ (roots.map (sF ts out)).map (sF (news ts out) (adr 0 (news ts out))) = roots.map (sF ts out) := by
 have h1 := Ki h
 have hg := Zu h
 refine ⟨h1, za4 (news_s ts out) (yY h1).2, ?_⟩
 rw [List.map_map]
 refine List.map_congr_left (fun x hx => ?_)
 rw [Function.comp_apply]
 rcases (yY h).1 x hx with rfl | hx2
 · rw [zf8 hg]
   exact GK (fun hm => by
    have := (QO (news ts out) 0 0 hm).1
    omega)
 · exact sF_adr (by rw [← jm hg.nodup]; exact List.mem_map_of_mem hx2)
end CeS
end Go.Proofs.YtmkdhdmkdcankaaGreatDoor
namespace Go.Proofs.YtmkdhdmkdcankaaGreatDoor
namespace CeT
open Go.RowKit Base BinM HpM HpA HpB HpS HpG HpP HpT HpZ HpR HpQ HpW LnkC ClM ClX ClY ClZ ClI ClJ ClA ClC ClL ClR ClS ClT ClU ClV ClW ClP ClG ClH CeB CeS
def jy (v : World) (l : List Int) (e : Ending) (w' : World) : Prop := ∃ x, e = .returned x ∧ zT w' v.heap.size x l ∧ Below v.heap.size v w'
structure Af (w wq wr w' : World) (x g r p u g2 b : Nat) (ts : List Th) (roots out : List Int) : Prop where
 up : Below w.heap.size w w'
 sz : wr.heap.size ≤ w'.heap.size
 box : Bx w' x (bx x g r p u).2.1 (bx x g r p u).2.2
 rows : ∀ A xs, Rds wr A xs → (∀ a, A = some a → wq.heap.size ≤ a.block) → Rds w' A xs
 res : Rds w' (some ⟨b, 0, none⟩) ((roots.map (sF ts out)).map (Value.int .i64))
 rawG : ∀ v, Below w'.heap.size w' v → Calls Tryz.prog 20 #[.pointer (some ⟨g, 0, none⟩)] v (jy v (raw ts))
 rawN : ∀ v, Below w'.heap.size w' v → Calls Tryz.prog 20 #[.pointer (some ⟨g2, 0, none⟩)] v (jy v (raw (news ts out)))
 capG : ∀ v, Below w'.heap.size w' v → Calls Tryz.prog 24 #[.pointer (some ⟨g, 0, none⟩)] v fun e w'' => e = .returned (.int .i64 400) ∧ v = w''
 capN : ∀ v, Below w'.heap.size w' v → Calls Tryz.prog 24 #[.pointer (some ⟨g2, 0, none⟩)] v fun e w'' => e = .returned (.int .i64 400) ∧ v = w''
 sent : ∀ v, Below w'.heap.size w' v → ∀ y, zo y → Calls Tryz.prog 25 #[.pointer (some ⟨g, 0, none⟩), .int .i64 y] v fun e w'' => e = .returned (.tuple #[.int .i64 (sF ts out y), .bool (zh ts (fun _ => none) out y).isSome]) ∧ v = w''
 doc : ∀ v, Below w'.heap.size w' v → ∀ An, Rds v An (tyn.map HierM.sv) → Doc v r u An ts
 again : ∀ v, Below w'.heap.size w' v → Calls Tryz.prog 21 #[.pointer (some ⟨g2, 0, none⟩), .pointer (some ⟨p, 0, none⟩), .slice (some ⟨b, 0, none⟩) roots.length roots.length] v fun e v' => ∃ g3 b3, e = .returned (.tuple #[.pointer (some ⟨g3, 0, none⟩), .slice (some ⟨b3, 0, none⟩) roots.length roots.length, .int .i64 0]) ∧ Below w.heap.size w v' ∧
  Rds v' (some ⟨b, 0, none⟩) ((roots.map (sF ts out)).map (Value.int .i64)) ∧ Rds v' (some ⟨b3, 0, none⟩) ((roots.map (sF ts out)).map (Value.int .i64)) ∧
  (∀ v2, Below v'.heap.size v' v2 → Calls Tryz.prog 20 #[.pointer (some ⟨g3, 0, none⟩)] v2 (jy v2 (raw (news ts out)))) ∧
  ∀ v2, Below v'.heap.size v' v2 → Calls Tryz.prog 20 #[.pointer (some ⟨g2, 0, none⟩)] v2 (jy v2 (raw (news ts out)))
theorem YO {w : World} {g mb : Nat} {Aw : Option Addr} {cw : Nat} {Aa : Option Addr} {ca most n : Nat} {f : Int → Option Int} {ts : List Th} (H : HpX w g mb Aw cw Aa ca most (raw ts) (adr 0 ts) n f) (F : Fits most ts) : Calls Tryz.prog 20 #[.pointer (some ⟨g, 0, none⟩)] w (jy w (raw ts)) :=
 raw_any H (by have h1 := F.len; have h2 := F.top; omega)
theorem sF_fit {most : Nat} {ts : List Th} (F : Fits most ts) {out : List Int} (ho : out.length ≤ 5000) (y : Int) : zo (sF ts out y) := YH F (f := fun _ => none) (fun v => by show zo 0; unfold zo; omega) ho out (Nat.le_refl _) y
set_option maxRecDepth 100000 in
set_option maxHeartbeats 4000000 in
theorem play_run4 {w wq wr : World} {x g r p u : Nat} {ts : List Th} (P : Qb w wq x g r p u ts) (hb : Below wq.heap.size wq wr) {Ar : Option Addr} {cr : Nat} {roots : List Int} (R : Rds wr Ar (roots.map (Value.int .i64))) (hA : ∀ a, Ar = some a → wq.heap.size ≤ a.block) (hrl : roots.length ≤ 100000) (hfr : ∀ x ∈ roots, zo x) :
 Calls Tryz.prog 21 #[.pointer (some ⟨g, 0, none⟩), .pointer (some ⟨p, 0, none⟩), .slice Ar roots.length cr] wr fun e w' =>
  ((zn ts roots).1 ≠ 0 ∧ e = .returned (.tuple #[.pointer none, .slice none 0 0, .int .i64 (zn ts roots).1]) ∧ Below wr.heap.size wr w') ∨
  ((zn ts roots).1 = 0 ∧ ∃ g2 b, e = .returned (.tuple #[.pointer (some ⟨g2, 0, none⟩), .slice (some ⟨b, 0, none⟩) roots.length roots.length, .int .i64 0]) ∧ Af w wq wr w' x g r p u g2 b ts roots (zn ts roots).2) := by
 have hlow := ClP.Qb.low P
 have hbox := ClP.Qb.box P
 obtain ⟨⟨w1, h1, S0, ⟨lo, y, t, gg, mb, n, A, c, h, L, f, hP, hs⟩, ⟨fT, loT, gT, AT, cT, hT⟩⟩, h4⟩ := P
 have hl := qZ S0
 obtain ⟨a1, a2, a3, a4, a5, a6, a7, a8, a9, S0, rfl, h2, h5⟩ := S0
 have S := S0.beside hb
 have hf := Gu S h2
 subst hf
 have hxf := (h5 _ (List.mem_singleton.2 rfl)).2.1
 have hfeet : ∀ k, zQ g a1 a2 a4 k → k < wq.heap.size := fun k hk => S0.hp.lt hk
 have hlo1 : ∀ k, zQ g a1 a2 a4 k → w1.heap.size ≤ k := fun k hk => S.own k hk
 have hlo : ∀ k, zQ g a1 a2 a4 k → w.heap.size ≤ k := fun k hk => Nat.le_trans h1.size (S.own k hk)
 have hl1 : Below w1.heap.size w1 wr := hl.trans (hb.mono hl.size)
 have HP : ∀ w', Turned (zQ g a1 a2 a4) wr w' → LnkS.Pg lo w' p y t gg mb n A c h L f tyn := fun w' T => hP w' (hl1.trans (T.below S.own S.bel.size))
 refine (ClW.XJ HP hs S.hp S.fits (by omega) (by omega) (by omega) (fun v => by show zo 0; unfold zo; omega) R (fun a ha _ hk => ?_) hrl hfr).mono ?_
 · have h6 := hfeet _ hk
   have h7 := hA a ha
   omega
 rintro e w' (⟨h6, rfl, h7⟩ | ⟨h6, g2, b, out, hr, rfl, ⟨mp, Aw1, cw, Aa1, ca, mp2, Aw2, cw2, Aa2, ca2, n2, f2, T, hS⟩, hG, hbl⟩)
 · have hrun : (ClW.UC (things a8) (fun _ => none) roots).1 = (zn (things a8) roots).1 := by
    unfold ClW.UC
    split
    · rename_i h8
      rw [if_pos (by simp), h8]
    · rfl
   rw [hrun] at h6 ⊢
   exact .inl ⟨h6, rfl, h7⟩
 · rw [hr]
   have hlen : out.length ≤ 400 := by
    have h8 := hG.len
    have h9 := S.fits.len
    have h10 := qJ (things a8) 0
    omega
   have hff := YH S.fits (f := fun _ => none) (fun v => by show zo 0; unfold zo; omega) (by omega : out.length ≤ 5000) out (Nat.le_refl _)
   have Fn := JW S.fits hff hG out.length
   rw [VE] at Fn
   obtain ⟨hn2, hf2⟩ := T.un
   subst hn2
   subst hf2
   have hTB := T.tur.below hlo1 hl1.size
   have hrow := (hS _ (List.mem_singleton.2 rfl))
   refine .inr ⟨rfl, g2, b, rfl, ⟨(hlow.trans (hb.mono hlow.size)).trans (T.tur.below hlo (Nat.le_trans hlow.size hb.size)), T.tur.size, ?_, fun A xs hR hA2 => ClR.Qu hR (fun a ha _ hk => ?_) T.tur, hrow.1, fun v hv => YO (T.h.beside hv) S.fits, fun v hv => YO (T.g.beside hv) Fn, fun v hv => VZ (T.h.beside hv), fun v hv => VZ (T.g.beside hv), fun v hv z hz => HpE.YI (T.h.beside hv) z hz, fun v hv An hAn => ?_, fun v hv => ?_⟩⟩
   · have h8 := T.tur.block x (Nat.lt_of_lt_of_le hbox.lt hb.size) hxf
     exact h8.trans (hbox.after hb)
   · have h8 := hfeet _ hk
     have h9 := hA2 a ha
     omega
   · have hrf : RfX w' r a6 a7 400 a8 := S.rf.aside (fun k hk => T.tur.block k (S.rf.lt hk) (fun h => S.apart k h hk))
     exact ⟨⟨_, _, _, hrf.beside hv, rfl⟩, S.fits, h4, ⟨fT, loT, gT, AT, cT, hT v (hl1.trans (hTB.trans (hv.mono (Nat.le_trans hl1.size T.tur.size))))⟩, hAn⟩
   · obtain ⟨g1, g2', g3⟩ := again hr
     have hHg := T.g.beside hv
     have hgn : ∀ k, zQ g2 mp2 Aw2 Aa2 k → wr.heap.size ≤ k := T.gn
     have hv1 : Below w1.heap.size w1 v := hl1.trans (hTB.trans (hv.mono (Nat.le_trans hl1.size T.tur.size)))
     have HP2 : ∀ w'', Turned (zQ g2 mp2 Aw2 Aa2) v w'' → LnkS.Pg lo w'' p y t gg mb n A c h L f tyn := fun w'' T2 => hP w'' (hv1.trans (T2.below (fun k hk => Nat.le_trans hl1.size (hgn k hk)) hv1.size))
     have hal := qJ (news (things a8) out) 0
     have hFl := Fn.len
     have hfz : ∀ z ∈ roots.map (sF (things a8) out), zo z := by
      intro z hz
      obtain ⟨q, _, rfl⟩ := List.mem_map.1 hz
      exact sF_fit S.fits (by omega) q
     have hus : (news (things a8) out).length ≤ 4096 := by rw [ji]; omega
     have hR2 : Rds v (some ⟨b, 0, none⟩) ((roots.map (sF (things a8) out)).map (Value.int .i64)) := hrow.1.below hv
     have hR3 : ∀ a, (some ⟨b, 0, none⟩ : Option Addr) = some a → (roots.map (sF (things a8) out)).map (Value.int .i64) ≠ [] → ¬ zQ g2 mp2 Aw2 Aa2 a.block := fun a ha hx hk => hrow.2 a ha hx hk
     have hrl2 : (roots.map (sF (things a8) out)).length ≤ 100000 := by rw [List.length_map]; exact hrl
     have hHg' : HpX v g2 mp2 Aw2 cw2 Aa2 ca2 400 (raw (news (things a8) out)) (adr 0 (news (things a8) out)) 0 (fun _ => none) := hHg
     have Fn' : Fits 400 (news (things a8) out) := Fn
     have H2 := ClW.XJ (cr := roots.length) HP2 hs hHg' Fn' (by omega) hus (by omega) (fun v => by show zo 0; unfold zo; omega) hR2 hR3 hrl2 hfz
     rw [List.length_map] at H2
     refine H2.mono ?_
     · rintro e v' (⟨h6, _⟩ | ⟨_, g3', b3, out3, hr3, rfl, ⟨mp3, Aw3, cw3, Aa3, ca3, mp4, Aw4, cw4, Aa4, ca4, n4, f4, T4, hS4⟩, hG4, hbl4⟩)
       · exfalso
         apply h6
         unfold ClW.UC
         show (if (zn (news (things a8) out) (roots.map (sF (things a8) out))).1 = 0 then _ else _ : Int × List Int).1 = 0
         rw [g1]
         simp
       · have h9 : zn (news (things a8) out) (roots.map (sF (things a8) out)) = (0, out3) := hr3
         rw [g1] at h9
         injection h9 with _ h9
         subst h9
         have hrow4 := (hS4 _ (List.mem_singleton.2 rfl)).1
         have hG3' : HpX v' g3' mp4 Aw4 cw4 Aa4 ca4 400 (raw (news (news (things a8) out) (adr 0 (news (things a8) out)))) (adr 0 (news (news (things a8) out) (adr 0 (news (things a8) out)))) n4 f4 := T4.g
         rw [g2'] at hG3'
         refine ⟨g3', b3, by rw [List.length_map], ?_, ClR.Qu (hrow.1.below hv) (fun a ha hx hk => hrow.2 a ha hx hk) T4.tur, ?_, fun v2 hv2 => YO (hG3'.beside hv2) Fn, fun v2 hv2 => YO (T4.h.beside hv2) Fn⟩
         · exact ((hlow.trans (hb.mono hlow.size)).trans ((T.tur.below hlo (Nat.le_trans hlow.size hb.size)).trans (hv.mono (Nat.le_trans (Nat.le_trans hlow.size hb.size) T.tur.size)))).trans (T4.tur.below (fun k hk => Nat.le_trans (Nat.le_trans hlow.size hb.size) (hgn k hk)) (Nat.le_trans (Nat.le_trans (Nat.le_trans hlow.size hb.size) T.tur.size) hv.size))
         · rw [← g3]
           exact hrow4
theorem Km {w wr : World} {x g r p u : Nat} {ts : List Th} (P : Qb w wr x g r p u ts) : Calls Tryz.prog 20 #[.pointer (some ⟨g, 0, none⟩)] wr (jy wr (raw ts)) := by
 obtain ⟨⟨w1, h1, S, h2⟩, h3⟩ := P
 obtain ⟨a1, a2, a3, a4, a5, AL, cL, ms, a9, S, rfl, h5, h6⟩ := S
 exact YO S.hp S.fits
theorem play_s {w wr : World} {x g r p u : Nat} {ts : List Th} (P : Qb w wr x g r p u ts) : (∀ t ∈ ts, t.s = 0) ∧ (raw ts).length ≤ 400 ∧ Fits 400 ts := by
 obtain ⟨⟨w1, h1, S, h2⟩, h3⟩ := P
 obtain ⟨a1, a2, a3, a4, a5, AL, cL, ms, a9, S, rfl, h5, h6⟩ := S
 exact ⟨h5, S.fits.len, S.fits⟩
theorem news_fits {ts : List Th} (F : Fits 400 ts) {roots out : List Int} (h : zn ts roots = (0, out)) : Fits 400 (news ts out) ∧ out.length ≤ 400 := by
 have hG := Zu h
 have hlen : out.length ≤ 400 := by
  have h8 := hG.len
  have h9 := F.len
  have h10 := qJ ts 0
  omega
 have hff := YH F (f := fun _ => none) (fun v => by show zo 0; unfold zo; omega) (by omega : out.length ≤ 5000) out (Nat.le_refl _)
 have Fn := JW F hff hG out.length
 rw [VE] at Fn
 exact ⟨Fn, hlen⟩
end CeT
end Go.Proofs.YtmkdhdmkdcankaaGreatDoor
namespace Go.Proofs.YtmkdhdmkdcankaaGreatDoor
namespace CeU
open Go.RowKit Base BinM HpM HpA HpS HpB HpG HpP HpT HpY HpZ HpR HpQ HpE HpF HpI HpJ
section
variable {w : World} {r : Nat} {AL : Option Addr} {cL most : Nat} {ms : List ThM}
theorem raw_step (j : Nat) (h : j < ms.length) : raw (things (ms.take (j + 1))) = raw (things (ms.take j)) ++ [((ms[j]).t.id : Int) * 65536 + ((ms[j]).t.W.length : Int)] ++ (ms[j]).t.W := by
 unfold things
 rw [List.take_succ_eq_append_getElem h, List.map_append, Q8]
 simp [XM, Th.row]
set_option maxRecDepth 100000 in
set_option maxHeartbeats 4000000 in
theorem rraw_any (H : RfX w r AL cL most ms) (hn : ms.length ≤ 4096) (hb : (raw (things ms)).length ≤ 4096) (hids : ∀ m ∈ ms, m.t.id < 65536) :
 Calls Tryz.prog 23 #[.pointer (some ⟨r, 0, none⟩)] w fun e w' => ∃ v, e = .returned v ∧ zT w' w.heap.size v (raw (things ms)) ∧ Below w.heap.size w w' := by
 have HH := zH H
 obtain ⟨i0, hi, hz, hz1, hz2⟩ := info_parts Qv
 have I0 := zH hi
 have I1 := zH hz
 have I2 := zH hz1
 have I3 := zH hz2
 have HI := zH hids
 clear hi hz hz1 hz2 H hids
 go_enter Tryz.func23, Tryz.ntmps23
 go_wp2
 go_loopw [3, 4] (fun v i wr => ∃ (j n : Nat) (A : Option Addr) (c : Nat), j ≤ ms.length ∧ n = (raw (things (ms.take j))).length ∧ i = .int .i64 j ∧ v = .slice A n c ∧ wr.ownsRow w.heap.size 2 1 (.slice A n c) n ((raw (things (ms.take j))).map (Value.int .i64)) ∧ Below w.heap.size w wr) (fun _ i _ => ms.length - (intOf i).toNat)
 case atStart => exact ⟨0, 0, none, 0, Nat.zero_le _, rfl, rfl, rfl, World.ownsRow_nil _ _ _ _, Below.refl _ _⟩
 case round =>
  obtain ⟨j, n, A, c, hj, hn', rfl, rfl, hown, hbel⟩ := hrel
  have HN := zH hn'
  have HO := zH hown
  have HBl := zH hbel
  have hsz := hbel.size
  have X := HH.out.beside hbel
  have c1 := X.box.cell 1
  have hlt1 := X.box.lt
  by_cases hlt : j < ms.length
  · have e : ms = ms.take j ++ ms[j] :: ms.drop (j + 1) := by rw [← List.drop_eq_getElem_cons hlt, List.take_append_drop]
    obtain ⟨b, o, hAL, _, k1, k2, _⟩ := X.cells e
    rw [List.length_take, Nat.min_eq_left (by omega)] at k1 k2
    have HT := zH (raw_step j hlt)
    have hj1 : (j : Int) < (ms.length : Int) := by omega
    have hidb := HI.out _ (List.getElem_mem hlt)
    have hWr := (X.each _ (List.getElem_mem hlt))
    have hle := raw_le (ms := ms) (j + 1)
    have hst := Kk j hlt
    have hn2 : n + 1 + (ms[j]).t.W.length ≤ 4096 := by omega
    have HX := zH (fun w' (h : Below wr.heap.size wr w') => X.beside h)
    have HE := zH e
    have HMem := zH (List.getElem_mem hlt)
    clear hown hbel hn' hle hst e X
    subst hAL
    generalize ms[j] = m at *
    have HWr := zH hWr
    clear hWr
    have hw1 : IntKind.i64.wrap ((m.t.id : Int) * 65536) = (m.t.id : Int) * 65536 := by rw [IntKind.wrap_i64]; omega
    have hw2 : IntKind.i64.wrap ((m.t.id : Int) * 65536 + (m.t.W.length : Int)) = (m.t.id : Int) * 65536 + (m.t.W.length : Int) := by rw [IntKind.wrap_i64]; omega
    go_wp2_with fail
    go_region_law ((refine step_append_lies _ (by rfl) _ _ _ (by rfl) w.heap.size 2 i0 _ 1 8 Tryz.underlying27 I0.out I1.out I2.out I3.out rfl (by omega) (.slice A n c) n ((raw (things (ms.take j))).map (Value.int .i64)) (by rfl) ((World.ownsRow.alloc HO.out _).drew) ⟨wr.heap.size, 0, none⟩ 1 1 [.int .i64 ((m.t.id : Int) * 65536 + (m.t.W.length : Int))] (by rfl) (by rfl) (World.news_of_block (cs := #[.int .i64 ((m.t.id : Int) * 65536 + (m.t.W.length : Int))]) (t := 2) (fr := (0, 0)) (alloc_at _ _ rfl)) (by simp [Value.oneCell']) (by omega) (by unfold maxLen; omega) (by omega) (by simp; omega) _ rfl ?_; intro b5 c5 w5 hown5 hg5 hat5 hlt5))
    all_goals
     have hb5 : Below w.heap.size w w5 := zC ((HBl.out.alloc hsz (.cells #[.int .i64 ((m.t.id : Int) * 65536 + (m.t.W.length : Int))] 2)).drew) ((World.ownsRow.alloc HO.out (.cells #[.int .i64 ((m.t.id : Int) * 65536 + (m.t.W.length : Int))] 2)).drew) (Nat.le_refl _) (by simp; omega) hg5
     have X5 := HH.out.beside hb5
     have c15 := X5.box.cell 1
     have hlt5' := X5.box.lt
     obtain ⟨b', o', hAL', _, _, k25, _⟩ := X5.cells HE.out
     injection hAL' with hAL'
     injection hAL' with e1 e2
     subst e1
     subst e2
     rw [List.length_take, Nat.min_eq_left (by omega)] at k25
     have HW5 := zH (X5.each m HMem.out)
     have O5 := zH hown5
     have B5 := zH hb5
     clear hown5 hg5 hat5 hb5 X5 c1 k1 k2
     go_wp2_with (at_builtin
                  refine zJ rfl (.tmp 36) (.tmp 44) 27 rfl w.heap.size 2 i0 _ 8 Tryz.underlying27 I0.out I1.out I2.out I3.out rfl (.slice (some ⟨b5, 0, none⟩) (n + 1) c5) (n + 1) _ rfl O5.out m.A m.t.W.length m.c (m.t.W.map (Value.int .i64)) rfl (by simp) (Qz HW5.out) (oneI m.t.W) (by unfold maxLen; omega) (by omega) (by have := B5.out.size; omega) ?_
                  intro v6 w6 hown6 hg6
                  obtain ⟨A6, c6, rfl, _⟩ := zi hown6
                  have B6 := zH (zC B5.out O5.out (Nat.le_refl _) B5.out.size hg6)
                  have O6 := zH hown6
                  clear hown6 hg6)
     go_roundw
     case rel =>
      refine ⟨j + 1, n + 1 + m.t.W.length, A6, c6, by omega, ?_, by go_num, rfl, ?_, B6.out⟩
      · rw [HT.out]; simp; have := HN.out; omega
      · rw [HT.out, List.map_append, List.map_append]
        exact O6.out
     case measure => simp [intOf]; omega
  · have hj1 : ¬ (j : Int) < (ms.length : Int) := by omega
    obtain rfl : j = ms.length := by omega
    rw [List.take_length] at HO HN
    have HF := zH (show zT wr w.heap.size (.slice A n c) (raw (things ms)) by unfold zT; rw [← HN.out]; exact HO.out)
    clear X hown hbel hn'
    go_wp2_with fail
    go_ret
    exact ⟨_, rfl, HF.out, HBl.out⟩
end
end CeU
end Go.Proofs.YtmkdhdmkdcankaaGreatDoor
