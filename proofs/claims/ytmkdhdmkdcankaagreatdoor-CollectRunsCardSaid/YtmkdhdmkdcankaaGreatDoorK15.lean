/- pieces -/
import Derived.Test.YtmkdhdmkdcankaaGreatDoorK7
import Derived.Test.YtmkdhdmkdcankaaGreatDoorK8
import Derived.Test.YtmkdhdmkdcankaaGreatDoorK14
namespace Go.Proofs.YtmkdhdmkdcankaaGreatDoor
namespace LnkA
open Go.RowKit BinM Base HierS HierT HierM HierV
abbrev Bx := HpM.Bx
theorem own_ne {w : World} {base b : Nat} {v : Value} {p : List T} {C : Array Value} {ty : TypeId} (h : Qn w base v p) (hb : HpM.Bx w b C ty) (hne : ty ≠ 9) : v.ownBlock ≠ some b := by
 intro e
 rcases h.2 with ⟨hv, _⟩ | ⟨g, cap, cur, hv, _, hh, _⟩
 · rw [hv] at e; cases e
 · rw [hv] at e
   have e2 : g = b := by injection e
   subst e2
   have hb2 : w.heap[g]? = some (.cells C ty (0, 0)) := hb
   rw [hh] at hb2
   injection hb2 with hb2
   injection hb2 with _ hb3 _
   exact hne hb3.symm
theorem own_nm {w : World} {base b n : Nat} {v : Value} {p : List T} {f : T → Option Nat} (h : Qn w base v p) (hb : Yo w b n f) : v.ownBlock ≠ some b := by
 intro e
 obtain ⟨D, ⟨es, ck, hm, _⟩, _⟩ := hb
 rcases h.2 with ⟨hv, _⟩ | ⟨g, cap, cur, hv, _, hh, _⟩
 · rw [hv] at e; cases e
 · rw [hv] at e
   have e2 : g = b := by injection e
   subst e2
   rw [hh] at hm
   cases hm
theorem box_nm {w : World} {b g n : Nat} {C : Array Value} {ty : TypeId} {f : T → Option Nat} (hx : HpM.Bx w g C ty) (hb : Yo w b n f) : g ≠ b := by
 rintro rfl
 obtain ⟨D, ⟨es, ck, hm, _⟩, _⟩ := hb
 have hb2 : w.heap[g]? = some (.cells C ty (0, 0)) := hx
 rw [hm] at hb2
 cases hb2
theorem zj2 (mo : Option Nat) (W : World) : (binOp .eql 147 (.map mo) (.map none)).run Tryz.prog W = .ok (.bool mo.isNone) W := by
 have h : ∀ k, (Op.equalIn (k + 1) 147 (.map mo) (.map none)).run Tryz.prog W = .ok mo.isNone W := fun k => by
  cases mo <;> simp [Op.equalIn, run_underlying Tryz.underlying147]
 simp only [binOp]
 simp [Op.equal, Op.maxDepth, h 9999]
structure Ty (w0 w : World) (y : Nat) (A : Option Addr) (c : Nat) (mo : Option Nat) (ns : List T) (f : T → Option Nat) : Prop where
 box : HpM.Bx w y #[.slice A ns.length c, .map mo] 149
 row : Qn w w0.heap.size (.slice A ns.length c) ns
 map : (mo = none ∧ ns = []) ∨ ∃ b, mo = some b ∧ Yo w b ns.length f ∧ w0.heap.size ≤ b
 num : ∀ d, d ∉ ns → f d = none
 bel : HpM.Turned (fun k => k = y) w0 w
def TyE (w0 w : World) (y : Nat) (ns : List T) : Prop := ∃ A c mo f, Ty w0 w y A c mo ns f
theorem VF (w : World) : Calls Tryz.prog 34 #[] w fun e w' => e = .returned (.pointer (some ⟨w.heap.size, 0, none⟩)) ∧ HpM.Bx w' w.heap.size #[.slice none 0 0, .map none] 149 ∧ Below w.heap.size w w' := by
 go_enter Tryz.func34, Tryz.ntmps34
 go_wp2
 go_ret
 exact ⟨rfl, HpM.Bx.new w _ _, (Below.refl _ _).alloc (Nat.le_refl _) _⟩
theorem ty_start {w : World} {y : Nat} (h : HpM.Bx w y #[.slice none 0 0, .map none] 149) : TyE w w y [] :=
 ⟨none, 0, none, fun _ => none, ⟨h, Qn.nil _ _, .inl ⟨rfl, rfl⟩, fun _ _ => rfl, HpM.Turned.refl _ _⟩⟩
theorem ZG {w : World} {g : Nat} {C : Array Value} {ty : TypeId} (h : HpM.Bx w g C ty) : Rds w (some ⟨g, 0, none⟩) C.toList := by
 refine .inr ⟨g, 0, rfl, h.lt, fun j u hu => ?_⟩
 rw [Nat.zero_add, h.cell j]
 simpa using hu
theorem own_below {w w' : World} {base : Nat} {v : Value} {p : List T} (h : Qn w base v p) (hb : Below w.heap.size w w') : Qn w' base v p :=
 TabM.ze h (fun k hk => hb.block k (World.ownsRow.lt h k hk).2)
theorem ty_made {w0 w : World} {y : Nat} {A : Option Addr} {c : Nat} {ns : List T} {f : T → Option Nat} (H : Ty w0 w y A c none ns f) (h0 : ns = []) :
 Ty w0 ((w.setCell ⟨y, 1, none⟩ (.map (some w.heap.size))).alloc (.map #[] 0)) y A c (some w.heap.size) ns (fun _ => none) := by
 have hx := H.box.set 1 (.map (some w.heap.size))
 have hb : Below (w.setCell ⟨y, 1, none⟩ (.map (some w.heap.size))).heap.size (w.setCell ⟨y, 1, none⟩ (.map (some w.heap.size))) ((w.setCell ⟨y, 1, none⟩ (.map (some w.heap.size))).alloc (.map #[] 0)) := (Below.refl _ _).alloc (Nat.le_refl _) _
 have hs : (w.setCell ⟨y, 1, none⟩ (.map (some w.heap.size))).heap.size = w.heap.size := by simp
 refine ⟨hx.after hb, TabM.ze (w := w) H.row (fun k hk => ?_), .inr ⟨_, rfl, ?_, H.bel.size⟩, fun _ _ => rfl, ?_⟩
 · have hne := own_ne H.row H.box (by decide)
   rw [hb.block k (by rw [hs]; exact (World.ownsRow.lt H.row k hk).2)]
   exact heap_setCell_other _ ⟨y, 1, none⟩ k _ (fun e => hne (by rw [hk, e]))
 · subst h0
   have := YR (w.setCell ⟨y, 1, none⟩ (.map (some w.heap.size)))
   rw [hs] at this
   exact this
 · exact (H.bel.trans (HpM.Turned.Yd (F := fun k => k = y) w (a := ⟨y, 1, none⟩) rfl (.map (some w.heap.size))) (fun j hj => .inl hj)).trans (HpM.Turned.of_below (F := fun k => k = y) hb) (fun j hj => .inl hj)
theorem ze9 {w0 X w1 : World} {y b : Nat} {A : Option Addr} {c : Nat} {ns : List T} {f : T → Option Nat} (H : Ty w0 X y A c (some b) ns f) (d : T) (hl : d.length ≤ 140737488355328) (hn : ns.length ≤ 1000) {v1 : Value}
 (hown : Qn w1 w0.heap.size v1 (ns ++ [d])) (hg : (X.alloc (.cells #[sv d] 9)).grownBy w1 (Value.slice A ns.length c).ownBlock) :
 HpM.Bx w1 y #[.slice A ns.length c, .map (some b)] 149 ∧
  ∃ w3, (Instr.mapUpdate 147 (.map (some b)) (.string ⟨d.toArray⟩) (.int .i64 (ns.length : Int))).run Tryz.prog (w1.setCell ⟨y, 0, none⟩ v1) = .ok () w3 ∧ TyE w0 w3 y (ns ++ [d]) := by
 have hb : Below X.heap.size X (X.alloc (.cells #[sv d] 9)) := (Below.refl _ _).alloc (Nat.le_refl _) _
 have hx := H.box.after hb
 have hne : (Value.slice A ns.length c).ownBlock ≠ some y := own_ne H.row H.box (by decide)
 have hx1 : HpM.Bx w1 y #[.slice A ns.length c, .map (some b)] 149 := (hg.block y hx.lt (fun e => hne e.symm)).trans hx
 rcases H.map with ⟨h, _⟩ | ⟨b', hb', hm, hbl⟩
 · cases h
 injection hb' with hb'
 subst hb'
 have hmlt : b < X.heap.size := by obtain ⟨D, h1, _⟩ := hm; exact h1.lt
 have hnb : (Value.slice A ns.length c).ownBlock ≠ some b := own_nm H.row hm
 have hm1 : Yo w1 b ns.length f := hm.block ((hg.block b (by simp; omega) (fun e => hnb e.symm)).trans (hb.block b hmlt))
 have hyb : y ≠ b := box_nm H.box hm
 have hm2 : Yo (w1.setCell ⟨y, 0, none⟩ v1) b ns.length f := hm1.block (heap_setCell_other _ ⟨y, 0, none⟩ _ _ (Ne.symm hyb))
 obtain ⟨w3, hrun, hg3, hm3⟩ := XR hm2 (by omega) d ns.length hl hn
 refine ⟨hx1, w3, hrun, ?_⟩
 obtain ⟨A1, c1, rfl, hc1, hc2, hr1, ha1⟩ := hown.slice
 have hne1 := own_ne hown hx1 (by decide)
 have hnb1 := own_nm hown hm1
 have hB1 : HpM.Turned (fun k => k = y) w0 w1 :=
  (H.bel.trans (HpM.Turned.of_below (F := fun k => k = y) hb) (fun j hj => .inl hj)).trans (HpM.Turned.J6 (F := fun k => w0.heap.size ≤ k) hg (fun k hk => (World.ownsRow.lt H.row k (by rw [hk])).1)) (fun j hj => .inr hj)
 refine ⟨A1, c1, some b, _, ⟨?_, ?_, .inr ⟨b, rfl, by rw [List.length_append]; exact hm3, hbl⟩, fun d' hd' => ?_, ?_⟩⟩
 · exact (hg3.block y (by simp; exact hx1.lt) (fun e => hyb (by injection e))).trans (hx1.set 0 _)
 · refine TabM.ze hown (fun k hk => ?_)
   rw [hg3.block k (by simp; exact (World.ownsRow.lt hown k hk).2) (fun e => hnb1 (by rw [hk, e]))]
   exact heap_setCell_other _ ⟨y, 0, none⟩ _ _ (fun e => hne1 (by rw [hk, e]))
 · have h1 : d' ∉ ns := fun h => hd' (List.mem_append_left _ h)
   have h2 : d' ≠ d := fun h => hd' (by simp [h])
   show (if d' = d then some ns.length else f d') = none
   rw [if_neg h2]
   exact H.num d' h1
 · exact (hB1.trans (HpM.Turned.Yd (F := fun k => k = y) w1 (a := ⟨y, 0, none⟩) rfl (.slice A1 (ns ++ [d]).length c1)) (fun j hj => .inl hj)).trans (HpM.Turned.J6 (F := fun k => w0.heap.size ≤ k) hg3 (fun k hk => by injection hk with hk; subst hk; exact hbl)) (fun j hj => .inr hj)
set_option maxRecDepth 100000 in
set_option maxHeartbeats 4000000 in
theorem id_new {w0 w : World} {y : Nat} {ns : List T} (H : TyE w0 w y ns) (d : T) (hd : d ∉ ns) (hl : d.length ≤ 140737488351232) (hn : ns.length ≤ 1000) :
 Calls Tryz.prog 35 #[.pointer (some ⟨y, 0, none⟩), .string ⟨d.toArray⟩] w fun e w' => e = .returned (.int .i64 (ns.length : Int)) ∧ TyE w0 w' y (ns ++ [d]) := by
 obtain ⟨A, c, mo, f, H⟩ := H
 have c0 : w.cell? ⟨y, 0, none⟩ = some (.slice A ns.length c) := H.box.cell 0
 have c1 : w.cell? ⟨y, 1, none⟩ = some (.map mo) := H.box.cell 1
 have f0 := H.box.free 0
 have f1 := H.box.free 1
 have hyl := H.box.lt
 rcases H.map with ⟨rfl, hns⟩ | ⟨b, rfl, hm, hb⟩
 · have hlk : ∀ W, (Instr.lookup 147 (.map none) (.string ⟨d.toArray⟩) true).run Tryz.prog W = .ok (.tuple #[.int .i64 0, .bool false]) W := fun W => by
    simpa using Maps.look_nil (w := W) true UL Tryz.underlying147 (Yu W) (Go.WideMaps.keyOf_string_mk Tryz.underlying9 (s := ⟨d.toArray⟩) (by show d.length ≤ maxLen; unfold maxLen; omega))
   have HH := zH (ty_made H hns)
   have hq := fun W => zj2 none W
   have hmm := @run_makeMap Tryz.prog
   have HO := zH (own_below HH.out.row ((Below.refl _ _).alloc (Nat.le_refl _) (.cells #[sv d] 9)))
   have hX1 : ((w.setCell ⟨y, 1, none⟩ (.map (some w.heap.size))).alloc (.map #[] 0)).heap.size = w.heap.size + 1 := by simp
   have HR := zH (ZG (HpM.Bx.new ((w.setCell ⟨y, 1, none⟩ (.map (some w.heap.size))).alloc (.map #[] 0)) #[sv d] 9))
   rw [hX1] at HR
   have Hb0 : w0.heap.size ≤ (((w.setCell ⟨y, 1, none⟩ (.map (some w.heap.size))).alloc (.map #[] 0)).alloc (.cells #[sv d] 9)).heap.size := by have := H.bel.size; simp; omega
   have HB0 := zH Hb0
   clear H hns hX1 Hb0
   go_enter Tryz.func35, Tryz.ntmps35
   go_wp2_with (at_builtin; (refine appT rfl (.tmp 38) (.tmp 40) rfl w0.heap.size _ ns rfl HO.out (some ⟨w.heap.size + 1, 0, none⟩) 1 1 [d] rfl rfl HR.out (by simp; omega) HB0.out ?_); intro v1 w1 hown1 hg1; obtain ⟨hx1, w3, hrun, hfin⟩ := ze9 HH.out d (by omega) hn hown1 hg1; obtain ⟨A1, n1, k1, rfl⟩ : ∃ A n c, v1 = .slice A n c := ⟨_, _, _, hown1.slice.choose_spec.choose_spec.1⟩; have r0 : w1.cell? ⟨y, 0, none⟩ = some (.slice A ns.length c) := hx1.cell 0; have r1 : w1.cell? ⟨y, 1, none⟩ = some (.map (some w.heap.size)) := hx1.cell 1; have r2 := hx1.free 0; have r3 := hx1.free 1; have hx1l := hx1.lt; have HF := zH hfin; clear hown1 hg1 hfin hx1)
   go_ret
   exact ⟨rfl, HF.out⟩
 · obtain ⟨D, hown, _, hat⟩ := hm
   have hfd := H.num d hd
   have hhas := (hat d).1 hfd
   have HO1 := zH hown
   have HK := zH (Go.WideMaps.keyOf_string_mk (P := Tryz.prog) Tryz.underlying9 (s := ⟨d.toArray⟩) (by show d.length ≤ maxLen; unfold maxLen; omega))
   have hq := fun W => zj2 (some b) W
   have HH := zH H
   have HO := zH (own_below HH.out.row ((Below.refl _ _).alloc (Nat.le_refl _) (.cells #[sv d] 9)))
   have HR := zH (ZG (HpM.Bx.new w #[sv d] 9))
   have HB0 : Hid (w0.heap.size ≤ (w.alloc (.cells #[sv d] 9)).heap.size) := zH (by have := H.bel.size; simp; omega)
   clear H hown hat hfd
   go_enter Tryz.func35, Tryz.ntmps35
   go_wp2_with (first
    | (at_lookup; refine wpList_lookup_own_ok_int _ rfl _ _ 147 rfl 9 3 .i64 UL Tryz.underlying147 Tryz.underlying3 (Yu _) b ns.length D rfl HO1.out _ _ rfl HK.out ?_; intro c' hat' hwc)
    | (at_builtin; (refine appT rfl (.tmp 38) (.tmp 40) rfl w0.heap.size _ ns rfl HO.out (some ⟨w.heap.size, 0, none⟩) 1 1 [d] rfl rfl HR.out (by simp; omega) HB0.out ?_); intro v1 w1 hown1 hg1; obtain ⟨hx1, w3, hrun, hfin⟩ := ze9 HH.out d (by omega) hn hown1 hg1; obtain ⟨A1, n1, k1, rfl⟩ : ∃ A n c, v1 = .slice A n c := ⟨_, _, _, hown1.slice.choose_spec.choose_spec.1⟩; have r0 : w1.cell? ⟨y, 0, none⟩ = some (.slice A ns.length c) := hx1.cell 0; have r1 : w1.cell? ⟨y, 1, none⟩ = some (.map (some b)) := hx1.cell 1; have r2 := hx1.free 0; have r3 := hx1.free 1; have hx1l := hx1.lt; have HF := zH hfin; clear hown1 hg1 hfin hx1))
   go_ret
   exact ⟨rfl, HF.out⟩
def zG (ns : List T) (i : Int) : T := if 0 ≤ i ∧ i < (ns.length : Int) then ns.getD i.toNat [] else []
theorem JM {w : World} {y : Nat} {A : Option Addr} {c : Nat} {mo : Value} {ns : List T} (H : HpM.Bx w y #[.slice A ns.length c, mo] 149) (R : Rds w A (ns.map sv)) (i : Int) :
 Calls Tryz.prog 78 #[.pointer (some ⟨y, 0, none⟩), .int .i64 i] w fun e w' => e = .returned (.string ⟨(zG ns i).toArray⟩) ∧ w = w' := by
 have c0 : w.cell? ⟨y, 0, none⟩ = some (.slice A ns.length c) := H.cell 0
 by_cases h0 : i < 0
 · have hE := zH (show zG ns i = [] by unfold zG; rw [if_neg (by omega)])
   clear R
   go_enter Tryz.func78, Tryz.ntmps78
   go_wp2
   go_ret
   exact ⟨by rw [hE.out]; rfl, rfl⟩
 · by_cases h1 : (ns.length : Int) ≤ i
   · have hE := zH (show zG ns i = [] by unfold zG; rw [if_neg (by omega)])
     have h0' : decide (i < 0) = false := by simpa using h0
     have h1' : decide ((ns.length : Int) ≤ i) = true := by simpa using h1
     clear R
     go_enter Tryz.func78, Tryz.ntmps78
     go_wp2
     go_ret
     exact ⟨by rw [hE.out]; rfl, rfl⟩
   · obtain ⟨k, rfl⟩ : ∃ k : Nat, i = (k : Int) := ⟨i.toNat, by omega⟩
     have hk : k < ns.length := by omega
     have hE := zH (show zG ns (k : Int) = ns[k] by unfold zG; rw [if_pos (by omega), Int.toNat_natCast, List.getD_eq_getElem?_getD, List.getElem?_eq_getElem hk]; rfl)
     have h1' : decide (ns.length ≤ k) = false := by simpa using hk
     have h2 : decide ((ns.length : Int) ≤ (k : Int)) = false := by simpa using hk
     obtain ⟨b, o, rfl, hb, hc⟩ := R.at_ (k := k) (by simpa using hk)
     rw [List.getElem_map] at hc
     clear R h0 h1
     go_enter Tryz.func78, Tryz.ntmps78
     go_wp2
     go_ret
     exact ⟨by rw [hE.out]; rfl, rfl⟩
end LnkA
end Go.Proofs.YtmkdhdmkdcankaaGreatDoor
