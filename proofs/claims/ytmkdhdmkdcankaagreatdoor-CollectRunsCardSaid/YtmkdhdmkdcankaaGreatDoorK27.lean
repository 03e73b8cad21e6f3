/- pieces -/
import Derived.Test.YtmkdhdmkdcankaaGreatDoorK26
namespace Go.Proofs.YtmkdhdmkdcankaaGreatDoor
set_option maxRecDepth 100000
set_option maxHeartbeats 8000000
namespace LnkC
open Go.RowKit Base BinM Stru DescM DescW DescX DescS DescG DescP DescQ HierS HierT HierM HierC HierD HierN Kls KlsP KlsQ OpenK TabC TabM TabK TabP TabE TabB TabG TabH TabT TabU TabV TabX TabW TabN TabO TabY TabCs
theorem jG {w : World} {base b size n : Nat} {e : TypeId} {v : Value} {xs : List Value} {C : Array Value} {ty : TypeId} (h : w.ownsRow base e size v n xs) (hb : HpM.Bx w b C ty) (hne : ty ≠ e) : v.ownBlock ≠ some b := by
 intro e'
 rcases h.2 with ⟨hv, _⟩ | ⟨g, cap, cur, hv, _, hh, _⟩
 · rw [hv] at e'; cases e'
 · rw [hv] at e'
   have e2 : g = b := by injection e'
   subst e2
   have hb2 : w.heap[g]? = some (.cells C ty (0, 0)) := hb
   rw [hh] at hb2
   injection hb2 with hb2
   injection hb2 with _ hb3 _
   exact hne hb3.symm
def Jz (w : World) (base : Nat) (v : Value) (l : List Int) : Prop := w.ownsRow base 3 1 v l.length (l.map (Value.int .i64))
theorem Jz.nil (w : World) (base : Nat) : Jz w base (.slice none 0 0) [] := World.ownsRow_nil _ _ _ _
theorem infoJ : (Tryz.prog.info? 3).map (fun i => (i.zero, i.size, i.bytes)) = some (some (.int .i64 0), 1, 8) := by kernel_rfl
theorem zg7 (l : List Int) : ∀ u ∈ l.map (Value.int .i64), u.oneCell' = true := by
 intro u hu
 obtain ⟨t, _, rfl⟩ := List.mem_map.1 hu
 rfl
theorem appJ {ops : Array Oper} {rest : List Oper} {o : Oper} {a : Act} {w : World} {Q : Exit → Act → World → Prop} (hgd : o.guard = none) (s x : Operand)
 (ho : o.op = .call { callee := .builtin .append, args := #[s, x], argTypes := #[24, 24] })
 (base : Nat) (v : Value) (p : List Int) (hs : a.eval s = v) (hown : Jz w base v p) (A : Option Addr) (m c : Nat) (l : List Int) (hx : a.eval x = .slice A m c)
 (hm : m = l.length) (hr : Rds w A (l.map (Value.int .i64))) (hlen : p.length + l.length ≤ 1048576) (hbase : base ≤ w.heap.size)
 (h : ∀ v' w', Jz w' base v' (p ++ l) → w.grownBy w' v.ownBlock → wpList Tryz.prog ops Q rest (a.put o.dst v') w') : wpList Tryz.prog ops Q (o :: rest) a w := by
 obtain ⟨i0, hi, hz, hs1, hb1⟩ := info_parts infoJ
 refine zJ hgd s x 24 ho base 3 i0 _ 8 Tryz.underlying24 hi hz hs1 hb1 rfl v p.length (p.map (Value.int .i64)) hs hown A m c (l.map (Value.int .i64)) hx (by rw [List.length_map, hm]) hr (zg7 l) (by unfold maxLen; omega) (by omega) hbase ?_
 intro v' w' h1 h2
 refine h v' w' ?_ h2
 unfold Jz
 rw [List.map_append, List.length_append, ← hm]
 exact h1
theorem Jz.slice {w : World} {base : Nat} {v : Value} {p : List Int} (h : Jz w base v p) :
 ∃ A c, v = .slice A p.length c ∧ p.length ≤ c ∧ c ≤ maxLen ∧ Rds w A (p.map (Value.int .i64)) ∧ ∀ a, A = some a → base ≤ a.block ∧ a.block < w.heap.size := by
 obtain ⟨A, c, rfl, h1, h2, h3, _⟩ := zi h
 exact ⟨A, c, rfl, h1, h2, Rds.own h, fun a ha => ⟨(h3 a ha).1, (h3 a ha).2.1⟩⟩
def Ze (l : List zU) (k : Nat) : List Int := ((List.range k).filter (fun j => qR ((l.map zU.desc).getD j []))).map (fun (j : Nat) => (j : Int))
theorem uH (l : List zU) (k : Nat) (hk : k < l.length) : Ze l (k + 1) = if qR l[k].desc then Ze l k ++ [(k : Int)] else Ze l k := by
 unfold Ze
 rw [List.range_succ, List.filter_append, List.map_append]
 have e : (l.map zU.desc).getD k [] = l[k].desc := by
  rw [List.getD_eq_getElem?_getD, List.getElem?_map, List.getElem?_eq_getElem hk]; rfl
 simp only [List.filter_cons, e, List.filter_nil]
 split <;> simp
theorem vE (l : List zU) (k : Nat) : (Ze l k).length ≤ k := by
 unfold Ze
 rw [List.length_map]
 exact Nat.le_trans (List.length_filter_le _ _) (by simp)
def zk4 (w : World) (k s : Int) (refs : List Int) (all : Bool) (e : Ending) (w' : World) : Prop :=
 ∃ A c, e = .returned (.agg #[.int .i64 k, .int .i64 s, .slice A refs.length c, .bool all]) ∧ Rds w' A (refs.map (Value.int .i64)) ∧ refs.length ≤ c ∧ Below w.heap.size w w' ∧ ∀ a, A = some a → w.heap.size ≤ a.block
theorem zl4 : (Tryz.prog.info? 103).map (·.size) = some 4 := by kernel_rfl
def fov (w : World) (b : Nat) (v0 v1 v2 v3 : Value) : World := (((w.setCell ⟨b, 0, none⟩ v0).setCell ⟨b, 1, none⟩ v1).setCell ⟨b, 2, none⟩ v2).setCell ⟨b, 3, none⟩ v3
theorem zc4 {w : World} {b : Nat} {ty : TypeId} {u0 u1 u2 u3 : Value} (h : HpM.Bx w b #[u0, u1, u2, u3] ty) (v0 v1 v2 v3 : Value) : HpM.Bx (fov w b v0 v1 v2 v3) b #[v0, v1, v2, v3] ty := (((h.set 0 v0).set 1 v1).set 2 v2).set 3 v3
theorem xY {lo : Nat} {a w : World} (h : Below lo a w) {b : Nat} (hb : lo ≤ b) (v0 v1 v2 v3 : Value) : Below lo a (fov w b v0 v1 v2 v3) :=
 (((h.setCell (p := ⟨b, 0, none⟩) hb v0).setCell (p := ⟨b, 1, none⟩) hb v1).setCell (p := ⟨b, 2, none⟩) hb v2).setCell (p := ⟨b, 3, none⟩) hb v3
theorem xX (w : World) (b : Nat) (v0 v1 v2 v3 : Value) (k : Nat) (hk : k ≠ b) : (fov w b v0 v1 v2 v3).heap[k]? = w.heap[k]? := by
 unfold fov
 rw [heap_setCell_other _ ⟨b, 3, none⟩ k _ hk, heap_setCell_other _ ⟨b, 2, none⟩ k _ hk, heap_setCell_other _ ⟨b, 1, none⟩ k _ hk, heap_setCell_other _ ⟨b, 0, none⟩ k _ hk]
theorem QW {W : World} {b : Nat} {k s : Int} {A : Option Addr} {n c : Nat} {all : Bool} (h : HpM.Bx W b #[.int .i64 k, .int .i64 s, .slice A n c, .bool all] 103) :
 (loadVar 103 ⟨b, 0, none⟩).run Tryz.prog W = .ok (.agg #[.int .i64 k, .int .i64 s, .slice A n c, .bool all]) W :=
 run_loadVar_row _ _ _ _ #[.int .i64 k, .int .i64 s, .slice A n c, .bool all] (0, 0) _ h Tryz.underlying103 rfl zl4
theorem yu {lo : Nat} {w : World} {t g mb n : Nat} {A : Option Addr} {c : Nat} {h : Hr} {L : List za} {f : T → Option zO} (H : Ta lo w t g mb n A c h L f) (ht : Total L f) (q : T) (hq : q.length ≤ 140737488351232) (hfew : ∀ k ∈ L, k.fields.length ≤ 16 ∧ k.meths.length ≤ 32)
 {p : Nat} {x0 x2 x3 : Value} (HP : HpM.Bx w p #[x0, .pointer (some ⟨t, 0, none⟩), x2, x3] 154) (hdl : ∀ y ∈ (hav L q).1, y.desc.length ≤ 140737488355328) :
 Calls Tryz.prog 82 #[.pointer (some ⟨p, 0, none⟩), .string ⟨q.toArray⟩] w (zk4 w 0 (((hav L q).1.map ZJ).length : Int) (Ze ((hav L q).1.map ZJ) ((hav L q).1.map ZJ).length) false) := by
 have hb : Below w.heap.size w (w.alloc (.cells #[.int .i64 0, .int .i64 0, .slice none 0 0, .bool false] 103)) := (Below.refl _ _).alloc (Nat.le_refl _) _
 have HL := zH (zb0 (H.ext hb) ht q hq hfew)
 have p1 : w.cell? ⟨p, 1, none⟩ = some (.pointer (some ⟨t, 0, none⟩)) := HP.cell 1
 have HR := zH (HpM.Bx.new w #[.int .i64 0, .int .i64 0, .slice none 0 0, .bool false] 103)
 have hl5 := (QL hfew q).1
 have hplt := HP.lt
 have hdl' : ∀ y ∈ (hav L q).1.map ZJ, y.desc.length ≤ 140737488355328 := by
  intro y hy
  obtain ⟨z, hz, rfl⟩ := List.mem_map.1 hy
  exact hdl z hz
 have HD := zH hdl'
 have hll : ((hav L q).1.map ZJ).length ≤ 5000 := by simpa using hl5
 have HB := zH hb
 clear H ht hfew HP hb hdl hdl' hl5
 generalize (hav L q).1.map ZJ = l at *
 go_enter Tryz.func82, Tryz.ntmps82
 go_wp2_with fail
 refine HL.out.mono ?_
 rintro e w1 ⟨v1, rfl, ho1, hb1⟩
 obtain ⟨A1, c1, rfl, hc1, hc2, _, _⟩ := zi ho1
 have R1 := zH (Rds.own ho1)
 have HR1 := zH (HR.out.after hb1)
 have HB1 := zH (HB.out.trans (hb1.mono HB.out.size))
 have hs1 := hb1.size
 clear ho1 hb1
 have hrow : ∀ k (hk : k < l.length), l[k].desc.length ≤ 140737488355328 := fun k hk => HD.out _ (List.getElem_mem hk)
 have HRow := zH hrow
 clear hrow
 have Z := zH ((Below.refl w1.heap.size w1).alloc (Nat.le_refl _) (.cells #[.int .i64 0, .int .i64 (l.length : Int), .slice none 0 0, .bool false] 103))
 have ZX := zH (HpM.Bx.new w1 #[.int .i64 0, .int .i64 (l.length : Int), .slice none 0 0, .bool false] 103)
 go_wp2_with fail
 go_loopw [20] (fun i wr => ∃ (k : Nat) (v : Value), k ≤ l.length ∧ i = .int .i64 (k : Int) ∧ HpM.Bx wr w1.heap.size #[.int .i64 0, .int .i64 (l.length : Int), v, .bool false] 103 ∧ Jz wr w1.heap.size v (Ze l k) ∧ Below w1.heap.size w1 wr) (fun i _ => l.length - (intOf i).toNat)
 case atStart => exact ⟨0, _, Nat.zero_le _, rfl, ZX.out, Jz.nil _ _, Z.out⟩
 case round =>
  obtain ⟨k, v, hk, rfl, hbx, hown, hbel⟩ := hrel
  obtain ⟨A2, c2, rfl, hc3, hc4, _, hat⟩ := hown.slice
  have HAt := zH hat
  clear hat
  have hszr := hbel.size
  have hbl := hbx.lt
  by_cases hlt : k < l.length
  · obtain ⟨b, o, rfl, hb1, hd0, hd1⟩ := jr (R1.out.below hbel) hlt
    have HS := zH (uH l k hlt)
    have HRf := zH (fun w => DescX.zg1 l[k].desc w (HRow.out k hlt))
    have hrl := vE l k
    have hbx2 := hbx.after ((Below.refl _ _).alloc (Nat.le_refl _) (.cells #[.string ⟨l[k].name.toArray⟩, .string ⟨l[k].desc.toArray⟩] 141))
    have x2 : (wr.alloc (.cells #[.string ⟨l[k].name.toArray⟩, .string ⟨l[k].desc.toArray⟩] 141)).cell? ⟨w1.heap.size, 2, none⟩ = some (.slice A2 (Ze l k).length c2) := hbx2.cell 2
    have HX := zH hbx
    have HO := zH hown
    have HBe := zH hbel
    have HX2 := zH hbx2
    clear hbx hown hbel hbx2
    generalize l[k] = y at *
    obtain ⟨y0, y1⟩ := y
    simp only at hd0 hd1 HRf HS x2 HX2
    cases hq2 : qR y1
    · have HE := zH (show Ze l (k + 1) = Ze l k by rw [HS.out, hq2]; rfl)
      rw [hq2] at HRf
      clear HS hq2
      go_wp2_with (go_at_call 84; refine (HRf.out _).mono ?_; rintro e w' ⟨rfl, rfl⟩)
      go_roundw
      case rel => exact ⟨k + 1, _, by omega, by go_num, HX2.out, by rw [HE.out]; exact World.ownsRow.alloc HO.out _, HBe.out.alloc hszr _⟩
      case measure => simp [intOf]; omega
    · have HE := zH (show Ze l (k + 1) = Ze l k ++ [(k : Int)] by rw [HS.out, hq2]; rfl)
      rw [hq2] at HRf
      clear HS hq2
      have HO2 := zH (World.ownsRow.alloc (World.ownsRow.alloc HO.out (.cells #[.string ⟨y0.toArray⟩, .string ⟨y1.toArray⟩] 141)) (.cells #[.int .i64 (k : Int)] 3))
      have HRd : Hid (Rds ((wr.alloc (.cells #[.string ⟨y0.toArray⟩, .string ⟨y1.toArray⟩] 141)).alloc (.cells #[.int .i64 (k : Int)] 3)) (some ⟨wr.heap.size + 1, 0, none⟩) [.int .i64 (k : Int)]) := zH (by
       have := LnkA.ZG (HpM.Bx.new (wr.alloc (.cells #[.string ⟨y0.toArray⟩, .string ⟨y1.toArray⟩] 141)) #[.int .i64 (k : Int)] 3)
       rw [World.size_alloc] at this
       exact this)
      have HS2 : Hid (w1.heap.size ≤ ((wr.alloc (.cells #[.string ⟨y0.toArray⟩, .string ⟨y1.toArray⟩] 141)).alloc (.cells #[.int .i64 (k : Int)] 3)).heap.size) := zH (by simp; omega)
      have HBx2 := zH (HX2.out.after ((Below.refl _ _).alloc (Nat.le_refl _) (.cells #[.int .i64 (k : Int)] 3)))
      have HBe2 := zH ((HBe.out.alloc hszr (.cells #[.string ⟨y0.toArray⟩, .string ⟨y1.toArray⟩] 141)).alloc (by simp; omega) (.cells #[.int .i64 (k : Int)] 3))
      have hnb := jG HO.out HX.out (by decide)
      go_wp2_with (first
       | (go_at_call 84; refine (HRf.out _).mono ?_; rintro e w' ⟨rfl, rfl⟩)
       | (at_builtin; refine appJ rfl (.tmp 29) (.tmp 31) rfl w1.heap.size _ (Ze l k) rfl HO2.out (some ⟨wr.heap.size + 1, 0, none⟩) 1 1 [(k : Int)] rfl rfl HRd.out (by simp; omega) HS2.out ?_; intro v2 w2 hown2 hg2; obtain ⟨A3, n3, c3, rfl⟩ : ∃ A n c, v2 = .slice A n c := ⟨_, _, _, hown2.slice.choose_spec.choose_spec.1⟩; have hx3 := (hg2.block _ HBx2.out.lt (fun e => hnb e.symm)).trans HBx2.out; have r2 : w2.cell? ⟨w1.heap.size, 2, none⟩ = some (.slice A2 (Ze l k).length c2) := HpM.Bx.cell hx3 2; have r3 := HpM.Bx.free hx3 2; have r4 := HpM.Bx.lt hx3; have HX3 := zH (HpM.Bx.set hx3 2 (.slice A3 n3 c3)); have HO3 := zH hown2; have HB3 := zH (zC HBe2.out HO2.out (Nat.le_refl _) HS2.out hg2); have hn3 := jG hown2 hx3 (by decide); clear hown2 hg2 hx3))
      go_roundw
      case rel => exact ⟨k + 1, _, by omega, by go_num, HX3.out, by rw [HE.out]; exact TabM.ze HO3.out (fun j hj => heap_setCell_other _ ⟨w1.heap.size, 2, none⟩ _ _ (fun e => hn3 (by rw [hj, e]))), HB3.out.setCell (p := ⟨w1.heap.size, 2, none⟩) (Nat.le_refl _) _⟩
      case measure => simp [intOf]; omega
  · have hkl : k = l.length := by omega
    subst hkl
    have HX := zH hbx
    have HO := zH hown
    have HRr := zH (HR1.out.after hbel)
    have HBa := zH (HB1.out.trans (hbel.mono HB1.out.size))
    have q0 : wr.cell? ⟨w1.heap.size, 0, none⟩ = some (.int .i64 0) := hbx.cell 0
    have q1 : wr.cell? ⟨w1.heap.size, 1, none⟩ = some (.int .i64 (l.length : Int)) := hbx.cell 1
    have q2 : wr.cell? ⟨w1.heap.size, 2, none⟩ = some (.slice A2 (Ze l l.length).length c2) := hbx.cell 2
    have q3 : wr.cell? ⟨w1.heap.size, 3, none⟩ = some (.bool false) := hbx.cell 3
    have u0 := HRr.out.free 0
    have u1 := HRr.out.free 1
    have u2 := HRr.out.free 2
    have u3 := HRr.out.free 3
    have s0 : wr.cell? ⟨w.heap.size, 0, none⟩ = some (.int .i64 0) := HRr.out.cell 0
    have s1 : wr.cell? ⟨w.heap.size, 1, none⟩ = some (.int .i64 0) := HRr.out.cell 1
    have s2 : wr.cell? ⟨w.heap.size, 2, none⟩ = some (.slice none 0 0) := HRr.out.cell 2
    have s3 : wr.cell? ⟨w.heap.size, 3, none⟩ = some (.bool false) := HRr.out.cell 3
    have hwl := HRr.out.lt
    clear hbx hown hbel
    have hnb := jG HO.out HRr.out (by decide)
    have EX : HpM.Bx ((((wr.setCell ⟨w.heap.size, 0, none⟩ (.int .i64 0)).setCell ⟨w.heap.size, 1, none⟩ (.int .i64 (l.length : Int))).setCell ⟨w.heap.size, 2, none⟩ (.slice A2 (Ze l l.length).length c2)).setCell ⟨w.heap.size, 3, none⟩ (.bool false)) w.heap.size #[.int .i64 0, .int .i64 (l.length : Int), .slice A2 (Ze l l.length).length c2, .bool false] 103 := zc4 HRr.out _ _ _ _
    have EB : Below w.heap.size w ((((wr.setCell ⟨w.heap.size, 0, none⟩ (.int .i64 0)).setCell ⟨w.heap.size, 1, none⟩ (.int .i64 (l.length : Int))).setCell ⟨w.heap.size, 2, none⟩ (.slice A2 (Ze l l.length).length c2)).setCell ⟨w.heap.size, 3, none⟩ (.bool false)) := xY HBa.out (Nat.le_refl _) _ _ _ _
    have ER : Rds ((((wr.setCell ⟨w.heap.size, 0, none⟩ (.int .i64 0)).setCell ⟨w.heap.size, 1, none⟩ (.int .i64 (l.length : Int))).setCell ⟨w.heap.size, 2, none⟩ (.slice A2 (Ze l l.length).length c2)).setCell ⟨w.heap.size, 3, none⟩ (.bool false)) A2 ((Ze l l.length).map (Value.int .i64)) := Rds.own (TabM.ze HO.out (fun j hj => xX wr w.heap.size (.int .i64 0) (.int .i64 (l.length : Int)) (.slice A2 (Ze l l.length).length c2) (.bool false) j (fun e => hnb (by rw [hj, e]))))
    have EX1 := zH EX
    have EB1 := zH EB
    have ER1 := zH ER
    clear EX EB ER hnb
    go_wp2_with fail
    exact bodyPost_ret (v := .agg #[.int .i64 0, .int .i64 (l.length : Int), .slice A2 (Ze l l.length).length c2, .bool false]) (jE Tryz.results82 _ _ _ _ rfl (QW EX1.out)) rfl ⟨A2, c2, rfl, ER1.out, hc3, EB1.out, fun a ha => Nat.le_trans HB1.out.size (HAt.out a ha).1⟩
end LnkC
namespace LnkS
open Go.RowKit Base BinM Stru DescM DescW DescX DescS DescG DescP DescQ HierS HierT HierM HierC HierD HierN Kls KlsP KlsQ OpenK TabC TabM TabK TabP TabE TabB TabG TabH TabT TabU TabV TabX TabW TabN TabO TabY TabCs LnkA LnkC
structure Sh where
 k : Int
 s : Int
 refs : List Int
 all : Bool
def noSh : Sh := ⟨0, 0, [], false⟩
def JD (L : List za) (q : T) : Sh := ⟨0, (((hav L q).1.map ZJ).length : Int), Ze ((hav L q).1.map ZJ) ((hav L q).1.map ZJ).length, false⟩
def ZF (h : Hr) (L : List za) (d : T) : Sh × Bool :=
 if d == [83] then (⟨2, 0, [], false⟩, true)
 else if h.known d then
  (if (zl d).2 then (JD L (zl d).1, true) else if (Zx d).2 == 0 then (⟨1, 0, [], qR (Zx d).1⟩, true) else (noSh, false))
 else (noSh, false)
def QJ (w : World) (r : Sh × Bool) (e : Ending) (w' : World) : Prop :=
 ∃ A c, e = .returned (.tuple #[.agg #[.int .i64 r.1.k, .int .i64 r.1.s, .slice A r.1.refs.length c, .bool r.1.all], .bool r.2]) ∧ Rds w' A (r.1.refs.map (Value.int .i64)) ∧ r.1.refs.length ≤ c ∧ Below w.heap.size w w' ∧ ∀ a, A = some a → w.heap.size ≤ a.block
theorem zd0 (d : T) : (zl d).1.length ≤ d.length := by
 unfold zl
 split
 · simp; omega
 · simp
theorem vZ (d : T) : (Zx d).1.length ≤ d.length := by
 unfold Zx
 split <;> simp
structure Pg (lo : Nat) (w : World) (p y t g mb n : Nat) (A : Option Addr) (c : Nat) (h : Hr) (L : List za) (f : T → Option zO) (ns : List T) : Prop where
 box : ∃ x2 x3, HpM.Bx w p #[.pointer (some ⟨y, 0, none⟩), .pointer (some ⟨t, 0, none⟩), x2, x3] 154
 ta : Ta lo w t g mb n A c h L f
 tot : Total L f
 few : ∀ k ∈ L, k.fields.length ≤ 16 ∧ k.meths.length ≤ 32
 dl : ∀ q, ∀ y ∈ (hav L q).1, y.desc.length ≤ 140737488355328
 ty : ∃ A c mo, HpM.Bx w y #[.slice A ns.length c, mo] 149 ∧ Rds w A (ns.map sv)
 nl : ∀ d ∈ ns, d.length ≤ 10000
theorem Pg.ext {lo : Nat} {w w' : World} {p y t g mb n : Nat} {A : Option Addr} {c : Nat} {h : Hr} {L : List za} {f : T → Option zO} {ns : List T} (H : Pg lo w p y t g mb n A c h L f ns) (hb : Below w.heap.size w w') : Pg lo w' p y t g mb n A c h L f ns := by
 obtain ⟨⟨x2, x3, h1⟩, h2, h3, h4, h5, ⟨a, b, m, h6, h7⟩, h8⟩ := H
 exact ⟨⟨x2, x3, h1.after hb⟩, h2.ext hb, h3, h4, h5, ⟨a, b, m, h6.after hb, h7.below hb⟩, h8⟩
theorem QD {ns : List T} (h : ∀ d ∈ ns, d.length ≤ 10000) (i : Int) : (LnkA.zG ns i).length ≤ 10000 := by
 unfold LnkA.zG
 split
 · rename_i hi
   rw [List.getD_eq_getElem?_getD, List.getElem?_eq_getElem (by omega)]
   exact h _ (List.getElem_mem _)
 · simp
theorem hier_any {lo : Nat} {w : World} {t g mb n : Nat} {A : Option Addr} {c : Nat} {h : Hr} {L : List za} {f : T → Option zO} (H : Ta lo w t g mb n A c h L f) :
 Calls Tryz.prog 79 #[.pointer (some ⟨t, 0, none⟩)] w fun e w' => e = .returned (.pointer (some ⟨g, 0, none⟩)) ∧ w = w' := by
 have b0 := H.box.cell 0
 have hgl := H.box.lt
 clear H
 go_enter Tryz.func79, Tryz.ntmps79
 go_wp2_with fail
 go_ret
 exact ⟨rfl, rfl⟩
theorem zl7 {lo : Nat} {w : World} {p y t g mb n : Nat} {A : Option Addr} {c : Nat} {h : Hr} {L : List za} {f : T → Option zO} {ns : List T} (H : Pg lo w p y t g mb n A c h L f ns) (i : Int) :
 Calls Tryz.prog 48 #[.pointer (some ⟨p, 0, none⟩), .int .i64 i] w (QJ w (ZF h L (LnkA.zG ns i))) := by
 have hb : Below w.heap.size w (w.alloc (.cells #[.int .i64 0, .int .i64 0, .slice none 0 0, .bool false] 103)) := (Below.refl _ _).alloc (Nat.le_refl _) _
 have H1 := zH (H.ext hb)
 have HN : Hid (∀ w', Below w.heap.size w w' → Calls Tryz.prog 78 #[.pointer (some ⟨y, 0, none⟩), .int .i64 i] w' fun e w2 => e = .returned (.string ⟨(LnkA.zG ns i).toArray⟩) ∧ w' = w2) := zH (fun w' hb => by
  obtain ⟨a, b, m, h6, h7⟩ := (H.ext hb).ty
  exact JM h6 h7 i)
 have HBx := zH (HpM.Bx.new w #[.int .i64 0, .int .i64 0, .slice none 0 0, .bool false] 103)
 have hdl := QD H.nl i
 obtain ⟨x2, x3, hpx⟩ := H.box
 have p0 : w.cell? ⟨p, 0, none⟩ = some (.pointer (some ⟨y, 0, none⟩)) := hpx.cell 0
 have p1 : w.cell? ⟨p, 1, none⟩ = some (.pointer (some ⟨t, 0, none⟩)) := hpx.cell 1
 have hpl := hpx.lt
 have HB := zH hb
 clear H hpx hb
 generalize LnkA.zG ns i = d at *
 cases hS : d == [83]
 · have HT := zH (hier_any H1.out.ta)
   have HK := zH (HierD.J9 lo g h d _ H1.out.ta.hier (by omega))
   cases hK : h.known d
   · have HE := zH (show ZF h L d = (noSh, false) by unfold ZF; rw [hS, hK]; rfl)
     rw [hK] at HK
     go_enter Tryz.func48, Tryz.ntmps48
     go_wp2_with (first
      | (go_at_call 78; refine (HN.out _ HB.out).mono ?_; rintro e w' ⟨rfl, rfl⟩)
      | (go_at_call 79; refine HT.out.mono ?_; rintro e w' ⟨rfl, rfl⟩)
      | (go_at_call 80; refine HK.out.mono ?_; rintro e w' ⟨rfl, rfl⟩))
     exact bodyPost_ret (v := .tuple #[.agg #[.int .i64 0, .int .i64 0, .slice none 0 0, .bool false], .bool false]) (ZI Tryz.results48 _ _ _ _ rfl (QW (HpM.Bx.new w #[.int .i64 0, .int .i64 0, .slice none 0 0, .bool false] 103))) rfl ⟨none, 0, by rw [HE.out]; rfl, by rw [HE.out]; exact .inl rfl, by rw [HE.out]; exact Nat.le_refl _, (Below.refl _ _).alloc (Nat.le_refl _) _, fun a ha => by cases ha⟩
   · rw [hK] at HK
     have HC := zH (fun w => DescX.Vh d w (by omega))
     have hcl := zd0 d
     cases hC : (zl d).2
     · have HEl : Hid (∀ w, Calls Tryz.prog 83 #[.string ⟨d.toArray⟩] w fun e w' => e = .returned (.tuple #[.string ⟨(Zx d).1.toArray⟩, .int .i64 (Zx d).2]) ∧ w = w') := zH (fun w => DescX.elem_any d w (by omega))
       have hel := vZ d
       have HC2 : Hid (∀ w, Calls Tryz.prog 81 #[.string ⟨d.toArray⟩] w fun e w' => e = .returned (.tuple #[.string ⟨(zl d).1.toArray⟩, .bool false]) ∧ w = w') := zH (fun w => by have := HC.out w; unfold kT at this; rw [hC] at this; exact this)
       cases hE0 : (Zx d).2 == 0
       · have HE := zH (show ZF h L d = (noSh, false) by unfold ZF; rw [hS, hK, hC, hE0]; rfl)
         generalize zl d = C at *
         generalize Zx d = E at *
         obtain ⟨E1, E2⟩ := E
         simp only at hE0 hel HEl
         clear HC
         go_enter Tryz.func48, Tryz.ntmps48
         go_wp2_with (first
          | (go_at_call 78; refine (HN.out _ HB.out).mono ?_; rintro e w' ⟨rfl, rfl⟩)
          | (go_at_call 79; refine HT.out.mono ?_; rintro e w' ⟨rfl, rfl⟩)
          | (go_at_call 80; refine HK.out.mono ?_; rintro e w' ⟨rfl, rfl⟩)
          | (go_at_call 81; refine (HC2.out _).mono ?_; rintro e w' ⟨rfl, rfl⟩)
          | (go_at_call 83; refine (HEl.out _).mono ?_; rintro e w' ⟨rfl, rfl⟩))
         exact bodyPost_ret (v := .tuple #[.agg #[.int .i64 0, .int .i64 0, .slice none 0 0, .bool false], .bool false]) (ZI Tryz.results48 _ _ _ _ rfl (QW (HpM.Bx.new w #[.int .i64 0, .int .i64 0, .slice none 0 0, .bool false] 103))) rfl ⟨none, 0, by rw [HE.out]; rfl, by rw [HE.out]; exact .inl rfl, by rw [HE.out]; exact Nat.le_refl _, (Below.refl _ _).alloc (Nat.le_refl _) _, fun a ha => by cases ha⟩
       · have HE := zH (show ZF h L d = (⟨1, 0, [], qR (Zx d).1⟩, true) by unfold ZF; rw [hS, hK, hC, hE0]; rfl)
         have HRf := zH (fun w => DescX.zg1 (Zx d).1 w (by omega))
         generalize zl d = C at *
         generalize Zx d = E at *
         obtain ⟨E1, E2⟩ := E
         simp only at hE0 hel HRf HE HEl
         generalize qR E1 = rb at *
         clear HC
         go_enter Tryz.func48, Tryz.ntmps48
         go_wp2_with (first
          | (go_at_call 78; refine (HN.out _ HB.out).mono ?_; rintro e w' ⟨rfl, rfl⟩)
          | (go_at_call 79; refine HT.out.mono ?_; rintro e w' ⟨rfl, rfl⟩)
          | (go_at_call 80; refine HK.out.mono ?_; rintro e w' ⟨rfl, rfl⟩)
          | (go_at_call 81; refine (HC2.out _).mono ?_; rintro e w' ⟨rfl, rfl⟩)
          | (go_at_call 83; refine (HEl.out _).mono ?_; rintro e w' ⟨rfl, rfl⟩)
          | (go_at_call 84; refine (HRf.out _).mono ?_; rintro e w' ⟨rfl, rfl⟩))
         exact bodyPost_ret (v := .tuple #[.agg #[.int .i64 1, .int .i64 0, .slice none 0 0, .bool rb], .bool true]) (ZI Tryz.results48 _ _ _ _ rfl (QW (HpM.Bx.new w #[.int .i64 1, .int .i64 0, .slice none 0 0, .bool rb] 103))) rfl ⟨none, 0, by rw [HE.out]; rfl, by rw [HE.out]; exact .inl rfl, by rw [HE.out]; exact Nat.le_refl _, (Below.refl _ _).alloc (Nat.le_refl _) _, fun a ha => by cases ha⟩
     · have HC2 : Hid (∀ w, Calls Tryz.prog 81 #[.string ⟨d.toArray⟩] w fun e w' => e = .returned (.tuple #[.string ⟨(zl d).1.toArray⟩, .bool true]) ∧ w = w') := zH (fun w => by have := HC.out w; unfold kT at this; rw [hC] at this; exact this)
       have HE := zH (show ZF h L d = (JD L (zl d).1, true) by unfold ZF; rw [hS, hK, hC]; rfl)
       have HTh : Hid (Calls Tryz.prog 82 #[.pointer (some ⟨p, 0, none⟩), .string ⟨(zl d).1.toArray⟩] (w.alloc (.cells #[.int .i64 0, .int .i64 0, .slice none 0 0, .bool false] 103)) (zk4 (w.alloc (.cells #[.int .i64 0, .int .i64 0, .slice none 0 0, .bool false] 103)) (JD L (zl d).1).k (JD L (zl d).1).s (JD L (zl d).1).refs (JD L (zl d).1).all)) := zH (by
        obtain ⟨y2, y3, hp2⟩ := H1.out.box
        exact yu H1.out.ta H1.out.tot _ (by omega) H1.out.few hp2 (H1.out.dl _))
       generalize JD L (zl d).1 = S at *
       obtain ⟨s0, s1, s2, s3⟩ := S
       simp only at HTh HE
       generalize zl d = C at *
       clear HC hcl
       go_enter Tryz.func48, Tryz.ntmps48
       go_wp2_with (first
        | (go_at_call 78; refine (HN.out _ HB.out).mono ?_; rintro e w' ⟨rfl, rfl⟩)
        | (go_at_call 79; refine HT.out.mono ?_; rintro e w' ⟨rfl, rfl⟩)
        | (go_at_call 80; refine HK.out.mono ?_; rintro e w' ⟨rfl, rfl⟩)
        | (go_at_call 81; refine (HC2.out _).mono ?_; rintro e w' ⟨rfl, rfl⟩)
        | (go_at_call 82; refine HTh.out.mono ?_; rintro e w2 ⟨A2, c2, rfl, hr2, hc2, hb2, ha2⟩; have hx := HBx.out.after hb2; have u0 := hx.free 0; have u1 := hx.free 1; have u2 := hx.free 2; have u3 := hx.free 3; have q0 : w2.cell? ⟨w.heap.size, 0, none⟩ = some (.int .i64 0) := hx.cell 0; have q1 : w2.cell? ⟨w.heap.size, 1, none⟩ = some (.int .i64 0) := hx.cell 1; have q2 : w2.cell? ⟨w.heap.size, 2, none⟩ = some (.slice none 0 0) := hx.cell 2; have q3 : w2.cell? ⟨w.heap.size, 3, none⟩ = some (.bool false) := hx.cell 3; have hwl := hx.lt; have HX := zH (zc4 hx (.int .i64 s0) (.int .i64 s1) (.slice A2 s2.length c2) (.bool s3)); have HB3 := zH (HB.out.trans (hb2.mono HB.out.size)); have HR2 := zH hr2; have HA2 := zH ha2; clear hr2 hb2 hx ha2))
       have ER : Rds (fov w2 w.heap.size (.int .i64 s0) (.int .i64 s1) (.slice A2 s2.length c2) (.bool s3)) A2 (s2.map (Value.int .i64)) := qU HR2.out (by unfold fov; simp) (fun a ha => xX w2 w.heap.size _ _ _ _ a.block (fun e => by have := HA2.out a ha; rw [World.size_alloc, e] at this; omega))
       exact bodyPost_ret (v := .tuple #[.agg #[.int .i64 s0, .int .i64 s1, .slice A2 s2.length c2, .bool s3], .bool true]) (ZI Tryz.results48 _ _ _ _ rfl (QW HX.out)) rfl ⟨A2, c2, by rw [HE.out], by rw [HE.out]; exact ER, by rw [HE.out]; exact hc2, xY HB3.out (Nat.le_refl _) _ _ _ _, fun a ha => Nat.le_trans HB.out.size (HA2.out a ha)⟩
 · have HE := zH (show ZF h L d = (⟨2, 0, [], false⟩, true) by unfold ZF; rw [hS]; rfl)
   go_enter Tryz.func48, Tryz.ntmps48
   go_wp2_with (go_at_call 78; refine (HN.out _ HB.out).mono ?_; rintro e w' ⟨rfl, rfl⟩)
   exact bodyPost_ret (v := .tuple #[.agg #[.int .i64 2, .int .i64 0, .slice none 0 0, .bool false], .bool true]) (ZI Tryz.results48 _ _ _ _ rfl (QW (HpM.Bx.new w #[.int .i64 2, .int .i64 0, .slice none 0 0, .bool false] 103))) rfl ⟨none, 0, by rw [HE.out]; rfl, by rw [HE.out]; exact .inl rfl, by rw [HE.out]; exact Nat.le_refl _, (Below.refl _ _).alloc (Nat.le_refl _) _, fun a ha => by cases ha⟩
end LnkS
end Go.Proofs.YtmkdhdmkdcankaaGreatDoor
