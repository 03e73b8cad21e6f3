/- pieces -/
import Derived.Test.YtehainbhoflpnaaGreatDoorK29
import Derived.StillTailTactics
namespace Go.Proofs.YtehainbhoflpnaaGreatDoor
namespace KndM
open Go.RowKit Base BinM Stru DescM DescW DescX DescS DescG DescP DescQ HierS HierT HierM HierC HierD HierN HierV HierR HierU HierY Kls KlsP KlsQ OpenK TabC TabM TabK TabP TabE TabB TabG TabH TabT TabU TabV TabX TabW TabF TabN TabO TabY TabR TabQ TabL TabZ KndB
theorem YJ {w w' : World} {base : Nat} {v : Value} {p : List T} (h : zT w base v p) (hb : Below w.heap.size w w') : zT w' base v p :=
 TabM.zh h (fun k hk => hb.block k (h.lt k hk).2)
theorem K8 {w : World} {base : Nat} {A : Option Addr} {n c : Nat} {p : List T} (h : zT w base (.slice A n c) p) {k : Nat} (hk : k ≤ p.length) : zT w base (.slice A k c) (p.take k) := by
 obtain ⟨h1, h2⟩ := h
 rcases h2 with ⟨h3, h4⟩ | ⟨g, cap, cur, hv, h3, h4, h5, h6, h7, h8⟩
 · injection h3 with e1 e2 e3
   subst e1
   subst e3
   have e : k = 0 := by omega
   subst e
   exact World.ownsRow_nil _ _ _ _
 · injection hv with e1 e2 e3
   subst e1
   subst e3
   refine ⟨?_, .inr ⟨g, c, cur, ?_, h3, h4, ?_, h6, h7, ?_⟩⟩
   · simp; try omega
   · simp; try omega
   · simp; try omega
   · rw [Nat.mul_one] at h8 ⊢
     rw [List.map_take, ← h8, List.take_take, List.length_take]
theorem zc5 (A : Option Addr) (n c n' c' : Nat) : (Value.slice A n c).ownBlock = (Value.slice A n' c').ownBlock := by cases A <;> rfl
def stV (t : Nat) (kc : Value) (gv : T) (op a : Int) (LV SV : Value) : Array Value := #[.pointer (some ⟨t, 0, none⟩), kc, .string ⟨gv.toArray⟩, .int .i64 op, .int .i64 a, LV, SV]
structure St (lo b : Nat) (w : World) (t : Nat) (kc : Value) (gv : T) (op a : Int) (LV : Value) (ls : List T) (SV : Value) (ss : List T) : Prop where
 box : Bx w b (stV t kc gv op a LV SV) 66
 lob : lo ≤ b
 loc : zT w lo LV ls
 stk : zT w lo SV ss
 nl : LV.ownBlock ≠ some b
 ns : SV.ownBlock ≠ some b
 ap : ∀ k, LV.ownBlock = some k → SV.ownBlock ≠ some k
theorem St.ext {lo b : Nat} {w w' : World} {t : Nat} {kc : Value} {gv : T} {op a : Int} {LV SV : Value} {ls ss : List T} (h : St lo b w t kc gv op a LV ls SV ss) (hb : Below w.heap.size w w') : St lo b w' t kc gv op a LV ls SV ss :=
 ⟨h.box.after hb, h.lob, YJ h.loc hb, YJ h.stk hb, h.nl, h.ns, h.ap⟩
theorem St.los {lo b : Nat} {w : World} {t : Nat} {kc : Value} {gv : T} {op a : Int} {LV SV : Value} {ls ss : List T} (h : St lo b w t kc gv op a LV ls SV ss) : lo ≤ w.heap.size := by have := h.box.lt; have := h.lob; omega
theorem St.put {lo b : Nat} {w : World} {t : Nat} {kc : Value} {gv : T} {op a : Int} {LV SV : Value} {ls ss : List T} (h : St lo b w t kc gv op a LV ls SV ss) {SV' : Value} {ss' : List T} (hs : zT w lo SV' ss') (hn : SV'.ownBlock ≠ some b) (hp : ∀ k, LV.ownBlock = some k → SV'.ownBlock ≠ some k) :
 St lo b (w.setCell ⟨b, 6, none⟩ SV') t kc gv op a LV ls SV' ss' :=
 ⟨h.box.set 6 SV', h.lob, TabM.zh h.loc (fun k hk => heap_setCell_other w ⟨b, 6, none⟩ k SV' (fun e => h.nl (by rw [hk]; exact congrArg some e))), TabM.zh hs (fun k hk => heap_setCell_other w ⟨b, 6, none⟩ k SV' (fun e => hn (by rw [hk]; exact congrArg some e))), h.nl, hn, hp⟩
theorem vZ {lo b : Nat} {w : World} (h : lo ≤ b) (v : Value) : Below lo w (w.setCell ⟨b, 6, none⟩ v) := (Below.refl lo w).setCell h v
def zi (ss : List T) : T × List T × Bool := match ss.getLast? with | none => ([], [], false) | some d => (d, ss.take (ss.length - 1), true)
theorem Vn : zi [] = ([], [], false) := rfl
theorem YI {ss : List T} (h : 0 < ss.length) : zi ss = (ss[ss.length - 1], ss.take (ss.length - 1), true) := by
 unfold zi
 have h1 : ss.getLast? = some ss[ss.length - 1] := by rw [List.getLast?_eq_getElem?, List.getElem?_eq_getElem (by omega)]
 rw [h1]
def zN (lo b : Nat) (w : World) (t : Nat) (kc : Value) (gv : T) (op a : Int) (LV : Value) (ls ss : List T) (v : Value) (e : Ending) (w' : World) : Prop :=
 e = .returned v ∧ (∃ SV, St lo b w' t kc gv op a LV ls SV ss) ∧ Below lo w w'
theorem gB {w : World} {A : Option Addr} {xs : List Value} (h : Rds w A xs) : ∀ b : Addr, A = some b → ∀ j u, xs[j]? = some u → w.cell? (b.add j) = some u := by
 intro b hA j u hu
 rcases h with h | ⟨g, o, hA2, _, hc⟩
 · rw [h] at hu; simp at hu
 · rw [hA] at hA2
   injection hA2 with hA2
   rw [hA2, Addr.add_mid]
   exact hc j u hu
theorem Uo {ops : Array Oper} {rest : List Oper} {o : Oper} {a : Act} {w : World} {Q : Exit → Act → World → Prop} (hgd : o.guard = none) (s x : Operand)
 (ho : o.op = .call { callee := .builtin .append, args := #[s, x], argTypes := #[25, 25] })
 (base : Nat) (v : Value) (p : List T) (hs : a.eval s = v) (hown : zT w base v p) (g : Addr) (m c : Nat) (l : List T) (hx : a.eval x = .slice (some g) m c) (hm : m = l.length) (hr : Rds w (some g) (l.map sv))
 (hlen : p.length + l.length ≤ 1048576) (hbase : base ≤ w.heap.size)
 (h : ∀ v' w', zT w' base v' (p ++ l) → w.grownBy w' v.ownBlock → (v'.ownBlock = v.ownBlock ∨ v'.ownBlock = some w.heap.size) → wpList Tryz.prog ops Q rest (a.put o.dst v') w') : wpList Tryz.prog ops Q (o :: rest) a w := by
 obtain ⟨i0, hi, hz, hs1, hb1⟩ := info_parts HierM.Xm
 refine wpList_plain hgd fun K hK => ?_
 obtain ⟨v', w', hrun, h2, h3, _, h5⟩ := run_append_own_at (P := Tryz.prog) w base 25 o.type 9 i0 _ 1 16 Tryz.underlying25 hi hz hs1 hb1 rfl (by omega) v p.length (p.map sv) hown g m c (l.map sv) (by simp; omega)
  (gB hr g rfl) (uN l) (by unfold maxLen; omega) (by omega) hbase
 unfold Oper.wp execOp
 simp only [ho, resolve, invoke, builtin, Sem.run_bind, Sem.run_pure, Result.andThen_ok, List.map_toArray, List.map_cons, List.map_nil, hs, hx, hrun]
 refine hK _ _ (h v' w' ?_ h3 h5)
 unfold zT
 rw [List.map_append, List.length_append, ← hm]
 exact h2
set_option maxRecDepth 100000 in
theorem qO {lo b : Nat} {w : World} {t : Nat} {kc : Value} {gv : T} {op a : Int} {LV SV : Value} {ls ss : List T} (h : St lo b w t kc gv op a LV ls SV ss) (hm : ss.length ≤ 1000) :
 Calls Tryz.prog 106 #[.pointer (some ⟨b, 0, none⟩)] w (zN lo b w t kc gv op a LV ls (zi ss).2.1 (.tuple #[.string ⟨(zi ss).1.toArray⟩, .bool (zi ss).2.2])) := by
 obtain ⟨A, c, rfl, h1, h2, r, h3⟩ := h.stk.slice
 have c6 : w.cell? ⟨b, 6, none⟩ = some (.slice A ss.length c) := h.box.cell 6
 have f6 := h.box.free 6
 have HS := zH h
 have Hlt := h.box.lt
 have R := zH r
 clear h r h2
 by_cases h0 : 0 < ss.length
 · rw [YI h0]
   obtain ⟨g, o, rfl, hg, hc⟩ := R.out.at_ (k := ss.length - 1) (by simp; omega)
   rw [List.getElem_map] at hc
   have HT := zH (K8 HS.out.stk (k := ss.length - 1) (by omega))
   simp only [sv] at hc
   generalize ss[ss.length - 1] = d at *
   obtain ⟨m, hm'⟩ : ∃ m, ss.length = m + 1 := ⟨ss.length - 1, by omega⟩
   have hm2 : ss.length - 1 = m := by omega
   rw [hm2] at hc HT
   rw [hm'] at c6 h1
   have HE := zH hm2
   have HP := zH (HS.out.put HT.out HS.out.ns HS.out.ap)
   have hmi : (m : Int) < ((m + 1 : Nat) : Int) := by omega
   have hm0 : (0 : Int) ≤ (m : Int) := by omega
   rw [HE.out]
   have hmb : m + 1 ≤ 1000 := by omega
   clear hm' hm2 h0 HE hm
   go_enter Tryz.func106, Tryz.ntmps106
   go_wp2_with fail
   go_ret2
   exact ⟨rfl, ⟨_, HP.out⟩, vZ HS.out.lob _⟩
 · have e : ss = [] := List.eq_nil_of_length_eq_zero (by omega)
   subst e
   rw [Vn]
   go_enter Tryz.func106, Tryz.ntmps106
   go_wp2_with fail
   go_ret2
   exact ⟨rfl, ⟨_, HS.out⟩, Below.refl _ _⟩
set_option maxRecDepth 100000 in
set_option maxHeartbeats 1000000 in
theorem Zh {lo b : Nat} {w : World} {t : Nat} {kc : Value} {gv : T} {op a : Int} {LV SV : Value} {ls ss : List T} (h : St lo b w t kc gv op a LV ls SV ss) (hm : ss.length ≤ 1000) (g : Addr) (c : Nat) (ds : List T) (hd : ds.length ≤ 100) (hr : Rds w (some g) (ds.map sv)) :
 Calls Tryz.prog 50 #[.pointer (some ⟨b, 0, none⟩), .slice (some g) ds.length c] w (zN lo b w t kc gv op a LV ls (ss ++ ds) (.bool true)) := by
 obtain ⟨A, cs, rfl, _, _, _, _⟩ := h.stk.slice
 have c6 : w.cell? ⟨b, 6, none⟩ = some (.slice A ss.length cs) := h.box.cell 6
 have HS := zH h
 have Hlt := h.box.lt
 have R := zH hr
 have hlo := h.los
 clear h hr
 go_enter Tryz.func50, Tryz.ntmps50
 go_wp2_with (at_builtin
              refine Uo rfl (.tmp 10) (.tmp 11) rfl lo _ ss rfl HS.out.stk g ds.length c ds rfl rfl R.out (by omega) hlo ?_
              intro v1 w1 hown1 hg1 hloc
              obtain ⟨A1, n1, c1, rfl⟩ : ∃ A n c, v1 = .slice A n c := by obtain ⟨A, c, h, _⟩ := hown1.slice; exact ⟨A, _, c, h⟩
              have hbx : Bx w1 b (stV t kc gv op a LV (.slice A ss.length cs)) 66 := (hg1.block b Hlt (fun e => HS.out.ns e.symm)).trans HS.out.box
              have hB1 : Below lo w w1 := zV (Below.refl lo w) HS.out.stk (Nat.le_refl _) hlo hg1
              have hn1 : (Value.slice A1 n1 c1).ownBlock ≠ some b := by
               rcases hloc with e | e
               · rw [e]; exact HS.out.ns
               · rw [e]; intro h; injection h with h; omega
              have ha1 : ∀ k, LV.ownBlock = some k → (Value.slice A1 n1 c1).ownBlock ≠ some k := by
               intro k hk
               rcases hloc with e | e
               · rw [e]; exact HS.out.ap k hk
               · rw [e]; intro h; injection h with h; have := (World.ownsRow.lt HS.out.loc k hk).2; omega
              have hl1 : zT w1 lo LV ls := TabM.zh HS.out.loc (fun k hk => hg1.block k (World.ownsRow.lt HS.out.loc k hk).2 (fun e => HS.out.ap k hk e.symm))
              have F1 := hbx.free 6
              have HP : Hid (St lo b (w1.setCell ⟨b, 6, none⟩ (.slice A1 n1 c1)) t kc gv op a LV ls (.slice A1 n1 c1) (ss ++ ds)) := zH ⟨hbx.set 6 (.slice A1 n1 c1), HS.out.lob, TabM.zh hl1 (fun k hk => heap_setCell_other w1 ⟨b, 6, none⟩ k (.slice A1 n1 c1) (fun e => HS.out.nl (by rw [hk]; exact congrArg some e))), TabM.zh hown1 (fun k hk => heap_setCell_other w1 ⟨b, 6, none⟩ k (.slice A1 n1 c1) (fun e => hn1 (by rw [hk]; exact congrArg some e))), HS.out.nl, hn1, ha1⟩
              have HB := zH (hB1.setCell HS.out.lob (.slice A1 n1 c1) (p := ⟨b, 6, none⟩))
              have C1 : w1.cell? ⟨b, 6, none⟩ = some (.slice A ss.length cs) := hbx.cell 6
              have L1 := hbx.lt
              clear hown1 hg1 hloc hbx hB1 hn1 ha1 hl1)
 go_ret
 exact ⟨rfl, ⟨_, HP.out⟩, HB.out⟩
structure Tb (lo : Nat) (w : World) (t g : Nat) (h : Hr) : Prop where
 box : ∃ x y, Bx w t #[.pointer (some ⟨g, 0, none⟩), x, y] 105
 low : t < lo
 hier : IsH lo w g h
 good : yE h
theorem Tb.below {lo : Nat} {w w' : World} {t g : Nat} {h : Hr} (H : Tb lo w t g h) (hb : Below lo w w') : Tb lo w' t g h :=
 ⟨by obtain ⟨x, y, hx⟩ := H.box; exact ⟨x, y, (hb.block t H.low).trans hx⟩, H.low, H.hier.below hb, H.good⟩
theorem jy {lo : Nat} {w : World} {t g : Nat} {h : Hr} (H : Tb lo w t g h) :
 Calls Tryz.prog 107 #[.pointer (some ⟨t, 0, none⟩)] w fun e w' => e = .returned (.pointer (some ⟨g, 0, none⟩)) ∧ w' = w := by
 obtain ⟨x, y, hx⟩ := H.box
 have c0 : w.cell? ⟨t, 0, none⟩ = some (.pointer (some ⟨g, 0, none⟩)) := hx.cell 0
 have hlt := hx.lt
 clear H hx
 go_enter Tryz.func107, Tryz.ntmps107
 go_wp2_with fail
 go_ret
 exact ⟨rfl, rfl⟩
def ze9 (h : Hr) (ss ds : List T) (q : Nat) : Bool := (List.range ds.length).all fun j => h.sub (ss.getD (q + j) []) (ds.getD j [])
def zx (h : Hr) (ss ds : List T) : List T × Bool := if ds.length ≤ ss.length ∧ ze9 h ss ds (ss.length - ds.length) = true then (ss.take (ss.length - ds.length), true) else (ss, false)
theorem J9 {h : Hr} {ss ds : List T} (hl : ss.length < ds.length) : zx h ss ds = (ss, false) := by unfold zx; rw [if_neg (by omega)]
theorem Yx {h : Hr} {ss ds : List T} {q : Nat} (hq : ss.length = q + ds.length) (ha : ∀ j, j < ds.length → h.sub (ss.getD (q + j) []) (ds.getD j []) = true) : zx h ss ds = (ss.take q, true) := by
 have e : ss.length - ds.length = q := by omega
 unfold zx
 have hf : ze9 h ss ds q = true := by
  unfold ze9
  rw [List.all_eq_true]
  intro j hj
  exact ha j (List.mem_range.1 hj)
 rw [e, if_pos ⟨by omega, hf⟩]
theorem Xv {h : Hr} {ss ds : List T} {q : Nat} (hq : ss.length = q + ds.length) {j : Nat} (hj : j < ds.length) (hn : h.sub (ss.getD (q + j) []) (ds.getD j []) = false) : zx h ss ds = (ss, false) := by
 have e : ss.length - ds.length = q := by omega
 unfold zx
 rw [e, if_neg]
 rintro ⟨_, h2⟩
 unfold ze9 at h2
 rw [List.all_eq_true] at h2
 have := h2 j (List.mem_range.2 hj)
 rw [hn] at this
 cases this
def kD (lo b : Nat) (w : World) (t : Nat) (kc : Value) (gv : T) (op a : Int) (LV : Value) (ls ss : List T) (v : Value) (e : Ending) (w' : World) : Prop :=
 zN lo b w t kc gv op a LV ls ss v e w' ∧ ∀ k, k < w.heap.size → k ≠ b → w'.heap[k]? = w.heap[k]?
set_option maxRecDepth 100000 in
set_option maxHeartbeats 2000000 in
theorem Qi {lo b : Nat} {w : World} {t g : Nat} {hr : Hr} {kc : Value} {gv : T} {op a : Int} {LV SV : Value} {ls ss : List T} (X : Tb lo w t g hr) (h : St lo b w t kc gv op a LV ls SV ss) (hm : ss.length ≤ 1000) (B : Option Addr) (c : Nat) (ds : List T) (hd : ds.length ≤ 100) (hds : Rds w B (ds.map sv)) (hsl : ∀ x ∈ ss, x.length ≤ 140737488355328) (hdl : ∀ x ∈ ds, x.length ≤ 140737488355328) :
 Calls Tryz.prog 48 #[.pointer (some ⟨b, 0, none⟩), .slice B ds.length c] w (kD lo b w t kc gv op a LV ls (zx hr ss ds).1 (.bool (zx hr ss ds).2)) := by
 obtain ⟨A, cs, rfl, h1, _, r, _⟩ := h.stk.slice
 have c6 : w.cell? ⟨b, 6, none⟩ = some (.slice A ss.length cs) := h.box.cell 6
 have HS := zH h
 have HX := zH X
 have Hlt := h.box.lt
 have RS := zH r
 have RD := zH hds
 have Hsl := zH hsl
 have Hdl := zH hdl
 have hlo := h.los
 have Z := zH (Below.refl w.heap.size w)
 clear h X hds r hsl hdl
 by_cases hle : ds.length ≤ ss.length
 · obtain ⟨q, hq⟩ : ∃ q, ss.length = q + ds.length := ⟨ss.length - ds.length, by omega⟩
   have Hq := zH hq
   have HY := zH (fun (ha : ∀ j, j < ds.length → hr.sub (ss.getD (q + j) []) (ds.getD j []) = true) => Yx (h := hr) hq ha)
   have HN := zH (fun (j : Nat) (hj : j < ds.length) (hn : hr.sub (ss.getD (q + j) []) (ds.getD j []) = false) => Xv (h := hr) hq hj hn)
   rw [hq] at c6 h1 hm
   clear hq hle
   go_enter Tryz.func48, Tryz.ntmps48
   go_wp2_with fail
   go_loopw [6, 7, 21] (fun _ _ i wr => ∃ j : Nat, j ≤ ds.length ∧ i = .int .i64 j ∧ Hid (∀ k, k < j → hr.sub (ss.getD (q + k) []) (ds.getD k []) = true) ∧ Below w.heap.size w wr) (fun _ _ i _ => ds.length - (intOf i).toNat)
   case atStart => exact ⟨0, Nat.zero_le _, rfl, zH (fun k hk => by omega), Z.out⟩
   case round =>
    obtain ⟨j, hj, rfl, Hall, hbw⟩ := hrel
    have Hbw := zH hbw
    have hX := HX.out.below (hbw.mono hlo)
    have hSt := HS.out.ext hbw
    have c6' : wr.cell? ⟨b, 6, none⟩ = some (.slice A ss.length cs) := hSt.box.cell 6
    have c0' : wr.cell? ⟨b, 0, none⟩ = some (.pointer (some ⟨t, 0, none⟩)) := hSt.box.cell 0
    have Hlt' := hSt.box.lt
    rw [Hq.out] at c6'
    by_cases hlt : j < ds.length
    · obtain ⟨b1, o1, hB1, hb1, hc1⟩ := (RD.out.below hbw).at_ (k := j) (by simp; omega)
      have hss : q + j < ss.length := by have := Hq.out; omega
      obtain ⟨b2, o2, hA2, hb2, hc2⟩ := (RS.out.below hbw).at_ (k := q + j) (by simp; omega)
      subst hB1
      subst hA2
      rw [List.getElem_map] at hc1 hc2
      have hji : (j : Int) < (ds.length : Int) := by omega
      have hj0 : (0 : Int) ≤ (j : Int) := by omega
      have hqi : (q : Int) + (j : Int) < ((q + ds.length : Nat) : Int) := by omega
      have hq0 : (0 : Int) ≤ (q : Int) + (j : Int) := by omega
      have hqn : ((q : Int) + (j : Int)).toNat = q + j := by omega
      have hwr : IntKind.i64.wrap ((q : Int) + (j : Int)) = (q : Int) + (j : Int) := IntWalk.i64_in _ (by omega)
      have hsubl := Hsl.out _ (List.getElem_mem hss)
      have hdsl := Hdl.out _ (List.getElem_mem hlt)
      have e1 : ss.getD (q + j) [] = ss[q + j] := by rw [List.getD_eq_getElem?_getD, List.getElem?_eq_getElem hss]; rfl
      have e2 : ds.getD j [] = ds[j] := by rw [List.getD_eq_getElem?_getD, List.getElem?_eq_getElem hlt]; rfl
      have HNj := zH (HN.out j hlt)
      rw [e1, e2] at HNj
      have HAj : Hid (hr.sub ss[q + j] ds[j] = true → ∀ k, k < j + 1 → hr.sub (ss.getD (q + k) []) (ds.getD k []) = true) := zH (fun hh k hk => by
       rcases Nat.lt_succ_iff_lt_or_eq.1 hk with h | h
       · exact Hall.out k h
       · subst h; rw [e1, e2]; exact hh)
      have HSub := zH (zb2 lo g hr ss[q + j] ds[j] wr.drew (hX.hier.below ((Below.refl lo wr).drew)) (by show lo ≤ wr.heap.size; have := hbw.size; omega) hX.good hsubl hdsl)
      simp only [sv] at hc1 hc2
      generalize ss[q + j] = x at *
      generalize ds[j] = y at *
      generalize hr.sub x y = D at *
      have Hh := zH (jy (hX.below ((Below.refl lo wr).drew)))
      clear e1 e2 hbw hX hSt hsubl hdsl
      go_wp2_with fail
      go_still_tail 16, (by kernel_rfl)
      still_call Hh.out
      repeat still_step
      refine wpStill_nil ?_
      go_wp2_with fail
      refine HSub.out.mono ?_
      rintro e w2 ⟨rfl, hb2⟩
      have B2 := zH ((Hbw.out.drew).trans (hb2.mono Hbw.out.drew.size))
      clear hb2
      cases D
      · have HF := zH (HNj.out rfl)
        clear HNj HAj
        go_wp2_with fail
        go_ret
        rw [HF.out]
        exact ⟨⟨rfl, ⟨_, HS.out.ext B2.out⟩, B2.out.mono hlo⟩, fun k hk _ => B2.out.block k hk⟩
      · have HF := zH (HAj.out rfl)
        clear HNj HAj
        go_wp2_with fail
        go_roundw
        case rel => exact ⟨j + 1, by omega, by go_num, HF, B2.out⟩
        case measure => simp [intOf]; omega
    · have hjd : j = ds.length := by omega
      subst hjd
      have HF := zH (HY.out Hall.out)
      have f6 := hSt.box.free 6
      have HT := zH (K8 hSt.stk (k := q) (by have := Hq.out; omega))
      have HP := zH (hSt.put HT.out (by rw [zc5 A q cs ss.length cs]; exact hSt.ns) (by rw [zc5 A q cs ss.length cs]; exact hSt.ap))
      have HB := zH ((hbw.mono hlo).trans (vZ (w := wr) HS.out.lob (.slice A q cs)))
      have hlt2 := hSt.box.lt
      clear hbw hX hSt
      go_wp2_with fail
      go_ret
      rw [HF.out]
      exact ⟨⟨rfl, ⟨_, HP.out⟩, HB.out⟩, fun k hk hne => (heap_setCell_other wr ⟨b, 6, none⟩ k _ hne).trans (Hbw.out.block k hk)⟩
 · have HF := zH (J9 (h := hr) (ss := ss) (ds := ds) (by omega))
   have hneg : (ss.length : Int) - (ds.length : Int) < 0 := by omega
   rw [HF.out]
   go_enter Tryz.func48, Tryz.ntmps48
   go_wp2_with fail
   go_ret
   exact ⟨⟨rfl, ⟨_, HS.out⟩, Below.refl _ _⟩, fun _ _ _ => rfl⟩
theorem qx {lo b : Nat} {w : World} {t g : Nat} {hr : Hr} {kc : Value} {gv : T} {op a : Int} {LV SV : Value} {ls ss : List T} (X : Tb lo w t g hr) (h : St lo b w t kc gv op a LV ls SV ss) (hm : ss.length ≤ 1000) (B : Option Addr) (c : Nat) (ds : List T) (hd : ds.length ≤ 100) (hds : Rds w B (ds.map sv)) (hsl : ∀ x ∈ ss, x.length ≤ 140737488355328) (hdl : ∀ x ∈ ds, x.length ≤ 140737488355328) :
 Calls Tryz.prog 48 #[.pointer (some ⟨b, 0, none⟩), .slice B ds.length c] w (zN lo b w t kc gv op a LV ls (zx hr ss ds).1 (.bool (zx hr ss ds).2)) :=
 (Qi X h hm B c ds hd hds hsl hdl).mono fun _ _ h => h.1
end KndM
namespace EfA
open Go.RowKit Base BinM HierS HierT HierM HierC HierD
def Uc (op : Int) : Option (List T × T) :=
 if op = 3 ∨ op = 4 then some ([], [66])
 else if op = 10 ∨ op = 11 ∨ op = 12 ∨ op = 13 ∨ op = 14 then some ([[73], [73]], [73])
 else if op = 15 then some ([[73]], [73])
 else if op = 16 then some ([[66]], [66])
 else if op = 17 ∨ op = 18 ∨ op = 19 then some ([[73], [73]], [66])
 else if op = 20 then some ([[66], [66]], [66])
 else none
theorem zu3 {op : Int} (h : Uc op = none) : op ≠ 3 ∧ op ≠ 4 ∧ op ≠ 10 ∧ op ≠ 11 ∧ op ≠ 12 ∧ op ≠ 13 ∧ op ≠ 14 ∧ op ≠ 15 ∧ op ≠ 16 ∧ op ≠ 17 ∧ op ≠ 18 ∧ op ≠ 19 ∧ op ≠ 20 := by
 unfold Uc at h
 split at h
 · cases h
 · split at h
   · cases h
   · split at h
     · cases h
     · split at h
       · cases h
       · split at h
         · cases h
         · split at h
           · cases h
           · omega
def Of (w : World) (r : Option (List T × T)) (e : Ending) (w' : World) : Prop :=
 match r with
 | some (ds, lv) => ∃ A, e = .returned (.tuple #[.slice A ds.length ds.length, .string ⟨lv.toArray⟩, .bool true]) ∧ Rds w' A (ds.map sv) ∧ Below w.heap.size w w'
 | none => e = .returned (.tuple #[.slice none 0 0, .string ⟨#[]⟩, .bool false]) ∧ w' = w
set_option maxRecDepth 100000 in
set_option maxHeartbeats 4000000 in
theorem of_nil {op : Int} (hop : op = 3 ∨ op = 4) (w : World) : Calls Tryz.prog 113 #[.int .i64 op] w (Of w (some ([], [66]))) := by
 rcases hop with rfl | rfl <;>
  (go_enter Tryz.func113, Tryz.ntmps113
   go_wp2_with fail
   go_ret3
   exact ⟨none, rfl, .inl rfl, Below.refl _ _⟩)
set_option maxRecDepth 100000 in
set_option maxHeartbeats 8000000 in
theorem Zo5 {op : Int} (hop : op = 10 ∨ op = 11 ∨ op = 12 ∨ op = 13 ∨ op = 14) (w : World) : Calls Tryz.prog 113 #[.int .i64 op] w (Of w (some ([[73], [73]], [73]))) := by
 have hb : Below w.heap.size w (w.alloc (.cells #[.string ⟨#[73]⟩, .string ⟨#[73]⟩] 9)) := (Below.refl _ _).alloc (Nat.le_refl _) _
 have HB := zH hb
 have HR := zH (zB w #[sv [73], sv [73]] 9)
 clear hb
 rcases hop with rfl | rfl | rfl | rfl | rfl <;>
  (go_enter Tryz.func113, Tryz.ntmps113
   go_wp2_with fail
   go_ret3
   exact ⟨_, rfl, HR.out, HB.out⟩)
set_option maxRecDepth 100000 in
set_option maxHeartbeats 4000000 in
theorem Zr1 (w : World) : Calls Tryz.prog 113 #[.int .i64 15] w (Of w (some ([[73]], [73]))) := by
 have hb : Below w.heap.size w (w.alloc (.cells #[.string ⟨#[73]⟩] 9)) := (Below.refl _ _).alloc (Nat.le_refl _) _
 have HB := zH hb
 have HR := zH (zB w #[sv [73]] 9)
 clear hb
 go_enter Tryz.func113, Tryz.ntmps113
 go_wp2_with fail
 go_ret3
 exact ⟨_, rfl, HR.out, HB.out⟩
set_option maxRecDepth 100000 in
set_option maxHeartbeats 4000000 in
theorem Zr2 (w : World) : Calls Tryz.prog 113 #[.int .i64 16] w (Of w (some ([[66]], [66]))) := by
 have hb : Below w.heap.size w (w.alloc (.cells #[.string ⟨#[66]⟩] 9)) := (Below.refl _ _).alloc (Nat.le_refl _) _
 have HB := zH hb
 have HR := zH (zB w #[sv [66]] 9)
 clear hb
 go_enter Tryz.func113, Tryz.ntmps113
 go_wp2_with fail
 go_ret3
 exact ⟨_, rfl, HR.out, HB.out⟩
set_option maxRecDepth 100000 in
set_option maxHeartbeats 8000000 in
theorem Zl2 {op : Int} (hop : op = 17 ∨ op = 18 ∨ op = 19) (w : World) : Calls Tryz.prog 113 #[.int .i64 op] w (Of w (some ([[73], [73]], [66]))) := by
 have hb : Below w.heap.size w (w.alloc (.cells #[.string ⟨#[73]⟩, .string ⟨#[73]⟩] 9)) := (Below.refl _ _).alloc (Nat.le_refl _) _
 have HB := zH hb
 have HR := zH (zB w #[sv [73], sv [73]] 9)
 clear hb
 rcases hop with rfl | rfl | rfl <;>
  (go_enter Tryz.func113, Tryz.ntmps113
   go_wp2_with fail
   go_ret3
   exact ⟨_, rfl, HR.out, HB.out⟩)
set_option maxRecDepth 100000 in
set_option maxHeartbeats 4000000 in
theorem Zo6 (w : World) : Calls Tryz.prog 113 #[.int .i64 20] w (Of w (some ([[66], [66]], [66]))) := by
 have hb : Below w.heap.size w (w.alloc (.cells #[.string ⟨#[66]⟩, .string ⟨#[66]⟩] 9)) := (Below.refl _ _).alloc (Nat.le_refl _) _
 have HB := zH hb
 have HR := zH (zB w #[sv [66], sv [66]] 9)
 clear hb
 go_enter Tryz.func113, Tryz.ntmps113
 go_wp2_with fail
 go_ret3
 exact ⟨_, rfl, HR.out, HB.out⟩
set_option maxRecDepth 100000 in
set_option maxHeartbeats 4000000 in
theorem Zu {op : Int} (h : Uc op = none) (w : World) : Calls Tryz.prog 113 #[.int .i64 op] w (Of w none) := by
 obtain ⟨h1, h2, h3, h4, h5, h6, h7, h8, h9, h10, h11, h12, h13⟩ := zu3 h
 clear h
 go_enter Tryz.func113, Tryz.ntmps113
 go_wp2_with fail
 go_ret3
 exact ⟨rfl, rfl⟩
theorem Yg (op : Int) (w : World) : Calls Tryz.prog 113 #[.int .i64 op] w (Of w (Uc op)) := by
 cases hn : Uc op with
 | none => exact Zu hn w
 | some p =>
   rw [← hn]
   unfold Uc at hn ⊢
   split
   · exact of_nil (by assumption) w
   · split
     · exact Zo5 (by assumption) w
     · split
       · rename_i h15; subst h15; exact Zr1 w
       · split
         · rename_i h16; subst h16; exact Zr2 w
         · split
           · exact Zl2 (by assumption) w
           · split
             · rename_i h20; subst h20; exact Zo6 w
             · exact absurd hn (by simp_all)
end EfA
end Go.Proofs.YtehainbhoflpnaaGreatDoor
