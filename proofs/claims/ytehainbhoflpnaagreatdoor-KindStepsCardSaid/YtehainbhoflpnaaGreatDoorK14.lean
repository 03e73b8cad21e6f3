/- pieces -/
import Derived.Test.YtehainbhoflpnaaGreatDoorK13
import Derived.Deep.AppendLies
import Derived.Deep.RegionHeld3
import Derived.Deep.RegionLaw
namespace Go.Proofs.YtehainbhoflpnaaGreatDoor
namespace HierN
open Go.RowKit BinM Base Stru DescM DescW DescX HierS HierT HierM
structure CE where
 name : T
 sup : T
 kA : Option Addr
 km : Nat
 kc : Nat
 fA : Option Addr
 fm : Nat
 fc : Nat
 mA : Option Addr
 mm : Nat
 mc : Nat
def CE.vals (x : CE) : List Value := [.string ⟨x.name.toArray⟩, .string ⟨x.sup.toArray⟩, .slice x.kA x.km x.kc, .slice x.fA x.fm x.fc, .slice x.mA x.mm x.mc]
def CE.p2 (x : CE) : P2 := (x.name, x.sup)
def bare (p : P2) : CE := ⟨p.1, p.2, none, 0, 0, none, 0, 0, none, 0, 0⟩
theorem Zf8 (l : List P2) : (l.map bare).map CE.p2 = l := by
 rw [List.map_map]
 conv => rhs; rw [← List.map_id l]
 rfl
theorem Zl9 (l : List CE) : ∀ u ∈ l.flatMap CE.vals, u.oneCell' = true := by
 intro u hu
 obtain ⟨x, _, hx⟩ := List.mem_flatMap.1 hu
 unfold CE.vals at hx
 simp at hx
 rcases hx with rfl | rfl | rfl | rfl | rfl <;> rfl
theorem Zm0 (l : List CE) : (l.flatMap CE.vals).length = l.length * 5 := Z7 CE.vals 5 (fun _ => rfl) l
theorem Uk {w : World} {A : Option Addr} {l : List CE} {k : Nat} (h : Rds w A (l.flatMap CE.vals)) (hk : k < l.length) :
 ∃ b o, A = some ⟨b, o, none⟩ ∧ b < w.heap.size ∧ w.cell? ⟨b, o + k * 5, none⟩ = some (.string ⟨l[k].name.toArray⟩) ∧ w.cell? ⟨b, o + k * 5 + 1, none⟩ = some (.string ⟨l[k].sup.toArray⟩) ∧ w.cell? ⟨b, o + k * 5 + 2, none⟩ = some (.slice l[k].kA l[k].km l[k].kc) ∧
   w.cell? ⟨b, o + k * 5 + 3, none⟩ = some (.slice l[k].fA l[k].fm l[k].fc) ∧ w.cell? ⟨b, o + k * 5 + 4, none⟩ = some (.slice l[k].mA l[k].mm l[k].mc) := by
 obtain ⟨b, o, hA, hb, hc⟩ := QU (n := 5) (fun _ => rfl) (by omega) h hk
 exact ⟨b, o, hA, hb, hc 0 _ rfl, hc 1 _ rfl, hc 2 _ rfl, hc 3 _ rfl, hc 4 _ rfl⟩
def Y5 (w : World) (base : Nat) (v : Value) (l : List CE) : Prop := w.ownsRow base 81 5 v l.length (l.flatMap CE.vals)
theorem Y5.nil (w : World) (base : Nat) : Y5 w base (.slice none 0 0) [] := World.ownsRow_nil _ _ _ _
theorem zs7 : (Tryz.prog.info? 81).map (fun i => (i.zero, i.size, i.bytes)) = some (some (.agg #[.string ⟨#[]⟩, .string ⟨#[]⟩, .slice none 0 0, .slice none 0 0, .slice none 0 0]), 5, 104) := by kernel_rfl
theorem Y5.slice {w : World} {base : Nat} {v : Value} {l : List CE} (h : Y5 w base v l) :
 ∃ A c, v = .slice A l.length c ∧ l.length ≤ c ∧ c ≤ maxLen ∧ Rds w A (l.flatMap CE.vals) ∧ ∀ a, A = some a → base ≤ a.block ∧ a.block < w.heap.size := by
 obtain ⟨A, c, rfl, h1, h2, h3, _⟩ := zS h
 exact ⟨A, c, rfl, h1, h2, Rds.qU h, fun a ha => ⟨(h3 a ha).1, (h3 a ha).2.1⟩⟩
set_option maxRecDepth 100000 in
theorem Zm4 {ops : Array Oper} {rest : List Oper} {o : Oper} {a : Act} {w : World} {Q : Exit → Act → World → Prop} (hgd : o.guard = none) (s x : Operand)
 (ho : o.op = .call { callee := .builtin .append, args := #[s, x], argTypes := #[45, 45] })
 (base : Nat) (v : Value) (p : List CE) (hs : a.eval s = v) (hown : Y5 w base v p) (A : Option Addr) (m c : Nat) (l : List CE) (hx : a.eval x = .slice A m c)
 (hm : m = l.length) (hr : Rds w A (l.flatMap CE.vals)) (hlen : p.length + l.length ≤ 1048576) (hbase : base ≤ w.heap.size)
 (h : ∀ v' w', Y5 w' base v' (p ++ l) → w.grownBy w' v.ownBlock → wpList Tryz.prog ops Q rest (a.put o.dst v') w') : wpList Tryz.prog ops Q (o :: rest) a w := by
 obtain ⟨i0, hi, hz, hs1, hb1⟩ := info_parts zs7
 refine zZ hgd s x 45 ho base 81 i0 _ 5 104 Tryz.underlying45 hi hz hs1 hb1 rfl (by omega) v p.length (p.flatMap CE.vals) hs hown A m c (l.flatMap CE.vals) hx (by rw [Zm0, hm]) hr (Zl9 l) (by unfold maxLen; omega) (by omega) hbase ?_
 intro v' w' h1 h2
 refine h v' w' ?_ h2
 unfold Y5
 rw [List.flatMap_append, List.length_append, ← hm]
 exact h1
theorem Y5.one (w : World) (x : CE) : Y5 (w.alloc (.cells #[.string ⟨x.name.toArray⟩, .string ⟨x.sup.toArray⟩, .slice x.kA x.km x.kc, .slice x.fA x.fm x.fc, .slice x.mA x.mm x.mc] 81)) w.heap.size (.slice (some ⟨w.heap.size, 0, none⟩) 1 1) [x] :=
 World.ownsRow_lit w #[.string ⟨x.name.toArray⟩, .string ⟨x.sup.toArray⟩, .slice x.kA x.km x.kc, .slice x.fA x.fm x.fc, .slice x.mA x.mm x.mc] 1 (Nat.le_refl _) (by unfold maxLen; omega) rfl
def seven : List T := [zi8, vX, xO, divN, vU, zi9, vG]
theorem Zr3 (k : Nat) (hk : k < 7) (w : World) : (Instr.index 198 (.agg #[.string ⟨#[78, 117, 108, 108, 69, 120, 99]⟩, .string ⟨#[67, 97, 115, 116, 69, 120, 99]⟩, .string ⟨#[73, 110, 100, 101, 120, 69, 120, 99]⟩, .string ⟨#[68, 105, 118, 69, 120, 99]⟩, .string ⟨#[83, 116, 97, 99, 107, 69, 120, 99]⟩, .string ⟨#[77, 101, 109, 69, 120, 99]⟩, .string ⟨#[76, 111, 99, 107, 69, 120, 99]⟩]) (.int .i64 (k : Int))).run Tryz.prog w = .ok (.string ⟨(seven[k]'hk).toArray⟩) w := by
 rcases (show k = 0 ∨ k = 1 ∨ k = 2 ∨ k = 3 ∨ k = 4 ∨ k = 5 ∨ k = 6 by omega) with rfl | rfl | rfl | rfl | rfl | rfl | rfl <;> kernel_rfl
theorem zw6 (k : Nat) (hk : k < 7) : (alw.map bare).take (k + 2) = (alw.map bare).take (k + 1) ++ [bare (seven[k]'hk, ZP)] := by
 match k, hk with
 | 0, _ => rfl
 | 1, _ => rfl
 | 2, _ => rfl
 | 3, _ => rfl
 | 4, _ => rfl
 | 5, _ => rfl
 | 6, _ => rfl
set_option maxRecDepth 100000 in
set_option maxHeartbeats 2000000 in
theorem GX (w : World) :
 Calls Tryz.prog 73 #[] w fun e w' => ∃ v, e = .returned v ∧ Y5 w' w.heap.size v (alw.map bare) ∧ Below w.heap.size w w' := by
 have h0 := zH (Below.refl w.heap.size w)
 go_enter Tryz.func73, Tryz.ntmps73
 go_wp2_with fail
 go_loopw [1, 7] (fun v i wr => ∃ k : Nat, k ≤ 7 ∧ i = .int .i64 k ∧ Y5 wr w.heap.size v ((alw.map bare).take (k + 1)) ∧ Below w.heap.size w wr) (fun _ i _ => 7 - (intOf i).toNat)
 case atStart => exact ⟨0, by omega, rfl, Y5.one w (bare (ZP, Zc)), h0.out.alloc (Nat.le_refl _) _⟩
 case round =>
  obtain ⟨k, hk, rfl, hown, hbel⟩ := hrel
  have Hown := zH hown
  have Hbel := zH hbel
  have hsz := hbel.size
  by_cases hlt : k < 7
  · have hi := Zr3 k hlt
    have HT := zH (zw6 k hlt)
    have hpl : ((alw.map bare).take (k + 1)).length ≤ 8 := by simp [alw]; omega
    generalize hp : (alw.map bare).take (k + 1) = p at *
    generalize seven[k] = nm at *
    have hk1 : (k : Int) < 7 := by omega
    obtain ⟨A, cc, rfl, _, _, _, _⟩ := hown.slice
    clear hown hbel hp
    go_wp2_with (at_builtin
                 refine Zm4 rfl (.tmp 10) (.tmp 13) rfl w.heap.size _ p rfl (Hown.out.alloc _) (some ⟨wr.heap.size, 0, none⟩) 1 1 [bare (nm, ZP)] rfl rfl (zB _ #[.string ⟨nm.toArray⟩, .string ⟨ZP.toArray⟩, .slice none 0 0, .slice none 0 0, .slice none 0 0] 81) (by simp; omega) (by simp; omega) ?_
                 intro v2 w2 hown2 hg2
                 have Hb2 := zH (zV (Hbel.out.alloc hsz _) (Hown.out.alloc _) (Nat.le_refl _) (by simp; omega) hg2)
                 have Hown2 := zH hown2
                 clear hown2 hg2)
    go_roundw
    case rel => exact ⟨k + 1, by omega, by go_num, by rw [HT.out]; exact Hown2.out, Hb2.out⟩
    case measure => simp [intOf]; omega
  · have hk7 : k = 7 := by omega
    subst hk7
    clear hown hbel
    go_wp2_with fail
    go_ret
    exact ⟨_, rfl, Hown.out, Hbel.out⟩
end HierN
namespace HierV
open Go.RowKit BinM Base Stru DescM DescW DescX HierS HierT HierM HierN
theorem kF {ps : List P2} (h : 32 < ps.length) : qg ps = ([], 6) := by unfold qg; rw [if_pos h]
theorem UN {ps : List P2} {c : T} (h : ps.length ≤ 32) (ht : twice [Zc] (full ps) = some c) : qg ps = (c, 8) := by unfold qg; rw [if_neg (by omega), ht]
theorem za3 {ps : List P2} {c : T} (h : ps.length ≤ 32) (ht : twice [Zc] (full ps) = none) (hs : qH (nms (full ps)) (full ps) = some c) : qg ps = (c, 9) := by unfold qg; rw [if_neg (by omega), ht]; simp only; rw [hs]
theorem kG {ps : List P2} {c : T} (h : ps.length ≤ 32) (ht : twice [Zc] (full ps) = none) (hs : qH (nms (full ps)) (full ps) = none) (hl : inLoop (mk ps) (full ps) = some c) : qg ps = (c, 14) := by unfold qg; rw [if_neg (by omega), ht]; simp only; rw [hs]; simp only; rw [hl]
theorem zm7 {ps : List P2} (h : ps.length ≤ 32) (ht : twice [Zc] (full ps) = none) (hs : qH (nms (full ps)) (full ps) = none) (hl : inLoop (mk ps) (full ps) = none) : qg ps = ([], 0) := by unfold qg; rw [if_neg (by omega), ht]; simp only; rw [hs]; simp only; rw [hl]
def za1 (ps : List P2) (w : World) (e : Ending) (w' : World) : Prop :=
 Below w.heap.size w w' ∧ (((qg ps).2 = 0 ∧ ∃ g, e = .returned (.tuple #[.pointer (some ⟨g, 0, none⟩), .string ⟨#[]⟩, .int .i64 0]) ∧ IsH w'.heap.size w' g (mk ps)) ∨
  ((qg ps).2 ≠ 0 ∧ e = .returned (.tuple #[.pointer none, .string ⟨(qg ps).1.toArray⟩, .int .i64 (qg ps).2])))
theorem yQ {ps : List P2} {w w' : World} {c : T} {n : Int} (h : qg ps = (c, n)) (hn : n ≠ 0) (hb : Below w.heap.size w w') : za1 ps w (.returned (.tuple #[.pointer none, .string ⟨c.toArray⟩, .int .i64 n])) w' :=
 ⟨hb, .inr ⟨by rw [h]; exact hn, by rw [h]⟩⟩
theorem Gz {ps : List P2} {w w' : World} {g : Nat} (h : qg ps = ([], 0)) (hb : Below w.heap.size w w') (H : IsH w'.heap.size w' g (mk ps)) : za1 ps w (.returned (.tuple #[.pointer (some ⟨g, 0, none⟩), .string ⟨#[]⟩, .int .i64 0])) w' :=
 ⟨hb, .inl ⟨by rw [h], g, rfl, H⟩⟩
theorem zh {w w' : World} {base : Nat} {e : TypeId} {size n : Nat} {v : Value} {xs : List Value} (h : w.ownsRow base e size v n xs) (hb : ∀ k, v.ownBlock = some k → w'.heap[k]? = w.heap[k]?) : w'.ownsRow base e size v n xs := by
 obtain ⟨h1, h2⟩ := h
 refine ⟨h1, ?_⟩
 rcases h2 with h2 | ⟨g, cap, cur, rfl, b, c, d⟩
 · exact .inl h2
 · exact .inr ⟨g, cap, cur, rfl, b, (hb g rfl).trans c, d⟩
def UM (w : World) (b n : Nat) (f : T → Option Nat) : Prop :=
 ∃ D : DW, w.ownsMap Tryz.prog 9 (plainElem Tryz.prog 3) b n D ∧ Maps.IsMap D ∧
   ∀ c, (f c = none → Maps.has D (.string c) = false) ∧ (∀ i : Nat, f c = some i → Maps.has D (.string c) = true ∧ D.atKey (.string c) (.lit (.int .i64 0)) = .lit (.int .i64 (i : Int)))
theorem UM.is {w : World} {b n : Nat} {f : T → Option Nat} (h : UM w b n f) (hn : n ≤ 100000) : Us w b f := by
 obtain ⟨D, h1, h2⟩ := h
 exact ⟨n, D, hn, h1, h2⟩
theorem UM.block {w w' : World} {b n : Nat} {f : T → Option Nat} (h : UM w b n f) (hb : w'.heap[b]? = w.heap[b]?) : UM w' b n f := by
 obtain ⟨D, h1, h2⟩ := h
 exact ⟨D, jX h1 hb, h2⟩
structure Mk (w wr : World) (F : List CE) (lb q : Nat) (ns : List T) (f : T → Option Nat) : Prop where
 row : ∃ A c, wr.heap[w.heap.size + 2]? = some (.cells #[.slice A ns.length c, .map (some (w.heap.size + 1))] 149 (0, 0)) ∧ zT wr w.heap.size (.slice A ns.length c) ns ∧ (∀ a, A = some a → a.block ≠ w.heap.size + 2 ∧ a.block ≠ w.heap.size + 1 ∧ a.block ≠ lb)
 map : UM wr (w.heap.size + 1) q f
 lst : Rds wr (some ⟨lb, 0, none⟩) (F.flatMap CE.vals)
 lo : w.heap.size + 2 < lb
 hi : lb < wr.heap.size
 bel : Below w.heap.size w wr
theorem xG {w w' : World} {b : Nat} {xs : List Value} (h : Rds w (some ⟨b, 0, none⟩) xs) (hs : w.heap.size ≤ w'.heap.size) (hb : w'.heap[b]? = w.heap[b]?) : Rds w' (some ⟨b, 0, none⟩) xs := by
 rcases h with h | ⟨b', o, hA, hlt, hc⟩
 · exact .inl h
 · cases hA
   refine .inr ⟨b, 0, rfl, Nat.lt_of_lt_of_le hlt hs, fun j u hu => ?_⟩
   rw [← hc j u hu]
   unfold World.cell?
   rw [hb]
theorem Mk.ext {w wr w' : World} {F : List CE} {lb q : Nat} {ns : List T} {f : T → Option Nat} (h : Mk w wr F lb q ns f) (hb : Below wr.heap.size wr w') : Mk w w' F lb q ns f := by
 obtain ⟨⟨A, c, h1, h2, h3⟩, h4, h5, h6, h7, h8⟩ := h
 have hs := hb.size
 exact ⟨⟨A, c, (hb.block _ (by omega)).trans h1, zh h2 (fun k hk => hb.block k (h2.lt k hk).2), h3⟩, h4.block (hb.block _ (by omega)), xG h5 hs (hb.block _ h7), h6, by omega, h8.trans (hb.mono h8.size)⟩
theorem Mk.isH {w wr : World} {F : List CE} {lb q : Nat} {ns : List T} {f : T → Option Nat} (h : Mk w wr F lb q ns f) (inn : ∀ c i, f c = some i → i < ns.length) (few : ns.length ≤ 41) (long : ∀ c ∈ ns, c.length ≤ 140737488355000) (hq : q ≤ 100000) : IsH wr.heap.size wr (w.heap.size + 2) ⟨ns, f⟩ := by
 obtain ⟨⟨A, c, h1, h2, h3⟩, h4, h5, h6, h7, h8⟩ := h
 obtain ⟨A', c', e, k1, k2, k3, k4⟩ := h2.slice
 cases e
 exact ⟨⟨A, _, c, _, h1, rfl, k1, k2, k3, fun a ha => (k4 a ha).2, by omega, h4.is hq⟩, by show w.heap.size + 2 < wr.heap.size; omega, inn, few, long⟩
theorem Mk.app {w wr w1 : World} {F : List CE} {lb q : Nat} {ns : List T} {f : T → Option Nat} {A : Option Addr} {c gg cap : Nat} {x : T} (h : Mk w wr F lb q ns f) (hA : wr.heap[w.heap.size + 2]? = some (.cells #[.slice A ns.length c, .map (some (w.heap.size + 1))] 149 (0, 0)))
 (hown : zT w1 w.heap.size (.slice (some ⟨gg, 0, none⟩) (ns ++ [x]).length cap) (ns ++ [x])) (hg : wr.grownBy w1 (Value.slice A ns.length c).ownBlock) (hat : (Value.slice A ns.length c).ownBlock = some gg ∨ wr.heap.size ≤ gg) :
 Mk w (w1.setCell ⟨w.heap.size + 2, 0, none⟩ (.slice (some ⟨gg, 0, none⟩) (ns ++ [x]).length cap)) F lb q (ns ++ [x]) f := by
 obtain ⟨⟨A', c', h1, h2, h3⟩, h4, h5, h6, h7, h8⟩ := h
 have e := h1.symm.trans hA
 injection e with e
 injection e with e
 have e1 : Value.slice A' ns.length c' = Value.slice A ns.length c := by injection e with e; injection e
 cases e1
 have hs := hg.size
 have hs8 := h8.size
 have hgn : gg ≠ w.heap.size + 2 ∧ gg ≠ w.heap.size + 1 ∧ gg ≠ lb := by
  rcases hat with hat | hat
  · cases A with
    | none => cases hat
    | some a =>
      have := h3 a rfl
      simp [Value.ownBlock] at hat
      omega
  · omega
 have hnb : ∀ k, (k = w.heap.size + 2 ∨ k = w.heap.size + 1 ∨ k = lb) → some k ≠ (Value.slice A ns.length c).ownBlock := by
  intro k hk e
  cases A with
  | none => cases e
  | some a =>
    have := h3 a rfl
    simp [Value.ownBlock] at e
    omega
 have b1 : w1.heap[w.heap.size + 1]? = wr.heap[w.heap.size + 1]? := hg.block _ (by omega) (hnb _ (.inr (.inl rfl)))
 have b2 : w1.heap[w.heap.size + 2]? = wr.heap[w.heap.size + 2]? := hg.block _ (by omega) (hnb _ (.inl rfl))
 have b3 : w1.heap[lb]? = wr.heap[lb]? := hg.block _ h7 (hnb _ (.inr (.inr rfl)))
 have hbel : Below w.heap.size w w1 := zV h8 h2 (Nat.le_refl _) hs8 hg
 refine ⟨⟨some ⟨gg, 0, none⟩, cap, ?_, ?_, ?_⟩, ?_, ?_, h6, ?_, ?_⟩
 · have := heap_setCell_same w1 (w.heap.size + 2) 0 _ _ (.slice (some ⟨gg, 0, none⟩) (ns ++ [x]).length cap) (b2.trans h1)
   rw [this]; rfl
 · refine zh hown (fun k hk => heap_setCell_other w1 _ k _ ?_)
   simp [Value.ownBlock] at hk
   show k ≠ w.heap.size + 2
   omega
 · intro a ha
   cases ha
   exact hgn
 · exact h4.block ((heap_setCell_other w1 _ _ _ (by show w.heap.size + 1 ≠ w.heap.size + 2; omega)).trans b1)
 · exact xG h5 (by simp; omega) ((heap_setCell_other w1 _ _ _ (by show lb ≠ w.heap.size + 2; omega)).trans b3)
 · simp; omega
 · exact hbel.setCell (by show w.heap.size ≤ w.heap.size + 2; omega) _
theorem Mk.upd {w wr w1 : World} {F : List CE} {lb q : Nat} {ns : List T} {f f' : T → Option Nat} (h : Mk w wr F lb q ns f) (hg : wr.grownBy w1 (some (w.heap.size + 1))) {q' : Nat} (hm : UM w1 (w.heap.size + 1) q' f') : Mk w w1 F lb q' ns f' := by
 obtain ⟨⟨A, c, h1, h2, h3⟩, h4, h5, h6, h7, h8⟩ := h
 have hs := hg.size
 have hs8 := h8.size
 refine ⟨⟨A, c, (hg.block _ (by omega) (by simp)).trans h1, zh h2 (fun k hk => hg.block k (h2.lt k hk).2 ?_), h3⟩, hm, xG h5 hs (hg.block _ h7 (by simp; omega)), h6, by omega, h8.grown hg hs8 (fun k hk => by simp at hk; omega)⟩
 cases A with
 | none => cases hk
 | some a =>
   have := h3 a rfl
   simp [Value.ownBlock] at hk
   simp
   omega
theorem zr4 (w : World) : UM (w.alloc (.map #[] 0)) w.heap.size 0 (fun _ => none) := by
 refine ⟨.map [], World.ownsMap_made w _ _ _, Maps.isMap_empty, fun c => ⟨fun _ => rfl, fun i h => ?_⟩⟩
 cases h
theorem Zb7 {w : World} {b n : Nat} {f : T → Option Nat} (h : UM w b n f) (hn : n ≤ 90000) (c : T) (i : Nat) (hc : c.length ≤ 140737488355328) (hi : i ≤ 1000) :
 ∃ w', (Instr.mapUpdate 147 (.map (some b)) (.string ⟨c.toArray⟩) (.int .i64 (i : Int))).run Tryz.prog w = .ok () w' ∧ w.grownBy w' (some b) ∧ UM w' b (n + 1) (fun c' => if c' = c then some i else f c') := by
 obtain ⟨D, hown, hD, hall⟩ := h
 have hkey : keyOf Tryz.prog 9 (.string ⟨c.toArray⟩) = some (.string c) := Go.WideMaps.keyOf_string_mk Tryz.underlying9 (s := ⟨c.toArray⟩) (by show c.length ≤ maxLen; unfold maxLen; omega)
 have hwf : (Lit.int .i64 (i : Int)).wf = true := by
  simp [Lit.wf, IntKind.min, IntKind.max, IntKind.bits, IntKind.signed]; omega
 obtain ⟨w', hrun, h1, h2⟩ := hown.update Kw Tryz.underlying147 (by unfold maxLen; omega) hkey (plainElem_int Tryz.underlying3 hwf)
 refine ⟨w', hrun, h2, _, h1, hD.put _ _, fun c' => ?_⟩
 simp only
 by_cases e : c' = c
 · subst e
   rw [if_pos rfl]
   refine ⟨fun h => ?_, fun j hj => ?_⟩
   · cases h
   · cases hj
     exact ⟨Maps.has_put_same hD (show WideAt.IsKeyLit (.string c') from True.intro) _, Maps.atKey_put_same hD (show WideAt.IsKeyLit (.string c') from True.intro) _ _⟩
 · rw [if_neg e]
   have hne : (Lit.string c') ≠ Lit.string c := by intro h; injection h with h; exact e h
   obtain ⟨k1, k2⟩ := hall c'
   refine ⟨fun h => ?_, fun j hj => ?_⟩
   · rw [Maps.has_put_other hne]; exact k1 h
   · rw [Maps.has_put_other hne, Maps.atKey_put_other hne]
     exact k2 j hj
theorem KC (w : World) (o : Obj) (cs : Array Value) (t : TypeId) : ((w.alloc o).alloc (.cells cs t)).drew.heap[w.heap.size + 1]? = some (.cells cs t (0, 0)) := by
 have := heap_alloc_new (w.alloc o) (.cells cs t)
 have e : (w.alloc o).heap.size = w.heap.size + 1 := by simp
 rw [e] at this
 exact this
def W0 (w : World) : World := ((w.alloc (.cells #[sv Zc] 9)).alloc (.map #[] 0)).alloc (.cells #[.slice (some ⟨w.heap.size, 0, none⟩) 1 1, .map (some (w.heap.size + 1))] 149)
theorem kr (w : World) : (W0 w).heap.size = w.heap.size + 3 := by simp [W0]
theorem gV (w : World) : Below w.heap.size w (W0 w) := (((Below.refl _ _).alloc (Nat.le_refl _) _).alloc (by simp) _).alloc (by simp; omega) _
theorem Mk.start {w w2 w3 : World} {F C : List CE} {v2 : Value} {lb cap : Nat} (hb2 : Below (w.heap.size + 3) (W0 w) w2) (h2 : Y5 w2 (w.heap.size + 3) v2 C) (hg : w2.grownBy w3 v2.ownBlock) (h3 : Y5 w3 (w.heap.size + 3) (.slice (some ⟨lb, 0, none⟩) F.length cap) F) : Mk w w3 F lb 0 [Zc] (fun _ => none) := by
 have hs0 := kr w
 have hs2 := hb2.size
 have hs3 := hg.size
 have hblk : ∀ k, k < w.heap.size + 3 → w3.heap[k]? = (W0 w).heap[k]? := fun k hk => (hg.block k (by omega) (fun e => by have := (h2.lt k e.symm).1; omega)).trans (hb2.block k hk)
 have k0 : (W0 w).heap[w.heap.size]? = (w.alloc (.cells #[sv Zc] 9)).heap[w.heap.size]? := by
  unfold W0
  rw [Below.heap_alloc _ _ _ (by simp; omega), Below.heap_alloc _ _ _ (by simp)]
 have k1 : (W0 w).heap[w.heap.size + 1]? = ((w.alloc (.cells #[sv Zc] 9)).alloc (.map #[] 0)).heap[w.heap.size + 1]? := by
  unfold W0
  rw [Below.heap_alloc _ _ _ (by simp)]
 have k2 : (W0 w).heap[w.heap.size + 2]? = some (.cells #[.slice (some ⟨w.heap.size, 0, none⟩) 1 1, .map (some (w.heap.size + 1))] 149 (0, 0)) := by
  have := heap_alloc_new ((w.alloc (.cells #[sv Zc] 9)).alloc (.map #[] 0)) (.cells #[.slice (some ⟨w.heap.size, 0, none⟩) 1 1, .map (some (w.heap.size + 1))] 149)
  have e2 : ((w.alloc (.cells #[sv Zc] 9)).alloc (.map #[] 0)).heap.size = w.heap.size + 2 := by simp
  rw [e2] at this
  exact this
 obtain ⟨lo, hi⟩ := h3.lt lb rfl
 refine ⟨⟨some ⟨w.heap.size, 0, none⟩, 1, (hblk _ (by omega)).trans k2, ?_, ?_⟩, ?_, ?_, by omega, hi, ?_⟩
 · exact zh (zT.one w Zc) (fun k hk => by simp [Value.ownBlock] at hk; subst hk; exact (hblk _ (by omega)).trans k0)
 · intro a ha
   cases ha
   exact ⟨by simp, by simp, by simp; omega⟩
 · have hm := zr4 (w.alloc (.cells #[sv Zc] 9))
   have e : (w.alloc (.cells #[sv Zc] 9)).heap.size = w.heap.size + 1 := by simp
   rw [e] at hm
   exact hm.block ((hblk _ (by omega)).trans k1)
 · obtain ⟨A, c, e, _, _, hr, _⟩ := h3.slice
   cases e
   exact hr
 · exact (gV w).trans ((hb2.mono (by omega)).trans (zV (Below.refl _ _) h2 (by omega) (by omega) hg))
end HierV
namespace HierW
open Go.RowKit BinM Base Stru DescM DescW DescX HierS HierT HierM HierC HierK HierN HierV
open BinName (ze)
def nsk (F : List CE) (k : Nat) : List T := Zc :: (F.take k).map CE.name
theorem zq9 {F : List CE} {k : Nat} (h : k < F.length) : nsk F (k + 1) = nsk F k ++ [F[k].name] := by
 unfold nsk
 rw [List.take_succ_eq_append_getElem h, List.map_append]; rfl
theorem Za2 {F : List CE} {k : Nat} (h : F.length ≤ k) : nsk F k = nms (F.map CE.p2) := by
 unfold nsk nms
 rw [List.take_of_length_le h, List.map_map]; rfl
theorem yX {F : List CE} {k : Nat} (h : k < F.length) : (F.drop k).map CE.p2 = F[k].p2 :: (F.drop (k + 1)).map CE.p2 := by
 rw [List.drop_eq_getElem_cons h]; rfl
def fk (F : List CE) (NS : List T) (k : Nat) (c : T) : Option Nat := (((F.take k).map CE.p2).find? fun p => p.1 == c).map fun p => NS.idxOf p.2
theorem Zl6 {F : List CE} {k : Nat} (h : F.length ≤ k) : fk F (nms (F.map CE.p2)) k = abv (F.map CE.p2) := by
 unfold fk abv
 rw [List.take_of_length_le h]
theorem Zd5 {F : List CE} {NS : List T} {k : Nat} (h : k < F.length) (hn : ((F.map CE.p2).map (·.1)).Nodup) : fk F NS (k + 1) = fun c => if c = F[k].name then some (NS.idxOf F[k].sup) else fk F NS k c := by
 funext c
 unfold fk
 rw [List.take_succ_eq_append_getElem h, List.map_append, List.find?_append]
 by_cases e : c = F[k].name
 · subst e
   rw [if_pos rfl]
   have hno : ((F.take k).map CE.p2).find? (fun p => p.1 == F[k].name) = none := by
    rw [List.find?_eq_none]
    intro p hp he
    obtain ⟨x, hx, rfl⟩ := List.mem_map.1 hp
    obtain ⟨i, hi, hxi⟩ := List.mem_iff_getElem.1 hx
    rw [List.length_take] at hi
    rw [List.getElem_take] at hxi
    have he' : F[i].name = F[k].name := by rw [hxi]; exact eq_of_beq he
    have h3 := List.pairwise_iff_getElem.1 hn i k (by simp; omega) (by simpa using h) (by omega)
    apply h3
    simpa [CE.p2] using he'
   rw [hno]
   simp [CE.p2]
 · rw [if_neg e]
   have : ([F[k]].map CE.p2).find? (fun p => p.1 == c) = none := by
    have hne : ¬ F[k].name = c := fun h => e h.symm
    simp [CE.p2, hne]
   rw [this, Option.or_none]
set_option maxRecDepth 100000 in
set_option maxHeartbeats 12000000 in
theorem Vx (A : Option Addr) (l : List CE) (m c : Nat) (w : World) (hm : m = l.length) (hr : Rds w A (l.flatMap CE.vals)) (hlong : ∀ x ∈ l, x.name.length ≤ 140737488355000) :
 Calls Tryz.prog 34 #[.slice A m c] w (za1 (l.map CE.p2) w) := by
 have h0 := zH (Below.refl w.heap.size w)
 obtain ⟨i0, hi0, hz0, hz1, hz2⟩ := info_parts Xm
 have I0 := zH hi0
 have I1 := zH hz0
 have I2 := zH hz1
 have I3 := zH hz2
 clear hi0 hz0 hz1 hz2
 by_cases h32 : 32 < m
 · have hw := zH (kF (ps := l.map CE.p2) (by simp; omega))
   have h32' : (32 : Int) < (m : Int) := by omega
   clear hm hr hlong
   go_enter Tryz.func34, Tryz.ntmps34
   go_wp2_with fail
   go_ret3
   exact yQ (c := []) hw.out (by decide) h0.out
 · have h32' : ¬ (32 : Int) < (m : Int) := by omega
   have Hrd := zH hr
   have Hm := zH hm
   have hl32 : l.length ≤ 32 := by omega
   have hp32 : (l.map CE.p2).length ≤ 32 := by simp; omega
   generalize hF : alw.map bare ++ l = F
   have hFp : F.map CE.p2 = full (l.map CE.p2) := by rw [← hF, List.map_append, Zf8]; rfl
   have hFl : F.length ≤ 40 ∧ 8 ≤ F.length := by rw [← hF]; simp [alw]; omega
   have hFlong : ∀ x ∈ F, x.name.length ≤ 140737488355000 := by
    rw [← hF]
    intro x hx
    rcases List.mem_append.1 hx with h | h
    · obtain ⟨p, hp, rfl⟩ := List.mem_map.1 h
      unfold alw at hp
      simp at hp
      rcases hp with rfl | rfl | rfl | rfl | rfl | rfl | rfl | rfl <;> decide
    · exact hlong x h
   have HF := zH hF
   have HFp := zH hFp
   have HFlong := zH hFlong
   have Hp32 := zH hp32
   obtain ⟨hF40, hF8⟩ := hFl
   generalize hps : l.map CE.p2 = ps at *
   clear hr hm hlong hF hFp hFlong hp32 hps
   have hmm := @run_makeMap Tryz.prog
   go_enter Tryz.func34, Tryz.ntmps34
   go_wp2_with fail
   clear hmm
   refine (GX (W0 w)).mono ?_
   rw [kr]
   rintro e w2 ⟨v2, rfl, hown2, hb2⟩
   have hsz2 := hb2.size
   rw [kr] at hsz2
   have Hb2 := zH hb2
   have Hown2 := zH hown2
   have B2 := zH ((gV w).trans (hb2.mono (by omega)))
   clear hown2 hb2
   go_wp2_with (at_builtin
                refine Zm4 rfl (.tmp 20) (.tmp 21) rfl _ _ (alw.map bare) rfl Hown2.out A m c l rfl Hm.out (Hrd.out.below B2.out) (by simp [alw]; omega) (by omega) ?_
                intro v3 w3 hown3 hg3
                rw [HF.out] at hown3
                obtain ⟨lb, cap, rfl, _, _⟩ := World.ownsRow.form hown3 (by omega)
                have HM := zH (Mk.start Hb2.out Hown2.out hg3 hown3)
                clear hown3 hg3)
   go_loopw [25] (fun i wr => ∃ k : Nat, k ≤ F.length ∧ i = .int .i64 k ∧ Mk w wr F lb 0 (nsk F k) (fun _ => none) ∧ twice [Zc] (full ps) = twice (nsk F k) ((F.drop k).map CE.p2)) (fun i _ => F.length - (intOf i).toNat)
   case atStart => exact ⟨0, by omega, rfl, HM.out, by rw [List.drop_zero, HFp.out]; rfl⟩
   case round =>
    obtain ⟨k, hk, rfl, hmk, htw⟩ := hrel
    have Hmk := zH hmk
    by_cases hlt : k < F.length
    · have hns := zq9 hlt
      have hdr := yX hlt
      rw [hdr] at htw
      obtain ⟨b, o, hbo, hb, hc0, hc1, hc2, hc3, hc4⟩ := Uk hmk.lst hlt
      injection hbo with hbo
      injection hbo with e1 e2
      subst e1; subst e2
      rw [Nat.zero_add] at hc0 hc1 hc2 hc3 hc4
      have hk1 : (k : Int) < (F.length : Int) := by omega
      have hk0 : (0 : Int) ≤ (k : Int) := by omega
      have hxl := HFlong.out _ (List.getElem_mem hlt)
      have hnl : (nsk F k).length ≤ 41 := by unfold nsk; simp; omega
      have hnlong : ∀ c ∈ nsk F k, c.length ≤ 140737488355000 := by
       intro c hc
       unfold nsk at hc
       rcases List.mem_cons.1 hc with rfl | hc
       · decide
       · obtain ⟨x, hx, rfl⟩ := List.mem_map.1 hc
         exact HFlong.out x (List.mem_of_mem_take hx)
      generalize F[k] = x at *
      obtain ⟨xn, xs, xkA, xkm, xkc, xfA, xfm, xfc, xmA, xmm, xmc⟩ := x
      simp only at hc0 hc1 hc2 hc3 hc4 hns htw hxl
      generalize hN : nsk F k = ns at *
      have W1 := zH (hmk.ext ((Below.refl wr.heap.size wr).alloc (Nat.le_refl _) (.cells #[.string ⟨xn.toArray⟩, .string ⟨xs.toArray⟩, .slice xkA xkm xkc, .slice xfA xfm xfc, .slice xmA xmm xmc] 81)))
      have HH := zH (W1.out.isH (fun c i h => by cases h) hnl hnlong (by omega))
      have HHas := zH (fun W H => jT W.heap.size (w.heap.size + 2) ⟨ns, fun _ => none⟩ xn W H)
      have Hhas := zH (show Hr.has ⟨ns, fun _ => none⟩ xn = ns.contains xn from rfl)
      have Htw := zH htw
      have Hns := zH hns
      obtain ⟨A0, cc, hrow, hownN, hA0⟩ := hmk.row
      have cN : wr.cell? ⟨w.heap.size + 1 + 1, 0, none⟩ = some (.slice A0 ns.length cc) := cell_of_row _ _ _ _ _ (0, 0) hrow
      have hszw := hmk.bel.size
      have hgl : w.heap.size + 1 + 1 < wr.heap.size := by have := hmk.lo; have := hmk.hi; omega
      have HownN := zH hownN
      have hgl2 : w.heap.size + 1 + 1 < wr.heap.size + 1 := by omega
      have cN2 : ((wr.alloc (.cells #[.string ⟨xn.toArray⟩, .string ⟨xs.toArray⟩, .slice xkA xkm xkc, .slice xfA xfm xfc, .slice xmA xmm xmc] 81)).alloc (.cells #[.string ⟨xn.toArray⟩] 9)).cell? ⟨w.heap.size + 1 + 1, 0, none⟩ = some (.slice A0 ns.length cc) := (((Below.refl wr.heap.size wr).alloc (Nat.le_refl _) _).alloc (by simp) _).cell (p := ⟨w.heap.size + 1 + 1, 0, none⟩) hgl |>.trans cN
      have Hrow2 := zH (fun (W : World) (hb : Below wr.heap.size wr W) => (hb.block (w.heap.size + 2) hgl).trans hrow)
      have Hne := zH (show some (w.heap.size + 2) ≠ (Value.slice A0 ns.length cc).ownBlock by
       cases A0 with
       | none => simp [Value.ownBlock]
       | some a => have := (hA0 a rfl).1; simp [Value.ownBlock]; omega)
      have Hrow := zH hrow
      clear hrow hownN hA0
      cases hin : ns.contains xn
      · have Hin := zH hin
        have Htw2 := zH (show twice [Zc] (full ps) = twice (ns ++ [xn]) ((F.drop (k + 1)).map CE.p2) by rw [Htw.out]; show (if ns.contains xn then _ else _) = _; rw [hin]; rfl)
        clear hmk htw hns hdr hin hN hnlong hxl
        go_wp2_with (go_at_call 42; refine (HHas.out _ HH.out).mono ?_; rw [Hhas.out, Hin.out]; rintro e w' ⟨rfl, rfl⟩)
        go_region_law ((refine step_append_lies _ (by rfl) _ _ _ (by rfl) w.heap.size 9 i0 _ 1 16 Tryz.underlying25 I0.out I1.out I2.out I3.out rfl (by omega) (.slice A0 ns.length cc) ns.length (ns.map sv) (by rfl) (((HownN.out.alloc _).alloc _).drew) ⟨wr.heap.size + 1, 0, none⟩ 1 1 [.string ⟨xn.toArray⟩] (by rfl) (by rfl) (World.news_of_block (cs := #[.string ⟨xn.toArray⟩]) (t := 9) (fr := (0, 0)) (KC wr _ _ _)) (by simp [Value.oneCell']) (by omega) (by unfold maxLen; omega) (by omega) (by simp; omega) (wr.heap.size + 1 + 1) (by simp) ?_; intro gg cap5 w5 hown5 hg5 hat5 hlt5; have hb5 := (hg5.block (w.heap.size + 2) (by simp; omega) Hne.out).trans (Hrow2.out _ (((Below.refl wr.heap.size wr).alloc (Nat.le_refl _) _).alloc (by simp) _).drew); have hs5 : w5.cell? ⟨w.heap.size + 1 + 1, 0, none⟩ = some (.slice A0 ns.length cc) := cell_of_row _ _ _ _ _ (0, 0) hb5; have hf5 : w5.frozen? ⟨w.heap.size + 1 + 1, 0, none⟩ = false := frozen_of_row w5 _ 0 _ _ hb5; clear hb5))
        all_goals
         have HM5 : Hid (Mk w (w5.setCell ⟨w.heap.size + 1 + 1, 0, none⟩ (.slice (some ⟨gg, 0, none⟩) (ns.length + 1) cap5)) F lb 0 (ns ++ [xn]) (fun _ => none)) := zH (by
          have e : (ns ++ [xn]).length = ns.length + 1 := by simp
          have h5 := Mk.app (x := xn) (w1 := w5) (cap := cap5) (gg := gg) (Hmk.out.ext (((Below.refl wr.heap.size wr).alloc (Nat.le_refl _) _).alloc (by simp) _).drew) (Hrow2.out _ (((Below.refl wr.heap.size wr).alloc (Nat.le_refl _) _).alloc (by simp) _).drew) (by unfold zT; rw [e, List.map_append]; exact hown5) hg5 (by
           rcases hat5 with h | h
           · exact .inl h
           · exact .inr (by simp; omega))
          rw [e] at h5
          exact h5)
         clear hown5 hg5 hat5 hs5 hf5
         go_wp2_with fail
         go_roundw
         case rel => exact ⟨k + 1, by omega, by go_num, by rw [Hns.out]; exact HM5.out, by rw [Hns.out]; exact Htw2.out⟩
         case measure => simp [intOf]; omega
      · have Hin := zH hin
        have Hwhy := zH (UN (c := xn) Hp32.out (by rw [Htw.out]; show (if ns.contains xn then _ else _) = _; rw [hin]; rfl))
        clear hmk htw hns hdr hin hN hnlong hxl
        go_wp2_with (go_at_call 42; refine (HHas.out _ HH.out).mono ?_; rw [Hhas.out, Hin.out]; rintro e w' ⟨rfl, rfl⟩)
        go_quiet (fail)
        go_wp2_with fail
        go_ret3
        exact yQ Hwhy.out (by decide) (drawn W1.out.bel _)
    · have hk2 : F.length ≤ k := by omega
      have hnsall := Za2 hk2
      rw [HFp.out] at hnsall
      rw [hnsall] at hmk htw
      have htn : twice [Zc] (full ps) = none := by rw [htw, List.drop_of_length_le hk2]; rfl
      have Hnd := zH (show ((F.map CE.p2).map (·.1)).Nodup by rw [HFp.out]; exact (jC _ _ htn).2)
      have Htn := zH htn
      have hNl : (nms (full ps)).length ≤ 41 := by rw [← hnsall]; unfold nsk; simp; omega
      have HNlong := zH (show ∀ c ∈ nms (full ps), c.length ≤ 140737488355000 by
       intro c hc
       rw [← hnsall] at hc
       unfold nsk at hc
       rcases List.mem_cons.1 hc with rfl | hc
       · decide
       · obtain ⟨x, hx, rfl⟩ := List.mem_map.1 hc
         exact HFlong.out x (List.mem_of_mem_take hx))
      have HM2 := zH hmk
      have Hmk0 := zH hmk.bel
      clear hmk htw htn hnsall Hmk
      go_wp2_with fail
      go_loopw [49] (fun i wr => ∃ j : Nat, j ≤ F.length ∧ i = .int .i64 j ∧ Mk w wr F lb j (nms (full ps)) (fk F (nms (full ps)) j) ∧ qH (nms (full ps)) (full ps) = qH (nms (full ps)) ((F.drop j).map CE.p2)) (fun i _ => F.length - (intOf i).toNat)
      case atStart => exact ⟨0, by omega, rfl, HM2.out, by rw [List.drop_zero, HFp.out]⟩
      case round =>
       obtain ⟨j, hj, rfl, hmk, hsu⟩ := hrel
       have Hmk := zH hmk
       by_cases hlt : j < F.length
       · have hdr := yX hlt
         rw [hdr] at hsu
         obtain ⟨b, o, hbo, hb, hc0, hc1, hc2, hc3, hc4⟩ := Uk hmk.lst hlt
         injection hbo with hbo
         injection hbo with e1 e2
         subst e1; subst e2
         rw [Nat.zero_add] at hc0 hc1 hc2 hc3 hc4
         have hk1 : (j : Int) < (F.length : Int) := by omega
         have hk0 : (0 : Int) ≤ (j : Int) := by omega
         have Hxl := zH (HFlong.out _ (List.getElem_mem hlt))
         have Hfs := zH (Zd5 (NS := nms (full ps)) hlt Hnd.out)
         generalize F[j] = x at *
         obtain ⟨xn, xs, xkA, xkm, xkc, xfA, xfm, xfc, xmA, xmm, xmc⟩ := x
         simp only at hc0 hc1 hc2 hc3 hc4 hsu Hxl Hfs
         generalize hNS : nms (full ps) = NS at *
         generalize hfj : fk F NS j = fj at *
         obtain ⟨A0, cc, hrow, hownN, hA0⟩ := hmk.row
         have cN : wr.cell? ⟨w.heap.size + 1 + 1, 0, none⟩ = some (.slice A0 NS.length cc) := cell_of_row _ _ _ _ _ (0, 0) hrow
         have cM : wr.cell? ⟨w.heap.size + 1 + 1, 1, none⟩ = some (.map (some (w.heap.size + 1))) := cell_of_row _ _ _ _ _ (0, 0) hrow
         have hszw := hmk.bel.size
         have hgl : w.heap.size + 1 + 1 < wr.heap.size := by have := hmk.lo; have := hmk.hi; omega
         have hgl2 : w.heap.size + 1 + 1 < wr.heap.size + 1 := by omega
         have W1 := zH (hmk.ext ((Below.refl wr.heap.size wr).alloc (Nat.le_refl _) (.cells #[.string ⟨xn.toArray⟩, .string ⟨xs.toArray⟩, .slice xkA xkm xkc, .slice xfA xfm xfc, .slice xmA xmm xmc] 81)))
         obtain ⟨A1, c1, e1, k1, k2, hrd, hA1⟩ := hownN.slice
         cases e1
         have HIdx := zH (fun (n : Nat) => (YP A0 NS.length cc NS xs (((wr.alloc (.cells #[.string ⟨xn.toArray⟩, .string ⟨xs.toArray⟩, .slice xkA xkm xkc, .slice xfA xfm xfc, .slice xmA xmm xmc] 81))).drewN n) rfl (by omega) ((hrd.below ((Below.refl wr.heap.size wr).alloc (Nat.le_refl _) _)).drewN n)).mono (R' := fun e w' => e = .returned (.int .i64 (if xs ∈ NS then ((NS.idxOf xs : Nat) : Int) else -1)) ∧ w' = _) fun e w' ⟨h1, h2⟩ => ⟨h1, h2.symm⟩)
         have Hsu := zH hsu
         by_cases hin : xs ∈ NS
         · have hil : NS.idxOf xs < NS.length := List.idxOf_lt_length_iff.2 hin
           rw [if_pos hin] at HIdx
           have Hsu2 := zH (show qH NS (full ps) = qH NS ((F.drop (j + 1)).map CE.p2) by rw [Hsu.out]; show (if NS.contains xs then _ else _) = _; rw [if_pos (by simpa using hin)])
           generalize NS.idxOf xs = ix at *
           have hix0 : (0 : Int) ≤ (ix : Int) := by omega
           have hix1 : ¬ (ix : Int) < 0 := by omega
           clear hmk hsu hdr hin hrow hownN hA0 hrd hA1 k1 k2 hNS hfj
           go_wp2_with fail
           go_quiet ((go_at_call 74; exact Calls.quiet_of_same (HIdx.out _)))
           go_wp2_with fail
           have dX : ((wr.alloc (.cells #[.string ⟨xn.toArray⟩, .string ⟨xs.toArray⟩, .slice xkA xkm xkc, .slice xfA xfm xfc, .slice xmA xmm xmc] 81)).drewN nq).cell? ⟨wr.heap.size, 0, none⟩ = some (.string ⟨xn.toArray⟩) := by go_simp
           generalize hW2 : ((wr.alloc (.cells #[.string ⟨xn.toArray⟩, .string ⟨xs.toArray⟩, .slice xkA xkm xkc, .slice xfA xfm xfc, .slice xmA xmm xmc] 81)).drewN nq) = W2 at *
           have hbW : Below wr.heap.size wr W2 := by rw [← hW2]; exact drawn ((Below.refl wr.heap.size wr).alloc (Nat.le_refl _) _) _
           have dM : W2.cell? ⟨w.heap.size + 1 + 1, 1, none⟩ = some (.map (some (w.heap.size + 1))) := (hbW.cell (p := ⟨w.heap.size + 1 + 1, 1, none⟩) hgl).trans cM
           have MkW := Hmk.out.ext hbW
           obtain ⟨w6, hrun, hg6, hm6⟩ := Zb7 (w := W2.drew) (MkW.map.block rfl) (by omega) xn ix (by have := Hxl.out; omega) (by omega)
           have HM6 := zH (Mk.upd (MkW.ext (Below.refl W2.heap.size W2).drew) hg6 hm6)
           clear cN cM hbW MkW hg6 hm6 hW2 hc0 hc1 hc2 hc3 hc4
           go_region
           go_wp2_with fail
           go_roundw
           case rel => exact ⟨j + 1, by omega, by go_num, by rw [Hfs.out]; exact HM6.out, Hsu2.out⟩
           case measure => simp [intOf]; omega
         · rw [if_neg hin] at HIdx
           have Hwhy := zH (za3 (c := xn) Hp32.out Htn.out (by rw [hNS, Hsu.out]; show (if NS.contains xs then _ else _) = _; rw [if_neg (by simpa using hin)]; rfl))
           clear hmk hsu hdr hin hrow hownN hA0 hrd hA1 k1 k2 hNS hfj
           go_wp2_with fail
           go_quiet ((go_at_call 74; exact Calls.quiet_of_same (HIdx.out _)))
           go_wp2_with fail
           go_quiet (fail)
           go_wp2_with fail
           go_ret3
           exact yQ Hwhy.out (by decide) (drawn (drawn W1.out.bel _) _)
       · have hj2 : F.length ≤ j := by omega
         have hfa := Zl6 hj2
         rw [HFp.out] at hfa
         rw [hfa] at hmk
         have hsn : qH (nms (full ps)) (full ps) = none := by rw [hsu, List.drop_of_length_le hj2]; rfl
         have Hsn := zH hsn
         have Hinn := zH (show ∀ c i, abv (full ps) c = some i → i < (nms (full ps)).length by
          intro c i h
          unfold abv at h
          cases hf : (full ps).find? (fun p => p.1 == c) with
          | none => rw [hf] at h; cases h
          | some p =>
            rw [hf] at h
            simp only [Option.map_some, Option.some.injEq] at h
            subst h
            exact List.idxOf_lt_length_iff.2 (jJ _ _ hsn p (List.mem_of_find?_eq_some hf)))
         have HM3 := zH hmk
         clear hmk hsu hsn hfa Hmk
         go_wp2_with fail
         go_loopw [74] (fun i wr => ∃ q : Nat, q ≤ F.length ∧ i = .int .i64 q ∧ Mk w wr F lb j (nms (full ps)) (abv (full ps)) ∧ inLoop (mk ps) (full ps) = inLoop (mk ps) ((F.drop q).map CE.p2)) (fun i _ => F.length - (intOf i).toNat)
         case atStart => exact ⟨0, by omega, rfl, HM3.out, by rw [List.drop_zero, HFp.out]⟩
         case round =>
          obtain ⟨q, hq, rfl, hmk, hlo⟩ := hrel
          have Hmk := zH hmk
          by_cases hlt : q < F.length
          · have hdr := yX hlt
            rw [hdr] at hlo
            obtain ⟨b, o, hbo, hb, hc0, hc1, hc2, hc3, hc4⟩ := Uk hmk.lst hlt
            injection hbo with hbo
            injection hbo with e1 e2
            subst e1; subst e2
            rw [Nat.zero_add] at hc0 hc1 hc2 hc3 hc4
            have hk1 : (q : Int) < (F.length : Int) := by omega
            have hk0 : (0 : Int) ≤ (q : Int) := by omega
            have Hxl := zH (HFlong.out _ (List.getElem_mem hlt))
            generalize F[q] = x at *
            obtain ⟨xn, xs, xkA, xkm, xkc, xfA, xfm, xfc, xmA, xmm, xmc⟩ := x
            simp only at hc0 hc1 hc2 hc3 hc4 hlo Hxl
            have W1 := zH (hmk.ext ((Below.refl wr.heap.size wr).alloc (Nat.le_refl _) (.cells #[.string ⟨xn.toArray⟩, .string ⟨xs.toArray⟩, .slice xkA xkm xkc, .slice xfA xfm xfc, .slice xmA xmm xmc] 81)))
            have HL := zH (zj0 _ _ (mk ps) xn _ (W1.out.isH Hinn.out hNl HNlong.out (by omega)) (by have := Hxl.out; omega))
            have Hlo := zH hlo
            cases hL : Zm (mk ps).up (mk ps).names.length ((mk ps).up xn) xn
            · rw [hL] at HL
              have Hlo2 := zH (show inLoop (mk ps) (full ps) = inLoop (mk ps) ((F.drop (q + 1)).map CE.p2) by rw [Hlo.out]; show (if Zm (mk ps).up (mk ps).names.length ((mk ps).up xn) xn = true then _ else _) = _; rw [hL]; rfl)
              clear hmk hlo hdr hL
              go_wp2_with (go_at_call 75; refine HL.out.mono ?_; rintro e w' ⟨rfl, rfl⟩)
              go_roundw
              case rel => exact ⟨q + 1, by omega, by go_num, W1.out, Hlo2.out⟩
              case measure => simp [intOf]; omega
            · rw [hL] at HL
              have Hwhy := zH (kG (c := xn) Hp32.out Htn.out Hsn.out (by rw [Hlo.out]; show (if Zm (mk ps).up (mk ps).names.length ((mk ps).up xn) xn = true then _ else _) = _; rw [hL]; rfl))
              clear hmk hlo hdr hL
              go_wp2_with (go_at_call 75; refine HL.out.mono ?_; rintro e w' ⟨rfl, rfl⟩)
              go_quiet (fail)
              go_wp2_with fail
              go_ret3
              exact yQ Hwhy.out (by decide) (drawn W1.out.bel _)
          · have hln : inLoop (mk ps) (full ps) = none := by rw [hlo, List.drop_of_length_le (by omega)]; rfl
            have Hwhy := zH (zm7 Hp32.out Htn.out Hsn.out hln)
            have HIs := zH (hmk.isH Hinn.out hNl HNlong.out (by omega))
            clear hmk hlo hln
            go_wp2_with fail
            go_ret3
            exact Gz Hwhy.out Hmk.out.bel HIs.out
end HierW
end Go.Proofs.YtehainbhoflpnaaGreatDoor
