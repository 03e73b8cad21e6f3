/- pieces -/
import Derived.Test.YtmkdhdmkdcankaaGreatDoorK31
namespace Go.Proofs.YtmkdhdmkdcankaaGreatDoor
set_option maxRecDepth 100000
namespace ClB
open Go.RowKit Base BinM HpM HpA HpB HpG ClM LnkC ClA
def y9 (w : World) (b n : Nat) (l : List Int) : Prop := ∃ D : DataW Unit, w.ownsMap Tryz.prog 2 unitElem b n D ∧ ∀ x : Int, Maps.has D (.int .i64 x) = decide (x ∈ l)
theorem y9.new (w : World) : y9 (w.alloc (.map #[] 0)) w.heap.size 0 [] := ⟨_, World.ownsMap_made _ _ _ _, fun x => by simp [Maps.has]⟩
theorem y9.put {w : World} {b n : Nat} {l : List Int} (h : y9 w b n l) (x : Int) (hx : zo x) (hn : n < 100000) :
 ∃ w', (Instr.mapUpdate 95 (.map (some b)) (.int .i64 x) (.agg #[])).run Tryz.prog w = .ok () w' ∧ y9 w' b (n + 1) (x :: l) ∧ w.grownBy w' (some b) := by
 obtain ⟨D, h1, h2⟩ := h
 obtain ⟨w', hrun, h3, hg⟩ := h1.update UM Tryz.underlying95 (by unfold maxLen; omega) (Go.Maps.keyOf_int_mk Tryz.underlying2 (UU hx)) unitElem_mk
 refine ⟨w', hrun, ⟨_, h3, fun y => ?_⟩, hg⟩
 by_cases e : y = x
 · subst e
   rw [Maps.has_put_same h1.isMap (by trivial)]
   simp
 · rw [Maps.has_put_other (by simpa using e), h2]
   simp [e]
theorem y9.block {w w' : World} {b n : Nat} {l : List Int} (h : y9 w b n l) (hb : w'.heap[b]? = w.heap[b]?) : y9 w' b n l := by
 obtain ⟨D, h1, h2⟩ := h
 exact ⟨D, ZL h1 hb, h2⟩
theorem y9.lt {w : World} {b n : Nat} {l : List Int} (h : y9 w b n l) : b < w.heap.size := by
 obtain ⟨D, h1, _⟩ := h
 exact h1.lt
theorem y9.ne_box {w : World} {b g n : Nat} {l : List Int} {C : Array Value} {ty : TypeId} (h : y9 w b n l) (hx : Bx w g C ty) : g ≠ b := by
 rintro rfl
 obtain ⟨D, ⟨es, ck, hm, _⟩, _⟩ := h
 have hb2 : w.heap[g]? = some (.cells C ty (0, 0)) := hx
 rw [hm] at hb2
 cases hb2
theorem y9.ne_row {w : World} {b n base k size : Nat} {e : TypeId} {v : Value} {xs : List Value} {l : List Int} (h : y9 w b n l) (hx : w.ownsRow base e size v k xs) : v.ownBlock ≠ some b := by
 intro e'
 obtain ⟨D, ⟨es, ck, hm, _⟩, _⟩ := h
 rcases hx.2 with ⟨hv, _⟩ | ⟨g, cap, cur, hv, _, hh, _⟩
 · rw [hv] at e'; cases e'
 · rw [hv] at e'
   have e2 : g = b := by injection e'
   subst e2
   rw [hh] at hm
   cases hm
theorem xB {ops : Array Oper} {rest : List Oper} {o : Oper} {a : Act} {w : World} {Q : Exit → Act → World → Prop} (hgd : o.guard = none) (s x : Operand)
 (ho : o.op = .call { callee := .builtin .append, args := #[s, x], argTypes := #[27, 27] })
 (base : Nat) (v : Value) (p : List Int) (hs : a.eval s = v) (hown : zT w base v p) (g c : Nat) (y : Int) (hx : a.eval x = .slice (some ⟨g, 0, none⟩) 1 c)
 (hr : Rds w (some ⟨g, 0, none⟩) [.int .i64 y]) (hlen : p.length ≤ 100000) (hbase : base ≤ w.heap.size)
 (h : ∀ v' w', zT w' base v' (p ++ [y]) → w.grownBy w' v.ownBlock → (v'.ownBlock = v.ownBlock ∨ v'.ownBlock = some w.heap.size) → wpList Tryz.prog ops Q rest (a.put o.dst v') w') : wpList Tryz.prog ops Q (o :: rest) a w := by
 obtain ⟨i0, hi, hz, hs1, hb1⟩ := info_parts Qv
 refine wpList_plain hgd fun K hK => ?_
 obtain ⟨v', w', hrun, h2, h3, _, h5⟩ := run_append_own_at (P := Tryz.prog) w base 27 o.type 2 i0 _ 1 8 Tryz.underlying27 hi hz hs1 hb1 rfl (by omega) v p.length (p.map (Value.int .i64)) hown ⟨g, 0, none⟩ 1 c [.int .i64 y] rfl
  (by intro j u hu
      rcases hr with h0 | ⟨b, o', hA, _, hc⟩
      · cases h0
      · injection hA with hA
        rw [hA, Addr.add_mid]
        exact hc j u hu)
  (by intro u hu; simp at hu; subst hu; rfl) (by unfold maxLen; omega) (by omega) hbase
 unfold Oper.wp execOp
 simp only [ho, resolve, invoke, builtin, Sem.run_bind, Sem.run_pure, Result.andThen_ok, List.map_toArray, List.map_cons, List.map_nil, hs, hx, hrun]
 refine hK _ _ (h v' w' ?_ h3 h5)
 unfold zT
 rw [List.map_append, List.length_append]
 exact h2
structure Rc (w0 w : World) (r g mb : Nat) (A : Option Addr) (c : Nat) (out l : List Int) : Prop where
 box : Bx w r #[.pointer (some ⟨g, 0, none⟩), .slice A out.length c, .map (some mb)] 97
 row : zT w w0.heap.size (.slice A out.length c) out
 set : y9 w mb l.length l
 rl : w0.heap.size ≤ r
 ml : w0.heap.size ≤ mb
 bel : Below w0.heap.size w0 w
def on (r mb : Nat) (A : Option Addr) (k : Nat) : Prop := k = r ∨ k = mb ∨ ∃ a, A = some a ∧ a.block = k
theorem Rc.lt {w0 w : World} {r g mb : Nat} {A : Option Addr} {c : Nat} {out l : List Int} (H : Rc w0 w r g mb A c out l) {k : Nat} (hk : on r mb A k) : k < w.heap.size ∧ w0.heap.size ≤ k := by
 rcases hk with rfl | rfl | ⟨a, rfl, rfl⟩
 · exact ⟨H.box.lt, H.rl⟩
 · exact ⟨H.set.lt, H.ml⟩
 · exact QI H.row rfl
theorem Rc.beside {w0 w w' : World} {r g mb : Nat} {A : Option Addr} {c : Nat} {out l : List Int} (H : Rc w0 w r g mb A c out l) (hb : Below w.heap.size w w') : Rc w0 w' r g mb A c out l :=
 ⟨H.box.after hb, ze H.row (fun k hk => hb.block k (World.ownsRow.lt H.row k hk).2), H.set.block (hb.block _ H.set.lt), H.rl, H.ml, H.bel.trans (hb.mono H.bel.size)⟩
theorem Rc.meet {w0 w : World} {r g mb : Nat} {A : Option Addr} {c : Nat} {out l : List Int} (H : Rc w0 w r g mb A c out l) (x : Int) (hx : zo x) (hl : l.length < 100000) :
 ∃ w', (Instr.mapUpdate 95 (.map (some mb)) (.int .i64 x) (.agg #[])).run Tryz.prog w = .ok () w' ∧ Rc w0 w' r g mb A c out (x :: l) ∧ w.heap.size ≤ w'.heap.size ∧ ∀ k, k < w.heap.size → k ≠ mb → w'.heap[k]? = w.heap[k]? := by
 obtain ⟨w', hrun, hs, hg⟩ := H.set.put x hx hl
 have hk : ∀ k, k < w.heap.size → k ≠ mb → w'.heap[k]? = w.heap[k]? := fun k hk hn => hg.block k hk (fun e => hn (by injection e))
 refine ⟨w', hrun, ⟨(hk r H.box.lt (H.set.ne_box H.box)).trans H.box, ze H.row (fun k hb => hk k (World.ownsRow.lt H.row k hb).2 (fun e => H.set.ne_row H.row (by rw [hb, e]))), hs, H.rl, H.ml, ?_⟩, hg.size, hk⟩
 exact H.bel.trans ((Below.refl _ _).grown hg H.bel.size (fun k hk => by injection hk with hk; subst hk; exact H.ml))
theorem Rc.push {w0 w w1 : World} {r g mb : Nat} {A : Option Addr} {c : Nat} {out l : List Int} (H : Rc w0 w r g mb A c out l) (x : Int) {v : Value} (hown : zT w1 w0.heap.size v (out ++ [x])) (hg : w.grownBy w1 (Value.slice A out.length c).ownBlock) (hat : v.ownBlock = (Value.slice A out.length c).ownBlock ∨ v.ownBlock = some w.heap.size) :
 Bx w1 r #[.pointer (some ⟨g, 0, none⟩), .slice A out.length c, .map (some mb)] 97 ∧
  w.heap.size ≤ w1.heap.size ∧ ∃ A' c', v = .slice A' (out.length + 1) c' ∧ Rc w0 (w1.setCell ⟨r, 1, none⟩ v) r g mb A' c' (out ++ [x]) l ∧ (∀ k, k < w.heap.size → ¬ on r mb A k → (w1.setCell ⟨r, 1, none⟩ v).heap[k]? = w.heap[k]?) ∧ ∀ k, on r mb A' k → on r mb A k ∨ w.heap.size ≤ k := by
 have hne := jG H.row H.box (by decide)
 have hb : Bx w1 r #[.pointer (some ⟨g, 0, none⟩), .slice A out.length c, .map (some mb)] 97 := (hg.block r H.box.lt (fun e => hne e.symm)).trans H.box
 refine ⟨hb, hg.size, ?_⟩
 obtain ⟨A', c', hv, h1, h2, h3, _⟩ := zi hown
 have hlen : (out ++ [x]).length = out.length + 1 := by simp
 rw [hlen] at hv
 subst hv
 have hne1 := jG hown hb (by decide)
 have hset : y9 w1 mb l.length l := H.set.block (hg.block mb H.set.lt (fun e => H.set.ne_row H.row e.symm))
 have hmr : mb ≠ r := Ne.symm (H.set.ne_box H.box)
 refine ⟨A', c', rfl, ⟨by rw [hlen]; exact hb.set 1 _, by rw [hlen]; exact ze hown (fun k hk => heap_setCell_other _ ⟨r, 1, none⟩ k _ (fun e => hne1 (by rw [hk, e]))), hset.block (heap_setCell_other _ ⟨r, 1, none⟩ _ _ hmr), H.rl, H.ml, ?_⟩, ?_, ?_⟩
 · have hb1 : Below w0.heap.size w0 w1 := H.bel.trans ((Below.refl _ _).grown hg H.bel.size (fun k hk => (World.ownsRow.lt H.row k hk).1))
   exact hb1.setCell (p := ⟨r, 1, none⟩) H.rl _
 · intro k hk hn
   rw [heap_setCell_other _ ⟨r, 1, none⟩ k _ (fun e => hn (.inl e))]
   refine hg.block k hk (fun e => ?_)
   obtain ⟨a, q1, q2⟩ := zK e.symm
   exact hn (.inr (.inr ⟨a, q1, q2⟩))
 · rintro k (h | h | ⟨a, rfl, rfl⟩)
   · exact .inl (.inl h)
   · exact .inl (.inr (.inl h))
   · rcases hat with e | e
     · have e' : (Value.slice A out.length c).ownBlock = some a.block := by rw [← e]; rfl
       obtain ⟨b, q1, q2⟩ := zK e'
       exact .inl (.inr (.inr ⟨b, q1, q2⟩))
     · have e' : some a.block = some w.heap.size := e
       injection e' with e'
       exact .inr (by omega)
theorem ze1 (w : World) : (zeroValue 174).run Tryz.prog w = .ok (.agg #[]) w := by kernel_rfl
def RcX (w0 wr : World) (r g : Nat) (out : List Int) (Ax : Option Addr) (xs : List Int) : Prop :=
 ∃ mb A c l, Rc w0 wr r g mb A c out l ∧ (∀ y, y ∈ l ↔ y ∈ out) ∧ l.length = out.length ∧ Rds wr Ax (xs.map (Value.int .i64)) ∧ ∀ a, Ax = some a → xs ≠ [] → a.block < wr.heap.size ∧ ¬ on r mb A a.block
def RcE (w0 wr : World) (r g : Nat) (out : List Int) : Prop := ∃ mb A c l, Rc w0 wr r g mb A c out l ∧ (∀ y, y ∈ l ↔ y ∈ out) ∧ l.length = out.length
def Vq (w0 : World) (r g : Nat) (o : Option (List Int)) (e : Ending) (w' : World) : Prop :=
 (o = none ∧ e = .returned (.int .i64 3) ∧ Below w0.heap.size w0 w') ∨ ∃ out, o = some out ∧ e = .returned (.int .i64 0) ∧ RcE w0 w' r g out
theorem come_next {A : List Int} {out o : List Int} {xs : List Int} {k : Nat} (hk : k < xs.length) (h : come A out (xs.take k) = some o) : come A out (xs.take (k + 1)) = (if xs[k] = 0 ∨ xs[k] ∈ o then some o else if xs[k] ∈ A then some (o ++ [xs[k]]) else none) := by
 rw [List.take_succ_eq_append_getElem hk, qb, h]
 rfl
theorem yO {A : List Int} {out : List Int} {xs : List Int} {k : Nat} (h : come A out (xs.take k) = none) : come A out xs = none := by
 rw [← List.take_append_drop k xs, qb, h]; rfl
set_option maxHeartbeats 16000000 in
theorem gW {w0 w : World} {hg mp : Nat} {Aw : Option Addr} {cw : Nat} {Aa : Option Addr} {ca most : Nat} {kk : Nat} {F : Int → Option Int} {ts : List Th} (H : HpX w0 hg mp Aw cw Aa ca most (raw ts) (adr 0 ts) kk F) (Ft : Fits most ts)
 {r : Nat} {out : List Int} {Ax : Option Addr} {cx : Nat} {xs : List Int} (R : RcX w0 w r hg out Ax xs) (G : ClM.Good (adr 0 ts) out) (hts : ts.length ≤ 5000) (hxl : xs.length ≤ 100000) (hfx : ∀ x ∈ xs, zo x) :
 Calls Tryz.prog 43 #[.pointer (some ⟨r, 0, none⟩), .slice Ax xs.length cx] w (Vq w0 r hg (come (adr 0 ts) out xs)) := by
 have HH := zH (fun wr (hb : Below w0.heap.size w0 wr) => H.beside hb)
 have HF := zH Ft
 have HX := zH hfx
 have HG := zH G
 have HR := zH R
 have hal : (adr 0 ts).length ≤ 5000 := by rw [qd]; exact hts
 clear H Ft hfx G R
 go_enter Tryz.func43, Tryz.ntmps43
 go_wp2_with fail
 go_loopw [13] (fun i wr => ∃ (k : Nat) (o : List Int), k ≤ xs.length ∧ i = .int .i64 (k : Int) ∧ come (adr 0 ts) out (xs.take k) = some o ∧ RcX w0 wr r hg o Ax xs) (fun i _ => xs.length - (intOf i).toNat)
 case atStart => exact ⟨0, out, Nat.zero_le _, rfl, rfl, HR.out⟩
 case round =>
  obtain ⟨k, o, hk, rfl, hcm, hrc⟩ := hrel
  obtain ⟨mb, A, c, l, hR, hl, hll, hrd, hap⟩ := hrc
  have HGo := zH (qN HG.out hcm).1
  have hol := HGo.out.len
  have HRc := zH hR
  have HRd := zH hrd
  have HAp := zH hap
  have HL := zH hl
  have HLL := zH hll
  have HCm := zH hcm
  have q0 : wr.cell? ⟨r, 0, none⟩ = some (.pointer (some ⟨hg, 0, none⟩)) := hR.box.cell 0
  have q1 : wr.cell? ⟨r, 1, none⟩ = some (.slice A o.length c) := hR.box.cell 1
  have q2 : wr.cell? ⟨r, 2, none⟩ = some (.map (some mb)) := hR.box.cell 2
  have hrl := hR.box.lt
  obtain ⟨D, hown, hhas⟩ := hR.set
  clear hR hl hll hcm
  by_cases hlt : k < xs.length
  · obtain ⟨b, oo, hA, hb1, hc0⟩ := HRd.out.at_ (k := k) (by rw [List.length_map]; exact hlt)
    rw [List.getElem_map] at hc0
    subst hA
    have hfk := HX.out _ (List.getElem_mem hlt)
    have HN := zH (come_next hlt HCm.out)
    have hkey := zH (Go.Maps.keyOf_int_mk (P := Tryz.prog) Tryz.underlying2 (UU hfk))
    have hhx := hhas xs[k]
    have Hown := zH hown
    have Hfk := zH hfk
    have HNx : Hid (RcX w0 (wr.alloc (.cells #[] 174)) r hg o (some ⟨b, oo, none⟩) xs) := zH (by
     have hb := (Below.refl wr.heap.size wr).alloc (Nat.le_refl _) (.cells #[] 174)
     exact ⟨mb, A, c, l, HRc.out.beside hb, HL.out, HLL.out, HRd.out.below hb, fun a ha hne => ⟨Nat.lt_of_lt_of_le (HAp.out a ha hne).1 hb.size, (HAp.out a ha hne).2⟩⟩)
    clear hrd hap hown hhas hfk
    generalize xs[k] = x at *
    by_cases hm : x ∈ o
    · have h1 : Maps.has D (.int .i64 x) = true := by rw [hhx]; simpa using (HL.out x).2 hm
      have HE := zH (HN.out.trans (if_pos (Or.inr hm)))
      clear hhx hm HN
      go_wp2_with (at_lookup; refine wpList_lookup_own_unit _ rfl _ _ 95 rfl 2 174 UM Tryz.underlying95 (ze1 _) mb l.length D rfl Hown.out _ _ rfl hkey.out ?_)
      go_roundw
      case rel => exact ⟨k + 1, o, by omega, by go_num, HE.out, HNx.out⟩
      case measure => simp [intOf]; omega
    · have h1 : Maps.has D (.int .i64 x) = false := by rw [hhx]; simpa using fun h => hm ((HL.out x).1 h)
      by_cases hz : x = 0
      · subst hz
        have HE := zH (HN.out.trans (if_pos (Or.inl rfl)))
        clear hhx hm HN
        go_wp2_with (at_lookup; refine wpList_lookup_own_unit _ rfl _ _ 95 rfl 2 174 UM Tryz.underlying95 (ze1 _) mb l.length D rfl Hown.out _ _ rfl hkey.out ?_)
        go_roundw
        case rel => exact ⟨k + 1, o, by omega, by go_num, HE.out, HNx.out⟩
        case measure => simp [intOf]; omega
      · have hz' : (x == 0) = false := by simpa using hz
        have hor : ¬ (x = 0 ∨ x ∈ o) := fun h => h.elim hz hm
        by_cases hin : x ∈ adr 0 ts
        · have HE := zH ((HN.out.trans (if_neg hor)).trans (if_pos hin))
          have HT : Hid (∀ wr, Below w0.heap.size w0 wr → Calls Tryz.prog 27 #[.pointer (some ⟨hg, 0, none⟩), .int .i64 x] wr fun e w' => ∃ id : Int, e = .returned (.tuple #[.int .i64 id, .int .i64 0]) ∧ ∃ q, w' = wr.drewN q) := zH (fun wr hb => by
           obtain ⟨pp, th, rr, rfl, rfl⟩ := Za hin
           rw [Nat.zero_add]
           exact (uf (HH.out wr hb) HF.out).mono (fun e w' ⟨h1, h2⟩ => ⟨_, h1, h2⟩))
          have HBn := zH (HRc.out.bel.alloc HRc.out.bel.size (.cells #[] 174))
          have HR1 : Hid (∀ q, Rc w0 ((wr.alloc (.cells #[] 174)).drewN q) r hg mb A c o l) := zH (fun q => (HRc.out.beside ((Below.refl wr.heap.size wr).alloc (Nat.le_refl _) (.cells #[] 174))).beside (HpE.zf _ q))
          have hl5 : l.length < 100000 := by have := HLL.out; omega
          have HM : Hid (∀ q, ∃ w3, (Instr.mapUpdate 95 (.map (some mb)) (.int .i64 x) (.agg #[])).run Tryz.prog ((wr.alloc (.cells #[] 174)).drewN q) = .ok () w3 ∧ Rc w0 w3 r hg mb A c o (x :: l) ∧ wr.heap.size < w3.heap.size ∧ ∀ k, k < wr.heap.size → k ≠ mb → w3.heap[k]? = wr.heap[k]?) := zH (fun q => by
           obtain ⟨w3, h1, h2, h3, h4⟩ := (HR1.out q).meet x Hfk.out hl5
           have h5 : ((wr.alloc (.cells #[] 174)).drewN q).heap.size = wr.heap.size + 1 := by simp
           refine ⟨w3, h1, h2, by omega, fun k hk hn => (h4 k (by omega) hn).trans ?_⟩
           exact (((Below.refl wr.heap.size wr).alloc (Nat.le_refl _) (.cells #[] 174)).trans ((HpE.zf _ q).mono (by simp))).block k hk)
          have HLx : Hid (∀ y, y ∈ x :: l ↔ y ∈ o ++ [x]) := zH (fun y => by simp [HL.out y]; exact or_comm)
          have hol2 : o.length ≤ 100000 := by omega
          clear hhx hm HN hor hin hz HR1
          go_wp2_with (first
           | (at_lookup; refine wpList_lookup_own_unit _ rfl _ _ 95 rfl 2 174 UM Tryz.underlying95 (ze1 _) mb l.length D rfl Hown.out _ _ rfl hkey.out ?_)
           | (go_at_call 27; refine (HT.out _ HBn.out).mono ?_; rintro e w' ⟨id, rfl, q, rfl⟩; obtain ⟨w3, hrun, hR3, hs3, hk3⟩ := HM.out q; have z1 : w3.cell? ⟨r, 1, none⟩ = some (.slice A o.length c) := hR3.box.cell 1; have z2 := hR3.box.free 1; have z3 := hR3.box.lt; have HR4 := zH (hR3.beside ((Below.refl w3.heap.size w3).alloc (Nat.le_refl _) (.cells #[.int .i64 x] 2))); have HK3 := zH hk3; have HS4 : Hid (w0.heap.size ≤ (w3.alloc (.cells #[.int .i64 x] 2)).heap.size) := zH HR4.out.bel.size; have HRd4 := zH (LnkA.ZG (HpM.Bx.new w3 #[.int .i64 x] 2)); clear hR3 hk3)
           | (at_builtin; refine xB rfl (.tmp 53) (.tmp 55) rfl w0.heap.size _ o rfl HR4.out.row w3.heap.size 1 x rfl HRd4.out hol2 HS4.out ?_; intro v5 w5 hown5 hg5 hat5; obtain ⟨hb5, hz5, A5, c5, rfl, hR5, hk5, hon5⟩ := HR4.out.push x hown5 hg5 hat5; have y1 : w5.cell? ⟨r, 1, none⟩ = some (.slice A o.length c) := Bx.cell hb5 1; have y2 := Bx.free hb5 1; have y3 := Bx.lt hb5; have HR5 := zH hR5; have HK5 := zH hk5; have HO5 := zH hon5; clear hown5 hg5 hat5 hb5 hR5 hk5 hon5))
          go_roundw
          case rel =>
           obtain ⟨p1, p2⟩ := HAp.out ⟨b, oo, none⟩ rfl (fun e => by rw [e] at hlt; simp at hlt)
           have p1' : b < wr.heap.size := p1
           have p2' : ¬ on r mb A b := p2
           have h4s : (w3.alloc (.cells #[.int .i64 x] 2)).heap.size = w3.heap.size + 1 := World.size_alloc _ _
           have hrow := (HK5.out b (by omega) p2').trans (((Below.refl w3.heap.size w3).alloc (Nat.le_refl _) (.cells #[.int .i64 x] 2)).block b (by omega) |>.trans (HK3.out b p1' (fun e => p2' (.inr (.inl e)))))
           have hsz7 : wr.heap.size ≤ (w5.setCell ⟨r, 1, none⟩ (.slice A5 (o.length + 1) c5)).heap.size := by
            have h6 : (w5.setCell ⟨r, 1, none⟩ (.slice A5 (o.length + 1) c5)).heap.size = w5.heap.size := by simp
            omega
           exact ⟨k + 1, o ++ [x], by omega, by go_num, HE.out, mb, A5, c5, x :: l, HR5.out, HLx.out, by simp [HLL.out], TabN.qU HRd.out hsz7 (fun a ha => by injection ha with ha; subst ha; exact hrow), fun a ha _ => by
            injection ha with ha
            subst ha
            exact ⟨Nat.lt_of_lt_of_le p1' hsz7, fun h => (HO5.out b h).elim p2' (fun h => by omega)⟩⟩
          case measure => simp [intOf]; omega
        · have HE := zH (yO ((HN.out.trans (if_neg hor)).trans (if_neg hin)))
          have HT := zH (fun wr hb => ze8 (HH.out wr hb) HF.out x hin)
          have HBn := zH (HRc.out.bel.alloc HRc.out.bel.size (.cells #[] 174))
          clear hhx hm HN hor hin hz
          go_wp2_with (first
           | (at_lookup; refine wpList_lookup_own_unit _ rfl _ _ 95 rfl 2 174 UM Tryz.underlying95 (ze1 _) mb l.length D rfl Hown.out _ _ rfl hkey.out ?_)
           | (go_at_call 27; refine (HT.out _ HBn.out).mono ?_; rintro e w' ⟨rfl, q, rfl⟩))
          go_ret
          exact .inl ⟨HE.out, rfl, HBn.out.trans (HpE.zf _ q |>.mono HBn.out.size)⟩
  · have HE := zH (show come (adr 0 ts) out xs = some o by have := HCm.out; rwa [List.take_of_length_le (by omega)] at this)
    clear hrd hap hown hhas
    go_wp2_with fail
    go_ret
    exact .inr ⟨o, HE.out, rfl, mb, A, c, l, HRc.out, HL.out, HLL.out⟩
end ClB
namespace HpR
open Go.RowKit Base BinM HpM HpA HpS HpB HpG HpP HpT HpZ
structure ThM where
 at_ : Int
 A : Option Addr
 c : Nat
 t : Th
def thV (m : ThM) : List Value := [.int .i64 m.at_, .int .i64 (m.t.id : Int), .slice m.A m.t.W.length m.c, .int .i64 m.t.s]
theorem thV_len (m : ThM) : (thV m).length = 4 := rfl
def things (ms : List ThM) : List Th := ms.map ThM.t
def Z6 (r : Nat) (AL : Option Addr) (ms : List ThM) : Nat → Prop := fun k => k = r ∨ (∃ a, AL = some a ∧ a.block = k) ∨ ∃ m ∈ ms, ∃ a, m.A = some a ∧ a.block = k
structure RfX (w : World) (r : Nat) (AL : Option Addr) (cL most : Nat) (ms : List ThM) : Prop where
 box : Bx w r #[.int .i64 most, .slice AL ms.length cL] 63
 row : w.ownsRow 0 60 4 (.slice AL ms.length cL) ms.length (ms.flatMap thV)
 each : ∀ m ∈ ms, zT w 0 (.slice m.A m.t.W.length m.c) m.t.W
 rl : ∀ a, AL = some a → a.block ≠ r
 rw_ : ∀ m ∈ ms, ∀ a, m.A = some a → a.block ≠ r ∧ ∀ b, AL = some b → a.block ≠ b.block
 ww : ms.Pairwise (fun m m' => ∀ a b, m.A = some a → m'.A = some b → a.block ≠ b.block)
 ats : ms.map ThM.at_ = adr 0 (things ms)
section
variable {w w' : World} {r : Nat} {AL : Option Addr} {cL most : Nat} {ms : List ThM}
theorem RfX.lt (H : RfX w r AL cL most ms) {k : Nat} (hk : Z6 r AL ms k) : k < w.heap.size := by
 rcases hk with rfl | ⟨a, h1, rfl⟩ | ⟨m, hm, a, h1, rfl⟩
 · exact H.box.lt
 · subst h1; exact (H.row.lt _ rfl).2
 · exact (QI (H.each m hm) h1).1
theorem RfX.aside (H : RfX w r AL cL most ms) (hb : ∀ k, Z6 r AL ms k → w'.heap[k]? = w.heap[k]?) : RfX w' r AL cL most ms := by
 obtain ⟨h1, h2, h3, h4, h5, h6, h7⟩ := H
 refine ⟨(hb r (.inl rfl)).trans h1, ze h2 (fun k hk => hb k ?_), fun m hm => ze (h3 m hm) (fun k hk => hb k ?_), h4, h5, h6, h7⟩
 · obtain ⟨a, q1, q2⟩ := zK hk
   exact .inr (.inl ⟨a, q1, q2⟩)
 · obtain ⟨a, q1, q2⟩ := zK hk
   exact .inr (.inr ⟨m, hm, a, q1, q2⟩)
theorem RfX.beside (H : RfX w r AL cL most ms) (hb : Below w.heap.size w w') : RfX w' r AL cL most ms := H.aside (fun k hk => hb.block k (H.lt hk))
theorem RfX.drew (H : RfX w r AL cL most ms) (q : Nat) : RfX (w.drewN q) r AL cL most ms := H.aside (fun _ _ => rfl)
theorem RfX.cells (H : RfX w r AL cL most ms) {p : List ThM} {m : ThM} {q : List ThM} (e : ms = p ++ m :: q) : ∃ b o, AL = some ⟨b, o, none⟩ ∧
 w.cell? ⟨b, o + p.length * 4, none⟩ = some (.int .i64 m.at_) ∧ w.cell? ⟨b, o + p.length * 4 + 1, none⟩ = some (.int .i64 (m.t.id : Int)) ∧ w.cell? ⟨b, o + p.length * 4 + 2, none⟩ = some (.slice m.A m.t.W.length m.c) ∧ w.cell? ⟨b, o + p.length * 4 + 3, none⟩ = some (.int .i64 m.t.s) := by
 subst e
 have hr : Rds w AL ((p ++ m :: q).flatMap thV) := Rds.own H.row
 obtain ⟨b, o, rfl, _, hc⟩ := Stru.Ql (f := thV) (n := 4) thV_len (by omega) hr (k := p.length) (by simp)
 have he : (p ++ m :: q)[p.length]'(by simp) = m := by simp
 rw [he] at hc
 exact ⟨b, o, rfl, hc 0 _ rfl, by rw [Nat.add_assoc]; exact hc 1 _ rfl, by rw [Nat.add_assoc]; exact hc 2 _ rfl, by rw [Nat.add_assoc]; exact hc 3 _ rfl⟩
theorem Kk (j : Nat) (h : j < ms.length) : (raw (things (ms.take (j + 1)))).length = (raw (things (ms.take j))).length + 1 + (ms[j]).t.W.length := by
 unfold things
 rw [List.take_succ_eq_append_getElem h, List.map_append, Q8, List.length_append]
 simp only [List.map_cons, List.map_nil, XM, Zd]
 omega
theorem raw_le (j : Nat) : (raw (things (ms.take j))).length ≤ (raw (things ms)).length := by
 have h : things ms = things (ms.take j) ++ things (ms.drop j) := by unfold things; rw [← List.map_append, List.take_append_drop]
 rw [h, Q8, List.length_append]
 omega
theorem rused_any (H : RfX w r AL cL most ms) (hb : (raw (things ms)).length ≤ 4096) (hn : ms.length ≤ 4096) :
 Calls Tryz.prog 91 #[.pointer (some ⟨r, 0, none⟩)] w fun e w' => e = .returned (.int .i64 ((raw (things ms)).length : Int)) ∧ w = w' := by
 have c1 := H.box.cell 1
 have HH := zH H
 clear H
 go_enter Tryz.func91, Tryz.ntmps91
 go_wp2
 go_loopw [3, 4] (fun s i wr => ∃ j : Nat, j ≤ ms.length ∧ i = .int .i64 j ∧ s = .int .i64 ((raw (things (ms.take j))).length : Int) ∧ w = wr) (fun _ i _ => ms.length - (intOf i).toNat)
 case atStart => exact ⟨0, Nat.zero_le _, rfl, rfl, rfl⟩
 case round =>
  obtain ⟨j, hj, rfl, rfl, rfl⟩ := hrel
  by_cases hlt : j < ms.length
  · have e : ms = ms.take j ++ ms[j] :: ms.drop (j + 1) := by rw [← List.drop_eq_getElem_cons hlt, List.take_append_drop]
    obtain ⟨b, o, rfl, _, _, k2, _⟩ := HH.out.cells e
    rw [List.length_take, Nat.min_eq_left (by omega)] at k2
    have hstep := Kk j hlt
    have hle := raw_le (ms := ms) (j + 1)
    have hj1 : (j : Int) < (ms.length : Int) := by omega
    have HS := zH hstep
    generalize ms[j] = m at *
    clear e
    generalize (raw (things (ms.take j))).length = P at *
    generalize m.t.W.length = L at *
    have hPL : P + 1 + L ≤ 4096 := by omega
    clear hstep hle
    go_wp2_with fail
    go_roundw
    case rel => exact ⟨j + 1, by omega, by go_num, by rw [HS.out]; go_num, trivial⟩
    case measure => simp [intOf]; omega
  · have hj1 : ¬ (j : Int) < (ms.length : Int) := by omega
    have ht : ms.take j = ms := List.take_of_length_le (by omega)
    rw [ht]
    go_wp2_with fail
    go_ret
    exact ⟨rfl, rfl⟩
theorem xk (H : RfX w r AL cL most ms) (hn : ms.length ≤ 4096) (x : Int) {i : Nat} (hi : i ≤ ms.length) (hno : ∀ m ∈ ms.take i, m.at_ ≠ x) (hyes : ∀ h : i < ms.length, ms[i].at_ = x) :
 Calls Tryz.prog 45 #[.pointer (some ⟨r, 0, none⟩), .int .i64 x] w fun e w' => e = .returned (.int .i64 (if i < ms.length then (i : Int) else -1)) ∧ w = w' := by
 have c1 := H.box.cell 1
 have HH := zH H
 have HN := zH hno
 have HY := zH hyes
 have HR1 : Hid (i < ms.length → (if i < ms.length then (i : Int) else -1) = (i : Int)) := zH (fun h => if_pos h)
 have HR2 : Hid (¬ i < ms.length → (if i < ms.length then (i : Int) else -1) = -1) := zH (fun h => if_neg h)
 generalize (if i < ms.length then (i : Int) else -1) = R at *
 clear H hno hyes
 go_enter Tryz.func45, Tryz.ntmps45
 go_wp2
 go_loopw [5] (fun s wr => ∃ j : Nat, j ≤ i ∧ s = .int .i64 j ∧ w = wr) (fun s _ => ms.length - (intOf s).toNat)
 case atStart => exact ⟨0, Nat.zero_le _, rfl, rfl⟩
 case round =>
  obtain ⟨j, hj, rfl, rfl⟩ := hrel
  by_cases hlt : j < ms.length
  · have e : ms = ms.take j ++ ms[j] :: ms.drop (j + 1) := by rw [← List.drop_eq_getElem_cons hlt, List.take_append_drop]
    obtain ⟨b, o, rfl, k0, _⟩ := HH.out.cells e
    rw [List.length_take, Nat.min_eq_left (by omega)] at k0
    have hj1 : (j : Int) < (ms.length : Int) := by omega
    by_cases hji : j = i
    · subst hji
      have hx : (ms[j].at_ == x) = true := by rw [HY.out hlt]; simp
      have hR := HR1.out hlt
      generalize ms[j] = m at *
      clear e
      subst hR
      go_wp2_with fail
      go_ret
      exact ⟨rfl, rfl⟩
    · have hx : (ms[j].at_ == x) = false := by
       rw [beq_eq_false_iff_ne]
       exact HN.out _ (List.mem_take_iff_getElem.2 ⟨j, by omega, rfl⟩)
      generalize ms[j] = m at *
      clear e
      go_wp2_with fail
      go_roundw
      case rel => exact ⟨j + 1, by omega, by go_num, trivial⟩
      case measure => simp [intOf]; omega
  · have hj1 : ¬ (j : Int) < (ms.length : Int) := by omega
    have hR := HR2.out (by omega)
    subst hR
    go_wp2_with fail
    go_ret
    exact ⟨rfl, rfl⟩
end
end HpR
end Go.Proofs.YtmkdhdmkdcankaaGreatDoor
