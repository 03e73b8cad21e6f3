/- pieces -/
import Derived.Test.YtmkdhdmkdcankaaGreatDoorK33
namespace Go.Proofs.YtmkdhdmkdcankaaGreatDoor
set_option maxRecDepth 100000
set_option maxHeartbeats 16000000
namespace HpJ
open Go.RowKit Base BinM HpM HpA HpS HpB HpG HpP HpT HpZ HpR HpQ HpE HpF HpI
section
variable {w w1 : World} {r : Nat} {AL : Option Addr} {cL most : Nat} {ms : List ThM}
theorem Zj.pre {F : Nat → Prop} {E : Int} {t : Th} {e : Ending} {w' : World} (hb : Below w.heap.size w w1) (h : Zj w1 F r most ms E t e w') : Zj w F r most ms E t e w' := by
 rcases h with ⟨h1, h2, h3⟩ | ⟨h1, h2, m, h3, AL', cL', h4, h5, h6⟩
 · exact .inl ⟨h1, h2, hb.trans (h3.mono hb.size)⟩
 · exact .inr ⟨h1, h2, m, h3, AL', cL', h4, (Turned.of_below hb).trans h5 (fun j h => .inl h), fun k hk => (h6 k hk).imp (fun h => h) (fun h => Nat.le_trans hb.size h)⟩
theorem made64 (k : Nat) : madeCells (Value.int .i64 0).cells k = Array.replicate k (Value.int .i64 0) := by
 unfold madeCells
 apply Array.ext_getElem?
 intro j
 by_cases h : j < k
 · simp [h, Value.cells, Nat.mod_one]
 · simp [h]
theorem VH (n : Nat) (hn : n ≤ 100000) (W : World) : (Instr.makeSlice 27 (.int .i64 (n : Int)) (.int .i64 (n : Int))).run Tryz.prog W = .ok (.slice (some ⟨W.heap.size, 0, none⟩) n n) (W.alloc (.cells (Array.replicate n (Value.int .i64 0)) 2)) := by
 obtain ⟨i0, hi, hz, hz1, hz2⟩ := info_parts Qv
 have h := run_makeSlice (P := Tryz.prog) W 27 2 i0 _ Tryz.underlying27 hi hz .i64 .i64 (n : Int) (n : Int) (by omega) (Int.le_refl _) (by rw [hz1]; simp; omega) (by rw [hz2]; omega) (by omega)
 rw [hz1, Int.toNat_natCast, Nat.mul_one, made64] at h
 exact h
theorem GL (H : RfX w r AL cL most ms) (hb : (raw (things ms)).length ≤ most) (hm : most ≤ 4096) (hn : ms.length ≤ 4000) (id size : Int) :
 Calls Tryz.prog 73 #[.pointer (some ⟨r, 0, none⟩), .int .i64 id, .int .i64 size] w (Zj w (Z6 r AL ms) r most ms (ZC most (raw (things ms)).length id size) ⟨id.toNat, List.replicate size.toNat 0, 0⟩) := by
 by_cases hbad : id < 0 ∨ 65535 < id ∨ size < 0 ∨ 4096 < size
 · have hE := zH (fun (_ : True) => show ZC most (raw (things ms)).length id size = 2 by
    unfold ZC Zr
    split
    · rfl
    · rw [if_pos (by omega)])
   clear H
   have hfin : Hid (Zj w (Z6 r AL ms) r most ms (ZC most (raw (things ms)).length id size) ⟨id.toNat, List.replicate size.toNat 0, 0⟩ (.returned (.tuple #[.int .i64 0, .int .i64 2])) w) := zH (.inl ⟨by rw [hE.out trivial]; omega, by rw [hE.out trivial], Below.refl _ _⟩)
   clear hE
   by_cases h1 : id < 0
   · go_enter Tryz.func73, Tryz.ntmps73
     go_wp2
     go_ret2
     exact hfin.out
   · by_cases h2 : 65535 < id
     · go_enter Tryz.func73, Tryz.ntmps73
       go_wp2
       go_ret2
       exact hfin.out
     · by_cases h3 : size < 0
       · go_enter Tryz.func73, Tryz.ntmps73
         go_wp2
         go_ret2
         exact hfin.out
       · have h4 : 4096 < size := by omega
         go_enter Tryz.func73, Tryz.ntmps73
         go_wp2
         go_ret2
         exact hfin.out
 · obtain ⟨n, rfl⟩ : ∃ n : Nat, size = (n : Int) := ⟨size.toNat, by omega⟩
   rw [Int.toNat_natCast]
   have h1 : ¬ id < 0 := by omega
   have h2 : ¬ 65535 < id := by omega
   have h4 : ¬ 4096 < (n : Int) := by omega
   have hal : Below w.heap.size w (w.alloc (.cells (Array.replicate n (Value.int .i64 0)) 2)) := (Below.refl _ _).alloc (Nat.le_refl _) _
   have hrd : Rds (w.alloc (.cells (Array.replicate n (Value.int .i64 0)) 2)) (some ⟨w.heap.size, 0, none⟩) ((List.replicate n (0 : Int)).map (Value.int .i64)) := by
    have h := qK w (Array.replicate n (Value.int .i64 0)) 2
    rw [List.map_replicate]
    simpa using h
   have HP := YJ (c := n) (H.beside hal) hb hm hn id (List.replicate n 0) hrd (by simp; omega)
   rw [List.length_replicate] at HP
   have hE : ZC most (raw (things ms)).length id (n : Int) = Zr most (raw (things ms)).length id (n : Int) := by unfold ZC; rw [if_neg (by omega)]
   rw [hE]
   have HP1 := zH (HP.mono (R' := Zj w (Z6 r AL ms) r most ms (Zr most (raw (things ms)).length id (n : Int)) ⟨id.toNat, List.replicate n 0, 0⟩) (fun e w' h => Zj.pre hal h))
   have hmk := VH n (by omega)
   clear H HP hE hal hrd hbad
   go_enter Tryz.func73, Tryz.ntmps73
   go_wp2_with fail
   refine HP1.out.mono ?_
   intro e w' h
   have H := zH h
   rcases h with ⟨_, rfl, _⟩ | ⟨_, rfl, _⟩
   all_goals
    go_wp2_with fail
    go_ret2
    exact H.out
theorem GV (H : RfX w r AL cL most ms) (hb : (raw (things ms)).length ≤ most) (hm : most ≤ 4096) (hn : ms.length ≤ 4000) (id k : Int) :
 Calls Tryz.prog 75 #[.pointer (some ⟨r, 0, none⟩), .int .i64 id, .int .i64 k] w (Zj w (Z6 r AL ms) r most ms (qP most (raw (things ms)).length id k) ⟨id.toNat, k :: List.replicate k.toNat 0, 0⟩) := by
 by_cases hbad : id < 0 ∨ 65535 < id ∨ k < 0 ∨ 4095 < k
 · have hE := zH (fun (_ : True) => show qP most (raw (things ms)).length id k = 2 by
    unfold qP Zr
    split
    · rfl
    · rw [if_pos (by omega)])
   clear H
   have hfin : Hid (Zj w (Z6 r AL ms) r most ms (qP most (raw (things ms)).length id k) ⟨id.toNat, k :: List.replicate k.toNat 0, 0⟩ (.returned (.tuple #[.int .i64 0, .int .i64 2])) w) := zH (.inl ⟨by rw [hE.out trivial]; omega, by rw [hE.out trivial], Below.refl _ _⟩)
   clear hE
   by_cases h1 : id < 0
   · go_enter Tryz.func75, Tryz.ntmps75
     go_wp2
     go_ret2
     exact hfin.out
   · by_cases h2 : 65535 < id
     · go_enter Tryz.func75, Tryz.ntmps75
       go_wp2
       go_ret2
       exact hfin.out
     · by_cases h3 : k < 0
       · go_enter Tryz.func75, Tryz.ntmps75
         go_wp2
         go_ret2
         exact hfin.out
       · have h4 : 4095 < k := by omega
         go_enter Tryz.func75, Tryz.ntmps75
         go_wp2
         go_ret2
         exact hfin.out
 · obtain ⟨n, rfl⟩ : ∃ n : Nat, k = (n : Int) := ⟨k.toNat, by omega⟩
   rw [Int.toNat_natCast]
   have h1 : ¬ id < 0 := by omega
   have h2 : ¬ 65535 < id := by omega
   have h4 : ¬ 4095 < (n : Int) := by omega
   have hmk : (Instr.makeSlice 27 (.int .i64 ((n : Int) + 1)) (.int .i64 ((n : Int) + 1))).run Tryz.prog w = .ok (.slice (some ⟨w.heap.size, 0, none⟩) (n + 1) (n + 1)) (w.alloc (.cells (Array.replicate (n + 1) (Value.int .i64 0)) 2)) := VH (n + 1) (by omega) w
   have X := Bx.new w (Array.replicate (n + 1) (Value.int .i64 0)) 2
   have hx0 : (w.alloc (.cells (Array.replicate (n + 1) (Value.int .i64 0)) 2)).cell? ⟨w.heap.size, 0, none⟩ = some (.int .i64 0) := by rw [X.cell]; simp
   have hxf := X.free 0
   have hal : Below w.heap.size w (w.alloc (.cells ((Array.replicate (n + 1) (Value.int .i64 0)).setIfInBounds 0 (.int .i64 (n : Int))) 2)) := (Below.refl _ _).alloc (Nat.le_refl _) _
   have hrd : Rds (w.alloc (.cells ((Array.replicate (n + 1) (Value.int .i64 0)).setIfInBounds 0 (.int .i64 (n : Int))) 2)) (some ⟨w.heap.size, 0, none⟩) (((n : Int) :: List.replicate n (0 : Int)).map (Value.int .i64)) := by
    have h := qK w ((Array.replicate (n + 1) (Value.int .i64 0)).setIfInBounds 0 (.int .i64 (n : Int))) 2
    rw [Array.toList_setIfInBounds, Array.toList_replicate, List.replicate_succ, List.set_cons_zero] at h
    rw [List.map_cons, List.map_replicate]
    exact h
   have HP := YJ (c := n + 1) (H.beside hal) hb hm hn id ((n : Int) :: List.replicate n 0) hrd (by simp; omega)
   rw [List.length_cons, List.length_replicate] at HP
   have hE : qP most (raw (things ms)).length id (n : Int) = Zr most (raw (things ms)).length id ((n + 1 : Nat) : Int) := by unfold qP; rw [if_neg (by omega)]; congr 1; omega
   rw [hE]
   have HP1 := zH (HP.mono (R' := Zj w (Z6 r AL ms) r most ms (Zr most (raw (things ms)).length id ((n + 1 : Nat) : Int)) ⟨id.toNat, (n : Int) :: List.replicate n 0, 0⟩) (fun e w' h => Zj.pre hal h))
   clear H HP hE hal hrd hbad X
   generalize hEE : Zr most (raw (things ms)).length id ((n + 1 : Nat) : Int) = E at *
   clear hEE
   go_enter Tryz.func75, Tryz.ntmps75
   go_wp2_with fail
   refine HP1.out.mono ?_
   intro e w' h
   have H := zH h
   rcases h with ⟨_, rfl, _⟩ | ⟨_, rfl, _⟩
   all_goals
    go_wp2_with fail
    go_ret2
    exact H.out
end
end HpJ
namespace ClC
open Go.RowKit Base BinM HpM HpA HpB HpG HpT ClM LnkC ClA ClB
structure Row (w wr : World) (n k : Nat) (all : List Int) (l : List Int) : Prop where
 row : zT wr w.heap.size (.slice (some ⟨w.heap.size, 0, none⟩) n n) l
 len : l.length = n
 done : l.take k = all.take k
 bel : Below w.heap.size w wr
theorem Row.start (w : World) (n : Nat) (hn : n ≤ 100000) (all : List Int) : Row w (w.alloc (.cells (Array.replicate n (Value.int .i64 0)) 2)) n 0 all (List.replicate n 0) :=
 ⟨⟨by simp, .inr ⟨w.heap.size, n, _, by simp, Nat.le_refl _, heap_alloc_new w _, by simp, by unfold maxLen; omega, by simp, by simp⟩⟩, by simp, by simp, (Below.refl _ _).alloc (Nat.le_refl _) _⟩
theorem Row.drew {w wr : World} {n k : Nat} {all l : List Int} (h : Row w wr n k all l) (q : Nat) : Row w (wr.drewN q) n k all l :=
 ⟨ze h.row (fun _ _ => rfl), h.len, h.done, h.bel.trans ((HpE.zf wr q).mono h.bel.size)⟩
theorem Row.put {w wr : World} {n k : Nat} {all l : List Int} (h : Row w wr n k all l) (hk : k < n) (ha : all.length = n) {x : Int} (hx : x = all[k]) : Row w (wr.setCell ⟨w.heap.size, k, none⟩ (.int .i64 x)) n (k + 1) all (l.set k x) := by
 have hl := h.len
 refine ⟨?_, by simp [hl], ?_, h.bel.setCell (p := ⟨w.heap.size, k, none⟩) (Nat.le_refl _) _⟩
 · have h1 := h.row
   rw [← hl] at h1
   have h2 := HpF.uQ h1 k x
   rw [List.length_set, hl] at h2
   rw [← hl] at h2 ⊢
   exact h2
 · subst hx
   rw [List.take_succ_eq_append_getElem (by simp; omega), List.take_succ_eq_append_getElem (by omega), List.getElem_set_self, List.take_set_of_le (Nat.le_refl _), h.done]
theorem Row.cell {w wr : World} {n k : Nat} {all l : List Int} (h : Row w wr n k all l) {j : Nat} (hj : j < n) : ∃ u, wr.cell? ⟨w.heap.size, j, none⟩ = some u := by
 have hl := h.len
 exact ⟨_, Zq h.row (List.getElem?_eq_getElem (by omega : j < l.length))⟩
theorem Row.fin {w wr : World} {n : Nat} {all l : List Int} (h : Row w wr n n all l) (ha : all.length = n) : zT wr w.heap.size (.slice (some ⟨w.heap.size, 0, none⟩) n n) all := by
 have h1 := h.done
 rw [List.take_of_length_le (by rw [h.len]; exact Nat.le_refl _), List.take_of_length_le (by omega)] at h1
 rw [← h1]
 exact h.row
section
variable {w : World} {hg mp : Nat} {Aw : Option Addr} {cw : Nat} {Aa : Option Addr} {ca most : Nat} {kk : Nat} {F : Int → Option Int}
theorem yt {p : List Th} {t : Th} {r : List Th} (H : HpX w hg mp Aw cw Aa ca most (raw (p ++ t :: r)) (adr 0 (p ++ t :: r)) kk F) (Ft : Fits most (p ++ t :: r)) {A : Option Addr} {c : Nat} {ps : List Nat} (R : Rds w A ((ps.map (fun (k : Nat) => (k : Int))).map (Value.int .i64))) (hp : ∀ k ∈ ps, k < t.W.length) (hpl : ps.length ≤ 100000) :
 Calls Tryz.prog 44 #[.pointer (some ⟨hg, 0, none⟩), .int .i64 (((raw p).length + 1 : Nat) : Int), .slice A ps.length c] w fun e w' => e = .returned (.slice (some ⟨w.heap.size, 0, none⟩) ps.length ps.length) ∧ zT w' w.heap.size (.slice (some ⟨w.heap.size, 0, none⟩) ps.length ps.length) (zB t ps) ∧ Below w.heap.size w w' := by
 have hmk := HpJ.VH ps.length hpl
 have R0 := zH (Row.start w ps.length hpl (zB t ps))
 have hwl : (zB t ps).length = ps.length := by simp [zB]
 have HG := zH (fun wr (hb : Below w.heap.size w wr) i => zi6 (H.beside hb) Ft i)
 have HR := zH R
 have HP := zH hp
 have HWl := zH hwl
 clear H Ft R hp hwl
 generalize (((raw p).length + 1 : Nat) : Int) = P at *
 go_enter Tryz.func44, Tryz.ntmps44
 go_wp2_with fail
 clear hmk
 go_loopw [15] (fun i wr => ∃ (k : Nat) (l : List Int), k ≤ ps.length ∧ i = .int .i64 (k : Int) ∧ Row w wr ps.length k (zB t ps) l) (fun i _ => ps.length - (intOf i).toNat)
 case atStart => exact ⟨0, _, Nat.zero_le _, rfl, R0.out⟩
 case round =>
  obtain ⟨k, l, hk, rfl, hrow⟩ := hrel
  have HRw := zH hrow
  by_cases hlt : k < ps.length
  · obtain ⟨b, oo, hA, hb1, hc0⟩ := (HR.out.below hrow.bel).at_ (k := k) (by simpa using hlt)
    rw [List.getElem_map, List.getElem_map] at hc0
    subst hA
    have hpk := HP.out _ (List.getElem_mem hlt)
    have hval : (zB t ps)[k]'(by rw [HWl.out]; exact hlt) = t.W.getD ps[k] 0 := by unfold zB; rw [List.getElem_map]
    have hge : (qD t.W (ps[k] : Int)).1 = (zB t ps)[k]'(by rw [HWl.out]; exact hlt) := by
     rw [hval]; unfold qD; rw [if_pos (by omega), Int.toNat_natCast]
    have HGk : Hid (∀ wr, Below w.heap.size w wr → Calls Tryz.prog 29 #[.pointer (some ⟨hg, 0, none⟩), .int .i64 P, .int .i64 (ps[k] : Int)] wr fun e w' => ∃ z : Int, e = .returned (.tuple #[.int .i64 (qD t.W (ps[k] : Int)).1, .int .i64 z]) ∧ ∃ q, w' = wr.drewN q) := zH (fun wr hb => (HG.out wr hb (ps[k] : Int)).mono (fun e w' ⟨h1, h2⟩ => ⟨_, h1, h2⟩))
    have Hge := zH hge
    have HCell : Hid (∀ q, (∃ u, (wr.drewN q).cell? ⟨w.heap.size, k, none⟩ = some u) ∧ (wr.drewN q).frozen? ⟨w.heap.size, k, none⟩ = false ∧ w.heap.size < (wr.drewN q).heap.size) := zH (fun q => ⟨(hrow.drew q).cell hlt, Qk (hrow.drew q).row k, ((hrow.drew q).row.lt _ rfl).2⟩)
    clear hrow hval hge hpk
    generalize ps[k] = pk at *
    generalize (qD t.W (pk : Int)).1 = x at *
    go_wp2_with (go_at_call 29; refine (HGk.out _ HRw.out.bel).mono ?_; rintro e w' ⟨z, rfl, q, rfl⟩; obtain ⟨⟨u, z1⟩, z2, z3⟩ := HCell.out q)
    go_roundw
    case rel => exact ⟨k + 1, l.set k x, by omega, by go_num, (HRw.out.drew q).put hlt HWl.out Hge.out⟩
    case measure => simp [intOf]; omega
  · have hkn : k = ps.length := by omega
    subst hkn
    clear hrow
    go_wp2_with fail
    go_ret
    exact ⟨rfl, HRw.out.fin HWl.out, HRw.out.bel⟩
end
def Yr (w : World) (res : Int × List Int) (e : Ending) (w' : World) : Prop :=
 ∃ A c, e = .returned (.tuple #[.slice A res.2.length c, .int .i64 res.1]) ∧ Rds w' A (res.2.map (Value.int .i64)) ∧ Below w.heap.size w w' ∧ ∀ a, A = some a → w.heap.size ≤ a.block
theorem Xp {ts : List Th} {k i : Nat} {out : List Int} (hi : i < out.length) {t : Th} (ht : Zp ts out[i] = some t) : zP ts (k + 1) i out = match Zh t with | none => (5, []) | some ps => (match come (adr 0 ts) out (zB t ps) with | none => (3, []) | some o => zP ts k (i + 1) o) := by
 rw [zP, List.getElem?_eq_getElem hi]
 simp only [ht]
 cases Zh t with
 | none => rfl
 | some ps =>
   simp only
   cases come (adr 0 ts) out (zB t ps) <;> rfl
theorem uK {ts : List Th} {k i : Nat} {out : List Int} (hi : out.length ≤ i) : zP ts k i out = (0, out) := by
 cases k with
 | zero => rfl
 | succ k => rw [zP, List.getElem?_eq_none hi]
theorem qL {w : World} {A : Option Addr} {xs : List Value} (h : Rds w A xs) (hne : xs ≠ []) {a : Addr} (ha : A = some a) : a.block < w.heap.size := by
 rcases h with h | ⟨b, o, rfl, hb, _⟩
 · exact absurd h hne
 · injection ha with ha; subst ha; exact hb
section
open HierS HierT LnkS Kls TabP TabB
variable {lo : Nat} {w : World} {p y t g mb n : Nat} {A : Option Addr} {c : Nat} {h : Hr} {L : List za} {f : T → Option zO} {ns : List T}
 {hg mp : Nat} {Aw : Option Addr} {cw : Nat} {Aa : Option Addr} {ca most : Nat} {kk : Nat} {F : Int → Option Int}
theorem xH {ts : List Th} (P : Pg lo w p y t g mb n A c h L f ns) (hsp : ∀ i : Nat, ZF h L (LnkA.zG ns (i : Int)) = shp i) (H : HpX w hg mp Aw cw Aa ca most (raw ts) (adr 0 ts) kk F) (Ft : Fits most ts) (hts : ts.length ≤ 5000)
 {Ar : Option Addr} {cr : Nat} {roots : List Int} (R : Rds w Ar (roots.map (Value.int .i64))) (hrl : roots.length ≤ 100000) (hfr : ∀ x ∈ roots, zo x) :
 Calls Tryz.prog 10 #[.pointer (some ⟨hg, 0, none⟩), .pointer (some ⟨p, 0, none⟩), .slice Ar roots.length cr] w (Yr w (zn ts roots)) := by
 have hb2 : Below w.heap.size w ((w.alloc (.map #[] 0)).alloc (.cells #[.pointer (some ⟨hg, 0, none⟩), .slice none 0 0, .map (some w.heap.size)] 97)) := ((Below.refl _ _).alloc (Nat.le_refl _) _).alloc (by simp) _
 have hs1 : (w.alloc (.map #[] 0)).heap.size = w.heap.size + 1 := by simp
 have hrc : Rc w ((w.alloc (.map #[] 0)).alloc (.cells #[.pointer (some ⟨hg, 0, none⟩), .slice none 0 0, .map (some w.heap.size)] 97)) (w.heap.size + 1) hg w.heap.size none 0 [] [] := by
  have hbx := Bx.new (w.alloc (.map #[] 0)) #[.pointer (some ⟨hg, 0, none⟩), .slice none 0 0, .map (some w.heap.size)] 97
  rw [hs1] at hbx
  exact ⟨hbx, World.ownsRow_nil _ _ _ _, (y9.new w).block (((Below.refl _ _).alloc (Nat.le_refl _) _).block _ (by rw [hs1]; omega)), by omega, Nat.le_refl _, hb2⟩
 have HC := zH (gW H Ft (r := w.heap.size + 1) (out := []) (cx := cr) (xs := roots) (Ax := Ar) ⟨w.heap.size, none, 0, [], hrc, fun _ => Iff.rfl, rfl, R.below hb2, fun a ha hne => by
  have hlt := qL R (by simpa using hne) ha
  refine ⟨Nat.lt_of_lt_of_le hlt hb2.size, ?_⟩
  rintro (h | h | ⟨b, h, _⟩)
  · omega
  · omega
  · cases h⟩ (ClM.Good.nil _) hts hrl hfr)
 have HR := zH (fun wr (hb : Below w.heap.size w wr) x => Ka (P.ext hb) hsp (H.beside hb) Ft x)
 have HH := zH (fun wr (hb : Below w.heap.size w wr) => H.beside hb)
 have HP := zH Ft
 have HA := zH (qd ts 0)
 have hmm := @run_makeMap Tryz.prog
 clear P H hrc hb2 hs1 R hfr hsp
 have HQ := zH (show zn ts roots = match come (adr 0 ts) [] roots with | none => (3, []) | some o => zP ts (ts.length + 1) 0 o from rfl)
 go_enter Tryz.func10, Tryz.ntmps10
 go_wp2_with fail
 clear hmm
 refine HC.out.mono ?_
 rintro e w3 (⟨hn, rfl, hb3⟩ | ⟨o1, ho1, rfl, hE1⟩)
 · have HE := zH (show zn ts roots = (3, []) by rw [HQ.out, hn])
   have HB3 := zH hb3
   clear hn hb3
   go_wp2_with fail
   go_ret2
   exact ⟨none, 0, by rw [HE.out]; rfl, by rw [HE.out]; exact .inl rfl, HB3.out, fun a ha => by cases ha⟩
 · have HE := zH (show zn ts roots = zP ts (ts.length + 1) 0 o1 by rw [HQ.out, ho1])
   have HG1 := zH (qN (ClM.Good.nil _) ho1).1
   have HE1 := zH hE1
   clear ho1 hE1
   go_wp2_with fail
   go_loopw [10] (fun i wr => ∃ (k : Nat) (o : List Int), k ≤ o.length ∧ i = .int .i64 (k : Int) ∧ ClM.Good (adr 0 ts) o ∧ RcE w wr (w.heap.size + 1) hg o ∧ zP ts (ts.length + 1 - k) k o = zn ts roots) (fun i _ => ts.length + 1 - (intOf i).toNat)
   case atStart => exact ⟨0, o1, Nat.zero_le _, rfl, HG1.out, HE1.out, HE.out.symm⟩
   case round =>
    obtain ⟨k, o, hk, rfl, hgo, hrc, hre⟩ := hrel
    obtain ⟨mb1, A1, c1, l1, hR1, hl1, hll1⟩ := hrc
    have hol := hgo.len
    rw [HA.out] at hol
    have HGo := zH hgo
    have HRe := zH hre
    have HR1 := zH hR1
    have HL1 := zH hl1
    have HLL1 := zH hll1
    have q1 : wr.cell? ⟨w.heap.size + 1, 1, none⟩ = some (.slice A1 o.length c1) := hR1.box.cell 1
    have hwl := hR1.box.lt
    by_cases hlt : k < o.length
    · obtain ⟨b1, hb1, hb1l⟩ := qH hR1.row (by omega)
      subst hb1
      have hc0 : wr.cell? ⟨b1, k, none⟩ = some (.int .i64 o[k]) := Zq hR1.row (List.getElem?_eq_getElem hlt)
      obtain ⟨pp, th, rr, hts2, hx⟩ := Za (hgo.sub _ (List.getElem_mem hlt))
      rw [Nat.zero_add] at hx
      have hth : Zp ts o[k] = some th := by rw [hts2, hx]; exact Zl pp th rr
      have hks : ts.length + 1 - k = (ts.length - k) + 1 := by omega
      have hstep := Xp (k := ts.length - k) hlt hth
      rw [← hks, hre] at hstep
      have HX := zH hx
      have hRx : Qq ts o[k] = match Zh th with | none => (5, []) | some ps => (0, ps.map (fun (k : Nat) => (k : Int))) := by unfold Qq; simp only [hth]; cases Zh th <;> rfl
      have HBl := zH hR1.bel
      cases hq : Zh th with
      | none =>
        have HRf := HR.out wr HBl.out o[k]
        rw [hRx, hq] at HRf
        rw [hq] at hstep
        have HRf1 := zH HRf
        have HEn := zH (show zn ts roots = (5, []) from hstep)
        clear hgo hre hR1 hl1 hll1 hstep hRx HRf hx hth hks
        generalize o[k] = x at *
        go_wp2_with (go_at_call 16; refine HRf1.out.mono ?_; rintro e w4 ⟨A2, c2, rfl, hr4, hc4, hb4, _⟩; have HB4 := zH (HBl.out.trans (hb4.mono HBl.out.size)); clear hr4 hb4)
        go_ret2
        exact ⟨none, 0, by rw [HEn.out]; rfl, by rw [HEn.out]; exact .inl rfl, HB4.out, fun a ha => by cases ha⟩
      | some ps =>
        have HRf := HR.out wr HBl.out o[k]
        rw [hRx, hq] at HRf
        rw [hq] at hstep
        replace hstep : zn ts roots = (match come (adr 0 ts) o (zB th ps) with | none => (3, []) | some o' => zP ts (ts.length - k) (k + 1) o') := hstep
        have HRf1 := zH HRf
        have hwm : th ∈ ts := by rw [hts2]; simp
        have hwl2 : th.W.length ≤ 4096 := by
         have h1 := Z7 pp th rr
         have h2 := HP.out.len
         have h3 := HP.out.top
         rw [hts2] at h2
         omega
        have hpl := QX hq
        have HW : Hid (∀ w4, Below w.heap.size w w4 → ∀ A2 c2, Rds w4 A2 ((ps.map (fun (k : Nat) => (k : Int))).map (Value.int .i64)) → Calls Tryz.prog 44 #[.pointer (some ⟨hg, 0, none⟩), .int .i64 o[k], .slice A2 ps.length c2] w4 fun e w' => e = .returned (.slice (some ⟨w4.heap.size, 0, none⟩) ps.length ps.length) ∧ zT w' w4.heap.size (.slice (some ⟨w4.heap.size, 0, none⟩) ps.length ps.length) (zB th ps) ∧ Below w4.heap.size w4 w') := zH (fun w4 hb A2 c2 hr => by
         rw [hx]
         have h1 := HH.out w4 hb
         have h2 := HP.out
         rw [hts2] at h1 h2
         exact yt h1 h2 hr (Qj hq) (by omega))
        have hwlen : (zB th ps).length = ps.length := by simp [zB]
        have hwfit : ∀ z ∈ zB th ps, zo z := by
         intro z hz
         obtain ⟨k', hk', rfl⟩ := List.mem_map.1 hz
         have := Qj hq k' hk'
         rw [List.getD_eq_getElem?_getD, List.getElem?_eq_getElem this]
         exact HP.out.fit th hwm _ (List.getElem_mem this)
        have HCm : Hid (∀ w4 w5, Below wr.heap.size wr w4 → zT w5 w4.heap.size (.slice (some ⟨w4.heap.size, 0, none⟩) ps.length ps.length) (zB th ps) → Below w4.heap.size w4 w5 → Calls Tryz.prog 43 #[.pointer (some ⟨w.heap.size + 1, 0, none⟩), .slice (some ⟨w4.heap.size, 0, none⟩) ps.length ps.length] w5 (Vq w (w.heap.size + 1) hg (come (adr 0 ts) o (zB th ps)))) := zH (fun w4 w5 h4 ho h5 => by
         have hR4 := HR1.out.beside h4
         have hR5 := hR4.beside h5
         have ho' : zT w5 w4.heap.size (.slice (some ⟨w4.heap.size, 0, none⟩) (zB th ps).length ps.length) (zB th ps) := by rw [hwlen]; exact ho
         have := gW (HH.out w (Below.refl _ _)) HP.out (r := w.heap.size + 1) (out := o) (cx := ps.length) (xs := zB th ps) (Ax := some ⟨w4.heap.size, 0, none⟩) ⟨mb1, _, c1, l1, hR5, HL1.out, HLL1.out, Qz ho', fun a ha _ => by
          injection ha with ha
          subst ha
          refine ⟨(ho.lt _ rfl).2, fun hon => ?_⟩
          have := (hR4.lt hon).1
          exact Nat.lt_irrefl _ this⟩ HGo.out hts (by rw [hwlen]; omega) hwfit
         rw [hwlen] at this
         exact this)
        have HWl := zH hwlen
        clear hgo hre hR1 hl1 hll1 hRx HRf hx hth hks hwfit hwlen
        generalize o[k] = x at *
        cases hcm : come (adr 0 ts) o (zB th ps) with
        | none =>
          rw [hcm] at hstep
          have HEn := zH (show zn ts roots = (3, []) from hstep)
          rw [hcm] at HCm
          clear hstep hcm
          go_wp2_with (first
           | (go_at_call 16; refine HRf1.out.mono ?_; rintro e w4 ⟨A2, c2, rfl, hr4, hc4, hb4, _⟩; have HB4 := zH (HBl.out.trans (hb4.mono HBl.out.size)); have HR4 := zH hr4; have Hb4 := zH hb4; clear hr4 hb4 hc4; simp only [List.length_map])
           | (go_at_call 44; refine (HW.out w4 HB4.out A2 c2 HR4.out).mono ?_; rintro e w5 ⟨rfl, ho5, hb5⟩; have HC5 := zH (HCm.out w4 w5 Hb4.out ho5 hb5); clear ho5 hb5)
           | (go_at_call 43; refine HC5.out.mono ?_; rintro e w6 (⟨_, rfl, hb6⟩ | ⟨o3, ho3, rfl, hE3⟩); rotate_left; (cases ho3); have HB6 := zH hb6; clear hb6))
          go_ret2
          exact ⟨none, 0, by rw [HEn.out]; rfl, by rw [HEn.out]; exact .inl rfl, HB6.out, fun a ha => by cases ha⟩
        | some o2 =>
          rw [hcm] at hstep
          have HG2 := zH (qN HGo.out hcm)
          have HEn := zH (show zP ts (ts.length - k) (k + 1) o2 = zn ts roots from hstep.symm)
          rw [hcm] at HCm
          clear hstep hcm
          go_wp2_with (first
           | (go_at_call 16; refine HRf1.out.mono ?_; rintro e w4 ⟨A2, c2, rfl, hr4, hc4, hb4, _⟩; have HB4 := zH (HBl.out.trans (hb4.mono HBl.out.size)); have HR4 := zH hr4; have Hb4 := zH hb4; clear hr4 hb4 hc4; simp only [List.length_map])
           | (go_at_call 44; refine (HW.out w4 HB4.out A2 c2 HR4.out).mono ?_; rintro e w5 ⟨rfl, ho5, hb5⟩; have HC5 := zH (HCm.out w4 w5 Hb4.out ho5 hb5); clear ho5 hb5)
           | (go_at_call 43; refine HC5.out.mono ?_; rintro e w6 (⟨hn3, _⟩ | ⟨o3, ho3, rfl, hE3⟩); (cases hn3); have Ho3 := zH ho3; have HE3 := zH hE3; clear ho3 hE3))
          go_roundw
          case rel => exact ⟨k + 1, o2, by have := HG2.out.2.length_le; omega, by go_num, HG2.out.1, by have := Ho3.out; injection this with this; rw [this]; exact HE3.out, by rw [show ts.length + 1 - (k + 1) = ts.length - k by omega]; exact HEn.out⟩
          case measure => simp [intOf]; omega
    · have HEn := zH (show zn ts roots = (0, o) by rw [← HRe.out, uK (by omega)])
      have HRd := zH (Qz hR1.row)
      have HBl := zH hR1.bel
      have HOw := zH (fun a ha => (QI hR1.row (a := a) ha).2)
      clear hgo hre hR1 hl1 hll1
      go_wp2_with fail
      go_ret2
      exact ⟨A1, c1, by rw [HEn.out]; rfl, by rw [HEn.out]; exact HRd.out, HBl.out, HOw.out⟩
end
end ClC
end Go.Proofs.YtmkdhdmkdcankaaGreatDoor
