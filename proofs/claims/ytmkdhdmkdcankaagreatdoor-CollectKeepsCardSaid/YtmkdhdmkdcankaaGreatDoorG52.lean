/-
  What Run leaves: the copies, and each call on the two heaps.
-/
import Derived.Test.YtmkdhdmkdcankaaGreatDoorRows
import Derived.Test.YtmkdhdmkdcankaaGreatDoorG1
import Derived.Test.YtmkdhdmkdcankaaGreatDoorG17
import Derived.ProofKit
import Derived.SizedLaws
import Derived.SliceStrings
import Derived.Test.YtmkdhdmkdcankaaGreatDoorG48
import Derived.Test.YtmkdhdmkdcankaaGreatDoorG50
namespace Go.Proofs.YtmkdhdmkdcankaaGreatDoor
namespace Opened
open Go.RowKit Go.ChangeShapes Base

def Places {H : Type} (d : DataW H) (c : Nat) : Prop := (d = .nil ∧ c = 0) ∨ ∃ el sp, d = .slice el sp ∧ el.length + sp.length = c

section
variable {H : Type} {enc : TypeId × Value → H} {P : Program} {w : World}
theorem rds_of_cells {x : Addr} {f : Nat → Value} {n : Nat} {xs : List Value} (hx : xs.length ≤ n) (h : ∀ i, i < n → w.cell? (x.add i) = some (f i)) (hf : ∀ i (hi : i < xs.length), xs[i] = f i) : Rds w (some x) xs := by
  rcases Nat.eq_zero_or_pos xs.length with h0 | h0
  · exact .inl (List.eq_nil_of_length_eq_zero h0)
  · obtain ⟨b, o, spot⟩ := x
    have hc := h 0 (by omega)
    have hs : spot = none := by simpa [Addr.add] using World.cell?_spot hc
    subst hs
    have hc' : w.cell? ⟨b, o, none⟩ = some (f 0) := by simpa [Addr.add] using hc
    refine .inr ⟨b, o, rfl, World.block_lt_of_cell? w ⟨b, o, none⟩ hc', fun j u hu => ?_⟩
    obtain ⟨hj, rfl⟩ := List.getElem?_eq_some_iff.1 hu
    have := h j (by omega)
    rw [Addr.add_mid] at this
    rw [this, hf j hj]

theorem open_nums {t e : TypeId} {fuel : Nat} {A : Option Addr} {m c : Nat} {d : DataW H} {p : List MemPlace} (ht : P.underlying t = some (.slice e)) (he : P.underlying e = some (.int .i64)) (hc : P.cellsOf e = 1)
    (h : DataW.trod enc P w 0 (fun _ => true) true fuel t (Value.slice A m c).cells.toList = some (d, p)) :
    ∃ l, IsInts w A m c l ∧ Places d c := by
  rcases open_ints ht he hc h with ⟨hcs, hd⟩ | ⟨x, len, cap, zs, hcs, _, hl, hm, hz, hd, hcell, hwf⟩
  · simp [Value.cells] at hcs
    obtain ⟨rfl, rfl, rfl⟩ := hcs
    injection hd with hd
    exact ⟨[], ⟨rfl, Nat.le_refl _, by simp [maxLen], .inl rfl, by simp⟩, .inl ⟨hd, rfl⟩⟩
  · simp [Value.cells] at hcs
    obtain ⟨rfl, rfl, rfl⟩ := hcs
    injection hd with hd
    simp only [if_true] at hz
    refine ⟨zs.take m, ⟨by simp; omega, hl, hm, ?_, fun x hx => ?_⟩, .inr ⟨_, _, hd, by simp [lits]; omega⟩⟩
    · refine rds_of_cells (n := zs.length) (f := fun i => .int .i64 (zs.getD i 0)) (by simp; omega) hcell (fun i hi => ?_)
      have hi' : i < zs.length := by simp at hi; omega
      simp only [List.getElem_map, List.getElem_take]
      rw [List.getD_eq_getElem?_getD, List.getElem?_eq_getElem hi', Option.getD_some]
    · have := hwf x (List.mem_of_mem_take hx)
      simp [Lit.wf, IntKind.min, IntKind.max, IntKind.bits, IntKind.signed] at this
      omega

theorem reach_slice {ts : List TypeId} {ds : List (DataW H)} (h : (DataW.weightsEach P ts ds).all (· ≤ reachBytes) = true) {j : Nat} {t e : TypeId} {d : DataW H} {c : Nat} (ht : ts[j]? = some t) (hd : ds[j]? = some d)
    (hp : Places d c) (hu : P.underlying t = some (.slice e)) {k : Nat} (hk : P.bytesOf e = k) : c * k ≤ 140737488351232 := by
  rcases hp with ⟨_, rfl⟩ | ⟨el, sp, rfl, rfl⟩
  · simp
  · have := sized_slice h ht hd hu
    rw [hk] at this
    simpa [reachBytes] using this


end
end Opened
namespace OpenG
open Go.RowKit Go.ChangeShapes Go.WideShapes Go.Deep Base Stru Opened OpenS
section
variable {H : Type} {P : Program}
theorem Light.of_each {ts : List TypeId} {ds : List (DataW H)} (h : (DataW.weightsEach P ts ds).all (· ≤ reachBytes) = true) {j : Nat} {t : TypeId} {d : DataW H} (ht : ts[j]? = some t) (hd : ds[j]? = some d) : Light P t d :=
  fun q hq => of_decide_eq_true (List.all_eq_true.1 h _ (DataW.weights_mem_each ht hd q hq))
end
end OpenG
end Go.Proofs.YtmkdhdmkdcankaaGreatDoor

namespace Go.Proofs.YtmkdhdmkdcankaaGreatDoor
namespace ClH
open Go.RowKit Base BinM HpM HpA HpB HpS HpG HpP HpT HpZ HpR HpQ HpW LnkC ClM ClX ClY ClZ ClI ClJ ClA ClC ClL ClS ClU ClV ClP ClG

section
variable {w : World} {g mb : Nat} {Aw : Option Addr} {cw : Nat} {Aa : Option Addr} {ca most n : Nat} {f : Int → Option Int} {ts : List Th}
theorem thAt_split {x : Int} {t : Th} (h : thAt ts x = some t) : ∃ p r, ts = p ++ t :: r ∧ x = (((raw p).length + 1 : Nat) : Int) := by
  by_cases hx : x ∈ adr 0 ts
  · obtain ⟨p, t', r, rfl, rfl⟩ := adr_split hx
    rw [Nat.zero_add] at h ⊢
    rw [thAt_mid] at h
    injection h with h
    subst h
    exact ⟨p, r, rfl, rfl⟩
  · rw [thAt_none hx] at h; cases h
theorem type_at (H : HpX w g mb Aw cw Aa ca most (raw ts) (adr 0 ts) n f) (F : Fits most ts) {x : Int} {t : Th} (h : thAt ts x = some t) :
    Calls Tryz.prog 27 #[.pointer (some ⟨g, 0, none⟩), .int .i64 x] w fun e w' => e = .returned (.tuple #[.int .i64 (t.id : Int), .int .i64 0]) ∧ Below w.heap.size w w' := by
  obtain ⟨p, r, rfl, rfl⟩ := thAt_split h
  exact (type_yes H F).mono fun e w' ⟨h1, q, h2⟩ => ⟨h1, by rw [h2]; exact HpE.drewN_below w q⟩
theorem size_at (H : HpX w g mb Aw cw Aa ca most (raw ts) (adr 0 ts) n f) (F : Fits most ts) {x : Int} {t : Th} (h : thAt ts x = some t) :
    Calls Tryz.prog 28 #[.pointer (some ⟨g, 0, none⟩), .int .i64 x] w fun e w' => e = .returned (.tuple #[.int .i64 (t.W.length : Int), .int .i64 0]) ∧ Below w.heap.size w w' := by
  obtain ⟨p, r, rfl, rfl⟩ := thAt_split h
  exact (size_yes H F).mono fun e w' ⟨h1, q, h2⟩ => ⟨h1, by rw [h2]; exact HpE.drewN_below w q⟩
theorem get_at (H : HpX w g mb Aw cw Aa ca most (raw ts) (adr 0 ts) n f) (F : Fits most ts) {x : Int} {t : Th} (h : thAt ts x = some t) {j : Nat} (hj : j < t.W.length) :
    Calls Tryz.prog 29 #[.pointer (some ⟨g, 0, none⟩), .int .i64 x, .int .i64 (j : Int)] w fun e w' => e = .returned (.tuple #[.int .i64 (t.W.getD j 0), .int .i64 0]) ∧ Below w.heap.size w w' := by
  obtain ⟨p, r, rfl, rfl⟩ := thAt_split h
  refine (get_yes H F (j : Int)).mono fun e w' ⟨h1, q, h2⟩ => ⟨?_, by rw [h2]; exact HpE.drewN_below w q⟩
  rw [h1]
  have : getE t.W (j : Int) = (t.W.getD j 0, 0) := by
    unfold getE
    rw [if_pos ⟨by omega, by omega⟩, Int.toNat_natCast]
  rw [this]
theorem all_any {ws al : List Int} (H : HpX w g mb Aw cw Aa ca most ws al n f) (hb : al.length ≤ 4096) :
    Calls Tryz.prog 26 #[.pointer (some ⟨g, 0, none⟩)] w fun e w' => ∃ v, e = .returned v ∧ OwnI w' w.heap.size v al ∧ Below w.heap.size w w' := by
  have c1 := H.box.cell 2
  have HC := Lib.hid (clone_any Aa al.length ca al w rfl (by omega) (own_rds H.adr))
  clear H
  go_enter Tryz.func26, Tryz.ntmps26
  go_wp2_with (go_at_call 52; refine HC.out.mono ?_; rintro e w' ⟨v, rfl, ho, hbl⟩)
  go_ret
  exact ⟨v, rfl, ho, hbl⟩
end

/-- is a number one of these? -/
theorem in_any (A : Option Addr) (c : Nat) (l : List Int) (x : Int) (w : World) (hA : Rds w A (l.map (Value.int .i64))) (hl : l.length ≤ 100000) :
    Calls Tryz.prog 30 #[.slice A l.length c, .int .i64 x] w fun e w' => e = .returned (.bool (decide (x ∈ l))) ∧ Below w.heap.size w w' := by
  have HA := Lib.hid hA
  clear hA
  go_enter Tryz.func30, Tryz.ntmps30
  go_wp2_with fail
  go_loopw [5] (fun i wr => ∃ k : Nat, k ≤ l.length ∧ i = .int .i64 (k : Int) ∧ x ∉ l.take k ∧ Below w.heap.size w wr) (fun i _ => l.length - (intOf i).toNat)
  case atStart => exact ⟨0, Nat.zero_le _, rfl, by simp, Below.refl _ _⟩
  case round =>
    obtain ⟨k, hk, rfl, hn, hbr⟩ := hrel
    have HB := Lib.hid hbr
    have HN := Lib.hid hn
    clear hn hbr
    by_cases hlt : k < l.length
    · obtain ⟨b, o, rfl, _, hc⟩ := (HA.out.below HB.out).at_ (k := k) (by rw [List.length_map]; exact hlt)
      rw [List.getElem_map] at hc
      have hke : ((k : Nat) : Int) < ((l.length : Nat) : Int) := by omega
      by_cases e : l[k] = x
      · have hm : decide (x ∈ l) = true := decide_eq_true (e ▸ List.getElem_mem hlt)
        have HM := Lib.hid hm
        clear hm
        go_wp2_with fail
        go_ret
        exact ⟨by rw [HM.out]; rfl, HB.out⟩
      · have hn2 : x ∉ l.take (k + 1) := by
          rw [List.take_succ_eq_append_getElem hlt]
          exact fun hm => (List.mem_append.1 hm).elim HN.out (fun h => e (List.mem_singleton.1 h).symm)
        have HN2 := Lib.hid hn2
        clear hn2
        go_wp2_with fail
        go_roundw
        case rel => exact ⟨k + 1, by omega, by go_num, HN2.out, HB.out⟩
        case measure => simp [intOf]; omega
    · have hke : ¬ ((k : Nat) : Int) < ((l.length : Nat) : Int) := by omega
      have hm : decide (x ∈ l) = false := decide_eq_false (by have := HN.out; rwa [List.take_of_length_le (by omega)] at this)
      have HM := Lib.hid hm
      clear hm
      go_wp2_with fail
      go_ret
      exact ⟨by rw [HM.out]; rfl, HB.out⟩

/-! ### copies -/
theorem cp_at {ts : List Th} {f : Int → Option Int} {x : Int} {t : Th} {ps : List Nat} (h : thAt ts x = some t) (hp : refsE t = some ps) : cpT ts f x = ⟨t.id, copyK f t ps ps.length, 0⟩ := by
  unfold cpT
  rw [h]
  simp only
  rw [hp]
theorem copyK_get {f : Int → Option Int} {t : Th} {ps : List Nat} (hn : ∀ p ∈ ps, p < t.W.length) (j : Nat) : ∀ k, k ≤ ps.length → (copyK f t ps k).getD j 0 = if j ∈ ps.take k then (f (t.W.getD j 0)).getD 0 else t.W.getD j 0
  | 0, _ => by simp [copyK]
  | k + 1, hk => by
    have hlt : k < ps.length := by omega
    rw [copyK_succ f t ps hlt, List.take_succ_eq_append_getElem (i := k) hlt]
    have ih := copyK_get (f := f) hn j k (by omega)
    have hl : ps[k] < (copyK f t ps k).length := by rw [copyK_len]; exact hn _ (List.getElem_mem hlt)
    by_cases e : j = ps[k]
    · subst e
      rw [if_pos (List.mem_append_right _ (List.mem_singleton.2 rfl)), List.getD_eq_getElem?_getD, List.getElem?_set_self hl]
      rfl
    · rw [List.getD_eq_getElem?_getD, List.getElem?_set_ne (fun h => e h.symm), ← List.getD_eq_getElem?_getD, ih]
      by_cases hj : j ∈ ps.take k
      · rw [if_pos hj, if_pos (List.mem_append_left _ hj)]
      · rw [if_neg hj, if_neg (fun hm => (List.mem_append.1 hm).elim hj (fun h => e (List.mem_singleton.1 h)))]
/-- the words of a copy -/
theorem cp_word {ts : List Th} {f : Int → Option Int} {x : Int} {t : Th} {ps : List Nat} (h : thAt ts x = some t) (hp : refsE t = some ps) (j : Nat) :
    (cpT ts f x).W.getD j 0 = if j ∈ ps then (f (t.W.getD j 0)).getD 0 else t.W.getD j 0 := by
  rw [cp_at h hp]
  have := copyK_get (f := f) (refsE_lt hp) j ps.length (Nat.le_refl _)
  rw [List.take_length] at this
  exact this
theorem cp_refs {ts : List Th} {f : Int → Option Int} {x : Int} {t : Th} {ps : List Nat} (h : thAt ts x = some t) (hp : refsE t = some ps) : refsE (cpT ts f x) = some ps := by
  rw [cp_at h hp]
  unfold refsE at hp ⊢
  simp only [copyK_len]
  exact hp
theorem cp_id {ts : List Th} {f : Int → Option Int} {x : Int} {t : Th} {ps : List Nat} (h : thAt ts x = some t) (hp : refsE t = some ps) : (cpT ts f x).id = t.id := by rw [cp_at h hp]
theorem cp_size {ts : List Th} {f : Int → Option Int} {x : Int} {t : Th} {ps : List Nat} (h : thAt ts x = some t) (hp : refsE t = some ps) : (cpT ts f x).W.length = t.W.length := by rw [cp_at h hp]; exact copyK_len _ _ _ _
/-- the i-th copy stands at the i-th place -/
theorem new_at {us : List Th} {i : Nat} (hi : i < us.length) : ∃ h : i < (adr 0 us).length, thAt us (adr 0 us)[i] = some us[i] := by
  have hl : i < (adr 0 us).length := by rw [adr_len]; exact hi
  refine ⟨hl, ?_⟩
  have e : us = us.take i ++ us[i] :: us.drop (i + 1) := by rw [← List.drop_eq_getElem_cons hi, List.take_append_drop]
  have e2 : (adr 0 us)[i]? = some (((raw (us.take i)).length + 1 : Nat) : Int) := by
    have e3 : adr 0 us = adr 0 (us.take i) ++ adr (0 + (raw (us.take i)).length) (us[i] :: us.drop (i + 1)) := by rw [← adr_append, ← e]
    have hti : (adr 0 (us.take i)).length = i := by rw [adr_len, List.length_take]; omega
    rw [e3, List.getElem?_append_right (by omega), hti, Nat.sub_self, Nat.zero_add]
    rfl
  rw [List.getElem?_eq_getElem hl] at e2
  injection e2 with e2
  rw [e2]
  have := thAt_mid (us.take i) us[i] (us.drop (i + 1))
  rwa [← e] at this

/-! ### what Run leaves -/
/-- the calls on a heap of these things in all worlds from wr on -/
structure CallsH (wr : World) (g : Nat) (ts : List Th) : Prop where
  type_ : ∀ w', Below wr.heap.size wr w' → ∀ x t, thAt ts x = some t → Calls Tryz.prog 27 #[.pointer (some ⟨g, 0, none⟩), .int .i64 x] w' fun e w'' => e = .returned (.tuple #[.int .i64 (t.id : Int), .int .i64 0]) ∧ Below w'.heap.size w' w''
  size_ : ∀ w', Below wr.heap.size wr w' → ∀ x t, thAt ts x = some t → Calls Tryz.prog 28 #[.pointer (some ⟨g, 0, none⟩), .int .i64 x] w' fun e w'' => e = .returned (.tuple #[.int .i64 (t.W.length : Int), .int .i64 0]) ∧ Below w'.heap.size w' w''
  get_ : ∀ w', Below wr.heap.size wr w' → ∀ x t, thAt ts x = some t → ∀ j : Nat, j < t.W.length → Calls Tryz.prog 29 #[.pointer (some ⟨g, 0, none⟩), .int .i64 x, .int .i64 (j : Int)] w' fun e w'' => e = .returned (.tuple #[.int .i64 (t.W.getD j 0), .int .i64 0]) ∧ Below w'.heap.size w' w''
theorem calls_h {wr : World} {g mb : Nat} {Aw : Option Addr} {cw : Nat} {Aa : Option Addr} {ca most n : Nat} {f : Int → Option Int} {ts : List Th} (H : HpX wr g mb Aw cw Aa ca most (raw ts) (adr 0 ts) n f) (F : Fits most ts) : CallsH wr g ts :=
  ⟨fun _ hb _ _ h => type_at (H.beside hb) F h, fun _ hb _ _ h => size_at (H.beside hb) F h, fun _ hb _ _ h _ hj => get_at (H.beside hb) F h hj⟩
/-- the copies -/
def news (ts : List Th) (out : List Int) : List Th := out.map (cpT ts (sentF ts (fun _ => none) out))
/-- the two heaps behind Run, in all worlds from wr on -/
structure Kept (wr : World) (g g2 p : Nat) (ts : List Th) (out : List Int) : Prop where
  old : CallsH wr g ts
  new : CallsH wr g2 (news ts out)
  sent : ∀ w', Below wr.heap.size wr w' → ∀ x, fitI x → Calls Tryz.prog 25 #[.pointer (some ⟨g, 0, none⟩), .int .i64 x] w' fun e w'' => e = .returned (.tuple #[.int .i64 ((sentF ts (fun _ => none) out x).getD 0), .bool (sentF ts (fun _ => none) out x).isSome]) ∧ w' = w''
  all : ∀ w', Below wr.heap.size wr w' → Calls Tryz.prog 26 #[.pointer (some ⟨g2, 0, none⟩)] w' fun e w'' => ∃ v, e = .returned v ∧ OwnI w'' w'.heap.size v (adr 0 (news ts out)) ∧ Below w'.heap.size w' w''
  refs : ∀ w', Below wr.heap.size wr w' → ∀ x, Calls Tryz.prog 16 #[.pointer (some ⟨g2, 0, none⟩), .pointer (some ⟨p, 0, none⟩), .int .i64 x] w' (GivesRefs w' (refsX (news ts out) x))
  fits : ∀ t ∈ ts, ∀ x ∈ t.W, fitI x
  few : out.length ≤ 400
  short : ∀ x t, thAt ts x = some t → t.W.length ≤ 400
theorem play_run3 {w wq wr : World} {x g r p u : Nat} {ts : List Th} (P : Play w wq x g r p u ts) (hb : Below wq.heap.size wq wr) {Ar : Option Addr} {cr : Nat} {roots : List Int} (R : Rds wr Ar (roots.map (Value.int .i64))) (hA : ∀ a, Ar = some a → wq.heap.size ≤ a.block) (hrl : roots.length ≤ 100000) (hfr : ∀ x ∈ roots, fitI x) :
    Calls Tryz.prog 21 #[.pointer (some ⟨g, 0, none⟩), .pointer (some ⟨p, 0, none⟩), .slice Ar roots.length cr] wr fun e w' =>
      ((reachE ts roots).1 ≠ 0 ∧ e = .returned (.tuple #[.pointer none, .slice none 0 0, .int .i64 (reachE ts roots).1]) ∧ Below wr.heap.size wr w') ∨
      ((reachE ts roots).1 = 0 ∧ ∃ g2 b, e = .returned (.tuple #[.pointer (some ⟨g2, 0, none⟩), .slice (some ⟨b, 0, none⟩) roots.length roots.length, .int .i64 0]) ∧ Below w.heap.size w w' ∧ Bx w' x (bx x g r p u).2.1 (bx x g r p u).2.2 ∧
        (∀ A xs, Rds wr A xs → (∀ a, A = some a → wq.heap.size ≤ a.block) → Rds w' A xs) ∧ Kept w' g g2 p ts (reachE ts roots).2) := by
  have hlow := ClP.Play.low P
  have hbox := ClP.Play.box P
  obtain ⟨⟨w1, h1, S0, ⟨lo, y, t, gg, mb, n, A, c, h, L, f, hP, hs⟩, h3⟩, h4⟩ := P
  have hl := sim_low S0
  obtain ⟨a1, a2, a3, a4, a5, a6, a7, a8, a9, S0, rfl, h2, h5⟩ := S0
  have S := S0.beside hb
  have hf := unsent S h2
  subst hf
  have hxf := (h5 _ (List.mem_singleton.2 rfl)).2.1
  have hfeet : ∀ k, feet g a1 a2 a4 k → k < wq.heap.size := fun k hk => S0.hp.lt hk
  have hlo : ∀ k, feet g a1 a2 a4 k → w.heap.size ≤ k := fun k hk => Nat.le_trans h1.size (S.own k hk)
  have HP : ∀ w', Turned (feet g a1 a2 a4) wr w' → LnkS.Pg lo w' p y t gg mb n A c h L f tyn := fun w' T => hP w' ((hl.trans (hb.mono hl.size)).trans (T.below S.own S.bel.size))
  refine (ClW.run_any HP hs S.hp S.fits (by omega) (by omega) (by omega) (fun v => by show fitI 0; unfold fitI; omega) R (fun a ha _ hk => ?_) hrl hfr).mono ?_
  · have h6 := hfeet _ hk
    have h7 := hA a ha
    omega
  rintro e w' (⟨h6, rfl, h7⟩ | ⟨h6, g2, b, out, hr, rfl, ⟨mp, Aw1, cw, Aa1, ca, mp2, Aw2, cw2, Aa2, ca2, n2, f2, T, hS⟩, hG, hbl⟩)
  · have hrun : (ClW.runE (things a8) (fun _ => none) roots).1 = (reachE (things a8) roots).1 := by
      unfold ClW.runE
      split
      · rename_i h8
        rw [if_pos (by simp), h8]
      · rfl
    rw [hrun] at h6 ⊢
    exact .inl ⟨h6, rfl, h7⟩
  · rw [hr]
    have hlen : out.length ≤ 400 := by
      have h8 := hG.len
      have h9 := S.fits.len
      have h10 := adr_length (things a8) 0
      omega
    have hff := sent_fit S.fits (f := fun _ => none) (fun v => by show fitI 0; unfold fitI; omega) (by omega : out.length ≤ 5000) out (Nat.le_refl _)
    have Fn := fits_nsK S.fits hff hG out.length
    rw [nsK_all] at Fn
    refine .inr ⟨rfl, g2, b, rfl, (hlow.trans (hb.mono hlow.size)).trans (T.tur.below hlo (Nat.le_trans hlow.size hb.size)), ?_, fun A xs hR hA2 => ClR.rds_turned hR (fun a ha _ hk => ?_) T.tur, calls_h T.h S.fits, calls_h T.g Fn, fun w2 h8 v hv => HpE.sent_any (T.h.beside h8) v hv, fun w2 h8 => all_any (T.g.beside h8) ?_, fun w2 h8 v => refs_any (HP w2 (T.tur.trans (Turned.of_below (F := feet g a1 a2 a4) h8) (fun _ hj => .inl hj))) hs (T.g.beside h8) Fn v, S.fits.fit, hlen, fun x t hx => ?_⟩
    · have h8 := T.tur.block x (Nat.lt_of_lt_of_le hbox.lt hb.size) hxf
      exact h8.trans (hbox.after hb)
    · have h8 := hfeet _ hk
      have h9 := hA2 a ha
      omega
    · have h8 := adr_length (out.map (cpT (things a8) (sentF (things a8) (fun _ => none) out))) 0
      have h9 := Fn.len
      have h10 := Fn.top
      show (adr 0 (out.map (cpT (things a8) (sentF (things a8) (fun _ => none) out)))).length ≤ 4096
      omega
    · obtain ⟨p', r', h8, _⟩ := thAt_split hx
      have h9 := S.fits.len
      rw [h8, raw_mid_len] at h9
      omega

/-- what is to be seen of the i-th thing and of its copy -/
theorem keep_at {ts : List Th} {roots out : List Int} (hr : reachE ts roots = (0, out)) {i : Nat} (hi : i < out.length) :
    ∃ t cp ps y, thAt ts out[i] = some t ∧ (∃ h : i < (adr 0 (news ts out)).length, (adr 0 (news ts out))[i] = y) ∧ thAt (news ts out) y = some cp ∧ cp.id = t.id ∧ cp.W.length = t.W.length ∧ refsX (news ts out) y = (0, ps) ∧ ps.length ≤ t.W.length + 2 ∧
      ∀ j : Nat, j < t.W.length → ((j : Int) ∈ ps ∧ t.W.getD j 0 ≠ 0 ∧ sentF ts (fun _ => none) out (t.W.getD j 0) = some (cp.W.getD j 0)) ∨ (¬ ((j : Int) ∈ ps ∧ t.W.getD j 0 ≠ 0) ∧ cp.W.getD j 0 = t.W.getD j 0) := by
  obtain ⟨_, hc⟩ := reachE_closed hr
  have hG := reachE_good hr
  obtain ⟨t, ps, ht, hp, hw⟩ := hc out[i] (List.getElem_mem hi)
  have hn : i < (news ts out).length := by unfold news; rw [List.length_map]; exact hi
  obtain ⟨h1, h2⟩ := new_at hn
  have h3 : (news ts out)[i] = cpT ts (sentF ts (fun _ => none) out) out[i] := List.getElem_map _
  rw [h3] at h2
  refine ⟨t, _, ps.map (fun (k : Nat) => (k : Int)), _, ht, ⟨h1, rfl⟩, h2, cp_id ht hp, cp_size ht hp, ?_, ?_, fun j hj => ?_⟩
  · unfold refsX
    rw [h2]
    simp only
    rw [cp_refs ht hp]
  · rw [List.length_map]
    unfold refsE at hp
    split at hp
    · split at hp
      · injection hp with hp; subst hp; simp
      · cases hp
    · split at hp
      · split at hp
        · injection hp with hp; subst hp; simp
        · cases hp
      · split at hp
        · injection hp with hp; subst hp; simp; omega
        · split at hp
          · injection hp with hp; subst hp; simp
          · cases hp
  · have hin : (j : Int) ∈ ps.map (fun (k : Nat) => (k : Int)) ↔ j ∈ ps := by
      rw [List.mem_map]
      exact ⟨fun ⟨a, h, e⟩ => (by omega : a = j) ▸ h, fun h => ⟨j, h, rfl⟩⟩
    rw [hin, cp_word ht hp]
    by_cases hjp : j ∈ ps
    · rw [if_pos hjp]
      by_cases hv : t.W.getD j 0 = 0
      · refine .inr ⟨fun h => h.2 hv, ?_⟩
        rw [hv]
        have h0 : (0 : Int) ∉ out := fun h => by
          have := (adr_low ts 0 0 (hG.sub 0 h)).1
          omega
        unfold sentF
        rw [if_neg h0]
        rfl
      · refine .inl ⟨hjp, hv, ?_⟩
        have h5 : t.W.getD j 0 ∈ out := by
          rcases hw (t.W.getD j 0) (List.mem_map.2 ⟨j, hjp, rfl⟩) with h | h
          · exact absurd h hv
          · exact h
        unfold sentF
        rw [if_pos h5]
        rfl
    · rw [if_neg hjp]
      exact .inr ⟨fun h => hjp h.1, rfl⟩
end ClH
end Go.Proofs.YtmkdhdmkdcankaaGreatDoor
