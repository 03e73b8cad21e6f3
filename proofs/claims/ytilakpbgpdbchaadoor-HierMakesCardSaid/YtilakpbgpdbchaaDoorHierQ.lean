/-
  Chain and Below of the document's own hierarchies; and Below of the program's.
-/
import Derived.Test.YtilakpbgpdbchaaDoorHierU
namespace Go.Proofs.YtilakpbgpdbchaaDoor
namespace HierQ
open Go.RowKit BinM Base Stru DescM DescW DescX HierS HierT HierM HierC HierK HierN HierV HierW HierG HierR HierU
open BinName (ret_bool)

/-- classes that can be -/
structure Can (l : List P2) : Prop where
  good : GoodH (mk l)
  tw : twice [objN] (full l) = none
  su : noSup (nms (full l)) (full l) = none
  few : l.length ≤ 32
  long : ∀ c ∈ (mk l).names, c.length ≤ 140737488355000
def ChR (w : World) (h : Hr) (c : T) (cl ch : Value) (wr : World) : Prop :=
  ∃ (p rest : List T) (u : T), OwnT wr w.heap.size ch p ∧ h.chain c = p ++ rest ∧ cl = .string ⟨u.toArray⟩ ∧ HierC.Next h (superT h u) rest ∧ p.length ≤ 41 ∧ Below w.heap.size w wr

set_option maxRecDepth 100000 in
set_option maxHeartbeats 4000000 in
theorem chainR_any (B g : Nat) (l : List P2) (c : T) (w : World) (H : IsR B w g (refL l)) (hB : B ≤ w.heap.size) (hC : Can l) :
    Calls Tryd.prog 18 #[.pointer (some ⟨g, 0, none⟩), .string ⟨c.toArray⟩] w fun e w' => ∃ v, e = .returned v ∧ OwnT w' w.heap.size v ((mk l).chain c) ∧ Below w.heap.size w w' := by
  have HH := Lib.hid (fun (wr : World) (hb : Below w.heap.size w wr) => (H.mono hB).below hb)
  have h0 := Lib.hid (Below.refl w.heap.size w)
  have HS := Lib.hid (fun (u : T) (S : T × Bool) (hS : superT (mk l) u = S) (wr : World) (hb : Below w.heap.size w wr) => supR_any w.heap.size g (refL l) u S ((sup_same hC.tw hC.su u).trans hS) wr (HH.out wr hb))
  have hHas := has_same l c
  have hlen := chain_len hC.good c
  have hfew : (mk l).names.length ≤ 41 := by have := hC.few; simp [mk, nms, full, alw]; omega
  have HHas := Lib.hid (fun (wr : World) (hb : Below w.heap.size w wr) => hasR_any w.heap.size g (refL l) c wr (HH.out wr hb))
  rw [hHas] at HHas
  by_cases hc : c ∈ (mk l).names
  · have hw := chain_way hC.good hc
    obtain ⟨t, ht⟩ := hw.head
    have hn := next_of (ht ▸ hw)
    rw [has_iff.2 hc] at HHas
    have Hct := Lib.hid (show (mk l).chain c = [c] ++ t from ht)
    have HN := Lib.hid hn
    have Hlen := Lib.hid hlen
    clear hw ht hn hc H hB hlen hHas hC
    generalize mk l = h at *
    go_enter Tryd.func18, Tryd.ntmps18
    go_wp2_with (go_at_call 16; refine (HHas.out _ h0.out).mono ?_; rintro e w' ⟨rfl, rfl⟩)
    go_loopw [1, 5] (fun cl ch wr => ChR w h c cl ch wr) (fun _ ch _ => 42 - lenV ch)
    case atStart => exact ⟨[c], t, c, OwnT.one w c, Hct.out, rfl, HN.out, by simp, h0.out.alloc (Nat.le_refl _) _⟩
    case round =>
      obtain ⟨p, rest, u, hown, hch, rfl, hnx, hp41, hbel⟩ := hrel
      obtain ⟨A, cc, rfl, hp1, hp2, hrd, _⟩ := hown.slice
      have Hown := Lib.hid hown
      have Hbel := Lib.hid hbel
      have hsz := hbel.size
      have Hch := Lib.hid hch
      have hp60 : ¬ (60 : Int) < (p.length : Int) := by omega
      generalize hS : superT h u = S at *
      have HS1 := Lib.hid (HS.out u S hS wr hbel)
      clear hown hbel hrd hp1 hp2 hch hS
      obtain ⟨s, ok⟩ := S
      simp only at HS1
      cases ok
      · have e := hnx.2 rfl
        subst e
        have Hfin := Lib.hid (show h.chain c = p by rw [Hch.out]; simp)
        clear hnx
        go_wp2_with (go_at_call 11; refine HS1.out.mono ?_; rintro e w' ⟨rfl, rfl⟩)
        go_ret
        exact ⟨_, rfl, by rw [Hfin.out]; exact Hown.out, Hbel.out⟩
      · have hwu := hnx.1 rfl
        obtain ⟨t2, rfl⟩ := hwu.head
        have hN2 := Lib.hid (next_of hwu)
        have hpl : p.length + 1 ≤ 41 := by
          have := Hlen.out
          rw [Hch.out] at this
          simp at this
          omega
        have Hch2 := Lib.hid (show h.chain c = (p ++ [s]) ++ t2 by rw [Hch.out]; simp)
        clear hnx hwu
        go_wp2_with (first
          | (go_at_call 11; refine HS1.out.mono ?_; rintro e w' ⟨rfl, rfl⟩)
          | (at_builtin
             refine appT rfl (.tmp 28) (.tmp 30) rfl w.heap.size _ p rfl (Hown.out.alloc _) (some ⟨wr.heap.size, 0, none⟩) 1 1 [s] rfl rfl (rds_new _ #[sv s] 9) (by simp; omega) (by simp; omega) ?_
             intro v2 w2 hown2 hg2
             have Hb2 := Lib.hid (below_own (Hbel.out.alloc hsz _) (Hown.out.alloc _) (Nat.le_refl _) (by simp; omega) hg2)
             have Hown2 := Lib.hid hown2
             clear hown2 hg2))
        go_roundw
        case rel => exact ⟨p ++ [s], t2, s, Hown2.out, Hch2.out, rfl, hN2.out, by simp; omega, Hb2.out⟩
        case measure =>
          obtain ⟨A2, c2, rfl, _⟩ := Hown2.out.slice
          simp [lenV]; omega
  · rw [show (mk l).has c = false by simpa [Hr.has] using hc] at HHas
    have Hno := Lib.hid (chain_no hc)
    clear H hB hlen hc hHas hC
    generalize mk l = h at *
    go_enter Tryd.func18, Tryd.ntmps18
    go_wp2_with (go_at_call 16; refine (HHas.out _ h0.out).mono ?_; rintro e w' ⟨rfl, rfl⟩)
    go_ret
    exact ⟨_, rfl, by rw [Hno.out]; exact OwnT.nil _ _, h0.out⟩

theorem below_take {h : Hr} {c : T} {k : Nat} (hk : k < h.names.length) : (h.names.take (k + 1)).filter (fun n => h.under n c) = (h.names.take k).filter (fun n => h.under n c) ++ (if h.under h.names[k] c then [h.names[k]] else []) := by
  rw [List.take_succ_eq_append_getElem hk, List.filter_append]
  congr 1
  cases hu : h.under h.names[k] c <;> simp [hu]

set_option maxRecDepth 100000 in
set_option maxHeartbeats 4000000 in
theorem below_any (B g : Nat) (h : Hr) (c : T) (w : World) (H : IsH B w g h) (hB : B ≤ w.heap.size) (hg : GoodH h) :
    Calls Tryd.prog 19 #[.pointer (some ⟨g, 0, none⟩), .string ⟨c.toArray⟩] w fun e w' => ∃ v, e = .returned v ∧ OwnT w' w.heap.size v (h.below c) ∧ Below w.heap.size w w' := by
  have h0 := Lib.hid (Below.refl w.heap.size w)
  have Hlong := Lib.hid H.long
  have hfew := H.few
  have HN := Lib.hid (names_any B g h w H)
  have HU := Lib.hid (fun (wr : World) (hb : Below w.heap.size w wr) (n : T) (hn : n.length ≤ 140737488355328) => (under_any w.heap.size g h n c wr ((H.mono hB).below hb) hb.size hg hn).mono (R' := fun e w' => e = .returned (.bool (h.under n c)) ∧ Below wr.heap.size wr w') fun e w' h => h)
  have Hdef := Lib.hid (show h.below c = h.names.filter (fun n => h.under n c) from rfl)
  clear H hB hg
  go_enter Tryd.func19, Tryd.ntmps19
  go_wp2_with fail
  refine HN.out.mono ?_
  rintro e w1 ⟨v1, rfl, hown1, hb1⟩
  obtain ⟨A1, c1, rfl, _, _, hr1, hA1⟩ := hown1.slice
  have Hr1 := Lib.hid hr1
  have HA1 := Lib.hid hA1
  have B1 := Lib.hid hb1
  have hsz1 := hb1.size
  clear hown1 hr1 hA1 hb1
  go_wp2_with fail
  go_loopw [5, 11] (fun v i wr => ∃ k : Nat, k ≤ h.names.length ∧ i = .int .i64 k ∧ OwnT wr w1.heap.size v ((h.names.take k).filter (fun n => h.under n c)) ∧ Below w1.heap.size w1 wr) (fun _ i _ => h.names.length - (intOf i).toNat)
  case atStart => exact ⟨0, Nat.zero_le _, rfl, OwnT.nil _ _, Below.refl _ _⟩
  case round =>
    obtain ⟨k, hk, rfl, hown, hbel⟩ := hrel
    have Hown := Lib.hid hown
    have Hbel := Lib.hid hbel
    have hsz := hbel.size
    by_cases hlt : k < h.names.length
    · have HT := Lib.hid (below_take (h := h) (c := c) hlt)
      have Hnl := Lib.hid (Hlong.out _ (List.getElem_mem hlt))
      obtain ⟨b, o, rfl, hb, hc0⟩ := (Hr1.out.below hbel).at_ (k := k) (by simpa using hlt)
      rw [List.getElem_map] at hc0
      unfold sv at hc0
      have hpl : ((h.names.take k).filter (fun n => h.under n c)).length ≤ 41 := by
        have := List.length_filter_le (fun n => h.under n c) (h.names.take k)
        have := List.length_take_le k h.names
        omega
      have HUk := Lib.hid (HU.out wr (B1.out.trans (hbel.mono hsz1)) h.names[k] (by have := Hnl.out; omega))
      generalize hp : (h.names.take k).filter (fun n => h.under n c) = p at *
      generalize h.names[k] = x at *
      generalize hu : h.under x c = U at *
      have hk1 : (k : Int) < (h.names.length : Int) := by omega
      have hk0 : (0 : Int) ≤ (k : Int) := by omega
      obtain ⟨A2, c2, rfl, _, _, _, _⟩ := hown.slice
      clear hown hbel hp hu
      cases U
      · go_wp2_with fail
        refine HUk.out.mono ?_
        rintro e w3 ⟨rfl, hb3⟩
        have O3 := Lib.hid (show OwnT w3 w1.heap.size (.slice A2 p.length c2) p from own_same Hown.out (fun q hq => hb3.block q (Hown.out.lt q hq).2))
        have B3 := Lib.hid (Hbel.out.trans (hb3.mono hsz))
        clear hb3
        go_wp2_with fail
        go_roundw
        case rel => exact ⟨k + 1, by omega, by go_num, by rw [HT.out]; simpa using O3.out, B3.out⟩
        case measure => simp [intOf]; omega
      · go_wp2_with fail
        refine HUk.out.mono ?_
        rintro e w3 ⟨rfl, hb3⟩
        have O3 := Lib.hid (show OwnT w3 w1.heap.size (.slice A2 p.length c2) p from own_same Hown.out (fun q hq => hb3.block q (Hown.out.lt q hq).2))
        have B3 := Lib.hid (Hbel.out.trans (hb3.mono hsz))
        have hsz3 := B3.out.size
        clear hb3
        go_wp2_with (at_builtin
                     refine appT rfl (.tmp 19) (.tmp 21) rfl w1.heap.size _ p rfl (O3.out.alloc _) (some ⟨w3.heap.size, 0, none⟩) 1 1 [x] rfl rfl (rds_new _ #[sv x] 9) (by simp; omega) (by simp; omega) ?_
                     intro v2 w2 hown2 hg2
                     have Hb2 := Lib.hid (below_own (B3.out.alloc hsz3 _) (O3.out.alloc _) (Nat.le_refl _) (by simp; omega) hg2)
                     have Hown2 := Lib.hid hown2
                     clear hown2 hg2)
        go_roundw
        case rel => exact ⟨k + 1, by omega, by go_num, by rw [HT.out]; simpa using Hown2.out, Hb2.out⟩
        case measure => simp [intOf]; omega
    · have hfin := Lib.hid (show h.names.take k = h.names from List.take_of_length_le (by omega))
      clear hown hbel
      go_wp2_with fail
      go_ret
      exact ⟨_, rfl, by have := Hown.out; rw [hfin.out] at this; rw [Hdef.out]; exact own_mono this hsz1, B1.out.trans (Hbel.out.mono hsz1)⟩
end HierQ
end Go.Proofs.YtilakpbgpdbchaaDoor
