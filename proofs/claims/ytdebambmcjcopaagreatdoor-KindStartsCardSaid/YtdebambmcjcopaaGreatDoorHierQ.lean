/-
  Chain and Below of the document's own hierarchies; and Below of the program's.
-/
import Derived.Test.YtdebambmcjcopaaGreatDoorHierU
namespace Go.Proofs.YtdebambmcjcopaaGreatDoor
namespace HierQ
open Go.RowKit BinM Base Stru DescM DescW DescX HierS HierT HierM HierC HierK HierN HierV HierW HierG HierR HierU
open BinName (ret_bool)

/-- classes that can be -/
structure Can (l : List P2) : Prop where
  good : GoodH (mk l)
  tw : twice [objN] (full l) = none
  su : noSup (nms (full l)) (full l) = none
  few : l.length ≤ 32
  long : ∀ c ∈ (mk l).names, c.length ≤ 140737488355000
def ChR (w : World) (h : Hr) (c : T) (cl ch : Value) (wr : World) : Prop :=
  ∃ (p rest : List T) (u : T), OwnT wr w.heap.size ch p ∧ h.chain c = p ++ rest ∧ cl = .string ⟨u.toArray⟩ ∧ HierC.Next h (superT h u) rest ∧ p.length ≤ 41 ∧ Below w.heap.size w wr

set_option maxRecDepth 100000 in
set_option maxHeartbeats 4000000 in
theorem chainR_any (B g : Nat) (l : List P2) (c : T) (w : World) (H : IsR B w g (refL l)) (hB : B ≤ w.heap.size) (hC : Can l) :
    Calls Tryz.prog 125 #[.pointer (some ⟨g, 0, none⟩), .string ⟨c.toArray⟩] w fun e w' => ∃ v, e = .returned v ∧ OwnT w' w.heap.size v ((mk l).chain c) ∧ Below w.heap.size w w' := by
  have HH := Lib.hid (fun (wr : World) (hb : Below w.heap.size w wr) => (H.mono hB).below hb)
  have h0 := Lib.hid (Below.refl w.heap.size w)
  have HS := Lib.hid (fun (u : T) (S : T × Bool) (hS : superT (mk l) u = S) (wr : World) (hb : Below w.heap.size w wr) => supR_any w.heap.size g (refL l) u S ((sup_same hC.tw hC.su u).trans hS) wr (HH.out wr hb))
  have hHas := has_same l c
  have hlen := chain_len hC.good c
  have hfew : (mk l).names.length ≤ 41 := by have := hC.few; simp [mk, nms, full, alw]; omega
  have HHas := Lib.hid (fun (wr : World) (hb : Below w.heap.size w wr) => hasR_any w.heap.size g (refL l) c wr (HH.out wr hb))
  rw [hHas] at HHas
  by_cases hc : c ∈ (mk l).names
  · have hw := chain_way hC.good hc
    obtain ⟨t, ht⟩ := hw.head
    have hn := next_of (ht ▸ hw)
    rw [has_iff.2 hc] at HHas
    have Hct := Lib.hid (show (mk l).chain c = [c] ++ t from ht)
    have HN := Lib.hid hn
    have Hlen := Lib.hid hlen
    clear hw ht hn hc H hB hlen hHas hC
    generalize mk l = h at *
    go_enter Tryz.func125, Tryz.ntmps125
    go_wp2_with (go_at_call 86; refine (HHas.out _ h0.out).mono ?_; rintro e w' ⟨rfl, rfl⟩)
    go_loopw [1, 5] (fun cl ch wr => ChR w h c cl ch wr) (fun _ ch _ => 42 - lenV ch)
    case atStart => exact ⟨[c], t, c, OwnT.one w c, Hct.out, rfl, HN.out, by simp, h0.out.alloc (Nat.le_refl _) _⟩
    case round =>
      obtain ⟨p, rest, u, hown, hch, rfl, hnx, hp41, hbel⟩ := hrel
      obtain ⟨A, cc, rfl, hp1, hp2, hrd, _⟩ := hown.slice
      have Hown := Lib.hid hown
      have Hbel := Lib.hid hbel
      have hsz := hbel.size
      have Hch := Lib.hid hch
      have hp60 : ¬ (60 : Int) < (p.length : Int) := by omega
      generalize hS : superT h u = S at *
      have HS1 := Lib.hid (HS.out u S hS wr hbel)
      clear hown hbel hrd hp1 hp2 hch hS
      obtain ⟨s, ok⟩ := S
      simp only at HS1
      cases ok
      · have e := hnx.2 rfl
        subst e
        have Hfin := Lib.hid (show h.chain c = p by rw [Hch.out]; simp)
        clear hnx
        go_wp2_with (go_at_call 87; refine HS1.out.mono ?_; rintro e w' ⟨rfl, rfl⟩)
        go_ret
        exact ⟨_, rfl, by rw [Hfin.out]; exact Hown.out, Hbel.out⟩
      · have hwu := hnx.1 rfl
        obtain ⟨t2, rfl⟩ := hwu.head
        have hN2 := Lib.hid (next_of hwu)
        have hpl : p.length + 1 ≤ 41 := by
          have := Hlen.out
          rw [Hch.out] at this
          simp at this
          omega
        have Hch2 := Lib.hid (show h.chain c = (p ++ [s]) ++ t2 by rw [Hch.out]; simp)
        clear hnx hwu
        go_wp2_with (first
          | (go_at_call 87; refine HS1.out.mono ?_; rintro e w' ⟨rfl, rfl⟩)
          | (at_builtin
             refine appT rfl (.tmp 28) (.tmp 30) rfl w.heap.size _ p rfl (Hown.out.alloc _) (some ⟨wr.heap.size, 0, none⟩) 1 1 [s] rfl rfl (rds_new _ #[sv s] 9) (by simp; omega) (by simp; omega) ?_
             intro v2 w2 hown2 hg2
             have Hb2 := Lib.hid (below_own (Hbel.out.alloc hsz _) (Hown.out.alloc _) (Nat.le_refl _) (by simp; omega) hg2)
             have Hown2 := Lib.hid hown2
             clear hown2 hg2))
        go_roundw
        case rel => exact ⟨p ++ [s], t2, s, Hown2.out, Hch2.out, rfl, hN2.out, by simp; omega, Hb2.out⟩
        case measure =>
          obtain ⟨A2, c2, rfl, _⟩ := Hown2.out.slice
          simp [lenV]; omega
  · rw [show (mk l).has c = false by simpa [Hr.has] using hc] at HHas
    have Hno := Lib.hid (chain_no hc)
    clear H hB hlen hc hHas hC
    generalize mk l = h at *
    go_enter Tryz.func125, Tryz.ntmps125
    go_wp2_with (go_at_call 86; refine (HHas.out _ h0.out).mono ?_; rintro e w' ⟨rfl, rfl⟩)
    go_ret
    exact ⟨_, rfl, by rw [Hno.out]; exact OwnT.nil _ _, h0.out⟩

theorem below_take {h : Hr} {c : T} {k : Nat} (hk : k < h.names.length) : (h.names.take (k + 1)).filter (fun n => h.under n c) = (h.names.take k).filter (fun n => h.under n c) ++ (if h.under h.names[k] c then [h.names[k]] else []) := by
  rw [List.take_succ_eq_append_getElem hk, List.filter_append]
  congr 1
  cases hu : h.under h.names[k] c <;> simp [hu]

end HierQ
end Go.Proofs.YtdebambmcjcopaaGreatDoor
