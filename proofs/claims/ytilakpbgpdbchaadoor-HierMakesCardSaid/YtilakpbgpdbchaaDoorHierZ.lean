/-
  Below of the document's own hierarchies; both hierarchies of some pairs.
-/
import Derived.Test.YtilakpbgpdbchaaDoorHierY
namespace Go.Proofs.YtilakpbgpdbchaaDoor
namespace HierZ
open Go.RowKit BinM Base Stru DescM DescW DescX HierS HierT HierM HierC HierK HierN HierV HierW HierG HierR HierU HierQ HierY
open BinName (ret_bool)

set_option maxRecDepth 100000 in
set_option maxHeartbeats 4000000 in
theorem belowR_any (B g : Nat) (l : List P2) (c : T) (w : World) (H : IsR B w g (refL l)) (hB : B ≤ w.heap.size) (hC : HierQ.Can l) :
    Calls Tryd.prog 20 #[.pointer (some ⟨g, 0, none⟩), .string ⟨c.toArray⟩] w fun e w' => ∃ v, e = .returned v ∧ OwnT w' w.heap.size v ((mk l).below c) ∧ Below w.heap.size w w' := by
  have h0 := Lib.hid (Below.refl w.heap.size w)
  have HH := Lib.hid (H.mono hB)
  have HCh := Lib.hid (fun (wr : World) (hb : Below w.heap.size w wr) (n : T) => chainR_any w.heap.size g l n wr (HH.out.below hb) hb.size hC)
  have Hlen := Lib.hid (fun n => chain_len hC.good n)
  have Hdef := Lib.hid (show (mk l).below c = (mk l).names.filter (fun n => (mk l).under n c) from rfl)
  have Hrn := refL_names l
  have hfew : (mk l).names.length ≤ 41 := by have := hC.few; simp [mk, nms, full, alw]; omega
  obtain ⟨A, n, cap, h1, h2, h3, h4, h5, _⟩ := HH.out.cells
  have hgs : g < w.heap.size := HH.out.low
  have c0 : w.cell? ⟨g, 0, none⟩ = some (.slice A n cap) := cell_of_row _ _ _ _ _ (0, 0) h1
  have C0 := Lib.hid c0
  have hnl : n ≤ (refL l).length := Nat.le_of_eq h2
  have hnl2 : (refL l).length ≤ n := Nat.le_of_eq h2.symm
  have hnm : (refL l).length = (mk l).names.length := by rw [← Hrn]; simp
  have Hat := Lib.hid (show ∀ k (hk : k < (refL l).length) (hk2 : k < (mk l).names.length), (refL l)[k].1 = (mk l).names[k] by
    intro k hk hk2
    have : ((refL l).map (·.1))[k]'(by simpa using hk) = (mk l).names[k] := by simp only [Hrn]
    rw [← this]; simp)
  have hn41 : n ≤ 41 := by omega
  have hnN : (mk l).names.length ≤ n := by omega
  have hNn : n ≤ (mk l).names.length := by omega
  have Hrd := Lib.hid h5
  clear h1 h2 h3 h4 h5 H hB c0 Hrn hC hnm
  generalize mk l = h at *
  generalize refL l = L at *
  go_enter Tryd.func20, Tryd.ntmps20
  go_wp2_with fail
  go_loopw [5, 6] (fun v i wr => ∃ k : Nat, k ≤ n ∧ i = .int .i64 k ∧ OwnT wr w.heap.size v ((h.names.take k).filter (fun x => h.under x c)) ∧ Below w.heap.size w wr) (fun _ i _ => n - (intOf i).toNat)
  case atStart => exact ⟨0, Nat.zero_le _, rfl, OwnT.nil _ _, h0.out⟩
  case round =>
    obtain ⟨k, hk, rfl, hown, hbel⟩ := hrel
    have Hown := Lib.hid hown
    have Hbel := Lib.hid hbel
    have hsz := hbel.size
    have c1 : wr.cell? ⟨g, 0, none⟩ = some (.slice A n cap) := (hbel.cell (p := ⟨g, 0, none⟩) hgs).trans C0.out
    by_cases hlt : k < n
    · have hkl : k < L.length := by omega
      have hkn : k < h.names.length := by omega
      obtain ⟨b, o, rfl, hb, hc0, hc1⟩ := pv_at (Hrd.out.below hbel) hkl
      have HT := Lib.hid (below_take (h := h) (c := c) hkn)
      have hpl : ((h.names.take k).filter (fun x => h.under x c)).length ≤ 41 := by
        have := List.length_filter_le (fun x => h.under x c) (h.names.take k)
        have := List.length_take_le k h.names
        omega
      have hxe := Hat.out k hkl hkn
      have HC1 := Lib.hid (HCh.out wr hbel h.names[k])
      have hl1 := Hlen.out h.names[k]
      have hbw : b < w.heap.size := by
        obtain ⟨b', o', hA', hb', _⟩ := pv_at Hrd.out hkl
        cases hA'; exact hb'
      have Hpv := Lib.hid (fun (W : World) (hb : Below wr.heap.size wr W) => pv_at (Hrd.out.below (hbel.trans (hb.mono hsz))) hkl)
      rw [hxe] at hc0
      have hu : h.under h.names[k] c = (h.chain h.names[k]).contains c := rfl
      rw [hu] at HT
      generalize hp : (h.names.take k).filter (fun x => h.under x c) = p at *
      generalize h.names[k] = x at *
      generalize h.chain x = ch at *
      have hk1 : (k : Int) < (n : Int) := by omega
      have hk0 : (0 : Int) ≤ (k : Int) := by omega
      obtain ⟨A2, c2, rfl, _, _, _, _⟩ := hown.slice
      have Hc0 := Lib.hid hc0
      clear hown hp hu hxe Hpv
      go_wp2_with fail
      refine HC1.out.mono ?_
      rintro e w3 ⟨v3, rfl, hown3, hb3⟩
      obtain ⟨A3, c3, rfl, _, _, hr3, _⟩ := hown3.slice
      have HA := Lib.hid (among_any A3 ch.length c3 ch c w3 rfl (by omega) hr3)
      have O3 := Lib.hid (show OwnT w3 w.heap.size (.slice A2 p.length c2) p from own_same Hown.out (fun q hq => hb3.block q (Hown.out.lt q hq).2))
      have B3 := Lib.hid (Hbel.out.trans (hb3.mono hsz))
      have hsz3 := B3.out.size
      have c3' : w3.cell? ⟨g, 0, none⟩ = some (.slice (some ⟨b, o, none⟩) n cap) := (B3.out.cell (p := ⟨g, 0, none⟩) hgs).trans C0.out
      have d0 : w3.cell? ⟨b, o + k * 2, none⟩ = some (.string ⟨x.toArray⟩) := (hb3.cell (p := ⟨b, o + k * 2, none⟩) hb).trans Hc0.out
      clear hb3 hown3 hr3 hbel hc0 hc1 c1
      cases hin : ch.contains c
      · rw [hin] at HA HT
        clear hin
        go_wp2_with fail
        refine HA.out.mono ?_
        rintro e w' ⟨rfl, rfl⟩
        go_wp2_with fail
        go_roundw
        case rel => exact ⟨k + 1, by omega, by go_num, by rw [HT.out]; simpa using O3.out, B3.out⟩
        case measure => simp [intOf]; omega
      · rw [hin] at HA HT
        clear hin
        go_wp2_with fail
        refine HA.out.mono ?_
        rintro e w' ⟨rfl, rfl⟩
        go_wp2_with (at_builtin
                     refine appT rfl (.tmp 28) (.tmp 37) rfl w.heap.size _ p rfl (O3.out.alloc _) (some ⟨w3.heap.size, 0, none⟩) 1 1 [x] rfl rfl (rds_new _ #[sv x] 9) (by simp; omega) (by simp; omega) ?_
                     intro v2 w2 hown2 hg2
                     have Hb2 := Lib.hid (below_own (B3.out.alloc hsz3 _) (O3.out.alloc _) (Nat.le_refl _) (by simp; omega) hg2)
                     have Hown2 := Lib.hid hown2
                     clear hown2 hg2)
        go_roundw
        case rel => exact ⟨k + 1, by omega, by go_num, by rw [HT.out]; simpa using Hown2.out, Hb2.out⟩
        case measure => simp [intOf]; omega
    · have hfin := Lib.hid (show h.names.take k = h.names from List.take_of_length_le (by omega))
      clear hown hbel
      go_wp2_with fail
      go_ret
      exact ⟨_, rfl, by have := Hown.out; rw [hfin.out] at this; rw [Hdef.out]; exact this, Hbel.out⟩

/-- what open hands back -/
def GivesO (l : List P2) (w : World) (e : Ending) (w' : World) : Prop :=
  Below w.heap.size w w' ∧ (((whyT l).2 = 0 ∧ ∃ g r, e = .returned (.tuple #[.pointer (some ⟨g, 0, none⟩), .pointer (some ⟨r, 0, none⟩), .bool true]) ∧ IsH w'.heap.size w' g (mk l) ∧ IsR w'.heap.size w' r (refL l)) ∨
    ((whyT l).2 ≠ 0 ∧ e = .returned (.tuple #[.pointer none, .pointer none, .bool true])))
set_option maxRecDepth 100000 in
set_option maxHeartbeats 4000000 in
theorem open_any (A : Option Addr) (l : List P2) (m c : Nat) (w : World) (hm : m = l.length) (hmx : m ≤ 1000) (hr : Rds w A (l.flatMap pv)) (hlong : ∀ x ∈ l, x.1.length ≤ 140737488355000) :
    Calls Tryd.prog 9 #[.slice A m c] w (GivesO l w) := by
  have h0 := Lib.hid (Below.refl w.heap.size w)
  have HG := Lib.hid (fun (wr : World) (hb : Below w.heap.size w wr) => given_any A l m c wr hm hmx (hr.below hb))
  have HL := Lib.hid (show ∀ x ∈ l.map bare, x.name.length ≤ 140737488355000 by
    intro x hx
    obtain ⟨p, hp, rfl⟩ := List.mem_map.1 hx
    exact hlong p hp)
  have HN := Lib.hid (fun W A m c hm hr => new_any A (l.map bare) m c W hm hr HL.out)
  have HR := Lib.hid (fun W A m c hm hr => newR_any A (l.map bare) m c W hm hr HL.out)
  rw [bare_p2] at HN HR
  clear hm hmx hr hlong
  go_enter Tryd.func9, Tryd.ntmps9
  go_wp2_with fail
  refine (HG.out _ h0.out).mono ?_
  rintro e w1 ⟨v1, rfl, hown1, hb1⟩
  obtain ⟨A1, c1, rfl, _, _, hr1, _⟩ := hown1.slice
  have B1 := Lib.hid hb1
  have HN1 := Lib.hid (HN.out w1 A1 l.length c1 (by simp) hr1)
  clear hown1 hb1 hr1
  go_wp2_with fail
  refine HN1.out.mono ?_
  rintro e w2 ⟨hb2, hor⟩
  have B2 := Lib.hid (B1.out.trans (hb2.mono B1.out.size))
  clear hb2
  rcases hor with ⟨hz, g, rfl, hH⟩ | ⟨hne, rfl⟩
  · have HH := Lib.hid hH
    clear hH
    go_wp2_with fail
    refine (HG.out _ B2.out).mono ?_
    rintro e w3 ⟨v3, rfl, hown3, hb3⟩
    obtain ⟨A3, c3, rfl, _, _, hr3, _⟩ := hown3.slice
    have C3 := Lib.hid hb3
    have HR3 := Lib.hid (HR.out w3 A3 l.length c3 (by simp) hr3)
    clear hown3 hb3 hr3
    go_wp2_with fail
    refine HR3.out.mono ?_
    rintro e w4 ⟨hb4, hor4⟩
    have C4 := Lib.hid (C3.out.trans (hb4.mono C3.out.size))
    clear hb4
    rcases hor4 with ⟨_, r, rfl, hR⟩ | ⟨hne, _⟩
    · have HRr := Lib.hid hR
      have B4 := Lib.hid (B2.out.trans (C4.out.mono B2.out.size))
      have H4 := Lib.hid ((HH.out.below C4.out).mono C4.out.size)
      clear hR
      go_wp2_with fail
      go_ret3
      exact ⟨B4.out, .inl ⟨hz, g, r, rfl, H4.out, HRr.out⟩⟩
    · exact absurd hz hne
  · have Hne := Lib.hid hne
    generalize hn1 : (whyT l).1 = nm at *
    generalize hn2 : (whyT l).2 = er at *
    have Hn1 := Lib.hid hn1
    have Hn2 := Lib.hid hn2
    clear hn1 hn2 hne
    go_wp2_with fail
    refine (HG.out _ B2.out).mono ?_
    rintro e w3 ⟨v3, rfl, hown3, hb3⟩
    obtain ⟨A3, c3, rfl, _, _, hr3, _⟩ := hown3.slice
    have C3 := Lib.hid hb3
    have HR3 := Lib.hid (HR.out w3 A3 l.length c3 (by simp) hr3)
    clear hown3 hb3 hr3
    go_wp2_with fail
    refine HR3.out.mono ?_
    rintro e w4 ⟨hb4, hor4⟩
    have C4 := Lib.hid (C3.out.trans (hb4.mono C3.out.size))
    have B4 := Lib.hid (B2.out.trans (C4.out.mono B2.out.size))
    clear hb4
    rcases hor4 with ⟨hz, _⟩ | ⟨_, rfl⟩
    · exact absurd (Hn2.out.symm.trans hz) Hne.out
    · rw [Hn1.out, Hn2.out]
      go_wp2_with fail
      go_ret3
      exact ⟨B4.out, .inr ⟨by rw [Hn2.out]; exact Hne.out, by simp⟩⟩
end HierZ
end Go.Proofs.YtilakpbgpdbchaaDoor
