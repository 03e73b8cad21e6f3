/-
  Classes of pairs: hornbooklaw07.given.
-/
import Derived.Test.YtilakpbgpdbchaaDoorHierN
namespace Go.Proofs.YtilakpbgpdbchaaDoor
namespace HierG
open Go.RowKit BinM Base Stru DescM DescW DescX HierS HierT HierM HierN

def pv (p : P2) : List Value := [.string ⟨p.1.toArray⟩, .string ⟨p.2.toArray⟩]
theorem pv_at {w : World} {A : Option Addr} {l : List P2} {k : Nat} (h : Rds w A (l.flatMap pv)) (hk : k < l.length) :
    ∃ b o, A = some ⟨b, o, none⟩ ∧ b < w.heap.size ∧ w.cell? ⟨b, o + k * 2, none⟩ = some (.string ⟨l[k].1.toArray⟩) ∧ w.cell? ⟨b, o + k * 2 + 1, none⟩ = some (.string ⟨l[k].2.toArray⟩) := by
  obtain ⟨b, o, hA, hb, hc⟩ := flat_at (n := 2) (fun _ => rfl) (by omega) h hk
  exact ⟨b, o, hA, hb, hc 0 _ rfl, hc 1 _ rfl⟩

set_option maxRecDepth 100000 in
set_option maxHeartbeats 3200000 in
theorem given_any (A : Option Addr) (l : List P2) (m c : Nat) (w : World) (hm : m = l.length) (hmx : m ≤ 1000) (hr : Rds w A (l.flatMap pv)) :
    Calls Tryd.prog 22 #[.slice A m c] w fun e w' => ∃ v, e = .returned v ∧ OwnC w' w.heap.size v (l.map bare) ∧ Below w.heap.size w w' := by
  obtain ⟨i0, hi0, hz0, hz1, hz2⟩ := info_parts infoC
  have I0 := Lib.hid hi0
  have I1 := Lib.hid hz0
  have I2 := Lib.hid hz1
  have I3 := Lib.hid hz2
  have Hr := Lib.hid hr
  have hml : m ≤ l.length := Nat.le_of_eq hm
  have hml2 : l.length ≤ m := Nat.le_of_eq hm.symm
  have h0 := Lib.hid (Below.refl w.heap.size w)
  clear hr hm hi0 hz0 hz1 hz2
  go_enter Tryd.func22, Tryd.ntmps22
  go_wp2_with fail
  go_loopw [3, 4] (fun v i wr => ∃ k : Nat, k ≤ m ∧ i = .int .i64 k ∧ OwnC wr w.heap.size v ((l.take k).map bare) ∧ Below w.heap.size w wr) (fun _ i _ => m - (intOf i).toNat)
  case atStart => exact ⟨0, by omega, rfl, OwnC.nil _ _, h0.out⟩
  case round =>
    obtain ⟨k, hk, rfl, hown, hbel⟩ := hrel
    have Hown := Lib.hid hown
    have Hbel := Lib.hid hbel
    have hsz := hbel.size
    by_cases hlt : k < m
    · have hja : k < l.length := by omega
      obtain ⟨b, o, rfl, hb, hc0, hc1⟩ := pv_at (Hr.out.below hbel) hja
      have HT := Lib.hid (show (l.take (k + 1)).map bare = (l.take k).map bare ++ [bare l[k]] by rw [List.take_succ_eq_append_getElem hja, List.map_append]; rfl)
      have hpl : ((l.take k).map bare).length ≤ 1000 := by simp; omega
      generalize hp : (l.take k).map bare = p at *
      generalize l[k] = nm at *
      obtain ⟨n1, n2⟩ := nm
      simp only at hc0 hc1
      have hk1 : (k : Int) < (m : Int) := by omega
      have hk0 : (0 : Int) ≤ (k : Int) := by omega
      have hbw : b < w.heap.size := by
        rcases Hr.out with h | ⟨b', o', hA, hb', _⟩
        · rw [List.flatMap_eq_nil_iff] at h
          exact absurd (h _ (List.getElem_mem hja)) (by simp [pv])
        · cases hA; exact hb'
      obtain ⟨A2, c2, rfl, _, _, _, hA2⟩ := hown.slice
      have hob : (Value.slice A2 p.length c2).ownBlock ≠ some b := by
        cases A2 with
        | none => simp [Value.ownBlock]
        | some a => have := (hA2 a rfl).1; simp [Value.ownBlock]; omega
      have Hob := Lib.hid hob
      clear hown hbel hp hA2 hob
      go_wp2_with fail
      go_region_held3 (fun w' => w'.cell? ⟨b, o + k * 2, none⟩ = some (.string ⟨n1.toArray⟩) ∧ w'.cell? ⟨b, o + k * 2 + 1, none⟩ = some (.string ⟨n2.toArray⟩))
        (first
          | go_keep
          | (go_split_ands
             refine ⟨?_, ?_⟩
             · (rw [hgrow.cell_far _ (by simp; omega) (Ne.symm Hob.out)]; assumption)
             · (rw [hgrow.cell_far _ (by simp; omega) (Ne.symm Hob.out)]; assumption)))
        ((refine step_append_lies _ (by rfl) _ _ _ (by rfl) w.heap.size 60 i0 _ 5 104 Tryd.underlying39 I0.out I1.out I2.out I3.out rfl (by omega) (.slice A2 p.length c2) p.length (p.flatMap CE.vals) (by rfl) ((Hown.out.alloc _).drew)
            ⟨wr.heap.size, 0, none⟩ 1 1 [.string ⟨n1.toArray⟩, .string ⟨n2.toArray⟩, .slice none 0 0, .slice none 0 0, .slice none 0 0] (by rfl) (by rfl) (World.news_of_block (cs := #[.string ⟨n1.toArray⟩, .string ⟨n2.toArray⟩, .slice none 0 0, .slice none 0 0, .slice none 0 0]) (t := 60) (fr := (0, 0)) (heap_alloc_new wr _)) (by simp [Value.oneCell'])
            (by omega) (by unfold maxLen; omega) (by omega) (by simp; omega) (wr.heap.size + 1) (by simp) ?_; intro gg cap w1 hown1 hgrow hat hlt1))
      have Hb1 := Lib.hid (below_own (Hbel.out.alloc hsz (.cells #[.string ⟨n1.toArray⟩, .string ⟨n2.toArray⟩, .slice none 0 0, .slice none 0 0, .slice none 0 0] 60)).drew ((Hown.out.alloc _).drew) (Nat.le_refl _) (by simp; omega) hgrow)
      have Hown1 := Lib.hid (show OwnC w1 w.heap.size (.slice (some ⟨gg, 0, none⟩) (p.length + 1) cap) (p ++ [bare (n1, n2)]) by
        unfold OwnC
        rw [List.flatMap_append, List.length_append]
        exact hown1)
      clear hown1 hgrow hat hlt1
      go_wp2_with fail
      go_roundw
      case rel => exact ⟨k + 1, by omega, by go_num, by rw [HT.out]; exact Hown1.out, Hb1.out⟩
      case measure => simp [intOf]; omega
    · have hfin := Lib.hid (show l.take k = l from List.take_of_length_le (by omega))
      clear hown hbel
      go_wp2_with fail
      go_ret
      exact ⟨_, rfl, by have := Hown.out; rw [hfin.out] at this; exact this, Hbel.out⟩
end HierG
end Go.Proofs.YtilakpbgpdbchaaDoor
