/-
  What the calls of a hierarchy return: Chain, under, Known, Sub, loops.
-/
import Derived.Test.YtilakpbgpdbchaaDoorHierM
namespace Go.Proofs.YtilakpbgpdbchaaDoor
namespace HierC
open Go.RowKit BinM Base DescM DescW DescX HierS HierT HierM
open BinName (ret_bool)

def lenV : Value → Nat | .slice _ n _ => n | _ => 0
theorem super_t (B g : Nat) (h : Hr) (c : T) (o : T × Bool) (w : World) (H : IsH B w g h) (hl : c.length ≤ 140737488355328) (ho : superT h c = o) :
    Calls Tryd.prog 10 #[.pointer (some ⟨g, 0, none⟩), .string ⟨c.toArray⟩] w fun e w' => e = .returned (.tuple #[.string ⟨o.1.toArray⟩, .bool o.2]) ∧ w = w' := by
  subst ho
  exact super_any B g h c w H hl

def Next (h : Hr) (o : T × Bool) (rest : List T) : Prop := (o.2 = true → WayUp h.up o.1 rest) ∧ (o.2 = false → rest = [])
theorem next_of {h : Hr} {u : T} {t : List T} (hw : WayUp h.up u (u :: t)) : Next h (superT h u) t := by
  unfold superT Next
  cases hw with
  | top hu => rw [hu]; simp
  | step hu hw => rw [hu]; simp [hw]
def ChRel (w : World) (h : Hr) (c : T) (ch u ok : Value) (wr : World) : Prop :=
  ∃ (p rest : List T) (o : T × Bool), OwnT wr w.heap.size ch p ∧ h.chain c = p ++ rest ∧ u = .string ⟨o.1.toArray⟩ ∧ ok = .bool o.2 ∧ Next h o rest ∧ Below w.heap.size w wr

set_option maxRecDepth 100000 in
set_option maxHeartbeats 2000000 in
theorem chain_any (B g : Nat) (h : Hr) (c : T) (w : World) (H : IsH B w g h) (hB : B ≤ w.heap.size) (hg : GoodH h) (hl : c.length ≤ 140737488355328) :
    Calls Tryd.prog 17 #[.pointer (some ⟨g, 0, none⟩), .string ⟨c.toArray⟩] w fun e w' => ∃ v, e = .returned v ∧ OwnT w' w.heap.size v (h.chain c) ∧ Below w.heap.size w w' := by
  have HH := Lib.hid (fun (wr : World) (hb : Below w.heap.size w wr) => (H.mono hB).below hb)
  have hfew := H.few
  have Hlong := Lib.hid H.long
  have HIn := Lib.hid (fun d (hd : d ∈ h.chain c) => chain_in hg hd)
  have hlen := chain_len hg c
  by_cases hc : c ∈ h.names
  · have hw := chain_way hg hc
    obtain ⟨t, ht⟩ := hw.head
    have hn := next_of (ht ▸ hw)
    have Hhas := Lib.hid (has_iff.2 hc)
    have hct : h.chain c = [c] ++ t := ht
    have Hct := Lib.hid hct
    have Hcl := Lib.hid hl
    generalize hS : superT h c = S at *
    have HS := Lib.hid hS
    have HN := Lib.hid hn
    have Hlen := Lib.hid hlen
    have h0 := Lib.hid (Below.refl w.heap.size w)
    clear hw ht hn hS hct hc H hB hg hl hlen
    go_enter Tryd.func17, Tryd.ntmps17
    go_wp2_with (first
      | (go_at_call 15; refine (has_any _ g h c _ (HH.out _ h0.out)).mono ?_; rw [Hhas.out]; rintro e w' ⟨rfl, rfl⟩)
      | (go_at_call 10; refine (super_t _ g h c S _ (HH.out _ (h0.out.alloc (Nat.le_refl _) _)) Hcl.out HS.out).mono ?_; rintro e w' ⟨rfl, rfl⟩))
    go_loopw [5, 6, 7] (fun ch u ok wr => ChRel w h c ch u ok wr) (fun ch _ _ _ => 41 - lenV ch)
    case atStart => exact ⟨[c], t, S, OwnT.one w c, Hct.out, rfl, rfl, HN.out, h0.out.alloc (Nat.le_refl _) _⟩
    case round =>
      obtain ⟨p, rest, o, hown, hch, rfl, rfl, hnx, hbel⟩ := hrel
      obtain ⟨A, cc, rfl, hp1, hp2, hrd, _⟩ := hown.slice
      have Hown := Lib.hid hown
      have Hbel := Lib.hid hbel
      have hsz := hbel.size
      obtain ⟨u, ok⟩ := o
      have Hch := Lib.hid hch
      clear hown hbel hrd hp1 hp2 hch
      cases ok
      · have e := hnx.2 rfl
        subst e
        have Hfin := Lib.hid (show h.chain c = p by rw [Hch.out]; simp)
        clear hnx
        go_wp2_with fail
        go_ret
        exact ⟨_, rfl, by rw [Hfin.out]; exact Hown.out, Hbel.out⟩
      · have hwu := hnx.1 rfl
        obtain ⟨t, rfl⟩ := hwu.head
        have hN := Lib.hid (next_of hwu)
        have Hul := Lib.hid (show u.length ≤ 140737488355328 by have := Hlong.out u (HIn.out u (by rw [Hch.out]; simp)); omega)
        have hpl : p.length + 1 ≤ 41 := by
          have := Hlen.out
          rw [Hch.out] at this
          simp at this
          omega
        have Hch2 := Lib.hid (show h.chain c = (p ++ [u]) ++ t by rw [Hch.out]; simp)
        generalize hS2 : superT h u = S2 at *
        have HS2 := Lib.hid hS2
        clear hS2 hnx hwu
        go_wp2_with (first
          | (go_at_call 10; refine (super_t _ g h u S2 _ (HH.out _ Hb2.out) Hul.out HS2.out).mono ?_; rintro e w' ⟨rfl, rfl⟩)
          | (at_builtin
             refine appT rfl (.tmp 27) (.tmp 29) rfl w.heap.size _ p rfl (Hown.out.alloc _) (some ⟨wr.heap.size, 0, none⟩) 1 1 [u] rfl rfl (rds_new _ #[sv u] 9) (by simp; omega) (by simp; omega) ?_
             intro v2 w2 hown2 hg2
             have Hb2 := Lib.hid (below_own (Hbel.out.alloc hsz _) (Hown.out.alloc _) (Nat.le_refl _) (by simp; omega) hg2)
             have Hown2 := Lib.hid hown2
             clear hown2 hg2))
        go_roundw
        case rel => exact ⟨p ++ [u], t, S2, Hown2.out, Hch2.out, rfl, rfl, hN.out, Hb2.out⟩
        case measure =>
          obtain ⟨A2, c2, rfl, _⟩ := Hown2.out.slice
          simp [lenV]; omega
  · have Hhas := Lib.hid (show h.has c = false by simpa [Hr.has] using hc)
    have Hno := Lib.hid (chain_no hc)
    have h0 := Lib.hid (Below.refl w.heap.size w)
    clear H hB hg hl hlen hc
    go_enter Tryd.func17, Tryd.ntmps17
    go_wp2_with (go_at_call 15; refine (has_any _ g h c _ (HH.out _ h0.out)).mono ?_; rw [Hhas.out]; rintro e w' ⟨rfl, rfl⟩)
    go_ret
    exact ⟨_, rfl, by rw [Hno.out]; exact OwnT.nil _ _, h0.out⟩
theorem under_any (B g : Nat) (h : Hr) (a b : T) (w : World) (H : IsH B w g h) (hB : B ≤ w.heap.size) (hg : GoodH h) (hl : a.length ≤ 140737488355328) :
    Calls Tryd.prog 36 #[.pointer (some ⟨g, 0, none⟩), .string ⟨a.toArray⟩, .string ⟨b.toArray⟩] w fun e w' => e = .returned (.bool (h.under a b)) ∧ Below w.heap.size w w' := by
  have HC := Lib.hid (chain_any B g h a w H hB hg hl)
  have hlen := chain_len hg a
  have hfew := H.few
  clear H hB hg hl
  go_enter Tryd.func36, Tryd.ntmps36
  go_wp2_with fail
  refine Calls.mono HC.out ?_
  rintro e w1 ⟨v, rfl, hown, hb⟩
  obtain ⟨A, c, rfl, _, _, hr, _⟩ := hown.slice
  have HB := Lib.hid hb
  have HK := Lib.hid (show Calls Tryd.prog 35 #[.slice A (h.chain a).length c, .string ⟨b.toArray⟩] w1 fun e w' => e = .returned (.bool (h.under a b)) ∧ w1 = w' from contains_l A _ c (h.chain a) b w1 rfl (by omega) hr)
  clear hown hb hr
  go_wp2_with fail
  refine Calls.mono HK.out ?_
  rintro e w2 ⟨rfl, rfl⟩
  go_wp2_with fail
  go_ret
  exact ⟨rfl, HB.out⟩
end HierC
end Go.Proofs.YtilakpbgpdbchaaDoor
