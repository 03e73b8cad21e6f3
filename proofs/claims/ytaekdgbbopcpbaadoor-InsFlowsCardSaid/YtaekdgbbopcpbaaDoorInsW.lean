/-
  The document's putting of a number in its place; which constants code uses: ins.Uses and the document's own: what each call returns.
-/
import Derived.Test.YtaekdgbbopcpbaaDoorInsV
import Derived.Test.YtaekdgbbopcpbaaDoorInsJ
namespace Go.Proofs.YtaekdgbbopcpbaaDoor
namespace InsW
open Go.RowKit Base InsM InsA InsB Stru InsC InsT InsU InsV

def u_cell (w : World) (b o k : Nat) (x : Int) : Prop := w.cell? ⟨b, o + k, none⟩ = some (.int .i64 x)

/-- the loop's way of putting -/
def RelP (w : World) (l : List Int) (n : Int) (o f i : Value) (wr : World) : Prop :=
  ∃ k : Nat, k ≤ l.length ∧ i = .int .i64 k ∧ (∀ y ∈ l.take k, y ≠ n) ∧ Below w.heap.size w wr ∧
    ((f = .bool false ∧ (∀ y ∈ l.take k, ¬ n < y) ∧ OwnJ wr w.heap.size o (l.take k)) ∨ (f = .bool true ∧ (∃ y ∈ l.take k, n < y) ∧ OwnJ wr w.heap.size o (insB n (l.take k))))

theorem insB_len (n : Int) : ∀ l : List Int, (insB n l).length = l.length + 1
  | [] => rfl
  | x :: t => by unfold insB; split <;> simp [insB_len n t]

theorem rds_one (w : World) (x : Value) (t : TypeId) : Rds (w.alloc (.cells #[x] t)) (some ⟨w.heap.size, 0, none⟩) [x] := rds_new w #[x] t

/-- a call hands back numbers in a row of the caller's own -/
def GivesIn (w : World) (base : Nat) (l : List Int) (e : Ending) (w' : World) : Prop := ∃ v, e = .returned v ∧ OwnJ w' base v l ∧ Below w.heap.size w w'

set_option maxRecDepth 100000 in
set_option maxHeartbeats 2000000 in
theorem place_any (base : Nat) (v : Value) (l : List Int) (n : Int) (w : World) (h : OwnJ w base v l) (hbase : base ≤ w.heap.size) (hlen : l.length ≤ 100000) :
    Calls Tryd.prog 81 #[v, .int .i64 n] w (GivesIn w base (insI l n)) := by
  obtain ⟨A, c, rfl, h1, h2, hr, _⟩ := h.slice
  have H := Lib.hid h
  have Hr := Lib.hid hr
  have hc : c ≤ 9223372036854775807 := by unfold maxLen at h2; omega
  clear h hr
  generalize hm : l.length = m at *
  have hml : l.length ≤ m := Nat.le_of_eq hm
  have hml2 : m ≤ l.length := Nat.le_of_eq hm.symm
  have Hm := Lib.hid hm
  clear hm
  go_enter Tryd.func81, Tryd.ntmps81
  go_wp2_with fail
  go_loopw [5, 6, 7] (fun o f i wr => RelP w l n o f i wr) (fun _ _ i _ => m - (intOf i).toNat)
  case atStart => exact ⟨0, Nat.zero_le _, rfl, by simp, Below.refl _ _, .inl ⟨rfl, by simp, OwnJ.nil _ _⟩⟩
  case round =>
    obtain ⟨k, hk, rfl, hne, hbel, hways⟩ := hrel
    have Hbel := Lib.hid hbel
    have hsz := hbel.size
    have Hne := Lib.hid hne
    clear hne
    by_cases hlt : k < l.length
    · obtain ⟨b, o, rfl, hb, hcell'⟩ := Hr.out.at_ (k := k) (by simpa using hlt)
      have hcell0 : u_cell w b o k l[k] := by unfold u_cell; rw [hcell']; simp
      have hcell : u_cell wr b o k l[k] := (hbel.cell (p := ⟨b, o + k, none⟩) hb).trans hcell0
      have ht : l.take (k + 1) = l.take k ++ [l[k]] := List.take_succ_eq_append_getElem hlt
      have hmem : l[k] ∈ l := List.getElem_mem hlt
      have htl : (l.take k).length ≤ k := by simp; omega
      clear hcell' hbel
      generalize hx : l[k] = x at *
      have Hcell0 := Lib.hid hcell0
      clear hcell0
      unfold u_cell at hcell
      by_cases hxn : x = n
      · subst hxn
        have Hfin := Lib.hid (show insI l x = l by unfold insI; rw [if_pos hmem])
        have Hown := Lib.hid (ownJ_kept H.out Hbel.out)
        have heq : (x == x) = true := by simp
        clear hx ht hways
        go_wp2_with fail
        go_ret
        exact ⟨_, rfl, by rw [Hfin.out, ← Hm.out] at *; exact Hown.out, Hbel.out⟩
      · have heq : (x == n) = false := by simpa using hxn
        have Hne2 : Hid (∀ y ∈ l.take (k + 1), y ≠ n) := Lib.hid (fun y hy => by
          rw [ht] at hy
          rcases List.mem_append.1 hy with hy | hy
          · exact Hne.out y hy
          · simp at hy; subst hy; exact hxn)
        have Ht := Lib.hid ht
        clear hx ht hxn
        rcases hways with ⟨rfl, hno, hown⟩ | ⟨rfl, hyes, hown⟩
        · have Hown := Lib.hid hown
          by_cases hnx : n < x
          · have Hfin := Lib.hid (show insB n (l.take (k + 1)) = l.take k ++ [n] ++ [x] by rw [Ht.out]; exact insB_here hno hnx)
            have Hyes := Lib.hid (show ∃ y ∈ l.take (k + 1), n < y from ⟨x, by rw [Ht.out]; simp, hnx⟩)
            clear hno hown
            go_wp2_with (first
              | (at_builtin
                 refine appJ rfl (.tmp 35) (.tmp 40) rfl w.heap.size _ (l.take k ++ [n]) rfl (ownJ_kept Hown2.out ((Below.refl w2.heap.size w2).alloc (Nat.le_refl _) _)) (some ⟨w2.heap.size, 0, none⟩) 1 1 [x] rfl rfl (rds_new _ _ _) (by simp; omega) (by simp; omega) ?_
                 intro v3 w3 hown3 hg3
                 have Hb3 := Lib.hid (ownJ_below (ownJ_kept Hown2.out ((Below.refl w2.heap.size w2).alloc (Nat.le_refl _) _)) (Hb2.out.alloc hsz2 _) (Nat.le_refl _) (by simp; omega) hg3)
                 have Hown3 := Lib.hid hown3
                 clear hown3 hg3)
              | (at_builtin
                 refine appJ rfl (.tmp 31) (.tmp 33) rfl w.heap.size _ (l.take k) rfl (ownJ_kept Hown.out ((Below.refl wr.heap.size wr).alloc (Nat.le_refl _) _)) (some ⟨wr.heap.size, 0, none⟩) 1 1 [n] rfl rfl (rds_new _ _ _) (by simp; omega) (by simp; omega) ?_
                 intro v2 w2 hown2 hg2
                 have hk2 := ownJ_below (ownJ_kept Hown.out ((Below.refl wr.heap.size wr).alloc (Nat.le_refl _) _)) (Hbel.out.alloc hsz _) (Nat.le_refl _) (by simp; omega) hg2
                 have hcell2 : w2.cell? ⟨b, o + k, none⟩ = some (.int .i64 x) := (hk2.cell (p := ⟨b, o + k, none⟩) hb).trans Hcell0.out
                 have hsz2 := hk2.size
                 have Hb2 := Lib.hid hk2
                 have Hown2 := Lib.hid hown2
                 clear hown2 hg2 hk2))
            go_roundw
            case rel => exact ⟨k + 1, by omega, by go_num, Hne2.out, Hb3.out, .inr ⟨rfl, Hyes.out, by rw [Hfin.out]; exact Hown3.out⟩⟩
            case measure => simp [intOf]; omega
          · have Hno : Hid (∀ y ∈ l.take (k + 1), ¬ n < y) := Lib.hid (fun y hy => by
              rw [Ht.out] at hy
              rcases List.mem_append.1 hy with hy | hy
              · exact hno y hy
              · simp at hy; subst hy; exact hnx)
            have hnx' : decide (n < x) = false := decide_eq_false hnx
            clear hno hown
            go_wp2_with (at_builtin
                         refine appJ rfl (.tmp 35) (.tmp 40) rfl w.heap.size _ (l.take k) rfl (ownJ_kept Hown.out ((Below.refl wr.heap.size wr).alloc (Nat.le_refl _) _)) (some ⟨wr.heap.size, 0, none⟩) 1 1 [x] rfl rfl (rds_new _ _ _) (by simp; omega) (by simp; omega) ?_
                         intro v2 w2 hown2 hg2
                         have Hb2 := Lib.hid (ownJ_below (ownJ_kept Hown.out ((Below.refl wr.heap.size wr).alloc (Nat.le_refl _) _)) (Hbel.out.alloc hsz _) (Nat.le_refl _) (by simp; omega) hg2)
                         have Hown2 := Lib.hid hown2
                         clear hown2 hg2)
            go_roundw
            case rel => exact ⟨k + 1, by omega, by go_num, Hne2.out, Hb2.out, .inl ⟨rfl, Hno.out, by rw [Ht.out]; exact Hown2.out⟩⟩
            case measure => simp [intOf]; omega
        · have Hown := Lib.hid hown
          have Hfin := Lib.hid (show insB n (l.take (k + 1)) = insB n (l.take k) ++ [x] by rw [Ht.out]; exact insB_past hyes)
          have Hyes : Hid (∃ y ∈ l.take (k + 1), n < y) := Lib.hid (by
            obtain ⟨y, hy, hlt⟩ := hyes
            exact ⟨y, by rw [Ht.out]; exact List.mem_append_left _ hy, hlt⟩)
          have hil : (insB n (l.take k)).length ≤ k + 1 := by rw [insB_len]; omega
          clear hyes hown
          go_wp2_with (at_builtin
                       refine appJ rfl (.tmp 35) (.tmp 40) rfl w.heap.size _ (insB n (l.take k)) rfl (ownJ_kept Hown.out ((Below.refl wr.heap.size wr).alloc (Nat.le_refl _) _)) (some ⟨wr.heap.size, 0, none⟩) 1 1 [x] rfl rfl (rds_new _ _ _) (by simp; omega) (by simp; omega) ?_
                       intro v2 w2 hown2 hg2
                       have Hb2 := Lib.hid (ownJ_below (ownJ_kept Hown.out ((Below.refl wr.heap.size wr).alloc (Nat.le_refl _) _)) (Hbel.out.alloc hsz _) (Nat.le_refl _) (by simp; omega) hg2)
                       have Hown2 := Lib.hid hown2
                       clear hown2 hg2)
          go_roundw
          case rel => exact ⟨k + 1, by omega, by go_num, Hne2.out, Hb2.out, .inr ⟨rfl, Hyes.out, by rw [Hfin.out]; exact Hown2.out⟩⟩
          case measure => simp [intOf]; omega
    · have e : l.take k = l := List.take_of_length_le (by omega)
      have hni : n ∉ l := fun hm => by
        have := Hne.out n (by rw [e]; exact hm)
        exact this rfl
      rw [e] at hways
      rcases hways with ⟨rfl, hno, hown⟩ | ⟨rfl, hyes, hown⟩
      · have Hfin := Lib.hid (show insI l n = l ++ [n] by unfold insI; rw [if_neg hni, insB_none hno])
        have Hown := Lib.hid hown
        clear hno hown hni hbel e
        go_wp2_with (at_builtin
                     refine appJ rfl (.tmp 44) (.tmp 46) rfl w.heap.size _ l rfl (ownJ_kept Hown.out ((Below.refl wr.heap.size wr).alloc (Nat.le_refl _) _)) (some ⟨wr.heap.size, 0, none⟩) 1 1 [n] rfl rfl (rds_new _ _ _) (by simp; omega) (by simp; omega) ?_
                     intro v2 w2 hown2 hg2
                     have Hb2 := Lib.hid (ownJ_below (ownJ_kept Hown.out ((Below.refl wr.heap.size wr).alloc (Nat.le_refl _) _)) (Hbel.out.alloc hsz _) (Nat.le_refl _) (by simp; omega) hg2)
                     have Hown2 := Lib.hid hown2
                     clear hown2 hg2)
        go_ret
        exact ⟨_, rfl, by rw [Hfin.out]; exact own_mono Hown2.out hbase, Hb2.out⟩
      · have Hfin := Lib.hid (show insI l n = insB n l by unfold insI; rw [if_neg hni])
        have Hown := Lib.hid hown
        clear hyes hown hni hbel e
        go_wp2_with fail
        go_ret
        exact ⟨_, rfl, by rw [Hfin.out]; exact own_mono Hown.out hbase, Hbel.out⟩

end InsW
end Go.Proofs.YtaekdgbbopcpbaaDoor
