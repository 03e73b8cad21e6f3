/-
  pool.addClasses: what it returns; and the document's own putting of a name.
-/
import Derived.Test.YtnkkeifjggcncaaDoorPoolN
import Derived.Maps.AppendAt
namespace Go.Proofs.YtnkkeifjggcncaaDoor
namespace PoolO
open Go.RowKit Base BinM DescM DescW DescX DescR DescP DescG Stru PoolM PoolA PoolN

/-- append of one name, and where the row then lies -/
theorem appS_at {ops : Array Oper} {rest : List Oper} {o : Oper} {a : Act} {w : World} {Q : Exit → Act → World → Prop} (hgd : o.guard = none) (s x : Operand)
    (ho : o.op = .call { callee := .builtin .append, args := #[s, x], argTypes := #[31, 31] })
    (base : Nat) (v : Value) (p : List (List UInt8)) (hs : a.eval s = v) (hown : OwnS w base v p) (g c : Nat) (l : List UInt8) (hx : a.eval x = .slice (some ⟨g, 0, none⟩) 1 c)
    (hc : w.cell? ⟨g, 0, none⟩ = some (str l)) (hlen : p.length ≤ 1048576) (hbase : base ≤ w.heap.size)
    (h : ∀ v' w', OwnS w' base v' (p ++ [l]) → w.grownBy w' v.ownBlock → (v'.ownBlock = v.ownBlock ∨ v'.ownBlock = some w.heap.size) → wpList Tryd.prog ops Q rest (a.put o.dst v') w') : wpList Tryd.prog ops Q (o :: rest) a w := by
  obtain ⟨i0, hi, hz, hs1, hb1⟩ := info_parts infoS
  refine wpList_plain hgd fun K hK => ?_
  obtain ⟨v', w', hrun, h2, h3, _, h5⟩ := run_append_own_at (P := Tryd.prog) w base 31 o.type 9 i0 _ 1 16 Tryd.underlying31 hi hz hs1 hb1 rfl (by omega) v p.length (p.map str) hown ⟨g, 0, none⟩ 1 c [str l] rfl
    (by intro j u hu
        match j, hu with
        | 0, hu => simp at hu; subst hu; exact hc
        | j + 1, hu => simp at hu)
    (by intro u hu; simp at hu; subst hu; rfl) (by unfold maxLen; omega) (by omega) hbase
  unfold Oper.wp execOp
  simp only [ho, resolve, invoke, builtin, Sem.run_bind, Sem.run_pure, Result.andThen_ok, List.map_toArray, List.map_cons, List.map_nil, hs, hx, hrun]
  refine hK _ _ (h v' w' ?_ h3 h5)
  unfold OwnS
  rw [List.map_append, List.length_append]
  exact h2

theorem ownS_kept {w w' : World} {base : Nat} {v : Value} {p : List (List UInt8)} (h : OwnS w base v p) (hb : Below w.heap.size w w') : OwnS w' base v p := by
  obtain ⟨h1, h2⟩ := h
  refine ⟨h1, ?_⟩
  rcases h2 with h2 | ⟨g, cap, cur, a, b, c, d⟩
  · exact .inl h2
  · have hlt : g < w.heap.size := by
      rcases Nat.lt_or_ge g w.heap.size with hl | hl
      · exact hl
      · rw [Array.getElem?_eq_none hl] at c; cases c
    exact .inr ⟨g, cap, cur, a, b, by rw [hb.block g hlt]; exact c, d⟩

/-- a call hands back names in the caller's row, which may have grown -/
def GivesA (w : World) (base : Nat) (l : List (List UInt8)) (e : Ending) (w' : World) : Prop := ∃ v, e = .returned v ∧ OwnS w' base v l ∧ Below base w w'

/-- the loop's way -/
def RelA (w : World) (base g : Nat) (names ts : List (List UInt8)) (v i : Value) (wr : World) : Prop :=
  ∃ k : Nat, k ≤ ts.length ∧ i = .int .i64 k ∧ OwnS wr base v (addAll names (ts.take k)) ∧ Below base w wr ∧ wr.heap[g]? = w.heap[g]? ∧ v.ownBlock ≠ some g

theorem add_take {names ts : List (List UInt8)} {k : Nat} (h : k < ts.length) : addAll names (ts.take (k + 1)) = addOne (addAll names (ts.take k)) ts[k] := by
  rw [List.take_succ_eq_append_getElem h]
  unfold addAll
  rw [List.foldl_append]
  rfl
theorem one_len (l : List (List UInt8)) (t : List UInt8) : (addOne l t).length ≤ l.length + 1 := by
  unfold addOne
  split
  · unfold addT
    split <;> simp
  · omega
theorem all_len (ts : List (List UInt8)) : ∀ l : List (List UInt8), (addAll l ts).length ≤ l.length + ts.length := by
  induction ts with
  | nil => intro l; simp [addAll]
  | cons t r ih =>
    intro l
    have h1 := ih (addOne l t)
    have h2 := one_len l t
    simp only [addAll, List.foldl_cons, List.length_cons] at h1 ⊢
    omega

set_option maxRecDepth 100000 in
set_option maxHeartbeats 4000000 in
theorem addClasses_any (base : Nat) (v : Value) (names : List (List UInt8)) (g m c : Nat) (ts : List (List UInt8)) (w : World) (h : OwnS w base v names) (hbase : base ≤ w.heap.size) (hnl : names.length ≤ 1000)
    (hm : m = ts.length) (hm1 : m ≤ 1000) (hg : g < w.heap.size) (hc : ∀ k (hk : k < ts.length), w.cell? ⟨g, k, none⟩ = some (.string ⟨ts[k].toArray⟩)) (hvg : v.ownBlock ≠ some g) (hok : ∀ t ∈ ts, okT t ∧ t.length ≤ 1048576) :
    Calls Tryd.prog 33 #[v, .slice (some ⟨g, 0, none⟩) m c] w (GivesA w base (addAll names ts)) := by
  have hml : ts.length ≤ m := Nat.le_of_eq hm.symm
  have hml2 : m ≤ ts.length := Nat.le_of_eq hm
  have Hc := Lib.hid hc
  have Hok := Lib.hid hok
  have H := Lib.hid h
  have Hvg := Lib.hid hvg
  clear hm hc hok h hvg
  go_enter Tryd.func33, Tryd.ntmps33
  go_wp2
  go_loopw [0, 6, 7, 8, 11] (fun v _ _ _ i wr => RelA w base g names ts v i wr) (fun _ _ _ _ i _ => m - (intOf i).toNat)
  case atStart => exact ⟨0, Nat.zero_le _, rfl, H.out, Below.refl _ _, rfl, Hvg.out⟩
  case round =>
    obtain ⟨k, hk, rfl, hown, hbel, hblk, hvg2⟩ := hrel
    have Hbel := Lib.hid hbel
    have hsz := hbel.size
    have Hblk := Lib.hid hblk
    have Hvg2 := Lib.hid hvg2
    by_cases hlt : k < ts.length
    · have hcell : wr.cell? ⟨g, k, none⟩ = some (.string ⟨ts[k].toArray⟩) := (World.cell?_of_block (a := ⟨g, k, none⟩) hblk).trans (Hc.out k hlt)
      have hokk := Hok.out ts[k] (List.getElem_mem hlt)
      have ht := add_take (names := names) hlt
      have hal : (addAll names (ts.take k)).length ≤ 2000 := by
        have h1 := all_len (ts.take k) names
        have h2 : (ts.take k).length ≤ k := by simp; omega
        omega
      generalize hx : ts[k] = x at *
      generalize hpp : addAll names (ts.take k) = p at *
      have Hpp := Lib.hid hpp
      obtain ⟨A, d, rfl, hd1, hd2, hr, _⟩ := OwnS.slice hown
      have Hown := Lib.hid hown
      have Hr := Lib.hid hr
      have hin := innermost_any x wr hokk.1 (by omega)
      have hcl : (coreD x).length ≤ 1048576 := by unfold coreD; rw [List.length_drop]; omega
      have hcls := class_any (coreD x) wr (by omega)
      have hone : addOne p x = if (classT (coreD x)).2 then addT p (classT (coreD x)).1 else p := rfl
      rw [hone] at ht
      generalize classT (coreD x) = C at *
      obtain ⟨nm, ok⟩ := C
      unfold twoB at hcls
      simp only at ht hcls
      have Ht := Lib.hid ht
      have Hin := Lib.hid hin
      have Hcls := Lib.hid hcls
      clear hone ht hin hcls hx hpp hown hr hbel hblk hvg2 hokk
      generalize hpl : p.length = q at *
      have Hpl := Lib.hid hpl
      clear hpl
      go_wp2_with fail
      refine Calls.mono Hin.out ?_
      rintro e w' ⟨rfl, rfl⟩
      go_wp2_with fail
      refine Calls.mono Hcls.out ?_
      rintro e w' ⟨rfl, rfl⟩
      cases ok
      · have Hnext := Lib.hid (show addAll names (ts.take (k + 1)) = p by rw [Ht.out]; rfl)
        go_wp2_with fail
        go_roundw
        case rel => exact ⟨k + 1, by omega, by go_num, by rw [Hnext.out]; exact Hown.out, Hbel.out, Hblk.out, Hvg2.out⟩
        case measure => simp [intOf]; omega
      · go_wp2_with fail
        refine (contains_any A p q d nm wr Hpl.out.symm (Nat.le_trans hd1 hd2) Hr.out).mono ?_
        cases hcn : p.contains nm
        · rintro e w' ⟨rfl, rfl⟩
          have Hnext := Lib.hid (show addAll names (ts.take (k + 1)) = p ++ [nm] by rw [Ht.out, if_pos trivial]; unfold addT; rw [hcn]; rfl)
          have hgl : g < wr.heap.size := Nat.lt_of_lt_of_le hg hsz
          clear hcn
          go_wp2_with (at_builtin
                       refine appS_at rfl (.tmp 28) (.tmp 30) rfl base _ p rfl (ownS_kept Hown.out ((Below.refl wr.heap.size wr).alloc (Nat.le_refl _) _)) wr.heap.size 1 nm rfl (by rw [cell_of_row _ _ 0 _ 9 (0, 0) (heap_alloc_new wr _)]; rfl) (by have := Hpl.out; omega) (by simp; omega) ?_
                       intro v2 w2 hown2 hg2 hloc
                       have Hb2 := Lib.hid (below_own (Hbel.out.alloc (by omega) _) (ownS_kept Hown.out ((Below.refl wr.heap.size wr).alloc (Nat.le_refl _) _)) (Nat.le_refl _) (by simp; omega) hg2)
                       have Hblk2 := Lib.hid (((hg2.block g (by simp; omega) (fun e => Hvg2.out e.symm)).trans (Below.heap_alloc wr _ g hgl)).trans Hblk.out)
                       have Hvg3 : Hid (v2.ownBlock ≠ some g) := Lib.hid (by
                         rcases hloc with e | e
                         · rw [e]; exact Hvg2.out
                         · rw [e]; intro h; injection h with h; simp at h; omega)
                       have Hown2 := Lib.hid hown2
                       clear hown2 hg2 hloc)
          go_roundw
          case rel => exact ⟨k + 1, by omega, by go_num, by rw [Hnext.out]; exact Hown2.out, Hb2.out, Hblk2.out, Hvg3.out⟩
          case measure => simp [intOf]; omega
        · rintro e w' ⟨rfl, rfl⟩
          have Hnext := Lib.hid (show addAll names (ts.take (k + 1)) = p by rw [Ht.out, if_pos trivial]; unfold addT; rw [hcn]; rfl)
          clear hcn
          go_wp2_with fail
          go_roundw
          case rel => exact ⟨k + 1, by omega, by go_num, by rw [Hnext.out]; exact Hown.out, Hbel.out, Hblk.out, Hvg2.out⟩
          case measure => simp [intOf]; omega
    · have e : ts.take k = ts := List.take_of_length_le (by omega)
      rw [e] at hown
      have Hown := Lib.hid hown
      clear hown hbel hblk hvg2 e
      go_wp2_with fail
      go_ret
      exact ⟨_, rfl, Hown.out, Hbel.out⟩

end PoolO
end Go.Proofs.YtnkkeifjggcncaaDoor
