/-
  The classes that types name: the type within an array's brackets, and whether a name is among others: what pool.innermost and the library's Contains return.
  pool.addClasses: what it returns; and the document's own putting of a name.
  The document's own putting of a name among names: what it returns.
  The document's own Types; pool.Names: what each call returns.
-/
import Derived.Test.YtiagjnimafdbhaaGreatDoorG17
import Derived.Maps.AppendAt
import Derived.ArgAppend
namespace Go.Proofs.YtiagjnimafdbhaaGreatDoor
namespace PoolN
open Go.RowKit Base BinM DescM DescW DescX DescR DescP DescG Stru PoolM PoolA

/-- a type without its brackets -/
def coreD (t : List UInt8) : List UInt8 := t.drop (brk t)
def addT (l : List (List UInt8)) (x : List UInt8) : List (List UInt8) := if l.contains x then l else l ++ [x]
def addOne (l : List (List UInt8)) (t : List UInt8) : List (List UInt8) := if (classT (coreD t)).2 then addT l (classT (coreD t)).1 else l
def addAll (l ts : List (List UInt8)) : List (List UInt8) := ts.foldl addOne l
/-- the classes that a constant names -/
def namesC (c : Cst) : List (List UInt8) :=
  if rightC c then (if c.kind = 3 then addOne [] c.s else if c.kind = 4 then addOne [c.s] c.u else if c.kind = 5 then addAll [c.s] ((splitT c.u).2.1 ++ [(splitT c.u).1]) else []) else []

/-- a type of a value, or what gives none -/
def okT (t : List UInt8) : Prop := rightB t = true ∨ t = [86]

theorem brk_drop_le : ∀ (l : List UInt8) (j : Nat), j ≤ brk l → brk (l.drop j) = brk l - j
  | _, 0, _ => by simp
  | [], j + 1, h => by simp [brk] at h
  | c :: t, j + 1, h => by
    by_cases hc : c = 91
    · have e : brk (c :: t) = brk t + 1 := by simp [brk, hc]
      rw [e] at h ⊢
      rw [List.drop_succ_cons, brk_drop_le t j (by omega)]
      omega
    · have e : brk (c :: t) = 0 := by simp [brk, hc]
      rw [e] at h; omega

theorem right_drop {l : List UInt8} (h : rightB l = true) {j : Nat} (hj : j ≤ brk l) : rightB (l.drop j) = true := by
  rw [right_tail] at h ⊢
  rw [brk_drop_le l j hj, List.drop_drop, show j + (brk l - j) = brk l by omega]
  simp only [Bool.and_eq_true, decide_eq_true_eq] at h ⊢
  exact ⟨by omega, h.2⟩

theorem elem_more {l : List UInt8} (h : okT l) {j : Nat} (hj : j < brk l) : elemT (l.drop j) = (l.drop (j + 1), 0) := by
  have hb := brk_le l
  rcases h with h | rfl
  · have hr := right_drop h (j := j) (by omega)
    have hh : (l.drop j).head? = some 91 := by
      rw [List.head?_drop, List.getElem?_eq_getElem (by omega), brk_at l j (by omega) hj]
    unfold elemT elemB
    rw [hr, hh]
    simp
  · simp [brk] at hj
theorem elem_end {l : List UInt8} : elemT (l.drop (brk l)) = ([], 10) := by
  unfold elemT elemB
  have hh : ¬ (l.drop (brk l)).head? = some 91 := by
    rw [List.head?_drop]
    intro h
    have hlt : brk l < l.length := (List.getElem?_eq_some_iff.1 h).1
    rw [List.getElem?_eq_getElem hlt] at h
    exact brk_stop l hlt (by injection h)
  have : ((l.drop (brk l)).head? == some 91) = false := by simpa using hh
  rw [this, Bool.and_false]; rfl

theorem ret_str {x : ByteArray} {t : List UInt8} (h : x = ⟨t.toArray⟩) : Ending.returned (.string x) = .returned (.string ⟨t.toArray⟩) := by rw [h]

/-- the loop's way -/
def RelI (l : List UInt8) (d el e : Value) : Prop := ∃ j : Nat, j ≤ brk l ∧ d = .string ⟨(l.drop j).toArray⟩ ∧ el = .string ⟨(elemT (l.drop j)).1.toArray⟩ ∧ e = .int .i64 (elemT (l.drop j)).2

set_option maxRecDepth 100000 in
theorem innermost_any (l : List UInt8) (w : World) (h : okT l) (hl : l.length ≤ 140737488355327) :
    Calls Tryz.prog 184 #[.string ⟨l.toArray⟩] w fun e w' => e = .returned (.string ⟨(coreD l).toArray⟩) ∧ w = w' := by
  have hb := brk_le l
  have Hmore := Lib.hid (fun j (hj : j < brk l) => elem_more h hj)
  have Hend := Lib.hid (elem_end (l := l))
  have h0 := elem_any l w (by omega)
  obtain ⟨b, hbk⟩ : ∃ b, b = brk l := ⟨_, rfl⟩
  have Hbk := Lib.hid hbk
  have H0 := Lib.hid h0
  rw [← hbk] at hb
  clear h h0 hbk
  go_enter Tryz.func184, Tryz.ntmps184
  go_wp2_with fail
  refine Calls.mono H0.out ?_
  unfold twoI
  rintro e w' ⟨rfl, rfl⟩
  go_wp2_with fail
  go_loop [0, 3, 4] (fun d el e => RelI l d el e) (fun d _ _ => sizeV d)
  case atStart => exact ⟨0, Nat.zero_le _, rfl, rfl, rfl⟩
  case round =>
    obtain ⟨j, hj, rfl, rfl, rfl⟩ := hrel
    by_cases hlt : j < b
    · have e1 := Hmore.out j (by rw [← Hbk.out]; exact hlt)
      have hln : (l.drop (j + 1)).length ≤ l.length := by rw [List.length_drop]; omega
      have hlen : (l.drop (j + 1)).length < (l.drop j).length := by rw [List.length_drop, List.length_drop]; omega
      have Hlen := Lib.hid hlen
      rw [e1]
      have h1 := elem_any (l.drop (j + 1)) w (by omega)
      unfold twoI at h1
      have Hb2 := Lib.hid (show j + 1 ≤ brk l by rw [← Hbk.out]; omega)
      generalize hE : elemT (l.drop (j + 1)) = E at *
      obtain ⟨e2, e3⟩ := E
      have HE := Lib.hid hE
      have H1 := Lib.hid h1
      clear h1 e1 hE hj
      go_wp2_with fail
      refine Calls.mono H1.out ?_
      rintro e w' ⟨rfl, rfl⟩
      go_wp2_with fail
      go_round
      case rel => exact ⟨j + 1, Hb2.out, rfl, by rw [HE.out], by rw [HE.out]⟩
      case measure => exact Hlen.out
    · have hjb : j = brk l := by rw [← Hbk.out] at hj; have := Hbk.out; omega
      subst hjb
      have e1 := Hend.out
      rw [e1]
      clear e1 hj
      go_wp2_with fail
      go_ret
      exact ⟨rfl, rfl⟩

theorem contains_any (A : Option Addr) (ts : List (List UInt8)) (m c : Nat) (x : List UInt8) (w : World) (hm : m = ts.length) (hmx : m ≤ maxLen) (hr : Rds w A (ts.map str)) :
    Calls Tryz.prog 41 #[.slice A m c, .string ⟨x.toArray⟩] w fun e w' => e = .returned (.bool (ts.contains x)) ∧ w = w' := by
  subst hm
  rcases Nat.eq_zero_or_pos ts.length with h0 | h0
  · have : ts = [] := List.eq_nil_of_length_eq_zero h0
    subst this
    exact (Tryz.slices_Contains_string_empty A c ⟨x.toArray⟩ w).mono fun _ _ ⟨h1, h2⟩ => ⟨by rw [h1]; rfl, h2.symm⟩
  · rcases hr with hr | ⟨b, o, rfl, hb, hc⟩
    · have : ts.length = 0 := by simpa using congrArg List.length hr
      omega
    · refine (Tryz.slices_Contains_string b o ts.length c (ts.map fun t => ⟨t.toArray⟩) ⟨x.toArray⟩ w (by simp) (by unfold maxLen at hmx; omega) ?_).mono fun _ _ ⟨h1, h2⟩ => ⟨?_, h2.symm⟩
      · intro j hj
        have hj' : j < ts.length := by simpa using hj
        rw [hc j (str ts[j]) (by simp [hj'])]
        simp [str, List.getD_eq_getElem?_getD, hj']
      · rw [h1]
        congr 2
        rw [Bool.eq_iff_iff, Lib.containsS_iff, List.take_of_length_le (by simp), List.contains_iff_mem]
        simp only [List.mem_map]
        constructor
        · rintro ⟨t, ht, e⟩
          have : t = x := by
            have := congrArg (fun b : ByteArray => b.data.toList) e
            simpa using this
          subst this
          exact ht
        · intro hx
          exact ⟨x, hx, rfl⟩

end PoolN
end Go.Proofs.YtiagjnimafdbhaaGreatDoor

namespace Go.Proofs.YtiagjnimafdbhaaGreatDoor
namespace PoolO
open Go.RowKit Base BinM DescM DescW DescX DescR DescP DescG Stru PoolM PoolA PoolN

/-- append of one name, and where the row then lies -/
theorem appS_at {ops : Array Oper} {rest : List Oper} {o : Oper} {a : Act} {w : World} {Q : Exit → Act → World → Prop} (hgd : o.guard = none) (s x : Operand)
    (ho : o.op = .call { callee := .builtin .append, args := #[s, x], argTypes := #[49, 49] })
    (base : Nat) (v : Value) (p : List (List UInt8)) (hs : a.eval s = v) (hown : OwnS w base v p) (g c : Nat) (l : List UInt8) (hx : a.eval x = .slice (some ⟨g, 0, none⟩) 1 c)
    (hc : w.cell? ⟨g, 0, none⟩ = some (str l)) (hlen : p.length ≤ 1048576) (hbase : base ≤ w.heap.size)
    (h : ∀ v' w', OwnS w' base v' (p ++ [l]) → w.grownBy w' v.ownBlock → (v'.ownBlock = v.ownBlock ∨ v'.ownBlock = some w.heap.size) → wpList Tryz.prog ops Q rest (a.put o.dst v') w') : wpList Tryz.prog ops Q (o :: rest) a w := by
  obtain ⟨i0, hi, hz, hs1, hb1⟩ := info_parts infoS
  refine wpList_plain hgd fun K hK => ?_
  obtain ⟨v', w', hrun, h2, h3, _, h5⟩ := run_append_own_at (P := Tryz.prog) w base 49 o.type 9 i0 _ 1 16 Tryz.underlying49 hi hz hs1 hb1 rfl (by omega) v p.length (p.map str) hown ⟨g, 0, none⟩ 1 c [str l] rfl
    (by intro j u hu
        match j, hu with
        | 0, hu => simp at hu; subst hu; exact hc
        | j + 1, hu => simp at hu)
    (by intro u hu; simp at hu; subst hu; rfl) (by unfold maxLen; omega) (by omega) hbase
  unfold Oper.wp execOp
  simp only [ho, resolve, invoke, builtin, Sem.run_bind, Sem.run_pure, Result.andThen_ok, List.map_toArray, List.map_cons, List.map_nil, hs, hx, hrun]
  refine hK _ _ (h v' w' ?_ h3 h5)
  unfold OwnS
  rw [List.map_append, List.length_append]
  exact h2

theorem ownS_kept {w w' : World} {base : Nat} {v : Value} {p : List (List UInt8)} (h : OwnS w base v p) (hb : Below w.heap.size w w') : OwnS w' base v p := by
  obtain ⟨h1, h2⟩ := h
  refine ⟨h1, ?_⟩
  rcases h2 with h2 | ⟨g, cap, cur, a, b, c, d⟩
  · exact .inl h2
  · have hlt : g < w.heap.size := by
      rcases Nat.lt_or_ge g w.heap.size with hl | hl
      · exact hl
      · rw [Array.getElem?_eq_none hl] at c; cases c
    exact .inr ⟨g, cap, cur, a, b, by rw [hb.block g hlt]; exact c, d⟩

/-- a call hands back names in the caller's row, which may have grown -/
def GivesA (w : World) (base : Nat) (l : List (List UInt8)) (e : Ending) (w' : World) : Prop := ∃ v, e = .returned v ∧ OwnS w' base v l ∧ Below base w w'

/-- the loop's way -/
def RelA (w : World) (base g : Nat) (names ts : List (List UInt8)) (v i : Value) (wr : World) : Prop :=
  ∃ k : Nat, k ≤ ts.length ∧ i = .int .i64 k ∧ OwnS wr base v (addAll names (ts.take k)) ∧ Below base w wr ∧ wr.heap[g]? = w.heap[g]? ∧ v.ownBlock ≠ some g

theorem add_take {names ts : List (List UInt8)} {k : Nat} (h : k < ts.length) : addAll names (ts.take (k + 1)) = addOne (addAll names (ts.take k)) ts[k] := by
  rw [List.take_succ_eq_append_getElem h]
  unfold addAll
  rw [List.foldl_append]
  rfl
theorem one_len (l : List (List UInt8)) (t : List UInt8) : (addOne l t).length ≤ l.length + 1 := by
  unfold addOne
  split
  · unfold addT
    split <;> simp
  · omega
theorem all_len (ts : List (List UInt8)) : ∀ l : List (List UInt8), (addAll l ts).length ≤ l.length + ts.length := by
  induction ts with
  | nil => intro l; simp [addAll]
  | cons t r ih =>
    intro l
    have h1 := ih (addOne l t)
    have h2 := one_len l t
    simp only [addAll, List.foldl_cons, List.length_cons] at h1 ⊢
    omega

set_option maxRecDepth 100000 in
set_option maxHeartbeats 4000000 in
theorem addClasses_any (base : Nat) (v : Value) (names : List (List UInt8)) (g m c : Nat) (ts : List (List UInt8)) (w : World) (h : OwnS w base v names) (hbase : base ≤ w.heap.size) (hnl : names.length ≤ 1000)
    (hm : m = ts.length) (hm1 : m ≤ 1000) (hg : g < w.heap.size) (hc : ∀ k (hk : k < ts.length), w.cell? ⟨g, k, none⟩ = some (.string ⟨ts[k].toArray⟩)) (hvg : v.ownBlock ≠ some g) (hok : ∀ t ∈ ts, okT t ∧ t.length ≤ 1048576) :
    Calls Tryz.prog 150 #[v, .slice (some ⟨g, 0, none⟩) m c] w (GivesA w base (addAll names ts)) := by
  have hml : ts.length ≤ m := Nat.le_of_eq hm.symm
  have hml2 : m ≤ ts.length := Nat.le_of_eq hm
  have Hc := Lib.hid hc
  have Hok := Lib.hid hok
  have H := Lib.hid h
  have Hvg := Lib.hid hvg
  clear hm hc hok h hvg
  go_enter Tryz.func150, Tryz.ntmps150
  go_wp2
  go_loopw [0, 6, 7, 8, 11] (fun v _ _ _ i wr => RelA w base g names ts v i wr) (fun _ _ _ _ i _ => m - (intOf i).toNat)
  case atStart => exact ⟨0, Nat.zero_le _, rfl, H.out, Below.refl _ _, rfl, Hvg.out⟩
  case round =>
    obtain ⟨k, hk, rfl, hown, hbel, hblk, hvg2⟩ := hrel
    have Hbel := Lib.hid hbel
    have hsz := hbel.size
    have Hblk := Lib.hid hblk
    have Hvg2 := Lib.hid hvg2
    by_cases hlt : k < ts.length
    · have hcell : wr.cell? ⟨g, k, none⟩ = some (.string ⟨ts[k].toArray⟩) := (World.cell?_of_block (a := ⟨g, k, none⟩) hblk).trans (Hc.out k hlt)
      have hokk := Hok.out ts[k] (List.getElem_mem hlt)
      have ht := add_take (names := names) hlt
      have hal : (addAll names (ts.take k)).length ≤ 2000 := by
        have h1 := all_len (ts.take k) names
        have h2 : (ts.take k).length ≤ k := by simp; omega
        omega
      generalize hx : ts[k] = x at *
      generalize hpp : addAll names (ts.take k) = p at *
      have Hpp := Lib.hid hpp
      obtain ⟨A, d, rfl, hd1, hd2, hr, _⟩ := OwnS.slice hown
      have Hown := Lib.hid hown
      have Hr := Lib.hid hr
      have hin := innermost_any x wr hokk.1 (by omega)
      have hcl : (coreD x).length ≤ 1048576 := by unfold coreD; rw [List.length_drop]; omega
      have hcls := class_any (coreD x) wr (by omega)
      have hone : addOne p x = if (classT (coreD x)).2 then addT p (classT (coreD x)).1 else p := rfl
      rw [hone] at ht
      generalize classT (coreD x) = C at *
      obtain ⟨nm, ok⟩ := C
      unfold twoB at hcls
      simp only at ht hcls
      have Ht := Lib.hid ht
      have Hin := Lib.hid hin
      have Hcls := Lib.hid hcls
      clear hone ht hin hcls hx hpp hown hr hbel hblk hvg2 hokk
      generalize hpl : p.length = q at *
      have Hpl := Lib.hid hpl
      clear hpl
      go_wp2_with fail
      refine Calls.mono Hin.out ?_
      rintro e w' ⟨rfl, rfl⟩
      go_wp2_with fail
      refine Calls.mono Hcls.out ?_
      rintro e w' ⟨rfl, rfl⟩
      cases ok
      · have Hnext := Lib.hid (show addAll names (ts.take (k + 1)) = p by rw [Ht.out]; rfl)
        go_wp2_with fail
        go_roundw
        case rel => exact ⟨k + 1, by omega, by go_num, by rw [Hnext.out]; exact Hown.out, Hbel.out, Hblk.out, Hvg2.out⟩
        case measure => simp [intOf]; omega
      · go_wp2_with fail
        refine (contains_any A p q d nm wr Hpl.out.symm (Nat.le_trans hd1 hd2) Hr.out).mono ?_
        cases hcn : p.contains nm
        · rintro e w' ⟨rfl, rfl⟩
          have Hnext := Lib.hid (show addAll names (ts.take (k + 1)) = p ++ [nm] by rw [Ht.out, if_pos trivial]; unfold addT; rw [hcn]; rfl)
          have hgl : g < wr.heap.size := Nat.lt_of_lt_of_le hg hsz
          clear hcn
          go_wp2_with (at_builtin
                       refine appS_at rfl (.tmp 28) (.tmp 30) rfl base _ p rfl (ownS_kept Hown.out ((Below.refl wr.heap.size wr).alloc (Nat.le_refl _) _)) wr.heap.size 1 nm rfl (by rw [cell_of_row _ _ 0 _ 9 (0, 0) (heap_alloc_new wr _)]; rfl) (by have := Hpl.out; omega) (by simp; omega) ?_
                       intro v2 w2 hown2 hg2 hloc
                       have Hb2 := Lib.hid (below_own (Hbel.out.alloc (by omega) _) (ownS_kept Hown.out ((Below.refl wr.heap.size wr).alloc (Nat.le_refl _) _)) (Nat.le_refl _) (by simp; omega) hg2)
                       have Hblk2 := Lib.hid (((hg2.block g (by simp; omega) (fun e => Hvg2.out e.symm)).trans (Below.heap_alloc wr _ g hgl)).trans Hblk.out)
                       have Hvg3 : Hid (v2.ownBlock ≠ some g) := Lib.hid (by
                         rcases hloc with e | e
                         · rw [e]; exact Hvg2.out
                         · rw [e]; intro h; injection h with h; simp at h; omega)
                       have Hown2 := Lib.hid hown2
                       clear hown2 hg2 hloc)
          go_roundw
          case rel => exact ⟨k + 1, by omega, by go_num, by rw [Hnext.out]; exact Hown2.out, Hb2.out, Hblk2.out, Hvg3.out⟩
          case measure => simp [intOf]; omega
        · rintro e w' ⟨rfl, rfl⟩
          have Hnext := Lib.hid (show addAll names (ts.take (k + 1)) = p by rw [Ht.out, if_pos trivial]; unfold addT; rw [hcn]; rfl)
          clear hcn
          go_wp2_with fail
          go_roundw
          case rel => exact ⟨k + 1, by omega, by go_num, by rw [Hnext.out]; exact Hown.out, Hbel.out, Hblk.out, Hvg2.out⟩
          case measure => simp [intOf]; omega
    · have e : ts.take k = ts := List.take_of_length_le (by omega)
      rw [e] at hown
      have Hown := Lib.hid hown
      clear hown hbel hblk hvg2 e
      go_wp2_with fail
      go_ret
      exact ⟨_, rfl, Hown.out, Hbel.out⟩

end PoolO
end Go.Proofs.YtiagjnimafdbhaaGreatDoor

namespace Go.Proofs.YtiagjnimafdbhaaGreatDoor
namespace PoolP
open Go.RowKit Base BinM DescM DescW DescX DescR DescP DescG Stru PoolM PoolA PoolN PoolO

end PoolP
end Go.Proofs.YtiagjnimafdbhaaGreatDoor

namespace Go.Proofs.YtiagjnimafdbhaaGreatDoor
namespace PoolQ
open Go.RowKit Base BinM DescM DescW DescX DescR DescP DescQ DescG Stru PoolM PoolA PoolB PoolC PoolN PoolO PoolP

/-! what a right text of a method is -/
theorem parse_ok : ∀ (n : Nat) (l : List UInt8) (ts : List (List UInt8)) (g : List UInt8), parse n l = some (ts, g) → (∀ t ∈ ts, rightB t = true ∧ t.length ≤ l.length) ∧ ts.length ≤ n ∧ g.length ≤ l.length
  | 0, l, ts, g, h => by
    by_cases h41 : l.head? = some 41
    · rw [parse_41 0 h41] at h
      injection h with h
      injection h with h1 h2
      subst h1; subst h2
      exact ⟨by simp, by simp, by simp⟩
    · rw [parse_zero h41] at h; cases h
  | n + 1, l, ts, g, h => by
    by_cases h41 : l.head? = some 41
    · rw [parse_41 (n + 1) h41] at h
      injection h with h
      injection h with h1 h2
      subst h1; subst h2
      exact ⟨by simp, by simp, by simp⟩
    · cases hl : leadT l with
      | none => rw [parse_none (n + 1) h41 hl] at h; cases h
      | some k =>
        rw [parse_some n h41 hl] at h
        obtain ⟨r, hr, e⟩ := Option.map_eq_some_iff.1 h
        obtain ⟨ts', g'⟩ := r
        injection e with e1 e2
        subst e1; subst e2
        obtain ⟨i1, i2, i3⟩ := parse_ok n (l.drop k) ts' g' hr
        have hle := lead_le hl
        rw [List.length_drop] at i1 i3
        refine ⟨fun t ht => ?_, by simp; omega, by simp only; omega⟩
        rcases List.mem_cons.1 ht with rfl | ht
        · exact ⟨(right_take hle.2.1).2 hl, by simp; omega⟩
        · have := i1 t ht
          exact ⟨this.1, by omega⟩

theorem split_ok {u : List UInt8} (h : (splitT u).2.2 = 0) : (∀ t ∈ (splitT u).2.1, okT t ∧ t.length ≤ u.length) ∧ (splitT u).2.1.length ≤ 6 ∧ okT (splitT u).1 ∧ (splitT u).1.length ≤ u.length := by
  unfold splitT at h ⊢
  by_cases h40 : u.head? = some 40
  · rw [if_pos h40] at h ⊢
    cases hp : parse 6 (u.drop 1) with
    | none => rw [hp] at h; simp at h
    | some r =>
      obtain ⟨ts, g⟩ := r
      rw [hp] at h
      simp only at h ⊢
      obtain ⟨i1, i2, i3⟩ := parse_ok 6 _ ts g hp
      rw [List.length_drop] at i1 i3
      cases hg : givenB g
      · rw [hg] at h; simp at h
      · simp only [if_true]
        refine ⟨fun t ht => ⟨.inl (i1 t ht).1, by have := (i1 t ht).2; omega⟩, i2, ?_, by omega⟩
        rw [given_or] at hg
        simp only [Bool.or_eq_true, beq_iff_eq] at hg
        rcases hg with hg | hg
        · exact .inr hg
        · exact .inl hg
  · rw [if_neg h40] at h; simp at h

end PoolQ
end Go.Proofs.YtiagjnimafdbhaaGreatDoor
