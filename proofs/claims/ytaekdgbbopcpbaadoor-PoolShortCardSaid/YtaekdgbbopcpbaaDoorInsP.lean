/-
  Code as bytes: ins.Put and the document's own: what each call returns.
-/
import Derived.Test.YtaekdgbbopcpbaaDoorInsC
import Derived.Test.YtaekdgbbopcpbaaDoorCat
import Derived.Test.YtaekdgbbopcpbaaDoorBinAll
namespace Go.Proofs.YtaekdgbbopcpbaaDoor
namespace InsP
open Go.RowKit InsM Base InsA InsB Stru InsC BinM BinE BinPut Bin8 BinAll Cat

/-- numbers in a row of the call's own -/
def OwnI (w : World) (base : Nat) (v : Value) (l : List Int) : Prop := w.ownsRow base 2 1 v l.length (l.map (Value.int .i64))
theorem info64 : (Tryd.prog.info? 2).map (fun i => (i.zero, i.size, i.bytes)) = some (some (.int .i64 0), 1, 8) := by kernel_rfl

theorem one_int (l : List Int) : ∀ u ∈ l.map (Value.int .i64), u.oneCell' = true := by
  intro u hu
  obtain ⟨t, _, rfl⟩ := List.mem_map.1 hu
  rfl

theorem appI {ops : Array Oper} {rest : List Oper} {o : Oper} {a : Act} {w : World} {Q : Exit → Act → World → Prop} (hgd : o.guard = none) (s x : Operand)
    (ho : o.op = .call { callee := .builtin .append, args := #[s, x], argTypes := #[94, 94] })
    (base : Nat) (v : Value) (p : List Int) (hs : a.eval s = v) (hown : OwnI w base v p) (A : Option Addr) (m c : Nat) (l : List Int) (hx : a.eval x = .slice A m c)
    (hm : m = l.length) (hr : Rds w A (l.map (Value.int .i64))) (hlen : p.length + l.length ≤ 1048576) (hbase : base ≤ w.heap.size)
    (h : ∀ v' w', OwnI w' base v' (p ++ l) → w.grownBy w' v.ownBlock → wpList Tryd.prog ops Q rest (a.put o.dst v') w') : wpList Tryd.prog ops Q (o :: rest) a w := by
  obtain ⟨i0, hi, hz, hs1, hb1⟩ := info_parts info64
  refine wpList_append_rds hgd s x 94 ho base 2 i0 _ 8 Tryd.underlying94 hi hz hs1 hb1 rfl v p.length (p.map (Value.int .i64)) hs hown A m c (l.map (Value.int .i64)) hx (by rw [List.length_map, hm]) hr (one_int l) (by unfold maxLen; omega) (by omega) hbase ?_
  intro v' w' h1 h2
  refine h v' w' ?_ h2
  unfold OwnI
  rw [List.map_append, List.length_append, ← hm]
  exact h1

/-- a row of one number, just made -/
theorem own_one (w : World) (n : Int) : OwnI (w.alloc (.cells #[.int .i64 n] 2)) w.heap.size (.slice (some ⟨w.heap.size, 0, none⟩) 1 1) [n] :=
  ⟨rfl, .inr ⟨w.heap.size, 1, _, rfl, Nat.le_refl _, heap_alloc_new w _, Nat.le_refl _, by simp [maxLen], rfl, rfl⟩⟩

/-- what was below a number stays so behind an append onto a row of the call's own -/
theorem ownI_below {B base : Nat} {v : Value} {p : List Int} {w0 w w' : World} (h : OwnI w base v p) (hb : Below B w0 w) (hB : B ≤ base) (hs : B ≤ w.heap.size) (hg : w.grownBy w' v.ownBlock) : Below B w0 w' :=
  below_own hb h hB hs hg

theorem ownI_kept {w w' : World} {base : Nat} {v : Value} {p : List Int} (h : OwnI w base v p) (hb : Below w.heap.size w w') : OwnI w' base v p := by
  obtain ⟨h1, h2⟩ := h
  refine ⟨h1, ?_⟩
  rcases h2 with h2 | ⟨g, cap, cur, a, b, c, d⟩
  · exact .inl h2
  · have hlt : g < w.heap.size := by
      rcases Nat.lt_or_ge g w.heap.size with hl | hl
      · exact hl
      · rw [Array.getElem?_eq_none hl] at c; cases c
    exact .inr ⟨g, cap, cur, a, b, by rw [hb.block g hlt]; exact c, d⟩

theorem OwnI.slice {w : World} {base : Nat} {v : Value} {p : List Int} (h : OwnI w base v p) :
    ∃ A c, v = .slice A p.length c ∧ p.length ≤ c ∧ c ≤ maxLen ∧ Rds w A (p.map (Value.int .i64)) := by
  obtain ⟨A, c, rfl, h1, h2, h3, _⟩ := own_slice h
  exact ⟨A, c, rfl, h1, h2, Rds.own h⟩

/-- the numbers of an instruction, of code -/
def insN (x : InsT) : List Int := if kindI x.1 = 0 then [x.1] else [x.1, x.2]
def codeN (n : Nat) (l : List InsT) : List Int := (n : Int) :: l.flatMap insN
/-- whether an instruction can be put -/
def putOk (x : InsT) : Bool := !(kindI x.1 == -1) && decide (0 ≤ x.2) && !((kindI x.1 == 0) && !(x.2 == 0))
/-- bytes, and behind them the bytes of code; the error's number -/
def putI (b : List UInt8) (l : List InsT) : List UInt8 × Int := if 512 < l.length then ([], 6) else if l.all putOk then (b ++ nums (codeN l.length l), 0) else ([], 12)

theorem insN_len (x : InsT) : (insN x).length ≤ 2 := by unfold insN; split <;> simp
theorem flat_ins_len (l : List InsT) : (l.flatMap insN).length ≤ 2 * l.length := by
  induction l with
  | nil => simp
  | cons x t ih => have := insN_len x; simp only [List.flatMap_cons, List.length_append, List.length_cons]; omega
theorem codeN_len (n : Nat) (l : List InsT) : (codeN n l).length ≤ 2 * l.length + 1 := by
  have := flat_ins_len l
  simp only [codeN, List.length_cons]; omega
theorem codeN_snoc (n : Nat) (l : List InsT) (x : InsT) : codeN n (l ++ [x]) = codeN n l ++ insN x := by simp [codeN]
theorem codeN_take {n : Nat} {l : List InsT} {k : Nat} (h : k < l.length) : codeN n (l.take (k + 1)) = codeN n (l.take k) ++ insN l[k] := by
  rw [List.take_succ_eq_append_getElem h, codeN_snoc]
theorem codeN_fit {n : Nat} {l : List InsT} (hn : n ≤ 512) (h : ∀ x ∈ l, fitI x.1 ∧ fitI x.2) : ∀ x ∈ codeN n l, -9223372036854775808 ≤ x ∧ x ≤ 9223372036854775807 := by
  intro y hy
  simp only [codeN, List.mem_cons, List.mem_flatMap] at hy
  rcases hy with rfl | ⟨x, hx, hy⟩
  · omega
  · have := h x hx
    unfold fitI at this
    unfold insN at hy
    split at hy
    · simp at hy; subst hy; exact this.1
    · simp at hy
      rcases hy with rfl | rfl
      · exact this.1
      · exact this.2

theorem put_size {b : List UInt8} {l : List InsT} (h : 512 < l.length) : putI b l = ([], 6) := by unfold putI; rw [if_pos h]
theorem put_bad {b : List UInt8} {l : List InsT} (h : ¬ 512 < l.length) {k : Nat} (hk : k < l.length) (h2 : putOk l[k] = false) : putI b l = ([], 12) := by
  unfold putI
  rw [if_neg h, if_neg]
  intro ha
  rw [List.all_eq_true] at ha
  have := ha l[k] (List.getElem_mem hk)
  rw [h2] at this
  cases this
theorem put_good {b : List UInt8} {l : List InsT} (h : ¬ 512 < l.length) (ha : ∀ j (hj : j < l.length), putOk l[j] = true) : putI b l = (b ++ nums (codeN l.length l), 0) := by
  unfold putI
  rw [if_neg h, if_pos]
  rw [List.all_eq_true]
  intro x hx
  obtain ⟨j, hj, rfl⟩ := List.getElem_of_mem hx
  exact ha j hj

/-- the ways of one instruction -/
theorem ok_cases (op a : Int) : (kindI op = -1 ∧ putOk (op, a) = false) ∨ (0 ≤ kindI op ∧ kindI op ≤ 7 ∧ a < 0 ∧ putOk (op, a) = false) ∨ (kindI op = 0 ∧ 0 < a ∧ putOk (op, a) = false) ∨
    (kindI op = 0 ∧ a = 0 ∧ putOk (op, a) = true ∧ insN (op, a) = [op]) ∨ (0 < kindI op ∧ kindI op ≤ 7 ∧ 0 ≤ a ∧ putOk (op, a) = true ∧ insN (op, a) = [op, a]) := by
  have hr := kind_range op
  unfold putOk insN
  generalize kindI op = K at *
  simp only
  by_cases h1 : K = -1
  · exact .inl ⟨h1, by simp [h1]⟩
  · by_cases h2 : a < 0
    · exact .inr (.inl ⟨by omega, by omega, h2, by
        have : decide (0 ≤ a) = false := decide_eq_false (by omega)
        rw [this]; simp⟩)
    · have h3 : decide (0 ≤ a) = true := decide_eq_true (by omega)
      have h4 : (K == -1) = false := by simpa using h1
      by_cases h5 : K = 0
      · by_cases h6 : a = 0
        · exact .inr (.inr (.inr (.inl ⟨h5, h6, by rw [h5, h6]; rfl, by rw [if_pos h5]⟩)))
        · refine .inr (.inr (.inl ⟨h5, by omega, ?_⟩))
          have : (a == 0) = false := by simpa using h6
          rw [this, h5]; simp
      · refine .inr (.inr (.inr (.inr ⟨by omega, by omega, by omega, ?_, by rw [if_neg h5]⟩)))
        have : (K == 0) = false := by simpa using h5
        rw [h3, h4, this]; simp

/-- a call hands back bytes in new memory, and an error's number -/
def Gives8N (w : World) (r : List UInt8 × Int) (e : Ending) (w' : World) : Prop :=
  ∃ v, e = .returned (.tuple #[v, .int .i64 r.2]) ∧ Own8 w' w.heap.size v r.1 ∧ Below w.heap.size w w'

theorem gives8N {w w' : World} {r : List UInt8 × Int} {v : Value} {t : List UInt8} {n : Int} (h : r = (t, n)) (ho : Own8 w' w.heap.size v t) (hb : Below w.heap.size w w') : Gives8N w r (.returned (.tuple #[v, .int .i64 n])) w' := by
  subst h
  exact ⟨v, rfl, ho, hb⟩

/-- a row just made behind another new block -/
theorem rds_new2 (w : World) (o : Obj) (cs : Array Value) (t : TypeId) : Rds ((w.alloc o).alloc (.cells cs t)) (some ⟨w.heap.size + 1, 0, none⟩) cs.toList := by
  have := rds_new (w.alloc o) cs t
  simpa using this

/-- a struct of the call's own keeps its cells over an append onto another row -/
theorem keep2 {w w2 : World} {x y : Value} {t : TypeId} {o : Obj} {row : Option Nat} (hg : ((w.alloc (.cells #[x, y] t)).alloc o).grownBy w2 row) (hrow : ∀ g, row = some g → g < w.heap.size) :
    w2.cell? ⟨w.heap.size, 0, none⟩ = some x ∧ w2.cell? ⟨w.heap.size, 1, none⟩ = some y := by
  have h0 : (w.alloc (.cells #[x, y] t)).cell? ⟨w.heap.size, 0, none⟩ = some x := by
    rw [cell_of_row _ _ 0 #[x, y] t (0, 0) (heap_alloc_new w _)]; rfl
  have h1 : (w.alloc (.cells #[x, y] t)).cell? ⟨w.heap.size, 1, none⟩ = some y := by
    rw [cell_of_row _ _ 1 #[x, y] t (0, 0) (heap_alloc_new w _)]; rfl
  have hne : some w.heap.size ≠ row := fun e => by have := hrow _ e.symm; omega
  exact ⟨hg.cell ((World.cell?_alloc_lt _ _ _ (by simp)).trans h0) hne, hg.cell ((World.cell?_alloc_lt _ _ _ (by simp)).trans h1) hne⟩

/-- the loop's way -/
def Rel (w : World) (l : List InsT) (o i : Value) (wr : World) : Prop :=
  ∃ k : Nat, k ≤ l.length ∧ i = .int .i64 k ∧ (∀ j (hj : j < l.length), j < k → putOk l[j] = true) ∧ OwnI wr w.heap.size o (codeN l.length (l.take k)) ∧ Below w.heap.size w wr

end InsP
end Go.Proofs.YtaekdgbbopcpbaaDoor
