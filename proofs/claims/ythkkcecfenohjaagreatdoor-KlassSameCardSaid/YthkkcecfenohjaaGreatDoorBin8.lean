/-
  Bytes of the call's own, and small functions on bytes: what each of them returns.
-/
import Derived.Test.YthkkcecfenohjaaGreatDoorBinPut
import Derived.Test.YthkkcecfenohjaaGreatDoorRefPut
import Derived.Test.YthkkcecfenohjaaGreatDoorBinGet
namespace Go.Proofs.YthkkcecfenohjaaGreatDoor
namespace Bin8
open Go.RowKit BinM BinNum Base BinE BinPut BinGet

theorem elem8 : (sizeOf (Tryz.prog.elem 33)).run Tryz.prog = fun W => .ok 1 W := by kernel_rfl

/-- a cut of a slice of bytes, as the walk meets it -/
theorem cut8 (W : World) (A : Option Addr) (n cap : Nat) (lo hi : Int) (h0 : 0 ≤ lo) (h1 : lo ≤ hi) (h2 : hi ≤ cap) :
    (Instr.slice 33 (.slice A n cap) (some (.int .i64 lo)) (some (.int .i64 hi)) none).run Tryz.prog W = .ok (.slice (if cap = lo.toNat then A else A.map (·.add lo.toNat)) (hi.toNat - lo.toNat) (cap - lo.toNat)) W := by
  have hu : Tryz.prog.underlying 33 = some (.slice (Tryz.prog.elem 33)) := by kernel_rfl
  rw [run_slice_lh W 33 A n cap hu .i64 .i64 lo hi h0 h1 h2, elem8]
  simp [Result.andThen, sliced]

/-- these bytes stand in a row of the call's own -/
def Own8 (w : World) (base : Nat) (v : Value) (p : List UInt8) : Prop := w.ownsRow base 5 1 v p.length (cells8 p)

theorem Own8.nil (w : World) (base : Nat) : Own8 w base (.slice none 0 0) [] := World.ownsRow_nil _ _ _ _

theorem app8 {ops : Array Oper} {rest : List Oper} {o : Oper} {a : Act} {w : World} {Q : Exit → Act → World → Prop} (hgd : o.guard = none) (s x : Operand)
    (ho : o.op = .call { callee := .builtin .append, args := #[s, x], argTypes := #[33, 33] })
    (base : Nat) (v : Value) (p : List UInt8) (hs : a.eval s = v) (hown : Own8 w base v p) (A : Option Addr) (m c : Nat) (l : List UInt8) (hx : a.eval x = .slice A m c)
    (hm : m = l.length) (hr : Rds w A (cells8 l)) (hlen : p.length + l.length ≤ 140737489403904) (hbase : base ≤ w.heap.size)
    (h : ∀ v' w', Own8 w' base v' (p ++ l) → w.grownBy w' v.ownBlock → wpList Tryz.prog ops Q rest (a.put o.dst v') w') : wpList Tryz.prog ops Q (o :: rest) a w := by
  obtain ⟨i0, hi, hz, hs1, hb1⟩ := info_parts info8
  refine wpList_append_rds hgd s x 33 ho base 5 i0 _ 1 Tryz.underlying33 hi hz hs1 hb1 rfl v p.length (cells8 p) hs hown A m c (cells8 l) hx (by rw [cells8_length, hm]) hr (cells8_one l) (by unfold maxLen; omega) (by omega) hbase ?_
  intro v' w' h1 h2
  refine h v' w' ?_ h2
  unfold Own8
  rw [cells8_append, List.length_append, ← hm]
  exact h1

theorem app8s {ops : Array Oper} {rest : List Oper} {o : Oper} {a : Act} {w : World} {Q : Exit → Act → World → Prop} (hgd : o.guard = none) (s x : Operand)
    (ho : o.op = .call { callee := .builtin .append, args := #[s, x], argTypes := #[33, 9] })
    (base : Nat) (v : Value) (p : List UInt8) (hs : a.eval s = v) (hown : Own8 w base v p) (t : ByteArray) (hx : a.eval x = .string t)
    (hlen : p.length + t.size ≤ 140737488355328) (hbase : base ≤ w.heap.size)
    (h : ∀ v' w', Own8 w' base v' (p ++ t.data.toList) → w.grownBy w' v.ownBlock → wpList Tryz.prog ops Q rest (a.put o.dst v') w') : wpList Tryz.prog ops Q (o :: rest) a w := by
  obtain ⟨i0, hi, hz, hs1, hb1⟩ := info_parts info8
  refine Lib.wpList_append_own_string w hgd s x 33 9 ho base 5 i0 Tryz.underlying33 Tryz.underlying9 hi hz hs1 hb1 v p.length (cells8 p) hs hown t hx (by unfold maxLen; omega) hlen hbase ?_
  intro v' w' h1 h2 _
  refine h v' w' ?_ h2
  unfold Own8
  have e : (p ++ t.data.toList).length = p.length + t.size := by simp
  rw [cells8_append, e]
  exact h1

/-- bytes of the call's own, as a slice -/
theorem Own8.slice {w : World} {base : Nat} {v : Value} {p : List UInt8} (h : Own8 w base v p) :
    ∃ A c, v = .slice A p.length c ∧ p.length ≤ c ∧ c ≤ maxLen ∧ Rds w A (cells8 p) ∧ ∀ a, A = some a → base ≤ a.block ∧ a.block < w.heap.size := by
  obtain ⟨A, c, rfl, h1, h2, h3, _⟩ := own_slice h
  exact ⟨A, c, rfl, h1, h2, Rds.own h, fun a ha => ⟨(h3 a ha).1, (h3 a ha).2.1⟩⟩

theorem own_below {w : World} {base : Nat} {v : Value} {p : List UInt8} (h : Own8 w base v p) {B : Nat} {w0 w' : World} (hb : Below B w0 w) (hB : B ≤ base) (hs : B ≤ w.heap.size) (hg : w.grownBy w' v.ownBlock) : Below B w0 w' :=
  below_own hb h hB hs hg

theorem own_kept {w w' : World} {base : Nat} {v : Value} {p : List UInt8} (h : Own8 w base v p) (hb : Below w.heap.size w w') : Own8 w' base v p := by
  obtain ⟨h1, h2⟩ := h
  refine ⟨h1, ?_⟩
  rcases h2 with h2 | ⟨g, cap, cur, a, b, c, d⟩
  · exact .inl h2
  · have hlt : g < w.heap.size := by
      rcases Nat.lt_or_ge g w.heap.size with hl | hl
      · exact hl
      · rw [Array.getElem?_eq_none hl] at c; cases c
    exact .inr ⟨g, cap, cur, a, b, by rw [hb.block g hlt]; exact c, d⟩

/-- Lent: the same bytes in new memory -/
theorem lent_any (A : Option Addr) (l : List UInt8) (m cap : Nat) (w : World) (hm : m = l.length) (hlen : m ≤ 140737489403904) (hr : Rds w A (cells8 l)) :
    Calls Tryz.prog 40 #[.slice A m cap] w (Gives8 w l) := by
  have Hm := Lib.hid hm
  have hml : l.length ≤ m := Nat.le_of_eq hm.symm
  clear hm
  go_enter Tryz.func40, Tryz.ntmps40
  go_wp2_with (at_builtin
               refine app8 rfl (.tmp 4) (.tmp 5) rfl w.heap.size (.slice none 0 0) [] rfl (Own8.nil _ _) A m cap l rfl Hm.out hr (by simp; omega) (Nat.le_refl _) ?_
               intro v1 w1 hown1 hg1
               have Hb := Lib.hid (own_below (Own8.nil w w.heap.size) (Below.refl _ _) (Nat.le_refl _) (Nat.le_refl _) hg1)
               have Hown1 := Lib.hid hown1
               clear hown1 hg1)
  go_ret
  exact ⟨v1, rfl, Hown1.out, Hb.out⟩


end Bin8
end Go.Proofs.YthkkcecfenohjaaGreatDoor
