/-
  What a table hands out of its classes: Classes, Class.
-/
import Derived.Test.YtblikehnfdhcpaaGreatDoorTabO
namespace Go.Proofs.YtblikehnfdhcpaaGreatDoor
namespace TabCs
open Go.RowKit Base BinM Stru DescM DescW DescX DescS DescG DescP DescQ HierS HierT HierM HierC HierD HierN Kls KlsP KlsQ OpenK TabC TabM TabK TabP TabE TabB TabG TabH TabT TabU TabV TabX TabW TabN TabO TabY

/-- so many classes handed out: clones of the classes L -/
structure N0 (w0 wr : World) (A : Option Addr) (cap : Nat) (cs L : List ClsT) : Prop where
  own : wr.ownsRow w0.heap.size 40 5 (.slice A cs.length cap) cs.length (cs.flatMap valsC)
  bare : cs.map bareC = L.map bareC
  each : ∀ y ∈ cs, OwnK w0.heap.size wr y
  far : ∀ y ∈ cs, ∀ b, OnC y b → some b ≠ (Value.slice A cs.length cap).ownBlock
  bel : Below w0.heap.size w0 wr
theorem N0.start (w : World) : N0 w w none 0 [] [] := ⟨World.ownsRow_nil _ _ _ _, rfl, by simp, by simp, Below.refl _ _⟩
theorem N0.ext {w0 wr w' : World} {A : Option Addr} {cap : Nat} {cs L : List ClsT} (h : N0 w0 wr A cap cs L) (hb : Below wr.heap.size wr w') : N0 w0 w' A cap cs L :=
  ⟨TabM.own_same h.own (fun q hq => hb.block q (h.own.lt q hq).2), h.bare, fun y hy => (h.each y hy).below hb, h.far, h.bel.trans (hb.mono h.bel.size)⟩
theorem N0.push {w0 W W2 : World} {A : Option Addr} {cap : Nat} {cs L : List ClsT} (h : N0 w0 W A cap cs L) {x y : ClsT} (hy : OwnK w0.heap.size W y) (hyf : ∀ b, OnC y b → some b ≠ (Value.slice A cs.length cap).ownBlock) (hxy : bareC y = bareC x) (v : Value)
    (hF : W2.ownsRow w0.heap.size 40 5 v (cs.length + 1) ((cs ++ [y]).flatMap valsC)) (hg : W.grownBy W2 (Value.slice A cs.length cap).ownBlock) (hat : v.ownBlock = (Value.slice A cs.length cap).ownBlock ∨ v.ownBlock = some W.heap.size) :
    ∃ A' cap', v = .slice A' (cs ++ [y]).length cap' ∧ N0 w0 W2 A' cap' (cs ++ [y]) (L ++ [x]) := by
  obtain ⟨A', cap', rfl, _, _, _, _⟩ := own_slice hF
  have hsz2 := hg.size
  have hl : (cs ++ [y]).length = cs.length + 1 := by simp
  refine ⟨A', cap', by rw [hl], by rw [hl]; exact hF, ?_, ?_, ?_, below_own h.bel h.own (Nat.le_refl _) h.bel.size hg⟩
  · rw [List.map_append, List.map_append, h.bare, List.map_cons, List.map_cons, hxy]
  · intro z hz
    rcases List.mem_append.1 hz with hz | hz
    · exact (h.each z hz).same hsz2 (fun b hb => hg.block b ((h.each z hz).on b hb).2 (h.far z hz b hb))
    · simp at hz; subst hz; exact hy.same hsz2 (fun b hb => hg.block b (hy.on b hb).2 (hyf b hb))
  · intro z hz b hb
    rw [hl]
    have hold : OwnK w0.heap.size W z ∧ some b ≠ (Value.slice A cs.length cap).ownBlock := by
      rcases List.mem_append.1 hz with hz | hz
      · exact ⟨h.each z hz, h.far z hz b hb⟩
      · simp at hz; subst hz; exact ⟨hy, hyf b hb⟩
    rcases hat with e | e
    · rw [e]; exact hold.2
    · rw [e]
      have := (hold.1.on b hb).2
      intro e2
      injection e2 with e2
      omega

set_option maxRecDepth 100000 in
theorem appCl {ops : Array Oper} {rest : List Oper} {o : Oper} {a : Act} {w : World} {Q : Exit → Act → World → Prop} (hgd : o.guard = none) (s x : Operand)
    (ho : o.op = .call { callee := .builtin .append, args := #[s, x], argTypes := #[22, 22] })
    (base : Nat) (v : Value) (p : List ClsT) (hs : a.eval s = v) (hown : w.ownsRow base 40 5 v p.length (p.flatMap valsC)) (g c : Nat) (y : ClsT) (hx : a.eval x = .slice (some ⟨g, 0, none⟩) 1 c)
    (hr : Rds w (some ⟨g, 0, none⟩) (valsC y)) (hlen : p.length ≤ 100000) (hbase : base ≤ w.heap.size)
    (h : ∀ v' w', w'.ownsRow base 40 5 v' (p.length + 1) ((p ++ [y]).flatMap valsC) → w.grownBy w' v.ownBlock → (v'.ownBlock = v.ownBlock ∨ v'.ownBlock = some w.heap.size) → wpList Tryz.prog ops Q rest (a.put o.dst v') w') : wpList Tryz.prog ops Q (o :: rest) a w := by
  obtain ⟨i0, hi, hz, hs1, hb1⟩ := info_parts TabO.infoC
  refine wpList_plain hgd fun K hK => ?_
  obtain ⟨v', w', hrun, h2, h3, _, h5⟩ := run_append_own_at (P := Tryz.prog) w base 22 o.type 40 i0 _ 5 104 Tryz.underlying22 hi hz hs1 hb1 rfl (by omega) v p.length (p.flatMap valsC) hown ⟨g, 0, none⟩ 1 c (valsC y) rfl
    (by intro j u hu
        rcases hr with h0 | ⟨b, o', hA, _, hc⟩
        · rw [h0] at hu; simp at hu
        · injection hA with hA
          rw [hA, Addr.add_mid]
          exact hc j u hu)
    (by intro u hu; unfold valsC at hu; simp at hu; rcases hu with rfl | rfl | rfl | rfl | rfl <;> rfl) (by unfold maxLen; omega) (by omega) hbase
  unfold Oper.wp execOp
  simp only [ho, resolve, invoke, builtin, Sem.run_bind, Sem.run_pure, Result.andThen_ok, List.map_toArray, List.map_cons, List.map_nil, hs, hx, hrun]
  refine hK _ _ (h v' w' ?_ h3 h5)
  rw [List.flatMap_append]
  simpa using h2

/-- classes that are not long -/
def Short (L : List ClsT) : Prop := ∀ x ∈ L, x.consts.length ≤ 10000 ∧ x.fields.length ≤ 10000 ∧ x.meths.length ≤ 10000 ∧ ∀ z ∈ x.meths, z.code.length ≤ 10000 ∧ z.hand.length ≤ 10000

end TabCs
end Go.Proofs.YtblikehnfdhcpaaGreatDoor
