/-
  A heap and the document's heap side by side: what each call does to both.
-/
import Derived.Test.YtfmodaelpldpfaaHpU
namespace Go.Proofs.Ytfmodaelpldpfaa
namespace HpW
open Go.RowKit Base BinM HpM HpA HpS HpB HpG HpP HpT HpY HpZ HpR HpQ HpE HpF HpI HpJ HpL HpO HpU

structure Sim (w0 wr : World) (g mb : Nat) (Aw : Option Addr) (cw : Nat) (Aa : Option Addr) (ca r : Nat) (AL : Option Addr) (cL most : Nat) (ms : List ThM) (n : Nat) (f : Int → Option Int) : Prop where
  hp : HpX wr g mb Aw cw Aa ca most (raw (things ms)) (adr 0 (things ms)) n f
  rf : RfX wr r AL cL most ms
  fits : Fits most (things ms)
  apart : ∀ k, feet g mb Aw Aa k → ¬ rfeet r AL ms k
  own : ∀ k, feet g mb Aw Aa k → w0.heap.size ≤ k
  rown : ∀ k, rfeet r AL ms k → w0.heap.size ≤ k
  bel : Below w0.heap.size w0 wr
  sent : ∀ m ∈ ms, f m.at_ = if m.t.s = 0 then none else some m.t.s
  none_ : ∀ a, a ∉ adr 0 (things ms) → f a = none
/-- both heaps, of at most N things -/
def SimE (w0 wr : World) (g r most N : Nat) : Prop := ∃ mb Aw cw Aa ca AL cL ms n f, Sim w0 wr g mb Aw cw Aa ca r AL cL most ms n f ∧ ms.length ≤ N ∧ n ≤ N

section
variable {w0 wr w' w1 : World} {g mb : Nat} {Aw : Option Addr} {cw : Nat} {Aa : Option Addr} {ca r : Nat} {AL : Option Addr} {cL most : Nat} {ms : List ThM} {n : Nat} {f : Int → Option Int}

theorem Sim.beside (S : Sim w0 wr g mb Aw cw Aa ca r AL cL most ms n f) (hb : Below wr.heap.size wr w') : Sim w0 w' g mb Aw cw Aa ca r AL cL most ms n f :=
  ⟨S.hp.beside hb, S.rf.beside hb, S.fits, S.apart, S.own, S.rown, S.bel.trans (hb.mono S.bel.size), S.sent, S.none_⟩
theorem SimE.beside {N : Nat} (S : SimE w0 wr g r most N) (hb : Below wr.heap.size wr w') : SimE w0 w' g r most N := by
  obtain ⟨a1, a2, a3, a4, a5, a6, a7, a8, a9, a10, S, h⟩ := S
  exact ⟨_, _, _, _, _, _, _, _, _, _, S.beside hb, h⟩
theorem SimE.more {N : Nat} (S : SimE w0 wr g r most N) : SimE w0 wr g r most (N + 1) := by
  obtain ⟨a1, a2, a3, a4, a5, a6, a7, a8, a9, a10, S, h1, h2⟩ := S
  exact ⟨_, _, _, _, _, _, _, _, _, _, S, by omega, by omega⟩
theorem SimE.low {N : Nat} (S : SimE w0 wr g r most N) : Below w0.heap.size w0 wr := by
  obtain ⟨a1, a2, a3, a4, a5, a6, a7, a8, a9, a10, S, _⟩ := S
  exact S.bel

/-- between the two calls: the heap has changed, the document's has not -/
structure Mid (w0 w1 : World) (g mb : Nat) (r : Nat) (AL : Option Addr) (cL most : Nat) (ms : List ThM) (ts' : List Th) (n' : Nat) (f' : Int → Option Int) (X : Option (Nat × Array Value × TypeId)) : Prop where
  ex : ∃ Aw cw Aa ca, HpX w1 g mb Aw cw Aa ca most (raw ts') (adr 0 ts') n' f' ∧ (∀ k, feet g mb Aw Aa k → ¬ rfeet r AL ms k) ∧ (∀ k, feet g mb Aw Aa k → w0.heap.size ≤ k)
  rf : RfX w1 r AL cL most ms
  rown : ∀ k, rfeet r AL ms k → w0.heap.size ≤ k
  bel : Below w0.heap.size w0 w1
  box : ∀ b C ty, X = some (b, C, ty) → Bx w1 b C ty
theorem Sim.mid_below (S : Sim w0 wr g mb Aw cw Aa ca r AL cL most ms n f) (hb : Below wr.heap.size wr w1) {b : Nat} {C : Array Value} {ty : TypeId} (hx : Bx wr b C ty) :
    Mid w0 w1 g mb r AL cL most ms (things ms) n f (some (b, C, ty)) :=
  ⟨⟨_, _, _, _, S.hp.beside hb, S.apart, S.own⟩, S.rf.beside hb, S.rown, S.bel.trans (hb.mono S.bel.size), fun b' C' ty' e => by injection e with e; injection e with e1 e; injection e with e2 e3; subst e1; subst e2; subst e3; exact hx.after hb⟩
theorem Sim.mid_next (S : Sim w0 wr g mb Aw cw Aa ca r AL cL most ms n f) {ts' : List Th} {n' : Nat} {f' : Int → Option Int} (N : NextH wr w1 (feet g mb Aw Aa) g mb most (raw ts') (adr 0 ts') n' f') {b : Nat} {C : Array Value} {ty : TypeId} (hx : Bx wr b C ty) (hb : ¬ feet g mb Aw Aa b) :
    Mid w0 w1 g mb r AL cL most ms ts' n' f' (some (b, C, ty)) := by
  obtain ⟨Aw', cw', Aa', ca', h1, h2, h3⟩ := N
  refine ⟨⟨_, _, _, _, h1, fun k hk hr => ?_, fun k hk => ?_⟩, S.rf.aside (fun k hk => h2.block k (S.rf.lt hk) (fun hf => S.apart k hf hk)), S.rown, S.bel.trans (h2.below S.own S.bel.size), fun b' C' ty' e => ?_⟩
  · rcases h3 k hk with h | h
    · exact S.apart k h hr
    · have := S.rf.lt hr; omega
  · rcases h3 k hk with h | h
    · exact S.own k h
    · have := S.bel.size; omega
  · injection e with e; injection e with e1 e; injection e with e2 e3; subst e1; subst e2; subst e3
    exact (h2.block _ hx.lt hb).trans hx
/-- the document's heap has changed too -/
theorem Mid.fin_next {ts' : List Th} {n' : Nat} {f' : Int → Option Int} {X : Option (Nat × Array Value × TypeId)} (M : Mid w0 w1 g mb r AL cL most ms ts' n' f' X) {w2 : World} {ms' : List ThM} (N : NextR w1 w2 (rfeet r AL ms) r most ms')
    (ht : things ms' = ts') (F : Fits most ts') (hs : ∀ m ∈ ms', f' m.at_ = if m.t.s = 0 then none else some m.t.s) (hn : ∀ a, a ∉ adr 0 ts' → f' a = none) {K : Nat} (h1 : ms'.length ≤ K) (h2 : n' ≤ K) : SimE w0 w2 g r most K := by
  obtain ⟨⟨Aw, cw, Aa, ca, q1, q2, q3⟩, M2, M3, M4, _⟩ := M
  obtain ⟨AL', cL', p1, p2, p3⟩ := N
  subst ht
  refine ⟨mb, Aw, cw, Aa, ca, AL', cL', ms', n', f', ⟨q1.aside (fun k hk => p2.block k (q1.lt hk) (q2 k hk)), p1, F, fun k hk hr => ?_, q3, fun k hk => ?_, M4.trans (p2.below M3 M4.size), hs, hn⟩, h1, h2⟩
  · rcases p3 k hr with h | h
    · exact q2 k hk h
    · have := q1.lt hk; omega
  · rcases p3 k hk with h | h
    · exact M3 k h
    · have := M4.size; omega
theorem Mid.fin_below {ts' : List Th} {n' : Nat} {f' : Int → Option Int} {X : Option (Nat × Array Value × TypeId)} (M : Mid w0 w1 g mb r AL cL most ms ts' n' f' X) {w2 : World} (hb : Below w1.heap.size w1 w2)
    (ht : things ms = ts') (F : Fits most ts') (hs : ∀ m ∈ ms, f' m.at_ = if m.t.s = 0 then none else some m.t.s) (hn : ∀ a, a ∉ adr 0 ts' → f' a = none) {K : Nat} (h1 : ms.length ≤ K) (h2 : n' ≤ K) : SimE w0 w2 g r most K := by
  obtain ⟨⟨Aw, cw, Aa, ca, q1, q2, q3⟩, M2, M3, M4, _⟩ := M
  subst ht
  exact ⟨mb, Aw, cw, Aa, ca, AL, cL, ms, n', f', ⟨q1.beside hb, M2.beside hb, F, q2, q3, M3, M4.trans (hb.mono M4.size), hs, hn⟩, h1, h2⟩

/-- what both hand back of a call that makes a thing -/
def twoT (U : Nat) (E : Int) : Value := .tuple #[.int .i64 (if E = 0 then ((U + 1 : Nat) : Int) else 0), .int .i64 E]
/-- one more thing in both: first here, then there -/
theorem both {K : Nat} {E : Int} {t : Th} (hK : ms.length ≤ K) (hn : n ≤ K) (hts : t.s = 0) {fn rn : Nat} {args rargs : Array Value} (S : Sim w0 wr g mb Aw cw Aa ca r AL cL most ms n f) {b : Nat} {C : Array Value} {ty : TypeId} (hx : Bx wr b C ty) (hb : ¬ feet g mb Aw Aa b)
    (HP : Calls Try.prog fn args wr (GivesTh wr (feet g mb Aw Aa) g mb most (things ms) n f E t))
    (HR : ∀ w1, RfX w1 r AL cL most ms → Calls Try.prog rn rargs w1 (GivesRTh w1 (rfeet r AL ms) r most ms E t)) :
    Calls Try.prog fn args wr fun e w1 => e = .returned (twoT (raw (things ms)).length E) ∧ (Bx w1 b C ty ∧ Calls Try.prog rn rargs w1 fun e w2 => e = .returned (twoT (raw (things ms)).length E) ∧ SimE w0 w2 g r most (K + 1)) := by
  refine HP.mono ?_
  rintro e w1 (⟨h1, rfl, h3⟩ | ⟨h1, rfl, h3, h4⟩)
  · refine ⟨by unfold twoT; rw [if_neg h1], ?_⟩
    have M := S.mid_below h3 hx
    refine ⟨M.box _ _ _ rfl, (HR w1 M.rf).mono ?_⟩
    rintro e w2 (⟨k1, rfl, k3⟩ | ⟨k1, _⟩)
    · exact ⟨by unfold twoT; rw [if_neg h1], M.fin_below k3 rfl S.fits S.sent S.none_ (by omega) (by omega)⟩
    · exact absurd k1 h1
  · subst h1
    refine ⟨by unfold twoT; rw [if_pos rfl], ?_⟩
    have M := S.mid_next h3 hx hb
    refine ⟨M.box _ _ _ rfl, (HR w1 M.rf).mono ?_⟩
    rintro e w2 (⟨k1, _⟩ | ⟨_, rfl, m, hm, N⟩)
    · exact absurd rfl k1
    · have hnew : (((raw (things ms)).length + 1 : Nat) : Int) ∉ adr 0 (things ms) := fun h => by
        have := (adr_low (things ms) 0 _ h).2
        omega
      have hat : m.at_ = (((raw (things ms)).length + 1 : Nat) : Int) := by
        obtain ⟨_, _, X, _⟩ := N
        exact at_val (p := ms) (m := m) (q := []) X.ats
      refine ⟨by unfold twoT; rw [if_pos rfl], M.fin_next N (by rw [things_snoc, hm]) h4 (fun u hu => ?_) (fun a ha => S.none_ a (fun h => ha ?_)) (by simp; omega) (by omega)⟩
      · rw [List.mem_append, List.mem_singleton] at hu
        rcases hu with hu | rfl
        · exact S.sent u hu
        · rw [hm, if_pos hts, hat]
          exact S.none_ _ hnew
      · rw [adr_snoc]
        exact List.mem_append_left _ h
end

end HpW
end Go.Proofs.Ytfmodaelpldpfaa
