/-
  What there is of no table: Class, Field, Code.
-/
import Derived.Test.YtkgopfpnjfibmaaGreatDoorG24
import Derived.Test.YtkgopfpnjfibmaaGreatDoorG17
import Derived.Test.YtkgopfpnjfibmaaGreatDoorG25
import Derived.Deep.RegionHeld3
namespace Go.Proofs.YtkgopfpnjfibmaaGreatDoor
namespace TabI
open Go.RowKit Base BinM Stru DescM DescW DescX HierS HierT HierM HierC HierD HierN Kls KlsP KlsQ TabC TabM TabK TabP TabE TabB TabG TabH TabT TabU

theorem noC_is (w : World) : noC.is w :=
  ⟨⟨rfl, Nat.le_refl _, by unfold maxLen; simp [noC], .inl rfl, by simp [noC]⟩, ⟨rfl, Nat.le_refl _, by unfold maxLen; simp [noC], .inl rfl⟩, ⟨rfl, Nat.le_refl _, by unfold maxLen; simp [noC], .inl rfl, by simp [noC]⟩⟩
def noM : MthT := ⟨[], [], 0, none, 0, 0, none, 0, 0, [], []⟩
theorem noM_is (w : World) : noM.is w :=
  ⟨by show fitI 0; unfold fitI; omega, ⟨rfl, Nat.le_refl _, by unfold maxLen; simp [noM], .inl rfl, by simp [noM]⟩, ⟨rfl, Nat.le_refl _, by unfold maxLen; simp [noM], .inl rfl, by simp [noM]⟩⟩
def clsV (y : ClsT) : Value := .agg #[.string ⟨y.name.toArray⟩, .string ⟨y.sup.toArray⟩, .slice y.kA y.km y.kc, .slice y.fA y.fm y.fc, .slice y.mA y.mm y.mc]
def mthV (y : MthT) : Value := .agg #[.string ⟨y.name.toArray⟩, .string ⟨y.sig.toArray⟩, .int .i64 y.locals, .slice y.cA y.cm y.cc, .slice y.hA y.hm y.hc]

/-- five cells of a box are written -/
def fiv (w : World) (b : Nat) (v0 v1 v2 v3 v4 : Value) : World := ((((w.setCell ⟨b, 0, none⟩ v0).setCell ⟨b, 1, none⟩ v1).setCell ⟨b, 2, none⟩ v2).setCell ⟨b, 3, none⟩ v3).setCell ⟨b, 4, none⟩ v4
theorem fiv_block (w : World) (b : Nat) (v0 v1 v2 v3 v4 : Value) (k : Nat) (hk : k ≠ b) : (fiv w b v0 v1 v2 v3 v4).heap[k]? = w.heap[k]? :=
  (heap_setCell_other _ ⟨b, 4, none⟩ k v4 hk).trans ((heap_setCell_other _ ⟨b, 3, none⟩ k v3 hk).trans ((heap_setCell_other _ ⟨b, 2, none⟩ k v2 hk).trans ((heap_setCell_other _ ⟨b, 1, none⟩ k v1 hk).trans (heap_setCell_other w ⟨b, 0, none⟩ k v0 hk))))
theorem fiv_size (w : World) (b : Nat) (v0 v1 v2 v3 v4 : Value) : (fiv w b v0 v1 v2 v3 v4).heap.size = w.heap.size := by simp [fiv]
theorem fiv_bx {w : World} {b : Nat} {T : TypeId} {u0 u1 u2 u3 u4 : Value} (h : Bx w b #[u0, u1, u2, u3, u4] T) (v0 v1 v2 v3 v4 : Value) : Bx (fiv w b v0 v1 v2 v3 v4) b #[v0, v1, v2, v3, v4] T := ((((h.set 0 v0).set 1 v1).set 2 v2).set 3 v3).set 4 v4
theorem fiv_off {w : World} {b g : Nat} {T : TypeId} {C : Array Value} (h : Bx w g C T) (hn : g ≠ b) (v0 v1 v2 v3 v4 : Value) : Bx (fiv w b v0 v1 v2 v3 v4) g C T := (fiv_block w b v0 v1 v2 v3 v4 g hn).trans h
theorem fiv_below {lo : Nat} {a w : World} (h : Below lo a w) {b : Nat} (hb : lo ≤ b) (v0 v1 v2 v3 v4 : Value) : Below lo a (fiv w b v0 v1 v2 v3 v4) :=
  ((((h.setCell (p := ⟨b, 0, none⟩) hb v0).setCell (p := ⟨b, 1, none⟩) hb v1).setCell (p := ⟨b, 2, none⟩) hb v2).setCell (p := ⟨b, 3, none⟩) hb v3).setCell (p := ⟨b, 4, none⟩) hb v4

/-- three results, two of them structs that lie in cells -/
theorem resultT {P : Program} {fn : Func} {p p2 t1 : Tmp} {ty ty2 : TypeId} (h : fn.results = #[.cell p ty, .cell p2 ty2, .tmp t1]) (tmps : Array Value) (w : World) (a a2 : Addr) (x x2 : Value)
    (hp : tmps.getD p undef = .pointer (some a)) (hp2 : tmps.getD p2 undef = .pointer (some a2)) (hl : (loadVar ty a).run P w = .ok x w) (hl2 : (loadVar ty2 a2).run P w = .ok x2 w) : (results fn tmps).run P w = .ok (.tuple #[x, x2, tmps.getD t1 undef]) w := by
  have hp' : tmps[p]?.getD undef = .pointer (some a) := by simpa using hp
  have hp2' : tmps[p2]?.getD undef = .pointer (some a2) := by simpa using hp2
  simp [results, h, hp', hp2', asAddr, hl, hl2]
theorem sizeMth : (Tryz.prog.info? 150).map (·.size) = some 5 := by kernel_rfl

end TabI
end Go.Proofs.YtkgopfpnjfibmaaGreatDoor
/-
  Classes of pairs: hornbooklaw07.given.
-/
namespace Go.Proofs.YtkgopfpnjfibmaaGreatDoor
namespace HierG
open Go.RowKit BinM Base Stru DescM DescW DescX HierS HierT HierM HierN

def pv (p : P2) : List Value := [.string ⟨p.1.toArray⟩, .string ⟨p.2.toArray⟩]
end HierG
end Go.Proofs.YtkgopfpnjfibmaaGreatDoor
/-
  The document's own hierarchies: how they lie in memory, and what their calls return.
-/
namespace Go.Proofs.YtkgopfpnjfibmaaGreatDoor
namespace HierR
open Go.RowKit BinM Base Stru DescM DescW DescX HierS HierT HierM HierC HierK HierN HierV HierW HierG
open BinName (ret_bool)

/-- the document's pairs of a hierarchy in memory, in blocks below B -/
structure IsR (B : Nat) (w : World) (g : Nat) (L : List P2) : Prop where
  cells : ∃ (A : Option Addr) (n c : Nat), w.heap[g]? = some (.cells #[.slice A n c] 295 (0, 0)) ∧ n = L.length ∧ n ≤ c ∧ c ≤ maxLen ∧ Rds w A (L.flatMap pv) ∧ (∀ a, A = some a → a.block < B)
  low : g < B
  few : L.length ≤ 41
theorem IsR.below {B : Nat} {w w' : World} {g : Nat} {L : List P2} (H : IsR B w g L) (hb : Below B w w') : IsR B w' g L := by
  obtain ⟨⟨A, n, c, h1, h2, h3, h4, h5, h6⟩, k2, k3⟩ := H
  exact ⟨⟨A, n, c, (hb.block g k2).trans h1, h2, h3, h4, h5.below_of hb h6, h6⟩, k2, k3⟩
theorem IsR.mono {B B' : Nat} {w : World} {g : Nat} {L : List P2} (H : IsR B w g L) (hb : B ≤ B') : IsR B' w g L := by
  obtain ⟨⟨A, n, c, h1, h2, h3, h4, h5, h6⟩, k2, k3⟩ := H
  exact ⟨⟨A, n, c, h1, h2, h3, h4, h5, fun a ha => Nat.lt_of_lt_of_le (h6 a ha) hb⟩, Nat.lt_of_lt_of_le k2 hb, k3⟩
theorem find_at {L : List P2} {c : T} {k : Nat} (hk : k < L.length) (h : (L.take k).any (fun p => p.1 == c) = false) (h2 : (L[k].1 == c) = true) : L.find? (fun p => p.1 == c) = some L[k] := by
  have e0 : L.find? (fun p => p.1 == c) = (L.take k ++ L.drop k).find? (fun p => p.1 == c) := by rw [List.take_append_drop]
  rw [e0, List.find?_append]
  have e : (L.take k).find? (fun p => p.1 == c) = none := by
    rw [List.find?_eq_none]
    intro x hx he
    have : (L.take k).any (fun p => p.1 == c) = true := List.any_eq_true.2 ⟨x, hx, he⟩
    rw [h] at this; cases this
  rw [e, Option.none_or, List.drop_eq_getElem_cons hk]
  exact List.find?_cons_of_pos (p := fun p : P2 => p.1 == c) h2
end HierR
end Go.Proofs.YtkgopfpnjfibmaaGreatDoor
/-
  That the document's own hierarchies say the same: plain facts, no walk.
-/
namespace Go.Proofs.YtkgopfpnjfibmaaGreatDoor
namespace HierU
open BinM DescM DescX HierS HierT HierM HierV HierR

def refL (l : List P2) : List P2 := (objN, []) :: full l
/-! a class is above itself within 60 steps, just if within as many as there are -/
section
variable {up : T → Option T}
/-- from a class on: so many steps -/
def pos (up : T → Option T) (c : T) (n : Nat) : Option T := iter up n (some c)
end

end HierU
end Go.Proofs.YtkgopfpnjfibmaaGreatDoor
/-
  Chain and Below of the document's own hierarchies; and Below of the program's.
-/
namespace Go.Proofs.YtkgopfpnjfibmaaGreatDoor
namespace HierQ
open Go.RowKit BinM Base Stru DescM DescW DescX HierS HierT HierM HierC HierK HierN HierV HierW HierG HierR HierU
open BinName (ret_bool)

/-- classes that can be -/
structure Can (l : List P2) : Prop where
  good : GoodH (mk l)
  tw : twice [objN] (full l) = none
  su : noSup (nms (full l)) (full l) = none
  few : l.length ≤ 32
  long : ∀ c ∈ (mk l).names, c.length ≤ 140737488355000
end HierQ
end Go.Proofs.YtkgopfpnjfibmaaGreatDoor
/-
  What the document's own New returns, of any classes; and its Below.
-/
namespace Go.Proofs.YtkgopfpnjfibmaaGreatDoor
namespace HierY
open Go.RowKit BinM Base Stru DescM DescW DescX HierS HierT HierM HierC HierK HierN HierV HierW HierG HierR HierU HierQ
open BinName (ret_bool)

/-- pairs in a row of the call's own -/
def OwnP (w : World) (base : Nat) (v : Value) (l : List P2) : Prop := w.ownsRow base 297 2 v l.length (l.flatMap pv)
theorem OwnP.slice {w : World} {base : Nat} {v : Value} {l : List P2} (h : OwnP w base v l) :
    ∃ A c, v = .slice A l.length c ∧ l.length ≤ c ∧ c ≤ maxLen ∧ Rds w A (l.flatMap pv) ∧ ∀ a, A = some a → base ≤ a.block ∧ a.block < w.heap.size := by
  obtain ⟨A, c, rfl, h1, h2, h3, _⟩ := own_slice h
  exact ⟨A, c, rfl, h1, h2, Rds.ownN h, fun a ha => ⟨(h3 a ha).1, (h3 a ha).2.1⟩⟩
def refAlw : List P2 := (objN, []) :: alw
/-- the pairs so far -/
structure MkR (w wr : World) (L : List P2) : Prop where
  row : ∃ A c, wr.heap[w.heap.size + 1]? = some (.cells #[.slice A L.length c] 295 (0, 0)) ∧ OwnP wr w.heap.size (.slice A L.length c) L ∧ (∀ a, A = some a → a.block ≠ w.heap.size + 1)
  hi : w.heap.size + 1 < wr.heap.size
  bel : Below w.heap.size w wr
theorem MkR.ext {w wr w' : World} {L : List P2} (h : MkR w wr L) (hb : Below wr.heap.size wr w') : MkR w w' L := by
  obtain ⟨⟨A, c, h1, h2, h3⟩, h7, h8⟩ := h
  have hs := hb.size
  exact ⟨⟨A, c, (hb.block _ h7).trans h1, own_same h2 (fun k hk => hb.block k (h2.lt k hk).2), h3⟩, by omega, h8.trans (hb.mono h8.size)⟩
theorem MkR.app {w wr w1 : World} {L : List P2} {A : Option Addr} {c gg cap : Nat} {x : P2} (h : MkR w wr L) (hA : wr.heap[w.heap.size + 1]? = some (.cells #[.slice A L.length c] 295 (0, 0)))
    (hown : OwnP w1 w.heap.size (.slice (some ⟨gg, 0, none⟩) (L ++ [x]).length cap) (L ++ [x])) (hg : wr.grownBy w1 (Value.slice A L.length c).ownBlock) (hat : (Value.slice A L.length c).ownBlock = some gg ∨ wr.heap.size ≤ gg) :
    MkR w (w1.setCell ⟨w.heap.size + 1, 0, none⟩ (.slice (some ⟨gg, 0, none⟩) (L ++ [x]).length cap)) (L ++ [x]) := by
  obtain ⟨⟨A', c', h1, h2, h3⟩, h7, h8⟩ := h
  have e := h1.symm.trans hA
  injection e with e
  injection e with e
  have e1 : Value.slice A' L.length c' = Value.slice A L.length c := by injection e with e; injection e
  cases e1
  have hs := hg.size
  have hs8 := h8.size
  have hgn : gg ≠ w.heap.size + 1 := by
    rcases hat with hat | hat
    · cases A with
      | none => cases hat
      | some a =>
        have := h3 a rfl
        simp [Value.ownBlock] at hat
        omega
    · omega
  have hnb : some (w.heap.size + 1) ≠ (Value.slice A L.length c).ownBlock := by
    intro e
    cases A with
    | none => cases e
    | some a =>
      have := h3 a rfl
      simp [Value.ownBlock] at e
      omega
  have b2 : w1.heap[w.heap.size + 1]? = wr.heap[w.heap.size + 1]? := hg.block _ h7 hnb
  have hbel : Below w.heap.size w w1 := below_own h8 h2 (Nat.le_refl _) hs8 hg
  refine ⟨⟨some ⟨gg, 0, none⟩, cap, ?_, ?_, ?_⟩, ?_, ?_⟩
  · have := heap_setCell_same w1 (w.heap.size + 1) 0 _ _ (.slice (some ⟨gg, 0, none⟩) (L ++ [x]).length cap) (b2.trans h1)
    rw [this]; rfl
  · refine own_same hown (fun k hk => heap_setCell_other w1 _ k _ ?_)
    simp [Value.ownBlock] at hk
    show k ≠ w.heap.size + 1
    omega
  · intro a ha
    cases ha
    exact hgn
  · simp; omega
  · exact hbel.setCell (by show w.heap.size ≤ w.heap.size + 1; omega) _

/-- the world in which New's loops begin -/
def V0 (w : World) : World := (w.alloc (.cells #[.string ⟨objN.toArray⟩, .string ⟨#[]⟩, .string ⟨excN.toArray⟩, .string ⟨objN.toArray⟩, .string ⟨nilN.toArray⟩, .string ⟨excN.toArray⟩, .string ⟨castN.toArray⟩, .string ⟨excN.toArray⟩, .string ⟨indexN.toArray⟩, .string ⟨excN.toArray⟩, .string ⟨divN.toArray⟩, .string ⟨excN.toArray⟩, .string ⟨deepN.toArray⟩, .string ⟨excN.toArray⟩, .string ⟨memN.toArray⟩, .string ⟨excN.toArray⟩, .string ⟨lockN.toArray⟩, .string ⟨excN.toArray⟩] 297)).alloc (.cells #[.slice (some ⟨w.heap.size, 0, none⟩) 9 9] 295)
theorem MkR.start (w : World) : MkR w (V0 w) refAlw := by
  have e1 : (V0 w).heap.size = w.heap.size + 2 := by simp [V0]
  refine ⟨⟨some ⟨w.heap.size, 0, none⟩, 9, ?_, ?_, ?_⟩, by omega, ?_⟩
  · have := heap_alloc_new (w.alloc (.cells #[.string ⟨objN.toArray⟩, .string ⟨#[]⟩, .string ⟨excN.toArray⟩, .string ⟨objN.toArray⟩, .string ⟨nilN.toArray⟩, .string ⟨excN.toArray⟩, .string ⟨castN.toArray⟩, .string ⟨excN.toArray⟩, .string ⟨indexN.toArray⟩, .string ⟨excN.toArray⟩, .string ⟨divN.toArray⟩, .string ⟨excN.toArray⟩, .string ⟨deepN.toArray⟩, .string ⟨excN.toArray⟩, .string ⟨memN.toArray⟩, .string ⟨excN.toArray⟩, .string ⟨lockN.toArray⟩, .string ⟨excN.toArray⟩] 297)) (.cells #[.slice (some ⟨w.heap.size, 0, none⟩) 9 9] 295)
    have e2 : ∀ o, (w.alloc o).heap.size = w.heap.size + 1 := fun o => by simp
    rw [e2] at this
    exact this
  · exact (World.ownsRow_lit w #[.string ⟨objN.toArray⟩, .string ⟨#[]⟩, .string ⟨excN.toArray⟩, .string ⟨objN.toArray⟩, .string ⟨nilN.toArray⟩, .string ⟨excN.toArray⟩, .string ⟨castN.toArray⟩, .string ⟨excN.toArray⟩, .string ⟨indexN.toArray⟩, .string ⟨excN.toArray⟩, .string ⟨divN.toArray⟩, .string ⟨excN.toArray⟩, .string ⟨deepN.toArray⟩, .string ⟨excN.toArray⟩, .string ⟨memN.toArray⟩, .string ⟨excN.toArray⟩, .string ⟨lockN.toArray⟩, .string ⟨excN.toArray⟩] 9 (Nat.le_refl _) (by unfold maxLen; omega) rfl).alloc _
  · intro a ha
    cases ha
    simp
  · exact ((Below.refl _ _).alloc (Nat.le_refl _) _).alloc (by simp) _
end HierY
end Go.Proofs.YtkgopfpnjfibmaaGreatDoor
/-
  The document's tables: Known, Class, Layout, Methods, Method.
-/
namespace Go.Proofs.YtkgopfpnjfibmaaGreatDoor
namespace TabR
open Go.RowKit Base BinM Stru DescM DescW DescX DescR DescS DescG DescP DescQ HierS HierT HierM HierC HierD HierN HierV HierR HierU Kls KlsP KlsQ OpenK TabC TabM TabK TabP TabE TabB TabG TabH TabT TabU TabV TabX TabW TabF TabN TabO TabY TabI

def lenOf : Value → Nat
  | .string s => s.size
  | _ => 0
/-- a document's table in memory -/
structure RT (lo : Nat) (w : World) (r g : Nat) (A : Option Addr) (c : Nat) (ps : List P2) (L : List ClsT) : Prop where
  box : Bx w r #[.pointer (some ⟨g, 0, none⟩), .slice A L.length c] 223
  hier : IsR lo w g (refL ps)
  base : lo ≤ w.heap.size
  rds : Rds w A (L.flatMap valsC)
  each : ∀ x ∈ L, x.is w
theorem RT.ext {lo : Nat} {w w' : World} {r g : Nat} {A : Option Addr} {c : Nat} {ps : List P2} {L : List ClsT} (H : RT lo w r g A c ps L) (hb : Below w.heap.size w w') : RT lo w' r g A c ps L :=
  ⟨H.box.after hb, H.hier.below (hb.mono H.base), Nat.le_trans H.base hb.size, H.rds.below hb, fun x hx => (H.each x hx).below hb⟩

/-! ### names that stand once -/
/-! ### methods -/
end TabR
end Go.Proofs.YtkgopfpnjfibmaaGreatDoor
/-
  The document's tables: Methods, Method.
-/
namespace Go.Proofs.YtkgopfpnjfibmaaGreatDoor
namespace TabQ
open Go.RowKit Base BinM Stru DescM DescW DescX DescR DescS DescG DescP DescQ HierS HierT HierM HierC HierD HierN HierV HierR HierU Kls KlsP KlsQ OpenK TabC TabM TabK TabP TabE TabB TabG TabH TabT TabU TabV TabX TabW TabF TabN TabO TabY TabI TabR

end TabQ
end Go.Proofs.YtkgopfpnjfibmaaGreatDoor
/-
  The document's tables: Field.
-/
namespace Go.Proofs.YtkgopfpnjfibmaaGreatDoor
namespace TabD
open Go.RowKit Base BinM Stru DescM DescW DescX DescR DescS DescG DescP DescQ HierS HierT HierM HierC HierD HierN HierV HierR HierU HierQ Kls KlsP KlsQ OpenK TabC TabM TabK TabP TabE TabB TabG TabH TabT TabU TabV TabX TabW TabF TabN TabO TabY TabI TabR TabQ

theorem findP_cons {α : Type} (p : α → Bool) (x : α) (r : List α) : findP p (x :: r) = if p x = true then 0 else if findP p r = -1 then -1 else findP p r + 1 := rfl
theorem findP_map {α β : Type} (p : β → Bool) (f : α → β) : ∀ l : List α, findP p (l.map f) = findP (fun x => p (f x)) l
  | [] => rfl
  | x :: r => by
    show findP p (f x :: r.map f) = _
    rw [findP_cons, findP_cons, findP_map p f r]
/-- whether a class of that name has a field of its own of that name -/
def ownN (L : List ClsT) (nm d : T) : Bool := decide (0 ≤ findP (nameF nm) (keptC d L).fields)
end TabD
end Go.Proofs.YtkgopfpnjfibmaaGreatDoor
/-
  Law 8's entries: such as the document has them; the document's SameEntries; what Field and Method hand back, as one expression.
-/
namespace Go.Proofs.YtkgopfpnjfibmaaGreatDoor
namespace TabHe
open Go.RowKit Base BinM Stru DescM DescW DescX HierS HierT HierM HierC HierD HierN Kls KlsP KlsQ TabC TabM TabK TabP TabE TabB TabG TabH TabT TabU TabI TabR TabV TabW

end TabHe
end Go.Proofs.YtkgopfpnjfibmaaGreatDoor
