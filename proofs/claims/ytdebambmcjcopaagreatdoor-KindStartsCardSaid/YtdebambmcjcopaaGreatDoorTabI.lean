/-
  What there is of no table: Class, Field, Code.
-/
import Derived.Test.YtdebambmcjcopaaGreatDoorTabW
namespace Go.Proofs.YtdebambmcjcopaaGreatDoor
namespace TabI
open Go.RowKit Base BinM Stru DescM DescW DescX HierS HierT HierM HierC HierD HierN Kls KlsP KlsQ TabC TabM TabK TabP TabE TabB TabG TabH TabT TabU

theorem noC_is (w : World) : noC.is w :=
  ⟨⟨rfl, Nat.le_refl _, by unfold maxLen; simp [noC], .inl rfl, by simp [noC]⟩, ⟨rfl, Nat.le_refl _, by unfold maxLen; simp [noC], .inl rfl⟩, ⟨rfl, Nat.le_refl _, by unfold maxLen; simp [noC], .inl rfl, by simp [noC]⟩⟩
def noM : MthT := ⟨[], [], 0, none, 0, 0, none, 0, 0, [], []⟩
theorem noM_is (w : World) : noM.is w :=
  ⟨by show fitI 0; unfold fitI; omega, ⟨rfl, Nat.le_refl _, by unfold maxLen; simp [noM], .inl rfl, by simp [noM]⟩, ⟨rfl, Nat.le_refl _, by unfold maxLen; simp [noM], .inl rfl, by simp [noM]⟩⟩
def clsV (y : ClsT) : Value := .agg #[.string ⟨y.name.toArray⟩, .string ⟨y.sup.toArray⟩, .slice y.kA y.km y.kc, .slice y.fA y.fm y.fc, .slice y.mA y.mm y.mc]
def mthV (y : MthT) : Value := .agg #[.string ⟨y.name.toArray⟩, .string ⟨y.sig.toArray⟩, .int .i64 y.locals, .slice y.cA y.cm y.cc, .slice y.hA y.hm y.hc]


set_option maxRecDepth 100000 in
set_option maxHeartbeats 2000000 in
theorem field_nil (q nm : List UInt8) (w : World) :
    Calls Tryz.prog 61 #[.pointer none, .string ⟨q.toArray⟩, .string ⟨nm.toArray⟩] w fun e w' => e = .returned (.tuple #[.agg #[.string ⟨#[]⟩, .string ⟨#[]⟩], .string ⟨#[]⟩, .int .i64 (-1)]) ∧ Below w.heap.size w w' := by
  have hb0 : Below w.heap.size w ((w.alloc (.cells #[.string ⟨nm.toArray⟩] 9)).alloc (.cells #[.string ⟨#[]⟩, .string ⟨#[]⟩] 101)) := ((Below.refl _ _).alloc (Nat.le_refl _) _).alloc (by simp) _
  have HH := Lib.hid (has_nil q ((w.alloc (.cells #[.string ⟨nm.toArray⟩] 9)).alloc (.cells #[.string ⟨#[]⟩, .string ⟨#[]⟩] 101)))
  have HB := Lib.hid hb0
  have hs0 : (w.alloc (.cells #[.string ⟨nm.toArray⟩] 9)).heap.size = w.heap.size + 1 := by simp
  have N0 := (Bx.new w #[.string ⟨nm.toArray⟩] 9).after ((Below.refl _ _).alloc (Nat.le_refl _) (.cells #[.string ⟨#[]⟩, .string ⟨#[]⟩] 101))
  have R0 := Bx.new (w.alloc (.cells #[.string ⟨nm.toArray⟩] 9)) #[.string ⟨#[]⟩, .string ⟨#[]⟩] 101
  rw [hs0] at R0
  have HN := Lib.hid N0
  have HR := Lib.hid R0
  clear hb0 hs0 N0 R0
  go_enter Tryz.func61, Tryz.ntmps61
  go_wp2_with fail
  refine HH.out.mono ?_
  rintro e w1 ⟨rfl, hb1⟩
  have N1 := Lib.hid (HN.out.after hb1)
  have R1 := Lib.hid (HR.out.after hb1)
  have HB1 := Lib.hid (HB.out.trans (hb1.mono HB.out.size))
  have hf := field0 none 0 0 none 0 0 w1
  clear hb1
  go_wp2_with fail
  refine (TabU.indexF_any none [] 0 0 nm w.heap.size w1 (N1.out.cell 0) rfl (by unfold maxLen; omega) (.inl rfl)).mono ?_
  rintro e w2 ⟨rfl, hb2⟩
  have R2 := Lib.hid (R1.out.after hb2)
  have EB := Lib.hid (HB1.out.trans (hb2.mono HB1.out.size))
  have f0 := R2.out.free 0
  have f1 := R2.out.free 1
  have r0 := R2.out.cell 0
  have r1 := R2.out.cell 1
  rw [show findP (nameFd nm) [] = -1 from rfl]
  clear hb2 hf
  go_wp2_with fail
  have K0 := Lib.hid ((R2.out.set 0 (.string ⟨#[]⟩)).set 1 (.string ⟨#[]⟩))
  have HW : Bx ((w2.setCell ⟨w.heap.size + 1, 0, none⟩ (.string ⟨#[]⟩)).setCell ⟨w.heap.size + 1, 1, none⟩ (.string ⟨#[]⟩)) (w.heap.size + 1) #[.string ⟨#[]⟩, .string ⟨#[]⟩] 101 := K0.out
  have EB2 : Below w.heap.size w ((w2.setCell ⟨w.heap.size + 1, 0, none⟩ (.string ⟨#[]⟩)).setCell ⟨w.heap.size + 1, 1, none⟩ (.string ⟨#[]⟩)) := (EB.out.setCell (p := ⟨w.heap.size + 1, 0, none⟩) (by show w.heap.size ≤ w.heap.size + 1; omega) _).setCell (p := ⟨w.heap.size + 1, 1, none⟩) (by show w.heap.size ≤ w.heap.size + 1; omega) _
  exact bodyPost_ret (v := .tuple #[.agg #[.string ⟨#[]⟩, .string ⟨#[]⟩], .string ⟨#[]⟩, .int .i64 (-1)]) (result3 Tryz.results61 _ _ _ _ rfl (run_loadVar_row _ _ _ _ #[.string ⟨#[]⟩, .string ⟨#[]⟩] (0, 0) _ HW Tryz.underlying101 rfl sizeFld)) rfl ⟨rfl, EB2⟩

/-- five cells of a box are written -/
def fiv (w : World) (b : Nat) (v0 v1 v2 v3 v4 : Value) : World := ((((w.setCell ⟨b, 0, none⟩ v0).setCell ⟨b, 1, none⟩ v1).setCell ⟨b, 2, none⟩ v2).setCell ⟨b, 3, none⟩ v3).setCell ⟨b, 4, none⟩ v4
theorem fiv_block (w : World) (b : Nat) (v0 v1 v2 v3 v4 : Value) (k : Nat) (hk : k ≠ b) : (fiv w b v0 v1 v2 v3 v4).heap[k]? = w.heap[k]? :=
  (heap_setCell_other _ ⟨b, 4, none⟩ k v4 hk).trans ((heap_setCell_other _ ⟨b, 3, none⟩ k v3 hk).trans ((heap_setCell_other _ ⟨b, 2, none⟩ k v2 hk).trans ((heap_setCell_other _ ⟨b, 1, none⟩ k v1 hk).trans (heap_setCell_other w ⟨b, 0, none⟩ k v0 hk))))
theorem fiv_size (w : World) (b : Nat) (v0 v1 v2 v3 v4 : Value) : (fiv w b v0 v1 v2 v3 v4).heap.size = w.heap.size := by simp [fiv]
theorem fiv_bx {w : World} {b : Nat} {T : TypeId} {u0 u1 u2 u3 u4 : Value} (h : Bx w b #[u0, u1, u2, u3, u4] T) (v0 v1 v2 v3 v4 : Value) : Bx (fiv w b v0 v1 v2 v3 v4) b #[v0, v1, v2, v3, v4] T := ((((h.set 0 v0).set 1 v1).set 2 v2).set 3 v3).set 4 v4
theorem fiv_off {w : World} {b g : Nat} {T : TypeId} {C : Array Value} (h : Bx w g C T) (hn : g ≠ b) (v0 v1 v2 v3 v4 : Value) : Bx (fiv w b v0 v1 v2 v3 v4) g C T := (fiv_block w b v0 v1 v2 v3 v4 g hn).trans h
theorem fiv_below {lo : Nat} {a w : World} (h : Below lo a w) {b : Nat} (hb : lo ≤ b) (v0 v1 v2 v3 v4 : Value) : Below lo a (fiv w b v0 v1 v2 v3 v4) :=
  ((((h.setCell (p := ⟨b, 0, none⟩) hb v0).setCell (p := ⟨b, 1, none⟩) hb v1).setCell (p := ⟨b, 2, none⟩) hb v2).setCell (p := ⟨b, 3, none⟩) hb v3).setCell (p := ⟨b, 4, none⟩) hb v4

/-- three results, two of them structs that lie in cells -/
theorem resultT {P : Program} {fn : Func} {p p2 t1 : Tmp} {ty ty2 : TypeId} (h : fn.results = #[.cell p ty, .cell p2 ty2, .tmp t1]) (tmps : Array Value) (w : World) (a a2 : Addr) (x x2 : Value)
    (hp : tmps.getD p undef = .pointer (some a)) (hp2 : tmps.getD p2 undef = .pointer (some a2)) (hl : (loadVar ty a).run P w = .ok x w) (hl2 : (loadVar ty2 a2).run P w = .ok x2 w) : (results fn tmps).run P w = .ok (.tuple #[x, x2, tmps.getD t1 undef]) w := by
  have hp' : tmps[p]?.getD undef = .pointer (some a) := by simpa using hp
  have hp2' : tmps[p2]?.getD undef = .pointer (some a2) := by simpa using hp2
  simp [results, h, hp', hp2', asAddr, hl, hl2]
theorem sizeMth : (Tryz.prog.info? 25).map (·.size) = some 5 := by kernel_rfl


end TabI
end Go.Proofs.YtdebambmcjcopaaGreatDoor
