/-
  delta.Held: which methods of an old table may not be at work when there is another one.
-/
import Derived.Test.YtiagjnimafdbhaaGreatDoorG40
import Derived.Test.YtiagjnimafdbhaaGreatDoorG30
namespace Go.Proofs.YtiagjnimafdbhaaGreatDoor
namespace DlC
open Go.RowKit Base BinM Stru DescM DescW DescX HierS HierT HierM HierC HierD HierN Kls KlsP KlsQ OpenK TabC TabM TabK TabP TabE TabB TabG TabH TabT TabU TabI TabV TabW TabN TabO TabY TabCs TabCl TabHc TabDp TabEq TabCg DlA DlB

theorem find_bm (nm : T) : ∀ l : List MthT, findP (nameM nm) (l.map bareM) = findP (nameM nm) l
  | [] => rfl
  | x :: r => by
    have ih := find_bm nm r
    rw [List.map_cons]
    unfold findP
    rw [ih]
    rfl
theorem getD_bm : ∀ (l : List MthT) (n : Nat), (l.map bareM).getD n noM = bareM (l.getD n noM)
  | [], n => rfl
  | x :: r, 0 => rfl
  | x :: r, n + 1 => by
    have ih := getD_bm r n
    rw [List.map_cons, List.getD_cons_succ, List.getD_cons_succ]
    exact ih
theorem own_bare (k : ClsT) (nm : T) : ownP (TabV.bareC k) nm = (bareM (ownP k nm).1, (ownP k nm).2) := by
  unfold ownP
  have e : findP (nameM nm) (TabV.bareC k).meths = findP (nameM nm) k.meths := find_bm nm k.meths
  rw [e]
  split
  · rfl
  · show ((k.meths.map bareM).getD _ noM, true) = _
    rw [getD_bm]
theorem same_bare (x : ClsT) (m : T) (y : ClsT) (n : T) : sameB (TabV.bareC x) m (TabV.bareC y) n = sameB x m y n := by
  unfold sameB
  rw [own_bare, own_bare]
  rfl
theorem kept_bare (L : List ClsT) (q : T) : keptC q (L.map TabV.bareC) = TabV.bareC (keptC q L) := by
  unfold keptC
  rw [find_bare]
  cases L.find? (named q) <;> rfl
theorem ownC_bare (k : ClsT) (nm : T) : (ownC (TabV.bareC k) nm).consts = (ownC k nm).consts := by
  unfold ownC
  rw [own_bare]
  simp only
  cases (ownP k nm).2 <;> rfl

/-- whether a method may not be at work -/
def heldB (L M : List ClsT) (ch : List T) (c : ClsT) (m : MthT) : Bool :=
  ((depsM (ownC (keptC c.name L) m.name).consts (ownP (keptC c.name L) m.name).1).any fun d => ch.contains d) || !sameB c m.name (keptC c.name M) m.name
def heldM (L M : List ClsT) (ch : List T) (c : ClsT) (l : List MthT) : List (T × T) := (l.filter (heldB L M ch c)).map fun m => (c.name, m.name)
def heldL (L M : List ClsT) (ch : List T) (C : List ClsT) : List (T × T) := C.flatMap fun c => heldM L M ch c c.meths
theorem heldB_bare (L M : List ClsT) (ch : List T) (c : ClsT) (m : MthT) : heldB (L.map TabV.bareC) (M.map TabV.bareC) ch (TabV.bareC c) (bareM m) = heldB L M ch c m := by
  have e1 : (TabV.bareC c).name = c.name := rfl
  have e2 : (bareM m).name = m.name := rfl
  unfold heldB
  rw [e1, e2, kept_bare, kept_bare, ownC_bare, own_bare, same_bare]
  rfl
theorem heldL_bare (L M : List ClsT) (ch : List T) (C : List ClsT) : heldL (L.map TabV.bareC) (M.map TabV.bareC) ch (C.map TabV.bareC) = heldL L M ch C := by
  unfold heldL
  rw [List.flatMap_map]
  congr 1
  funext c
  show heldM _ _ ch (TabV.bareC c) (c.meths.map bareM) = _
  unfold heldM
  rw [List.filter_map, List.map_map]
  have e : (heldB (L.map TabV.bareC) (M.map TabV.bareC) ch (TabV.bareC c)) ∘ bareM = heldB L M ch c := by
    funext m
    exact heldB_bare L M ch c m
  rw [e]
  rfl
theorem held_same {L L' M M' C C' : List ClsT} (h1 : L.map TabV.bareC = L'.map TabV.bareC) (h2 : M.map TabV.bareC = M'.map TabV.bareC) (h3 : C.map TabV.bareC = C'.map TabV.bareC) (ch : List T) : heldL L M ch C = heldL L' M' ch C' := by
  rw [← heldL_bare L, ← heldL_bare L', h1, h2, h3]
theorem heldM_take {L M : List ClsT} {ch : List T} {c : ClsT} {l : List MthT} {j : Nat} (hj : j < l.length) : heldM L M ch c (l.take (j + 1)) = heldM L M ch c (l.take j) ++ (if heldB L M ch c l[j] = true then [(c.name, l[j].name)] else []) := by
  unfold heldM
  rw [List.take_succ_eq_append_getElem hj, List.filter_append, List.map_append]
  congr 1
  cases h : heldB L M ch c l[j] <;> simp [h]
theorem heldL_take {L M : List ClsT} {ch : List T} {C : List ClsT} {j : Nat} (hj : j < C.length) : heldL L M ch (C.take (j + 1)) = heldL L M ch (C.take j) ++ heldM L M ch C[j] C[j].meths := by
  unfold heldL
  rw [List.take_succ_eq_append_getElem hj, List.flatMap_append]
  simp
theorem heldM_len (L M : List ClsT) (ch : List T) (c : ClsT) (l : List MthT) : (heldM L M ch c l).length ≤ l.length := by
  unfold heldM
  rw [List.length_map]
  exact List.length_filter_le _ _

def keyV (k : T × T) : List Value := [sv k.1, sv k.2]
def OwnKy (w : World) (base : Nat) (v : Value) (l : List (T × T)) : Prop := w.ownsRow base 66 2 v l.length (l.flatMap keyV)
theorem infoKy : (Tryz.prog.info? 66).map (fun i => (i.zero, i.size, i.bytes)) = some (some (.agg #[.string ⟨#[]⟩, .string ⟨#[]⟩]), 2, 32) := by kernel_rfl
theorem OwnKy.ext {w w' : World} {base : Nat} {v : Value} {l : List (T × T)} (h : OwnKy w base v l) (hb : Below w.heap.size w w') : OwnKy w' base v l :=
  TabM.own_same h (fun q hq => hb.block q (World.ownsRow.lt h q hq).2)
set_option maxRecDepth 100000 in
theorem appKy {ops : Array Oper} {rest : List Oper} {o : Oper} {a : Act} {w : World} {Q : Exit → Act → World → Prop} (hgd : o.guard = none) (s x : Operand)
    (ho : o.op = .call { callee := .builtin .append, args := #[s, x], argTypes := #[62, 62] })
    (base : Nat) (v : Value) (p : List (T × T)) (hs : a.eval s = v) (hown : OwnKy w base v p) (g c : Nat) (y : T × T) (hx : a.eval x = .slice (some ⟨g, 0, none⟩) 1 c)
    (hr : Rds w (some ⟨g, 0, none⟩) (keyV y)) (hlen : p.length ≤ 100000) (hbase : base ≤ w.heap.size)
    (h : ∀ v' w', OwnKy w' base v' (p ++ [y]) → w.grownBy w' v.ownBlock → (v'.ownBlock = v.ownBlock ∨ v'.ownBlock = some w.heap.size) → wpList Tryz.prog ops Q rest (a.put o.dst v') w') : wpList Tryz.prog ops Q (o :: rest) a w := by
  obtain ⟨i0, hi, hz, hs1, hb1⟩ := info_parts infoKy
  refine wpList_plain hgd fun K hK => ?_
  obtain ⟨v', w', hrun, h2, h3, _, h5⟩ := run_append_own_at (P := Tryz.prog) w base 62 o.type 66 i0 _ 2 32 Tryz.underlying62 hi hz hs1 hb1 rfl (by omega) v p.length (p.flatMap keyV) hown ⟨g, 0, none⟩ 1 c (keyV y) rfl
    (by intro j u hu
        rcases hr with h0 | ⟨b, o', hA, _, hc⟩
        · rw [h0] at hu; simp at hu
        · injection hA with hA
          rw [hA, Addr.add_mid]
          exact hc j u hu)
    (by intro u hu; unfold keyV sv at hu; simp at hu; rcases hu with rfl | rfl <;> rfl) (by unfold maxLen; omega) (by omega) hbase
  unfold Oper.wp execOp
  simp only [ho, resolve, invoke, builtin, Sem.run_bind, Sem.run_pure, Result.andThen_ok, List.map_toArray, List.map_cons, List.map_nil, hs, hx, hrun]
  refine hK _ _ (h v' w' ?_ h3 h5)
  unfold OwnKy
  rw [List.flatMap_append, List.length_append]
  simpa using h2

set_option maxRecDepth 100000 in
set_option maxHeartbeats 4000000 in
theorem class_own {lo : Nat} {w : World} {t g mb n : Nat} {A : Option Addr} {c : Nat} {h : Hr} {L : List ClsT} {f : T → Option HavT} (H : Ta lo w t g mb n A c h L f) (hml : L.length ≤ 10000) (hsh : Short L) (q : T) :
    Calls Tryz.prog 27 #[.pointer (some ⟨t, 0, none⟩), .string ⟨q.toArray⟩] w fun e w' => ∃ y : ClsT, e = .returned (.tuple #[clsV y, .bool (L.find? (named q)).isSome]) ∧ OwnK w.heap.size w' y ∧ TabV.bareC y = TabV.bareC (keptC q L) ∧ Below w.heap.size w w' := by
  have hb := Lib.hid ((Below.refl w.heap.size w).alloc (Nat.le_refl _) (.cells #[.string ⟨#[]⟩, .string ⟨#[]⟩, .slice none 0 0, .slice none 0 0, .slice none 0 0] 43))
  have HR := Lib.hid (Bx.new w #[.string ⟨#[]⟩, .string ⟨#[]⟩, .slice none 0 0, .slice none 0 0, .slice none 0 0] 43)
  have H1 := H.ext hb.out
  have HN := Lib.hid (kept_any t _ _ A L L.length c q (w.alloc (.cells #[.string ⟨#[]⟩, .string ⟨#[]⟩, .slice none 0 0, .slice none 0 0, .slice none 0 0] 43)) H1.box rfl (by omega) H1.rds)
  have HI := Lib.hid (kept_is H.each q)
  have HS := Lib.hid (kept_short hsh q)
  clear H H1 hsh
  generalize (L.find? (named q)).isSome = is at *
  generalize keptC q L = x at *
  go_enter Tryz.func27, Tryz.ntmps27
  go_wp2_with fail
  refine HN.out.mono ?_
  rintro e w1 ⟨rfl, hb1⟩
  simp only [ClsT.V]
  have HB1 := Lib.hid (hb.out.trans (hb1.mono (by simp)))
  have R1 := Lib.hid (HR.out.after hb1)
  have HB2 := Lib.hid (HB1.out.alloc HB1.out.size (.cells #[.string ⟨x.name.toArray⟩, .string ⟨x.sup.toArray⟩, .slice x.kA x.km x.kc, .slice x.fA x.fm x.fc, .slice x.mA x.mm x.mc] 43))
  have R2 := Lib.hid (R1.out.after ((Below.refl _ _).alloc (Nat.le_refl _) (.cells #[.string ⟨x.name.toArray⟩, .string ⟨x.sup.toArray⟩, .slice x.kA x.km x.kc, .slice x.fA x.fm x.fc, .slice x.mA x.mm x.mc] 43)))
  have HC := Lib.hid (cloneClass_any x (w1.alloc (.cells #[.string ⟨x.name.toArray⟩, .string ⟨x.sup.toArray⟩, .slice x.kA x.km x.kc, .slice x.fA x.fm x.fc, .slice x.mA x.mm x.mc] 43)) (HI.out.below HB2.out) HS.out.1 HS.out.2.1 HS.out.2.2.1 HS.out.2.2.2)
  simp only [ClsT.V] at HC
  clear hb1
  go_wp2_with fail
  refine HC.out.mono ?_
  rintro e w3 ⟨y, rfl, hy, hxy, hb3⟩
  have HB3 := Lib.hid (HB2.out.trans (hb3.mono HB2.out.size))
  have R3 := Lib.hid (R2.out.after hb3)
  have OY := Lib.hid (show OwnK (w.heap.size + 1) w3 y from (own_of hy).mono (by have := R1.out.lt; simp; omega))
  have BY := Lib.hid (bare_of hxy)
  have f0 := R3.out.free 0
  have f1 := R3.out.free 1
  have f2 := R3.out.free 2
  have f3 := R3.out.free 3
  have f4 := R3.out.free 4
  have r0 := R3.out.cell 0
  have r1 := R3.out.cell 1
  have r2 := R3.out.cell 2
  have r3 := R3.out.cell 3
  have r4 := R3.out.cell 4
  clear hb3 hy hxy
  go_wp2_with fail
  have K0 := Lib.hid (((((R3.out.set 0 (.string ⟨y.name.toArray⟩)).set 1 (.string ⟨y.sup.toArray⟩)).set 2 (.slice y.kA y.km y.kc)).set 3 (.slice y.fA y.fm y.fc)).set 4 (.slice y.mA y.mm y.mc))
  have HW : Bx (((((w3.setCell ⟨w.heap.size, 0, none⟩ (.string ⟨y.name.toArray⟩)).setCell ⟨w.heap.size, 1, none⟩ (.string ⟨y.sup.toArray⟩)).setCell ⟨w.heap.size, 2, none⟩ (.slice y.kA y.km y.kc)).setCell ⟨w.heap.size, 3, none⟩ (.slice y.fA y.fm y.fc)).setCell ⟨w.heap.size, 4, none⟩ (.slice y.mA y.mm y.mc)) w.heap.size #[.string ⟨y.name.toArray⟩, .string ⟨y.sup.toArray⟩, .slice y.kA y.km y.kc, .slice y.fA y.fm y.fc, .slice y.mA y.mm y.mc] 43 := K0.out
  have OW : OwnK w.heap.size (((((w3.setCell ⟨w.heap.size, 0, none⟩ (.string ⟨y.name.toArray⟩)).setCell ⟨w.heap.size, 1, none⟩ (.string ⟨y.sup.toArray⟩)).setCell ⟨w.heap.size, 2, none⟩ (.slice y.kA y.km y.kc)).setCell ⟨w.heap.size, 3, none⟩ (.slice y.fA y.fm y.fc)).setCell ⟨w.heap.size, 4, none⟩ (.slice y.mA y.mm y.mc)) y :=
    ((OY.out.same (w' := fiv w3 w.heap.size (.string ⟨y.name.toArray⟩) (.string ⟨y.sup.toArray⟩) (.slice y.kA y.km y.kc) (.slice y.fA y.fm y.fc) (.slice y.mA y.mm y.mc)) (Nat.le_of_eq (fiv_size _ _ _ _ _ _ _).symm) (fun b hb => fiv_block _ _ _ _ _ _ _ b (by have := (OY.out.on b hb).1; omega))).mono (by omega))
  exact bodyPost_ret (v := .tuple #[clsV y, .bool is]) (result2 Tryz.results27 _ _ _ _ rfl (run_loadVar_row _ _ _ _ #[.string ⟨y.name.toArray⟩, .string ⟨y.sup.toArray⟩, .slice y.kA y.km y.kc, .slice y.fA y.fm y.fc, .slice y.mA y.mm y.mc] (0, 0) _ HW Tryz.underlying43 rfl sizeClass)) rfl
    ⟨y, rfl, OW, BY.out, ((((HB3.out.setCell (p := ⟨w.heap.size, 0, none⟩) (Nat.le_refl _) _).setCell (p := ⟨w.heap.size, 1, none⟩) (Nat.le_refl _) _).setCell (p := ⟨w.heap.size, 2, none⟩) (Nat.le_refl _) _).setCell (p := ⟨w.heap.size, 3, none⟩) (Nat.le_refl _) _).setCell (p := ⟨w.heap.size, 4, none⟩) (Nat.le_refl _) _⟩

theorem own_blk (A : Option Addr) (n c n' c' : Nat) : (Value.slice A n c).ownBlock = (Value.slice A n' c').ownBlock := by cases A <;> rfl
theorem keep_round {wr W w11 W6 : World} {a0 : Nat} {A : Option Addr} {n c n' c' : Nat} {v : Value} (hK : ∀ q, a0 ≤ q → q < W6.heap.size → wr.heap[q]? = W6.heap[q]?) (hS : W6.heap.size ≤ wr.heap.size) (hAt : ∀ b, (Value.slice A n c).ownBlock = some b → b < a0 ∨ W6.heap.size ≤ b) (hb : Below wr.heap.size wr W) (hg : W.grownBy w11 (Value.slice A n' c').ownBlock) (hat : v.ownBlock = (Value.slice A n' c').ownBlock ∨ v.ownBlock = some W.heap.size) :
    (∀ b, v.ownBlock = some b → b < a0 ∨ W6.heap.size ≤ b) ∧ (∀ q, a0 ≤ q → q < W6.heap.size → w11.heap[q]? = W6.heap[q]?) ∧ W6.heap.size ≤ w11.heap.size := by
  have h1 := hb.size
  have h2 := hg.size
  rw [own_blk A n' c' n c] at hg hat
  refine ⟨fun b hv => ?_, fun q a b => ?_, by omega⟩
  · rcases hat with e | e
    · exact hAt b (e ▸ hv)
    · rw [e] at hv; injection hv with hv; right; omega
  · refine (hg.block q (by omega) (fun e => ?_)).trans ((hb.block q (by omega)).trans (hK q a b))
    rcases hAt q e.symm with h | h <;> omega

set_option maxRecDepth 100000 in
set_option maxHeartbeats 16000000 in
theorem held_any {lo : Nat} {w : World} {t g mb n : Nat} {A : Option Addr} {c : Nat} {h : Hr} {L : List ClsT} {f : T → Option HavT} (H : Ta lo w t g mb n A c h L f) (ht : Total L f) (hfew : ∀ k ∈ L, k.fields.length ≤ 16 ∧ k.meths.length ≤ 32) (hml : L.length ≤ 1000) (hsh : Short L)
    {lo2 : Nat} {t2 g2 mb2 n2 : Nat} {A2 : Option Addr} {c2 : Nat} {h2 : Hr} {L2 : List ClsT} {f2 : T → Option HavT} (H2 : Ta lo2 w t2 g2 mb2 n2 A2 c2 h2 L2 f2) (ht2 : Total L2 f2) (hfew2 : ∀ k ∈ L2, k.fields.length ≤ 16 ∧ k.meths.length ≤ 32) (hml2 : L2.length ≤ 1000) (hsh2 : Short L2)
    (hnm : ∀ q ∈ h.names, q.length ≤ 140737488351232) (hL : InsA.Laid w) (hG : ∀ q nm, GoodM (ownC (keptC q L) nm) (ownP (keptC q L) nm).1) :
    Calls Tryz.prog 16 #[.pointer (some ⟨t, 0, none⟩), .pointer (some ⟨t2, 0, none⟩)] w fun e w' => ∃ v C, e = .returned v ∧ C.map TabV.bareC = L.map TabV.bareC ∧ OwnKy w' w.heap.size v (heldL L L2 (chL h.names h2.has L L2) C) ∧ Below w.heap.size w w' := by
  have HCh := Lib.hid (changed_any H ht hfew H2 ht2 hfew2 hnm)
  have HCs := Lib.hid (fun W (hb : Below w.heap.size w W) => classes_any (H.ext hb) (by omega) hsh)
  have HCl := Lib.hid (fun W (hb : Below w.heap.size w W) q => class_own (H2.ext hb) (by omega) hsh2 q)
  have HDp := Lib.hid (fun W (hb : Below w.heap.size w W) q nm => deps_any (H.ext hb) (by omega) (hL.below hb hL.1) q nm (hG q nm))
  have HLd := Lib.hid (fun W (hb : Below w.heap.size w W) => hL.below hb hL.1)
  have HDl := Lib.hid (fun q nm => deps_len (hG q nm))
  have Hsh := Lib.hid hsh
  have HFew := Lib.hid hfew
  have Hsh2 := Lib.hid (fun q => kept_short hsh2 q)
  have Z := Lib.hid (Below.refl w.heap.size w)
  have HCl2 := Lib.hid (chL_len h.names h2.has L L2)
  have hn41 := H.hier.few
  clear H H2 ht ht2 hfew hfew2 hsh hsh2 hnm hL hG
  generalize hch : chL h.names h2.has L L2 = ch at *
  clear hch
  go_enter Tryz.func16, Tryz.ntmps16
  go_wp2_with fail
  refine HCh.out.mono ?_
  rintro e w1 ⟨v1, rfl, ho1, hb1⟩
  obtain ⟨A1, c1, rfl, _, _, r1, _⟩ := ho1.slice
  have hal := (Below.refl w1.heap.size w1).alloc (Nat.le_refl _) (.cells #[.slice A1 ch.length c1] 49)
  have B2 := Lib.hid (hb1.trans (hal.mono hb1.size))
  have R2 := Lib.hid (r1.below hal)
  have X2 := Lib.hid (Bx.new w1 #[.slice A1 ch.length c1] 49)
  clear ho1 hb1 r1 hal
  go_wp2_with fail
  refine (HCs.out _ B2.out).mono ?_
  rintro e w3 ⟨A3, c3, C, rfl, r3, hi3, hb3, hbl3⟩
  have B3 := Lib.hid (B2.out.trans (hbl3.mono B2.out.size))
  have R3 := Lib.hid (R2.out.below hbl3)
  have X3 := Lib.hid (X2.out.after hbl3)
  have RC := Lib.hid r3
  have IC := Lib.hid hi3
  have HB3 := Lib.hid hb3
  have Z3 := Lib.hid (Below.refl w3.heap.size w3)
  have hCl : C.length ≤ 1000 := by have := congrArg List.length hb3; simp at this; omega
  have HFw : Hid (∀ k ∈ C, k.meths.length ≤ 32 ∧ ∀ z ∈ k.meths, z.code.length ≤ 100000 ∧ z.hand.length ≤ 100000) := Lib.hid (fun k hk => by
    obtain ⟨k', h1, h2⟩ := bare_mem hb3 hk
    refine ⟨((alk_of h2).few (HFew.out k' h1)).2, fun z hz => ?_⟩
    have e : k.meths.map bareM = k'.meths.map bareM := by have := congrArg ClsT.meths h2; exact this
    have hz2 : bareM z ∈ k'.meths.map bareM := by rw [← e]; exact List.mem_map.2 ⟨z, hz, rfl⟩
    obtain ⟨z', hz3, hz4⟩ := List.mem_map.1 hz2
    have h5 := (Hsh.out k' h1).2.2.2 z' hz3
    have e1 : z.code = z'.code := by have := congrArg MthT.code hz4; exact this.symm
    have e2 : z.hand = z'.hand := by have := congrArg MthT.hand hz4; exact this.symm
    rw [e1, e2]
    exact ⟨by omega, by omega⟩)
  clear r3 hi3 hb3 hbl3 HCs HCh R2 X2
  generalize w1.heap.size = gx at *
  go_wp2_with fail
  go_loopw [7, 28] (fun v i wr => ∃ (j : Nat), j ≤ C.length ∧ i = .int .i64 j ∧ OwnKy wr w3.heap.size v (heldL L L2 ch (C.take j)) ∧ (heldL L L2 ch (C.take j)).length ≤ j * 32 ∧ Below w3.heap.size w3 wr) (fun _ i _ => C.length - (intOf i).toNat)
  case atStart => exact ⟨0, Nat.zero_le _, rfl, World.ownsRow_nil _ _ _ _, by simp [heldL], Z3.out⟩
  case round =>
    obtain ⟨j, hj, rfl, hown, hlen, hbw⟩ := hrel
    have Hbw := Lib.hid hbw
    have HO := Lib.hid hown
    have GB := Lib.hid (B3.out.trans (hbw.mono B3.out.size))
    obtain ⟨A5, c5, rfl, _, _, _, _⟩ := own_slice hown
    by_cases hlt : j < C.length
    · obtain ⟨b1, o1, rfl, hb1, hc0, hc1, hc2, hc3, hc4⟩ := cls_at (RC.out.below hbw) hlt
      have hj1 : (j : Int) < (C.length : Int) := by omega
      have hj0 : (0 : Int) ≤ (j : Int) := by omega
      have HT := Lib.hid (heldL_take (L := L) (M := L2) (ch := ch) hlt)
      have Hx3 := Lib.hid (IC.out _ (List.getElem_mem hlt))
      have Hx := Lib.hid ((IC.out _ (List.getElem_mem hlt)).below hbw)
      have Hxw := HFw.out _ (List.getElem_mem hlt)
      have Hxs := Lib.hid Hxw.2
      have hxm32 := Hxw.1
      have hsz := hbw.size
      clear hbw hown Hxw
      generalize C[j] = x at *
      generalize heldL L L2 ch (C.take j) = ks at *
      have hal := (Below.refl wr.heap.size wr).alloc (Nat.le_refl _) (.cells #[.string ⟨x.name.toArray⟩, .string ⟨x.sup.toArray⟩, .slice x.kA x.km x.kc, .slice x.fA x.fm x.fc, .slice x.mA x.mm x.mc] 43)
      have Hal := Lib.hid hal
      have X9 := Lib.hid (Bx.new wr #[.string ⟨x.name.toArray⟩, .string ⟨x.sup.toArray⟩, .slice x.kA x.km x.kc, .slice x.fA x.fm x.fc, .slice x.mA x.mm x.mc] 43)
      have HCq := Lib.hid (HCl.out _ (GB.out.trans (hal.mono GB.out.size)) x.name)
      clear hal
      go_wp2_with fail
      refine HCq.out.mono ?_
      rintro e w5 ⟨y, rfl, hy, hby, hb5⟩
      simp only [clsV]
      have hal5 := (Below.refl w5.heap.size w5).alloc (Nat.le_refl _) (.cells #[.string ⟨y.name.toArray⟩, .string ⟨y.sup.toArray⟩, .slice y.kA y.km y.kc, .slice y.fA y.fm y.fc, .slice y.mA y.mm y.mc] 43)
      have X10 := Lib.hid (Bx.new w5 #[.string ⟨y.name.toArray⟩, .string ⟨y.sup.toArray⟩, .slice y.kA y.km y.kc, .slice y.fA y.fm y.fc, .slice y.mA y.mm y.mc] 43)
      have B06 : Below wr.heap.size wr (w5.alloc (.cells #[.string ⟨y.name.toArray⟩, .string ⟨y.sup.toArray⟩, .slice y.kA y.km y.kc, .slice y.fA y.fm y.fc, .slice y.mA y.mm y.mc] 43)) := (Hal.out.trans (hb5.mono Hal.out.size)).trans (hal5.mono (Hal.out.trans (hb5.mono Hal.out.size)).size)
      have X9' := Lib.hid ((X9.out.after hb5).after hal5)
      have HB06 := Lib.hid B06
      have Hy := Lib.hid ((hy.below hal5).mono (Hal.out.size))
      have hw5 : wr.heap.size ≤ w5.heap.size := (Hal.out.trans (hb5.mono Hal.out.size)).size
      have hw56 : w5.heap.size < (w5.alloc (.cells #[.string ⟨y.name.toArray⟩, .string ⟨y.sup.toArray⟩, .slice y.kA y.km y.kc, .slice y.fA y.fm y.fc, .slice y.mA y.mm y.mc] 43)).heap.size := X10.out.lt
      have Hby := Lib.hid hby
      have Hys : Hid (∀ z ∈ y.meths, z.code.length ≤ 100000 ∧ z.hand.length ≤ 100000) := Lib.hid (fun z hz => by
        have e : y.meths.map bareM = (keptC x.name L2).meths.map bareM := by have := congrArg ClsT.meths hby; exact this
        have hz2 : bareM z ∈ (keptC x.name L2).meths.map bareM := by rw [← e]; exact List.mem_map.2 ⟨z, hz, rfl⟩
        obtain ⟨z', hz3, hz4⟩ := List.mem_map.1 hz2
        have h5 := (Hsh2.out x.name).2.2.2 z' hz3
        have e1 : z.code = z'.code := by have := congrArg MthT.code hz4; exact this.symm
        have e2 : z.hand = z'.hand := by have := congrArg MthT.hand hz4; exact this.symm
        rw [e1, e2]
        exact ⟨by omega, by omega⟩)
      clear hb5 hy hby hal5 B06 hc0 hc1 hc2 hc3 hc4 HCq X9 Hal
      have p4 := X9'.out.cell 4
      have p9 := X9'.out.lt
      have hmm1 : x.mm ≤ x.meths.length := Nat.le_of_eq Hx.out.meths.len
      have hmm2 : x.meths.length ≤ x.mm := Nat.le_of_eq Hx.out.meths.len.symm
      go_wp2_with fail
      clear p4 p9
      generalize w5.alloc (.cells #[.string ⟨y.name.toArray⟩, .string ⟨y.sup.toArray⟩, .slice y.kA y.km y.kc, .slice y.fA y.fm y.fc, .slice y.mA y.mm y.mc] 43) = W6 at *
      have Z6 := Lib.hid (Below.refl W6.heap.size W6)
      obtain ⟨wA, hwA⟩ : ∃ x, x = wr := ⟨_, rfl⟩
      subst hwA
      go_loopw [7, 42] (fun v i wx => ∃ (k : Nat), k ≤ x.mm ∧ i = .int .i64 k ∧ OwnKy wx w3.heap.size v (ks ++ heldM L L2 ch x (x.meths.take k)) ∧ (∀ b, v.ownBlock = some b → b < wA.heap.size ∨ W6.heap.size ≤ b) ∧ (∀ q, wA.heap.size ≤ q → q < W6.heap.size → wx.heap[q]? = W6.heap[q]?) ∧ W6.heap.size ≤ wx.heap.size ∧ Below w3.heap.size w3 wx) (fun _ i _ => x.mm - (intOf i).toNat)
      case atStart => exact ⟨0, Nat.zero_le _, rfl, by simp only [List.take_zero, heldM, List.filter_nil, List.map_nil, List.append_nil]; exact HO.out.ext HB06.out, fun b hb => .inl (World.ownsRow.lt HO.out b hb).2, fun _ _ _ => rfl, Nat.le_refl _, Hbw.out.trans (HB06.out.mono Hbw.out.size)⟩
      case round =>
        obtain ⟨k, hk, rfl, hown, hat, hK, hS, hbx⟩ := hrel
        have HO2 := Lib.hid hown
        have HAt := Lib.hid hat
        have HKp := Lib.hid hK
        have B3x := Lib.hid hbx
        have GBx := Lib.hid (B3.out.trans (hbx.mono B3.out.size))
        have X9r := Lib.hid (show Bx wr wA.heap.size _ _ from (hK wA.heap.size (Nat.le_refl _) X9'.out.lt).trans X9'.out)
        have X10r := Lib.hid (show Bx wr w5.heap.size _ _ from (hK w5.heap.size hw5 hw56).trans X10.out)
        have Hyr := Lib.hid (Hy.out.same hS (fun q hq => hK q (Hy.out.on q hq).1 (Hy.out.on q hq).2)).is
        have Hxr := Lib.hid (Hx3.out.below hbx)
        clear hat hK
        obtain ⟨A8, c8, rfl, _, _, _, _⟩ := own_slice hown
        have hkl := heldM_len L L2 ch x (x.meths.take k)
        rw [List.length_take] at hkl
        by_cases hlk : k < x.mm
        · obtain ⟨b2, o2, hA2, hb2, d0, d1, d2, d3, d4⟩ := mth_at Hxr.out.meths.rds (show k < x.meths.length by omega)
          have hk1 : (k : Int) < (x.mm : Int) := by omega
          have hk0 : (0 : Int) ≤ (k : Int) := by omega
          have HT2 := Lib.hid (heldM_take (L := L) (M := L2) (ch := ch) (c := x) (l := x.meths) (show k < x.meths.length by omega))
          generalize x.meths[k]'(by omega) = z at *
          generalize heldM L L2 ch x (x.meths.take k) = hs at *
          have hal := (Below.refl wr.heap.size wr).alloc (Nat.le_refl _) (.cells #[.string ⟨z.name.toArray⟩, .string ⟨z.sig.toArray⟩, .int .i64 z.locals, .slice z.cA z.cm z.cc, .slice z.hA z.hm z.hc] 55)
          have X13 := Lib.hid (Bx.new wr #[.string ⟨z.name.toArray⟩, .string ⟨z.sig.toArray⟩, .int .i64 z.locals, .slice z.cA z.cm z.cc, .slice z.hA z.hm z.hc] 55)
          have q9 := (X9r.out.after hal).cell 0
          have q9l := (X9r.out.after hal).lt
          have HDq := Lib.hid (HDp.out _ (GBx.out.trans (hal.mono GBx.out.size)) x.name z.name)
          have hdl := HDl.out x.name z.name
          have HB : Hid (heldB L L2 ch x z = (((depsM (ownC (keptC x.name L) z.name).consts (ownP (keptC x.name L) z.name).1).any fun d => ch.contains d) || !sameB x z.name (keptC x.name L2) z.name)) := Lib.hid rfl
          have Hal := Lib.hid hal
          rw [hA2] at *
          clear hbx hown hal
          generalize depsM (ownC (keptC x.name L) z.name).consts (ownP (keptC x.name L) z.name).1 = ds at *
          go_wp2_with fail
          refine HDq.out.mono ?_
          rintro e w9 ⟨v9, rfl, ho9, hb9⟩
          obtain ⟨A9, c9, rfl, _, _, r9, _⟩ := ho9.slice
          have B39 := Lib.hid ((B3x.out.trans (Hal.out.mono B3x.out.size)).trans (hb9.mono (B3x.out.trans (Hal.out.mono B3x.out.size)).size))
          have GB9 := Lib.hid ((GBx.out.trans (Hal.out.mono GBx.out.size)).trans (hb9.mono (GBx.out.trans (Hal.out.mono GBx.out.size)).size))
          have Bw9 := Lib.hid (Hal.out.trans (hb9.mono Hal.out.size))
          have HCt := Lib.hid (containsIn_any A9 c9 ds gx A1 c1 ch w9 ((X3.out.after B39.out).cell 0) (R3.out.below B39.out) (by have := HCl2.out; omega) (by omega) r9)
          have Xc := X9r.out.after Bw9.out
          have x9c0 := Xc.cell 0
          have x9c1 := Xc.cell 1
          have x9c2 := Xc.cell 2
          have x9c3 := Xc.cell 3
          have x9c4 := Xc.cell 4
          have x9l := Xc.lt
          have Xd := X10r.out.after Bw9.out
          have x10c0 := Xd.cell 0
          have x10c1 := Xd.cell 1
          have x10c2 := Xd.cell 2
          have x10c3 := Xd.cell 3
          have x10c4 := Xd.cell 4
          have x10l := Xd.lt
          have Xm := X13.out.after hb9
          have x13c0 := Xm.cell 0
          have x13l := Xm.lt
          have HSm := Lib.hid (DlA.same_any x z.name y z.name w9 (Hxr.out.below Bw9.out) (Hyr.out.below Bw9.out) (HLd.out w9 GB9.out) Hxs.out Hys.out)
          have HEq := Lib.hid (show sameB x z.name y z.name = sameB x z.name (keptC x.name L2) z.name by rw [← same_bare x z.name y, ← same_bare x z.name (keptC x.name L2), Hby.out])
          rw [HEq.out] at HSm
          unfold clsA at HSm
          have HXc := Lib.hid Xc
          have HXm := Lib.hid Xm
          clear ho9 hb9 r9 HEq Xc Xd Xm q9 q9l d0 d1 d2 d3 d4 HDq
          generalize (ds.any fun d => ch.contains d) = sp at *
          generalize sameB x z.name (keptC x.name L2) z.name = sm at *
          generalize heldB L L2 ch x z = hd at *
          go_wp2_with fail
          refine HCt.out.mono ?_
          rintro e w' ⟨rfl, rfl⟩
          have Z9 := Lib.hid (Below.refl w9.heap.size w9)
          have B9 := Lib.hid B39.out
          cases sp
          · go_wp2_with fail
            refine HSm.out.mono ?_
            rintro e w10 ⟨rfl, hb10⟩
            have B10 := Lib.hid (B39.out.trans (hb10.mono B39.out.size))
            have Bw10 := Lib.hid (Bw9.out.trans (hb10.mono Bw9.out.size))
            have y9c0 := (HXc.out.after hb10).cell 0
            have y13c0 := (HXm.out.after hb10).cell 0
            have y9l := (HXc.out.after hb10).lt
            have y13l := (HXm.out.after hb10).lt
            clear hb10 x9c0 x9c1 x9c2 x9c3 x9c4 x9l x10c0 x10c1 x10c2 x10c3 x10c4 x10l x13c0 x13l
            cases sm
            · have HYes := Lib.hid (show hd = true by rw [HB.out]; rfl)
              have Ow10 := Lib.hid (HO2.out.ext Bw10.out)
              go_wp2_with (at_builtin
                           refine appKy rfl (.tmp 65) (.tmp 71) rfl w3.heap.size (.slice A8 (ks.length + hs.length) c8) (ks ++ hs) rfl (by have h := (Ow10.out.ext ((Below.refl _ _).alloc (Nat.le_refl _) (.cells #[.string ⟨x.name.toArray⟩, .string ⟨z.name.toArray⟩] 66))); rw [List.length_append] at h; exact h) w10.heap.size 1 (x.name, z.name) rfl (rds_new _ #[sv x.name, sv z.name] 66) (by simp; omega) (by simp; omega) ?_
                           intro v11 w11 hown11 hg11 hat11
                           have B11 := Lib.hid (below_own (B10.out.alloc B10.out.size (.cells #[.string ⟨x.name.toArray⟩, .string ⟨z.name.toArray⟩] 66)) (Ow10.out.ext ((Below.refl _ _).alloc (Nat.le_refl _) (.cells #[.string ⟨x.name.toArray⟩, .string ⟨z.name.toArray⟩] 66))) (by have := B3x.out; omega) (by simp; omega) (by rw [List.length_append]; exact hg11))
                           have O11 := Lib.hid hown11
                           have K11 := Lib.hid (keep_round HKp.out hS HAt.out (Bw10.out.alloc Bw10.out.size (.cells #[.string ⟨x.name.toArray⟩, .string ⟨z.name.toArray⟩] 66)) hg11 hat11)
                           clear hown11 hg11)
              go_roundw
              case rel => exact ⟨k + 1, by omega, by go_num, by rw [HT2.out, if_pos HYes.out, ← List.append_assoc]; exact O11.out, K11.out.1, K11.out.2.1, K11.out.2.2, B11.out⟩
              case measure => simp [intOf]; omega
            · have HNo := Lib.hid (show hd = false by rw [HB.out]; rfl)
              have OF := Lib.hid (HO2.out.ext Bw10.out)
              go_wp2_with fail
              go_roundw
              case rel => exact ⟨k + 1, by omega, by go_num, by rw [HT2.out, if_neg (by rw [HNo.out]; simp), List.append_nil]; have h := OF.out; rw [List.length_append] at h; exact h, (by have h := HAt.out; rw [List.length_append] at h; exact h), fun q h1 h2 => (Bw10.out.block q (by omega)).trans (HKp.out q h1 h2), Nat.le_trans hS Bw10.out.size, B10.out⟩
              case measure => simp [intOf]; omega
          · have HYes := Lib.hid (show hd = true by rw [HB.out]; rfl)
            have Ow9 := Lib.hid (HO2.out.ext Bw9.out)
            go_wp2_with (at_builtin
                         refine appKy rfl (.tmp 65) (.tmp 71) rfl w3.heap.size (.slice A8 (ks.length + hs.length) c8) (ks ++ hs) rfl (by have h := (Ow9.out.ext ((Below.refl _ _).alloc (Nat.le_refl _) (.cells #[.string ⟨x.name.toArray⟩, .string ⟨z.name.toArray⟩] 66))); rw [List.length_append] at h; exact h) w9.heap.size 1 (x.name, z.name) rfl (rds_new _ #[sv x.name, sv z.name] 66) (by simp; omega) (by simp; omega) ?_
                         intro v11 w11 hown11 hg11 hat11
                         have B11 := Lib.hid (below_own (B9.out.alloc B9.out.size (.cells #[.string ⟨x.name.toArray⟩, .string ⟨z.name.toArray⟩] 66)) (Ow9.out.ext ((Below.refl _ _).alloc (Nat.le_refl _) (.cells #[.string ⟨x.name.toArray⟩, .string ⟨z.name.toArray⟩] 66))) (by have := B3x.out; omega) (by simp; omega) (by rw [List.length_append]; exact hg11))
                         have O11 := Lib.hid hown11
                         have K11 := Lib.hid (keep_round HKp.out hS HAt.out (Bw9.out.alloc Bw9.out.size (.cells #[.string ⟨x.name.toArray⟩, .string ⟨z.name.toArray⟩] 66)) hg11 hat11)
                         clear hown11 hg11)
            go_roundw
            case rel => exact ⟨k + 1, by omega, by go_num, by rw [HT2.out, if_pos HYes.out, ← List.append_assoc]; exact O11.out, K11.out.1, K11.out.2.1, K11.out.2.2, B11.out⟩
            case measure => simp [intOf]; omega
        · have hkm : x.meths.take k = x.meths := List.take_of_length_le (by omega)
          have HF : Hid (OwnKy wr w3.heap.size (.slice A8 (ks ++ heldM L L2 ch x (x.meths.take k)).length c8) (ks ++ heldM L L2 ch x x.meths)) := Lib.hid (by
            have h := HO2.out
            rw [hkm] at h ⊢
            exact h)
          clear hbx hown
          go_wp2_with fail
          go_roundw
          case rel => exact ⟨j + 1, by omega, by go_num, by rw [HT.out]; exact HF.out, by rw [HT.out, List.length_append]; have := heldM_len L L2 ch x x.meths; omega, B3x.out⟩
          case measure => simp [intOf]; omega
    · have hjm : C.take j = C := List.take_of_length_le (by omega)
      have HF := Lib.hid (show OwnKy wr w.heap.size (.slice A5 (heldL L L2 ch (C.take j)).length c5) (heldL L L2 ch C) by
        have h := HO.out
        rw [hjm] at h ⊢
        exact World.ownsRow.mono h B3.out.size)
      clear hbw hown
      go_wp2_with fail
      go_ret
      exact ⟨_, C, rfl, HB3.out, HF.out, GB.out⟩
end DlC
end Go.Proofs.YtiagjnimafdbhaaGreatDoor
