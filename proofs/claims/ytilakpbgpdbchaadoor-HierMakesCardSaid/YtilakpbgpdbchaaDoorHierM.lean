/-
  How a hierarchy lies in memory, and what its smallest calls return.
-/
import Derived.Test.YtilakpbgpdbchaaDoorHierT
import Derived.Test.YtilakpbgpdbchaaDoorBinPut
import Derived.Maps.OwnSet
import Derived.Outline
import Derived.Deep.QuietTactic
import Derived.BigQuiet
namespace Go.Proofs.YtilakpbgpdbchaaDoor
namespace HierM
open Go.RowKit BinM Base DescM DescW DescX HierS HierT
open BinName (ret_bool)

def sv (t : T) : Value := .string ⟨t.toArray⟩
abbrev DW := DataW Unit

theorem idx_from (c : T) : ∀ (ns : List T) (i : Nat), Lib.idxFromS (ns.map fun t => ⟨t.toArray⟩) ⟨c.toArray⟩ i = if c ∈ ns then ((i + ns.idxOf c : Nat) : Int) else -1
  | [], i => by simp [Lib.idxFromS]
  | n :: ns, i => by
    simp only [List.map_cons, Lib.idxFromS]
    by_cases h : n = c
    · subst h; simp
    · have h1 : ¬ (ByteArray.mk n.toArray = ByteArray.mk c.toArray) := by
        intro e; injection e with e; exact h (by simpa using congrArg Array.toList e)
      have h2 : ¬ c = n := fun e => h e.symm
      have h3 : (n == c) = false := by simpa using h
      rw [if_neg h1, idx_from c ns (i + 1)]
      simp only [List.mem_cons, h2, false_or, List.idxOf_cons, h3, cond_false]
      by_cases hm : c ∈ ns
      · rw [if_pos hm, if_pos hm]; congr 1; omega
      · rw [if_neg hm, if_neg hm]
theorem idx_s (c : T) (ns : List T) : Lib.idxOfS (ns.map fun t => ⟨t.toArray⟩) ⟨c.toArray⟩ = if c ∈ ns then ((ns.idxOf c : Nat) : Int) else -1 := by
  unfold Lib.idxOfS; rw [idx_from]; simp
theorem has_s (c : T) (ns : List T) : Lib.containsS (ns.map fun t => ⟨t.toArray⟩) ⟨c.toArray⟩ = ns.contains c := by
  unfold Lib.containsS
  rw [idx_s]
  by_cases hm : c ∈ ns
  · rw [if_pos hm]; simp [hm]
  · rw [if_neg hm]; simp [hm]

theorem cells_s {w : World} {b o : Nat} {ns : List T} (hc : ∀ j u, (ns.map sv)[j]? = some u → w.cell? ⟨b, o + j, none⟩ = some u) :
    ∀ j, j < (ns.map fun t => (⟨t.toArray⟩ : ByteArray)).length → w.cell? ⟨b, o + j, none⟩ = some (.string ((ns.map fun t => (⟨t.toArray⟩ : ByteArray)).getD j ByteArray.empty)) := by
  intro j hj
  refine hc j _ ?_
  rw [List.length_map] at hj
  rw [List.getElem?_map, List.getElem?_eq_getElem hj]
  simp [List.getD_eq_getElem?_getD, List.getElem?_map, List.getElem?_eq_getElem hj, sv]

theorem contains_l (A : Option Addr) (n cap : Nat) (ns : List T) (c : T) (w : World) (hn : n = ns.length) (hm : n ≤ 9223372036854775807) (hr : Rds w A (ns.map sv)) :
    Calls Tryd.prog 35 #[.slice A n cap, .string ⟨c.toArray⟩] w fun e w' => e = .returned (.bool (ns.contains c)) ∧ w = w' := by
  rcases hr with h0 | ⟨b, o, rfl, _, hc⟩
  · have h0' : ns = [] := by simpa using h0
    subst h0'; subst hn
    exact (Tryd.slices_Contains_string_empty A cap ⟨c.toArray⟩ w).mono fun e w' ⟨h1, h2⟩ => ⟨h1, h2.symm⟩
  · refine (Tryd.slices_Contains_string b o n cap (ns.map fun t => ⟨t.toArray⟩) ⟨c.toArray⟩ w (by simp; omega) hm (cells_s hc)).mono fun e w' ⟨h1, h2⟩ => ⟨?_, h2.symm⟩
    rw [h1, List.take_of_length_le (by simp; omega), has_s]
theorem index_l (A : Option Addr) (n cap : Nat) (ns : List T) (c : T) (w : World) (hn : n = ns.length) (hm : n ≤ 9223372036854775807) (hr : Rds w A (ns.map sv)) :
    Calls Tryd.prog 39 #[.slice A n cap, .string ⟨c.toArray⟩] w fun e w' => e = .returned (.int .i64 (if c ∈ ns then ((ns.idxOf c : Nat) : Int) else -1)) ∧ w = w' := by
  rcases hr with h0 | ⟨b, o, rfl, _, hc⟩
  · have h0' : ns = [] := by simpa using h0
    subst h0'; subst hn
    exact (Tryd.slices_Index_string_empty A cap ⟨c.toArray⟩ w).mono fun e w' ⟨h1, h2⟩ => ⟨h1, h2.symm⟩
  · refine (Tryd.slices_Index_string b o n cap (ns.map fun t => ⟨t.toArray⟩) ⟨c.toArray⟩ w (by simp; omega) hm (cells_s hc)).mono fun e w' ⟨h1, h2⟩ => ⟨?_, h2.symm⟩
    rw [h1, List.take_of_length_le (by simp; omega), idx_s]
/-- texts in a row of the call's own -/
def OwnT (w : World) (base : Nat) (v : Value) (ns : List T) : Prop := w.ownsRow base 9 1 v ns.length (ns.map sv)
theorem OwnT.nil (w : World) (base : Nat) : OwnT w base (.slice none 0 0) [] := World.ownsRow_nil _ _ _ _
theorem clone_l (A : Option Addr) (n cap : Nat) (ns : List T) (w : World) (hn : n = ns.length) (hm : n ≤ 8796093022208) (hr : Rds w A (ns.map sv)) :
    Calls Tryd.prog 34 #[.slice A n cap] w fun e w' => ∃ v, e = .returned v ∧ OwnT w' w.heap.size v ns ∧ Below w.heap.size w w' := by
  rcases hr with h0 | ⟨b, o, rfl, _, hc⟩
  · have h0' : ns = [] := by simpa using h0
    subst h0'; subst hn
    cases A with
    | none => exact (Tryd.slices_Clone_string_nil 0 cap w).mono fun e w' ⟨h1, h2⟩ => ⟨_, h1, OwnT.nil _ _, by rw [h2]; exact Below.refl _ _⟩
    | some a => exact (Tryd.slices_Clone_string_zero a cap w).mono fun e w' ⟨v, h1, h2, _, h3⟩ => ⟨v, h1, h2, h3⟩
  · refine (Tryd.slices_Clone_string b o n cap (ns.map fun t => ⟨t.toArray⟩) w (by simp; omega) (by omega) (cells_s hc)).mono fun e w' ⟨v, h1, h2, _, h3⟩ => ⟨v, h1, ?_, h3⟩
    rw [List.take_of_length_le (by simp; omega)] at h2
    unfold OwnT
    rw [← hn]
    have e : (ns.map fun t => (⟨t.toArray⟩ : ByteArray)).map Value.string = ns.map sv := by simp [sv]
    rw [← e]; exact h2

theorem keyS : Maps.Keyed Tryd.prog 9 := Maps.string_keyed Tryd.underlying9
theorem zeroI (w : World) : (zeroValue 3).run Tryd.prog w = .ok (.int .i64 0) w := by kernel_rfl
/-- a map from names to places -/
def MapIs (w : World) (b : Nat) (f : T → Option Nat) : Prop :=
  ∃ (n : Nat) (D : DW), n ≤ 100000 ∧ w.ownsMap Tryd.prog 9 (plainElem Tryd.prog 3) b n D ∧ Maps.IsMap D ∧
    ∀ c, (f c = none → Maps.has D (.string c) = false) ∧ (∀ i : Nat, f c = some i → Maps.has D (.string c) = true ∧ D.atKey (.string c) (.lit (.int .i64 0)) = .lit (.int .i64 (i : Int)))
theorem ownsMap_block {H : Type} {P : Program} {k : TypeId} {R : Value → Option (DataW H × List MemPlace)} {w w' : World} {b n : Nat} {D : DataW H} (h : w.ownsMap P k R b n D) (hb : w'.heap[b]? = w.heap[b]?) : w'.ownsMap P k R b n D := by
  obtain ⟨es, clock, h1, h2⟩ := h
  exact ⟨es, clock, hb.trans h1, h2⟩
theorem MapIs.lt {w : World} {b : Nat} {f : T → Option Nat} (h : MapIs w b f) : b < w.heap.size := by
  obtain ⟨n, D, _, h1, _⟩ := h
  exact h1.lt
theorem MapIs.block {w w' : World} {b : Nat} {f : T → Option Nat} (h : MapIs w b f) (hb : w'.heap[b]? = w.heap[b]?) : MapIs w' b f := by
  obtain ⟨n, D, h0, h1, h2⟩ := h
  exact ⟨n, D, h0, ownsMap_block h1 hb, h2⟩

/-- a hierarchy in memory, in blocks below B -/
structure IsH (B : Nat) (w : World) (g : Nat) (h : Hr) : Prop where
  cells : ∃ (A : Option Addr) (n c mb : Nat), w.heap[g]? = some (.cells #[.slice A n c, .map (some mb)] 66 (0, 0)) ∧ n = h.names.length ∧ n ≤ c ∧ c ≤ maxLen ∧ Rds w A (h.names.map sv) ∧ (∀ a, A = some a → a.block < B) ∧ mb < B ∧ MapIs w mb h.above
  low : g < B
  inn : ∀ c i, h.above c = some i → i < h.names.length
  few : h.names.length ≤ 41
  long : ∀ c ∈ h.names, c.length ≤ 140737488355000
theorem IsH.below {B : Nat} {w w' : World} {g : Nat} {h : Hr} (H : IsH B w g h) (hb : Below B w w') : IsH B w' g h := by
  obtain ⟨⟨A, n, c, mb, h1, h2, h3, h4, h5, h6, h7, h8⟩, k2, k3, k4, k5⟩ := H
  exact ⟨⟨A, n, c, mb, (hb.block g k2).trans h1, h2, h3, h4, h5.below_of hb h6, h6, h7, h8.block (hb.block mb h7)⟩, k2, k3, k4, k5⟩
theorem IsH.mono {B B' : Nat} {w : World} {g : Nat} {h : Hr} (H : IsH B w g h) (hb : B ≤ B') : IsH B' w g h := by
  obtain ⟨⟨A, n, c, mb, h1, h2, h3, h4, h5, h6, h7, h8⟩, k2, k3, k4, k5⟩ := H
  exact ⟨⟨A, n, c, mb, h1, h2, h3, h4, h5, fun a ha => Nat.lt_of_lt_of_le (h6 a ha) hb, Nat.lt_of_lt_of_le h7 hb, h8⟩, Nat.lt_of_lt_of_le k2 hb, k3, k4, k5⟩

theorem has_any (B g : Nat) (h : Hr) (c : T) (w : World) (H : IsH B w g h) :
    Calls Tryd.prog 15 #[.pointer (some ⟨g, 0, none⟩), .string ⟨c.toArray⟩] w fun e w' => e = .returned (.bool (h.has c)) ∧ w = w' := by
  obtain ⟨A, n, cap, mb, h1, h2, h3, h4, h5, _⟩ := H.cells
  have hf := H.few
  have c0 : w.cell? ⟨g, 0, none⟩ = some (.slice A n cap) := cell_of_row _ _ _ _ _ (0, 0) h1
  have HC := Lib.hid (show Calls Tryd.prog 35 #[.slice A n cap, .string ⟨c.toArray⟩] w fun e w' => e = .returned (.bool (h.has c)) ∧ w = w' from contains_l A n cap h.names c w h2 (by omega) h5)
  clear h1 h2 h3 h4 h5 H hf
  go_enter Tryd.func15, Tryd.ntmps15
  go_wp2_with (go_at_call 35; refine HC.out.mono ?_; rintro e w' ⟨rfl, rfl⟩)
  go_ret
  exact ⟨rfl, rfl⟩
theorem has_nil (c : ByteArray) (w : World) :
    Calls Tryd.prog 15 #[.pointer none, .string c] w fun e w' => e = .returned (.bool false) ∧ w = w' := by
  go_enter Tryd.func15, Tryd.ntmps15
  go_wp2
  go_ret
  exact ⟨rfl, rfl⟩

def superT (h : Hr) (c : T) : T × Bool := match h.up c with | some u => (u, true) | none => ([], false)
set_option maxRecDepth 100000 in
theorem super_any (B g : Nat) (h : Hr) (c : T) (w : World) (H : IsH B w g h) (hl : c.length ≤ 140737488355328) :
    Calls Tryd.prog 10 #[.pointer (some ⟨g, 0, none⟩), .string ⟨c.toArray⟩] w fun e w' => e = .returned (twoB (superT h c)) ∧ w = w' := by
  obtain ⟨A, n, cap, mb, h1, h2, h3, h4, h5, _, _, hM⟩ := H.cells
  obtain ⟨k, D, _, hown, _, hat⟩ := hM
  have c0 : w.cell? ⟨g, 0, none⟩ = some (.slice A n cap) := cell_of_row _ _ _ _ _ (0, 0) h1
  have c1 : w.cell? ⟨g, 1, none⟩ = some (.map (some mb)) := cell_of_row _ _ _ _ _ (0, 0) h1
  have hkey : keyOf Tryd.prog 9 (.string ⟨c.toArray⟩) = some (.string c) := Go.WideMaps.keyOf_string_mk Tryd.underlying9 (s := ⟨c.toArray⟩) (by show c.length ≤ maxLen; unfold maxLen; omega)
  have HO := Lib.hid hown
  have HK := Lib.hid hkey
  have inn := H.inn c
  have hfew := H.few
  clear hown hkey H h1 hl
  unfold superT Hr.up
  cases ha : h.above c with
  | none =>
    have hhas := (hat c).1 ha
    clear hat ha inn h2 h3 h4 hfew
    go_enter Tryd.func10, Tryd.ntmps10
    go_wp2_with (at_lookup; refine wpList_lookup_own_ok_int _ rfl _ _ 64 rfl 9 3 .i64 keyS Tryd.underlying64 Tryd.underlying3 (zeroI _) mb k D rfl HO.out _ _ rfl HK.out ?_; intro c' hat' hwc)
    go_ret2
    exact ⟨rfl, rfl⟩
  | some i =>
    obtain ⟨hhas, hati⟩ := (hat c).2 i ha
    have hi := inn i ha
    clear hat ha inn
    have hg : h.names[i]? = some h.names[i] := List.getElem?_eq_getElem hi
    have hc := h5.at_ (k := i) (by simpa using hi)
    obtain ⟨b, o, rfl, _, hci⟩ := hc
    rw [List.getElem_map] at hci
    have hin : (i : Int) < (n : Int) := by omega
    have hn0 : (n : Int) ≤ 41 := by omega
    have HA := Lib.hid hati
    simp only [Option.bind_some, hg]
    generalize h.names[i] = u at *
    clear hati hg h5 hi h2 h3 h4 hfew
    unfold sv at hci
    go_enter Tryd.func10, Tryd.ntmps10
    go_wp2_with (at_lookup; refine wpList_lookup_own_ok_int _ rfl _ _ 64 rfl 9 3 .i64 keyS Tryd.underlying64 Tryd.underlying3 (zeroI _) mb k D rfl HO.out _ _ rfl HK.out ?_; intro c' hat' hwc; obtain rfl : c' = (i : Int) := (by have := hat'.symm.trans HA.out; injection this with this; injection this); clear hat' hwc)
    go_ret2
    exact ⟨rfl, rfl⟩
theorem super_nil (c : ByteArray) (w : World) :
    Calls Tryd.prog 10 #[.pointer none, .string c] w fun e w' => e = .returned (twoB ([], false)) ∧ w = w' := by
  go_enter Tryd.func10, Tryd.ntmps10
  go_wp2
  go_ret2
  exact ⟨rfl, rfl⟩
theorem names_any (B g : Nat) (h : Hr) (w : World) (H : IsH B w g h) :
    Calls Tryd.prog 13 #[.pointer (some ⟨g, 0, none⟩)] w fun e w' => ∃ v, e = .returned v ∧ OwnT w' w.heap.size v h.names ∧ Below w.heap.size w w' := by
  obtain ⟨A, n, cap, mb, h1, h2, h3, h4, h5, _⟩ := H.cells
  have hf := H.few
  have c0 : w.cell? ⟨g, 0, none⟩ = some (.slice A n cap) := cell_of_row _ _ _ _ _ (0, 0) h1
  have HC := Lib.hid (clone_l A n cap h.names w h2 (by omega) h5)
  clear h1 h2 h3 h4 h5 H hf
  go_enter Tryd.func13, Tryd.ntmps13
  go_wp2_with (go_at_call 34; refine HC.out.mono ?_; rintro e w' ⟨v, rfl, hown, hb⟩)
  go_ret
  exact ⟨v, rfl, hown, hb⟩
theorem names_nil (w : World) :
    Calls Tryd.prog 13 #[.pointer none] w fun e w' => e = .returned (.slice none 0 0) ∧ w = w' := by
  go_enter Tryd.func13, Tryd.ntmps13
  go_wp2
  go_ret
  exact ⟨rfl, rfl⟩
theorem infoS : (Tryd.prog.info? 9).map (fun i => (i.zero, i.size, i.bytes)) = some (some (.string ⟨#[]⟩), 1, 16) := by kernel_rfl
theorem one_sv (ts : List T) : ∀ u ∈ ts.map sv, u.oneCell' = true := by
  intro u hu
  obtain ⟨t, _, rfl⟩ := List.mem_map.1 hu
  rfl
theorem appT {ops : Array Oper} {rest : List Oper} {o : Oper} {a : Act} {w : World} {Q : Exit → Act → World → Prop} (hgd : o.guard = none) (s x : Operand)
    (ho : o.op = .call { callee := .builtin .append, args := #[s, x], argTypes := #[31, 31] })
    (base : Nat) (v : Value) (p : List T) (hs : a.eval s = v) (hown : OwnT w base v p) (A : Option Addr) (m c : Nat) (l : List T) (hx : a.eval x = .slice A m c)
    (hm : m = l.length) (hr : Rds w A (l.map sv)) (hlen : p.length + l.length ≤ 1048576) (hbase : base ≤ w.heap.size)
    (h : ∀ v' w', OwnT w' base v' (p ++ l) → w.grownBy w' v.ownBlock → wpList Tryd.prog ops Q rest (a.put o.dst v') w') : wpList Tryd.prog ops Q (o :: rest) a w := by
  obtain ⟨i0, hi, hz, hs1, hb1⟩ := info_parts infoS
  refine wpList_append_rds hgd s x 31 ho base 9 i0 _ 16 Tryd.underlying31 hi hz hs1 hb1 rfl v p.length (p.map sv) hs hown A m c (l.map sv) hx (by rw [List.length_map, hm]) hr (one_sv l) (by unfold maxLen; omega) (by omega) hbase ?_
  intro v' w' h1 h2
  refine h v' w' ?_ h2
  unfold OwnT
  rw [List.map_append, List.length_append, ← hm]
  exact h1
theorem OwnT.slice {w : World} {base : Nat} {v : Value} {p : List T} (h : OwnT w base v p) :
    ∃ A c, v = .slice A p.length c ∧ p.length ≤ c ∧ c ≤ maxLen ∧ Rds w A (p.map sv) ∧ ∀ a, A = some a → base ≤ a.block ∧ a.block < w.heap.size := by
  obtain ⟨A, c, rfl, h1, h2, h3, _⟩ := own_slice h
  exact ⟨A, c, rfl, h1, h2, Rds.own h, fun a ha => ⟨(h3 a ha).1, (h3 a ha).2.1⟩⟩
theorem OwnT.one (w : World) (c : T) : OwnT (w.alloc (.cells #[sv c] 9)) w.heap.size (.slice (some ⟨w.heap.size, 0, none⟩) 1 1) [c] :=
  World.ownsRow_lit w #[sv c] 1 (Nat.le_refl _) (by unfold maxLen; omega) rfl

end HierM
end Go.Proofs.YtilakpbgpdbchaaDoor
