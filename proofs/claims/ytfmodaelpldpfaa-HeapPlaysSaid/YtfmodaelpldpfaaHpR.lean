/-
  The document's heap: things in a list; how it lies in memory; Used, Find, Len, Get: what each of them hands back.
-/
import Derived.Test.YtfmodaelpldpfaaHpZ
import Derived.Test.YtfmodaelpldpfaaStru
namespace Go.Proofs.Ytfmodaelpldpfaa
namespace HpR
open Go.RowKit Base BinM HpM HpA HpS HpB HpG HpP HpT HpZ

/-- a thing of the document's heap, and where its words lie -/
structure ThM where
  at_ : Int
  A : Option Addr
  c : Nat
  t : Th
def thV (m : ThM) : List Value := [.int .i64 m.at_, .int .i64 (m.t.id : Int), .slice m.A m.t.W.length m.c, .int .i64 m.t.s]
theorem thV_len (m : ThM) : (thV m).length = 4 := rfl
def things (ms : List ThM) : List Th := ms.map ThM.t
/-- the blocks of a document's heap -/
def rfeet (r : Nat) (AL : Option Addr) (ms : List ThM) : Nat → Prop := fun k => k = r ∨ (∃ a, AL = some a ∧ a.block = k) ∨ ∃ m ∈ ms, ∃ a, m.A = some a ∧ a.block = k
structure RfX (w : World) (r : Nat) (AL : Option Addr) (cL most : Nat) (ms : List ThM) : Prop where
  box : Bx w r #[.int .i64 most, .slice AL ms.length cL] 47
  row : w.ownsRow 0 64 4 (.slice AL ms.length cL) ms.length (ms.flatMap thV)
  each : ∀ m ∈ ms, OwnI w 0 (.slice m.A m.t.W.length m.c) m.t.W
  rl : ∀ a, AL = some a → a.block ≠ r
  rw_ : ∀ m ∈ ms, ∀ a, m.A = some a → a.block ≠ r ∧ ∀ b, AL = some b → a.block ≠ b.block
  ww : ms.Pairwise (fun m m' => ∀ a b, m.A = some a → m'.A = some b → a.block ≠ b.block)
  ats : ms.map ThM.at_ = adr 0 (things ms)

section
variable {w w' : World} {r : Nat} {AL : Option Addr} {cL most : Nat} {ms : List ThM}

theorem RfX.lt (H : RfX w r AL cL most ms) {k : Nat} (hk : rfeet r AL ms k) : k < w.heap.size := by
  rcases hk with rfl | ⟨a, h1, rfl⟩ | ⟨m, hm, a, h1, rfl⟩
  · exact H.box.lt
  · subst h1; exact (H.row.lt _ rfl).2
  · exact (own_in (H.each m hm) h1).1
theorem RfX.aside (H : RfX w r AL cL most ms) (hb : ∀ k, rfeet r AL ms k → w'.heap[k]? = w.heap[k]?) : RfX w' r AL cL most ms := by
  obtain ⟨h1, h2, h3, h4, h5, h6, h7⟩ := H
  refine ⟨(hb r (.inl rfl)).trans h1, own_same h2 (fun k hk => hb k ?_), fun m hm => own_same (h3 m hm) (fun k hk => hb k ?_), h4, h5, h6, h7⟩
  · obtain ⟨a, q1, q2⟩ := block_of hk
    exact .inr (.inl ⟨a, q1, q2⟩)
  · obtain ⟨a, q1, q2⟩ := block_of hk
    exact .inr (.inr ⟨m, hm, a, q1, q2⟩)
theorem RfX.beside (H : RfX w r AL cL most ms) (hb : Below w.heap.size w w') : RfX w' r AL cL most ms := H.aside (fun k hk => hb.block k (H.lt hk))
theorem RfX.drew (H : RfX w r AL cL most ms) (q : Nat) : RfX (w.drewN q) r AL cL most ms := H.aside (fun _ _ => rfl)

/-- a thing's cells -/
theorem RfX.cells (H : RfX w r AL cL most ms) {p : List ThM} {m : ThM} {q : List ThM} (e : ms = p ++ m :: q) : ∃ b o, AL = some ⟨b, o, none⟩ ∧
    w.cell? ⟨b, o + p.length * 4, none⟩ = some (.int .i64 m.at_) ∧ w.cell? ⟨b, o + p.length * 4 + 1, none⟩ = some (.int .i64 (m.t.id : Int)) ∧ w.cell? ⟨b, o + p.length * 4 + 2, none⟩ = some (.slice m.A m.t.W.length m.c) ∧ w.cell? ⟨b, o + p.length * 4 + 3, none⟩ = some (.int .i64 m.t.s) := by
  subst e
  have hr : Rds w AL ((p ++ m :: q).flatMap thV) := Rds.own H.row
  obtain ⟨b, o, rfl, _, hc⟩ := Stru.flat_at (f := thV) (n := 4) thV_len (by omega) hr (k := p.length) (by simp)
  have he : (p ++ m :: q)[p.length]'(by simp) = m := by simp
  rw [he] at hc
  exact ⟨b, o, rfl, hc 0 _ rfl, by rw [Nat.add_assoc]; exact hc 1 _ rfl, by rw [Nat.add_assoc]; exact hc 2 _ rfl, by rw [Nat.add_assoc]; exact hc 3 _ rfl⟩

theorem raw_take (j : Nat) (h : j < ms.length) : (raw (things (ms.take (j + 1)))).length = (raw (things (ms.take j))).length + 1 + (ms[j]).t.W.length := by
  unfold things
  rw [List.take_succ_eq_append_getElem h, List.map_append, raw_append, List.length_append]
  simp only [List.map_cons, List.map_nil, raw_one, row_length]
  omega
theorem raw_le (j : Nat) : (raw (things (ms.take j))).length ≤ (raw (things ms)).length := by
  have h : things ms = things (ms.take j) ++ things (ms.drop j) := by unfold things; rw [← List.map_append, List.take_append_drop]
  rw [h, raw_append, List.length_append]
  omega

set_option maxRecDepth 100000 in
theorem rused_any (H : RfX w r AL cL most ms) (hb : (raw (things ms)).length ≤ 4096) (hn : ms.length ≤ 4096) :
    Calls Try.prog 14 #[.pointer (some ⟨r, 0, none⟩)] w fun e w' => e = .returned (.int .i64 ((raw (things ms)).length : Int)) ∧ w = w' := by
  have c1 := H.box.cell 1
  have HH := Lib.hid H
  clear H
  go_enter Try.func14, Try.ntmps14
  go_wp2
  go_loopw [3, 4] (fun s i wr => ∃ j : Nat, j ≤ ms.length ∧ i = .int .i64 j ∧ s = .int .i64 ((raw (things (ms.take j))).length : Int) ∧ w = wr) (fun _ i _ => ms.length - (intOf i).toNat)
  case atStart => exact ⟨0, Nat.zero_le _, rfl, rfl, rfl⟩
  case round =>
    obtain ⟨j, hj, rfl, rfl, rfl⟩ := hrel
    by_cases hlt : j < ms.length
    · have e : ms = ms.take j ++ ms[j] :: ms.drop (j + 1) := by rw [← List.drop_eq_getElem_cons hlt, List.take_append_drop]
      obtain ⟨b, o, rfl, _, _, k2, _⟩ := HH.out.cells e
      rw [List.length_take, Nat.min_eq_left (by omega)] at k2
      have hstep := raw_take j hlt
      have hle := raw_le (ms := ms) (j + 1)
      have hj1 : (j : Int) < (ms.length : Int) := by omega
      have HS := Lib.hid hstep
      generalize ms[j] = m at *
      clear e
      generalize (raw (things (ms.take j))).length = P at *
      generalize m.t.W.length = L at *
      have hPL : P + 1 + L ≤ 4096 := by omega
      clear hstep hle
      go_wp2_with fail
      go_roundw
      case rel => exact ⟨j + 1, by omega, by go_num, by rw [HS.out]; go_num, trivial⟩
      case measure => simp [intOf]; omega
    · have hj1 : ¬ (j : Int) < (ms.length : Int) := by omega
      have ht : ms.take j = ms := List.take_of_length_le (by omega)
      rw [ht]
      go_wp2_with fail
      go_ret
      exact ⟨rfl, rfl⟩

set_option maxRecDepth 100000 in
theorem find_any (H : RfX w r AL cL most ms) (hn : ms.length ≤ 4096) (x : Int) {i : Nat} (hi : i ≤ ms.length) (hno : ∀ m ∈ ms.take i, m.at_ ≠ x) (hyes : ∀ h : i < ms.length, ms[i].at_ = x) :
    Calls Try.prog 37 #[.pointer (some ⟨r, 0, none⟩), .int .i64 x] w fun e w' => e = .returned (.int .i64 (if i < ms.length then (i : Int) else -1)) ∧ w = w' := by
  have c1 := H.box.cell 1
  have HH := Lib.hid H
  have HN := Lib.hid hno
  have HY := Lib.hid hyes
  have HR1 : Hid (i < ms.length → (if i < ms.length then (i : Int) else -1) = (i : Int)) := Lib.hid (fun h => if_pos h)
  have HR2 : Hid (¬ i < ms.length → (if i < ms.length then (i : Int) else -1) = -1) := Lib.hid (fun h => if_neg h)
  generalize (if i < ms.length then (i : Int) else -1) = R at *
  clear H hno hyes
  go_enter Try.func37, Try.ntmps37
  go_wp2
  go_loopw [5] (fun s wr => ∃ j : Nat, j ≤ i ∧ s = .int .i64 j ∧ w = wr) (fun s _ => ms.length - (intOf s).toNat)
  case atStart => exact ⟨0, Nat.zero_le _, rfl, rfl⟩
  case round =>
    obtain ⟨j, hj, rfl, rfl⟩ := hrel
    by_cases hlt : j < ms.length
    · have e : ms = ms.take j ++ ms[j] :: ms.drop (j + 1) := by rw [← List.drop_eq_getElem_cons hlt, List.take_append_drop]
      obtain ⟨b, o, rfl, k0, _⟩ := HH.out.cells e
      rw [List.length_take, Nat.min_eq_left (by omega)] at k0
      have hj1 : (j : Int) < (ms.length : Int) := by omega
      by_cases hji : j = i
      · subst hji
        have hx : (ms[j].at_ == x) = true := by rw [HY.out hlt]; simp
        have hR := HR1.out hlt
        generalize ms[j] = m at *
        clear e
        subst hR
        go_wp2_with fail
        go_ret
        exact ⟨rfl, rfl⟩
      · have hx : (ms[j].at_ == x) = false := by
          rw [beq_eq_false_iff_ne]
          exact HN.out _ (List.mem_take_iff_getElem.2 ⟨j, by omega, rfl⟩)
        generalize ms[j] = m at *
        clear e
        go_wp2_with fail
        go_roundw
        case rel => exact ⟨j + 1, by omega, by go_num, trivial⟩
        case measure => simp [intOf]; omega
    · have hj1 : ¬ (j : Int) < (ms.length : Int) := by omega
      have hR := HR2.out (by omega)
      subst hR
      go_wp2_with fail
      go_ret
      exact ⟨rfl, rfl⟩
end

end HpR
end Go.Proofs.Ytfmodaelpldpfaa
