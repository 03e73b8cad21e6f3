/-
  Heap.behind and what stands on it: Len, Size, Type, Get; Cap, Used, Raw, All: what each of them hands back of a heap of known things.
-/
import Derived.Test.YtfmodaelpldpfaaHpS
namespace Go.Proofs.Ytfmodaelpldpfaa
namespace HpB
open Go.RowKit Base BinM HpM HpA HpS

/-- things that a heap can have -/
structure Fits (most : Nat) (ts : List Th) : Prop where
  top : most ≤ 4096
  len : (raw ts).length ≤ most
  ids : ∀ t ∈ ts, t.id < 65536
  fit : ∀ t ∈ ts, ∀ x ∈ t.W, fitI x
theorem elem64 : (sizeOf (Try.prog.elem 38)).run Try.prog = fun W => .ok 1 W := by kernel_rfl
theorem cut64 (W : World) (A : Option Addr) (n cap : Nat) (lo hi : Int) (h0 : 0 ≤ lo) (h1 : lo ≤ hi) (h2 : hi ≤ cap) :
    (Instr.slice 38 (.slice A n cap) (some (.int .i64 lo)) (some (.int .i64 hi)) none).run Try.prog W = .ok (.slice (if cap = lo.toNat then A else A.map (·.add lo.toNat)) (hi.toNat - lo.toNat) (cap - lo.toNat)) W := by
  have hu : Try.prog.underlying 38 = some (.slice (Try.prog.elem 38)) := by kernel_rfl
  rw [run_slice_lh W 38 A n cap hu .i64 .i64 lo hi h0 h1 h2, elem64]
  simp [Result.andThen, sliced]

theorem raw_mid (p : List Th) (t : Th) (r : List Th) : raw (p ++ t :: r) = raw p ++ ((t.id : Int) * 65536 + (t.W.length : Int)) :: t.W ++ raw r := by
  simp [raw, Th.row]
theorem raw_mid_len (p : List Th) (t : Th) (r : List Th) : (raw (p ++ t :: r)).length = (raw p).length + 1 + t.W.length + (raw r).length := by
  rw [raw_mid]; simp; omega
theorem own_rds {w : World} {A : Option Addr} {c : Nat} {l : List Int} {base : Nat} (h : OwnI w base (.slice A l.length c) l) : Rds w A (l.map (Value.int .i64)) := Rds.own h
theorem own_head {w : World} {A : Option Addr} {c : Nat} {l : List Int} {base n : Nat} (h : OwnI w base (.slice A n c) l) (h0 : 0 < l.length) : ∃ b, A = some ⟨b, 0, none⟩ ∧ b < w.heap.size := by
  obtain ⟨g, cap, e, _, hlt⟩ := World.ownsRow.form h h0
  injection e with e
  exact ⟨g, e, hlt⟩
theorem own_cap {w : World} {A : Option Addr} {c : Nat} {l : List Int} {base : Nat} (h : OwnI w base (.slice A l.length c) l) : l.length ≤ c ∧ c ≤ maxLen := by
  obtain ⟨A', c', e, h1, h2, _⟩ := own_slice h
  injection e with _ _ e
  subst e
  exact ⟨h1, h2⟩
theorem own_cell {w : World} {b c n : Nat} {l : List Int} {base : Nat} (h : OwnI w base (.slice (some ⟨b, 0, none⟩) n c) l) {k : Nat} {x : Int} (hx : l[k]? = some x) : w.cell? ⟨b, k, none⟩ = some (.int .i64 x) := by
  have := World.ownsRow.cells h (g := b) rfl k (.int .i64 x) (by rw [List.getElem?_map, hx]; rfl)
  rw [Addr.add_mid] at this
  rwa [Nat.zero_add] at this

section
variable {w : World} {g mb : Nat} {Aw : Option Addr} {cw : Nat} {Aa : Option Addr} {ca most : Nat} {n : Nat} {f : Int → Option Int}

theorem behind_no {ts : List Th} (H : HpX w g mb Aw cw Aa ca most (raw ts) (adr 0 ts) n f) (F : Fits most ts) (x : Int) (hx : x ∉ adr 0 ts) :
    Calls Try.prog 43 #[.pointer (some ⟨g, 0, none⟩), .int .i64 x] w fun e w' => e = .returned (.tuple #[.slice none 0 0, .int .i64 3]) ∧ ∃ q, w' = w.drewN q := by
  have HS := Lib.hid (search_any Aa (adr 0 ts).length ca (adr 0 ts) x w rfl (by have := adr_length ts 0; have := F.len; have := F.top; omega) (own_rds H.adr) (adr_sorted ts 0))
  rw [decide_eq_false hx] at HS
  have c2 := H.box.cell 2
  clear H hx
  go_enter Try.func43, Try.ntmps43
  go_wp2_with (go_at_call 47; refine HS.out.mono ?_; rintro e w' ⟨⟨i, rfl⟩, q, rfl⟩)
  go_ret2
  exact ⟨rfl, q, rfl⟩

set_option maxRecDepth 100000 in
set_option maxHeartbeats 4000000 in
theorem behind_yes {p : List Th} {t : Th} {r : List Th} (H : HpX w g mb Aw cw Aa ca most (raw (p ++ t :: r)) (adr 0 (p ++ t :: r)) n f) (F : Fits most (p ++ t :: r)) :
    Calls Try.prog 43 #[.pointer (some ⟨g, 0, none⟩), .int .i64 (((raw p).length + 1 : Nat) : Int)] w fun e w' => (∃ B c, e = .returned (.tuple #[.slice B t.W.length c, .int .i64 0]) ∧ t.W.length ≤ c ∧ c ≤ maxLen ∧
      (0 < t.W.length → ∃ b, Aw = some ⟨b, 0, none⟩ ∧ B = some ⟨b, (raw p).length + 1, none⟩)) ∧ ∃ q, w' = w.drewN q := by
  have hl := raw_mid_len p t r
  have hlen := F.len
  have htop := F.top
  have HS := Lib.hid (search_any Aa (adr 0 (p ++ t :: r)).length ca (adr 0 (p ++ t :: r)) (((raw p).length + 1 : Nat) : Int) w rfl (by have := adr_length (p ++ t :: r) 0; omega) (own_rds H.adr) (adr_sorted (p ++ t :: r) 0))
  have hmem := adr_mem p t r 0
  rw [Nat.zero_add] at hmem
  rw [decide_eq_true hmem] at HS
  obtain ⟨b, rfl, hb⟩ := own_head H.row (by omega)
  obtain ⟨hcap, hmax⟩ := own_cap H.row
  have hhead : (raw (p ++ t :: r))[(raw p).length]? = some (((t.id * 65536 + t.W.length : Nat)) : Int) := by
    rw [raw_mid]
    simp
  have c0 := own_cell H.row hhead
  have c1 := H.box.cell 1
  have c2 := H.box.cell 2
  have hid := F.ids t (by simp)
  have hmod : (((t.id * 65536 + t.W.length : Nat) : Int)) % 65536 = (t.W.length : Int) := by omega
  have hbnd : (t.id * 65536 + t.W.length) ≤ 5000000000 := by omega
  clear H F hmem hhead
  generalize (raw p).length = P at *
  generalize (raw r).length = R at *
  generalize (raw (p ++ t :: r)).length = L at *
  generalize (t.id * 65536 + t.W.length) = hd at *
  generalize t.W.length = wl at *
  have hcut := fun (W : World) => cut64 W (some ⟨b, 0, none⟩) L cw ((P : Int) + 1) ((P : Int) + 1 + (wl : Int)) (by omega) (by omega) (by omega)
  have hPL : (P : Int) < (L : Int) := by omega
  by_cases hcc : cw = P + 1
  · have hw0 : wl = 0 := by omega
    subst hw0
    go_enter Try.func43, Try.ntmps43
    go_wp2_with (go_at_call 47; refine HS.out.mono ?_; rintro e w' ⟨⟨i, rfl⟩, q, rfl⟩)
    go_region
    go_wp2_with fail
    go_ret2
    exact ⟨⟨_, 0, rfl, by omega, by omega, fun h => by omega⟩, _, rfl⟩
  · go_enter Try.func43, Try.ntmps43
    go_wp2_with (go_at_call 47; refine HS.out.mono ?_; rintro e w' ⟨⟨i, rfl⟩, q, rfl⟩)
    go_region
    go_wp2_with fail
    go_ret2
    exact ⟨⟨_, cw - (P + 1), by rw [show P + 1 + wl - (P + 1) = wl by omega]; rfl, by omega, by omega, fun h => ⟨b, rfl, rfl⟩⟩, _, rfl⟩

theorem len_no {ts : List Th} (H : HpX w g mb Aw cw Aa ca most (raw ts) (adr 0 ts) n f) (F : Fits most ts) (x : Int) (hx : x ∉ adr 0 ts) :
    Calls Try.prog 28 #[.pointer (some ⟨g, 0, none⟩), .int .i64 x] w fun e w' => e = .returned (.tuple #[.int .i64 0, .int .i64 3]) ∧ ∃ q, w' = w.drewN q := by
  have HB := Lib.hid (behind_no H F x hx)
  clear H F hx
  go_enter Try.func28, Try.ntmps28
  go_wp2_with (go_at_call 43; refine HB.out.mono ?_; rintro e w' ⟨rfl, q, rfl⟩)
  go_ret2
  exact ⟨rfl, q, rfl⟩
/-- how many elements: the second word, if there is one -/
def lenE (W : List Int) : Int × Int := match W with | [] => (0, 5) | x :: _ => (x, 0)
theorem len_yes {p : List Th} {t : Th} {r : List Th} (H : HpX w g mb Aw cw Aa ca most (raw (p ++ t :: r)) (adr 0 (p ++ t :: r)) n f) (F : Fits most (p ++ t :: r)) :
    Calls Try.prog 28 #[.pointer (some ⟨g, 0, none⟩), .int .i64 (((raw p).length + 1 : Nat) : Int)] w fun e w' => e = .returned (.tuple #[.int .i64 (lenE t.W).1, .int .i64 (lenE t.W).2]) ∧ ∃ q, w' = w.drewN q := by
  have HB := Lib.hid (behind_yes H F)
  have HC : Hid (∀ b x, Aw = some ⟨b, 0, none⟩ → t.W[0]? = some x → w.cell? ⟨b, (raw p).length + 1, none⟩ = some (.int .i64 x)) := Lib.hid (fun b x e hx => by
    subst e
    refine own_cell H.row ?_
    rw [raw_mid]
    have h0 : 0 < t.W.length := (List.getElem?_eq_some_iff.1 hx).1
    rw [List.append_assoc, List.getElem?_append_right (by omega), List.cons_append, show (raw p).length + 1 - (raw p).length = 0 + 1 by omega, List.getElem?_cons_succ, List.getElem?_append_left h0]
    exact hx)
  clear H F
  generalize (raw p).length = P at *
  generalize t.W = W at *
  cases W with
  | nil =>
    go_enter Try.func28, Try.ntmps28
    go_wp2_with (go_at_call 43; refine HB.out.mono ?_; rintro e w' ⟨⟨B, c, rfl, _⟩, q, rfl⟩)
    go_ret2
    exact ⟨rfl, q, rfl⟩
  | cons y W =>
    go_enter Try.func28, Try.ntmps28
    go_wp2_with (go_at_call 43; refine HB.out.mono ?_; rintro e w' ⟨⟨B, c, rfl, _, _, hB⟩, q, rfl⟩; obtain ⟨b, hb, rfl⟩ := hB (by simp); have hc := HC.out b y hb rfl; clear hB)
    go_ret2
    exact ⟨rfl, q, rfl⟩
end

end HpB
end Go.Proofs.Ytfmodaelpldpfaa
