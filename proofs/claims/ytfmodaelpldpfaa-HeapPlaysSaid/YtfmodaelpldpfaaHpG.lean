/-
  Heap.Type, Size, Get, Used, Cap, Raw, All: what each of them hands back of a heap of known things.
-/
import Derived.Test.YtfmodaelpldpfaaHpB
namespace Go.Proofs.Ytfmodaelpldpfaa
namespace HpG
open Go.RowKit Base BinM HpM HpA HpS HpB

section
variable {w : World} {g mb : Nat} {Aw : Option Addr} {cw : Nat} {Aa : Option Addr} {ca most : Nat} {n : Nat} {f : Int → Option Int}

/-- a word of a thing, in memory -/
theorem word {p : List Th} {t : Th} {r : List Th} {al : List Int} (H : HpX w g mb Aw cw Aa ca most (raw (p ++ t :: r)) al n f) {b : Nat} (e : Aw = some ⟨b, 0, none⟩) {i : Nat} {x : Int} (hx : t.W[i]? = some x) : w.cell? ⟨b, (raw p).length + 1 + i, none⟩ = some (.int .i64 x) := by
  subst e
  refine own_cell H.row ?_
  rw [raw_mid]
  have h0 : i < t.W.length := (List.getElem?_eq_some_iff.1 hx).1
  rw [List.append_assoc, List.getElem?_append_right (by omega), List.cons_append, show (raw p).length + 1 + i - (raw p).length = i + 1 by omega, List.getElem?_cons_succ, List.getElem?_append_left h0]
  exact hx

theorem size_no {ts : List Th} (H : HpX w g mb Aw cw Aa ca most (raw ts) (adr 0 ts) n f) (F : Fits most ts) (x : Int) (hx : x ∉ adr 0 ts) :
    Calls Try.prog 29 #[.pointer (some ⟨g, 0, none⟩), .int .i64 x] w fun e w' => e = .returned (.tuple #[.int .i64 0, .int .i64 3]) ∧ ∃ q, w' = w.drewN q := by
  have HB := Lib.hid (behind_no H F x hx)
  clear H F hx
  go_enter Try.func29, Try.ntmps29
  go_wp2_with (go_at_call 43; refine HB.out.mono ?_; rintro e w' ⟨rfl, q, rfl⟩)
  go_ret2
  exact ⟨rfl, q, rfl⟩
theorem size_yes {p : List Th} {t : Th} {r : List Th} (H : HpX w g mb Aw cw Aa ca most (raw (p ++ t :: r)) (adr 0 (p ++ t :: r)) n f) (F : Fits most (p ++ t :: r)) :
    Calls Try.prog 29 #[.pointer (some ⟨g, 0, none⟩), .int .i64 (((raw p).length + 1 : Nat) : Int)] w fun e w' => e = .returned (.tuple #[.int .i64 (t.W.length : Int), .int .i64 0]) ∧ ∃ q, w' = w.drewN q := by
  have HB := Lib.hid (behind_yes H F)
  have hl := raw_mid_len p t r
  have hb := F.len
  have ht := F.top
  have hwl : t.W.length ≤ 4096 := by omega
  clear H F hl hb ht
  generalize (raw p).length = P at *
  generalize t.W.length = W at *
  go_enter Try.func29, Try.ntmps29
  go_wp2_with (go_at_call 43; refine HB.out.mono ?_; rintro e w' ⟨⟨B, c, rfl, _⟩, q, rfl⟩)
  go_ret2
  exact ⟨rfl, q, rfl⟩

theorem type_no {ts : List Th} (H : HpX w g mb Aw cw Aa ca most (raw ts) (adr 0 ts) n f) (F : Fits most ts) (x : Int) (hx : x ∉ adr 0 ts) :
    Calls Try.prog 25 #[.pointer (some ⟨g, 0, none⟩), .int .i64 x] w fun e w' => e = .returned (.tuple #[.int .i64 0, .int .i64 3]) ∧ ∃ q, w' = w.drewN q := by
  have HB := Lib.hid (behind_no H F x hx)
  clear H F hx
  go_enter Try.func25, Try.ntmps25
  go_wp2_with (go_at_call 43; refine HB.out.mono ?_; rintro e w' ⟨rfl, q, rfl⟩)
  go_ret2
  exact ⟨rfl, q, rfl⟩
set_option maxRecDepth 100000 in
theorem type_yes {p : List Th} {t : Th} {r : List Th} (H : HpX w g mb Aw cw Aa ca most (raw (p ++ t :: r)) (adr 0 (p ++ t :: r)) n f) (F : Fits most (p ++ t :: r)) :
    Calls Try.prog 25 #[.pointer (some ⟨g, 0, none⟩), .int .i64 (((raw p).length + 1 : Nat) : Int)] w fun e w' => e = .returned (.tuple #[.int .i64 (t.id : Int), .int .i64 0]) ∧ ∃ q, w' = w.drewN q := by
  have HB := Lib.hid (behind_yes H F)
  have hl := raw_mid_len p t r
  have hlen := F.len
  have htop := F.top
  obtain ⟨b, rfl, hb⟩ := own_head H.row (by omega)
  have hhead : (raw (p ++ t :: r))[(raw p).length]? = some (((t.id * 65536 + t.W.length : Nat)) : Int) := by
    rw [raw_mid]
    simp
  have c0 := own_cell H.row hhead
  have c1 := H.box.cell 1
  have hid := F.ids t (by simp)
  have hdiv : (((t.id * 65536 + t.W.length : Nat) : Int)) / 65536 = (t.id : Int) := by omega
  have hbnd : (t.id * 65536 + t.W.length) ≤ 5000000000 := by omega
  clear H F hhead
  generalize (raw p).length = P at *
  generalize (raw r).length = R at *
  generalize (raw (p ++ t :: r)).length = L at *
  generalize (t.id * 65536 + t.W.length) = hd at *
  generalize t.W.length = wl at *
  have hPL : (P : Int) < (L : Int) := by omega
  go_enter Try.func25, Try.ntmps25
  go_wp2_with (go_at_call 43; refine HB.out.mono ?_; rintro e w' ⟨⟨B, c, rfl, _⟩, q, rfl⟩)
  go_ret2
  exact ⟨by rw [← hdiv]; rfl, q, rfl⟩

theorem get_no {ts : List Th} (H : HpX w g mb Aw cw Aa ca most (raw ts) (adr 0 ts) n f) (F : Fits most ts) (x i : Int) (hx : x ∉ adr 0 ts) :
    Calls Try.prog 24 #[.pointer (some ⟨g, 0, none⟩), .int .i64 x, .int .i64 i] w fun e w' => e = .returned (.tuple #[.int .i64 0, .int .i64 3]) ∧ ∃ q, w' = w.drewN q := by
  have HB := Lib.hid (behind_no H F x hx)
  clear H F hx
  go_enter Try.func24, Try.ntmps24
  go_wp2_with (go_at_call 43; refine HB.out.mono ?_; rintro e w' ⟨rfl, q, rfl⟩)
  go_ret2
  exact ⟨rfl, q, rfl⟩
/-- a word of a thing; what is said where there is none -/
def getE (W : List Int) (i : Int) : Int × Int := if 0 ≤ i ∧ i < (W.length : Int) then (W.getD i.toNat 0, 0) else (0, 3)
theorem get_yes {p : List Th} {t : Th} {r : List Th} (H : HpX w g mb Aw cw Aa ca most (raw (p ++ t :: r)) (adr 0 (p ++ t :: r)) n f) (F : Fits most (p ++ t :: r)) (i : Int) :
    Calls Try.prog 24 #[.pointer (some ⟨g, 0, none⟩), .int .i64 (((raw p).length + 1 : Nat) : Int), .int .i64 i] w fun e w' => e = .returned (.tuple #[.int .i64 (getE t.W i).1, .int .i64 (getE t.W i).2]) ∧ ∃ q, w' = w.drewN q := by
  have HB := Lib.hid (behind_yes H F)
  have HC : Hid (∀ (b k : Nat) (x : Int), Aw = some ⟨b, 0, none⟩ → t.W[k]? = some x → w.cell? ⟨b, (raw p).length + 1 + k, none⟩ = some (.int .i64 x)) := Lib.hid (fun b k x e hx => word H e hx)
  have hl := raw_mid_len p t r
  have hb := F.len
  have ht := F.top
  have hwl : t.W.length ≤ 4096 := by omega
  clear H F hl hb ht
  generalize (raw p).length = P at *
  generalize t.W = W at *
  by_cases h0 : i < 0
  · have hE := Lib.hid (show getE W i = (0, 3) by unfold getE; rw [if_neg (by omega)])
    go_enter Try.func24, Try.ntmps24
    go_wp2_with (go_at_call 43; refine HB.out.mono ?_; rintro e w' ⟨⟨B, c, rfl, _⟩, q, rfl⟩)
    go_ret2
    exact ⟨by rw [hE.out]; rfl, q, rfl⟩
  · by_cases h1 : (W.length : Int) ≤ i
    · have hE := Lib.hid (show getE W i = (0, 3) by unfold getE; rw [if_neg (by omega)])
      go_enter Try.func24, Try.ntmps24
      go_wp2_with (go_at_call 43; refine HB.out.mono ?_; rintro e w' ⟨⟨B, c, rfl, _⟩, q, rfl⟩)
      go_ret2
      exact ⟨by rw [hE.out]; rfl, q, rfl⟩
    · obtain ⟨k, rfl⟩ : ∃ k : Nat, i = (k : Int) := ⟨i.toNat, by omega⟩
      have hk : k < W.length := by omega
      have hE := Lib.hid (show getE W (k : Int) = (W[k], 0) by
        unfold getE
        rw [if_pos (by omega), Int.toNat_natCast, List.getD_eq_getElem?_getD, List.getElem?_eq_getElem hk]; rfl)
      have HC1 := Lib.hid (fun b e => HC.out b k _ e (List.getElem?_eq_getElem hk))
      generalize W[k] = x at *
      generalize W.length = wl at *
      go_enter Try.func24, Try.ntmps24
      go_wp2_with (go_at_call 43; refine HB.out.mono ?_; rintro e w' ⟨⟨B, c, rfl, _, _, hB⟩, q, rfl⟩; obtain ⟨b, hb, rfl⟩ := hB (by omega); have hc := HC1.out b hb; clear hB)
      go_ret2
      exact ⟨by rw [hE.out]; rfl, q, rfl⟩

theorem used_any {ws al : List Int} (H : HpX w g mb Aw cw Aa ca most ws al n f) :
    Calls Try.prog 13 #[.pointer (some ⟨g, 0, none⟩)] w fun e w' => e = .returned (.int .i64 (ws.length : Int)) ∧ w = w' := by
  have c1 := H.box.cell 1
  clear H
  go_enter Try.func13, Try.ntmps13
  go_wp2
  go_ret
  exact ⟨rfl, rfl⟩
theorem raw_any {ws al : List Int} (H : HpX w g mb Aw cw Aa ca most ws al n f) (hb : ws.length ≤ 4096) :
    Calls Try.prog 17 #[.pointer (some ⟨g, 0, none⟩)] w fun e w' => ∃ v, e = .returned v ∧ OwnI w' w.heap.size v ws ∧ Below w.heap.size w w' := by
  have c1 := H.box.cell 1
  have HC := Lib.hid (clone_any Aw ws.length cw ws w rfl (by omega) (own_rds H.row))
  clear H
  go_enter Try.func17, Try.ntmps17
  go_wp2_with (go_at_call 41; refine HC.out.mono ?_; rintro e w' ⟨v, rfl, ho, hbl⟩)
  go_ret
  exact ⟨v, rfl, ho, hbl⟩
theorem cap_any {ws al : List Int} (H : HpX w g mb Aw cw Aa ca most ws al n f) :
    Calls Try.prog 15 #[.pointer (some ⟨g, 0, none⟩)] w fun e w' => e = .returned (.int .i64 (most : Int)) ∧ w = w' := by
  have c1 := H.box.cell 0
  clear H
  go_enter Try.func15, Try.ntmps15
  go_wp2
  go_ret
  exact ⟨rfl, rfl⟩
theorem all_any {ws al : List Int} (H : HpX w g mb Aw cw Aa ca most ws al n f) (hb : al.length ≤ 4096) :
    Calls Try.prog 19 #[.pointer (some ⟨g, 0, none⟩)] w fun e w' => ∃ v, e = .returned v ∧ OwnI w' w.heap.size v al ∧ Below w.heap.size w w' := by
  have c1 := H.box.cell 2
  have HC := Lib.hid (clone_any Aa al.length ca al w rfl (by omega) (own_rds H.adr))
  clear H
  go_enter Try.func19, Try.ntmps19
  go_wp2_with (go_at_call 41; refine HC.out.mono ?_; rintro e w' ⟨v, rfl, ho, hbl⟩)
  go_ret
  exact ⟨v, rfl, ho, hbl⟩
end

end HpG
end Go.Proofs.Ytfmodaelpldpfaa
