/-
  Heap.Array and Heap.Set: what each of them hands back, and the things that there are then.
-/
import Derived.Test.YtfmodaelpldpfaaHpT
namespace Go.Proofs.Ytfmodaelpldpfaa
namespace HpZ
open Go.RowKit Base BinM HpM HpA HpS HpB HpG HpP HpT

section
variable {w : World} {g mb : Nat} {Aw : Option Addr} {cw : Nat} {Aa : Option Addr} {ca most : Nat} {ws al : List Int} {n : Nat} {f : Int → Option Int}

/-- the error of Array -/
def arrayE (most used : Nat) (id k : Int) : Int := if k < 0 ∨ 4095 < k then 2 else addE most used id (1 + k)
set_option maxRecDepth 100000 in
set_option maxHeartbeats 4000000 in
theorem array_any {ts : List Th} (H : HpX w g mb Aw cw Aa ca most (raw ts) (adr 0 ts) n f) (F : Fits most ts) (id k : Int) :
    Calls Try.prog 23 #[.pointer (some ⟨g, 0, none⟩), .int .i64 id, .int .i64 k] w (GivesTh w (feet g mb Aw Aa) g mb most ts n f (arrayE most (raw ts).length id k) ⟨id.toNat, k :: List.replicate k.toNat 0, 0⟩) := by
  by_cases h0 : k < 0
  · have hE := Lib.hid (show arrayE most (raw ts).length id k = 2 by unfold arrayE; rw [if_pos (.inl h0)])
    clear H F
    go_enter Try.func23, Try.ntmps23
    go_wp2
    go_ret2
    exact .inl ⟨by rw [hE.out]; omega, by rw [hE.out]; rfl, Below.refl _ _⟩
  · by_cases h1 : 4095 < k
    · have hE := Lib.hid (show arrayE most (raw ts).length id k = 2 by unfold arrayE; rw [if_pos (.inr h1)])
      clear H F
      go_enter Try.func23, Try.ntmps23
      go_wp2
      go_ret2
      exact .inl ⟨by rw [hE.out]; omega, by rw [hE.out]; rfl, Below.refl _ _⟩
    · have hE := Lib.hid (show arrayE most (raw ts).length id k = addE most (raw ts).length id (1 + k) by unfold arrayE; rw [if_neg (by omega)])
      obtain ⟨K, rfl⟩ : ∃ K : Nat, k = (K : Int) := ⟨k.toNat, by omega⟩
      have HA := Lib.hid (add_any H F.top F.len (by have := adr_length ts 0; have := F.len; have := F.top; omega) id (1 + (K : Int)) (by omega) (by omega))
      have HF := Lib.hid F
      clear H F
      go_enter Try.func23, Try.ntmps23
      go_wp2_with fail
      refine HA.out.mono ?_
      rintro e w1 (⟨k1, rfl, k2⟩ | ⟨k1, rfl, k2⟩)
      · generalize addE most (raw ts).length id (1 + (K : Int)) = E at *
        have K1 := Lib.hid k1
        have K2 := Lib.hid k2
        clear k2
        have hne : (E == 0) = false := by simpa using k1
        clear k1
        go_wp2_with fail
        go_ret2
        exact .inl ⟨by rw [hE.out]; exact K1.out, by rw [hE.out]; rfl, K2.out⟩
      · have K1 := Lib.hid k1
        have K2 := Lib.hid k2
        clear k2
        obtain ⟨z1, z2, z3⟩ := addE_zero k1
        clear k1
        obtain ⟨A1, c1, B1, d1, h1', T1, S1⟩ := K2.out
        have hrep : List.replicate (1 + (K : Int)).toNat (0 : Int) = 0 :: List.replicate K 0 := by rw [show (1 + (K : Int)).toNat = K + 1 by omega, List.replicate_succ]
        rw [hrep] at h1'
        have hlen : (raw ts ++ (id * 65536 + (1 + (K : Int))) :: 0 :: List.replicate K 0).length = (raw ts).length + 1 + 1 + K := by simp; omega
        obtain ⟨b, rfl, hb⟩ := own_head h1'.row (by rw [hlen]; omega)
        have d := h1'.box.cell 1
        have fr := own_free h1'.row ((raw ts).length + 1)
        rw [hlen] at d
        have hsm : (raw ts).length + 1 + 1 + K ≤ 4096 := by have := HF.out.len; have := HF.out.top; omega
        have hcl : w1.cell? ⟨b, (raw ts).length + 1, none⟩ = some (.int .i64 0) := own_cell h1'.row (by rw [List.getElem?_append_right (by omega), show (raw ts).length + 1 - (raw ts).length = 0 + 1 by omega]; rfl)
        have P2 := setW h1' rfl (k := (raw ts).length + 1) (by rw [hlen]; omega) (K : Int)
        have hset : (raw ts ++ (id * 65536 + (1 + (K : Int))) :: 0 :: List.replicate K 0).set ((raw ts).length + 1) (K : Int) = raw ts ++ (id * 65536 + (1 + (K : Int))) :: (K : Int) :: List.replicate K 0 := by
          rw [List.set_append_right _ _ (by omega), show (raw ts).length + 1 - (raw ts).length = 0 + 1 by omega]
          rfl
        rw [hset] at P2
        have HP2 := Lib.hid P2
        have HT1 := Lib.hid T1
        have HS1 := Lib.hid S1
        have HE := Lib.hid (hE.out.trans K1.out)
        clear P2 hset h1' T1 S1 K2 hrep hlen
        go_wp2_with fail
        go_ret2
        refine .inr ⟨HE.out, rfl, ?_, fits_snoc HF.out (by show id.toNat < 65536; omega) (by simp; omega) (fun x hx => ?_)⟩
        · rw [adr_snoc, raw_snoc]
          have e1 : ((id.toNat : Nat) : Int) = id := by omega
          have e2 : (((K : Int) :: List.replicate (K : Int).toNat (0 : Int)).length : Int) = 1 + (K : Int) := by simp; omega
          show NextH w _ _ g mb most (raw ts ++ (((id.toNat : Nat) : Int) * 65536 + (((K : Int) :: List.replicate (K : Int).toNat (0 : Int)).length : Int)) :: (K : Int) :: List.replicate (K : Int).toNat 0) _ n f
          rw [e1, e2, Int.toNat_natCast]
          exact ⟨_, _, _, _, HP2.out.1, HT1.out.trans HP2.out.2 HS1.out, HS1.out⟩
        · rw [List.mem_cons] at hx
          rcases hx with rfl | hx
          · unfold fitI; omega
          · rw [List.eq_of_mem_replicate hx]; unfold fitI; omega

/-- a thing with another word -/
def setT (t : Th) (i : Nat) (v : Int) : Th := ⟨t.id, t.W.set i v, t.s⟩
theorem raw_set (p : List Th) (t : Th) (r : List Th) (i : Nat) (v : Int) (hi : i < t.W.length) : (raw (p ++ t :: r)).set ((raw p).length + 1 + i) v = raw (p ++ setT t i v :: r) := by
  rw [raw_mid, raw_mid]
  unfold setT
  simp only [List.length_set]
  rw [List.append_assoc, List.append_assoc, List.set_append_right _ _ (by omega), show (raw p).length + 1 + i - (raw p).length = i + 1 by omega, List.cons_append, List.set_cons_succ, List.set_append_left _ _ hi]
  rfl
theorem adr_set (p : List Th) (t : Th) (r : List Th) (i : Nat) (v : Int) : adr 0 (p ++ setT t i v :: r) = adr 0 (p ++ t :: r) := by
  rw [adr_append, adr_append]
  simp [adr, setT]
theorem fits_set {p : List Th} {t : Th} {r : List Th} (F : Fits most (p ++ t :: r)) (i : Nat) {v : Int} (hv : fitI v) : Fits most (p ++ setT t i v :: r) := by
  refine ⟨F.top, ?_, fun u hu => ?_, fun u hu => ?_⟩
  · have := F.len
    rw [raw_mid_len] at this ⊢
    simpa [setT] using this
  · simp only [List.mem_append, List.mem_cons] at hu
    rcases hu with hu | rfl | hu
    · exact F.ids u (by simp [hu])
    · exact F.ids t (by simp)
    · exact F.ids u (by simp [hu])
  · simp only [List.mem_append, List.mem_cons] at hu
    rcases hu with hu | rfl | hu
    · exact F.fit u (by simp [hu])
    · intro x hx
      rcases List.mem_or_eq_of_mem_set hx with h | rfl
      · exact F.fit t (by simp) x h
      · exact hv
    · exact F.fit u (by simp [hu])

theorem set_no {ts : List Th} (H : HpX w g mb Aw cw Aa ca most (raw ts) (adr 0 ts) n f) (F : Fits most ts) (x i v : Int) (hx : x ∉ adr 0 ts) :
    Calls Try.prog 22 #[.pointer (some ⟨g, 0, none⟩), .int .i64 x, .int .i64 i, .int .i64 v] w fun e w' => e = .returned (.int .i64 3) ∧ ∃ q, w' = w.drewN q := by
  have HB := Lib.hid (behind_no H F x hx)
  clear H F hx
  go_enter Try.func22, Try.ntmps22
  go_wp2_with (go_at_call 43; refine HB.out.mono ?_; rintro e w' ⟨rfl, q, rfl⟩)
  go_ret
  exact ⟨rfl, q, rfl⟩
/-- what Set hands back of a thing -/
def GivesSet (w : World) (F : Nat → Prop) (g mb most : Nat) (p : List Th) (t : Th) (r : List Th) (n : Nat) (f : Int → Option Int) (i v : Int) (e : Ending) (w' : World) : Prop :=
  (¬ (0 ≤ i ∧ i < (t.W.length : Int)) ∧ e = .returned (.int .i64 3) ∧ Below w.heap.size w w') ∨
  (0 ≤ i ∧ i < (t.W.length : Int) ∧ e = .returned (.int .i64 0) ∧ NextH w w' F g mb most (raw (p ++ setT t i.toNat v :: r)) (adr 0 (p ++ setT t i.toNat v :: r)) n f)
theorem below_drewN (w : World) (q : Nat) : Below w.heap.size w (w.drewN q) := ⟨rfl, rfl, rfl, Nat.le_refl _, fun _ _ => rfl⟩
set_option maxRecDepth 100000 in
theorem set_yes {p : List Th} {t : Th} {r : List Th} (H : HpX w g mb Aw cw Aa ca most (raw (p ++ t :: r)) (adr 0 (p ++ t :: r)) n f) (F : Fits most (p ++ t :: r)) (i v : Int) :
    Calls Try.prog 22 #[.pointer (some ⟨g, 0, none⟩), .int .i64 (((raw p).length + 1 : Nat) : Int), .int .i64 i, .int .i64 v] w (GivesSet w (feet g mb Aw Aa) g mb most p t r n f i v) := by
  have HB := Lib.hid (behind_yes H F)
  have hl := raw_mid_len p t r
  have hb := F.len
  have ht := F.top
  have hwl : t.W.length ≤ 4096 := by omega
  have HH := Lib.hid H
  clear H F hb ht
  by_cases h0 : i < 0
  · clear HH hl
    generalize hP : (raw p).length = P at *
    go_enter Try.func22, Try.ntmps22
    go_wp2_with (go_at_call 43; refine HB.out.mono ?_; rintro e w' ⟨⟨B, c, rfl, _⟩, q, rfl⟩)
    go_ret
    exact .inl ⟨by omega, rfl, below_drewN _ _⟩
  · by_cases h1 : (t.W.length : Int) ≤ i
    · clear HH hl
      generalize hP : (raw p).length = P at *
      go_enter Try.func22, Try.ntmps22
      go_wp2_with (go_at_call 43; refine HB.out.mono ?_; rintro e w' ⟨⟨B, c, rfl, _⟩, q, rfl⟩)
      go_ret
      exact .inl ⟨by omega, rfl, below_drewN _ _⟩
    · obtain ⟨k, rfl⟩ : ∃ k : Nat, i = (k : Int) := ⟨i.toNat, by omega⟩
      have hk : k < t.W.length := by omega
      obtain ⟨b, rfl, hb⟩ := own_head HH.out.row (by omega)
      have hc := word HH.out rfl (List.getElem?_eq_getElem hk)
      have hf := own_free HH.out.row ((raw p).length + 1 + k)
      have HS := Lib.hid (fun q => setW (w := w.drewN q) (HH.out.aside (fun _ _ => rfl)) rfl (k := (raw p).length + 1 + k) (by omega) v)
      clear hl
      go_enter Try.func22, Try.ntmps22
      go_wp2_with (go_at_call 43; refine HB.out.mono ?_; rintro e w' ⟨⟨B, c, rfl, _, _, hB⟩, q, rfl⟩; obtain ⟨b', hb', rfl⟩ := hB (by omega); injection hb' with hb'; injection hb' with hb'; subst hb'; clear hB)
      go_ret
      have h := HS.out q
      rw [raw_set p t r k v hk] at h
      refine .inr ⟨by omega, by omega, rfl, ?_⟩
      rw [Int.toNat_natCast, adr_set]
      exact ⟨_, _, _, _, h.1, (Turned.of_below (below_drewN w q)).trans h.2 (fun j h => .inl h), fun j h => .inl h⟩
end

end HpZ
end Go.Proofs.Ytfmodaelpldpfaa
