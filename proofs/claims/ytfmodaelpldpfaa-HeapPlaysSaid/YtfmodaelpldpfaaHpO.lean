/-
  The document's heap: Bytes, All, Raw: what each of them hands back.
-/
import Derived.Test.YtfmodaelpldpfaaHpL
import Derived.Test.YtfmodaelpldpfaaHpY
namespace Go.Proofs.Ytfmodaelpldpfaa
namespace HpO
open Go.RowKit Base BinM HpM HpA HpS HpB HpG HpP HpT HpY HpZ HpR HpQ HpE HpF HpI HpJ HpL

section
variable {w : World} {r : Nat} {AL : Option Addr} {cL most : Nat} {ms : List ThM}

theorem rbytes_no (H : RfX w r AL cL most ms) (hn : ms.length ≤ 4096) (x : Int) (hx : x ∉ adr 0 (things ms)) :
    Calls Try.prog 40 #[.pointer (some ⟨r, 0, none⟩), .int .i64 x] w fun e w' => e = .returned (.tuple #[.string ⟨#[]⟩, .int .i64 3]) ∧ w = w' := by
  have HB := Lib.hid (rlen_no H hn x hx)
  clear H hx
  go_enter Try.func40, Try.ntmps40
  go_wp2_with (go_at_call 39; refine HB.out.mono ?_; rintro e w' ⟨rfl, rfl⟩)
  go_ret2
  exact ⟨rfl, rfl⟩
set_option maxRecDepth 100000 in
set_option maxHeartbeats 4000000 in
theorem rbytes_yes {p : List ThM} {m : ThM} {q : List ThM} (H : RfX w r AL cL most (p ++ m :: q)) (hn : (p ++ m :: q).length ≤ 4096) (hW : m.t.W.length ≤ 4096) (hfit : ∀ x ∈ m.t.W, fitI x) :
    Calls Try.prog 40 #[.pointer (some ⟨r, 0, none⟩), .int .i64 m.at_] w fun e w' => e = .returned (.tuple #[.string ⟨(bytesE m.t.W).1.toArray⟩, .int .i64 (bytesE m.t.W).2]) ∧ Below w.heap.size w w' := by
  have HL := Lib.hid (rlen_yes H hn hW)
  have HB := Lib.hid (find_yes H hn)
  have c1 := H.box.cell 1
  obtain ⟨b, o, rfl, _, _, k2, _⟩ := H.cells rfl
  have hpl : (p.length : Int) < ((p ++ m :: q).length : Int) := by simp; omega
  have hpl2 : (p.length : Int) ≤ 4096 := by omega
  have hrow := H.each m (by simp)
  clear H
  generalize (p ++ m :: q).length = L at *
  generalize p.length = P at *
  generalize m.t.W = W at *
  cases W with
  | nil =>
    simp only [lenE] at *
    clear hrow
    go_enter Try.func40, Try.ntmps40
    go_wp2_with (first
                  | (go_at_call 39; refine HL.out.mono ?_; rintro e w' ⟨rfl, rfl⟩)
                  | (go_at_call 37; refine HB.out.mono ?_; rintro e w' ⟨rfl, rfl⟩))
    go_ret2
    exact ⟨rfl, Below.refl _ _⟩
  | cons x V =>
    have hx := hfit x (by simp)
    unfold fitI at hx
    obtain ⟨bw, hbw, hbl⟩ := own_head hrow (by simp)
    rw [hbw] at k2 hrow
    have HR := Lib.hid (own_rds hrow)
    simp only [lenE, List.length_cons] at HL k2 hW
    clear hrow hbw hfit
    by_cases h0 : x < 0
    · have hE := Lib.hid (show bytesE (x :: V) = ([], 5) by unfold bytesE; simp only; rw [if_pos (.inl h0)])
      go_enter Try.func40, Try.ntmps40
      go_wp2_with (first
                    | (go_at_call 39; refine HL.out.mono ?_; rintro e w' ⟨rfl, rfl⟩)
                    | (go_at_call 37; refine HB.out.mono ?_; rintro e w' ⟨rfl, rfl⟩))
      go_ret2
      exact ⟨by rw [hE.out]; rfl, Below.refl _ _⟩
    · obtain ⟨k, rfl⟩ : ∃ k : Nat, x = (k : Int) := ⟨x.toNat, by omega⟩
      by_cases h1 : (k + 7) / 8 = V.length
      · have hE := Lib.hid (show bytesE ((k : Int) :: V) = (bytesN k V, 0) by unfold bytesE; simp only; rw [if_neg (by omega), Int.toNat_natCast])
        have hbig : ¬ 8 * ((V.length : Int) + 1) < (k : Int) := by omega
        have heq : ((V.length : Int) == ((k : Int) + 7) / 8) = true := by simp; omega
        have heq2 : ((V.length : Int) != ((k : Int) + 7) / 8) = false := by simp; omega
        obtain ⟨i0, hi, hz, hz1, hz2⟩ := info_parts HpY.info8
        have I0 := Lib.hid hi
        have I1 := Lib.hid hz
        have I2 := Lib.hid hz1
        have I3 := Lib.hid hz2
        have hk1 : k ≤ 40000 := by omega
        have H1 := Lib.hid h1
        clear hi hz hz1 hz2 h1
        go_enter Try.func40, Try.ntmps40
        go_wp2_with (first
                      | (go_at_call 39; refine HL.out.mono ?_; rintro e w' ⟨rfl, rfl⟩)
                      | (go_at_call 37; refine HB.out.mono ?_; rintro e w' ⟨rfl, rfl⟩))
        go_loopw [10, 11] (fun v i wr => ∃ (j : Nat) (A : Option Addr) (c : Nat), j ≤ k ∧ i = .int .i64 j ∧ v = .slice A j c ∧ wr.ownsRow w.heap.size 5 1 (.slice A j c) j (cells8 (bytesN j V)) ∧ Below w.heap.size w wr) (fun _ i _ => k - (intOf i).toNat)
        case atStart => exact ⟨0, none, 0, Nat.zero_le _, rfl, rfl, World.ownsRow_nil _ _ _ _, Below.refl _ _⟩
        case round =>
          obtain ⟨j, A, c, hj, rfl, rfl, hown, hbel⟩ := hrel
          have HO := Lib.hid hown
          have HBl := Lib.hid hbel
          have hsz := hbel.size
          clear hown hbel
          by_cases hlt : j < k
          · have hq8 : j / 8 < V.length := by have := H1.out; omega
            have hbyte := shr_byte V j
            obtain ⟨b', o', e', _, hc⟩ := rds_getD (HR.out.below HBl.out) (k := 1 + j / 8) (by simp; omega)
            injection e' with e'
            injection e' with e1 e2
            subst e1
            subst e2
            have hv : (((k : Int) :: V).getD (1 + j / 8) 0) = V.getD (j / 8) 0 := by rw [Nat.add_comm]; rfl
            rw [hv, Nat.zero_add] at hc
            generalize V.getD (j / 8) 0 = y at hc hbyte
            rw [IntKind.wrap_u8', Nat.mul_comm (j % 8) 8] at hbyte
            have HY := Lib.hid hbyte
            clear hbyte hv
            have hj1 : (j : Int) < (k : Int) := by omega
            go_wp2_with (at_builtin
                         refine wpList_append_rds rfl (.tmp 55) (.tmp 68) 70 rfl w.heap.size 5 i0 _ 1 Try.underlying70 I0.out I1.out I2.out I3.out rfl (.slice A j c) j (cells8 (bytesN j V)) rfl (World.ownsRow.alloc HO.out _) (some ⟨wr.heap.size, 0, none⟩) 1 1 [.int .u8 (y / 2 ^ (8 * (j % 8)) % 256)] rfl rfl (rds_new wr #[.int .u8 (y / 2 ^ (8 * (j % 8)) % 256)] 5) (by simp [Value.oneCell']) (by unfold maxLen; omega) (by omega) (by simp; omega) ?_
                         intro v5 w5 hown5 hg5
                         obtain ⟨A5, c5, rfl, _⟩ := own_slice hown5
                         have B5 := Lib.hid (below_own (HBl.out.alloc hsz (.cells #[.int .u8 (y / 2 ^ (8 * (j % 8)) % 256)] 5)) (World.ownsRow.alloc HO.out (.cells #[.int .u8 (y / 2 ^ (8 * (j % 8)) % 256)] 5)) (Nat.le_refl _) (by simp; omega) hg5)
                         have O5 := Lib.hid hown5
                         clear hown5 hg5)
            go_roundw
            case rel =>
              have h := O5.out
              rw [HY.out] at h
              refine ⟨j + 1, A5, c5, by omega, by go_num, rfl, ?_, B5.out⟩
              rw [bytesN_succ, cells8_append]
              exact h
            case measure => simp [intOf]; omega
          · have hj1 : ¬ (j : Int) < (k : Int) := by omega
            obtain rfl : j = k := by omega
            have htx := run_text (P := Try.prog) (w := wr) (A := A) (l := bytesN j V) 70 9 5 j c Try.underlying70 Try.underlying5 Try.underlying9 (bytesN_length _ _).symm (Rds.own HO.out)
            go_wp2_with fail
            go_ret2
            exact ⟨by rw [hE.out]; rfl, HBl.out⟩
      · have hE := Lib.hid (show bytesE ((k : Int) :: V) = ([], 5) by unfold bytesE; simp only; rw [if_pos (.inr (by omega))])
        by_cases hbig : 8 * ((V.length : Int) + 1) < (k : Int)
        · go_enter Try.func40, Try.ntmps40
          go_wp2_with (first
                        | (go_at_call 39; refine HL.out.mono ?_; rintro e w' ⟨rfl, rfl⟩)
                        | (go_at_call 37; refine HB.out.mono ?_; rintro e w' ⟨rfl, rfl⟩))
          go_ret2
          exact ⟨by rw [hE.out]; rfl, Below.refl _ _⟩
        · have heq : ((V.length : Int) == ((k : Int) + 7) / 8) = false := by simp; omega
          have heq2 : ((V.length : Int) != ((k : Int) + 7) / 8) = true := by simp; omega
          go_enter Try.func40, Try.ntmps40
          go_wp2_with (first
                        | (go_at_call 39; refine HL.out.mono ?_; rintro e w' ⟨rfl, rfl⟩)
                        | (go_at_call 37; refine HB.out.mono ?_; rintro e w' ⟨rfl, rfl⟩))
          go_ret2
          exact ⟨by rw [hE.out]; rfl, Below.refl _ _⟩

set_option maxRecDepth 100000 in
theorem rall_any (H : RfX w r AL cL most ms) (hn : ms.length ≤ 4096) :
    Calls Try.prog 20 #[.pointer (some ⟨r, 0, none⟩)] w fun e w' => ∃ v, e = .returned v ∧ OwnI w' w.heap.size v (ms.map ThM.at_) ∧ Below w.heap.size w w' := by
  have HH := Lib.hid H
  obtain ⟨i0, hi, hz, hz1, hz2⟩ := info_parts info64
  have I0 := Lib.hid hi
  have I1 := Lib.hid hz
  have I2 := Lib.hid hz1
  have I3 := Lib.hid hz2
  clear hi hz hz1 hz2 H
  go_enter Try.func20, Try.ntmps20
  go_wp2
  go_loopw [3, 4] (fun v i wr => ∃ (j : Nat) (A : Option Addr) (c : Nat), j ≤ ms.length ∧ i = .int .i64 j ∧ v = .slice A j c ∧ wr.ownsRow w.heap.size 2 1 (.slice A j c) j (((ms.take j).map ThM.at_).map (Value.int .i64)) ∧ Below w.heap.size w wr) (fun _ i _ => ms.length - (intOf i).toNat)
  case atStart => exact ⟨0, none, 0, Nat.zero_le _, rfl, rfl, World.ownsRow_nil _ _ _ _, Below.refl _ _⟩
  case round =>
    obtain ⟨j, A, c, hj, rfl, rfl, hown, hbel⟩ := hrel
    have HO := Lib.hid hown
    have HBl := Lib.hid hbel
    have hsz := hbel.size
    have X := HH.out.beside hbel
    have c1 := X.box.cell 1
    clear hown hbel
    by_cases hlt : j < ms.length
    · have e : ms = ms.take j ++ ms[j] :: ms.drop (j + 1) := by rw [← List.drop_eq_getElem_cons hlt, List.take_append_drop]
      obtain ⟨b, o, rfl, k0, _⟩ := X.cells e
      rw [List.length_take, Nat.min_eq_left (by omega)] at k0
      have HT := Lib.hid (show ms.take (j + 1) = ms.take j ++ [ms[j]] from List.take_succ_eq_append_getElem hlt)
      have hj1 : (j : Int) < (ms.length : Int) := by omega
      generalize ms[j] = m at *
      clear e X
      go_wp2_with (at_builtin
                   refine wpList_append_rds rfl (.tmp 14) (.tmp 23) 38 rfl w.heap.size 2 i0 _ 8 Try.underlying38 I0.out I1.out I2.out I3.out rfl (.slice A j c) j (((ms.take j).map ThM.at_).map (Value.int .i64)) rfl (World.ownsRow.alloc HO.out _) (some ⟨wr.heap.size, 0, none⟩) 1 1 [.int .i64 m.at_] rfl rfl (rds_new wr #[.int .i64 m.at_] 2) (by simp [Value.oneCell']) (by unfold maxLen; omega) (by omega) (by simp; omega) ?_
                   intro v5 w5 hown5 hg5
                   obtain ⟨A5, c5, rfl, _⟩ := own_slice hown5
                   have B5 := Lib.hid (below_own (HBl.out.alloc hsz (.cells #[.int .i64 m.at_] 2)) (World.ownsRow.alloc HO.out (.cells #[.int .i64 m.at_] 2)) (Nat.le_refl _) (by simp; omega) hg5)
                   have O5 := Lib.hid hown5
                   clear hown5 hg5)
      go_roundw
      case rel =>
        refine ⟨j + 1, A5, c5, by omega, by go_num, rfl, ?_, B5.out⟩
        rw [HT.out, List.map_append, List.map_append]
        exact O5.out
      case measure => simp [intOf]; omega
    · have hj1 : ¬ (j : Int) < (ms.length : Int) := by omega
      obtain rfl : j = ms.length := by omega
      rw [List.take_length] at HO
      have HF := Lib.hid (show OwnI wr w.heap.size (.slice A ms.length c) (ms.map ThM.at_) by unfold OwnI; rw [List.length_map]; exact HO.out)
      clear X
      go_wp2_with fail
      go_ret
      exact ⟨_, rfl, HF.out, HBl.out⟩
end

end HpO
end Go.Proofs.Ytfmodaelpldpfaa
