/-
  The document's heap: Raw: what it hands back.
-/
import Derived.Test.YtfmodaelpldpfaaHpO
namespace Go.Proofs.Ytfmodaelpldpfaa
namespace HpU
open Go.RowKit Base BinM HpM HpA HpS HpB HpG HpP HpT HpY HpZ HpR HpQ HpE HpF HpI HpJ HpL HpO

section
variable {w : World} {r : Nat} {AL : Option Addr} {cL most : Nat} {ms : List ThM}

theorem raw_step (j : Nat) (h : j < ms.length) : raw (things (ms.take (j + 1))) = raw (things (ms.take j)) ++ [((ms[j]).t.id : Int) * 65536 + ((ms[j]).t.W.length : Int)] ++ (ms[j]).t.W := by
  unfold things
  rw [List.take_succ_eq_append_getElem h, List.map_append, raw_append]
  simp [raw_one, Th.row]

set_option maxRecDepth 100000 in
set_option maxHeartbeats 4000000 in
theorem rraw_any (H : RfX w r AL cL most ms) (hn : ms.length ≤ 4096) (hb : (raw (things ms)).length ≤ 4096) (hids : ∀ m ∈ ms, m.t.id < 65536) :
    Calls Try.prog 18 #[.pointer (some ⟨r, 0, none⟩)] w fun e w' => ∃ v, e = .returned v ∧ OwnI w' w.heap.size v (raw (things ms)) ∧ Below w.heap.size w w' := by
  have HH := Lib.hid H
  obtain ⟨i0, hi, hz, hz1, hz2⟩ := info_parts info64
  have I0 := Lib.hid hi
  have I1 := Lib.hid hz
  have I2 := Lib.hid hz1
  have I3 := Lib.hid hz2
  have HI := Lib.hid hids
  clear hi hz hz1 hz2 H hids
  go_enter Try.func18, Try.ntmps18
  go_wp2
  go_loopw [3, 4] (fun v i wr => ∃ (j n : Nat) (A : Option Addr) (c : Nat), j ≤ ms.length ∧ n = (raw (things (ms.take j))).length ∧ i = .int .i64 j ∧ v = .slice A n c ∧ wr.ownsRow w.heap.size 2 1 (.slice A n c) n ((raw (things (ms.take j))).map (Value.int .i64)) ∧ Below w.heap.size w wr) (fun _ i _ => ms.length - (intOf i).toNat)
  case atStart => exact ⟨0, 0, none, 0, Nat.zero_le _, rfl, rfl, rfl, World.ownsRow_nil _ _ _ _, Below.refl _ _⟩
  case round =>
    obtain ⟨j, n, A, c, hj, hn', rfl, rfl, hown, hbel⟩ := hrel
    have HN := Lib.hid hn'
    have HO := Lib.hid hown
    have HBl := Lib.hid hbel
    have hsz := hbel.size
    have X := HH.out.beside hbel
    have c1 := X.box.cell 1
    have hlt1 := X.box.lt
    by_cases hlt : j < ms.length
    · have e : ms = ms.take j ++ ms[j] :: ms.drop (j + 1) := by rw [← List.drop_eq_getElem_cons hlt, List.take_append_drop]
      obtain ⟨b, o, hAL, _, k1, k2, _⟩ := X.cells e
      rw [List.length_take, Nat.min_eq_left (by omega)] at k1 k2
      have HT := Lib.hid (raw_step j hlt)
      have hj1 : (j : Int) < (ms.length : Int) := by omega
      have hidb := HI.out _ (List.getElem_mem hlt)
      have hWr := (X.each _ (List.getElem_mem hlt))
      have hle := raw_le (ms := ms) (j + 1)
      have hst := raw_take j hlt
      have hn2 : n + 1 + (ms[j]).t.W.length ≤ 4096 := by omega
      have HX := Lib.hid (fun w' (h : Below wr.heap.size wr w') => X.beside h)
      have HE := Lib.hid e
      have HMem := Lib.hid (List.getElem_mem hlt)
      clear hown hbel hn' hle hst e X
      subst hAL
      generalize ms[j] = m at *
      have HWr := Lib.hid hWr
      clear hWr
      have hw1 : IntKind.i64.wrap ((m.t.id : Int) * 65536) = (m.t.id : Int) * 65536 := by rw [IntKind.wrap_i64]; omega
      have hw2 : IntKind.i64.wrap ((m.t.id : Int) * 65536 + (m.t.W.length : Int)) = (m.t.id : Int) * 65536 + (m.t.W.length : Int) := by rw [IntKind.wrap_i64]; omega
      go_wp2_with fail
      go_region_law ((refine step_append_lies _ (by rfl) _ _ _ (by rfl) w.heap.size 2 i0 _ 1 8 Try.underlying38 I0.out I1.out I2.out I3.out rfl (by omega) (.slice A n c) n ((raw (things (ms.take j))).map (Value.int .i64)) (by rfl) ((World.ownsRow.alloc HO.out _).drew) ⟨wr.heap.size, 0, none⟩ 1 1 [.int .i64 ((m.t.id : Int) * 65536 + (m.t.W.length : Int))] (by rfl) (by rfl) (World.news_of_block (cs := #[.int .i64 ((m.t.id : Int) * 65536 + (m.t.W.length : Int))]) (t := 2) (fr := (0, 0)) (alloc_at _ _ rfl)) (by simp [Value.oneCell']) (by omega) (by unfold maxLen; omega) (by omega) (by simp; omega) _ rfl ?_; intro b5 c5 w5 hown5 hg5 hat5 hlt5))
      all_goals
        have hb5 : Below w.heap.size w w5 := below_own ((HBl.out.alloc hsz (.cells #[.int .i64 ((m.t.id : Int) * 65536 + (m.t.W.length : Int))] 2)).drew) ((World.ownsRow.alloc HO.out (.cells #[.int .i64 ((m.t.id : Int) * 65536 + (m.t.W.length : Int))] 2)).drew) (Nat.le_refl _) (by simp; omega) hg5
        have X5 := HH.out.beside hb5
        have c15 := X5.box.cell 1
        have hlt5' := X5.box.lt
        obtain ⟨b', o', hAL', _, _, k25, _⟩ := X5.cells HE.out
        injection hAL' with hAL'
        injection hAL' with e1 e2
        subst e1
        subst e2
        rw [List.length_take, Nat.min_eq_left (by omega)] at k25
        have HW5 := Lib.hid (X5.each m HMem.out)
        have O5 := Lib.hid hown5
        have B5 := Lib.hid hb5
        clear hown5 hg5 hat5 hb5 X5 c1 k1 k2
        go_wp2_with (at_builtin
                     refine wpList_append_rds rfl (.tmp 36) (.tmp 44) 38 rfl w.heap.size 2 i0 _ 8 Try.underlying38 I0.out I1.out I2.out I3.out rfl (.slice (some ⟨b5, 0, none⟩) (n + 1) c5) (n + 1) _ rfl O5.out m.A m.t.W.length m.c (m.t.W.map (Value.int .i64)) rfl (by simp) (own_rds HW5.out) (oneI m.t.W) (by unfold maxLen; omega) (by omega) (by have := B5.out.size; omega) ?_
                     intro v6 w6 hown6 hg6
                     obtain ⟨A6, c6, rfl, _⟩ := own_slice hown6
                     have B6 := Lib.hid (below_own B5.out O5.out (Nat.le_refl _) B5.out.size hg6)
                     have O6 := Lib.hid hown6
                     clear hown6 hg6)
        go_roundw
        case rel =>
          refine ⟨j + 1, n + 1 + m.t.W.length, A6, c6, by omega, ?_, by go_num, rfl, ?_, B6.out⟩
          · rw [HT.out]; simp; have := HN.out; omega
          · rw [HT.out, List.map_append, List.map_append]
            exact O6.out
        case measure => simp [intOf]; omega
    · have hj1 : ¬ (j : Int) < (ms.length : Int) := by omega
      obtain rfl : j = ms.length := by omega
      rw [List.take_length] at HO HN
      have HF := Lib.hid (show OwnI wr w.heap.size (.slice A n c) (raw (things ms)) by unfold OwnI; rw [← HN.out]; exact HO.out)
      clear X hown hbel hn'
      go_wp2_with fail
      go_ret
      exact ⟨_, rfl, HF.out, HBl.out⟩
end

end HpU
end Go.Proofs.Ytfmodaelpldpfaa
