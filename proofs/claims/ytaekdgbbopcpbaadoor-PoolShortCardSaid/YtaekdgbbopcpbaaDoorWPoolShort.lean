/-
  The law PoolShort, walked: for every constant it returns true, and nothing that was there is written.
-/
import Derived.Test.YtaekdgbbopcpbaaDoorPoolU
namespace Go.Proofs.YtaekdgbbopcpbaaDoor
namespace WPoolShort
open Go.RowKit Base BinM BinE BinGet BinText BinPut Bin8 DescM DescP Stru PoolM PoolA PoolB PoolD PoolE PoolS PoolT PoolU PoolV

set_option maxRecDepth 100000 in
set_option maxHeartbeats 4000000 in
theorem walk (k n : Int) (s t u : List UInt8) (w : World) (wk : fitI k) (wn : fitI n) (bs : s.length ≤ 140737488351232) (bt : t.length ≤ 140737488351232) (bu : u.length ≤ 140737488351232) :
    Calls Tryd.prog 6 #[.agg #[.int .i64 k, .int .i64 n, .string ⟨s.toArray⟩, .string ⟨t.toArray⟩, .string ⟨u.toArray⟩]] w fun e w' => e = .returned (.bool true) ∧ Below w.heap.size w w' := by
  have HB := Lib.hid ((Below.refl w.heap.size w).alloc (Nat.le_refl _) (.cells #[.int .i64 k, .int .i64 n, .string ⟨s.toArray⟩, .string ⟨t.toArray⟩, .string ⟨u.toArray⟩] 24))
  cases hrt : rightC ⟨k, n, s, t, u⟩
  · have hp := poolPut_any none 0 0 [] k n s t u (w.alloc (.cells #[.int .i64 k, .int .i64 n, .string ⟨s.toArray⟩, .string ⟨t.toArray⟩, .string ⟨u.toArray⟩] 24)) rfl (.inl rfl) (by omega) wk wn (by omega) (by omega) (by omega)
    rw [put_no hrt] at hp
    have Hp := Lib.hid hp
    clear hp hrt wk wn
    go_enter Tryd.func6, Tryd.ntmps6
    go_wp2_with fail
    refine Calls.mono Hp.out ?_
    rintro e w1 ⟨v1, rfl, hown1, hb1⟩
    simp only at hown1
    obtain ⟨A1, c1, rfl, _⟩ := Own8.slice hown1
    have Hb1 := Lib.hid (HB.out.trans (hb1.mono (by simp)))
    have hsz1 := Hb1.out.size
    clear hown1 hb1
    go_wp2_with fail
    refine (known_any _).mono ?_
    rintro e w2 ⟨rfl, hb2⟩
    have Hb2 := Lib.hid (Hb1.out.trans (hb2.mono hsz1))
    clear hb2
    go_wp2_with fail
    go_ret
    exact ⟨rfl, Hb2.out⟩
  · have hp := poolPut_any none 0 0 [] k n s t u (w.alloc (.cells #[.int .i64 k, .int .i64 n, .string ⟨s.toArray⟩, .string ⟨t.toArray⟩, .string ⟨u.toArray⟩] 24)) rfl (.inl rfl) (by omega) wk wn (by omega) (by omega) (by omega)
    rw [put_yes hrt, List.nil_append] at hp
    have hsh : getC ((bytesC ⟨k, n, s, t, u⟩).take ((bytesC ⟨k, n, s, t, u⟩).length - 1)) 0 = (noneC, 0, 4) := by
      have h := get_short hrt wn []
      rw [List.nil_append] at h
      exact h
    obtain ⟨l1, l2, l3⟩ := PoolL.right_len hrt
    have hlen := bytes_len (c := ⟨k, n, s, t, u⟩) wk wn l1 l2 l3
    have hpos : 1 ≤ (bytesC ⟨k, n, s, t, u⟩).length := by
      unfold fitI at wk
      have := num_pos wk.1 wk.2
      unfold bytesC
      rw [List.length_append]
      show 1 ≤ (num k).length + _
      omega
    generalize bytesC ⟨k, n, s, t, u⟩ = X at *
    generalize hq : X.length = q at *
    have Hq := Lib.hid hq
    have Hsh := Lib.hid hsh
    have Hp := Lib.hid hp
    have hg := guard_cst
    have he : ∀ W : World, (binOp .eql 24 (.agg #[.int .i64 0, .int .i64 0, .string ⟨#[]⟩, .string ⟨#[]⟩, .string ⟨#[]⟩]) (.agg #[.int .i64 0, .int .i64 0, .string ⟨#[]⟩, .string ⟨#[]⟩, .string ⟨#[]⟩])).run Tryd.prog W = .ok (.bool true) W := fun W => eql_cst 0 0 0 0 [] [] [] [] [] [] W
    clear hp hrt wk wn hq hsh l1 l2 l3
    go_enter Tryd.func6, Tryd.ntmps6
    go_wp2_with fail
    refine Calls.mono Hp.out ?_
    rintro e w1 ⟨v1, rfl, hown1, hb1⟩
    simp only at hown1
    obtain ⟨A1, c1, rfl, hc1, hc2, hr1, _⟩ := Own8.slice hown1
    rw [Hq.out] at hc1
    rw [Hq.out]
    have Hr1 := Lib.hid hr1
    have Hb1 := Lib.hid (HB.out.trans (hb1.mono (by simp)))
    have hsz1 := Hb1.out.size
    have hbz := (Below.refl w1.heap.size w1).alloc (Nat.le_refl _) (.cells #[.int .i64 0, .int .i64 0, .string ⟨#[]⟩, .string ⟨#[]⟩, .string ⟨#[]⟩] 24)
    have Hbz := Lib.hid (Hb1.out.alloc hsz1 (.cells #[.int .i64 0, .int .i64 0, .string ⟨#[]⟩, .string ⟨#[]⟩, .string ⟨#[]⟩] 24))
    have Hr2 := Lib.hid (hr1.below hbz)
    have Hbox := Lib.hid (boxC.new w1 0 0 [] [] [] 24)
    unfold maxLen at hc2
    clear hown1 hb1 hr1 hbz
    go_wp2_with fail
    refine (poolGet_any A1 (X.take (q - 1)) (q - 1) c1 0 _ (by simp [Hq.out]) (by omega) (by unfold maxLen; omega) (by omega) (by omega) (by rw [← cells8_take]; exact Hr2.out.take _)).mono ?_
    rw [Hsh.out]
    rintro e w3 ⟨rfl, hb3⟩
    obtain ⟨hc0, hc1', hc2', hc3, hc4⟩ := boxC.after Hbox.out hb3
    have hbx : w1.heap.size < w3.heap.size := World.block_lt_of_cell? w3 ⟨w1.heap.size, 0, none⟩ hc0
    have Hb3 := Lib.hid ((Hbz.out.trans (hb3.mono (by simp; omega))).alloc (by omega) (.cells #[.int .i64 0, .int .i64 0, .string ⟨#[]⟩, .string ⟨#[]⟩, .string ⟨#[]⟩] 24))
    have hsz3 := Hb3.out.size
    clear hb3
    unfold cst3 cstV noneC
    go_wp2_with fail
    refine (known_any _).mono ?_
    rintro e w4 ⟨rfl, hb4⟩
    have Hb4 := Lib.hid (Hb3.out.trans (hb4.mono hsz3))
    clear hb4
    go_wp2_with fail
    go_ret
    exact ⟨rfl, Hb4.out⟩

end WPoolShort
end Go.Proofs.YtaekdgbbopcpbaaDoor
