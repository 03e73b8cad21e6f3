/-
  The statements' fixed calls on instructions: they come out as they must.
-/
import Derived.Test.YtaekdgbbopcpbaaDoorInsQ
import Derived.Test.YtaekdgbbopcpbaaDoorRefGet
namespace Go.Proofs.YtaekdgbbopcpbaaDoor
namespace InsK
open Go.RowKit InsM Base InsA InsB Stru InsC BinM BinE BinPut Bin8 BinAll InsP InsQ
open RefGet (text_q)

theorem k1 : putI [] [(1, 3), (15, 0)] = ([4, 2, 6, 30], 0) := by decide
theorem k2 : nameI 44 = [115, 112, 97, 119, 110] := by decide
theorem k3 : findI [111, 108, 100] = 45 := by decide
theorem k4 : kindI 32 = 5 := by decide

theorem code_new (w : World) (x y : InsT) (hx : fitI x.1 ∧ fitI x.2) (hy : fitI y.1 ∧ fitI y.2) :
    IsCode (w.alloc (.cells #[.int .i64 x.1, .int .i64 x.2, .int .i64 y.1, .int .i64 y.2] 90)) (some ⟨w.heap.size, 0, none⟩) 2 2 [x, y] :=
  ⟨rfl, Nat.le_refl _, by simp [maxLen], rds_new w _ _, by simp [hx, hy]⟩

set_option maxRecDepth 100000 in
/-- known() -/
theorem known_any (w : World) (hl : Laid w) : Calls Tryd.prog 38 #[] w fun e w' => e = .returned (.bool true) ∧ Below w.heap.size w w' := by
  have Hl1 := Lib.hid (Laid.alloc hl (.cells #[.int .i64 1, .int .i64 3, .int .i64 15, .int .i64 0] 90))
  have Hc := Lib.hid (code_new w (1, 3) (15, 0) (by unfold fitI; omega) (by unfold fitI; omega))
  have Hl := Lib.hid hl
  clear hl
  go_enter Tryd.func38, Tryd.ntmps38
  go_wp2_with fail
  refine (put_any none 0 0 [] _ 2 2 [(1, 3), (15, 0)] _ Hl1.out rfl (.inl rfl) (by omega) Hc.out).mono ?_
  rw [k1]
  rintro e w1 ⟨v, rfl, hown, hb⟩
  obtain ⟨A, c, rfl, _, _, hr, _⟩ := Own8.slice hown
  have hb' := ((Below.refl w.heap.size w).alloc (Nat.le_refl _) (.cells #[.int .i64 1, .int .i64 3, .int .i64 15, .int .i64 0] 90)).trans (hb.mono (by simp))
  have Hl2 := Lib.hid (Hl.out.below hb' Hl.out.1)
  have hcx := text_q w1 (q := [4, 2, 6, 30]) (m := 4) rfl hr c
  have Hb := Lib.hid hb'
  clear hown hb hr hb'
  go_wp2_with fail
  refine (name_any 44 _ Hl2.out).mono ?_
  rw [k2]
  rintro e w2 ⟨rfl, rfl⟩
  go_wp2_with fail
  refine (find_any [111, 108, 100] _ Hl2.out).mono ?_
  rw [k3]
  rintro e w2 ⟨rfl, rfl⟩
  go_wp2_with fail
  refine (kind_any 32 _ Hl2.out).mono ?_
  rw [k4]
  rintro e w2 ⟨rfl, rfl⟩
  go_wp2_with fail
  go_ret
  exact ⟨rfl, Hb.out⟩

end InsK
end Go.Proofs.YtaekdgbbopcpbaaDoor
