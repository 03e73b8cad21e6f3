/-
  The law InsNames, walked: for every number and every name it returns true, and nothing that was there is written. Condition: the table of names lies as the program's text lays it.
-/
import Derived.Test.YtaekdgbbopcpbaaDoorInsK
namespace Go.Proofs.YtaekdgbbopcpbaaDoor
namespace WInsNames
open Go.RowKit InsM Base InsA InsB InsK

set_option maxRecDepth 100000 in
theorem walk (a0 : Int) (a1 : ByteArray) (w : World) (hl : Laid w) (_w0 : (Lit.int .i64 a0).wf = true) (_b1 : a1.size ≤ 140737488351232) :
    Calls Tryd.prog 7 #[.int .i64 a0, .string a1] w fun e w' => e = .returned (.bool true) ∧ Below w.heap.size w w' := by
  obtain ⟨s, rfl⟩ : ∃ s : List UInt8, a1 = ⟨s.toArray⟩ := ⟨a1.data.toList, rfl⟩
  have Hl := Lib.hid hl
  have h0 := hl.1
  clear hl
  generalize hN : nameI a0 = N at *
  have HN := Lib.hid hN
  clear hN
  generalize hK : kindI a0 = K at *
  have HK := Lib.hid hK
  clear hK
  generalize hF : findI s = F at *
  have HF := Lib.hid hF
  clear hF
  go_enter Tryd.func7, Tryd.ntmps7
  go_wp2_with fail
  refine (kind_any a0 w Hl.out).mono ?_
  rw [HK.out]
  rintro e w1 ⟨rfl, rfl⟩
  go_wp2_with fail
  refine (refKind_any a0 w).mono ?_
  rw [HK.out]
  rintro e w1 ⟨rfl, hb1⟩
  have Hl1 := Lib.hid (Hl.out.below hb1 h0)
  have Hb1 := Lib.hid hb1
  have hsz1 := hb1.size
  clear hb1
  go_wp2_with fail
  refine (name_any a0 w1 Hl1.out).mono ?_
  rw [HN.out]
  rintro e w2 ⟨rfl, rfl⟩
  go_wp2_with fail
  refine (refName_any a0 w1).mono ?_
  rw [HN.out]
  rintro e w2 ⟨rfl, hb2⟩
  have Hl2 := Lib.hid (Hl1.out.below hb2 (Nat.lt_of_lt_of_le h0 hsz1))
  have Hb2 := Lib.hid (Hb1.out.trans (hb2.mono hsz1))
  have hsz2 := Hb2.out.size
  clear hb2
  go_wp2_with fail
  refine (find_any s w2 Hl2.out).mono ?_
  rw [HF.out]
  rintro e w3 ⟨rfl, rfl⟩
  go_wp2_with fail
  refine (refFind_any s w2).mono ?_
  rw [HF.out]
  rintro e w3 ⟨rfl, hb3⟩
  have Hl3 := Lib.hid (Hl2.out.below hb3 (Nat.lt_of_lt_of_le h0 hsz2))
  have Hb3 := Lib.hid (Hb2.out.trans (hb3.mono hsz2))
  have hsz3 := Hb3.out.size
  clear hb3
  go_wp2_with fail
  refine (known_any w3 Hl3.out).mono ?_
  rintro e w4 ⟨rfl, hb4⟩
  have Hb4 := Lib.hid (Hb3.out.trans (hb4.mono hsz3))
  clear hb4
  go_wp2_with fail
  go_ret
  exact ⟨rfl, Hb4.out⟩

end WInsNames
end Go.Proofs.YtaekdgbbopcpbaaDoor
