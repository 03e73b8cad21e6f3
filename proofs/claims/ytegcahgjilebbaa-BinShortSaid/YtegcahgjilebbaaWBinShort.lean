/-
  The law BinShort, walked: for every number and all bytes it returns true, and nothing that was there is written.
-/
import Derived.Test.YtegcahgjilebbaaBinKnown
namespace Go.Proofs.Ytegcahgjilebbaa
namespace WBinShort
open Go.RowKit BinM Base BinE BinPut BinGet Bin8
open BinKnown (known_any)

/-- a number's bytes without the last one end too early -/
theorem short_num {n : Int} (h0 : -9223372036854775808 ≤ n) (h1 : n ≤ 9223372036854775807) : getS ((num n).take ((num n).length - 1)) 0 = (0, 0, 4) := by
  obtain ⟨c1, _, c3⟩ := num_can h0 h1
  have hp := num_pos h0 h1
  have hl := lead_of_can [] c1
  rw [List.append_nil] at hl
  have hlen : ((num n).take ((num n).length - 1)).length = (num n).length - 1 := by simp
  have hlead : lead ((num n).take ((num n).length - 1)) = (num n).length - 1 := by
    refine lead_eq (fun j hj hjm => ?_) (by omega) (.inl hlen.symm)
    rw [List.getElem_take]
    exact lead_ge _ j (by omega) (by omega)
  have := getS_short (l := (num n).take ((num n).length - 1)) (a := 0) (by omega) (by simp only [List.drop_zero]; omega) (by simp only [List.drop_zero]; omega)
  exact this

theorem whole_num {n : Int} (h0 : -9223372036854775808 ≤ n) (h1 : n ≤ 9223372036854775807) (r : List UInt8) : getS (num n ++ r) 0 = (n, ((num n).length : Int), 0) := by
  have := getS_in (l := num n ++ r) (a := 0) (by omega)
  rw [List.drop_zero, getL_num h0 h1 r] at this
  simpa using this

theorem walk (a0 : Int) (a1 : Option Addr) (m1 c1 : Nat) (l1 : List UInt8) (w : World) (w0 : (Lit.int .i64 a0).wf = true) (w1 : IsBytes w a1 m1 c1 l1) (b1 : c1 ≤ 140737488351232) :
    Calls Try.prog 6 #[.int .i64 a0, .slice a1 m1 c1] w fun e w' => e = .returned (.bool true) ∧ Below w.heap.size w w' := by
  obtain ⟨h0, h1⟩ : -9223372036854775808 ≤ a0 ∧ a0 ≤ 9223372036854775807 := by
    simp [Lit.wf, IntKind.min, IntKind.max, IntKind.bits, IntKind.signed] at w0; omega
  obtain ⟨hm1, hle, _, hr⟩ := w1
  have Hm1 := Lib.hid hm1
  have Hr := Lib.hid hr
  have hk := (num_can h0 h1).2.2
  have hk1 := num_pos h0 h1
  have Hshort := Lib.hid (short_num h0 h1)
  have Hwhole := Lib.hid (whole_num h0 h1 l1)
  clear hm1 hr w0
  go_enter Try.func6, Try.ntmps6
  go_wp2_with fail
  refine (put_any none [] 0 0 a0 w rfl (by omega) h0 h1 (Rds.none_ _ _)).mono ?_
  rintro e v1 ⟨v, rfl, hown, hb⟩
  have ho : Own8 v1 w.heap.size v (num a0) := hown
  obtain ⟨A, c, rfl, hc1, hc2, hr1, hA⟩ := ho.slice
  generalize hp : num a0 = p at *
  have Hp := Lib.hid hp
  generalize hq : p.length = q at *
  have Hq := Lib.hid hq
  have hsz := hb.size
  have Hb := Lib.hid hb
  have Hr1 := Lib.hid hr1
  have HA := Lib.hid hA
  unfold maxLen at hc2
  clear hp hq hown ho hb hr1 hA
  go_wp2_with fail
  refine (get_any A (p.take (q - 1)) (q - 1) c 0 v1 (by simp [Hq.out]) (by unfold maxLen; omega) (by omega) (by omega) (by rw [← cells8_take]; exact Hr1.out.take _)).mono ?_
  rw [Hshort.out]
  rintro e v1 ⟨rfl, rfl⟩
  unfold three
  go_wp2_with fail
  refine (lent_any A p q c v1 Hq.out.symm (by omega) Hr1.out).mono ?_
  rintro e v2 ⟨u, rfl, hown2, hb2⟩
  have Hown2 : Hid (Own8 v2 v1.heap.size u p) := Lib.hid hown2
  have Hb2 := Lib.hid (Hb.out.trans (hb2.mono hsz))
  have hsz2 := hb2.size
  have hra : Rds v2 a1 (cells8 l1) := Hr.out.below Hb2.out
  have Hra := Lib.hid hra
  clear hown2 hb2 hra
  have hl1 : l1.length ≤ m1 := Nat.le_of_eq Hm1.out.symm
  have hpq : p.length ≤ q := Nat.le_of_eq Hq.out
  go_wp2_with (at_builtin
               refine app8 rfl (.tmp 29) (.tmp 30) rfl v1.heap.size u p rfl Hown2.out a1 m1 c1 l1 rfl Hm1.out Hra.out (by omega) hsz2 ?_
               intro v3 w3 hown3 hg3
               have Hb3 := Lib.hid (own_below Hown2.out Hb2.out hsz (Nat.le_trans hsz hsz2) hg3)
               have hsz3 := hg3.size
               obtain ⟨A3, c3, rfl, hc31, hc32, hr3, _⟩ := hown3.slice
               have hln : (p ++ l1).length = q + m1 := by rw [List.length_append, Hq.out, Hm1.out]
               generalize hn3 : (p ++ l1).length = n3 at *
               have Hn3 := Lib.hid hn3
               have hn3l : n3 ≤ q + m1 := Nat.le_of_eq hln
               have Hr3 := Lib.hid hr3
               unfold maxLen at hc32
               clear hown3 hg3 hr3 hln hn3)
  refine (get_any A3 (p ++ l1) n3 c3 0 w3 Hn3.out.symm (by unfold maxLen; omega) (by omega) (by omega) Hr3.out).mono ?_
  rw [Hwhole.out]
  rintro e w3 ⟨rfl, rfl⟩
  unfold three
  go_wp2_with fail
  refine (known_any w3).mono ?_
  rintro e w4 ⟨rfl, hb4⟩
  go_wp2_with fail
  go_ret
  exact ⟨rfl, Hb3.out.trans (hb4.mono (by omega))⟩

end WBinShort
end Go.Proofs.Ytegcahgjilebbaa
