/-
  What a method gives and takes, put together, by the program and by the document: what each call returns.
-/
import Derived.Test.YthkkcecfenohjaaGreatDoorDescS
import Derived.Test.YthkkcecfenohjaaGreatDoorBaseApp
import Derived.Lib.Join
import Derived.Outline
namespace Go.Proofs.YthkkcecfenohjaaGreatDoor
namespace DescG
open Go.RowKit BinM DescM DescW DescX DescR Base
open BinName (ret_bool)

/-- a text as a cell -/
def str (t : List UInt8) : Value := .string ⟨t.toArray⟩

/-- what a method gives and takes, put together: the text, the error's number -/
def sigT (g : List UInt8) (ts : List (List UInt8)) : List UInt8 × Int :=
  if 6 < ts.length then ([], 2) else if ts.all rightB = false then ([], 10) else if givenB g = false then ([], 10) else (40 :: (ts.flatten ++ 41 :: g), 0)

theorem flat_len {ts : List (List UInt8)} (h : ts.all rightB = true) : ts.flatten.length ≤ 30 * ts.length := by
  induction ts with
  | nil => simp
  | cons a t ih =>
    simp only [List.all_cons, Bool.and_eq_true] at h
    have h1 := lead_le (eq_of_beq h.1)
    have h2 := ih h.2
    rw [List.flatten_cons, List.length_append, List.length_cons]
    omega

theorem all_false_at {ts : List (List UInt8)} {k : Nat} (hk : k < ts.length) (h : rightB ts[k] = false) : ts.all rightB = false := by
  rw [List.all_eq_false]
  exact ⟨ts[k], List.getElem_mem hk, by rw [h]; simp⟩

theorem all_take_succ {ts : List (List UInt8)} {k : Nat} (hk : k < ts.length) (h : (ts.take k).all rightB = true) (hr : rightB ts[k] = true) : (ts.take (k + 1)).all rightB = true := by
  rw [List.take_succ_eq_append_getElem hk, List.all_append, h]
  simp [hr]

theorem join_flat (ts : List (List UInt8)) : Lib.join ts [] = ts.flatten := by
  unfold Lib.join
  induction ts with
  | nil => rfl
  | cons a t ih =>
    cases t with
    | nil => simp
    | cons b r => simp [List.intercalate_cons_cons] at ih ⊢; exact ih


theorem glue (F g : List UInt8) : ByteArray.mk #[40] ++ ByteArray.mk F.toArray ++ ByteArray.mk #[41] ++ ByteArray.mk g.toArray = ⟨(40 :: (F ++ 41 :: g)).toArray⟩ := by
  rw [show (ByteArray.mk #[40]) = ByteArray.mk [40].toArray from rfl, show (ByteArray.mk #[41]) = ByteArray.mk [41].toArray from rfl, app_mk, app_mk, app_mk]
  congr 2
  simp
theorem glue2 (X g : List UInt8) : ByteArray.mk (40 :: X).toArray ++ ByteArray.mk #[41] ++ ByteArray.mk g.toArray = ⟨(40 :: (X ++ 41 :: g)).toArray⟩ := by
  rw [show (ByteArray.mk #[41]) = ByteArray.mk [41].toArray from rfl, app_mk, app_mk]
  congr 2
  simp


theorem given_or (g : List UInt8) : givenB g = (g == [86] || rightB g) := rfl

set_option maxHeartbeats 1000000 in
theorem refSig_any (g : List UInt8) (A : Option Addr) (ts : List (List UInt8)) (m c : Nat) (w : World) (hg : g.length ≤ 140737488355327) (hm : m = ts.length) (hmx : m ≤ maxLen) (hr : Rds w A (ts.map str)) (hs : ∀ t ∈ ts, t.length ≤ 140737488355327) :
    Calls Tryz.prog 136 #[str g, .slice A m c] w fun e w' => e = .returned (twoI (sigT g ts)) ∧ w = w' := by
  have Hm := Lib.hid hm
  have hml : ts.length ≤ m := Nat.le_of_eq hm.symm
  have hml2 : m ≤ ts.length := Nat.le_of_eq hm
  have Hr := Lib.hid hr
  have Hs := Lib.hid hs
  unfold maxLen at hmx
  clear hm hr hs
  unfold str
  by_cases h6 : 6 < ts.length
  · have Hfin := Lib.hid (show sigT g ts = ([], 2) by unfold sigT; rw [if_pos h6])
    have h6' : (6 : Int) < (m : Int) := by omega
    go_enter Tryz.func136, Tryz.ntmps136
    go_wp2
    go_ret2
    exact ⟨ret2I Hfin.out rfl, rfl⟩
  · have h6' : ¬ (6 : Int) < (m : Int) := by omega
    go_enter Tryz.func136, Tryz.ntmps136
    go_wp2_with fail
    go_loop [6, 7] (fun s i => ∃ (k : Nat) (X : List UInt8), k ≤ ts.length ∧ i = .int .i64 k ∧ s = .string ⟨(40 :: X).toArray⟩ ∧ X = (ts.take k).flatten ∧ (ts.take k).all rightB = true) (fun _ i => m - (intOf i).toNat)
    case atStart => exact ⟨0, [], Nat.zero_le _, rfl, rfl, rfl, rfl⟩
    case round =>
      obtain ⟨k, X, hk, rfl, rfl, hX, hall⟩ := hrel
      have hXl : X.length ≤ 30 * k := by
        have := flat_len hall
        have h2 : (ts.take k).length ≤ k := by simp; omega
        rw [hX]; omega
      have Hall := Lib.hid hall
      have HX := Lib.hid hX
      clear hall hX
      by_cases hlt : k < ts.length
      · obtain ⟨b, o, rfl, hb, hcell⟩ := Hr.out.at_ (k := k) (by simpa using hlt)
        have hcell' : w.cell? ⟨b, o + k, none⟩ = some (.string ⟨ts[k].toArray⟩) := by rw [hcell]; simp [str]
        have hsk := Hs.out ts[k] (List.getElem_mem hlt)
        clear hcell
        cases hR : rightB ts[k]
        · have Hfin := Lib.hid (show sigT g ts = ([], 10) by unfold sigT; rw [if_neg h6, if_pos (all_false_at hlt hR)])
          have HR := Lib.hid hR
          clear hR
          generalize ts[k] = x at *
          go_wp2_with (go_at_call 47; refine (refRight_any x _ (by omega)).mono ?_; rw [HR.out]; rintro e w' ⟨rfl, rfl⟩)
          go_ret2
          exact ⟨ret2I Hfin.out rfl, rfl⟩
        · have Hnext := Lib.hid (all_take_succ hlt Hall.out hR)
          have Hflat := Lib.hid (show (ts.take (k + 1)).flatten = X ++ ts[k] by rw [List.take_succ_eq_append_getElem hlt, List.flatten_append, HX.out]; simp)
          have hxl := lead_le (eq_of_beq hR)
          have HR := Lib.hid hR
          clear hR
          generalize ts[k] = x at *
          have Hgl := Lib.hid (app_mk (40 :: X) x)
          go_wp2_with (go_at_call 47; refine (refRight_any x _ (by omega)).mono ?_; rw [HR.out]; rintro e w' ⟨rfl, rfl⟩)
          go_round
          case rel => exact ⟨k + 1, X ++ x, by omega, by go_num, by rw [Hgl.out]; rfl, Hflat.out.symm, Hnext.out⟩
          case measure => simp [intOf]; omega
      · have hall : ts.all rightB = true := by
          have := Hall.out
          rwa [List.take_of_length_le (by omega)] at this
        have hF : ts.flatten = X := by rw [HX.out, List.take_of_length_le (by omega)]
        cases hG : givenB g
        · have Hfin := Lib.hid (show sigT g ts = ([], 10) by unfold sigT; rw [if_neg h6, if_neg (by rw [hall]; simp), if_pos hG])
          rw [given_or, Bool.or_eq_false_iff] at hG
          obtain ⟨hG1, hG2⟩ := hG
          have hG1' : (g != [86]) = true := by rw [bne, hG1]; rfl
          have HG := Lib.hid hG2
          clear hG2 hall hF
          go_wp2_with (go_at_call 47; refine (refRight_any g _ (by omega)).mono ?_; rw [HG.out]; rintro e w' ⟨rfl, rfl⟩)
          go_ret2
          exact ⟨ret2I Hfin.out rfl, rfl⟩
        · have Hfin := Lib.hid (show sigT g ts = (40 :: (X ++ 41 :: g), 0) by unfold sigT; rw [if_neg h6, if_neg (by rw [hall]; simp), if_neg (by rw [hG]; simp), hF])
          rw [given_or] at hG
          clear hall hF
          cases hV : g == [86]
          · have hG2 : rightB g = true := by rw [hV] at hG; simpa using hG
            have hV' : (g != [86]) = true := by rw [bne, hV]; rfl
            have HG := Lib.hid hG2
            clear hG2 hG
            go_wp2_with (go_at_call 47; refine (refRight_any g _ (by omega)).mono ?_; rw [HG.out]; rintro e w' ⟨rfl, rfl⟩)
            go_ret2
            exact ⟨ret2I Hfin.out (glue2 X g), rfl⟩
          · have hV' : (g != [86]) = false := by rw [bne, hV]; rfl
            clear hG
            go_wp2_with fail
            go_ret2
            exact ⟨ret2I Hfin.out (glue2 X g), rfl⟩

end DescG
end Go.Proofs.YthkkcecfenohjaaGreatDoor
