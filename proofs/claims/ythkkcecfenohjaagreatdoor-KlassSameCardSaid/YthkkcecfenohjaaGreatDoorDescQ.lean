/-
  The document's own taking apart of what a method gives and takes; and two lists of texts held against each other: what each call returns.
-/
import Derived.Test.YthkkcecfenohjaaGreatDoorDescP
import Derived.Outline
import Derived.Deep.QuietTactic
import Derived.BigQuiet
namespace Go.Proofs.YthkkcecfenohjaaGreatDoor
namespace DescQ
open Go.RowKit BinM DescM DescW DescX DescR DescG DescP Base
open BinName (ret_bool)

/-- the loop's way, of the document -/
def Rel7 (w : World) (sig : List UInt8) (r t : Value) (wr : World) : Prop :=
  ∃ (ts : List (List UInt8)) (l : List UInt8), ts.length ≤ 7 ∧ l.length ≤ sig.length ∧ r = .string ⟨l.toArray⟩ ∧ Taken sig ts l ∧ OwnS wr w.heap.size t ts ∧ Below w.heap.size w wr

theorem way_parse {sig : List UInt8} {ts : List (List UInt8)} {l : List UInt8} (h : Taken sig ts l) : (ts.length ≤ 6 → parse 6 (sig.drop 1) = (parse (6 - ts.length) l).map fun r => (ts ++ r.1, r.2)) ∧ (6 < ts.length → parse 6 (sig.drop 1) = none) := h.2.2

theorem cons_mk (F g : List UInt8) : (40 :: (F ++ 41 :: g) : List UInt8) = 40 :: (F ++ (41 :: g)) := rfl

theorem all_len {ts : List (List UInt8)} (h : ts.all rightB = true) : ∀ t ∈ ts, t.length ≤ 140737488355327 := by
  intro t ht
  have := List.all_eq_true.1 h t ht
  have := lead_le (eq_of_beq this)
  omega

set_option maxRecDepth 100000 in
set_option maxHeartbeats 4000000 in
theorem refSplit_any (sig : List UInt8) (w : World) (hl : sig.length ≤ 140737488355327) :
    Calls Tryz.prog 97 #[.string ⟨sig.toArray⟩] w (GivesS w (splitT sig)) := by
  by_cases h0 : 0 < sig.length
  · have hx0 := fun h' => at_mk 0 h0 h'
    have hh := head_at h0 40
    rw [show ((40 : UInt8).toNat : Int) = 40 from rfl] at hh
    cases h40 : ((sig[0].toNat : Int) == 40)
    · have hb : ((sig[0].toNat : Int) != 40) = true := by rw [bne, h40]; rfl
      have Hfin := Lib.hid (split_no (l := sig) (by have : (sig.head? == some 40) = false := by rw [hh, h40]
                                                    simpa using this))
      clear hh
      go_enter Tryz.func97, Tryz.ntmps97
      go_wp2_with fail
      go_ret3
      exact retS3 Hfin.out rfl (OwnS.nil _ _) (Below.refl _ _)
    · have hb : ((sig[0].toNat : Int) != 40) = false := by rw [bne, h40]; rfl
      have h40' : sig.head? = some 40 := by rw [h40] at hh; exact eq_of_beq hh
      have Hstart := Lib.hid (Taken.start h40')
      have H40' := Lib.hid h40'
      have hdl : (sig.drop 1).length ≤ sig.length := by simp
      have hxd : (ByteArray.mk sig.toArray).extract 1 sig.length = ⟨(sig.drop 1).toArray⟩ := by rw [ext, List.take_of_length_le (by simp)]
      clear h40' hh
      generalize hR : sig.drop 1 = R at *
      have HR := Lib.hid hR
      clear hR
      go_enter Tryz.func97, Tryz.ntmps97
      go_wp2_with fail
      go_loopw [5, 6, 7] (fun t r _ wr => Rel7 w sig r t wr) (fun _ r _ _ => sizeV r)
      case atStart => exact ⟨[], R, by simp, hdl, rfl, Hstart.out, OwnS.nil _ _, Below.refl _ _⟩
      case round =>
        obtain ⟨ts, l, h7, hls, rfl, hway, hown, hbel⟩ := hrel
        obtain ⟨A, c, rfl, hc1, hc2, hrd, _⟩ := hown.slice
        have Hown := Lib.hid hown
        have Hbel := Lib.hid hbel
        have hsz := hbel.size
        have Hway := Lib.hid hway
        have Hrd := Lib.hid hrd
        unfold maxLen at hc2
        clear hown hbel hway hrd hx0 hb hxd
        by_cases hl0 : 0 < l.length
        · have hx0 := fun h' => at_mk 0 hl0 h'
          have hh := head_at hl0 41
          rw [show ((41 : UInt8).toNat : Int) = 41 from rfl] at hh
          cases h41 : ((l[0].toNat : Int) == 41)
          · have hb41 : ((l[0].toNat : Int) != 41) = true := by rw [bne, h41]; rfl
            have hn41 : ¬ l.head? = some 41 := by
              have : (l.head? == some 41) = false := by rw [hh, h41]
              simpa using this
            by_cases h6 : ts.length ≤ 6
            · cases hL : leadT l with
              | none =>
                have hp := Hway.out.2.2.1 h6
                rw [parse_none _ hn41 hL] at hp
                have Hfin := Lib.hid (split_bad H40'.out (by rw [HR.out] at hp; rw [HR.out, hp]; rfl))
                have HL := Lib.hid (show ((leadT l).getD 0 : Nat) = 0 by rw [hL]; rfl)
                clear hL hn41 hp hh
                go_wp2_with (go_at_call 135; refine (end_any l _ (by omega)).mono ?_; rw [HL.out]; rintro e w' ⟨rfl, rfl⟩)
                go_ret3
                exact retS3 Hfin.out rfl (OwnS.nil _ _) Hbel.out
              | some k =>
                have hk := lead_le hL
                have Hnext := Lib.hid (Hway.out.step hn41 hL h6)
                have HL := Lib.hid (end_len hL)
                have hk0 : ((k : Int) == 0) = false := by rw [beq_eq_false_iff_ne]; omega
                have hx1 : (ByteArray.mk l.toArray).extract 0 k = ⟨(l.take k).toArray⟩ := by rw [ext]; simp
                have hx2 : (ByteArray.mk l.toArray).extract k l.length = ⟨(l.drop k).toArray⟩ := by rw [ext, List.take_of_length_le (by simp)]
                clear hL hn41 hh
                go_wp2_with (first
                  | (go_at_call 135; refine (end_any l _ (by omega)).mono ?_; rw [HL.out]; rintro e w' ⟨rfl, rfl⟩)
                  | (at_builtin
                     refine appS rfl (.tmp 37) (.tmp 41) rfl w.heap.size _ ts rfl (Hown.out.alloc _) (some ⟨wr.heap.size, 0, none⟩) 1 1 [l.take k] rfl rfl (rds_new _ #[str (l.take k)] 9) (by simp; omega) (by simp; omega) ?_
                     intro v2 w2 hown2 hg2
                     have Hb2 := Lib.hid (below_own (Hbel.out.alloc hsz _) (Hown.out.alloc _) (Nat.le_refl _) (by simp; omega) hg2)
                     have Hown2 := Lib.hid hown2
                     clear hown2 hg2))
                go_roundw
                case rel => exact ⟨ts ++ [l.take k], l.drop k, by simp; omega, by simp; omega, rfl, Hnext.out, Hown2.out, Hb2.out⟩
                case measure => simp [sizeV, size_mk]; omega
            · have hp := Hway.out.2.2.2 (by omega)
              have Hfin := Lib.hid (split_bad H40'.out hp)
              have h6d : decide ((ts.length : Int) ≤ 6) = false := by simp; omega
              clear hn41 hp hh h6
              go_wp2_with fail
              go_ret3
              exact retS3 Hfin.out rfl (OwnS.nil _ _) Hbel.out
          · have hb41 : ((l[0].toNat : Int) != 41) = false := by rw [bne, h41]; rfl
            have h41' : l.head? = some 41 := by rw [h41] at hh; exact eq_of_beq hh
            have hall := Hway.out.2.1
            have hsig := Hway.out.1
            have hxg : (ByteArray.mk l.toArray).extract 1 l.length = ⟨(l.drop 1).toArray⟩ := by rw [ext, List.take_of_length_le (by simp)]
            have hl41 : l = 41 :: l.drop 1 := by
              cases l with
              | nil => simp at hl0
              | cons a t => simp at h41'; subst h41'; rfl
            have hgl : (l.drop 1).length ≤ sig.length := by simp; omega
            have Hall := Lib.hid (all_len hall)
            by_cases h6 : ts.length ≤ 6
            · have hp := Hway.out.2.2.1 h6
              rw [parse_41 _ h41'] at hp
              simp only [Option.map_some, List.append_nil] at hp
              cases hG : givenB (l.drop 1)
              · have Hfin := Lib.hid (split_given H40'.out hp hG)
                have HS := Lib.hid (show sigT (l.drop 1) ts = ([], 10) by unfold sigT; rw [if_neg (by omega), if_neg (by rw [hall]; simp), if_pos hG])
                clear hh hp hG h41' hsig hall hl41
                generalize l.drop 1 = g at *
                go_wp2_with (go_at_call 136; refine (refSig_any g A ts _ c _ (by omega) rfl (by unfold maxLen; omega) Hrd.out Hall.out).mono ?_; rw [HS.out]; unfold twoI; rintro e w' ⟨rfl, rfl⟩)
                go_ret3
                exact retS3 Hfin.out rfl (OwnS.nil _ _) Hbel.out
              · have Hfin := Lib.hid (split_good H40'.out hp hG)
                have HS := Lib.hid (show sigT (l.drop 1) ts = (sig, 0) by unfold sigT; rw [if_neg (by omega), if_neg (by rw [hall]; simp), if_neg (by rw [hG]; simp), ← hl41, ← hsig])
                clear hh hp hG h41' hsig hall hl41
                generalize l.drop 1 = g at *
                go_wp2_with (go_at_call 136; refine (refSig_any g A ts _ c _ (by omega) rfl (by unfold maxLen; omega) Hrd.out Hall.out).mono ?_; rw [HS.out]; unfold twoI; rintro e w' ⟨rfl, rfl⟩)
                go_ret3
                exact retS3 Hfin.out rfl Hown.out Hbel.out
            · have hp := Hway.out.2.2.2 (by omega)
              have Hfin := Lib.hid (split_bad H40'.out hp)
              have HS := Lib.hid (show sigT (l.drop 1) ts = ([], 2) by unfold sigT; rw [if_pos (by omega)])
              clear hh hp h41' hsig hall hl41
              generalize l.drop 1 = g at *
              go_wp2_with (go_at_call 136; refine (refSig_any g A ts _ c _ (by omega) rfl (by unfold maxLen; omega) Hrd.out Hall.out).mono ?_; rw [HS.out]; unfold twoI; rintro e w' ⟨rfl, rfl⟩)
              go_ret3
              exact retS3 Hfin.out rfl (OwnS.nil _ _) Hbel.out
        · have hnil : l = [] := List.eq_nil_of_length_eq_zero (by omega)
          subst hnil
          have Hfin := Lib.hid (show splitT sig = ([], [], 5) by
            refine split_bad H40'.out ?_
            by_cases h6 : ts.length ≤ 6
            · have hp := Hway.out.2.2.1 h6
              rw [hp, parse_none (6 - ts.length) (l := []) (by simp) rfl]; rfl
            · exact Hway.out.2.2.2 (by omega))
          go_wp2_with fail
          go_ret3
          exact retS3 Hfin.out rfl (OwnS.nil _ _) Hbel.out
  · have hnil : sig = [] := List.eq_nil_of_length_eq_zero (by omega)
    subst hnil
    have Hfin := Lib.hid (split_no (l := []) (by simp))
    go_enter Tryz.func97, Tryz.ntmps97
    go_wp2_with fail
    go_ret3
    exact retS3 Hfin.out rfl (OwnS.nil _ _) (Below.refl _ _)

theorem drawn {B : Nat} {a w : World} (h : Below B a w) (n : Nat) : Below B a (w.drewN n) := ⟨h.os, h.tape, h.output, h.size, h.block⟩


end DescQ
end Go.Proofs.YthkkcecfenohjaaGreatDoor
