/-
  The document's own taking apart of what a method gives and takes; and two lists of texts held against each other: what each call returns.
-/
import Derived.Test.YtnkkeifjggcncaaDoorDescP
import Derived.Outline
import Derived.Deep.QuietTactic
import Derived.BigQuiet
namespace Go.Proofs.YtnkkeifjggcncaaDoor
namespace DescQ
open Go.RowKit BinM DescM DescW DescX DescR DescG DescP Base
open BinName (ret_bool)

/-- the loop's way, of the document -/
def Rel7 (w : World) (sig : List UInt8) (r t : Value) (wr : World) : Prop :=
  ∃ (ts : List (List UInt8)) (l : List UInt8), ts.length ≤ 7 ∧ l.length ≤ sig.length ∧ r = .string ⟨l.toArray⟩ ∧ Taken sig ts l ∧ OwnS wr w.heap.size t ts ∧ Below w.heap.size w wr

theorem way_parse {sig : List UInt8} {ts : List (List UInt8)} {l : List UInt8} (h : Taken sig ts l) : (ts.length ≤ 6 → parse 6 (sig.drop 1) = (parse (6 - ts.length) l).map fun r => (ts ++ r.1, r.2)) ∧ (6 < ts.length → parse 6 (sig.drop 1) = none) := h.2.2

theorem cons_mk (F g : List UInt8) : (40 :: (F ++ 41 :: g) : List UInt8) = 40 :: (F ++ (41 :: g)) := rfl

theorem all_len {ts : List (List UInt8)} (h : ts.all rightB = true) : ∀ t ∈ ts, t.length ≤ 140737488355327 := by
  intro t ht
  have := List.all_eq_true.1 h t ht
  have := lead_le (eq_of_beq this)
  omega

set_option maxRecDepth 100000 in
set_option maxHeartbeats 4000000 in
theorem refSplit_any (sig : List UInt8) (w : World) (hl : sig.length ≤ 140737488355327) :
    Calls Tryd.prog 32 #[.string ⟨sig.toArray⟩] w (GivesS w (splitT sig)) := by
  by_cases h0 : 0 < sig.length
  · have hx0 := fun h' => at_mk 0 h0 h'
    have hh := head_at h0 40
    rw [show ((40 : UInt8).toNat : Int) = 40 from rfl] at hh
    cases h40 : ((sig[0].toNat : Int) == 40)
    · have hb : ((sig[0].toNat : Int) != 40) = true := by rw [bne, h40]; rfl
      have Hfin := Lib.hid (split_no (l := sig) (by have : (sig.head? == some 40) = false := by rw [hh, h40]
                                                    simpa using this))
      clear hh
      go_enter Tryd.func32, Tryd.ntmps32
      go_wp2_with fail
      go_ret3
      exact retS3 Hfin.out rfl (OwnS.nil _ _) (Below.refl _ _)
    · have hb : ((sig[0].toNat : Int) != 40) = false := by rw [bne, h40]; rfl
      have h40' : sig.head? = some 40 := by rw [h40] at hh; exact eq_of_beq hh
      have Hstart := Lib.hid (Taken.start h40')
      have H40' := Lib.hid h40'
      have hdl : (sig.drop 1).length ≤ sig.length := by simp
      have hxd : (ByteArray.mk sig.toArray).extract 1 sig.length = ⟨(sig.drop 1).toArray⟩ := by rw [ext, List.take_of_length_le (by simp)]
      clear h40' hh
      generalize hR : sig.drop 1 = R at *
      have HR := Lib.hid hR
      clear hR
      go_enter Tryd.func32, Tryd.ntmps32
      go_wp2_with fail
      go_loopw [5, 6, 7] (fun t r _ wr => Rel7 w sig r t wr) (fun _ r _ _ => sizeV r)
      case atStart => exact ⟨[], R, by simp, hdl, rfl, Hstart.out, OwnS.nil _ _, Below.refl _ _⟩
      case round =>
        obtain ⟨ts, l, h7, hls, rfl, hway, hown, hbel⟩ := hrel
        obtain ⟨A, c, rfl, hc1, hc2, hrd, _⟩ := hown.slice
        have Hown := Lib.hid hown
        have Hbel := Lib.hid hbel
        have hsz := hbel.size
        have Hway := Lib.hid hway
        have Hrd := Lib.hid hrd
        unfold maxLen at hc2
        clear hown hbel hway hrd hx0 hb hxd
        by_cases hl0 : 0 < l.length
        · have hx0 := fun h' => at_mk 0 hl0 h'
          have hh := head_at hl0 41
          rw [show ((41 : UInt8).toNat : Int) = 41 from rfl] at hh
          cases h41 : ((l[0].toNat : Int) == 41)
          · have hb41 : ((l[0].toNat : Int) != 41) = true := by rw [bne, h41]; rfl
            have hn41 : ¬ l.head? = some 41 := by
              have : (l.head? == some 41) = false := by rw [hh, h41]
              simpa using this
            by_cases h6 : ts.length ≤ 6
            · cases hL : leadT l with
              | none =>
                have hp := Hway.out.2.2.1 h6
                rw [parse_none _ hn41 hL] at hp
                have Hfin := Lib.hid (split_bad H40'.out (by rw [HR.out] at hp; rw [HR.out, hp]; rfl))
                have HL := Lib.hid (show ((leadT l).getD 0 : Nat) = 0 by rw [hL]; rfl)
                clear hL hn41 hp hh
                go_wp2_with (go_at_call 53; refine (end_any l _ (by omega)).mono ?_; rw [HL.out]; rintro e w' ⟨rfl, rfl⟩)
                go_ret3
                exact retS3 Hfin.out rfl (OwnS.nil _ _) Hbel.out
              | some k =>
                have hk := lead_le hL
                have Hnext := Lib.hid (Hway.out.step hn41 hL h6)
                have HL := Lib.hid (end_len hL)
                have hk0 : ((k : Int) == 0) = false := by rw [beq_eq_false_iff_ne]; omega
                have hx1 : (ByteArray.mk l.toArray).extract 0 k = ⟨(l.take k).toArray⟩ := by rw [ext]; simp
                have hx2 : (ByteArray.mk l.toArray).extract k l.length = ⟨(l.drop k).toArray⟩ := by rw [ext, List.take_of_length_le (by simp)]
                clear hL hn41 hh
                go_wp2_with (first
                  | (go_at_call 53; refine (end_any l _ (by omega)).mono ?_; rw [HL.out]; rintro e w' ⟨rfl, rfl⟩)
                  | (at_builtin
                     refine appS rfl (.tmp 37) (.tmp 41) rfl w.heap.size _ ts rfl (Hown.out.alloc _) (some ⟨wr.heap.size, 0, none⟩) 1 1 [l.take k] rfl rfl (rds_new _ #[str (l.take k)] 9) (by simp; omega) (by simp; omega) ?_
                     intro v2 w2 hown2 hg2
                     have Hb2 := Lib.hid (below_own (Hbel.out.alloc hsz _) (Hown.out.alloc _) (Nat.le_refl _) (by simp; omega) hg2)
                     have Hown2 := Lib.hid hown2
                     clear hown2 hg2))
                go_roundw
                case rel => exact ⟨ts ++ [l.take k], l.drop k, by simp; omega, by simp; omega, rfl, Hnext.out, Hown2.out, Hb2.out⟩
                case measure => simp [sizeV, size_mk]; omega
            · have hp := Hway.out.2.2.2 (by omega)
              have Hfin := Lib.hid (split_bad H40'.out hp)
              have h6d : decide ((ts.length : Int) ≤ 6) = false := by simp; omega
              clear hn41 hp hh h6
              go_wp2_with fail
              go_ret3
              exact retS3 Hfin.out rfl (OwnS.nil _ _) Hbel.out
          · have hb41 : ((l[0].toNat : Int) != 41) = false := by rw [bne, h41]; rfl
            have h41' : l.head? = some 41 := by rw [h41] at hh; exact eq_of_beq hh
            have hall := Hway.out.2.1
            have hsig := Hway.out.1
            have hxg : (ByteArray.mk l.toArray).extract 1 l.length = ⟨(l.drop 1).toArray⟩ := by rw [ext, List.take_of_length_le (by simp)]
            have hl41 : l = 41 :: l.drop 1 := by
              cases l with
              | nil => simp at hl0
              | cons a t => simp at h41'; subst h41'; rfl
            have hgl : (l.drop 1).length ≤ sig.length := by simp; omega
            have Hall := Lib.hid (all_len hall)
            by_cases h6 : ts.length ≤ 6
            · have hp := Hway.out.2.2.1 h6
              rw [parse_41 _ h41'] at hp
              simp only [Option.map_some, List.append_nil] at hp
              cases hG : givenB (l.drop 1)
              · have Hfin := Lib.hid (split_given H40'.out hp hG)
                have HS := Lib.hid (show sigT (l.drop 1) ts = ([], 10) by unfold sigT; rw [if_neg (by omega), if_neg (by rw [hall]; simp), if_pos hG])
                clear hh hp hG h41' hsig hall hl41
                generalize l.drop 1 = g at *
                go_wp2_with (go_at_call 54; refine (refSig_any g A ts _ c _ (by omega) rfl (by unfold maxLen; omega) Hrd.out Hall.out).mono ?_; rw [HS.out]; unfold twoI; rintro e w' ⟨rfl, rfl⟩)
                go_ret3
                exact retS3 Hfin.out rfl (OwnS.nil _ _) Hbel.out
              · have Hfin := Lib.hid (split_good H40'.out hp hG)
                have HS := Lib.hid (show sigT (l.drop 1) ts = (sig, 0) by unfold sigT; rw [if_neg (by omega), if_neg (by rw [hall]; simp), if_neg (by rw [hG]; simp), ← hl41, ← hsig])
                clear hh hp hG h41' hsig hall hl41
                generalize l.drop 1 = g at *
                go_wp2_with (go_at_call 54; refine (refSig_any g A ts _ c _ (by omega) rfl (by unfold maxLen; omega) Hrd.out Hall.out).mono ?_; rw [HS.out]; unfold twoI; rintro e w' ⟨rfl, rfl⟩)
                go_ret3
                exact retS3 Hfin.out rfl Hown.out Hbel.out
            · have hp := Hway.out.2.2.2 (by omega)
              have Hfin := Lib.hid (split_bad H40'.out hp)
              have HS := Lib.hid (show sigT (l.drop 1) ts = ([], 2) by unfold sigT; rw [if_pos (by omega)])
              clear hh hp h41' hsig hall hl41
              generalize l.drop 1 = g at *
              go_wp2_with (go_at_call 54; refine (refSig_any g A ts _ c _ (by omega) rfl (by unfold maxLen; omega) Hrd.out Hall.out).mono ?_; rw [HS.out]; unfold twoI; rintro e w' ⟨rfl, rfl⟩)
              go_ret3
              exact retS3 Hfin.out rfl (OwnS.nil _ _) Hbel.out
        · have hnil : l = [] := List.eq_nil_of_length_eq_zero (by omega)
          subst hnil
          have Hfin := Lib.hid (show splitT sig = ([], [], 5) by
            refine split_bad H40'.out ?_
            by_cases h6 : ts.length ≤ 6
            · have hp := Hway.out.2.2.1 h6
              rw [hp, parse_none (6 - ts.length) (l := []) (by simp) rfl]; rfl
            · exact Hway.out.2.2.2 (by omega))
          go_wp2_with fail
          go_ret3
          exact retS3 Hfin.out rfl (OwnS.nil _ _) Hbel.out
  · have hnil : sig = [] := List.eq_nil_of_length_eq_zero (by omega)
    subst hnil
    have Hfin := Lib.hid (split_no (l := []) (by simp))
    go_enter Tryd.func32, Tryd.ntmps32
    go_wp2_with fail
    go_ret3
    exact retS3 Hfin.out rfl (OwnS.nil _ _) (Below.refl _ _)

theorem drawn {B : Nat} {a w : World} (h : Below B a w) (n : Nat) : Below B a (w.drewN n) := ⟨h.os, h.tape, h.output, h.size, h.block⟩

set_option maxHeartbeats 1000000 in
/-- two lists of texts, held against each other -/
theorem texts_any (A B : Option Addr) (a b : List (List UInt8)) (m k c d : Nat) (w : World) (hm : m = a.length) (hk : k = b.length) (hmx : m ≤ maxLen) (hr : Rds w A (a.map str)) (hr2 : Rds w B (b.map str)) :
    Calls Tryd.prog 10 #[.slice A m c, .slice B k d] w fun e w' => e = .returned (.bool (decide (a = b))) ∧ Below w.heap.size w w' := by
  have hml : a.length ≤ m := Nat.le_of_eq hm.symm
  have hml2 : m ≤ a.length := Nat.le_of_eq hm
  have hkl : b.length ≤ k := Nat.le_of_eq hk.symm
  have hkl2 : k ≤ b.length := Nat.le_of_eq hk
  have Hr := Lib.hid hr
  have Hr2 := Lib.hid hr2
  unfold maxLen at hmx
  clear hm hk hr hr2
  by_cases hmk : m = k
  · have hb : ((m : Int) != (k : Int)) = false := by rw [hmk]; simp
    have hkm : k ≤ m := by omega
    have hmk' : m ≤ k := by omega
    clear hmk
    go_enter Tryd.func10, Tryd.ntmps10
    go_wp2_with fail
    go_loopw [5] (fun i wr => ∃ j : Nat, j ≤ m ∧ i = .int .i64 j ∧ a.take j = b.take j ∧ Below w.heap.size w wr) (fun i _ => m - (intOf i).toNat)
    case atStart => exact ⟨0, Nat.zero_le _, rfl, rfl, Below.refl _ _⟩
    case round =>
      obtain ⟨j, hj, rfl, hsame, hbel⟩ := hrel
      have Hsame := Lib.hid hsame
      have Hbel := Lib.hid hbel
      clear hsame
      by_cases hlt : j < m
      · obtain ⟨b1, o1, rfl, hb1, hcell1⟩ := (Hr.out.below hbel).at_ (k := j) (by simp; omega)
        obtain ⟨b2, o2, rfl, hb2, hcell2⟩ := (Hr2.out.below hbel).at_ (k := j) (by simp; omega)
        have hja : j < a.length := by omega
        have hjb : j < b.length := by omega
        have hc1 : wr.cell? ⟨b1, o1 + j, none⟩ = some (.string ⟨a[j].toArray⟩) := by rw [hcell1]; simp [str]
        have hc2 : wr.cell? ⟨b2, o2 + j, none⟩ = some (.string ⟨b[j].toArray⟩) := by rw [hcell2]; simp [str]
        have e1 : a.take (j + 1) = a.take j ++ [a[j]] := List.take_succ_eq_append_getElem hja
        have e2 : b.take (j + 1) = b.take j ++ [b[j]] := List.take_succ_eq_append_getElem hjb
        have hj1 : (j : Int) < (m : Int) := by omega
        have hj2 : (j : Int) < (k : Int) := by omega
        have hj0 : (0 : Int) ≤ (j : Int) := by omega
        clear hcell1 hcell2 hbel
        cases hx : a[j] == b[j]
        · have Hfin := Lib.hid (show decide (a = b) = false by
            rw [decide_eq_false_iff_not]
            intro h
            have : a[j] = b[j] := by subst h; rfl
            rw [this] at hx
            simp at hx)
          have hx' : (a[j] != b[j]) = true := by rw [bne, hx]; rfl
          clear e1 e2
          generalize a[j] = x at *
          generalize b[j] = y at *
          go_wp2_with fail
          go_quiet (fail)
          go_wp2_with fail
          go_ret
          exact ⟨by rw [Hfin.out]; rfl, drawn Hbel.out _⟩
        · have Hnext := Lib.hid (show a.take (j + 1) = b.take (j + 1) by rw [e1, e2, Hsame.out, eq_of_beq hx])
          have hx' : (a[j] != b[j]) = false := by rw [bne, hx]; rfl
          clear e1 e2
          generalize a[j] = x at *
          generalize b[j] = y at *
          go_wp2_with fail
          go_quiet (fail)
          go_wp2_with fail
          go_roundw
          case rel => exact ⟨j + 1, by omega, by go_num, Hnext.out, drawn Hbel.out _⟩
          case measure => simp [intOf]; omega
      · have Hfin := Lib.hid (show decide (a = b) = true by
          rw [decide_eq_true_iff]
          have h := Hsame.out
          rwa [List.take_of_length_le (by omega), List.take_of_length_le (by omega)] at h)
        go_wp2_with fail
        go_ret
        exact ⟨by rw [Hfin.out]; rfl, Hbel.out⟩
  · have hb : ((m : Int) != (k : Int)) = true := by rw [bne_iff_ne]; omega
    have Hfin := Lib.hid (show decide (a = b) = false by
      rw [decide_eq_false_iff_not]
      intro h
      apply hmk
      subst h; omega)
    clear hmk
    go_enter Tryd.func10, Tryd.ntmps10
    go_wp2_with fail
    go_ret
    exact ⟨by rw [Hfin.out]; rfl, Below.refl _ _⟩

end DescQ
end Go.Proofs.YtnkkeifjggcncaaDoor
