/-
  The bytes of a method: klass.bytesOfMethod.
-/
import Derived.Test.YthkkcecfenohjaaGreatDoorKlsN
import Derived.Test.YthkkcecfenohjaaGreatDoorInsQ
import Derived.Test.YthkkcecfenohjaaGreatDoorInsR
namespace Go.Proofs.YthkkcecfenohjaaGreatDoor
namespace KlsC
open Go.RowKit Base BinM DescM Stru PoolM InsM InsA InsC InsP BinE BinPut BinText Bin8 BinAll Kls KlsK
open Part (Row)

/-- the bytes of a handler, of a field, of code, of a method -/
def hndB (h : HndT) : List UInt8 := nums [h.frm, h.til, h.pos] ++ txt h.cls
def fldB (f : FldT) : List UInt8 := txt f.name ++ txt f.desc
def codeB (l : List InsT) : List UInt8 := (putI [] l).1
def mthH (m : MthT) : List UInt8 := txt m.name ++ txt m.sig ++ num m.locals ++ codeB m.code ++ num (m.hm : Int)
def mthB (m : MthT) : List UInt8 := mthH m ++ m.hand.flatMap hndB
/-- what of a method must be bounded so that its bytes are -/
structure Tame (m : MthT) : Prop where
  name : m.name.length ≤ 300
  sig : m.sig.length ≤ 1000
  code : (putI [] m.code).2 = 0
  hand : m.hand.length ≤ 64
  cls : ∀ h ∈ m.hand, h.cls.length ≤ 300
theorem putI_ok {b : List UInt8} {l : List InsT} (h : (putI [] l).2 = 0) : putI b l = (b ++ codeB l, 0) ∧ (codeB l).length ≤ 10250 ∨ ∃ x ∈ l, ¬ (fitI x.1 ∧ fitI x.2) := by
  by_cases hf : ∀ x ∈ l, fitI x.1 ∧ fitI x.2
  · left
    unfold codeB
    unfold putI at h ⊢
    split at h
    · cases h
    · rename_i h1
      split at h
      · rename_i h2
        rw [if_neg h1, if_pos h2, if_neg h1, if_pos h2]
        refine ⟨by simp, ?_⟩
        have h3 := codeN_len l.length l
        have h4 := nums_len (codeN l.length l) (by
          intro x hx
          unfold codeN at hx
          rcases List.mem_cons.1 hx with hx | hx
          · omega
          · obtain ⟨y, hy, hyx⟩ := List.mem_flatMap.1 hx
            have := hf y hy
            unfold fitI at this
            unfold insN at hyx
            split at hyx
            · simp at hyx; omega
            · simp at hyx; rcases hyx with hyx | hyx <;> omega)
        simp only [List.nil_append]
        omega
      · cases h
  · right
    exact Classical.byContradiction fun hc => hf fun x hx => Classical.byContradiction fun hn => hc ⟨x, hx, hn⟩
theorem txt_le {s : List UInt8} (h : s.length ≤ 2000) : (txt s).length ≤ s.length + 10 := by
  have := (num_can (n := (s.length : Int)) (by omega) (by omega)).2.2
  unfold txt
  rw [List.length_append]
  omega
theorem hndB_len {h : HndT} (hf : fitI h.frm ∧ fitI h.til ∧ fitI h.pos) (hc : h.cls.length ≤ 300) : (hndB h).length ≤ 400 := by
  have h1 := nums_len [h.frm, h.til, h.pos] (by intro x hx; unfold fitI at hf; simp at hx; rcases hx with rfl | rfl | rfl <;> omega)
  have h2 := txt_le (s := h.cls) (by omega)
  unfold hndB
  rw [List.length_append]
  simp only [List.length_cons, List.length_nil] at h1
  omega
theorem hnds_len {l : List HndT} (hf : ∀ x ∈ l, fitI x.frm ∧ fitI x.til ∧ fitI x.pos) (hc : ∀ h ∈ l, h.cls.length ≤ 300) : (l.flatMap hndB).length ≤ 400 * l.length := by
  induction l with
  | nil => simp
  | cons a t ih =>
    have h1 := hndB_len (hf a (by simp)) (hc a (by simp))
    have h2 := ih (fun x hx => hf x (by simp [hx])) (fun x hx => hc x (by simp [hx]))
    rw [List.flatMap_cons, List.length_append, List.length_cons]
    omega

/-- two blocks, one behind the other -/
theorem pair (w : World) (C C' : Array Value) (ty ty' : TypeId) : Row ((w.alloc (.cells C ty)).alloc (.cells C' ty')) w.heap.size C ty ∧ Row ((w.alloc (.cells C ty)).alloc (.cells C' ty')) (w.heap.size + 1) C' ty' ∧ Below w.heap.size w ((w.alloc (.cells C ty)).alloc (.cells C' ty')) := by
  refine ⟨heap_alloc2_old _ _ _, ?_, ((Below.refl _ _).alloc (Nat.le_refl _) _).alloc (by simp) _⟩
  have := Row.new (w.alloc (.cells C ty)) C' ty'
  rw [show (w.alloc (.cells C ty)).heap.size = w.heap.size + 1 by simp] at this
  exact this

set_option maxRecDepth 100000 in
set_option maxHeartbeats 8000000 in
theorem method_any (x : MthT) (w : World) (hL : Laid w) (hx : x.is w) (ht : Tame x) :
    Calls Tryz.prog 101 #[x.V] w (Gives8 w (mthB x)) := by
  have HL := Lib.hid hL
  have Hx := Lib.hid hx
  have Ht := Lib.hid ht
  have hcode : ∀ b, putI b x.code = (b ++ codeB x.code, 0) ∧ (codeB x.code).length ≤ 10250 := fun b => by
    rcases putI_ok (b := b) ht.code with h | ⟨y, hy, hn⟩
    · exact h
    · exact (hn (hx.code.fit y hy)).elim
  have hcl := (hcode []).2
  have HC := Lib.hid (fun b => (hcode b).1)
  have hloc := hx.fit
  have hnl := ht.name
  have hsl := ht.sig
  have hhl := ht.hand
  have hhm : x.hand.length ≤ x.hm := Nat.le_of_eq hx.hand.len.symm
  have hhm2 : x.hm ≤ x.hand.length := Nat.le_of_eq hx.hand.len
  clear hL hx ht hcode
  have HB := Lib.hid ((Below.refl w.heap.size w).alloc (Nat.le_refl _) (.cells #[.string ⟨x.name.toArray⟩, .string ⟨x.sig.toArray⟩, .int .i64 x.locals, .slice x.cA x.cm x.cc, .slice x.hA x.hm x.hc] 62))
  have E0 := Lib.hid (Box5.new w (.string ⟨x.name.toArray⟩) (.string ⟨x.sig.toArray⟩) (.int .i64 x.locals) (.slice x.cA x.cm x.cc) (.slice x.hA x.hm x.hc) 62)
  have HM := Lib.hid (show mthB x = mthH x ++ x.hand.flatMap hndB from rfl)
  have HH := Lib.hid (show mthH x = txt x.name ++ txt x.sig ++ num x.locals ++ codeB x.code ++ num (x.hm : Int) from rfl)
  have hn10 := txt_le (s := x.name) (by omega)
  have hs10 := txt_le (s := x.sig) (by omega)
  unfold fitI at hloc
  have hl10 := (num_can hloc.1 hloc.2).2.2
  have hm10 := (num_can (n := (x.hm : Int)) (by omega) (by omega)).2.2
  generalize mthB x = R at *
  generalize mthH x = Y at *
  obtain ⟨n, s, lo, cA, cm, cc, hA, hm, hc, code, hand⟩ := x
  simp only [MthT.V] at *
  obtain ⟨Y1, hY1⟩ : ∃ Y1, Y1 = txt n := ⟨_, rfl⟩
  obtain ⟨Y2, hY2⟩ : ∃ Y2, Y2 = txt n ++ txt s := ⟨_, rfl⟩
  obtain ⟨Y3, hY3⟩ : ∃ Y3, Y3 = txt n ++ txt s ++ num lo := ⟨_, rfl⟩
  obtain ⟨Y4, hY4⟩ : ∃ Y4, Y4 = txt n ++ txt s ++ num lo ++ codeB code := ⟨_, rfl⟩
  have hL1 : Y1.length ≤ 400 := by rw [hY1]; omega
  have hL2 : Y2.length ≤ 1500 := by rw [hY2]; simp only [List.length_append]; omega
  have hL3 : Y3.length ≤ 1600 := by rw [hY3]; simp only [List.length_append]; omega
  have hL4 : Y4.length ≤ 12000 := by rw [hY4]; simp only [List.length_append]; omega
  have hL5 : Y.length ≤ 12100 := by rw [HH.out]; simp only [List.length_append]; omega
  have e1 : ([] : List UInt8) ++ txt (ByteArray.mk n.toArray).data.toList = Y1 := by rw [hY1]; simp
  have e2 : Y1 ++ txt (ByteArray.mk s.toArray).data.toList = Y2 := by rw [hY1, hY2]
  have e3 : Y2 ++ num lo = Y3 := by rw [hY2, hY3]
  have e4 : Y3 ++ codeB code = Y4 := by rw [hY3, hY4]
  have e5 : Y4 ++ num (hm : Int) = Y := by rw [hY4, HH.out]
  have G1 := Lib.hid e1
  have G2 := Lib.hid e2
  have G3 := Lib.hid e3
  have G4 := Lib.hid e4
  have G5 := Lib.hid e5
  clear e1 e2 e3 e4 e5 hY1 hY2 hY3 hY4 HH hn10 hs10 hl10 hm10 hcl
  obtain ⟨hc0, hc1, hc2, hc3, hc4⟩ := E0.out
  go_enter Tryz.func101, Tryz.ntmps101
  go_wp2_with fail
  go_region_held3 (fun w' => w'.cell? ⟨w.heap.size, 0, none⟩ = some (.string ⟨n.toArray⟩) ∧ w'.cell? ⟨w.heap.size, 1, none⟩ = some (.string ⟨s.toArray⟩))
    (first | exact ⟨hc0, hc1⟩ | go_keep)
    (first
      | (have hB := B1; clear hB; go_at_call 100; refine Calls.mono (text_any A1 Y1 _ c1 ⟨s.toArray⟩ w1 rfl (by simp [ByteArray.size]; omega) R1.out) ?_; rintro e w2 ⟨v2, rfl, hown2, hb2⟩; rw [G2.out] at hown2; obtain ⟨A2, c2, rfl, hq2, hq2', hr2, _⟩ := Own8.slice hown2
         have B2 := Lib.hid (B1.out.trans (hb2.mono B1.out.size))
         have E2 := Lib.hid (E1.out.after hb2)
         have R2 := Lib.hid hr2
         clear hown2 hb2 hr2 hc0 hc1 hc2 hc3 hc4
         obtain ⟨hc0, hc1, hc2, hc3, hc4⟩ := E2.out)
      | (go_at_call 100; refine Calls.mono (text_any none [] 0 0 ⟨n.toArray⟩ _ rfl (by simp [ByteArray.size]; omega) (Rds.none_ _ _)) ?_; rintro e w1 ⟨v1, rfl, hown1, hb1⟩; rw [G1.out] at hown1; obtain ⟨A1, c1, rfl, hq1, hq1', hr1, _⟩ := Own8.slice hown1
         have B1 := Lib.hid (HB.out.drew.trans (hb1.mono HB.out.size))
         have E1 := Lib.hid (Box5.after (w := (w.alloc (.cells #[.string ⟨n.toArray⟩, .string ⟨s.toArray⟩, .int .i64 lo, .slice cA cm cc, .slice hA hm hc] 62)).drew) E0.out hb1)
         have R1 := Lib.hid hr1
         clear hown1 hb1 hr1 hc0 hc1 hc2 hc3 hc4
         obtain ⟨hc0, hc1, hc2, hc3, hc4⟩ := E1.out))
  go_wp2_with fail
  refine Calls.mono (put_any A2 Y2 _ c2 lo w2 rfl (by omega) hloc.1 hloc.2 R2.out) ?_
  rw [G3.out]
  rintro e w3 ⟨v3, rfl, hown3, hb3⟩
  obtain ⟨A3, c3, rfl, hq3, hq3', hr3, _⟩ := Own8.slice (p := Y3) hown3
  have B3 := Lib.hid (B2.out.trans (hb3.mono B2.out.size))
  have E3 := Lib.hid (E2.out.after hb3)
  have R3 := Lib.hid hr3
  clear hown3 hb3 hr3 hc0 hc1 hc2 hc3 hc4
  obtain ⟨hc0, hc1, hc2, hc3, hc4⟩ := E3.out
  go_wp2_with fail
  refine Calls.mono (InsQ.put_any A3 _ c3 Y3 cA cm cc code w3 (HL.out.below B3.out HL.out.1) rfl R3.out (by omega) (Hx.out.code.below B3.out)) ?_
  rw [HC.out, G4.out]
  rintro e w4 ⟨v4, rfl, hown4, hb4⟩
  obtain ⟨A4, c4, rfl, hq4, hq4', hr4, _⟩ := Own8.slice (p := Y4) hown4
  have B4 := Lib.hid (B3.out.trans (hb4.mono B3.out.size))
  have E4 := Lib.hid (E3.out.after hb4)
  have R4 := Lib.hid hr4
  clear hown4 hb4 hr4 hc0 hc1 hc2 hc3 hc4
  obtain ⟨hc0, hc1, hc2, hc3, hc4⟩ := E4.out
  go_wp2_with fail
  refine Calls.mono (put_any A4 Y4 _ c4 (hm : Int) w4 rfl (by omega) (by omega) (by omega) R4.out) ?_
  rw [G5.out]
  rintro e w5 ⟨v5, rfl, hown5, hb5⟩
  replace hown5 : Own8 w5 w4.heap.size v5 Y := hown5
  have O5 : Hid (Own8 w5 w.heap.size v5 Y) := Lib.hid (own_mono hown5 B4.out.size)
  have B5 := Lib.hid (B4.out.trans (hb5.mono B4.out.size))
  have E5 := Lib.hid (E4.out.after hb5)
  clear hown5 hb5 hc0 hc1 hc2 hc3 hc4
  obtain ⟨hc0, hc1, hc2, hc3, hc4⟩ := E5.out
  go_wp2_with fail
  clear hc0 hc1 hc2 hc3 hc4
  go_loopw [3, 31] (fun v i wr => ∃ j : Nat, j ≤ hm ∧ i = .int .i64 j ∧ Own8 wr w.heap.size v (Y ++ (hand.take j).flatMap hndB) ∧ Below w.heap.size w wr) (fun _ i _ => hm - (intOf i).toNat)
  case atStart => exact ⟨0, Nat.zero_le _, rfl, by rw [List.take_zero, List.flatMap_nil, List.append_nil]; exact O5.out, B5.out⟩
  case round =>
    obtain ⟨j, hj, rfl, hown, hbel⟩ := hrel
    have Hown := Lib.hid hown
    have Hbel := Lib.hid hbel
    have hsz := hbel.size
    clear hown
    by_cases hlt : j < hm
    · have hja : j < hand.length := by omega
      obtain ⟨b1, o1, rfl, hb1, hc0, hc1, hc2, hc3⟩ := hnd_at (Hx.out.hand.below hbel).rds hja
      have hj1 : (j : Int) < (hm : Int) := by omega
      have hj0 : (0 : Int) ≤ (j : Int) := by omega
      have Hct := Lib.hid (show Y ++ (hand.take (j + 1)).flatMap hndB = ((Y ++ (hand.take j).flatMap hndB) ++ nums [hand[j].frm, hand[j].til, hand[j].pos]) ++ txt hand[j].cls by
        rw [List.take_succ_eq_append_getElem hja, List.flatMap_append]; simp [hndB])
      have hpl : (Y ++ (hand.take j).flatMap hndB).length ≤ 40000 := by
        have h1 := hnds_len (l := hand.take j) (fun x hx => Hx.out.hand.fit x (List.mem_of_mem_take hx)) (fun x hx => Ht.out.cls x (List.mem_of_mem_take hx))
        have h2 : (hand.take j).length ≤ 64 := by simp; omega
        simp only [List.length_append]
        omega
      have hfx := Hx.out.hand.fit _ (List.getElem_mem hja)
      have hcx := Ht.out.cls _ (List.getElem_mem hja)
      clear hbel
      generalize Y ++ (hand.take j).flatMap hndB = p at *
      generalize hand[j] = x at *
      obtain ⟨f, t, a, k⟩ := x
      simp only at hc0 hc1 hc2 hc3 hfx hcx
      have hnn : (nums [f, t, a]).length ≤ 30 := by
        have := nums_len [f, t, a] (by intro x hx; unfold fitI at hfx; simp at hx; rcases hx with rfl | rfl | rfl <;> omega)
        simpa using this
      have Hfx := Lib.hid hfx
      have HA := Lib.hid (((Below.refl wr.heap.size wr).alloc (Nat.le_refl _) (.cells #[.int .i64 f, .int .i64 t, .int .i64 a, .string ⟨k.toArray⟩] 79)).alloc (by simp) (.cells #[.int .i64 f, .int .i64 t, .int .i64 a] 2))
      have RA := Lib.hid (rds_new2 wr (.cells #[.int .i64 f, .int .i64 t, .int .i64 a, .string ⟨k.toArray⟩] 79) #[.int .i64 f, .int .i64 t, .int .i64 a] 2)
      have QA := Lib.hid (pair wr #[.int .i64 f, .int .i64 t, .int .i64 a, .string ⟨k.toArray⟩] #[.int .i64 f, .int .i64 t, .int .i64 a] 79 2)
      clear hfx
      generalize hNN : nums [f, t, a] = N at *
      have HN := Lib.hid hNN
      clear hNN
      go_wp2_with (first
        | (go_at_call 127; refine Calls.mono (all_any _ [f, t, a] 3 3 _ ⟨rfl, Nat.le_refl _, by decide, RA.out, (by intro x hx; have h := Hfx.out; unfold fitI at h; simp at hx; rcases hx with rfl | rfl | rfl <;> omega)⟩ (by omega)) ?_; rw [HN.out]; rintro e w6 ⟨v6, rfl, hown6, hb6⟩; obtain ⟨A6, c6, rfl, hq6, hq6', hr6, _⟩ := Own8.slice (p := N) hown6; have K6 := Lib.hid (HA.out.trans (hb6.mono HA.out.size)); have Q6 := Lib.hid (QA.out.1.after hb6); have R6 := Lib.hid hr6; have hsz6 := K6.out.size; clear hown6 hb6 hr6)
        | (at_builtin
           refine app8 rfl (.tmp 35) (.tmp 43) rfl w.heap.size _ p rfl (own_kept Hown.out K6.out) A6 _ c6 N rfl rfl R6.out (by omega) (by omega) ?_
           intro v7 w7 hown7 hg7
           have B7 := Lib.hid (own_below (own_kept Hown.out K6.out) (Hbel.out.trans (K6.out.mono hsz)) (Nat.le_refl _) (by omega) hg7)
           have q3 : w7.cell? ⟨wr.heap.size, 3, none⟩ = some (.string ⟨k.toArray⟩) := hg7.cell (Q6.out.cell 3) (fun e => Nat.lt_irrefl _ (Hown.out.lt wr.heap.size e.symm).2)
           obtain ⟨A7, c7, rfl, hq7, hq7', hr7, _⟩ := Own8.slice (p := p ++ N) hown7
           have R7 := Lib.hid hr7
           clear hown7 hr7 hg7)
        | (go_at_call 100; refine Calls.mono (text_any A7 (p ++ N) (p.length + N.length) c7 ⟨k.toArray⟩ w7 (by simp) (by simp [ByteArray.size]; omega) R7.out) ?_; rintro e w8 ⟨v8, rfl, hown8, hb8⟩; replace hown8 : Own8 w8 w7.heap.size v8 ((p ++ N) ++ txt k) := hown8; have O8 : Hid (Own8 w8 w.heap.size v8 ((p ++ N) ++ txt k)) := Lib.hid (own_mono hown8 B7.out.size); have B8 := Lib.hid (B7.out.trans (hb8.mono B7.out.size)); clear hown8 hb8))
      go_roundw
      case rel => exact ⟨j + 1, by omega, by go_num, by rw [Hct.out]; exact O8.out, B8.out⟩
      case measure => simp [intOf]; omega
    · have e : hand.take j = hand := List.take_of_length_le (by omega)
      rw [e] at Hown
      clear hbel
      go_wp2_with fail
      go_ret
      rw [HM.out]
      exact ⟨_, rfl, Hown.out, Hbel.out⟩

end KlsC
end Go.Proofs.YthkkcecfenohjaaGreatDoor
