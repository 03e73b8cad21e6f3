/-
  Methods read from bytes that are known, and lists of them.
-/
import Derived.Test.YthkkcecfenohjaaGreatDoorKlsT
import Derived.Test.YthkkcecfenohjaaGreatDoorKlsD
import Derived.Test.YthkkcecfenohjaaGreatDoorInsH
import Derived.Maps.AppendAt
namespace Go.Proofs.YthkkcecfenohjaaGreatDoor
namespace KlsL
open Go.RowKit InsM InsA InsC InsP InsG Base BinM Stru BinE BinGet BinText BinPut Bin8 Part Kls KlsC KlsY
open BinAll (nums_len)
open InsR (nums_app)
open KlsG (results1)

theorem getU_num {n : Int} (h0 : -9223372036854775808 ≤ n) (h1 : n ≤ 9223372036854775807) (p r : List UInt8) {most : Int} (h2 : 0 ≤ n) (h3 : n ≤ most) : getU (p ++ (num n ++ r)) (p.length : Int) most = (n, ((p ++ num n).length : Int), 0) := by
  have h := getS_numr h0 h1 p r
  rw [getU_good (by rw [h]) (by rw [h]; simp only; omega), h]
theorem getU_more {n : Int} (h0 : -9223372036854775808 ≤ n) (h1 : n ≤ 9223372036854775807) (p r : List UInt8) {most : Int} (h3 : most < n) : getU (p ++ (num n ++ r)) (p.length : Int) most = (0, 0, 12) := by
  have h := getS_numr h0 h1 p r
  rw [getU_big (by rw [h]) (by rw [h]; exact .inr h3)]

theorem ok_op {x : InsT} (h : putOk x = true) : 0 ≤ x.1 ∧ x.1 ≤ 45 ∧ 0 ≤ x.2 ∧ (kindI x.1 = 0 → x.2 = 0) := by
  obtain ⟨op, a⟩ := x
  unfold putOk at h
  simp only [Bool.and_eq_true, Bool.not_eq_true', beq_eq_false_iff_ne, decide_eq_true_eq, Bool.and_eq_false_imp, beq_iff_eq, Bool.not_eq_false'] at h
  obtain ⟨⟨h1, h2⟩, h3⟩ := h
  have := (kind_neg (op := op)).2
  refine ⟨?_, ?_, h2, h3⟩
  · rcases Decidable.em (0 ≤ op ∧ op < 46) with h | h
    · exact h.1
    · exact absurd (this h) h1
  · rcases Decidable.em (0 ≤ op ∧ op < 46) with h | h
    · show op ≤ 45; omega
    · exact absurd (this h) h1

theorem one_back_r {x : InsT} (h : putOk x = true) (hf : fitI x.1 ∧ fitI x.2) (hb : x.2 ≤ 65535) (p r : List UInt8) :
    oneI (p ++ (BinAll.nums (insN x) ++ r)) (p.length : Int) = (x, ((p ++ BinAll.nums (insN x)).length : Int), 0) := by
  obtain ⟨op, a⟩ := x
  obtain ⟨h1, h2, h3, h4⟩ := ok_op h
  unfold fitI at hf
  simp only at h1 h2 h3 h4 hf hb
  by_cases hk : kindI op = 0
  · have e : BinAll.nums (insN (op, a)) = num op := by unfold insN; rw [if_pos hk]; simp [BinAll.nums]
    rw [e]
    have hu := getU_num (most := 45) hf.1.1 hf.1.2 p r h1 h2
    unfold oneI
    rw [hu, if_neg (by simp), if_pos hk, h4 hk]
  · have e : BinAll.nums (insN (op, a)) = num op ++ num a := by unfold insN; rw [if_neg hk]; simp [BinAll.nums]
    rw [e]
    have hu := getU_num (most := 45) hf.1.1 hf.1.2 p (num a ++ r) h1 h2
    have e2 : p ++ (num op ++ num a ++ r) = p ++ (num op ++ (num a ++ r)) := by simp
    have e3 : p ++ (num op ++ (num a ++ r)) = (p ++ num op) ++ (num a ++ r) := by simp
    unfold oneI
    rw [e2, hu]
    have hv := getU_num (most := 65535) hf.2.1 hf.2.2 (p ++ num op) r h3 hb
    rw [← e3] at hv
    rw [if_neg (by simp), if_neg hk, hv, if_neg (by simp)]
    simp
theorem many_back_r : ∀ (l : List InsT) (p r : List UInt8), (∀ x ∈ l, putOk x = true) → (∀ x ∈ l, fitI x.1 ∧ fitI x.2) → (∀ x ∈ l, x.2 ≤ 65535) →
    manyI (p ++ (BinAll.nums (l.flatMap insN) ++ r)) l.length (p.length : Int) = (l, ((p ++ BinAll.nums (l.flatMap insN)).length : Int), 0)
  | [], p, r, _, _, _ => by simp [manyI, BinAll.nums]
  | x :: t, p, r, hok, hf, hb => by
    have e : BinAll.nums ((x :: t).flatMap insN) = BinAll.nums (insN x) ++ BinAll.nums (t.flatMap insN) := by rw [List.flatMap_cons, nums_app]
    have e2 : p ++ (BinAll.nums (insN x) ++ (BinAll.nums (t.flatMap insN) ++ r)) = (p ++ BinAll.nums (insN x)) ++ (BinAll.nums (t.flatMap insN) ++ r) := by simp
    have h1 := one_back_r (hok x (by simp)) (hf x (by simp)) (hb x (by simp)) p (BinAll.nums (t.flatMap insN) ++ r)
    have ih := many_back_r t (p ++ BinAll.nums (insN x)) r (fun y hy => hok y (by simp [hy])) (fun y hy => hf y (by simp [hy])) (fun y hy => hb y (by simp [hy]))
    rw [e, List.length_cons, List.append_assoc]
    rw [← e2] at ih
    unfold manyI
    rw [h1, if_neg (by simp), ih]
    simp
theorem code_back {cd : List InsT} (h : (putI [] cd).2 = 0) (hf : ∀ x ∈ cd, fitI x.1 ∧ fitI x.2) (hb : ∀ x ∈ cd, x.2 ≤ 65535) (p r : List UInt8) :
    getI (p ++ (codeB cd ++ r)) (p.length : Int) = (cd, ((p ++ codeB cd).length : Int), 0) := by
  have hc : codeB cd = num (cd.length : Int) ++ BinAll.nums (cd.flatMap insN) ∧ cd.length ≤ 512 ∧ ∀ x ∈ cd, putOk x = true := by
    unfold codeB
    unfold putI at h ⊢
    split at h
    · cases h
    · rename_i h1
      split at h
      · rename_i h2
        rw [if_neg h1, if_pos h2]
        refine ⟨?_, by omega, fun x hx => List.all_eq_true.1 h2 x hx⟩
        unfold codeN
        rw [show ((cd.length : Int) :: cd.flatMap insN) = [(cd.length : Int)] ++ cd.flatMap insN from rfl, nums_app]
        simp [BinAll.nums]
      · cases h
  obtain ⟨e, hl, hok⟩ := hc
  rw [e]
  have hs := getS_numr (n := (cd.length : Int)) (by omega) (by omega) p (BinAll.nums (cd.flatMap insN) ++ r)
  have hm := many_back_r cd (p ++ num (cd.length : Int)) r hok hf hb
  have e2 : p ++ (num (cd.length : Int) ++ (BinAll.nums (cd.flatMap insN) ++ r)) = (p ++ num (cd.length : Int)) ++ (BinAll.nums (cd.flatMap insN) ++ r) := by simp
  rw [List.append_assoc]
  unfold getI
  rw [hs, if_neg (by simp), if_neg (by simp only; omega)]
  simp only [Int.toNat_natCast]
  rw [e2, hm, List.append_assoc]

/-- blocks from lo on are as they were -/
structure Keep (lo : Nat) (w w' : World) : Prop where
  size : w.heap.size ≤ w'.heap.size
  block : ∀ k, lo ≤ k → k < w.heap.size → w'.heap[k]? = w.heap[k]?
theorem Keep.refl (lo : Nat) (w : World) : Keep lo w w := ⟨Nat.le_refl _, fun _ _ _ => rfl⟩
theorem Keep.trans {lo : Nat} {w w1 w2 : World} (h : Keep lo w w1) (h2 : Keep lo w1 w2) : Keep lo w w2 := ⟨Nat.le_trans h.size h2.size, fun k hk hl => (h2.block k hk (Nat.lt_of_lt_of_le hl h.size)).trans (h.block k hk hl)⟩
theorem Keep.aside {lo g : Nat} {w w' : World} (h : Part.Aside g w w') (hg : g < lo) : Keep lo w w' := ⟨h.bel.size, fun k hk hl => h.rest k hl (by omega)⟩
theorem Keep.set {lo : Nat} (w : World) (b j : Nat) (v : Value) (hb : b < lo) : Keep lo w (w.setCell ⟨b, j, none⟩ v) := ⟨by simp, fun k hk _ => heap_setCell_other w ⟨b, j, none⟩ k v (by show k ≠ b; omega)⟩
theorem Keep.own {lo : Nat} {w w' : World} (hk : Keep lo w w') {base : Nat} {e : TypeId} {size n : Nat} {v : Value} {xs : List Value} (h : w.ownsRow base e size v n xs) (hb : lo ≤ base) : w'.ownsRow base e size v n xs := by
  obtain ⟨h1, h2⟩ := h
  refine ⟨h1, ?_⟩
  rcases h2 with h2 | ⟨k, cap, cur, a, b, c, d⟩
  · exact .inl h2
  · have hlt : k < w.heap.size := by
      rcases Nat.lt_or_ge k w.heap.size with hl | hl
      · exact hl
      · rw [Array.getElem?_eq_none hl] at c; cases c
    exact .inr ⟨k, cap, cur, a, b, by rw [hk.block k (by omega) hlt]; exact c, d⟩

/-- where a method's code and handlers lie -/
structure Away (lo hi : Nat) (y : MthT) : Prop where
  code : ∀ a, y.cA = some a → lo ≤ a.block ∧ a.block < hi
  hand : ∀ a, y.hA = some a → lo ≤ a.block ∧ a.block < hi
/-- what of a method must be in bounds so that it is got back -/
structure Read (x : MthT) : Prop where
  name : x.name.length ≤ 256
  sig : x.sig.length ≤ 256
  loc : 0 ≤ x.locals ∧ x.locals ≤ 65535
  code : (putI [] x.code).2 = 0
  fitc : ∀ i ∈ x.code, fitI i.1 ∧ fitI i.2
  least : ∀ i ∈ x.code, i.2 ≤ 65535
  hm : x.hm = x.hand.length
  few : x.hand.length ≤ 8
  hand : ∀ h ∈ x.hand, h.cls.length ≤ 256 ∧ (fitI h.frm ∧ fitI h.til ∧ fitI h.pos) ∧ (0 ≤ h.frm ∧ h.frm ≤ 65535) ∧ (0 ≤ h.til ∧ h.til ≤ 65535) ∧ 0 ≤ h.pos ∧ h.pos ≤ 65535
theorem sizeMethod : (Tryz.prog.info? 62).map (·.size) = some 5 := by kernel_rfl

set_option maxRecDepth 100000 in
set_option maxHeartbeats 8000000 in
theorem readMethod_any (g : Nat) (A : Option Addr) (l : List UInt8) (n cap : Nat) (ty : TypeId) (w : World) (pre rest : List UInt8) (x : MthT) (hL : Laid w) (hrow : Row w g #[.slice A n cap, .int .i64 (pre.length : Int), .int .i64 0] ty)
    (hrg : 0 < g) (hn : n = l.length) (hnc : n ≤ cap) (hm : cap ≤ maxLen) (hr : Rds w A (cells8 l)) (hne : ∀ a, A = some a → a.block ≠ g) (hlen : l.length ≤ 100000) (hl : l = pre ++ (mthB x ++ rest)) (hx : Read x) :
    Calls Tryz.prog 110 #[.pointer (some ⟨g, 0, none⟩)] w fun e w' => ∃ y : MthT, e = .returned y.V ∧ y.is w' ∧ y.pure = x.pure ∧ Away w.heap.size w'.heap.size y ∧ Row w' g #[.slice A n cap, .int .i64 ((pre ++ mthB x).length : Int), .int .i64 0] ty ∧ Part.Aside g w w' := by
  have S0 := Lib.hid (At.start 62 #[.string ⟨#[]⟩, .string ⟨#[]⟩, .int .i64 0, .slice none 0 0, .slice none 0 0] hrow)
  have HR := Lib.hid (fun (wr : World) (h : Part.Aside g w wr) => rds_aside hr hne h)
  have HLd := Lib.hid (fun (wr : World) (h : Part.Aside g w wr) => (hL.below h.bel hrg : Laid wr))
  have Hx := Lib.hid hx
  have eB : mthB x = txt x.name ++ (txt x.sig ++ (num x.locals ++ (codeB x.code ++ (num (x.hand.length : Int) ++ x.hand.flatMap hndB)))) := by unfold mthB mthH; rw [hx.hm]; simp only [List.append_assoc]
  have hfl := hx.loc
  have hle := hx.few
  have hpb : (pre ++ mthB x).length ≤ l.length := by rw [hl]; simp only [List.length_append]; omega
  have l1 : l = pre ++ (txt x.name ++ (txt x.sig ++ (num x.locals ++ (codeB x.code ++ (num (x.hand.length : Int) ++ (x.hand.flatMap hndB ++ rest)))))) := by rw [hl, eB]; simp only [List.append_assoc]
  have l2 : l = (pre ++ txt x.name) ++ (txt x.sig ++ (num x.locals ++ (codeB x.code ++ (num (x.hand.length : Int) ++ (x.hand.flatMap hndB ++ rest))))) := by rw [l1]; simp only [List.append_assoc]
  have l3 : l = ((pre ++ txt x.name) ++ txt x.sig) ++ (num x.locals ++ (codeB x.code ++ (num (x.hand.length : Int) ++ (x.hand.flatMap hndB ++ rest)))) := by rw [l1]; simp only [List.append_assoc]
  have l4 : l = (((pre ++ txt x.name) ++ txt x.sig) ++ num x.locals) ++ (codeB x.code ++ (num (x.hand.length : Int) ++ (x.hand.flatMap hndB ++ rest))) := by rw [l1]; simp only [List.append_assoc]
  have l5 : l = ((((pre ++ txt x.name) ++ txt x.sig) ++ num x.locals) ++ codeB x.code) ++ (num (x.hand.length : Int) ++ (x.hand.flatMap hndB ++ rest)) := by rw [l1]; simp only [List.append_assoc]
  have l6 : l = (((((pre ++ txt x.name) ++ txt x.sig) ++ num x.locals) ++ codeB x.code) ++ num (x.hand.length : Int)) ++ (x.hand.flatMap hndB ++ rest) := by rw [l1]; simp only [List.append_assoc]
  have l7 : pre ++ mthB x = (((((pre ++ txt x.name) ++ txt x.sig) ++ num x.locals) ++ codeB x.code) ++ num (x.hand.length : Int)) ++ x.hand.flatMap hndB := by rw [eB]; simp only [List.append_assoc]
  have k1 : getT l (pre.length : Int) 256 = (x.name, ((pre ++ txt x.name).length : Int), 0) := by rw [l1]; exact txt_full _ _ _ 256 (by have := hx.name; omega) (by have := hx.name; omega)
  have k2 : getT l ((pre ++ txt x.name).length : Int) 256 = (x.sig, (((pre ++ txt x.name) ++ txt x.sig).length : Int), 0) := by rw [l2]; exact txt_full _ _ _ 256 (by have := hx.sig; omega) (by have := hx.sig; omega)
  have k3 : getS l (((pre ++ txt x.name) ++ txt x.sig).length : Int) = (x.locals, ((((pre ++ txt x.name) ++ txt x.sig) ++ num x.locals).length : Int), 0) := by rw [l3]; exact getS_numr (by omega) (by omega) _ _
  have k4 : getI l ((((pre ++ txt x.name) ++ txt x.sig) ++ num x.locals).length : Int) = (x.code, (((((pre ++ txt x.name) ++ txt x.sig) ++ num x.locals) ++ codeB x.code).length : Int), 0) := by rw [l4]; exact code_back hx.code hx.fitc hx.least _ _
  have k5 : getS l (((((pre ++ txt x.name) ++ txt x.sig) ++ num x.locals) ++ codeB x.code).length : Int) = ((x.hand.length : Int), ((((((pre ++ txt x.name) ++ txt x.sig) ++ num x.locals) ++ codeB x.code) ++ num (x.hand.length : Int)).length : Int), 0) := by rw [l5]; exact getS_numr (by omega) (by omega) _ _
  have b1 : (pre ++ txt x.name).length ≤ l.length := by rw [l2]; simp only [List.length_append]; omega
  have b2 : ((pre ++ txt x.name) ++ txt x.sig).length ≤ l.length := by rw [l3]; simp only [List.length_append]; omega
  have b3 : (((pre ++ txt x.name) ++ txt x.sig) ++ num x.locals).length ≤ l.length := by rw [l4]; simp only [List.length_append]; omega
  have b4 : ((((pre ++ txt x.name) ++ txt x.sig) ++ num x.locals) ++ codeB x.code).length ≤ l.length := by rw [l5]; simp only [List.length_append]; omega
  have b0 : pre.length ≤ l.length := by rw [l1]; simp only [List.length_append]; omega
  have b7 : pre ++ mthB x = pre ++ mthB x := rfl
  rw [l7]
  have L6 := Lib.hid l6
  generalize hP5 : (((((pre ++ txt x.name) ++ txt x.sig) ++ num x.locals) ++ codeB x.code) ++ num (x.hand.length : Int)) = P5 at *
  generalize ((((pre ++ txt x.name) ++ txt x.sig) ++ num x.locals) ++ codeB x.code).length = p4 at *
  generalize (((pre ++ txt x.name) ++ txt x.sig) ++ num x.locals).length = p3 at *
  generalize ((pre ++ txt x.name) ++ txt x.sig).length = p2 at *
  generalize (pre ++ txt x.name).length = p1 at *
  generalize pre.length = p0 at *
  have K5 := Lib.hid k5
  clear hrow hr hx hL hl l1 l2 l3 l4 l5 l6 l7 eB hP5 b7 hpb k5
  have Hne := Lib.hid hne
  clear hne
  have HIs := Lib.hid (show ∀ W B c, Rds W B (x.code.flatMap insV) → x.code.length ≤ c → c ≤ maxLen → IsCode W B x.code.length c x.code from fun W B c h1 h2 h3 => ⟨rfl, h2, h3, h1, Hx.out.fitc⟩)
  obtain ⟨x0, x1, x2, cA, cm, cc, hA, hmm, hc', code, hand⟩ := x
  simp only [MthT.V] at *
  go_enter Tryz.func110, Tryz.ntmps110
  go_wp2_with fail
  refine Calls.mono (text_klass g A l n cap p0 ty _ S0.out.row hn hnc hm (by omega) (by omega) (HR.out _ S0.out.asd)) ?_
  rw [k1]
  rintro e w1 ⟨rfl, hrow1, ha1⟩
  have T1 := Lib.hid (S0.out.next hrow1 ha1)
  have S1 := Lib.hid (T1.out.set 0 (.string ⟨x0.toArray⟩))
  have hc := T1.out.box.cell 0
  have hf := T1.out.box.free 0
  clear hrow1 ha1
  go_wp2_with fail
  clear hc hf
  refine Calls.mono (text_klass g A l n cap p1 ty _ S1.out.row hn hnc hm (by omega) (by omega) (HR.out _ S1.out.asd)) ?_
  rw [k2]
  rintro e w2 ⟨rfl, hrow2, ha2⟩
  have T2 := Lib.hid (S1.out.next hrow2 ha2)
  have S2 := Lib.hid (T2.out.set 1 (.string ⟨x1.toArray⟩))
  have hc := T2.out.box.cell 1
  have hf := T2.out.box.free 1
  clear hrow2 ha2
  go_wp2_with fail
  clear hc hf
  refine Calls.mono (number_any g A l n cap p2 x2 p3 ty _ S2.out.row hn hnc hm (by omega) (by omega) (HR.out _ S2.out.asd) k3 hfl.1 hfl.2) ?_
  rintro e w3 ⟨rfl, hrow3, ha3⟩
  have T3 := Lib.hid (S2.out.next hrow3 ha3)
  have S3 := Lib.hid (T3.out.set 2 (.int .i64 x2))
  have hc := T3.out.box.cell 2
  have hf := T3.out.box.free 2
  clear hrow3 ha3
  go_wp2_with fail
  clear hc hf
  have hig := InsH.insGet_any A l n cap (p3 : Int) (w3.setCell ⟨w.heap.size + 1, 2, none⟩ (.int .i64 x2)).drew (HLd.out _ S3.out.asd.drew) hn (Nat.le_trans hnc hm) (by omega) (by omega) (HR.out _ S3.out.asd.drew)
  rw [k4] at hig
  have hz3 : w.heap.size + 1 < (w3.setCell ⟨w.heap.size + 1, 2, none⟩ (.int .i64 x2)).heap.size := S3.out.box.lt
  refine Calls.mono (KlsT.nextIns_any g A n cap p3 p4 95 2 code.length (code.flatMap insV) ty _ S3.out.row (hig.mono (fun e w' ⟨v, he, ho, hb⟩ => ⟨v, he, ho, (Below.refl _ _).drew.trans hb⟩))) ?_
  rintro e w4 ⟨v4, rfl, hown4, hrow4, ha4⟩
  obtain ⟨A4, c4, rfl, hq4, hq4', hl4, _⟩ := own_slice hown4
  have O4 := Lib.hid hown4
  have HL4 := Lib.hid hl4
  have T4 := Lib.hid (S3.out.next hrow4 ha4)
  have S4 := Lib.hid (T4.out.set 3 (.slice A4 code.length c4))
  have hc := T4.out.box.cell 3
  have hf := T4.out.box.free 3
  clear hrow4 ha4 hown4 hl4 hig
  go_wp2_with fail
  clear hc hf
  have hz4 : w.heap.size + 1 < (w4.setCell ⟨w.heap.size + 1, 3, none⟩ (.slice A4 code.length c4)).heap.size := S4.out.box.lt
  refine Calls.mono (listHand_any g A l n cap p4 ty _ S4.out.row hand P5 rest hn hnc hm (HR.out _ S4.out.asd) Hne.out (by omega) hlen L6.out K5.out hle Hx.out.hand) ?_
  rintro e w5 ⟨v5, rfl, hown5, hrow5, ha5⟩
  obtain ⟨A5, c5, rfl, hq5, hq5', hl5, _⟩ := own_slice hown5
  have O5 := Lib.hid hown5
  have HL5 := Lib.hid hl5
  have hglt := S0.out.lt
  have D45 := Lib.hid ((Keep.set (lo := w.heap.size + 2) w4 (w.heap.size + 1) 3 (.slice A4 code.length c4) (by omega)).trans (Keep.aside ha5 (by omega)))
  have T5 := Lib.hid (S4.out.next hrow5 ha5)
  have S5 := Lib.hid (T5.out.set 4 (.slice A5 hand.length c5))
  have hc := T5.out.box.cell 4
  have hf := T5.out.box.free 4
  clear hrow5 ha5 hown5 hl5
  have Hb : Row (w5.setCell ⟨w.heap.size + 1, 4, none⟩ (.slice A5 hand.length c5)) (w.heap.size + 1) #[.string ⟨x0.toArray⟩, .string ⟨x1.toArray⟩, .int .i64 x2, .slice A4 code.length c4, .slice A5 hand.length c5] 62 := S5.out.box
  have g0 := Hb.cell 0
  have g1 := Hb.cell 1
  have g2 := Hb.cell 2
  have g3 := Hb.cell 3
  have g4 := Hb.cell 4
  have f0 := S5.out.res.free 0
  have r0 := S5.out.res.cell 0
  have f1 := S5.out.res.free 1
  have r1 := S5.out.res.cell 1
  have f2 := S5.out.res.free 2
  have r2 := S5.out.res.cell 2
  have f3 := S5.out.res.free 3
  have r3 := S5.out.res.cell 3
  have f4 := S5.out.res.free 4
  have r4 := S5.out.res.cell 4
  clear Hb
  go_wp2_with fail
  have HF := Lib.hid (((((S5.out.put 0 (.string ⟨x0.toArray⟩)).put 1 (.string ⟨x1.toArray⟩)).put 2 (.int .i64 x2)).put 3 (.slice A4 code.length c4)).put 4 (.slice A5 hand.length c5))
  have HW : Row _ w.heap.size #[.string ⟨x0.toArray⟩, .string ⟨x1.toArray⟩, .int .i64 x2, .slice A4 code.length c4, .slice A5 hand.length c5] 62 := HF.out.res
  have D5 := Lib.hid ((((((Keep.set (lo := w.heap.size + 2) w5 (w.heap.size + 1) 4 (.slice A5 hand.length c5) (by omega)).trans (Keep.set _ w.heap.size 0 (.string ⟨x0.toArray⟩) (by omega))).trans (Keep.set _ w.heap.size 1 (.string ⟨x1.toArray⟩) (by omega))).trans (Keep.set _ w.heap.size 2 (.int .i64 x2) (by omega))).trans (Keep.set _ w.heap.size 3 (.slice A4 code.length c4) (by omega))).trans (Keep.set _ w.heap.size 4 (.slice A5 hand.length c5) (by omega)))
  have Q4 := D5.out.own (D45.out.own O4.out (by omega)) (by omega)
  have Q5 := D5.out.own O5.out (by omega)
  exact bodyPost_ret (v := .agg #[.string ⟨x0.toArray⟩, .string ⟨x1.toArray⟩, .int .i64 x2, .slice A4 code.length c4, .slice A5 hand.length c5]) (results1 Tryz.results110 _ _ _ _ rfl (run_loadVar_row _ _ _ _ #[.string ⟨x0.toArray⟩, .string ⟨x1.toArray⟩, .int .i64 x2, .slice A4 code.length c4, .slice A5 hand.length c5] (0, 0) _ HW Tryz.underlying62 rfl sizeMethod)) rfl
    ⟨⟨x0, x1, x2, A4, code.length, c4, A5, hand.length, c5, code, hand⟩, rfl, ⟨⟨show -9223372036854775808 ≤ x2 by omega, show x2 ≤ 9223372036854775807 by omega⟩, HIs.out _ _ _ (Rds.ownN Q4) hq4 hq4', ⟨rfl, hq5, hq5', Rds.ownN Q5, fun h hh => (Hx.out.hand h hh).2.1⟩⟩, rfl,
      ⟨fun a ha => by
        have h1 := HL4.out a ha
        have h2 := D45.out.size
        have h3 := D5.out.size
        exact ⟨by omega, by omega⟩, fun a ha => by
        have h1 := HL5.out a ha
        have h3 := D5.out.size
        exact ⟨by omega, by omega⟩⟩, HF.out.row, HF.out.asd⟩

/-- methods in a row of the call's own -/
def OwnM (w : World) (base : Nat) (v : Value) (l : List MthT) : Prop := w.ownsRow base 62 5 v l.length (l.flatMap MthT.vals)
theorem OwnM.nil (w : World) (base : Nat) : OwnM w base (.slice none 0 0) [] := World.ownsRow_nil _ _ _ _
theorem infoM : (Tryz.prog.info? 62).map (fun i => (i.zero, i.size, i.bytes)) = some (some (.agg #[.string ⟨#[]⟩, .string ⟨#[]⟩, .int .i64 0, .slice none 0 0, .slice none 0 0]), 5, 88) := by kernel_rfl
theorem valsM (y : MthT) : MthT.vals y = [.string ⟨y.name.toArray⟩, .string ⟨y.sig.toArray⟩, .int .i64 y.locals, .slice y.cA y.cm y.cc, .slice y.hA y.hm y.hc] := rfl
set_option maxRecDepth 100000 in
theorem appM {ops : Array Oper} {rest : List Oper} {o : Oper} {a : Act} {w : World} {Q : Exit → Act → World → Prop} (hgd : o.guard = none) (s x : Operand)
    (ho : o.op = .call { callee := .builtin .append, args := #[s, x], argTypes := #[24, 24] })
    (base : Nat) (v : Value) (p : List MthT) (hs : a.eval s = v) (hown : OwnM w base v p) (g c : Nat) (y : MthT) (hx : a.eval x = .slice (some ⟨g, 0, none⟩) 1 c)
    (hr : Rds w (some ⟨g, 0, none⟩) (MthT.vals y)) (hlen : p.length ≤ 100000) (hbase : base ≤ w.heap.size)
    (h : ∀ v' w', OwnM w' base v' (p ++ [y]) → w.grownBy w' v.ownBlock → (v'.ownBlock = v.ownBlock ∨ v'.ownBlock = some w.heap.size) → wpList Tryz.prog ops Q rest (a.put o.dst v') w') : wpList Tryz.prog ops Q (o :: rest) a w := by
  obtain ⟨i0, hi, hz, hs1, hb1⟩ := info_parts infoM
  refine wpList_plain hgd fun K hK => ?_
  obtain ⟨v', w', hrun, h2, h3, _, h5⟩ := run_append_own_at (P := Tryz.prog) w base 24 o.type 62 i0 _ 5 88 Tryz.underlying24 hi hz hs1 hb1 rfl (by omega) v p.length (p.flatMap MthT.vals) hown ⟨g, 0, none⟩ 1 c (MthT.vals y) rfl
    (by intro j u hu
        rcases hr with h0 | ⟨b, o', hA, _, hc⟩
        · rw [h0] at hu; simp at hu
        · injection hA with hA
          rw [hA, Addr.add_mid]
          exact hc j u hu)
    (by intro u hu; rw [valsM] at hu; simp at hu; rcases hu with rfl | rfl | rfl | rfl | rfl <;> rfl) (by unfold maxLen; omega) (by omega) hbase
  unfold Oper.wp execOp
  simp only [ho, resolve, invoke, builtin, Sem.run_bind, Sem.run_pure, Result.andThen_ok, List.map_toArray, List.map_cons, List.map_nil, hs, hx, hrun]
  refine hK _ _ (h v' w' ?_ h3 h5)
  unfold OwnM
  rw [List.flatMap_append, List.length_append]
  simpa using h2

/-- a method's code and handlers lie in no list of methods -/
structure Apart (v : Value) (y : MthT) : Prop where
  code : ∀ a, y.cA = some a → v.ownBlock ≠ some a.block
  hand : ∀ a, y.hA = some a → v.ownBlock ≠ some a.block
theorem rds_same {w w' : World} {A : Option Addr} {xs : List Value} (hr : Rds w A xs) (hs : w.heap.size ≤ w'.heap.size) (h : ∀ a, A = some a → a.block < w.heap.size → w'.heap[a.block]? = w.heap[a.block]?) : Rds w' A xs := by
  rcases hr with h0 | ⟨b, o, hA, hb, hc⟩
  · exact .inl h0
  · refine .inr ⟨b, o, hA, Nat.lt_of_lt_of_le hb hs, fun j u hu => ?_⟩
    rw [← hc j u hu]
    have := h _ hA hb
    unfold World.cell?
    rw [this]
theorem is_same {w w' : World} {y : MthT} (h : y.is w) (hs : w.heap.size ≤ w'.heap.size) (h1 : ∀ a, y.cA = some a → a.block < w.heap.size → w'.heap[a.block]? = w.heap[a.block]?) (h2 : ∀ a, y.hA = some a → a.block < w.heap.size → w'.heap[a.block]? = w.heap[a.block]?) : y.is w' :=
  ⟨h.fit, ⟨h.code.len, h.code.le, h.code.max, rds_same h.code.rds hs h1, h.code.fit⟩, ⟨h.hand.len, h.hand.le, h.hand.max, rds_same h.hand.rds hs h2, h.hand.fit⟩⟩
/-- what is held of the methods so far -/
structure Sofar (w wr : World) (v : Value) (xs ys : List MthT) : Prop where
  pure : ys.map MthT.pure = xs.map MthT.pure
  own : OwnM wr w.heap.size v ys
  is : ∀ y ∈ ys, y.is wr
  away : ∀ y ∈ ys, Away w.heap.size wr.heap.size y
  apart : ∀ y ∈ ys, Apart v y
theorem Sofar.nil (w wr : World) : Sofar w wr (.slice none 0 0) [] [] := ⟨rfl, OwnM.nil _ _, (by intro y h; cases h), (by intro y h; cases h), (by intro y h; cases h)⟩
theorem Sofar.aside {g : Nat} {w wr w' : World} {v : Value} {xs ys : List MthT} (h : Sofar w wr v xs ys) (ha : Part.Aside g wr w') (hg : g < w.heap.size) : Sofar w w' v xs ys :=
  ⟨h.pure, own_aside h.own ha hg, fun y hy => is_same (h.is y hy) ha.bel.size (fun a hA hlt => ha.rest _ hlt (by have := ((h.away y hy).code a hA).1; omega)) (fun a hA hlt => ha.rest _ hlt (by have := ((h.away y hy).hand a hA).1; omega)),
    fun y hy => ⟨fun a hA => ⟨((h.away y hy).code a hA).1, Nat.lt_of_lt_of_le ((h.away y hy).code a hA).2 ha.bel.size⟩, fun a hA => ⟨((h.away y hy).hand a hA).1, Nat.lt_of_lt_of_le ((h.away y hy).hand a hA).2 ha.bel.size⟩⟩, h.apart⟩
theorem Sofar.app {w wr w5 w6 w7 : World} {v v7 : Value} {xs ys : List MthT} {x y : MthT} (h : Sofar w w5 v xs ys) (hv : ∀ b, v.ownBlock = some b → b < wr.heap.size) (hw : w.heap.size ≤ wr.heap.size) (hy : y.is w5) (hp : y.pure = x.pure) (ha : Away wr.heap.size w5.heap.size y)
    (h6 : Below w5.heap.size w5 w6) (hg : w6.grownBy w7 v.ownBlock) (hs7 : w6.heap.size ≤ w7.heap.size) (ho : OwnM w7 w.heap.size v7 (ys ++ [y])) (hb : v7.ownBlock = v.ownBlock ∨ v7.ownBlock = some w6.heap.size) : Sofar w w7 v7 (xs ++ [x]) (ys ++ [y]) := by
  have hsz : w5.heap.size ≤ w7.heap.size := Nat.le_trans h6.size hs7
  have hblk : ∀ b, b < w5.heap.size → v.ownBlock ≠ some b → w7.heap[b]? = w5.heap[b]? := fun b hlt hne => (hg.block b (Nat.lt_of_lt_of_le hlt h6.size) (fun e => hne e.symm)).trans (h6.block b hlt)
  have hyA : Apart v y := ⟨fun a hA e => by have h1 := hv _ e; have h2 := (ha.code a hA).1; omega, fun a hA e => by have h1 := hv _ e; have h2 := (ha.hand a hA).1; omega⟩
  have hall : ∀ z ∈ ys ++ [y], z.is w5 ∧ Away w.heap.size w5.heap.size z ∧ Apart v z := by
    intro z hz
    rcases List.mem_append.1 hz with hz | hz
    · exact ⟨h.is z hz, h.away z hz, h.apart z hz⟩
    · have : z = y := by simpa using hz
      subst this
      exact ⟨hy, ⟨fun a hA => ⟨Nat.le_trans hw (ha.code a hA).1, (ha.code a hA).2⟩, fun a hA => ⟨Nat.le_trans hw (ha.hand a hA).1, (ha.hand a hA).2⟩⟩, hyA⟩
  refine ⟨by rw [List.map_append, List.map_append, h.pure]; simp [hp], ho, fun z hz => ?_, fun z hz => ?_, fun z hz => ?_⟩
  · obtain ⟨z1, z2, z3⟩ := hall z hz
    exact is_same z1 hsz (fun a hA hlt => hblk _ hlt (z3.code a hA)) (fun a hA hlt => hblk _ hlt (z3.hand a hA))
  · obtain ⟨z1, z2, z3⟩ := hall z hz
    exact ⟨fun a hA => ⟨(z2.code a hA).1, Nat.lt_of_lt_of_le (z2.code a hA).2 hsz⟩, fun a hA => ⟨(z2.hand a hA).1, Nat.lt_of_lt_of_le (z2.hand a hA).2 hsz⟩⟩
  · obtain ⟨z1, z2, z3⟩ := hall z hz
    have h6s := h6.size
    refine ⟨fun a hA e => ?_, fun a hA e => ?_⟩
    · rcases hb with hb | hb
      · exact z3.code a hA (hb ▸ e)
      · rw [hb] at e
        injection e with e
        have := (z2.code a hA).2
        omega
    · rcases hb with hb | hb
      · exact z3.hand a hA (hb ▸ e)
      · rw [hb] at e
        injection e with e
        have := (z2.hand a hA).2
        omega

set_option maxRecDepth 100000 in
set_option maxHeartbeats 8000000 in
theorem listMethod_any (g : Nat) (A : Option Addr) (l : List UInt8) (n cap : Nat) (p : Nat) (ty : TypeId) (w : World) (hL : Laid w) (hrow : Row w g #[.slice A n cap, .int .i64 (p : Int), .int .i64 0] ty) (xs : List MthT) (pre rest : List UInt8)
    (hrg : 0 < g) (hn : n = l.length) (hnc : n ≤ cap) (hm : cap ≤ maxLen) (hr : Rds w A (cells8 l)) (hne : ∀ a, A = some a → a.block ≠ g) (hp : p ≤ 1000000) (hlen : l.length ≤ 100000) (hl : l = pre ++ (xs.flatMap mthB ++ rest)) (hg : getS l (p : Int) = ((xs.length : Int), (pre.length : Int), 0)) (hmx : xs.length ≤ 32) (hx : ∀ x ∈ xs, Read x) :
    Calls Tryz.prog 109 #[.pointer (some ⟨g, 0, none⟩), .int .i64 32, .func (.func 110) #[.pointer (some ⟨g, 0, none⟩)] #[]] w
      fun e w' => ∃ v ys, e = .returned v ∧ Sofar w w' v xs ys ∧ Row w' g #[.slice A n cap, .int .i64 ((pre ++ xs.flatMap mthB).length : Int), .int .i64 0] ty ∧ Part.Aside g w w' := by
  have hnx := readNum_any g A l n cap p 32 6 (xs.length : Int) (pre.length : Int) ty w hrow hn hnc hm (by omega) (by omega) hr hg (by omega) (by omega)
  have Hnx := Lib.hid hnx
  have hgl := hrow.lt
  have Hstep := Lib.hid (fun (j : Nat) (hj : j < xs.length) (W : World) (ha : Part.Aside g w W) (hrw : Row W g #[.slice A n cap, .int .i64 ((pre ++ (xs.take j).flatMap mthB).length : Int), .int .i64 0] ty) =>
    readMethod_any g A l n cap ty W (pre ++ (xs.take j).flatMap mthB) ((xs.drop (j + 1)).flatMap mthB ++ rest) xs[j] (hL.below ha.bel hrg) hrw hrg hn hnc hm (rds_aside hr hne ha) hne hlen (by rw [hl, flat_split mthB xs j hj]; simp only [List.append_assoc]) (hx _ (List.getElem_mem hj)))
  clear hnx hr hrow hg hx hn hnc hm hne hl hL
  go_enter Tryz.func109, Tryz.ntmps109
  go_wp2_with fail
  refine Calls.mono Hnx.out ?_
  rintro ee w3 ⟨rfl, hrow3, ha3⟩
  have H3 := Lib.hid hrow3
  have A3 := Lib.hid ha3
  clear hrow3 ha3
  go_wp2_with fail
  go_loopw [7, 11] (fun v i wr => ∃ j : Nat, j ≤ xs.length ∧ i = .int .i64 j ∧ (∃ ys, ys.length = j ∧ Sofar w wr v (xs.take j) ys) ∧ Row wr g #[.slice A n cap, .int .i64 ((pre ++ (xs.take j).flatMap mthB).length : Int), .int .i64 0] ty ∧ Part.Aside g w wr) (fun _ i _ => xs.length - (intOf i).toNat)
  case atStart => exact ⟨0, Nat.zero_le _, rfl, ⟨[], rfl, Sofar.nil _ _⟩, by rw [List.take_zero, List.flatMap_nil, List.append_nil]; exact H3.out, A3.out⟩
  case round =>
    obtain ⟨j, hj, rfl, ⟨ys, hyl, hso⟩, hrw, ha⟩ := hrel
    have Hso := Lib.hid hso
    have Hrw := Lib.hid hrw
    have Ha := Lib.hid ha
    have hsz := ha.bel.size
    have hsw := size_aside ha
    clear hso hrw ha
    by_cases hlt : j < xs.length
    · have hc := Hstep.out j hlt wr Ha.out Hrw.out
      have Ht := Lib.hid (show xs.take (j + 1) = xs.take j ++ [xs[j]] from List.take_succ_eq_append_getElem hlt)
      have Hfm := Lib.hid (show (pre ++ (xs.take j).flatMap mthB) ++ mthB xs[j] = pre ++ (xs.take (j + 1)).flatMap mthB by rw [flat_succ mthB xs j hlt, List.append_assoc])
      have hj1 : (j : Int) < (xs.length : Int) := by omega
      rw [Hfm.out] at hc
      generalize xs[j] = x at *
      have Hc := Lib.hid hc
      clear hc
      go_wp2_with fail
      refine Calls.mono Hc.out ?_
      rintro e w5 ⟨y, rfl, hy5, hp5, haw5, hrow5, ha5⟩
      have R5 := Lib.hid hrow5
      have A5 := Lib.hid (Ha.out.trans ha5)
      have S5 := Lib.hid (Hso.out.aside ha5 hgl)
      have Y5 := Lib.hid hy5
      have P5 := Lib.hid hp5
      have W5 := Lib.hid haw5
      have hs5 := size_aside A5.out
      have Hvb := Lib.hid (show ∀ b, Value.ownBlock _ = some b → b < wr.heap.size from fun b hb => (Hso.out.own.lt b hb).2)
      clear hrow5 ha5 hy5 hp5 haw5
      obtain ⟨y0, y1, y2, y3, y4, y5, y6, y7, y8, y9, y10⟩ := y
      simp only [MthT.V]
      go_wp2_with (at_builtin
                   have HB := (Below.refl w5.heap.size w5).alloc (Nat.le_refl _) (.cells #[.string ⟨y0.toArray⟩, .string ⟨y1.toArray⟩, .int .i64 y2, .slice y3 y4 y5, .slice y6 y7 y8] 62)
                   have hrd := rds_new w5 #[.string ⟨y0.toArray⟩, .string ⟨y1.toArray⟩, .int .i64 y2, .slice y3 y4 y5, .slice y6 y7 y8] 62
                   refine appM rfl (.tmp 13) (.tmp 16) rfl w.heap.size _ ys rfl (own_below' S5.out.own HB) w5.heap.size 1 ⟨y0, y1, y2, y3, y4, y5, y6, y7, y8, y9, y10⟩ rfl hrd (by omega) (by simp; omega) ?_
                   intro v7 w7 hown7 hg7 hob7
                   have B67 := below_own (B := w.heap.size) (Below.refl _ _) (own_below' S5.out.own HB) (Nat.le_refl _) (by simp; omega) hg7
                   have B7 := Lib.hid ((HB.mono hs5).trans B67)
                   have SS := Lib.hid (S5.out.app Hvb.out hsz Y5.out P5.out W5.out HB hg7 B67.size hown7 hob7)
                   clear hown7 hg7 hob7 B67 HB hrd)
      go_roundw
      case rel => exact ⟨j + 1, by omega, by go_num, ⟨ys ++ [⟨y0, y1, y2, y3, y4, y5, y6, y7, y8, y9, y10⟩], by rw [List.length_append, hyl]; rfl, by rw [Ht.out]; exact SS.out⟩, R5.out.below B7.out hgl, A5.out.plus B7.out (Nat.le_of_lt hgl)⟩
      case measure => simp [intOf]; omega
    · have e : xs.take j = xs := List.take_of_length_le (by omega)
      rw [e] at Hso Hrw
      go_wp2_with fail
      go_ret
      exact ⟨_, ys, rfl, Hso.out, Hrw.out, Ha.out⟩

end KlsL
end Go.Proofs.YthkkcecfenohjaaGreatDoor
