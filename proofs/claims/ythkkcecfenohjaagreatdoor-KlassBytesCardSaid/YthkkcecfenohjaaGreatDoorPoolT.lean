/-
  pool.getMember and pool.Get: what they return, for all bytes at every place.
-/
import Derived.Test.YthkkcecfenohjaaGreatDoorPutR
import Derived.Laws.CopyOwn
namespace Go.Proofs.YthkkcecfenohjaaGreatDoor
namespace PoolS
open Go.RowKit Base BinM BinE BinText DescM Stru PoolM PoolA PoolB

def atM (b : List UInt8) (a : Int) : Nat → Int
  | 0 => a
  | j + 1 => (getT b (atM b a j) 256).2.1
def txM (b : List UInt8) (a : Int) (j : Nat) : List UInt8 := (getT b (atM b a j) 256).1
def erM (b : List UInt8) (a : Int) (j : Nat) : Int := (getT b (atM b a j) 256).2.2
def noneC : Cst := ⟨0, 0, [], [], []⟩
/-- three texts, one behind the other -/
def getM (k : Int) (b : List UInt8) (a : Int) : Cst × Int × Int :=
  if erM b a 0 ≠ 0 then (noneC, 0, erM b a 0) else if erM b a 1 ≠ 0 then (noneC, 0, erM b a 1) else if erM b a 2 ≠ 0 then (noneC, 0, erM b a 2)
  else (⟨k, 0, txM b a 0, txM b a 1, txM b a 2⟩, atM b a 3, 0)
theorem getM_err {k : Int} {b : List UInt8} {a : Int} {j : Nat} (hj : j < 3) (h : ∀ i, i < j → erM b a i = 0) (he : erM b a j ≠ 0) : getM k b a = (noneC, 0, erM b a j) := by
  unfold getM
  match j, hj, h, he with
  | 0, _, _, he => rw [if_pos he]
  | 1, _, h, he => rw [if_neg (by rw [h 0 (by omega)]; simp), if_pos he]
  | 2, _, h, he => rw [if_neg (by rw [h 0 (by omega)]; simp), if_neg (by rw [h 1 (by omega)]; simp), if_pos he]
theorem getM_ok {k : Int} {b : List UInt8} {a : Int} (h : ∀ i, i < 3 → erM b a i = 0) : getM k b a = (⟨k, 0, txM b a 0, txM b a 1, txM b a 2⟩, atM b a 3, 0) := by
  unfold getM
  rw [if_neg (by rw [h 0 (by omega)]; simp), if_neg (by rw [h 1 (by omega)]; simp), if_neg (by rw [h 2 (by omega)]; simp)]

theorem getT_ok {l : List UInt8} {a m : Int} (h : (getT l a m).2.2 = 0) : 0 ≤ (getT l a m).2.1 ∧ (getT l a m).2.1 ≤ l.length ∧ ((getT l a m).1.length : Int) ≤ m := by
  by_cases h1 : (getS l a).2.2 = 0
  · have hok := getS_ok h1
    unfold getT at h ⊢
    rw [if_neg (by omega)] at h ⊢
    by_cases h2 : (getS l a).1 < 0 ∨ m < (getS l a).1
    · rw [if_pos h2] at h; simp at h
    · rw [if_neg h2] at h ⊢
      by_cases h3 : (l.length : Int) - (getS l a).2.1 < (getS l a).1
      · rw [if_pos h3] at h; simp at h
      · rw [if_neg h3]
        refine ⟨by simp only; omega, by simp only; omega, ?_⟩
        simp only [List.length_take, List.length_drop]
        omega
  · unfold getT at h
    rw [if_pos h1] at h
    exact absurd h h1
theorem at_in {b : List UInt8} {a : Int} (h0 : -9223372036854775808 ≤ a) (h1 : a ≤ 9223372036854775807) (hb : b.length ≤ 9223372036854775807) : ∀ {j : Nat}, (∀ i, i < j → erM b a i = 0) → -9223372036854775808 ≤ atM b a j ∧ atM b a j ≤ 9223372036854775807
  | 0, _ => ⟨h0, h1⟩
  | j + 1, h => by
    have := getT_ok (h j (by omega))
    show _ ≤ (getT b (atM b a j) 256).2.1 ∧ (getT b (atM b a j) 256).2.1 ≤ _
    omega

/-- a call hands back a constant, a place and an error's number -/
def cst3 (r : Cst × Int × Int) : Value := .tuple #[cstV r.1, .int .i64 r.2.1, .int .i64 r.2.2]
def GivesC (w : World) (r : Cst × Int × Int) (e : Ending) (w' : World) : Prop := e = .returned (cst3 r) ∧ Below w.heap.size w w'
theorem givesC {w w' : World} {r : Cst × Int × Int} {k n : Int} {s t u : List UInt8} {p e : Int} (h : r = (⟨k, n, s, t, u⟩, p, e)) (hb : Below w.heap.size w w') :
    GivesC w r (.returned (.tuple #[.agg #[.int .i64 k, .int .i64 n, .string ⟨s.toArray⟩, .string ⟨t.toArray⟩, .string ⟨u.toArray⟩], .int .i64 p, .int .i64 e])) w' := by subst h; exact ⟨rfl, hb⟩

def arrM (b : List UInt8) (a : Int) (j : Nat) : Array Value :=
  #[.string ⟨(if 0 < j then txM b a 0 else []).toArray⟩, .string ⟨(if 1 < j then txM b a 1 else []).toArray⟩, .string ⟨(if 2 < j then txM b a 2 else []).toArray⟩]
def RelM (w : World) (b : List UInt8) (a : Int) (at_ i : Value) (wr : World) : Prop :=
  ∃ j : Nat, j ≤ 3 ∧ i = .int .i64 j ∧ at_ = .int .i64 (atM b a j) ∧ (∀ i, i < j → erM b a i = 0) ∧ wr = (w.alloc (.cells #[.int .i64 0, .int .i64 0, .string ⟨#[]⟩, .string ⟨#[]⟩, .string ⟨#[]⟩] 40)).alloc (.cells (arrM b a j) 211)

theorem arr0 (b : List UInt8) (a : Int) : arrM b a 0 = #[.string ⟨#[]⟩, .string ⟨#[]⟩, .string ⟨#[]⟩] := rfl
theorem arr1 (b : List UInt8) (a : Int) : arrM b a 1 = #[.string ⟨(txM b a 0).toArray⟩, .string ⟨#[]⟩, .string ⟨#[]⟩] := rfl
theorem arr2 (b : List UInt8) (a : Int) : arrM b a 2 = #[.string ⟨(txM b a 0).toArray⟩, .string ⟨(txM b a 1).toArray⟩, .string ⟨#[]⟩] := rfl
theorem arr3 (b : List UInt8) (a : Int) : arrM b a 3 = #[.string ⟨(txM b a 0).toArray⟩, .string ⟨(txM b a 1).toArray⟩, .string ⟨(txM b a 2).toArray⟩] := rfl
theorem ret_none {w w' : World} {r : Cst × Int × Int} {e : Int} (h : r = (noneC, 0, e)) (hb : Below w.heap.size w w') :
    GivesC w r (.returned (.tuple #[.agg #[.int .i64 0, .int .i64 0, .string ⟨#[]⟩, .string ⟨#[]⟩, .string ⟨#[]⟩], .int .i64 0, .int .i64 e])) w' := by subst h; exact ⟨rfl, hb⟩

set_option maxRecDepth 100000 in
set_option maxHeartbeats 4000000 in
theorem getMember_any (k : Int) (A : Option Addr) (l : List UInt8) (n cap : Nat) (a : Int) (w : World) (hn : n = l.length) (hnc : n ≤ cap) (hm : cap ≤ maxLen) (ha0 : -9223372036854775808 ≤ a) (ha1 : a ≤ 9223372036854775807) (hr : Rds w A (cells8 l)) :
    Calls Tryz.prog 171 #[.int .i64 k, .slice A n cap, .int .i64 a] w (GivesC w (getM k l a)) := by
  have hln : l.length ≤ 9223372036854775807 := by unfold maxLen at hm; omega
  have Hn := Lib.hid hn
  have Hr := Lib.hid hr
  clear hn hr
  go_enter Tryz.func171, Tryz.ntmps171
  go_wp2
  go_loopw [2, 10, 11, 12, 13, 14] (fun at_ _ _ _ _ i wr => RelM w l a at_ i wr) (fun _ _ _ _ _ i _ => 3 - (intOf i).toNat)
  case atStart => exact ⟨0, by omega, rfl, rfl, by omega, rfl⟩
  case round =>
    obtain ⟨j, hj, rfl, rfl, her, rfl⟩ := hrel
    have hjj : j = 0 ∨ j = 1 ∨ j = 2 ∨ j = 3 := by omega
    rcases hjj with rfl | rfl | rfl | rfl
    · have HW := Lib.hid (((Below.refl w.heap.size w).alloc (Nat.le_refl _) (.cells #[.int .i64 0, .int .i64 0, .string ⟨#[]⟩, .string ⟨#[]⟩, .string ⟨#[]⟩] 40)).alloc (by simp) (.cells (arrM l a 0) 211))
      rw [arr0] at HW
      rw [arr0]
      have hb := at_in ha0 ha1 hln her
      have hT := getText_any A l n cap (atM l a 0) 256 _ Hn.out hnc hm hb.1 hb.2 (Hr.out.below HW.out)
      by_cases he : (getT l (atM l a 0) 256).2.2 = 0
      · have her2 : ∀ i, i < 1 → erM l a i = 0 := by
          intro i hi
          rcases Nat.lt_or_ge i 0 with h | h
          · exact her i h
          · have : i = 0 := by omega
            subst this; exact he
        have Her := Lib.hid her2
        have Hat := Lib.hid (show atM l a 1 = (getT l (atM l a 0) 256).2.1 from rfl)
        have Htx := Lib.hid (show txM l a 0 = (getT l (atM l a 0) 256).1 from rfl)
        generalize getT l (atM l a 0) 256 = T at *
        obtain ⟨x, pl, er⟩ := T
        simp only at he
        subst he
        unfold threeT at hT
        have HT := Lib.hid hT
        clear hT her her2 hb
        go_wp2_with fail
        refine Calls.mono HT.out ?_
        rintro e w' ⟨rfl, rfl⟩
        go_wp2_with fail
        go_roundw
        case rel => exact ⟨1, by omega, by go_num, by rw [Hat.out], Her.out, by rw [arr1, Htx.out]⟩
        case measure => simp [intOf]
      · have H := Lib.hid (getM_err (k := k) (j := 0) (by omega) her he)
        unfold erM at H
        generalize getT l (atM l a 0) 256 = T at *
        obtain ⟨x, pl, er⟩ := T
        simp only at he H
        have he2 : (er != 0) = true := by simpa using he
        unfold threeT at hT
        have HT := Lib.hid hT
        clear hT her hb he
        go_wp2_with fail
        refine Calls.mono HT.out ?_
        rintro e w' ⟨rfl, rfl⟩
        go_wp2_with fail
        refine bodyPost_ret (v := .tuple #[.agg #[.int .i64 0, .int .i64 0, .string ⟨#[]⟩, .string ⟨#[]⟩, .string ⟨#[]⟩], .int .i64 0, .int .i64 er]) (by simp [results, Tryz.results171, go_sem]) rfl (ret_none H.out HW.out)
    · have HW := Lib.hid (((Below.refl w.heap.size w).alloc (Nat.le_refl _) (.cells #[.int .i64 0, .int .i64 0, .string ⟨#[]⟩, .string ⟨#[]⟩, .string ⟨#[]⟩] 40)).alloc (by simp) (.cells (arrM l a 1) 211))
      rw [arr1] at HW
      rw [arr1]
      have hb := at_in ha0 ha1 hln her
      have hT := getText_any A l n cap (atM l a 1) 256 _ Hn.out hnc hm hb.1 hb.2 (Hr.out.below HW.out)
      by_cases he : (getT l (atM l a 1) 256).2.2 = 0
      · have her2 : ∀ i, i < 2 → erM l a i = 0 := by
          intro i hi
          rcases Nat.lt_or_ge i 1 with h | h
          · exact her i h
          · have : i = 1 := by omega
            subst this; exact he
        have Her := Lib.hid her2
        have Hat := Lib.hid (show atM l a 2 = (getT l (atM l a 1) 256).2.1 from rfl)
        have Htx := Lib.hid (show txM l a 1 = (getT l (atM l a 1) 256).1 from rfl)
        generalize getT l (atM l a 1) 256 = T at *
        obtain ⟨x, pl, er⟩ := T
        simp only at he
        subst he
        unfold threeT at hT
        have HT := Lib.hid hT
        clear hT her her2 hb
        go_wp2_with fail
        refine Calls.mono HT.out ?_
        rintro e w' ⟨rfl, rfl⟩
        go_wp2_with fail
        go_roundw
        case rel => exact ⟨2, by omega, by go_num, by rw [Hat.out], Her.out, by rw [arr2, Htx.out]⟩
        case measure => simp [intOf]
      · have H := Lib.hid (getM_err (k := k) (j := 1) (by omega) her he)
        unfold erM at H
        generalize getT l (atM l a 1) 256 = T at *
        obtain ⟨x, pl, er⟩ := T
        simp only at he H
        have he2 : (er != 0) = true := by simpa using he
        unfold threeT at hT
        have HT := Lib.hid hT
        clear hT her hb he
        go_wp2_with fail
        refine Calls.mono HT.out ?_
        rintro e w' ⟨rfl, rfl⟩
        go_wp2_with fail
        refine bodyPost_ret (v := .tuple #[.agg #[.int .i64 0, .int .i64 0, .string ⟨#[]⟩, .string ⟨#[]⟩, .string ⟨#[]⟩], .int .i64 0, .int .i64 er]) (by simp [results, Tryz.results171, go_sem]) rfl (ret_none H.out HW.out)
    · have HW := Lib.hid (((Below.refl w.heap.size w).alloc (Nat.le_refl _) (.cells #[.int .i64 0, .int .i64 0, .string ⟨#[]⟩, .string ⟨#[]⟩, .string ⟨#[]⟩] 40)).alloc (by simp) (.cells (arrM l a 2) 211))
      rw [arr2] at HW
      rw [arr2]
      have hb := at_in ha0 ha1 hln her
      have hT := getText_any A l n cap (atM l a 2) 256 _ Hn.out hnc hm hb.1 hb.2 (Hr.out.below HW.out)
      by_cases he : (getT l (atM l a 2) 256).2.2 = 0
      · have her2 : ∀ i, i < 3 → erM l a i = 0 := by
          intro i hi
          rcases Nat.lt_or_ge i 2 with h | h
          · exact her i h
          · have : i = 2 := by omega
            subst this; exact he
        have Her := Lib.hid her2
        have Hat := Lib.hid (show atM l a 3 = (getT l (atM l a 2) 256).2.1 from rfl)
        have Htx := Lib.hid (show txM l a 2 = (getT l (atM l a 2) 256).1 from rfl)
        generalize getT l (atM l a 2) 256 = T at *
        obtain ⟨x, pl, er⟩ := T
        simp only at he
        subst he
        unfold threeT at hT
        have HT := Lib.hid hT
        clear hT her her2 hb
        go_wp2_with fail
        refine Calls.mono HT.out ?_
        rintro e w' ⟨rfl, rfl⟩
        go_wp2_with fail
        go_roundw
        case rel => exact ⟨3, by omega, by go_num, by rw [Hat.out], Her.out, by rw [arr3, Htx.out]⟩
        case measure => simp [intOf]
      · have H := Lib.hid (getM_err (k := k) (j := 2) (by omega) her he)
        unfold erM at H
        generalize getT l (atM l a 2) 256 = T at *
        obtain ⟨x, pl, er⟩ := T
        simp only at he H
        have he2 : (er != 0) = true := by simpa using he
        unfold threeT at hT
        have HT := Lib.hid hT
        clear hT her hb he
        go_wp2_with fail
        refine Calls.mono HT.out ?_
        rintro e w' ⟨rfl, rfl⟩
        go_wp2_with fail
        refine bodyPost_ret (v := .tuple #[.agg #[.int .i64 0, .int .i64 0, .string ⟨#[]⟩, .string ⟨#[]⟩, .string ⟨#[]⟩], .int .i64 0, .int .i64 er]) (by simp [results, Tryz.results171, go_sem]) rfl (ret_none H.out HW.out)
    · have HW := Lib.hid (((Below.refl w.heap.size w).alloc (Nat.le_refl _) (.cells #[.int .i64 k, .int .i64 0, .string ⟨(txM l a 0).toArray⟩, .string ⟨(txM l a 1).toArray⟩, .string ⟨(txM l a 2).toArray⟩] 40)).alloc (by simp) (.cells (arrM l a 3) 211))
      have H := Lib.hid (getM_ok (k := k) her)
      rw [arr3] at HW
      rw [arr3]
      generalize txM l a 0 = x0 at *
      generalize txM l a 1 = x1 at *
      generalize txM l a 2 = x2 at *
      generalize atM l a 3 = p3 at *
      clear her
      go_wp2_with fail
      refine bodyPost_ret (v := .tuple #[.agg #[.int .i64 k, .int .i64 0, .string ⟨x0.toArray⟩, .string ⟨x1.toArray⟩, .string ⟨x2.toArray⟩], .int .i64 p3, .int .i64 0]) (by simp [results, Tryz.results171, go_sem]) rfl (givesC H.out HW.out)

end PoolS

namespace PoolT
open Go.RowKit Base BinM BinE BinText BinGet DescM Stru PoolM PoolA PoolB PoolS

/-- what is read behind a kind -/
def firstC (k : Int) (b : List UInt8) (p : Int) : Cst × Int × Int :=
  if k = 1 then (⟨1, (getS b p).1, [], [], []⟩, (getS b p).2.1, (getS b p).2.2)
  else if k = 2 then (⟨2, 0, (getT b p 64).1, [], []⟩, (getT b p 64).2.1, (getT b p 64).2.2)
  else if k = 3 then (⟨3, 0, (getT b p 256).1, [], []⟩, (getT b p 256).2.1, (getT b p 256).2.2)
  else getM k b p
/-- what comes of it -/
def finC (r : Cst × Int × Int) : Cst × Int × Int := if r.2.2 ≠ 0 then (noneC, 0, r.2.2) else if rightC r.1 = true then (r.1, r.2.1, 0) else (noneC, 0, 11)
/-- a constant at a place -/
def getC (b : List UInt8) (a : Int) : Cst × Int × Int :=
  if (getS b a).2.2 ≠ 0 then (noneC, 0, (getS b a).2.2) else if (getS b a).1 < 1 ∨ 5 < (getS b a).1 then (noneC, 0, 11) else finC (firstC (getS b a).1 b (getS b a).2.1)

theorem getC_err {b : List UInt8} {a : Int} (h : (getS b a).2.2 ≠ 0) : getC b a = (noneC, 0, (getS b a).2.2) := by unfold getC; rw [if_pos h]
theorem getC_kind {b : List UInt8} {a : Int} (h : (getS b a).2.2 = 0) (h2 : (getS b a).1 < 1 ∨ 5 < (getS b a).1) : getC b a = (noneC, 0, 11) := by unfold getC; rw [if_neg (by omega), if_pos h2]
theorem getC_fin {b : List UInt8} {a : Int} (h : (getS b a).2.2 = 0) (h2 : ¬ ((getS b a).1 < 1 ∨ 5 < (getS b a).1)) : getC b a = finC (firstC (getS b a).1 b (getS b a).2.1) := by unfold getC; rw [if_neg (by omega), if_neg h2]
theorem fin_err {c : Cst} {p e : Int} (h : e ≠ 0) : finC (c, p, e) = (noneC, 0, e) := by unfold finC; rw [if_pos h]
theorem fin_yes {c : Cst} {p : Int} (h : rightC c = true) : finC (c, p, 0) = (c, p, 0) := by unfold finC; rw [if_neg (by simp), if_pos h]
theorem fin_no {c : Cst} {p : Int} (h : rightC c = false) : finC (c, p, 0) = (noneC, 0, 11) := by unfold finC; rw [if_neg (by simp), if_neg (by simp [h])]

/-- two boxes made ahead: the result's, empty, and the constant's -/
def Two (w wr : World) (C : Array Value) : Prop :=
  wr.heap[w.heap.size]? = some (.cells #[.int .i64 0, .int .i64 0, .string ⟨#[]⟩, .string ⟨#[]⟩, .string ⟨#[]⟩] 40 (0, 0)) ∧ wr.heap[w.heap.size + 1]? = some (.cells C 40 (0, 0)) ∧ Below w.heap.size w wr ∧ w.heap.size + 1 < wr.heap.size
theorem Two.start (w : World) (C : Array Value) : Two w ((w.alloc (.cells #[.int .i64 0, .int .i64 0, .string ⟨#[]⟩, .string ⟨#[]⟩, .string ⟨#[]⟩] 40)).alloc (.cells C 40)) C := by
  refine ⟨?_, ?_, ((Below.refl w.heap.size w).alloc (Nat.le_refl _) _).alloc (by simp) _, by simp⟩
  · exact heap_alloc2_old _ _ _
  · have := heap_alloc_new (w.alloc (.cells #[.int .i64 0, .int .i64 0, .string ⟨#[]⟩, .string ⟨#[]⟩, .string ⟨#[]⟩] 40)) (.cells C 40)
    simpa using this
theorem Two.after {w wr w3 : World} {C : Array Value} (h : Two w wr C) (hb : Below wr.heap.size wr w3) : Two w w3 C :=
  ⟨(hb.block _ (by have := h.2.2.2; omega)).trans h.1, (hb.block _ h.2.2.2).trans h.2.1, h.2.2.1.trans (hb.mono (by have := h.2.2.2; omega)), Nat.lt_of_lt_of_le h.2.2.2 hb.size⟩
theorem Two.store {w wr : World} {C : Array Value} (h : Two w wr C) (C' : Array Value) : Two w (wr.setRow (w.heap.size + 1) C') C' :=
  ⟨(setRow_other wr _ _ _ (by omega)).trans h.1, BinCut.heap_setRow_same wr _ _ C' _ h.2.1, below_setRow h.2.2.1 (by omega) C', by simpa [World.setRow] using h.2.2.2⟩
theorem Two.box {w wr : World} {k n : Int} {s t u : List UInt8} (h : Two w wr #[.int .i64 k, .int .i64 n, .string ⟨s.toArray⟩, .string ⟨t.toArray⟩, .string ⟨u.toArray⟩]) : boxC wr (w.heap.size + 1) k n s t u := by
  refine ⟨?_, ?_, ?_, ?_, ?_⟩
  all_goals (rw [cell_of_row _ _ _ _ _ (0, 0) h.2.1]; rfl)

theorem sizeC : (Tryz.prog.info? 40).map (·.size) = some 5 := by kernel_rfl
theorem results3 {P : Program} {fn : Func} {p t1 t2 : Tmp} {ty : TypeId} (h : fn.results = #[.cell p ty, .tmp t1, .tmp t2]) (tmps : Array Value) (w : World) (a : Addr) (x : Value)
    (hp : tmps.getD p undef = .pointer (some a)) (hl : (loadVar ty a).run P w = .ok x w) : (results fn tmps).run P w = .ok (.tuple #[x, tmps.getD t1 undef, tmps.getD t2 undef]) w := by
  have hp' : tmps[p]?.getD undef = .pointer (some a) := by simpa using hp
  simp [results, h, hp', asAddr, hl]
theorem Two.five {w wr : World} {C : Array Value} (h : Two w wr C) (k n : Int) (s t u : List UInt8) :
    (loadVar 40 ⟨w.heap.size, 0, none⟩).run Tryz.prog (((((wr.setCell ⟨w.heap.size, 0, none⟩ (.int .i64 k)).setCell ⟨w.heap.size, 1, none⟩ (.int .i64 n)).setCell ⟨w.heap.size, 2, none⟩ (.string ⟨s.toArray⟩)).setCell ⟨w.heap.size, 3, none⟩ (.string ⟨t.toArray⟩)).setCell ⟨w.heap.size, 4, none⟩ (.string ⟨u.toArray⟩)) =
      .ok (cstV ⟨k, n, s, t, u⟩) (((((wr.setCell ⟨w.heap.size, 0, none⟩ (.int .i64 k)).setCell ⟨w.heap.size, 1, none⟩ (.int .i64 n)).setCell ⟨w.heap.size, 2, none⟩ (.string ⟨s.toArray⟩)).setCell ⟨w.heap.size, 3, none⟩ (.string ⟨t.toArray⟩)).setCell ⟨w.heap.size, 4, none⟩ (.string ⟨u.toArray⟩)) ∧
    Below w.heap.size w (((((wr.setCell ⟨w.heap.size, 0, none⟩ (.int .i64 k)).setCell ⟨w.heap.size, 1, none⟩ (.int .i64 n)).setCell ⟨w.heap.size, 2, none⟩ (.string ⟨s.toArray⟩)).setCell ⟨w.heap.size, 3, none⟩ (.string ⟨t.toArray⟩)).setCell ⟨w.heap.size, 4, none⟩ (.string ⟨u.toArray⟩)) := by
  have h0 := heap_setCell_same _ _ 0 _ _ (.int .i64 k) h.1
  have h1 := heap_setCell_same _ _ 1 _ _ (.int .i64 n) h0
  have h2 := heap_setCell_same _ _ 2 _ _ (.string ⟨s.toArray⟩) h1
  have h3 := heap_setCell_same _ _ 3 _ _ (.string ⟨t.toArray⟩) h2
  have h4 := heap_setCell_same _ _ 4 _ _ (.string ⟨u.toArray⟩) h3
  refine ⟨?_, ((((h.2.2.1.setCell (Nat.le_refl _) _).setCell (Nat.le_refl _) _).setCell (Nat.le_refl _) _).setCell (Nat.le_refl _) _).setCell (Nat.le_refl _) _⟩
  exact run_loadVar_row _ _ _ _ #[.int .i64 k, .int .i64 n, .string ⟨s.toArray⟩, .string ⟨t.toArray⟩, .string ⟨u.toArray⟩] (0, 0) _ h4 Tryz.underlying40 rfl sizeC
theorem Two.zero {w wr : World} {C : Array Value} (h : Two w wr C) : boxC wr w.heap.size 0 0 [] [] [] := by
  refine ⟨?_, ?_, ?_, ?_, ?_⟩
  all_goals (rw [cell_of_row _ _ _ _ _ (0, 0) h.1]; rfl)
theorem Two.free {w wr : World} {C : Array Value} (h : Two w wr C) (j : Nat) : wr.frozen? ⟨w.heap.size, j, none⟩ = false := frozen_of_row wr _ j _ _ h.1
theorem Two.free1 {w wr : World} {C : Array Value} (h : Two w wr C) (j : Nat) : wr.frozen? ⟨w.heap.size + 1, j, none⟩ = false := frozen_of_row wr _ j _ _ h.2.1
theorem retC3 {w w' : World} {r : Cst × Int × Int} {c : Cst} {p e : Int} (h : r = (c, p, e)) (hb : Below w.heap.size w w') : GivesC w r (.returned (.tuple #[cstV c, .int .i64 p, .int .i64 e])) w' := by subst h; exact ⟨rfl, hb⟩

theorem Two.five1 {w wr : World} {C : Array Value} (h : Two w wr C) (hC : C.size = 5) (k n : Int) (s t u : List UInt8) :
    Two w (((((wr.setCell ⟨w.heap.size + 1, 0, none⟩ (.int .i64 k)).setCell ⟨w.heap.size + 1, 1, none⟩ (.int .i64 n)).setCell ⟨w.heap.size + 1, 2, none⟩ (.string ⟨s.toArray⟩)).setCell ⟨w.heap.size + 1, 3, none⟩ (.string ⟨t.toArray⟩)).setCell ⟨w.heap.size + 1, 4, none⟩ (.string ⟨u.toArray⟩))
      #[.int .i64 k, .int .i64 n, .string ⟨s.toArray⟩, .string ⟨t.toArray⟩, .string ⟨u.toArray⟩] := by
  obtain ⟨c0, c1, c2, c3, c4, rfl⟩ : ∃ c0 c1 c2 c3 c4, C = #[c0, c1, c2, c3, c4] := by
    obtain ⟨l⟩ := C
    match l, hC with
    | [c0, c1, c2, c3, c4], _ => exact ⟨c0, c1, c2, c3, c4, rfl⟩
  have h0 := heap_setCell_same _ _ 0 _ _ (.int .i64 k) h.2.1
  have h1 := heap_setCell_same _ _ 1 _ _ (.int .i64 n) h0
  have h2 := heap_setCell_same _ _ 2 _ _ (.string ⟨s.toArray⟩) h1
  have h3 := heap_setCell_same _ _ 3 _ _ (.string ⟨t.toArray⟩) h2
  have h4 := heap_setCell_same _ _ 4 _ _ (.string ⟨u.toArray⟩) h3
  have hle : w.heap.size ≤ w.heap.size + 1 := by omega
  refine ⟨?_, h4, ((((h.2.2.1.setCell hle _).setCell hle _).setCell hle _).setCell hle _).setCell hle _, by simpa using h.2.2.2⟩
  rw [heap_setCell_other _ _ _ _ (by simp), heap_setCell_other _ _ _ _ (by simp), heap_setCell_other _ _ _ _ (by simp), heap_setCell_other _ _ _ _ (by simp), heap_setCell_other _ _ _ _ (by simp)]
  exact h.1
theorem getM_short (k : Int) (b : List UInt8) (a : Int) : (getM k b a).1.s.length ≤ 256 ∧ (getM k b a).1.t.length ≤ 256 ∧ (getM k b a).1.u.length ≤ 256 := by
  unfold getM
  by_cases h0 : erM b a 0 = 0
  · rw [if_neg (by omega)]
    by_cases h1 : erM b a 1 = 0
    · rw [if_neg (by omega)]
      by_cases h2 : erM b a 2 = 0
      · rw [if_neg (by omega)]
        have e0 := (getT_ok h0).2.2
        have e1 := (getT_ok h1).2.2
        have e2 := (getT_ok h2).2.2
        unfold txM
        exact ⟨by simpa using Int.ofNat_le.1 e0, by simpa using Int.ofNat_le.1 e1, by simpa using Int.ofNat_le.1 e2⟩
      · rw [if_pos h2]; simp [noneC]
    · rw [if_pos h1]; simp [noneC]
  · rw [if_pos h0]; simp [noneC]

set_option maxRecDepth 100000 in
set_option maxHeartbeats 8000000 in
theorem poolGet_any (A : Option Addr) (l : List UInt8) (n cap : Nat) (a : Int) (w : World) (hn : n = l.length) (hnc : n ≤ cap) (hm : cap ≤ maxLen) (ha0 : -9223372036854775808 ≤ a) (ha1 : a ≤ 9223372036854775807) (hr : Rds w A (cells8 l)) :
    Calls Tryz.prog 140 #[.slice A n cap, .int .i64 a] w (GivesC w (getC l a)) := by
  have hln : l.length ≤ 9223372036854775807 := by unfold maxLen at hm; omega
  have hnm : n ≤ maxLen := Nat.le_trans hnc hm
  have HB := Lib.hid ((Below.refl w.heap.size w).alloc (Nat.le_refl _) (.cells #[.int .i64 0, .int .i64 0, .string ⟨#[]⟩, .string ⟨#[]⟩, .string ⟨#[]⟩] 40))
  have hg := get_any A l n cap a (w.alloc (.cells #[.int .i64 0, .int .i64 0, .string ⟨#[]⟩, .string ⟨#[]⟩, .string ⟨#[]⟩] 40)) hn hnm ha0 ha1 (hr.below HB.out)
  have Hn := Lib.hid hn
  have Hr := Lib.hid hr
  clear hn hr
  by_cases h1 : (getS l a).2.2 = 0
  · have hok := getS_ok h1
    by_cases h2 : (getS l a).1 < 1 ∨ 5 < (getS l a).1
    · have H := Lib.hid (getC_kind h1 h2)
      generalize getS l a = g at *
      obtain ⟨v, pl, er⟩ := g
      simp only at h1 h2
      subst h1
      unfold three at hg
      have Hg := Lib.hid hg
      clear hg hok
      by_cases h3 : v < 1
      · clear h2
        go_enter Tryz.func140, Tryz.ntmps140
        go_wp2_with fail
        refine Calls.mono Hg.out ?_
        rintro e w' ⟨rfl, rfl⟩
        go_wp2_with fail
        refine bodyPost_ret (v := .tuple #[.agg #[.int .i64 0, .int .i64 0, .string ⟨#[]⟩, .string ⟨#[]⟩, .string ⟨#[]⟩], .int .i64 0, .int .i64 11]) (by simp [results, Tryz.results140, go_sem]) rfl (ret_none H.out HB.out)
      · have h4 : 5 < v := by omega
        clear h2
        go_enter Tryz.func140, Tryz.ntmps140
        go_wp2_with fail
        refine Calls.mono Hg.out ?_
        rintro e w' ⟨rfl, rfl⟩
        go_wp2_with fail
        refine bodyPost_ret (v := .tuple #[.agg #[.int .i64 0, .int .i64 0, .string ⟨#[]⟩, .string ⟨#[]⟩, .string ⟨#[]⟩], .int .i64 0, .int .i64 11]) (by simp [results, Tryz.results140, go_sem]) rfl (ret_none H.out HB.out)
    · have H := Lib.hid (getC_fin h1 h2)
      generalize getC l a = R at *
      generalize getS l a = g at *
      obtain ⟨v, pl, er⟩ := g
      simp only at h1 h2 hok H
      subst h1
      unfold three at hg
      have Hg := Lib.hid hg
      obtain ⟨hp0, hp1, _, _⟩ := hok
      clear hg
      have hv : v = 1 ∨ v = 2 ∨ v = 3 ∨ v = 4 ∨ v = 5 := by omega
      clear h2
      rcases hv with rfl | rfl | rfl | rfl | rfl
      · have HW := Lib.hid (Two.start w #[.int .i64 1, .int .i64 0, .string ⟨#[]⟩, .string ⟨#[]⟩, .string ⟨#[]⟩])
        have hT := get_any A l n cap pl ((w.alloc (.cells #[.int .i64 0, .int .i64 0, .string ⟨#[]⟩, .string ⟨#[]⟩, .string ⟨#[]⟩] 40)).alloc (.cells #[.int .i64 1, .int .i64 0, .string ⟨#[]⟩, .string ⟨#[]⟩, .string ⟨#[]⟩] 40)) Hn.out hnm (by omega) (by omega) (Hr.out.below HW.out.2.2.1)
        have hfr : firstC 1 l pl = (⟨1, (getS l pl).1, [], [], []⟩, (getS l pl).2.1, (getS l pl).2.2) := rfl
        rw [hfr] at H
        clear hfr
        generalize getS l pl = T at *
        obtain ⟨x, p2, er⟩ := T
        unfold three at hT
        have HT := Lib.hid hT
        clear hT
        simp only at H
        by_cases he : er = 0
        · subst he
          have HT2 := Lib.hid (Two.start w #[.int .i64 1, .int .i64 x, .string ⟨#[]⟩, .string ⟨#[]⟩, .string ⟨#[]⟩])
          cases hrt : rightC (⟨1, x, ([] : List UInt8), ([] : List UInt8), ([] : List UInt8)⟩ : Cst)
          · have H := Lib.hid (H.out.trans (fin_no hrt))
            have Hrt := Lib.hid hrt
            clear hrt
            go_enter Tryz.func140, Tryz.ntmps140
            go_wp2_with fail
            refine Calls.mono Hg.out ?_
            rintro e w' ⟨rfl, rfl⟩
            go_wp2_with fail
            refine Calls.mono HT.out ?_
            rintro e w' ⟨rfl, rfl⟩
            go_wp2_with fail
            refine (poolRight_any 1 x ([] : List UInt8) ([] : List UInt8) ([] : List UInt8) _ (by first | omega | simp) (by first | omega | simp) (by first | omega | simp)).mono ?_
            rw [Hrt.out]
            rintro e w3 ⟨rfl, hb3⟩
            have Htwo := Lib.hid (HT2.out.after hb3)
            obtain ⟨hc0, hc1, hc2, hc3, hc4⟩ := Two.box (k := 1) (n := x) (s := ([] : List UInt8)) (t := ([] : List UInt8)) (u := ([] : List UInt8)) Htwo.out
            clear hb3
            obtain ⟨hz0, hz1, hz2, hz3, hz4⟩ := Htwo.out.zero
            have hf0 := Htwo.out.free 0
            have hf1 := Htwo.out.free 1
            have hf2 := Htwo.out.free 2
            have hf3 := Htwo.out.free 3
            have hf4 := Htwo.out.free 4
            go_wp2_with fail
            refine bodyPost_ret (v := .tuple #[cstV noneC, .int .i64 0, .int .i64 11]) (results3 Tryz.results140 _ _ _ _ rfl (Htwo.out.five 0 0 [] [] []).1) rfl (retC3 H.out (Htwo.out.five 0 0 [] [] []).2)
          · have H := Lib.hid (H.out.trans (fin_yes hrt))
            have Hrt := Lib.hid hrt
            clear hrt
            go_enter Tryz.func140, Tryz.ntmps140
            go_wp2_with fail
            refine Calls.mono Hg.out ?_
            rintro e w' ⟨rfl, rfl⟩
            go_wp2_with fail
            refine Calls.mono HT.out ?_
            rintro e w' ⟨rfl, rfl⟩
            go_wp2_with fail
            refine (poolRight_any 1 x ([] : List UInt8) ([] : List UInt8) ([] : List UInt8) _ (by first | omega | simp) (by first | omega | simp) (by first | omega | simp)).mono ?_
            rw [Hrt.out]
            rintro e w3 ⟨rfl, hb3⟩
            have Htwo := Lib.hid (HT2.out.after hb3)
            obtain ⟨hc0, hc1, hc2, hc3, hc4⟩ := Two.box (k := 1) (n := x) (s := ([] : List UInt8)) (t := ([] : List UInt8)) (u := ([] : List UInt8)) Htwo.out
            clear hb3
            obtain ⟨hz0, hz1, hz2, hz3, hz4⟩ := Htwo.out.zero
            have hf0 := Htwo.out.free 0
            have hf1 := Htwo.out.free 1
            have hf2 := Htwo.out.free 2
            have hf3 := Htwo.out.free 3
            have hf4 := Htwo.out.free 4
            go_wp2_with fail
            refine bodyPost_ret (v := .tuple #[cstV ⟨1, x, ([] : List UInt8), ([] : List UInt8), ([] : List UInt8)⟩, .int .i64 p2, .int .i64 0]) (results3 Tryz.results140 _ _ _ _ rfl (Htwo.out.five 1 x ([] : List UInt8) ([] : List UInt8) ([] : List UInt8)).1) rfl (retC3 H.out (Htwo.out.five 1 x ([] : List UInt8) ([] : List UInt8) ([] : List UInt8)).2)
        · have H := Lib.hid (H.out.trans (fin_err he))
          have he2 : (er != 0) = true := by simpa using he
          have he3 : (er == 0) = false := by simpa using he
          clear he
          go_enter Tryz.func140, Tryz.ntmps140
          go_wp2_with fail
          refine Calls.mono Hg.out ?_
          rintro e w' ⟨rfl, rfl⟩
          go_wp2_with fail
          refine Calls.mono HT.out ?_
          rintro e w' ⟨rfl, rfl⟩
          go_wp2_with fail
          refine bodyPost_ret (v := .tuple #[.agg #[.int .i64 0, .int .i64 0, .string ⟨#[]⟩, .string ⟨#[]⟩, .string ⟨#[]⟩], .int .i64 0, .int .i64 er]) (by simp [results, Tryz.results140, go_sem]) rfl (ret_none H.out (((Below.refl w.heap.size w).alloc (Nat.le_refl _) _).alloc (by simp) _))
      · have HW := Lib.hid (Two.start w #[.int .i64 2, .int .i64 0, .string ⟨#[]⟩, .string ⟨#[]⟩, .string ⟨#[]⟩])
        have hT := getText_any A l n cap pl 64 ((w.alloc (.cells #[.int .i64 0, .int .i64 0, .string ⟨#[]⟩, .string ⟨#[]⟩, .string ⟨#[]⟩] 40)).alloc (.cells #[.int .i64 2, .int .i64 0, .string ⟨#[]⟩, .string ⟨#[]⟩, .string ⟨#[]⟩] 40)) Hn.out hnc hm (by omega) (by omega) (Hr.out.below HW.out.2.2.1)
        have hfr : firstC 2 l pl = (⟨2, 0, (getT l pl 64).1, [], []⟩, (getT l pl 64).2.1, (getT l pl 64).2.2) := rfl
        rw [hfr] at H
        have hxl := getT_ok (l := l) (a := pl) (m := 64)
        clear hfr
        generalize getT l pl 64 = T at *
        obtain ⟨x, p2, er⟩ := T
        unfold threeT at hT
        have HT := Lib.hid hT
        clear hT
        simp only at H hxl
        by_cases he : er = 0
        · subst he
          have hxl2 := (hxl rfl).2.2
          have HT2 := Lib.hid (Two.start w #[.int .i64 2, .int .i64 0, .string ⟨x.toArray⟩, .string ⟨#[]⟩, .string ⟨#[]⟩])
          cases hrt : rightC (⟨2, 0, x, ([] : List UInt8), ([] : List UInt8)⟩ : Cst)
          · have H := Lib.hid (H.out.trans (fin_no hrt))
            have Hrt := Lib.hid hrt
            clear hrt
            go_enter Tryz.func140, Tryz.ntmps140
            go_wp2_with fail
            refine Calls.mono Hg.out ?_
            rintro e w' ⟨rfl, rfl⟩
            go_wp2_with fail
            refine Calls.mono HT.out ?_
            rintro e w' ⟨rfl, rfl⟩
            go_wp2_with fail
            refine (poolRight_any 2 0 x ([] : List UInt8) ([] : List UInt8) _ (by first | omega | simp) (by first | omega | simp) (by first | omega | simp)).mono ?_
            rw [Hrt.out]
            rintro e w3 ⟨rfl, hb3⟩
            have Htwo := Lib.hid (HT2.out.after hb3)
            obtain ⟨hc0, hc1, hc2, hc3, hc4⟩ := Two.box (k := 2) (n := 0) (s := x) (t := ([] : List UInt8)) (u := ([] : List UInt8)) Htwo.out
            clear hb3
            obtain ⟨hz0, hz1, hz2, hz3, hz4⟩ := Htwo.out.zero
            have hf0 := Htwo.out.free 0
            have hf1 := Htwo.out.free 1
            have hf2 := Htwo.out.free 2
            have hf3 := Htwo.out.free 3
            have hf4 := Htwo.out.free 4
            go_wp2_with fail
            refine bodyPost_ret (v := .tuple #[cstV noneC, .int .i64 0, .int .i64 11]) (results3 Tryz.results140 _ _ _ _ rfl (Htwo.out.five 0 0 [] [] []).1) rfl (retC3 H.out (Htwo.out.five 0 0 [] [] []).2)
          · have H := Lib.hid (H.out.trans (fin_yes hrt))
            have Hrt := Lib.hid hrt
            clear hrt
            go_enter Tryz.func140, Tryz.ntmps140
            go_wp2_with fail
            refine Calls.mono Hg.out ?_
            rintro e w' ⟨rfl, rfl⟩
            go_wp2_with fail
            refine Calls.mono HT.out ?_
            rintro e w' ⟨rfl, rfl⟩
            go_wp2_with fail
            refine (poolRight_any 2 0 x ([] : List UInt8) ([] : List UInt8) _ (by first | omega | simp) (by first | omega | simp) (by first | omega | simp)).mono ?_
            rw [Hrt.out]
            rintro e w3 ⟨rfl, hb3⟩
            have Htwo := Lib.hid (HT2.out.after hb3)
            obtain ⟨hc0, hc1, hc2, hc3, hc4⟩ := Two.box (k := 2) (n := 0) (s := x) (t := ([] : List UInt8)) (u := ([] : List UInt8)) Htwo.out
            clear hb3
            obtain ⟨hz0, hz1, hz2, hz3, hz4⟩ := Htwo.out.zero
            have hf0 := Htwo.out.free 0
            have hf1 := Htwo.out.free 1
            have hf2 := Htwo.out.free 2
            have hf3 := Htwo.out.free 3
            have hf4 := Htwo.out.free 4
            go_wp2_with fail
            refine bodyPost_ret (v := .tuple #[cstV ⟨2, 0, x, ([] : List UInt8), ([] : List UInt8)⟩, .int .i64 p2, .int .i64 0]) (results3 Tryz.results140 _ _ _ _ rfl (Htwo.out.five 2 0 x ([] : List UInt8) ([] : List UInt8)).1) rfl (retC3 H.out (Htwo.out.five 2 0 x ([] : List UInt8) ([] : List UInt8)).2)
        · have H := Lib.hid (H.out.trans (fin_err he))
          have he2 : (er != 0) = true := by simpa using he
          have he3 : (er == 0) = false := by simpa using he
          clear he
          go_enter Tryz.func140, Tryz.ntmps140
          go_wp2_with fail
          refine Calls.mono Hg.out ?_
          rintro e w' ⟨rfl, rfl⟩
          go_wp2_with fail
          refine Calls.mono HT.out ?_
          rintro e w' ⟨rfl, rfl⟩
          go_wp2_with fail
          refine bodyPost_ret (v := .tuple #[.agg #[.int .i64 0, .int .i64 0, .string ⟨#[]⟩, .string ⟨#[]⟩, .string ⟨#[]⟩], .int .i64 0, .int .i64 er]) (by simp [results, Tryz.results140, go_sem]) rfl (ret_none H.out (((Below.refl w.heap.size w).alloc (Nat.le_refl _) _).alloc (by simp) _))
      · have HW := Lib.hid (Two.start w #[.int .i64 3, .int .i64 0, .string ⟨#[]⟩, .string ⟨#[]⟩, .string ⟨#[]⟩])
        have hT := getText_any A l n cap pl 256 ((w.alloc (.cells #[.int .i64 0, .int .i64 0, .string ⟨#[]⟩, .string ⟨#[]⟩, .string ⟨#[]⟩] 40)).alloc (.cells #[.int .i64 3, .int .i64 0, .string ⟨#[]⟩, .string ⟨#[]⟩, .string ⟨#[]⟩] 40)) Hn.out hnc hm (by omega) (by omega) (Hr.out.below HW.out.2.2.1)
        have hfr : firstC 3 l pl = (⟨3, 0, (getT l pl 256).1, [], []⟩, (getT l pl 256).2.1, (getT l pl 256).2.2) := rfl
        rw [hfr] at H
        have hxl := getT_ok (l := l) (a := pl) (m := 256)
        clear hfr
        generalize getT l pl 256 = T at *
        obtain ⟨x, p2, er⟩ := T
        unfold threeT at hT
        have HT := Lib.hid hT
        clear hT
        simp only at H hxl
        by_cases he : er = 0
        · subst he
          have hxl2 := (hxl rfl).2.2
          have HT2 := Lib.hid (Two.start w #[.int .i64 3, .int .i64 0, .string ⟨x.toArray⟩, .string ⟨#[]⟩, .string ⟨#[]⟩])
          cases hrt : rightC (⟨3, 0, x, ([] : List UInt8), ([] : List UInt8)⟩ : Cst)
          · have H := Lib.hid (H.out.trans (fin_no hrt))
            have Hrt := Lib.hid hrt
            clear hrt
            go_enter Tryz.func140, Tryz.ntmps140
            go_wp2_with fail
            refine Calls.mono Hg.out ?_
            rintro e w' ⟨rfl, rfl⟩
            go_wp2_with fail
            refine Calls.mono HT.out ?_
            rintro e w' ⟨rfl, rfl⟩
            go_wp2_with fail
            refine (poolRight_any 3 0 x ([] : List UInt8) ([] : List UInt8) _ (by first | omega | simp) (by first | omega | simp) (by first | omega | simp)).mono ?_
            rw [Hrt.out]
            rintro e w3 ⟨rfl, hb3⟩
            have Htwo := Lib.hid (HT2.out.after hb3)
            obtain ⟨hc0, hc1, hc2, hc3, hc4⟩ := Two.box (k := 3) (n := 0) (s := x) (t := ([] : List UInt8)) (u := ([] : List UInt8)) Htwo.out
            clear hb3
            obtain ⟨hz0, hz1, hz2, hz3, hz4⟩ := Htwo.out.zero
            have hf0 := Htwo.out.free 0
            have hf1 := Htwo.out.free 1
            have hf2 := Htwo.out.free 2
            have hf3 := Htwo.out.free 3
            have hf4 := Htwo.out.free 4
            go_wp2_with fail
            refine bodyPost_ret (v := .tuple #[cstV noneC, .int .i64 0, .int .i64 11]) (results3 Tryz.results140 _ _ _ _ rfl (Htwo.out.five 0 0 [] [] []).1) rfl (retC3 H.out (Htwo.out.five 0 0 [] [] []).2)
          · have H := Lib.hid (H.out.trans (fin_yes hrt))
            have Hrt := Lib.hid hrt
            clear hrt
            go_enter Tryz.func140, Tryz.ntmps140
            go_wp2_with fail
            refine Calls.mono Hg.out ?_
            rintro e w' ⟨rfl, rfl⟩
            go_wp2_with fail
            refine Calls.mono HT.out ?_
            rintro e w' ⟨rfl, rfl⟩
            go_wp2_with fail
            refine (poolRight_any 3 0 x ([] : List UInt8) ([] : List UInt8) _ (by first | omega | simp) (by first | omega | simp) (by first | omega | simp)).mono ?_
            rw [Hrt.out]
            rintro e w3 ⟨rfl, hb3⟩
            have Htwo := Lib.hid (HT2.out.after hb3)
            obtain ⟨hc0, hc1, hc2, hc3, hc4⟩ := Two.box (k := 3) (n := 0) (s := x) (t := ([] : List UInt8)) (u := ([] : List UInt8)) Htwo.out
            clear hb3
            obtain ⟨hz0, hz1, hz2, hz3, hz4⟩ := Htwo.out.zero
            have hf0 := Htwo.out.free 0
            have hf1 := Htwo.out.free 1
            have hf2 := Htwo.out.free 2
            have hf3 := Htwo.out.free 3
            have hf4 := Htwo.out.free 4
            go_wp2_with fail
            refine bodyPost_ret (v := .tuple #[cstV ⟨3, 0, x, ([] : List UInt8), ([] : List UInt8)⟩, .int .i64 p2, .int .i64 0]) (results3 Tryz.results140 _ _ _ _ rfl (Htwo.out.five 3 0 x ([] : List UInt8) ([] : List UInt8)).1) rfl (retC3 H.out (Htwo.out.five 3 0 x ([] : List UInt8) ([] : List UInt8)).2)
        · have H := Lib.hid (H.out.trans (fin_err he))
          have he2 : (er != 0) = true := by simpa using he
          have he3 : (er == 0) = false := by simpa using he
          clear he
          go_enter Tryz.func140, Tryz.ntmps140
          go_wp2_with fail
          refine Calls.mono Hg.out ?_
          rintro e w' ⟨rfl, rfl⟩
          go_wp2_with fail
          refine Calls.mono HT.out ?_
          rintro e w' ⟨rfl, rfl⟩
          go_wp2_with fail
          refine bodyPost_ret (v := .tuple #[.agg #[.int .i64 0, .int .i64 0, .string ⟨#[]⟩, .string ⟨#[]⟩, .string ⟨#[]⟩], .int .i64 0, .int .i64 er]) (by simp [results, Tryz.results140, go_sem]) rfl (ret_none H.out (((Below.refl w.heap.size w).alloc (Nat.le_refl _) _).alloc (by simp) _))
      · have HW := Lib.hid (Two.start w #[.int .i64 4, .int .i64 0, .string ⟨#[]⟩, .string ⟨#[]⟩, .string ⟨#[]⟩])
        have hT := getMember_any 4 A l n cap pl ((w.alloc (.cells #[.int .i64 0, .int .i64 0, .string ⟨#[]⟩, .string ⟨#[]⟩, .string ⟨#[]⟩] 40)).alloc (.cells #[.int .i64 4, .int .i64 0, .string ⟨#[]⟩, .string ⟨#[]⟩, .string ⟨#[]⟩] 40)) Hn.out hnc hm (by omega) (by omega) (Hr.out.below HW.out.2.2.1)
        have hfr : firstC 4 l pl = getM 4 l pl := rfl
        rw [hfr] at H
        have hml := getM_short 4 l pl
        clear hfr
        generalize getM 4 l pl = T at *
        obtain ⟨⟨k', n', s, t, u⟩, p2, er⟩ := T
        unfold GivesC cst3 cstV at hT
        simp only at hT hml
        obtain ⟨hs, ht, hu⟩ := hml
        have HT := Lib.hid hT
        clear hT
        by_cases he : er = 0
        · subst he
          cases hrt : rightC ⟨k', n', s, t, u⟩
          · have H := Lib.hid (H.out.trans (fin_no hrt))
            have Hrt := Lib.hid hrt
            clear hrt
            go_enter Tryz.func140, Tryz.ntmps140
            go_wp2_with fail
            refine Calls.mono Hg.out ?_
            rintro e w' ⟨rfl, rfl⟩
            go_wp2_with fail
            refine Calls.mono HT.out ?_
            rintro e w2 ⟨rfl, hb2⟩
            have Htw := Lib.hid (HW.out.after hb2)
            have Htw2 := Lib.hid (Htw.out.five1 rfl k' n' s t u)
            obtain ⟨hb0, hb1, hb2', hb3', hb4⟩ := Two.box (k := 4) (n := 0) (s := []) (t := []) (u := []) Htw.out
            have hsz2 := Htw.out.2.2.2
            clear hb2
            obtain ⟨hz0, hz1, hz2, hz3, hz4⟩ := Htw.out.zero
            have hf0 := Htw.out.free 0
            have hf1 := Htw.out.free 1
            have hf2 := Htw.out.free 2
            have hf3 := Htw.out.free 3
            have hf4 := Htw.out.free 4
            have hq0 := Htw.out.free1 0
            have hq1 := Htw.out.free1 1
            have hq2 := Htw.out.free1 2
            have hq3 := Htw.out.free1 3
            have hq4 := Htw.out.free1 4
            go_wp2_with fail
            refine (poolRight_any k' n' s t u _ (by omega) (by omega) (by omega)).mono ?_
            rw [Hrt.out]
            rintro e w3 ⟨rfl, hb3⟩
            have Htwo := Lib.hid (Htw2.out.after hb3)
            obtain ⟨hc0, hc1, hc2, hc3, hc4⟩ := Two.box (k := k') (n := n') (s := s) (t := t) (u := u) Htwo.out
            clear hb3 hz0 hz1 hz2 hz3 hz4 hf0 hf1 hf2 hf3 hf4
            obtain ⟨hz0, hz1, hz2, hz3, hz4⟩ := Htwo.out.zero
            have hf0 := Htwo.out.free 0
            have hf1 := Htwo.out.free 1
            have hf2 := Htwo.out.free 2
            have hf3 := Htwo.out.free 3
            have hf4 := Htwo.out.free 4
            go_wp2_with fail
            refine bodyPost_ret (v := .tuple #[cstV noneC, .int .i64 0, .int .i64 11]) (results3 Tryz.results140 _ _ _ _ rfl (Htwo.out.five 0 0 [] [] []).1) rfl (retC3 H.out (Htwo.out.five 0 0 [] [] []).2)
          · have H := Lib.hid (H.out.trans (fin_yes hrt))
            have Hrt := Lib.hid hrt
            clear hrt
            go_enter Tryz.func140, Tryz.ntmps140
            go_wp2_with fail
            refine Calls.mono Hg.out ?_
            rintro e w' ⟨rfl, rfl⟩
            go_wp2_with fail
            refine Calls.mono HT.out ?_
            rintro e w2 ⟨rfl, hb2⟩
            have Htw := Lib.hid (HW.out.after hb2)
            have Htw2 := Lib.hid (Htw.out.five1 rfl k' n' s t u)
            obtain ⟨hb0, hb1, hb2', hb3', hb4⟩ := Two.box (k := 4) (n := 0) (s := []) (t := []) (u := []) Htw.out
            have hsz2 := Htw.out.2.2.2
            clear hb2
            obtain ⟨hz0, hz1, hz2, hz3, hz4⟩ := Htw.out.zero
            have hf0 := Htw.out.free 0
            have hf1 := Htw.out.free 1
            have hf2 := Htw.out.free 2
            have hf3 := Htw.out.free 3
            have hf4 := Htw.out.free 4
            have hq0 := Htw.out.free1 0
            have hq1 := Htw.out.free1 1
            have hq2 := Htw.out.free1 2
            have hq3 := Htw.out.free1 3
            have hq4 := Htw.out.free1 4
            go_wp2_with fail
            refine (poolRight_any k' n' s t u _ (by omega) (by omega) (by omega)).mono ?_
            rw [Hrt.out]
            rintro e w3 ⟨rfl, hb3⟩
            have Htwo := Lib.hid (Htw2.out.after hb3)
            obtain ⟨hc0, hc1, hc2, hc3, hc4⟩ := Two.box (k := k') (n := n') (s := s) (t := t) (u := u) Htwo.out
            clear hb3 hz0 hz1 hz2 hz3 hz4 hf0 hf1 hf2 hf3 hf4
            obtain ⟨hz0, hz1, hz2, hz3, hz4⟩ := Htwo.out.zero
            have hf0 := Htwo.out.free 0
            have hf1 := Htwo.out.free 1
            have hf2 := Htwo.out.free 2
            have hf3 := Htwo.out.free 3
            have hf4 := Htwo.out.free 4
            go_wp2_with fail
            refine bodyPost_ret (v := .tuple #[cstV ⟨k', n', s, t, u⟩, .int .i64 p2, .int .i64 0]) (results3 Tryz.results140 _ _ _ _ rfl (Htwo.out.five k' n' s t u).1) rfl (retC3 H.out (Htwo.out.five k' n' s t u).2)
        · have H := Lib.hid (H.out.trans (fin_err he))
          have he2 : (er != 0) = true := by simpa using he
          have he3 : (er == 0) = false := by simpa using he
          clear he
          go_enter Tryz.func140, Tryz.ntmps140
          go_wp2_with fail
          refine Calls.mono Hg.out ?_
          rintro e w' ⟨rfl, rfl⟩
          go_wp2_with fail
          refine Calls.mono HT.out ?_
          rintro e w2 ⟨rfl, hb2⟩
          have Htw := Lib.hid (HW.out.after hb2)
          have Htw2 := Lib.hid (Htw.out.five1 rfl k' n' s t u)
          obtain ⟨hb0, hb1, hb2', hb3', hb4⟩ := Two.box (k := 4) (n := 0) (s := []) (t := []) (u := []) Htw.out
          have hsz2 := Htw.out.2.2.2
          clear hb2
          obtain ⟨hz0, hz1, hz2, hz3, hz4⟩ := Htw.out.zero
          have hf0 := Htw.out.free 0
          have hf1 := Htw.out.free 1
          have hf2 := Htw.out.free 2
          have hf3 := Htw.out.free 3
          have hf4 := Htw.out.free 4
          have hq0 := Htw.out.free1 0
          have hq1 := Htw.out.free1 1
          have hq2 := Htw.out.free1 2
          have hq3 := Htw.out.free1 3
          have hq4 := Htw.out.free1 4
          go_wp2_with fail
          refine bodyPost_ret (v := .tuple #[cstV noneC, .int .i64 0, .int .i64 er]) (results3 Tryz.results140 _ _ _ _ rfl (Htw2.out.five 0 0 [] [] []).1) rfl (retC3 H.out (Htw2.out.five 0 0 [] [] []).2)
      · have HW := Lib.hid (Two.start w #[.int .i64 5, .int .i64 0, .string ⟨#[]⟩, .string ⟨#[]⟩, .string ⟨#[]⟩])
        have hT := getMember_any 5 A l n cap pl ((w.alloc (.cells #[.int .i64 0, .int .i64 0, .string ⟨#[]⟩, .string ⟨#[]⟩, .string ⟨#[]⟩] 40)).alloc (.cells #[.int .i64 5, .int .i64 0, .string ⟨#[]⟩, .string ⟨#[]⟩, .string ⟨#[]⟩] 40)) Hn.out hnc hm (by omega) (by omega) (Hr.out.below HW.out.2.2.1)
        have hfr : firstC 5 l pl = getM 5 l pl := rfl
        rw [hfr] at H
        have hml := getM_short 5 l pl
        clear hfr
        generalize getM 5 l pl = T at *
        obtain ⟨⟨k', n', s, t, u⟩, p2, er⟩ := T
        unfold GivesC cst3 cstV at hT
        simp only at hT hml
        obtain ⟨hs, ht, hu⟩ := hml
        have HT := Lib.hid hT
        clear hT
        by_cases he : er = 0
        · subst he
          cases hrt : rightC ⟨k', n', s, t, u⟩
          · have H := Lib.hid (H.out.trans (fin_no hrt))
            have Hrt := Lib.hid hrt
            clear hrt
            go_enter Tryz.func140, Tryz.ntmps140
            go_wp2_with fail
            refine Calls.mono Hg.out ?_
            rintro e w' ⟨rfl, rfl⟩
            go_wp2_with fail
            refine Calls.mono HT.out ?_
            rintro e w2 ⟨rfl, hb2⟩
            have Htw := Lib.hid (HW.out.after hb2)
            have Htw2 := Lib.hid (Htw.out.five1 rfl k' n' s t u)
            obtain ⟨hb0, hb1, hb2', hb3', hb4⟩ := Two.box (k := 5) (n := 0) (s := []) (t := []) (u := []) Htw.out
            have hsz2 := Htw.out.2.2.2
            clear hb2
            obtain ⟨hz0, hz1, hz2, hz3, hz4⟩ := Htw.out.zero
            have hf0 := Htw.out.free 0
            have hf1 := Htw.out.free 1
            have hf2 := Htw.out.free 2
            have hf3 := Htw.out.free 3
            have hf4 := Htw.out.free 4
            have hq0 := Htw.out.free1 0
            have hq1 := Htw.out.free1 1
            have hq2 := Htw.out.free1 2
            have hq3 := Htw.out.free1 3
            have hq4 := Htw.out.free1 4
            go_wp2_with fail
            refine (poolRight_any k' n' s t u _ (by omega) (by omega) (by omega)).mono ?_
            rw [Hrt.out]
            rintro e w3 ⟨rfl, hb3⟩
            have Htwo := Lib.hid (Htw2.out.after hb3)
            obtain ⟨hc0, hc1, hc2, hc3, hc4⟩ := Two.box (k := k') (n := n') (s := s) (t := t) (u := u) Htwo.out
            clear hb3 hz0 hz1 hz2 hz3 hz4 hf0 hf1 hf2 hf3 hf4
            obtain ⟨hz0, hz1, hz2, hz3, hz4⟩ := Htwo.out.zero
            have hf0 := Htwo.out.free 0
            have hf1 := Htwo.out.free 1
            have hf2 := Htwo.out.free 2
            have hf3 := Htwo.out.free 3
            have hf4 := Htwo.out.free 4
            go_wp2_with fail
            refine bodyPost_ret (v := .tuple #[cstV noneC, .int .i64 0, .int .i64 11]) (results3 Tryz.results140 _ _ _ _ rfl (Htwo.out.five 0 0 [] [] []).1) rfl (retC3 H.out (Htwo.out.five 0 0 [] [] []).2)
          · have H := Lib.hid (H.out.trans (fin_yes hrt))
            have Hrt := Lib.hid hrt
            clear hrt
            go_enter Tryz.func140, Tryz.ntmps140
            go_wp2_with fail
            refine Calls.mono Hg.out ?_
            rintro e w' ⟨rfl, rfl⟩
            go_wp2_with fail
            refine Calls.mono HT.out ?_
            rintro e w2 ⟨rfl, hb2⟩
            have Htw := Lib.hid (HW.out.after hb2)
            have Htw2 := Lib.hid (Htw.out.five1 rfl k' n' s t u)
            obtain ⟨hb0, hb1, hb2', hb3', hb4⟩ := Two.box (k := 5) (n := 0) (s := []) (t := []) (u := []) Htw.out
            have hsz2 := Htw.out.2.2.2
            clear hb2
            obtain ⟨hz0, hz1, hz2, hz3, hz4⟩ := Htw.out.zero
            have hf0 := Htw.out.free 0
            have hf1 := Htw.out.free 1
            have hf2 := Htw.out.free 2
            have hf3 := Htw.out.free 3
            have hf4 := Htw.out.free 4
            have hq0 := Htw.out.free1 0
            have hq1 := Htw.out.free1 1
            have hq2 := Htw.out.free1 2
            have hq3 := Htw.out.free1 3
            have hq4 := Htw.out.free1 4
            go_wp2_with fail
            refine (poolRight_any k' n' s t u _ (by omega) (by omega) (by omega)).mono ?_
            rw [Hrt.out]
            rintro e w3 ⟨rfl, hb3⟩
            have Htwo := Lib.hid (Htw2.out.after hb3)
            obtain ⟨hc0, hc1, hc2, hc3, hc4⟩ := Two.box (k := k') (n := n') (s := s) (t := t) (u := u) Htwo.out
            clear hb3 hz0 hz1 hz2 hz3 hz4 hf0 hf1 hf2 hf3 hf4
            obtain ⟨hz0, hz1, hz2, hz3, hz4⟩ := Htwo.out.zero
            have hf0 := Htwo.out.free 0
            have hf1 := Htwo.out.free 1
            have hf2 := Htwo.out.free 2
            have hf3 := Htwo.out.free 3
            have hf4 := Htwo.out.free 4
            go_wp2_with fail
            refine bodyPost_ret (v := .tuple #[cstV ⟨k', n', s, t, u⟩, .int .i64 p2, .int .i64 0]) (results3 Tryz.results140 _ _ _ _ rfl (Htwo.out.five k' n' s t u).1) rfl (retC3 H.out (Htwo.out.five k' n' s t u).2)
        · have H := Lib.hid (H.out.trans (fin_err he))
          have he2 : (er != 0) = true := by simpa using he
          have he3 : (er == 0) = false := by simpa using he
          clear he
          go_enter Tryz.func140, Tryz.ntmps140
          go_wp2_with fail
          refine Calls.mono Hg.out ?_
          rintro e w' ⟨rfl, rfl⟩
          go_wp2_with fail
          refine Calls.mono HT.out ?_
          rintro e w2 ⟨rfl, hb2⟩
          have Htw := Lib.hid (HW.out.after hb2)
          have Htw2 := Lib.hid (Htw.out.five1 rfl k' n' s t u)
          obtain ⟨hb0, hb1, hb2', hb3', hb4⟩ := Two.box (k := 5) (n := 0) (s := []) (t := []) (u := []) Htw.out
          have hsz2 := Htw.out.2.2.2
          clear hb2
          obtain ⟨hz0, hz1, hz2, hz3, hz4⟩ := Htw.out.zero
          have hf0 := Htw.out.free 0
          have hf1 := Htw.out.free 1
          have hf2 := Htw.out.free 2
          have hf3 := Htw.out.free 3
          have hf4 := Htw.out.free 4
          have hq0 := Htw.out.free1 0
          have hq1 := Htw.out.free1 1
          have hq2 := Htw.out.free1 2
          have hq3 := Htw.out.free1 3
          have hq4 := Htw.out.free1 4
          go_wp2_with fail
          refine bodyPost_ret (v := .tuple #[cstV noneC, .int .i64 0, .int .i64 er]) (results3 Tryz.results140 _ _ _ _ rfl (Htw2.out.five 0 0 [] [] []).1) rfl (retC3 H.out (Htw2.out.five 0 0 [] [] []).2)
  · have H := Lib.hid (getC_err h1)
    generalize getS l a = g at *
    obtain ⟨v, pl, er⟩ := g
    simp only at h1 H
    have h2 : (er != 0) = true := by simpa using h1
    unfold three at hg
    have Hg := Lib.hid hg
    clear hg h1
    go_enter Tryz.func140, Tryz.ntmps140
    go_wp2_with fail
    refine Calls.mono Hg.out ?_
    rintro e w' ⟨rfl, rfl⟩
    go_wp2_with fail
    refine bodyPost_ret (v := .tuple #[.agg #[.int .i64 0, .int .i64 0, .string ⟨#[]⟩, .string ⟨#[]⟩, .string ⟨#[]⟩], .int .i64 0, .int .i64 er]) (by simp [results, Tryz.results140, go_sem]) rfl (ret_none H.out HB.out)

end PoolT
end Go.Proofs.YthkkcecfenohjaaGreatDoor
