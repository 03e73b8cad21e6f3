/- pieces -/
import Derived.Test.YtehainbhoflpnaaGreatDoorK1
import Derived.Test.YtehainbhoflpnaaGreatDoorK0
import Derived.Outline
namespace Go.Proofs.YtehainbhoflpnaaGreatDoor
namespace DescM
open BinM
def brk : List UInt8 → Nat
 | [] => 0
 | c :: t => if c = 91 then brk t + 1 else 0
def semi : List UInt8 → Nat
 | [] => 0
 | c :: t => if c = 59 then 0 else semi t + 1
def core : List UInt8 → Option Nat
 | [] => none
 | c :: t => if c = 73 ∨ c = 66 ∨ c = 83 then some 1
     else if c = 76 then (if semi t < t.length ∧ zF (t.take (semi t)) = true then some (semi t + 2) else none)
     else none
theorem Qs (c : UInt8) (t : List UInt8) : core (c :: t) = if c = 73 ∨ c = 66 ∨ c = 83 then some 1 else if c = 76 then (if semi t < t.length ∧ zF (t.take (semi t)) = true then some (semi t + 2) else none) else none := rfl
def Zy (l : List UInt8) : Option Nat := if 4 < brk l then none else (core (l.drop (brk l))).map (· + brk l)
def zI (l : List UInt8) : Bool := Zy l == some l.length
theorem Yq : ∀ l : List UInt8, brk l ≤ l.length
 | [] => by simp [brk]
 | c :: t => by
   have := Yq t
   unfold brk
   split <;> simp <;> omega
theorem xZ : ∀ (l : List UInt8) (j : Nat) (h : j < l.length), j < brk l → l[j] = 91
 | [], j, h, _ => by simp at h
 | c :: t, j, h, hj => by
   unfold brk at hj
   split at hj
   · rename_i hc
     cases j with
     | zero => exact hc
     | succ j => simp; exact xZ t j (by simpa using h) (by omega)
   · omega
theorem Jv : ∀ (l : List UInt8) (h : brk l < l.length), l[brk l] ≠ 91
 | [], h => by simp at h
 | c :: t, h => by
   by_cases hc : c = 91
   · have e : brk (c :: t) = brk t + 1 := by simp [brk, hc]
     simp only [e] at h ⊢
     simpa using Jv t (by simpa using h)
   · have e : brk (c :: t) = 0 := by simp [brk, hc]
     simp only [e]
     simpa using hc
theorem zv9 {l : List UInt8} {m : Nat} (h : ∀ j (hj : j < l.length), j < m → l[j] = 91) (hm : m ≤ l.length) (hn : m = l.length ∨ ∃ hl : m < l.length, l[m] ≠ 91) : brk l = m := by
 rcases Nat.lt_trichotomy (brk l) m with hlt | he | hgt
 · exact absurd (h (brk l) (by omega) hlt) (Jv l (by omega))
 · exact he
 · have hle := Yq l
   rcases hn with hn | ⟨hl, hc⟩
   · omega
   · exact absurd (xZ l m hl hgt) hc
theorem zv8 {l : List UInt8} {k : Nat} (h : brk l < k) (hk : k ≤ l.length) : brk (l.take k) = brk l := by
 refine zv9 (fun j hj hjm => ?_) (by simp; omega) (.inr ⟨by simp; omega, ?_⟩)
 · rw [List.getElem_take]; exact xZ l j (by omega) hjm
 · rw [List.getElem_take]; exact Jv l (by omega)
theorem zb7 : ∀ l : List UInt8, semi l ≤ l.length
 | [] => by simp [semi]
 | c :: t => by
   have := zb7 t
   unfold semi
   split <;> simp <;> omega
theorem Jd : ∀ (l : List UInt8) (h : semi l < l.length), l[semi l] = 59
 | [], h => by simp at h
 | c :: t, h => by
   by_cases hc : c = 59
   · have e : semi (c :: t) = 0 := by simp [semi, hc]
     simp only [e]; simpa using hc
   · have e : semi (c :: t) = semi t + 1 := by simp [semi, hc]
     simp only [e] at h ⊢
     simpa using Jd t (by simpa using h)
theorem Xz : ∀ (l : List UInt8) (j : Nat) (h : j < l.length), j < semi l → l[j] ≠ 59
 | [], j, h, _ => by simp at h
 | c :: t, j, h, hj => by
   unfold semi at hj
   split at hj
   · omega
   · rename_i hc
     cases j with
     | zero => exact hc
     | succ j => simp; exact Xz t j (by simpa using h) (by omega)
theorem Vf {l : List UInt8} {m : Nat} (h : ∀ j (hj : j < l.length), j < m → l[j] ≠ 59) (hm : m < l.length) (hc : l[m] = 59) : semi l = m := by
 rcases Nat.lt_trichotomy (semi l) m with hlt | he | hgt
 · exact absurd (Jd l (by omega)) (h (semi l) (by omega) hlt)
 · exact he
 · exact absurd hc (Xz l m hm hgt)
theorem zb8 : ∀ (l : List UInt8) (k : Nat), ji k l = true → ∀ c ∈ l, c ≠ 59 ∧ c ≠ 91
 | [], _, _, c, hc => by cases hc
 | a :: t, k, h, c, hc => by
   simp only [ji, Bool.and_eq_true] at h
   rcases List.mem_cons.1 hc with rfl | hc
   · have h1 := h.1
     unfold okB okI isLet U1 at h1
     constructor
     · rintro rfl; simp at h1
     · rintro rfl; simp at h1
   · exact zb8 t (k + 1) h.2 c hc
theorem XF {l : List UInt8} (h : zF l = true) : (∀ c ∈ l, c ≠ 59 ∧ c ≠ 91) ∧ 1 ≤ l.length ∧ l.length ≤ 24 := by
 unfold zF at h
 simp only [Bool.and_eq_true, decide_eq_true_eq] at h
 exact ⟨zb8 l 0 h.2, h.1.1, h.1.2⟩
theorem VF {l : List UInt8} {n : Nat} (h : core l = some n) : 1 ≤ n ∧ n ≤ l.length ∧ n ≤ 26 := by
 cases l with
 | nil => simp [core] at h
 | cons c t =>
   rw [Qs] at h
   split at h
   · injection h with h; simp; omega
   · split at h
     · split at h
       · rename_i h3
         injection h with h
         have := XF h3.2
         have hl : (t.take (semi t)).length = semi t := by simp; omega
         simp; omega
       · cases h
     · cases h
theorem qG {l : List UInt8} {n : Nat} (h : Zy l = some n) : 1 ≤ n ∧ n ≤ l.length ∧ n ≤ 30 ∧ brk l < n := by
 unfold Zy at h
 split at h
 · cases h
 · cases hc : core (l.drop (brk l)) with
   | none => rw [hc] at h; cases h
   | some m =>
     rw [hc] at h
     simp at h
     have := VF hc
     simp at this
     have := Yq l
     omega
theorem zk5 {l : List UInt8} {n k : Nat} (h : core l = some n) (hk : n ≤ k) : core (l.take k) = some n := by
 cases l with
 | nil => simp [core] at h
 | cons c t =>
   have hn := VF h
   cases k with
   | zero => omega
   | succ k =>
     rw [List.take_succ_cons]
     rw [Qs] at h ⊢
     split
     · rename_i h1; rw [if_pos h1] at h; exact h
     · rename_i h1
       rw [if_neg h1] at h
       split
       · rename_i h2
         rw [if_pos h2] at h
         by_cases h3 : semi t < t.length ∧ zF (t.take (semi t)) = true
         · rw [if_pos h3] at h
           injection h with h
           have e : semi (t.take k) = semi t := by
            refine Vf (fun j hj hjm => ?_) (by simp; omega) ?_
            · rw [List.getElem_take]; exact Xz t j (by simp at hj; omega) hjm
            · rw [List.getElem_take]; exact Jd t h3.1
           rw [if_pos ⟨by rw [e]; simp; omega, by rw [e, List.take_take, Nat.min_eq_left (by omega)]; exact h3.2⟩, e, h]
         · rw [if_neg h3] at h; cases h
       · rename_i h2
         rw [if_neg h2] at h; exact h
theorem VE {l : List UInt8} {k : Nat} (hk : k ≤ l.length) (h : core (l.take k) = some k) : core l = some k := by
 cases l with
 | nil => simp [core] at h
 | cons c t =>
   cases k with
   | zero => have := VF h; omega
   | succ k =>
     rw [List.take_succ_cons] at h
     have hkt : k ≤ t.length := by simpa using hk
     rw [Qs] at h ⊢
     split
     · rename_i h1; rw [if_pos h1] at h; exact h
     · rename_i h1
       rw [if_neg h1] at h
       split
       · rename_i h2
         rw [if_pos h2] at h
         by_cases h3 : semi (t.take k) < (t.take k).length ∧ zF ((t.take k).take (semi (t.take k))) = true
         · rw [if_pos h3] at h
           injection h with h
           have hs : semi (t.take k) + 1 = k := by omega
           have e : semi t = semi (t.take k) := by
            refine Vf (fun j hj hjm => ?_) (by omega) ?_
            · have := Xz (t.take k) j (by simp; omega) hjm
              rwa [List.getElem_take] at this
            · have := Jd (t.take k) h3.1
              rwa [List.getElem_take] at this
           have h4 := h3.2
           rw [List.take_take, Nat.min_eq_left (by omega)] at h4
           rw [if_pos ⟨by omega, by rw [e]; exact h4⟩, e, h]
         · rw [if_neg h3] at h; cases h
       · rename_i h2
         rw [if_neg h2] at h; exact h
theorem zj2 {l : List UInt8} {n : Nat} (h : Zy l = some n) : Zy (l.take n) = some n := by
 have hn := qG h
 unfold Zy at h ⊢
 have e : brk (l.take n) = brk l := zv8 hn.2.2.2 hn.2.1
 rw [e]
 split at h
 · cases h
 · rename_i h4
   rw [if_neg h4]
   cases hc : core (l.drop (brk l)) with
   | none => rw [hc] at h; cases h
   | some m =>
     rw [hc] at h
     simp at h
     have : (l.take n).drop (brk l) = (l.drop (brk l)).take (n - brk l) := by rw [List.drop_take]
     rw [this, zk5 hc (by omega)]
     simp [h]
theorem Yc {l : List UInt8} {k : Nat} (hk : k ≤ l.length) : zI (l.take k) = true ↔ Zy l = some k := by
 constructor
 · intro h
   unfold zI at h
   have h := eq_of_beq h
   have hlen : (l.take k).length = k := by simp; omega
   rw [hlen] at h
   have hle := qG h
   have e : brk l = brk (l.take k) := by
    refine zv9 (fun j hj hjm => ?_) (by omega) (.inr ⟨by omega, ?_⟩)
    · have := xZ (l.take k) j (by omega) hjm
      rwa [List.getElem_take] at this
    · have := Jv (l.take k) (by omega)
      rwa [List.getElem_take] at this
   unfold Zy at h ⊢
   rw [e]
   split at h
   · cases h
   · rename_i h4
     rw [if_neg h4]
     cases hc : core ((l.take k).drop (brk (l.take k))) with
     | none => rw [hc] at h; cases h
     | some m =>
       rw [hc] at h
       simp at h
       have hm : m = k - brk (l.take k) := by omega
       have hd : (l.take k).drop (brk (l.take k)) = (l.drop (brk (l.take k))).take (k - brk (l.take k)) := by rw [List.drop_take]
       rw [hd, hm] at hc
       rw [VE (by simp; omega) hc]
       simp; omega
 · intro h
   have hlen : (l.take k).length = k := by simp; omega
   unfold zI
   rw [zj2 h, hlen]
   simp
end DescM
namespace DescW
open Go.RowKit BinM DescM
open BinName (uT ze)
theorem XM : ∀ l : List UInt8, Lib.trimLeftB l 91 = l.drop (brk l)
 | [] => rfl
 | c :: t => by
   have ih := XM t
   by_cases hc : c = 91
   · subst hc; simp [Lib.trimLeftB, brk] at ih ⊢; exact ih
   · simp [Lib.trimLeftB, brk, hc]
theorem QS {k : IntKind} {a b : Int} (h : a = b) : Ending.returned (.int k a) = .returned (.int k b) := by rw [h]
theorem size_mk (l : List UInt8) : (ByteArray.mk l.toArray).size = l.length := rfl
theorem xJ (l : List UInt8) (w : World) (hl : l.length ≤ 140737488355328) :
 Calls Tryz.prog 76 #[.string ⟨l.toArray⟩] w fun e w' => e = .returned (.bool (zF l)) ∧ w = w' :=
 uT ⟨l.toArray⟩ w (by rw [size_mk]; unfold maxLen; omega)
theorem YP (l : List UInt8) (w : World) :
 Calls Tryz.prog 192 #[.string ⟨l.toArray⟩, .int .u8 59] w fun e w' => e = .returned (.int .i64 (Lib.indexByte l 59)) ∧ w = w' :=
 (Tryz.strings_IndexByte ⟨l.toArray⟩ 59 w).mono fun _ _ ⟨h1, h2⟩ => ⟨h1, h2.symm⟩
theorem ext (l : List UInt8) (a b : Nat) : (ByteArray.mk l.toArray).extract a b = ⟨((l.drop a).take (b - a)).toArray⟩ := by
 rw [Lib.extract_eq]
theorem idx : ∀ l : List UInt8, Lib.indexByte l 59 = if semi l < l.length then (semi l : Int) else -1
 | [] => rfl
 | c :: t => by
   have ih := idx t
   by_cases hc : c = 59
   · subst hc; simp [Lib.indexByte, semi]
   · have e : semi (c :: t) = semi t + 1 := by simp [semi, hc]
     have hle := zb7 t
     have hb : (c == 59) = false := by simp [hc]
     rw [e]
     unfold Lib.indexByte
     rw [hb, ih]
     by_cases hs : semi t < t.length
     · have h1 : ((semi t : Int) == -1) = false := by rw [beq_eq_false_iff_ne]; omega
       rw [if_pos hs, h1]
       simp [hs]
     · rw [if_neg hs]
       simp [hs]
theorem jG (l : List UInt8) (w : World) (hl : l.length ≤ 9223372036854775807) :
 Calls Tryz.prog 191 #[.string ⟨l.toArray⟩] w fun e w' => e = .returned (.int .i64 (brk l : Int)) ∧ w = w' := by
 have hb := Yq l
 go_enter Tryz.func191, Tryz.ntmps191
 go_wp2_with fail
 refine (Tryz.strings_TrimLeft_one ⟨l.toArray⟩ 91 (by decide) w).mono ?_
 rintro e w' ⟨rfl, rfl⟩
 simp only [XM]
 go_wp2_with fail
 go_ret
 exact ⟨QS (by omega), rfl⟩
def Xk (o : Option Nat) : Value := match o with
 | some n => .tuple #[.int .i64 (n : Int), .bool true]
 | none => .tuple #[.int .i64 0, .bool false]
theorem JW {o : Option Nat} (h : o = none) : Ending.returned (.tuple #[.int .i64 0, .bool false]) = .returned (Xk o) := by subst h; rfl
theorem kT {o : Option Nat} {n : Nat} {x : Int} (h : o = some n) (hx : x = (n : Int)) : Ending.returned (.tuple #[.int .i64 x, .bool true]) = .returned (Xk o) := by subst h; subst hx; rfl
theorem Ze5 {l : List UInt8} {k : Nat} (hk : k < l.length) : core (l.drop k) = if l[k] = 73 ∨ l[k] = 66 ∨ l[k] = 83 then some 1 else if l[k] = 76 then (if semi (l.drop (k + 1)) < (l.drop (k + 1)).length ∧ zF ((l.drop (k + 1)).take (semi (l.drop (k + 1)))) = true then some (semi (l.drop (k + 1)) + 2) else none) else none := by
 rw [List.drop_eq_getElem_cons hk, Qs]
set_option maxHeartbeats 2000000 in
theorem yg (l : List UInt8) (w : World) (hl : l.length ≤ 140737488355328) :
 Calls Tryz.prog 157 #[.string ⟨l.toArray⟩] w fun e w' => e = .returned (Xk (Zy l)) ∧ w = w' := by
 have hb := Yq l
 obtain ⟨k, hkk⟩ : ∃ k, k = brk l := ⟨_, rfl⟩
 rw [← hkk] at hb
 have hT : Zy l = if 4 < k then none else (core (l.drop k)).map (· + k) := by rw [hkk]; rfl
 have HT := zH hT
 have Hkk := zH hkk
 clear hT hkk
 by_cases h4 : 4 < k
 · have Hfin := zH (show Zy l = none by rw [HT.out, if_pos h4])
   have h4' : (4 : Int) < (k : Int) := by omega
   go_enter Tryz.func157, Tryz.ntmps157
   go_wp2_with (go_at_call 191; refine (jG l _ (by omega)).mono ?_; rw [← Hkk.out]; rintro e w' ⟨rfl, rfl⟩)
   go_ret2
   exact ⟨JW Hfin.out, rfl⟩
 · have h4' : ¬ (4 : Int) < (k : Int) := by omega
   by_cases hk : k = l.length
   · have Hfin := zH (show Zy l = none by rw [HT.out, if_neg h4, List.drop_of_length_le (by omega)]; rfl)
     have hke : ((k : Int) == (l.length : Int)) = true := by simp [hk]
     have Hk := zH hk
     clear hk h4
     go_enter Tryz.func157, Tryz.ntmps157
     go_wp2_with (go_at_call 191; refine (jG l _ (by omega)).mono ?_; rw [← Hkk.out]; rintro e w' ⟨rfl, rfl⟩)
     go_ret2
     exact ⟨JW Hfin.out, rfl⟩
   · have hlt : k < l.length := by omega
     have hke : ((k : Int) == (l.length : Int)) = false := by simp; omega
     have hcore := Ze5 hlt
     have hx1 : (ByteArray.mk l.toArray).extract k (k + 1) = ⟨[l[k]].toArray⟩ := by
      rw [ext, List.drop_eq_getElem_cons hlt, Nat.add_sub_cancel_left]; rfl
     have hx2 : (ByteArray.mk l.toArray).extract k l.length = ⟨(l.drop k).toArray⟩ := by
      rw [ext, List.take_of_length_le (by simp)]
     have hidx : Lib.indexByte (l.drop k) 59 = if l[k] = 59 then 0 else if semi (l.drop (k + 1)) < (l.drop (k + 1)).length then ((semi (l.drop (k + 1)) + 1 : Nat) : Int) else -1 := by
      rw [idx, List.drop_eq_getElem_cons hlt]
      by_cases h59 : l[k] = 59
      · simp [semi, h59]
      · simp [semi, h59]
        have e : l.length - k = l.length - (k + 1) + 1 := by omega
        rw [e]
        simp
     have hdl : (l.drop (k + 1)).length = l.length - (k + 1) := by simp
     have hx3 : ∀ n, (ByteArray.mk l.toArray).extract (k + 1) (k + (n + 1)) = ⟨((l.drop (k + 1)).take n).toArray⟩ := by
      intro n
      rw [ext]
      congr 3
      omega
     clear hk
     generalize l[k] = c at *
     by_cases hI : c = 73 ∨ c = 66 ∨ c = 83
     · have Hfin := zH (show Zy l = some (k + 1) by rw [HT.out, if_neg h4, hcore, if_pos hI]; simp; omega)
       clear hcore hidx hx3 h4 hdl
       rcases hI with rfl | rfl | rfl
       all_goals
        go_enter Tryz.func157, Tryz.ntmps157
        go_wp2_with (go_at_call 191; refine (jG l _ (by omega)).mono ?_; rw [← Hkk.out]; rintro e w' ⟨rfl, rfl⟩)
        go_ret2
        exact ⟨kT Hfin.out (by omega), rfl⟩
     · have n1 : ([c] == [73]) = false := by simp; exact fun h => hI (.inl h)
       have n2 : ([c] == [66]) = false := by simp; exact fun h => hI (.inr (.inl h))
       have n3 : ([c] == [83]) = false := by simp; exact fun h => hI (.inr (.inr h))
       have m1 : (c == 73) = false := by simp; exact fun h => hI (.inl h)
       have m2 : (c == 66) = false := by simp; exact fun h => hI (.inr (.inl h))
       have m3 : (c == 83) = false := by simp; exact fun h => hI (.inr (.inr h))
       rw [if_neg hI] at hcore
       by_cases hL : c = 76
       · subst hL
         rw [if_pos rfl] at hcore
         rw [if_neg (by decide)] at hidx
         generalize ht : l.drop (k + 1) = t at *
         generalize hu : semi t = u at *
         clear ht hI
         by_cases hul : u < t.length
         · rw [if_pos hul] at hidx
           have hx4 := hx3 u
           cases hN : zF (t.take u)
           · have Hfin := zH (show Zy l = none by rw [HT.out, if_neg h4, hcore, if_neg (by rw [hN]; simp)]; rfl)
             have HN := zH hN
             have Hidx := zH hidx
             clear hcore hidx hx3 hN h4
             go_enter Tryz.func157, Tryz.ntmps157
             go_wp2_with (first
              | (go_at_call 191; refine (jG l _ (by omega)).mono ?_; rw [← Hkk.out]; rintro e w' ⟨rfl, rfl⟩)
              | (go_at_call 192; refine (YP _ _).mono ?_; rw [Hidx.out]; rintro e w' ⟨rfl, rfl⟩)
              | (go_at_call 76; refine (xJ _ _ (by rw [List.length_take]; omega)).mono ?_; rw [HN.out]; rintro e w' ⟨rfl, rfl⟩))
             go_ret2
             exact ⟨JW Hfin.out, rfl⟩
           · have Hfin := zH (show Zy l = some (u + 2 + k) by rw [HT.out, if_neg h4, hcore, if_pos ⟨hul, hN⟩]; rfl)
             have HN := zH hN
             have Hidx := zH hidx
             clear hcore hidx hx3 hN h4
             go_enter Tryz.func157, Tryz.ntmps157
             go_wp2_with (first
              | (go_at_call 191; refine (jG l _ (by omega)).mono ?_; rw [← Hkk.out]; rintro e w' ⟨rfl, rfl⟩)
              | (go_at_call 192; refine (YP _ _).mono ?_; rw [Hidx.out]; rintro e w' ⟨rfl, rfl⟩)
              | (go_at_call 76; refine (xJ _ _ (by rw [List.length_take]; omega)).mono ?_; rw [HN.out]; rintro e w' ⟨rfl, rfl⟩))
             go_ret2
             exact ⟨kT Hfin.out (by omega), rfl⟩
         · rw [if_neg hul] at hidx
           have Hfin := zH (show Zy l = none by rw [HT.out, if_neg h4, hcore, if_neg (fun h => hul h.1)]; rfl)
           have Hidx := zH hidx
           clear hcore hidx hx3 h4
           go_enter Tryz.func157, Tryz.ntmps157
           go_wp2_with (first
            | (go_at_call 191; refine (jG l _ (by omega)).mono ?_; rw [← Hkk.out]; rintro e w' ⟨rfl, rfl⟩)
            | (go_at_call 192; refine (YP _ _).mono ?_; rw [Hidx.out]; rintro e w' ⟨rfl, rfl⟩))
           go_ret2
           exact ⟨JW Hfin.out, rfl⟩
       · have n4 : ([c] == [76]) = false := by simp; exact hL
         have m4 : (c == 76) = false := by simp; exact hL
         have Hfin := zH (show Zy l = none by rw [HT.out, if_neg h4, hcore, if_neg hL]; rfl)
         clear hcore hidx hx3 h4 hdl hI hL
         go_enter Tryz.func157, Tryz.ntmps157
         go_wp2_with (go_at_call 191; refine (jG l _ (by omega)).mono ?_; rw [← Hkk.out]; rintro e w' ⟨rfl, rfl⟩)
         go_ret2
         exact ⟨JW Hfin.out, rfl⟩
theorem ZG (l : List UInt8) (w : World) (hl : l.length ≤ 140737488355328) :
 Calls Tryz.prog 133 #[.string ⟨l.toArray⟩] w fun e w' => e = .returned (.bool (zI l)) ∧ w = w' := by
 have hle := fun n => qG (l := l) (n := n)
 have Hle := zH hle
 have HR := zH (show zI l = (Zy l == some l.length) from rfl)
 clear hle
 cases hT : Zy l with
 | none =>
   have Hfin := zH (show zI l = false by rw [HR.out, hT]; rfl)
   have HT := zH hT
   clear hT
   go_enter Tryz.func133, Tryz.ntmps133
   go_wp2_with (go_at_call 157; refine (yg l _ (by omega)).mono ?_; rw [HT.out]; unfold Xk; rintro e w' ⟨rfl, rfl⟩)
   go_ret
   exact ⟨ze Hfin.out.symm, rfl⟩
 | some n =>
   have hn := Hle.out n hT
   have Hfin := zH (show zI l = ((n : Int) == (l.length : Int)) by rw [HR.out, hT, Bool.eq_iff_iff]; simp; omega)
   have HT := zH hT
   clear hT
   go_enter Tryz.func133, Tryz.ntmps133
   go_wp2_with (go_at_call 157; refine (yg l _ (by omega)).mono ?_; rw [HT.out]; unfold Xk; rintro e w' ⟨rfl, rfl⟩)
   go_ret
   exact ⟨ze Hfin.out.symm, rfl⟩
end DescW
namespace DescX
open Go.RowKit BinM DescM DescW
open BinName (ze)
def Qk (l : List UInt8) : Bool := l == [86] || zI l
def JK (l : List UInt8) : Bool := zI l && l.head? == some 76
def zq (l : List UInt8) : List UInt8 × Bool := if JK l then ((l.drop 1).take (l.length - 2), true) else ([], false)
def Ub (l : List UInt8) : Bool := zI l && l.head? == some 91
def zM (l : List UInt8) : List UInt8 × Int := if Ub l then (l.drop 1, 0) else ([], 10)
def Zr (l : List UInt8) : Bool := l == [78] || (zI l && !(l == [73]) && !(l == [66]))
def ofT (l : List UInt8) : List UInt8 := 76 :: l ++ [59]
def J7 (r : List UInt8 × Bool) : Value := .tuple #[.string ⟨r.1.toArray⟩, .bool r.2]
def Xo (r : List UInt8 × Int) : Value := .tuple #[.string ⟨r.1.toArray⟩, .int .i64 r.2]
theorem vg {r : List UInt8 × Bool} {x : ByteArray} {t : List UInt8} {b : Bool} (h : r = (t, b)) (hx : x = ⟨t.toArray⟩) : Ending.returned (.tuple #[.string x, .bool b]) = .returned (J7 r) := by subst h; subst hx; rfl
theorem JX {r : List UInt8 × Int} {x : ByteArray} {t : List UInt8} {b : Int} (h : r = (t, b)) (hx : x = ⟨t.toArray⟩) : Ending.returned (.tuple #[.string x, .int .i64 b]) = .returned (Xo r) := by subst h; subst hx; rfl
theorem Zq6 {x : ByteArray} {t : List UInt8} (hx : x = ⟨t.toArray⟩) : Ending.returned (.string x) = .returned (.string ⟨t.toArray⟩) := by subst hx; rfl
theorem Jf {l : List UInt8} (h : zI l = true) : 1 ≤ l.length := by
 have := qG (eq_of_beq h); omega
theorem JH {l : List UInt8} (h : 0 < l.length) (c : UInt8) : (l.head? == some c) = ((l[0].toNat : Int) == (c.toNat : Int)) := by
 cases l with
 | nil => simp at h
 | cons a t =>
   rw [Bool.eq_iff_iff]
   simp only [List.head?_cons, beq_iff_eq, Option.some.injEq, List.getElem_cons_zero]
   constructor
   · rintro rfl; rfl
   · intro h; exact UInt8.toNat_inj.1 (by omega)
theorem yR (l : List UInt8) (w : World) (hl : l.length ≤ 140737488355328) :
 Calls Tryz.prog 158 #[.string ⟨l.toArray⟩] w fun e w' => e = .returned (.bool (Qk l)) ∧ w = w' := by
 cases hV : l == [86]
 · have Hfin := zH (show Qk l = zI l by unfold Qk; rw [hV]; rfl)
   go_enter Tryz.func158, Tryz.ntmps158
   go_wp2_with (go_at_call 133; refine (ZG l _ (by omega)).mono ?_; rintro e w' ⟨rfl, rfl⟩)
   go_ret
   exact ⟨ze (by rw [Hfin.out]), rfl⟩
 · have Hfin := zH (show Qk l = true by unfold Qk; rw [hV]; rfl)
   go_enter Tryz.func158, Tryz.ntmps158
   go_wp2
   go_ret
   exact ⟨ze (by rw [Hfin.out]), rfl⟩
theorem JM (a b : List UInt8) : ByteArray.mk a.toArray ++ ByteArray.mk b.toArray = ⟨(a ++ b).toArray⟩ := by
 apply ByteArray.ext
 rw [ByteArray.data_append]
 simp
theorem Yg (l : List UInt8) (w : World) (hl : l.length ≤ 140737488355328) :
 Calls Tryz.prog 111 #[.string ⟨l.toArray⟩] w fun e w' => e = .returned (.string ⟨(ofT l).toArray⟩) ∧ w = w' := by
 go_enter Tryz.func111, Tryz.ntmps111
 go_wp2
 go_ret
 exact ⟨Zq6 (by rw [show (ByteArray.mk #[76]) = ByteArray.mk [76].toArray from rfl, show (ByteArray.mk #[59]) = ByteArray.mk [59].toArray from rfl, JM, JM]; rfl), rfl⟩
theorem at0 {l : List UInt8} (_h : 0 < l.length) (h' : 0 < (ByteArray.mk l.toArray).size) : (ByteArray.mk l.toArray)[0]'h' = l[0]'_h := rfl
theorem yY {l : List UInt8} (h : zI l = true) (h0 : 0 < l.length) (hc : l[0] = 76) : 3 ≤ l.length := by
 have hT := eq_of_beq h
 cases l with
 | nil => simp at h0
 | cons c t =>
   simp at hc
   subst hc
   have hb : brk (76 :: t) = 0 := by simp [brk]
   unfold Zy at hT
   rw [hb, if_neg (by omega), List.drop_zero, Qs, if_neg (by decide), if_pos rfl] at hT
   by_cases h3 : semi t < t.length ∧ zF (t.take (semi t)) = true
   · rw [if_pos h3] at hT
     simp at hT
     have := (XF h3.2).2.1
     have hl : (t.take (semi t)).length = semi t := by simp; omega
     simp; omega
   · rw [if_neg h3] at hT
     cases hT
theorem Ua {l : List UInt8} (h : zI l = true) (h0 : 0 < l.length) (hc : l[0] = 91) : 2 ≤ l.length := by
 have hT := eq_of_beq h
 have := qG hT
 cases l with
 | nil => simp at h0
 | cons c t =>
   simp at hc
   subst hc
   have hb : brk (91 :: t) = brk t + 1 := by simp [brk]
   simp at *
   omega
theorem xX (l : List UInt8) (w : World) (hl : l.length ≤ 140737488355328) :
 Calls Tryz.prog 108 #[.string ⟨l.toArray⟩] w fun e w' => e = .returned (J7 (zq l)) ∧ w = w' := by
 cases hR : zI l
 · have Hfin := zH (show zq l = ([], false) by unfold zq JK; rw [hR]; rfl)
   have HR := zH hR
   clear hR
   go_enter Tryz.func108, Tryz.ntmps108
   go_wp2_with (go_at_call 133; refine (ZG l _ (by omega)).mono ?_; rw [HR.out]; rintro e w' ⟨rfl, rfl⟩)
   go_ret2
   exact ⟨vg Hfin.out rfl, rfl⟩
 · have hp := Jf hR
   have hp0 : 0 < l.length := by omega
   have hh := JH hp0 76
   have hx0 := fun h' => at0 hp0 h'
   have HR := zH hR
   cases hc : ((l[0].toNat : Int) == 76)
   · have hc2 : ((l[0].toNat : Int) != 76) = true := by rw [bne, hc]; rfl
     have Hfin := zH (show zq l = ([], false) by unfold zq JK; rw [hR, hh]; rw [show ((76 : UInt8).toNat : Int) = 76 from rfl, hc]; rfl)
     clear hR hh
     go_enter Tryz.func108, Tryz.ntmps108
     go_wp2_with (go_at_call 133; refine (ZG l _ (by omega)).mono ?_; rw [HR.out]; rintro e w' ⟨rfl, rfl⟩)
     go_ret2
     exact ⟨vg Hfin.out rfl, rfl⟩
   · have hc2 : ((l[0].toNat : Int) != 76) = false := by rw [bne, hc]; rfl
     have h3 := yY hR hp0 (by have := eq_of_beq hc; exact UInt8.toNat_inj.1 (by show l[0].toNat = 76; omega))
     have Hfin := zH (show zq l = ((l.drop 1).take (l.length - 2), true) by unfold zq JK; rw [hR, hh]; rw [show ((76 : UInt8).toNat : Int) = 76 from rfl, hc]; rfl)
     clear hR hh
     go_enter Tryz.func108, Tryz.ntmps108
     go_wp2_with (go_at_call 133; refine (ZG l _ (by omega)).mono ?_; rw [HR.out]; rintro e w' ⟨rfl, rfl⟩)
     go_ret2
     exact ⟨vg Hfin.out (by rw [ext]; congr 3), rfl⟩
theorem Js (l : List UInt8) (w : World) (hl : l.length ≤ 140737488355328) :
 Calls Tryz.prog 109 #[.string ⟨l.toArray⟩] w fun e w' => e = .returned (Xo (zM l)) ∧ w = w' := by
 cases hR : zI l
 · have Hfin := zH (show zM l = ([], 10) by unfold zM Ub; rw [hR]; rfl)
   have HR := zH hR
   clear hR
   go_enter Tryz.func109, Tryz.ntmps109
   go_wp2_with (go_at_call 133; refine (ZG l _ (by omega)).mono ?_; rw [HR.out]; rintro e w' ⟨rfl, rfl⟩)
   go_ret2
   exact ⟨JX Hfin.out rfl, rfl⟩
 · have hp := Jf hR
   have hp0 : 0 < l.length := by omega
   have hh := JH hp0 91
   have hx0 := fun h' => at0 hp0 h'
   have HR := zH hR
   cases hc : ((l[0].toNat : Int) == 91)
   · have hc2 : ((l[0].toNat : Int) != 91) = true := by rw [bne, hc]; rfl
     have Hfin := zH (show zM l = ([], 10) by unfold zM Ub; rw [hR, hh]; rw [show ((91 : UInt8).toNat : Int) = 91 from rfl, hc]; rfl)
     clear hR hh
     go_enter Tryz.func109, Tryz.ntmps109
     go_wp2_with (go_at_call 133; refine (ZG l _ (by omega)).mono ?_; rw [HR.out]; rintro e w' ⟨rfl, rfl⟩)
     go_ret2
     exact ⟨JX Hfin.out rfl, rfl⟩
   · have hc2 : ((l[0].toNat : Int) != 91) = false := by rw [bne, hc]; rfl
     have Hfin := zH (show zM l = (l.drop 1, 0) by unfold zM Ub; rw [hR, hh]; rw [show ((91 : UInt8).toNat : Int) = 91 from rfl, hc]; rfl)
     clear hR hh
     go_enter Tryz.func109, Tryz.ntmps109
     go_wp2_with (go_at_call 133; refine (ZG l _ (by omega)).mono ?_; rw [HR.out]; rintro e w' ⟨rfl, rfl⟩)
     go_ret2
     exact ⟨JX Hfin.out (by rw [ext, List.take_of_length_le (by simp)]), rfl⟩
theorem yK (l : List UInt8) (w : World) (hl : l.length ≤ 140737488355328) :
 Calls Tryz.prog 105 #[.string ⟨l.toArray⟩] w fun e w' => e = .returned (.bool (Zr l)) ∧ w = w' := by
 cases hN : l == [78]
 · cases hR : zI l
   · have Hfin := zH (show Zr l = false by unfold Zr; rw [hN, hR]; rfl)
     have HR := zH hR
     clear hR
     go_enter Tryz.func105, Tryz.ntmps105
     go_wp2_with (go_at_call 133; refine (ZG l _ (by omega)).mono ?_; rw [HR.out]; rintro e w' ⟨rfl, rfl⟩)
     go_ret
     exact ⟨ze (by rw [Hfin.out]), rfl⟩
   · have HR := zH hR
     cases hI : l == [73]
     · cases hB : l == [66]
       all_goals
        have Hfin := zH (show Zr l = _ by unfold Zr; rw [hN, hR, hI, hB])
        clear hR
        go_enter Tryz.func105, Tryz.ntmps105
        go_wp2_with (go_at_call 133; refine (ZG l _ (by omega)).mono ?_; rw [HR.out]; rintro e w' ⟨rfl, rfl⟩)
        go_ret
        exact ⟨ze (by rw [Hfin.out]; rfl), rfl⟩
     · have Hfin := zH (show Zr l = false by unfold Zr; rw [hN, hR, hI]; rfl)
       clear hR
       go_enter Tryz.func105, Tryz.ntmps105
       go_wp2_with (go_at_call 133; refine (ZG l _ (by omega)).mono ?_; rw [HR.out]; rintro e w' ⟨rfl, rfl⟩)
       go_ret
       exact ⟨ze (by rw [Hfin.out]), rfl⟩
 · have Hfin := zH (show Zr l = true by unfold Zr; rw [hN]; rfl)
   go_enter Tryz.func105, Tryz.ntmps105
   go_wp2
   go_ret
   exact ⟨ze (by rw [Hfin.out]), rfl⟩
end DescX
namespace DescR
open Go.RowKit BinM DescM DescW DescX
open BinName (ze)
open BinName (Qn)
def Yy (d : List UInt8) : Bool := d == [73] || d == [66] || d == [83] || (decide (2 < d.length) && d.head? == some 76 && d.getLast? == some 59 && zF ((d.drop 1).take (d.length - 2)))
theorem vH (c : UInt8) (t : List UInt8) (h : 0 < t.length) : (c :: t).getLast? = some (t[t.length - 1]'(by omega)) := by
 cases t with
 | nil => simp at h
 | cons a r =>
   rw [List.getLast?_cons_cons, List.getLast?_eq_getElem?, List.getElem?_eq_getElem (by simp)]
theorem zh2 (d : List UInt8) : Yy d = (core d == some d.length) := by
 rw [Bool.eq_iff_iff]
 constructor
 · intro h
   simp only [Yy, Bool.or_eq_true, Bool.and_eq_true, beq_iff_eq, decide_eq_true_eq] at h
   rcases h with ((rfl | rfl) | rfl) | ⟨⟨⟨h1, h2⟩, h3⟩, h4⟩
   · decide
   · decide
   · decide
   · cases d with
     | nil => simp at h1
     | cons c t =>
       simp at h2
       subst h2
       simp only [List.drop_one, List.tail_cons, List.length_cons] at h4 h1
       have hok := XF h4
       have hlen : (t.take (t.length + 1 - 2)).length = t.length - 1 := by rw [List.length_take]; omega
       have hlast : t[t.length - 1]'(by omega) = 59 := by
        have this := vH 76 t (by omega)
        rw [this] at h3
        injection h3
       have hs : semi t = t.length - 1 := by
        refine Vf (fun j hj hjm => ?_) (by omega) hlast
        have hm := hok.1 (t.take (t.length + 1 - 2))[j] (List.getElem_mem (by omega))
        rw [List.getElem_take] at hm
        exact hm.1
       rw [Qs, if_neg (by decide), if_pos rfl, hs]
       have e : t.length + 1 - 2 = t.length - 1 := by omega
       rw [e] at h4
       rw [if_pos ⟨by omega, h4⟩]
       simp; omega
 · intro h
   have h := eq_of_beq h
   cases d with
   | nil => simp [core] at h
   | cons c t =>
     rw [Qs] at h
     split at h
     · rename_i hc
       injection h with h
       simp only [List.length_cons] at h
       have ht : t = [] := List.eq_nil_of_length_eq_zero (by omega)
       subst ht
       rcases hc with rfl | rfl | rfl <;> decide
     · split at h
       · rename_i hc
         subst hc
         split at h
         · rename_i h3
           simp at h
           have hs : semi t = t.length - 1 := by omega
           have hok := XF h3.2
           have hl : (t.take (semi t)).length = semi t := by simp; omega
           have hst := Jd t h3.1
           simp only [hs] at hst
           simp only [Yy, Bool.or_eq_true, Bool.and_eq_true, beq_iff_eq, decide_eq_true_eq]
           right
           refine ⟨⟨⟨by simp; omega, by simp⟩, ?_⟩, ?_⟩
           · rw [vH 76 t (by omega), hst]
           · have e : (76 :: t).length - 2 = semi t := by simp; omega
             rw [e]; exact h3.2
         · cases h
       · cases h
theorem last_at {d : List UInt8} (h : 0 < d.length) (c : UInt8) : (d.getLast? == some c) = ((d[d.length - 1].toNat : Int) == (c.toNat : Int)) := by
 rw [List.getLast?_eq_getElem?, List.getElem?_eq_getElem (by omega), Bool.eq_iff_iff]
 simp only [beq_iff_eq, Option.some.injEq]
 constructor
 · intro h; rw [h]
 · intro h; exact UInt8.toNat_inj.1 (by omega)
theorem Yd {l : List UInt8} : zI l = (decide (brk l ≤ 4) && Yy (l.drop (brk l))) := by
 have hb := Yq l
 rw [zh2, Bool.eq_iff_iff]
 unfold zI Zy
 by_cases h4 : 4 < brk l
 · rw [if_pos h4]; simp; omega
 · rw [if_neg h4]
   cases hc : core (l.drop (brk l)) with
   | none => simp
   | some m => simp; omega
theorem Ji (l : List UInt8) (w : World) (hl : l.length ≤ 140737488355328) :
 Calls Tryz.prog 93 #[.string ⟨l.toArray⟩] w fun e w' => e = .returned (.bool (zF l)) ∧ w = w' :=
 Qn ⟨l.toArray⟩ w (by rw [size_mk]; unfold maxLen; omega)
theorem xA {l : List UInt8} (j : Nat) (_h : j < l.length) (h' : j < (ByteArray.mk l.toArray).size) : (ByteArray.mk l.toArray)[j]'h' = l[j]'_h := rfl
set_option maxRecDepth 100000 in
set_option maxHeartbeats 4000000 in
theorem zP (l : List UInt8) (w : World) (hl : l.length ≤ 140737488355328) :
 Calls Tryz.prog 94 #[.string ⟨l.toArray⟩] w fun e w' => e = .returned (.bool (zI l)) ∧ w = w' := by
 have hb := Yq l
 have HR := zH (Yd (l := l))
 obtain ⟨b, hbk⟩ : ∃ b, b = brk l := ⟨_, rfl⟩
 have Hbk := zH hbk
 rw [← hbk] at hb
 clear hbk
 go_enter Tryz.func94, Tryz.ntmps94
 go_wp2
 go_loop [3] (fun i => ∃ k : Nat, k ≤ b ∧ i = .int .i64 k) (fun i => l.length - (intOf i).toNat)
 case atStart => exact ⟨0, Nat.zero_le _, rfl⟩
 case round =>
  obtain ⟨k, hk, rfl⟩ := hrel
  by_cases hkb : k < b
  · have hkl : k < l.length := by omega
    have hat := xZ l k hkl (by rw [← Hbk.out]; exact hkb)
    have hx := fun h' => xA k hkl h'
    have hx91 : ((l[k].toNat : Int) == 91) = true := by rw [hat]; rfl
    clear hat
    go_wp2_with fail
    go_round
    case rel => exact ⟨k + 1, by omega, by go_num⟩
    case measure => simp [intOf]; omega
  · obtain rfl : k = b := by omega
    have hx2 : (ByteArray.mk l.toArray).extract k l.length = ⟨(l.drop k).toArray⟩ := by
     rw [ext, List.take_of_length_le (by simp)]
    have hstop : k < l.length → ∀ h : k < l.length, ((l[k].toNat : Int) == 91) = false := by
     intro _ h
     rw [beq_eq_false_iff_ne]
     intro he
     have h91 := Jv l (by rw [← Hbk.out]; exact h)
     apply h91
     have : l[brk l]'(by rw [← Hbk.out]; exact h) = l[k] := by congr 1; exact Hbk.out.symm
     rw [this]
     exact UInt8.toNat_inj.1 (by show l[k].toNat = 91; omega)
    have Hstop := zH hstop
    clear hstop
    by_cases h4 : 4 < k
    · have Hfin := zH (show zI l = false by rw [HR.out, ← Hbk.out]; simp; omega)
      by_cases hkl : k < l.length
      · have hx := fun h' => xA k hkl h'
        have hx91 := Hstop.out hkl hkl
        go_wp2_with fail
        go_ret
        exact ⟨ze Hfin.out.symm, rfl⟩
      · go_wp2_with fail
        go_ret
        exact ⟨ze Hfin.out.symm, rfl⟩
    · have HD := zH (show zI l = Yy (l.drop k) by rw [HR.out, ← Hbk.out]; simp; omega)
      have hdl : (l.drop k).length = l.length - k := by simp
      by_cases hkl : k < l.length
      · have hx := fun h' => xA k hkl h'
        have hx91 := Hstop.out hkl hkl
        have hd0 : 0 < (l.drop k).length := by omega
        generalize hdd : l.drop k = d at *
        clear hdd
        have hy0 := fun h' => xA 0 hd0 h'
        have hdl1 : d.length - 1 < d.length := by omega
        have hyl := fun h' => xA (d.length - 1) hdl1 h'
        have hxt : (ByteArray.mk d.toArray).extract 1 (d.length - 1) = ⟨((d.drop 1).take (d.length - 2)).toArray⟩ := by rw [ext]; congr 3
        have hh0 := JH hd0 76
        have hhl := last_at hd0 59
        rw [show ((76 : UInt8).toNat : Int) = 76 from rfl] at hh0
        rw [show ((59 : UInt8).toNat : Int) = 59 from rfl] at hhl
        have hdd : d.length ≤ l.length := by omega
        have HT := zH (show Yy d = _ from by unfold Yy; rw [hh0, hhl])
        clear hh0 hhl
        have Hdl := zH hdl
        clear hdl
        cases q1 : d == [73]
        · cases q2 : d == [66]
          · cases q3 : d == [83]
            · by_cases h2 : 2 < d.length
              · cases q4 : ((d[0].toNat : Int) == 76)
                · have Hfin := zH (show zI l = false by rw [HD.out, HT.out, q1, q2, q3, q4]; simp)
                  go_wp2_with fail
                  go_ret
                  exact ⟨ze Hfin.out.symm, rfl⟩
                · cases q5 : ((d[d.length - 1].toNat : Int) == 59)
                  · have Hfin := zH (show zI l = false by rw [HD.out, HT.out, q1, q2, q3, q5]; simp)
                    go_wp2_with fail
                    go_ret
                    exact ⟨ze Hfin.out.symm, rfl⟩
                  · have Hfin := zH (show zI l = zF ((d.drop 1).take (d.length - 2)) by rw [HD.out, HT.out, q1, q2, q3, q4, q5]; simp [h2])
                    go_wp2_with (go_at_call 93; refine (Ji _ _ (by rw [List.length_take]; simp; omega)).mono ?_; rintro e w' ⟨rfl, rfl⟩)
                    go_ret
                    exact ⟨ze (by rw [Hfin.out, List.drop_one]), rfl⟩
              · have Hfin := zH (show zI l = false by rw [HD.out, HT.out, q1, q2, q3]; simp [h2])
                go_wp2_with fail
                go_ret
                exact ⟨ze Hfin.out.symm, rfl⟩
            · have Hfin := zH (show zI l = true by rw [HD.out, HT.out, q3]; simp)
              go_wp2_with fail
              go_ret
              exact ⟨ze Hfin.out.symm, rfl⟩
          · have Hfin := zH (show zI l = true by rw [HD.out, HT.out, q2]; simp)
            go_wp2_with fail
            go_ret
            exact ⟨ze Hfin.out.symm, rfl⟩
        · have Hfin := zH (show zI l = true by rw [HD.out, HT.out, q1]; simp)
          go_wp2_with fail
          go_ret
          exact ⟨ze Hfin.out.symm, rfl⟩
      · have hnil : l.drop k = [] := List.drop_of_length_le (by omega)
        have Hfin := zH (show zI l = false by rw [HD.out, hnil]; rfl)
        rw [hnil] at hx2
        obtain rfl : k = l.length := by omega
        clear hnil hdl
        go_wp2_with fail
        go_ret
        exact ⟨ze Hfin.out.symm, rfl⟩
theorem Za (l : List UInt8) (w : World) (hl : l.length ≤ 140737488355328) :
 Calls Tryz.prog 56 #[.string ⟨l.toArray⟩] w fun e w' => e = .returned (J7 (zq l)) ∧ w = w' := by
 cases hR : zI l
 · have Hfin := zH (show zq l = ([], false) by unfold zq JK; rw [hR]; rfl)
   have HR := zH hR
   clear hR
   go_enter Tryz.func56, Tryz.ntmps56
   go_wp2_with (go_at_call 94; refine (zP l _ (by omega)).mono ?_; rw [HR.out]; rintro e w' ⟨rfl, rfl⟩)
   go_ret2
   exact ⟨vg Hfin.out rfl, rfl⟩
 · have hp := Jf hR
   have hp0 : 0 < l.length := by omega
   have hh := JH hp0 76
   have hx0 := fun h' => at0 hp0 h'
   have HR := zH hR
   cases hc : ((l[0].toNat : Int) == 76)
   · have hc2 : ((l[0].toNat : Int) != 76) = true := by rw [bne, hc]; rfl
     have Hfin := zH (show zq l = ([], false) by unfold zq JK; rw [hR, hh]; rw [show ((76 : UInt8).toNat : Int) = 76 from rfl, hc]; rfl)
     clear hR hh
     go_enter Tryz.func56, Tryz.ntmps56
     go_wp2_with (go_at_call 94; refine (zP l _ (by omega)).mono ?_; rw [HR.out]; rintro e w' ⟨rfl, rfl⟩)
     go_ret2
     exact ⟨vg Hfin.out rfl, rfl⟩
   · have hc2 : ((l[0].toNat : Int) != 76) = false := by rw [bne, hc]; rfl
     have h3 := yY hR hp0 (by have := eq_of_beq hc; exact UInt8.toNat_inj.1 (by show l[0].toNat = 76; omega))
     have Hfin := zH (show zq l = ((l.drop 1).take (l.length - 2), true) by unfold zq JK; rw [hR, hh]; rw [show ((76 : UInt8).toNat : Int) = 76 from rfl, hc]; rfl)
     clear hR hh
     go_enter Tryz.func56, Tryz.ntmps56
     go_wp2_with (go_at_call 94; refine (zP l _ (by omega)).mono ?_; rw [HR.out]; rintro e w' ⟨rfl, rfl⟩)
     go_ret2
     exact ⟨vg Hfin.out (by rw [ext]; congr 3), rfl⟩
theorem JY (l : List UInt8) (w : World) (hl : l.length ≤ 140737488355328) :
 Calls Tryz.prog 58 #[.string ⟨l.toArray⟩] w fun e w' => e = .returned (Xo (zM l)) ∧ w = w' := by
 cases hR : zI l
 · have Hfin := zH (show zM l = ([], 10) by unfold zM Ub; rw [hR]; rfl)
   have HR := zH hR
   clear hR
   go_enter Tryz.func58, Tryz.ntmps58
   go_wp2_with (go_at_call 94; refine (zP l _ (by omega)).mono ?_; rw [HR.out]; rintro e w' ⟨rfl, rfl⟩)
   go_ret2
   exact ⟨JX Hfin.out rfl, rfl⟩
 · have hp := Jf hR
   have hp0 : 0 < l.length := by omega
   have hh := JH hp0 91
   have hx0 := fun h' => at0 hp0 h'
   have HR := zH hR
   cases hc : ((l[0].toNat : Int) == 91)
   · have hc2 : ((l[0].toNat : Int) != 91) = true := by rw [bne, hc]; rfl
     have Hfin := zH (show zM l = ([], 10) by unfold zM Ub; rw [hR, hh]; rw [show ((91 : UInt8).toNat : Int) = 91 from rfl, hc]; rfl)
     clear hR hh
     go_enter Tryz.func58, Tryz.ntmps58
     go_wp2_with (go_at_call 94; refine (zP l _ (by omega)).mono ?_; rw [HR.out]; rintro e w' ⟨rfl, rfl⟩)
     go_ret2
     exact ⟨JX Hfin.out rfl, rfl⟩
   · have hc2 : ((l[0].toNat : Int) != 91) = false := by rw [bne, hc]; rfl
     have Hfin := zH (show zM l = (l.drop 1, 0) by unfold zM Ub; rw [hR, hh]; rw [show ((91 : UInt8).toNat : Int) = 91 from rfl, hc]; rfl)
     clear hR hh
     go_enter Tryz.func58, Tryz.ntmps58
     go_wp2_with (go_at_call 94; refine (zP l _ (by omega)).mono ?_; rw [HR.out]; rintro e w' ⟨rfl, rfl⟩)
     go_ret2
     exact ⟨JX Hfin.out (by rw [ext, List.take_of_length_le (by simp)]), rfl⟩
theorem G8 {l : List UInt8} (h : zI l = true) (h0 : 0 < l.length) : l = [73] ∨ l = [66] ∨ l = [83] ∨ l[0] = 76 ∨ l[0] = 91 := by
 cases l with
 | nil => simp at h0
 | cons c t =>
   by_cases hc : c = 91
   · subst hc; simp
   · have hb : brk (c :: t) = 0 := by simp [brk, hc]
     rw [Yd, hb, List.drop_zero] at h
     simp only [Bool.and_eq_true, decide_eq_true_eq] at h
     have h2 := h.2
     simp only [Yy, Bool.or_eq_true, Bool.and_eq_true, beq_iff_eq, decide_eq_true_eq] at h2
     rcases h2 with ((h2 | h2) | h2) | ⟨⟨⟨_, h2⟩, _⟩, _⟩
     · exact .inl h2
     · exact .inr (.inl h2)
     · exact .inr (.inr (.inl h2))
     · simp at h2; simp [h2]
theorem jD (l : List UInt8) (w : World) (hl : l.length ≤ 140737488355328) :
 Calls Tryz.prog 61 #[.string ⟨l.toArray⟩] w fun e w' => e = .returned (.bool (Zr l)) ∧ w = w' := by
 cases hN : l == [78]
 · cases hS : l == [83]
   · cases hR : zI l
     · have Hfin := zH (show Zr l = false by unfold Zr; rw [hN, hR]; rfl)
       have HR := zH hR
       clear hR
       go_enter Tryz.func61, Tryz.ntmps61
       go_wp2_with (go_at_call 94; refine (zP l _ (by omega)).mono ?_; rw [HR.out]; rintro e w' ⟨rfl, rfl⟩)
       go_ret
       exact ⟨ze (by rw [Hfin.out]), rfl⟩
     · have hp0 : 0 < l.length := Jf hR
       have hx0 := fun h' => xA 0 hp0 h'
       have hh := G8 hR hp0
       have HR := zH hR
       have hS' : ¬ l = [83] := by intro h; rw [h] at hS; simp at hS
       cases q1 : ((l[0].toNat : Int) == 76)
       · cases q2 : ((l[0].toNat : Int) == 91)
         · have Hfin := zH (show Zr l = false by
            unfold Zr
            rw [hN, hR]
            rcases hh with h | h | h | h | h
            · rw [h]; rfl
            · rw [h]; rfl
            · exact absurd h hS'
            · rw [h] at q1; simp at q1
            · rw [h] at q2; simp at q2)
           clear hR hh hS'
           go_enter Tryz.func61, Tryz.ntmps61
           go_wp2_with (go_at_call 94; refine (zP l _ (by omega)).mono ?_; rw [HR.out]; rintro e w' ⟨rfl, rfl⟩)
           go_ret
           exact ⟨ze (by rw [Hfin.out]), rfl⟩
         · have Hfin := zH (show Zr l = true by
            unfold Zr
            rw [hN, hR]
            have h1 : ¬ l = [73] := by intro h; subst h; simp at q2
            have h2 : ¬ l = [66] := by intro h; subst h; simp at q2
            simp [h1, h2])
           clear hR hh hS'
           go_enter Tryz.func61, Tryz.ntmps61
           go_wp2_with (go_at_call 94; refine (zP l _ (by omega)).mono ?_; rw [HR.out]; rintro e w' ⟨rfl, rfl⟩)
           go_ret
           exact ⟨ze (by rw [Hfin.out]), rfl⟩
       · have Hfin := zH (show Zr l = true by
          unfold Zr
          rw [hN, hR]
          have h1 : ¬ l = [73] := by intro h; subst h; simp at q1
          have h2 : ¬ l = [66] := by intro h; subst h; simp at q1
          simp [h1, h2])
         clear hR hh hS'
         go_enter Tryz.func61, Tryz.ntmps61
         go_wp2_with (go_at_call 94; refine (zP l _ (by omega)).mono ?_; rw [HR.out]; rintro e w' ⟨rfl, rfl⟩)
         go_ret
         exact ⟨ze (by rw [Hfin.out]), rfl⟩
   · have Hfin := zH (show Zr l = true by have := eq_of_beq hS; subst this; decide)
     go_enter Tryz.func61, Tryz.ntmps61
     go_wp2
     go_ret
     exact ⟨ze (by rw [Hfin.out]), rfl⟩
 · have Hfin := zH (show Zr l = true by unfold Zr; rw [hN]; rfl)
   go_enter Tryz.func61, Tryz.ntmps61
   go_wp2
   go_ret
   exact ⟨ze (by rw [Hfin.out]), rfl⟩
end DescR
end Go.Proofs.YtehainbhoflpnaaGreatDoor
