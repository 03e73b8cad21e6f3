/- pieces -/
import Derived.Test.YtehainbhoflpnaaGreatDoorK3
import Derived.Test.YtehainbhoflpnaaGreatDoorK2
import Derived.Lib.Join
import Derived.Deep.QuietTactic
import Derived.BigQuiet
namespace Go.Proofs.YtehainbhoflpnaaGreatDoor
namespace DescS
open Go.RowKit BinM DescM DescW DescX DescR
end DescS
namespace DescG
open Go.RowKit BinM DescM DescW DescX DescR Base
open BinName (ze)
def str (t : List UInt8) : Value := .string ⟨t.toArray⟩
def Ya (g : List UInt8) (ts : List (List UInt8)) : List UInt8 × Int :=
 if 6 < ts.length then ([], 2) else if ts.all zI = false then ([], 10) else if Qk g = false then ([], 10) else (40 :: (ts.flatten ++ 41 :: g), 0)
theorem Z7 {ts : List (List UInt8)} (h : ts.all zI = true) : ts.flatten.length ≤ 30 * ts.length := by
 induction ts with
 | nil => simp
 | cons a t ih =>
   simp only [List.all_cons, Bool.and_eq_true] at h
   have h1 := qG (eq_of_beq h.1)
   have h2 := ih h.2
   rw [List.flatten_cons, List.length_append, List.length_cons]
   omega
theorem VX {ts : List (List UInt8)} {k : Nat} (hk : k < ts.length) (h : zI ts[k] = false) : ts.all zI = false := by
 rw [List.all_eq_false]
 exact ⟨ts[k], List.getElem_mem hk, by rw [h]; simp⟩
theorem UL {ts : List (List UInt8)} {k : Nat} (hk : k < ts.length) (h : (ts.take k).all zI = true) (hr : zI ts[k] = true) : (ts.take (k + 1)).all zI = true := by
 rw [List.take_succ_eq_append_getElem hk, List.all_append, h]
 simp [hr]
theorem Zh6 (X g : List UInt8) : ByteArray.mk (40 :: X).toArray ++ ByteArray.mk #[41] ++ ByteArray.mk g.toArray = ⟨(40 :: (X ++ 41 :: g)).toArray⟩ := by
 rw [show (ByteArray.mk #[41]) = ByteArray.mk [41].toArray from rfl, JM, JM]
 congr 2
 simp
theorem KE (g : List UInt8) : Qk g = (g == [86] || zI g) := rfl
set_option maxHeartbeats 1000000 in
theorem Ye (g : List UInt8) (A : Option Addr) (ts : List (List UInt8)) (m c : Nat) (w : World) (hg : g.length ≤ 140737488355327) (hm : m = ts.length) (hmx : m ≤ maxLen) (hr : Rds w A (ts.map str)) (hs : ∀ t ∈ ts, t.length ≤ 140737488355327) :
 Calls Tryz.prog 119 #[str g, .slice A m c] w fun e w' => e = .returned (Xo (Ya g ts)) ∧ w = w' := by
 have Hm := zH hm
 have hml : ts.length ≤ m := Nat.le_of_eq hm.symm
 have hml2 : m ≤ ts.length := Nat.le_of_eq hm
 have Hr := zH hr
 have Hs := zH hs
 unfold maxLen at hmx
 clear hm hr hs
 unfold str
 by_cases h6 : 6 < ts.length
 · have Hfin := zH (show Ya g ts = ([], 2) by unfold Ya; rw [if_pos h6])
   have h6' : (6 : Int) < (m : Int) := by omega
   go_enter Tryz.func119, Tryz.ntmps119
   go_wp2
   go_ret2
   exact ⟨JX Hfin.out rfl, rfl⟩
 · have h6' : ¬ (6 : Int) < (m : Int) := by omega
   go_enter Tryz.func119, Tryz.ntmps119
   go_wp2_with fail
   go_loop [6, 7] (fun s i => ∃ (k : Nat) (X : List UInt8), k ≤ ts.length ∧ i = .int .i64 k ∧ s = .string ⟨(40 :: X).toArray⟩ ∧ X = (ts.take k).flatten ∧ (ts.take k).all zI = true) (fun _ i => m - (intOf i).toNat)
   case atStart => exact ⟨0, [], Nat.zero_le _, rfl, rfl, rfl, rfl⟩
   case round =>
    obtain ⟨k, X, hk, rfl, rfl, hX, hall⟩ := hrel
    have hXl : X.length ≤ 30 * k := by
     have := Z7 hall
     have h2 : (ts.take k).length ≤ k := by simp; omega
     rw [hX]; omega
    have Hall := zH hall
    have HX := zH hX
    clear hall hX
    by_cases hlt : k < ts.length
    · obtain ⟨b, o, rfl, hb, hcell⟩ := Hr.out.at_ (k := k) (by simpa using hlt)
      have hcell' : w.cell? ⟨b, o + k, none⟩ = some (.string ⟨ts[k].toArray⟩) := by rw [hcell]; simp [str]
      have hsk := Hs.out ts[k] (List.getElem_mem hlt)
      clear hcell
      cases hR : zI ts[k]
      · have Hfin := zH (show Ya g ts = ([], 10) by unfold Ya; rw [if_neg h6, if_pos (VX hlt hR)])
        have HR := zH hR
        clear hR
        generalize ts[k] = x at *
        go_wp2_with (go_at_call 94; refine (zP x _ (by omega)).mono ?_; rw [HR.out]; rintro e w' ⟨rfl, rfl⟩)
        go_ret2
        exact ⟨JX Hfin.out rfl, rfl⟩
      · have Hnext := zH (UL hlt Hall.out hR)
        have Hflat := zH (show (ts.take (k + 1)).flatten = X ++ ts[k] by rw [List.take_succ_eq_append_getElem hlt, List.flatten_append, HX.out]; simp)
        have hxl := qG (eq_of_beq hR)
        have HR := zH hR
        clear hR
        generalize ts[k] = x at *
        have Hgl := zH (JM (40 :: X) x)
        go_wp2_with (go_at_call 94; refine (zP x _ (by omega)).mono ?_; rw [HR.out]; rintro e w' ⟨rfl, rfl⟩)
        go_round
        case rel => exact ⟨k + 1, X ++ x, by omega, by go_num, by rw [Hgl.out]; rfl, Hflat.out.symm, Hnext.out⟩
        case measure => simp [intOf]; omega
    · have hall : ts.all zI = true := by
       have := Hall.out
       rwa [List.take_of_length_le (by omega)] at this
      have hF : ts.flatten = X := by rw [HX.out, List.take_of_length_le (by omega)]
      cases hG : Qk g
      · have Hfin := zH (show Ya g ts = ([], 10) by unfold Ya; rw [if_neg h6, if_neg (by rw [hall]; simp), if_pos hG])
        rw [KE, Bool.or_eq_false_iff] at hG
        obtain ⟨hG1, hG2⟩ := hG
        have hG1' : (g != [86]) = true := by rw [bne, hG1]; rfl
        have HG := zH hG2
        clear hG2 hall hF
        go_wp2_with (go_at_call 94; refine (zP g _ (by omega)).mono ?_; rw [HG.out]; rintro e w' ⟨rfl, rfl⟩)
        go_ret2
        exact ⟨JX Hfin.out rfl, rfl⟩
      · have Hfin := zH (show Ya g ts = (40 :: (X ++ 41 :: g), 0) by unfold Ya; rw [if_neg h6, if_neg (by rw [hall]; simp), if_neg (by rw [hG]; simp), hF])
        rw [KE] at hG
        clear hall hF
        cases hV : g == [86]
        · have hG2 : zI g = true := by rw [hV] at hG; simpa using hG
          have hV' : (g != [86]) = true := by rw [bne, hV]; rfl
          have HG := zH hG2
          clear hG2 hG
          go_wp2_with (go_at_call 94; refine (zP g _ (by omega)).mono ?_; rw [HG.out]; rintro e w' ⟨rfl, rfl⟩)
          go_ret2
          exact ⟨JX Hfin.out (Zh6 X g), rfl⟩
        · have hV' : (g != [86]) = false := by rw [bne, hV]; rfl
          clear hG
          go_wp2_with fail
          go_ret2
          exact ⟨JX Hfin.out (Zh6 X g), rfl⟩
end DescG
namespace DescP
open Go.RowKit BinM DescM DescW DescX DescR DescG Base
open BinName (ze)
def parse : Nat → List UInt8 → Option (List (List UInt8) × List UInt8)
 | 0, l => if l.head? = some 41 then some ([], l.drop 1) else none
 | n + 1, l => if l.head? = some 41 then some ([], l.drop 1) else match Zy l with
   | none => none
   | some k => (parse n (l.drop k)).map fun r => (l.take k :: r.1, r.2)
def zy (l : List UInt8) : List UInt8 × List (List UInt8) × Int :=
 if l.head? = some 40 then (match parse 6 (l.drop 1) with
  | some (ts, g) => if Qk g then (g, ts, 0) else ([], [], 5)
  | none => ([], [], 5)) else ([], [], 5)
theorem QZ (n : Nat) {l : List UInt8} (h : l.head? = some 41) : parse n l = some ([], l.drop 1) := by
 cases n <;> simp [parse, h]
theorem QK (n : Nat) {l : List UInt8} (h : ¬ l.head? = some 41) (hl : Zy l = none) : parse n l = none := by
 cases n <;> simp [parse, h, hl]
theorem jI {l : List UInt8} (h : ¬ l.head? = some 41) : parse 0 l = none := by simp [parse, h]
theorem JB (n : Nat) {l : List UInt8} {k : Nat} (h : ¬ l.head? = some 41) (hl : Zy l = some k) : parse (n + 1) l = (parse n (l.drop k)).map fun r => (l.take k :: r.1, r.2) := by
 simp [parse, h, hl]
def Taken (sig : List UInt8) (ts : List (List UInt8)) (l : List UInt8) : Prop :=
 sig = 40 :: (ts.flatten ++ l) ∧ ts.all zI = true ∧ (ts.length ≤ 6 → parse 6 (sig.drop 1) = (parse (6 - ts.length) l).map fun r => (ts ++ r.1, r.2)) ∧ (6 < ts.length → parse 6 (sig.drop 1) = none)
theorem Taken.start {sig : List UInt8} (h : sig.head? = some 40) : Taken sig [] (sig.drop 1) := by
 refine ⟨?_, rfl, fun _ => ?_, fun h => ?_⟩
 · cases sig with
   | nil => simp at h
   | cons c t => simp at h; subst h; simp
 · simp
 · simp at h
theorem Taken.step {sig : List UInt8} {ts : List (List UInt8)} {l : List UInt8} (h : Taken sig ts l) (h41 : ¬ l.head? = some 41) {k : Nat} (hk : Zy l = some k) (h6 : ts.length ≤ 6) : Taken sig (ts ++ [l.take k]) (l.drop k) := by
 obtain ⟨h1, h2, h3, _⟩ := h
 have hle := qG hk
 refine ⟨?_, ?_, fun h => ?_, fun h => ?_⟩
 · rw [h1, List.flatten_append]
   simp
 · rw [List.all_append, h2]
   simp [(Yc hle.2.1).2 hk]
 · rw [h3 h6]
   simp at h
   obtain ⟨n, hn⟩ : ∃ n, 6 - ts.length = n + 1 := ⟨5 - ts.length, by omega⟩
   have hn2 : 6 - (ts ++ [l.take k]).length = n := by simp; omega
   rw [hn, hn2, JB n h41 hk, Option.map_map]
   congr 1
   funext r
   simp
 · rw [h3 h6]
   simp at h
   have : 6 - ts.length = 0 := by omega
   rw [this, jI h41]
   rfl
theorem ze4 (l : List UInt8) (c : UInt8) : Lib.hasPrefix l [c] = (l.head? == some c) := by
 cases l with
 | nil => rfl
 | cons a t =>
   rw [Bool.eq_iff_iff]
   simp [Lib.hasPrefix, List.isPrefixOf]
   exact eq_comm
theorem XT {l : List UInt8} (h : ¬ l.head? = some 40) : zy l = ([], [], 5) := by unfold zy; rw [if_neg h]
theorem jv {l : List UInt8} (h : l.head? = some 40) (hp : parse 6 (l.drop 1) = none) : zy l = ([], [], 5) := by unfold zy; rw [if_pos h, hp]
theorem Xf {l : List UInt8} (h : l.head? = some 40) {ts : List (List UInt8)} {g : List UInt8} (hp : parse 6 (l.drop 1) = some (ts, g)) (hg : Qk g = false) : zy l = ([], [], 5) := by unfold zy; rw [if_pos h, hp]; simp [hg]
theorem XV {l : List UInt8} (h : l.head? = some 40) {ts : List (List UInt8)} {g : List UInt8} (hp : parse 6 (l.drop 1) = some (ts, g)) (hg : Qk g = true) : zy l = (g, ts, 0) := by unfold zy; rw [if_pos h, hp]; simp [hg]
def jc (w : World) (base : Nat) (v : Value) (ts : List (List UInt8)) : Prop := w.ownsRow base 9 1 v ts.length (ts.map str)
theorem jc.nil (w : World) (base : Nat) : jc w base (.slice none 0 0) [] := World.ownsRow_nil _ _ _ _
def Uu (w : World) (r : List UInt8 × List (List UInt8) × Int) (e : Ending) (w' : World) : Prop :=
 ∃ v, e = .returned (.tuple #[str r.1, v, .int .i64 r.2.2]) ∧ jc w' w.heap.size v r.2.1 ∧ Below w.heap.size w w'
theorem Xm : (Tryz.prog.info? 9).map (fun i => (i.zero, i.size, i.bytes)) = some (some (.string ⟨#[]⟩), 1, 16) := by kernel_rfl
theorem zz7 (ts : List (List UInt8)) : ∀ u ∈ ts.map str, u.oneCell' = true := by
 intro u hu
 obtain ⟨t, _, rfl⟩ := List.mem_map.1 hu
 rfl
theorem Zp7 {ops : Array Oper} {rest : List Oper} {o : Oper} {a : Act} {w : World} {Q : Exit → Act → World → Prop} (hgd : o.guard = none) (s x : Operand)
 (ho : o.op = .call { callee := .builtin .append, args := #[s, x], argTypes := #[25, 25] })
 (base : Nat) (v : Value) (p : List (List UInt8)) (hs : a.eval s = v) (hown : jc w base v p) (A : Option Addr) (m c : Nat) (l : List (List UInt8)) (hx : a.eval x = .slice A m c)
 (hm : m = l.length) (hr : Rds w A (l.map str)) (hlen : p.length + l.length ≤ 1048576) (hbase : base ≤ w.heap.size)
 (h : ∀ v' w', jc w' base v' (p ++ l) → w.grownBy w' v.ownBlock → wpList Tryz.prog ops Q rest (a.put o.dst v') w') : wpList Tryz.prog ops Q (o :: rest) a w := by
 obtain ⟨i0, hi, hz, hs1, hb1⟩ := info_parts Xm
 refine Zk hgd s x 25 ho base 9 i0 _ 16 Tryz.underlying25 hi hz hs1 hb1 rfl v p.length (p.map str) hs hown A m c (l.map str) hx (by rw [List.length_map, hm]) hr (zz7 l) (by unfold maxLen; omega) (by omega) hbase ?_
 intro v' w' h1 h2
 refine h v' w' ?_ h2
 unfold jc
 rw [List.map_append, List.length_append, ← hm]
 exact h1
theorem jc.slice {w : World} {base : Nat} {v : Value} {p : List (List UInt8)} (h : jc w base v p) :
 ∃ A c, v = .slice A p.length c ∧ p.length ≤ c ∧ c ≤ maxLen ∧ Rds w A (p.map str) ∧ ∀ a, A = some a → base ≤ a.block ∧ a.block < w.heap.size := by
 obtain ⟨A, c, rfl, h1, h2, h3, _⟩ := zS h
 exact ⟨A, c, rfl, h1, h2, Rds.own h, fun a ha => ⟨(h3 a ha).1, (h3 a ha).2.1⟩⟩
theorem JZ (l : List UInt8) (w : World) :
 Calls Tryz.prog 156 #[.string ⟨l.toArray⟩, .string ⟨#[41]⟩] w fun e w' => e = .returned (.bool (l.head? == some 41)) ∧ w = w' :=
 (Tryz.strings_HasPrefix ⟨l.toArray⟩ ⟨#[41]⟩ w).mono fun _ _ ⟨h1, h2⟩ => ⟨by rw [h1]; congr 2; exact ze4 l 41, h2.symm⟩
theorem Zh8 (l : List UInt8) (w : World) :
 Calls Tryz.prog 155 #[.string ⟨l.toArray⟩, .string ⟨#[40]⟩] w fun e w' => e = .returned (.tuple #[.string ⟨(if l.head? == some 40 then l.drop 1 else l).toArray⟩, .bool (l.head? == some 40)]) ∧ w = w' :=
 (Tryz.strings_CutPrefix ⟨l.toArray⟩ ⟨#[40]⟩ w).mono fun _ _ ⟨h1, h2⟩ => ⟨by
  rw [h1]
  have e := ze4 l 40
  have e2 : Lib.trimPrefix (ByteArray.mk l.toArray).data.toList (ByteArray.mk #[40]).data.toList = if l.head? == some 40 then l.drop 1 else l := by
   unfold Lib.trimPrefix
   show (if Lib.hasPrefix l [40] = true then l.drop 1 else l) = _
   rw [e]
  rw [e2, show Lib.hasPrefix (ByteArray.mk l.toArray).data.toList (ByteArray.mk #[40]).data.toList = _ from e], h2.symm⟩
def zb5 : Value → Nat | .string s => s.size | _ => 0
theorem Jg {w w' : World} {r : List UInt8 × List (List UInt8) × Int} {x : ByteArray} {v : Value} {g : List UInt8} {ts : List (List UInt8)} {n : Int} (h : r = (g, ts, n)) (hx : x = ⟨g.toArray⟩) (ho : jc w' w.heap.size v ts) (hb : Below w.heap.size w w') :
 Uu w r (.returned (.tuple #[.string x, v, .int .i64 n])) w' := by
 subst h; subst hx
 exact ⟨v, rfl, ho, hb⟩
def Rel (w : World) (sig : List UInt8) (r t : Value) (wr : World) : Prop :=
 ∃ (ts : List (List UInt8)) (l : List UInt8), ts.length ≤ 6 ∧ l.length ≤ sig.length ∧ r = .string ⟨l.toArray⟩ ∧ Taken sig ts l ∧ jc wr w.heap.size t ts ∧ Below w.heap.size w wr
set_option maxHeartbeats 2000000 in
theorem yJ (sig : List UInt8) (w : World) (hl : sig.length ≤ 140737488355327) :
 Calls Tryz.prog 112 #[.string ⟨sig.toArray⟩] w (Uu w (zy sig)) := by
 cases h40 : sig.head? == some 40
 · have Hfin := zH (XT (by simpa using h40))
   have H40 := zH h40
   clear h40
   go_enter Tryz.func112, Tryz.ntmps112
   go_wp2_with (go_at_call 155; refine (Zh8 sig _).mono ?_; rw [H40.out]; rintro e w' ⟨rfl, rfl⟩)
   go_ret3
   exact Jg Hfin.out rfl (jc.nil _ _) (Below.refl _ _)
 · have h40' : sig.head? = some 40 := eq_of_beq h40
   have Hstart := zH (Taken.start h40')
   have H40 := zH h40
   have H40' := zH h40'
   have hdl : (sig.drop 1).length ≤ sig.length := by simp
   clear h40 h40'
   generalize hR : sig.drop 1 = R at *
   have HR := zH hR
   clear hR
   go_enter Tryz.func112, Tryz.ntmps112
   go_wp2_with (go_at_call 155; refine (Zh8 sig _).mono ?_; rw [H40.out, HR.out]; rintro e w' ⟨rfl, rfl⟩)
   go_loopw [5, 7, 8, 9] (fun r t _ _ wr => Rel w sig r t wr) (fun r _ _ _ _ => zb5 r)
   case atStart => exact ⟨[], R, by simp, hdl, rfl, Hstart.out, jc.nil _ _, Below.refl _ _⟩
   case round =>
    obtain ⟨ts, l, h6, hls, rfl, hway, hown, hbel⟩ := hrel
    obtain ⟨A, c, rfl, hc1, hc2, hrd, _⟩ := hown.slice
    have Hown := zH hown
    have Hbel := zH hbel
    have hsz := hbel.size
    have Hway := zH hway
    unfold maxLen at hc2
    clear hown hbel hway hrd
    cases h41 : l.head? == some 41
    · have H41 := zH h41
      have hn41 : ¬ l.head? = some 41 := by simpa using h41
      cases hL : Zy l with
      | none =>
        have hp := Hway.out.2.2.1 h6
        rw [QK _ hn41 hL] at hp
        have Hfin := zH (jv H40'.out (by rw [hp]; rfl))
        have HL := zH hL
        clear hL hn41 h41 hp
        go_wp2_with (first | (go_at_call 156; refine (JZ l _).mono ?_; rw [H41.out]; rintro e w' ⟨rfl, rfl⟩) | (go_at_call 157; refine (yg l _ (by omega)).mono ?_; rw [HL.out]; unfold Xk; rintro e w' ⟨rfl, rfl⟩))
        go_ret3
        exact Jg Hfin.out rfl (jc.nil _ _) Hbel.out
      | some k =>
        have hk := qG hL
        by_cases hfull : ts.length = 6
        · have hp := Hway.out.2.2.1 h6
          rw [show 6 - ts.length = 0 by omega, jI hn41] at hp
          have Hfin := zH (jv H40'.out (by rw [hp]; rfl))
          have HL := zH hL
          have hb6 : ((ts.length : Int) == 6) = true := by rw [hfull]; rfl
          clear hL hn41 h41 hp hfull
          go_wp2_with (first | (go_at_call 156; refine (JZ l _).mono ?_; rw [H41.out]; rintro e w' ⟨rfl, rfl⟩) | (go_at_call 157; refine (yg l _ (by omega)).mono ?_; rw [HL.out]; unfold Xk; rintro e w' ⟨rfl, rfl⟩))
          go_ret3
          exact Jg Hfin.out rfl (jc.nil _ _) Hbel.out
        · have Hnext := zH (Hway.out.step hn41 hL h6)
          have HL := zH hL
          have hb6 : ((ts.length : Int) == 6) = false := by rw [beq_eq_false_iff_ne]; omega
          have hx1 : (ByteArray.mk l.toArray).extract 0 k = ⟨(l.take k).toArray⟩ := by rw [ext]; simp
          have hx2 : (ByteArray.mk l.toArray).extract k l.length = ⟨(l.drop k).toArray⟩ := by rw [ext, List.take_of_length_le (by simp)]
          clear hL hn41 h41
          go_wp2_with (first
           | (go_at_call 156; refine (JZ l _).mono ?_; rw [H41.out]; rintro e w' ⟨rfl, rfl⟩)
           | (go_at_call 157; refine (yg l _ (by omega)).mono ?_; rw [HL.out]; unfold Xk; rintro e w' ⟨rfl, rfl⟩)
           | (at_builtin
              refine Zp7 rfl (.tmp 33) (.tmp 37) rfl w.heap.size _ ts rfl (Hown.out.alloc _) (some ⟨wr.heap.size, 0, none⟩) 1 1 [l.take k] rfl rfl (zB _ #[str (l.take k)] 9) (by simp; omega) (by simp; omega) ?_
              intro v2 w2 hown2 hg2
              have Hb2 := zH (zV (Hbel.out.alloc hsz _) (Hown.out.alloc _) (Nat.le_refl _) (by simp; omega) hg2)
              have Hown2 := zH hown2
              clear hown2 hg2))
          go_roundw
          case rel => exact ⟨ts ++ [l.take k], l.drop k, by simp; omega, by simp; omega, rfl, Hnext.out, Hown2.out, Hb2.out⟩
          case measure => simp [zb5, size_mk]; omega
    · have H41 := zH h41
      have hp := Hway.out.2.2.1 h6
      rw [QZ _ (eq_of_beq h41)] at hp
      simp only [Option.map_some, List.append_nil] at hp
      have hpos : 0 < l.length := by cases l with
       | nil => simp at h41
       | cons a t => simp
      have hx1 : (ByteArray.mk l.toArray).extract 1 l.length = ⟨(l.drop 1).toArray⟩ := by rw [ext, List.take_of_length_le (by simp)]
      have hgl : (l.drop 1).length ≤ sig.length := by simp; omega
      cases hG : Qk (l.drop 1)
      · have Hfin := zH (Xf H40'.out hp hG)
        have HG := zH hG
        clear h41 hp hG
        generalize l.drop 1 = g at *
        go_wp2_with (first
         | (go_at_call 156; refine (JZ l _).mono ?_; rw [H41.out]; rintro e w' ⟨rfl, rfl⟩)
         | (go_at_call 158; refine (yR g _ (by omega)).mono ?_; rw [HG.out]; rintro e w' ⟨rfl, rfl⟩))
        go_ret3
        exact Jg Hfin.out rfl (jc.nil _ _) Hbel.out
      · have Hfin := zH (XV H40'.out hp hG)
        have HG := zH hG
        clear h41 hp hG
        generalize l.drop 1 = g at *
        go_wp2_with (first
         | (go_at_call 156; refine (JZ l _).mono ?_; rw [H41.out]; rintro e w' ⟨rfl, rfl⟩)
         | (go_at_call 158; refine (yR g _ (by omega)).mono ?_; rw [HG.out]; rintro e w' ⟨rfl, rfl⟩))
        go_ret3
        exact Jg Hfin.out rfl Hown.out Hbel.out
theorem zf6 {l : List UInt8} {k : Nat} (h : Zy l = some k) : (Zy l).getD 0 = k := by rw [h]; rfl
theorem zf7 (l : List UInt8) (w : World) (hl : l.length ≤ 140737488355327) :
 Calls Tryz.prog 118 #[.string ⟨l.toArray⟩] w fun e w' => e = .returned (.int .i64 (((Zy l).getD 0 : Nat) : Int)) ∧ w = w' := by
 go_enter Tryz.func118, Tryz.ntmps118
 go_wp2_with fail
 go_loop [3] (fun i => ∃ k : Nat, 1 ≤ k ∧ k ≤ 31 ∧ i = .int .i64 k ∧ ∀ j, Zy l = some j → k ≤ j) (fun i => 31 - (intOf i).toNat)
 case atStart => exact ⟨1, by omega, by omega, rfl, fun j hj => (qG hj).1⟩
 case round =>
  obtain ⟨k, hk1, hk2, rfl, hall⟩ := hrel
  have Hall := zH hall
  clear hall
  by_cases hk : k ≤ l.length ∧ k ≤ 30
  · obtain ⟨ha, hb⟩ := hk
    have hx1 : (ByteArray.mk l.toArray).extract 0 k = ⟨(l.take k).toArray⟩ := by rw [ext]; simp
    cases hR : zI (l.take k)
    · have hnext : ∀ j, Zy l = some j → k + 1 ≤ j := by
       intro j hj
       have h1 := Hall.out j hj
       rcases Nat.lt_or_ge k j with h | h
       · exact h
       · exfalso
         have : j = k := by omega
         subst this
         rw [(Yc ha).2 hj] at hR
         cases hR
      have Hnext := zH hnext
      have HR := zH hR
      clear hR hnext
      have hxl : (l.take k).length ≤ l.length := by simp; omega
      generalize l.take k = x at *
      go_wp2_with (go_at_call 94; refine (zP x _ (by omega)).mono ?_; rw [HR.out]; rintro e w' ⟨rfl, rfl⟩)
      go_round
      case rel => exact ⟨k + 1, by omega, by omega, by go_num, Hnext.out⟩
      case measure => simp [intOf]; omega
    · have Hfin := zH (zf6 ((Yc ha).1 hR))
      have HR := zH hR
      clear hR
      have hxl : (l.take k).length ≤ l.length := by simp; omega
      generalize l.take k = x at *
      go_wp2_with (go_at_call 94; refine (zP x _ (by omega)).mono ?_; rw [HR.out]; rintro e w' ⟨rfl, rfl⟩)
      go_ret
      exact ⟨by rw [Hfin.out]; rfl, rfl⟩
  · have Hfin := zH (show (Zy l).getD 0 = 0 by
     cases hT : Zy l with
     | none => rfl
     | some j =>
       have h1 := Hall.out j hT
       have h2 := qG hT
       omega)
    by_cases ha : k ≤ l.length
    · have hb : ¬ k ≤ 30 := fun hb => hk ⟨ha, hb⟩
      have hb' : decide ((k : Int) ≤ 30) = false := by simp; omega
      clear hk
      go_wp2_with fail
      go_ret
      exact ⟨by rw [Hfin.out]; rfl, rfl⟩
    · have ha' : decide ((k : Int) ≤ (l.length : Int)) = false := by simp; omega
      clear hk
      go_wp2_with fail
      go_ret
      exact ⟨by rw [Hfin.out]; rfl, rfl⟩
end DescP
namespace DescQ
open Go.RowKit BinM DescM DescW DescX DescR DescG DescP Base
open BinName (ze)
def Zr6 (w : World) (sig : List UInt8) (r t : Value) (wr : World) : Prop :=
 ∃ (ts : List (List UInt8)) (l : List UInt8), ts.length ≤ 7 ∧ l.length ≤ sig.length ∧ r = .string ⟨l.toArray⟩ ∧ Taken sig ts l ∧ jc wr w.heap.size t ts ∧ Below w.heap.size w wr
theorem Zg2 {ts : List (List UInt8)} (h : ts.all zI = true) : ∀ t ∈ ts, t.length ≤ 140737488355327 := by
 intro t ht
 have := List.all_eq_true.1 h t ht
 have := qG (eq_of_beq this)
 omega
set_option maxRecDepth 100000 in
set_option maxHeartbeats 4000000 in
theorem jm (sig : List UInt8) (w : World) (hl : sig.length ≤ 140737488355327) :
 Calls Tryz.prog 66 #[.string ⟨sig.toArray⟩] w (Uu w (zy sig)) := by
 by_cases h0 : 0 < sig.length
 · have hx0 := fun h' => xA 0 h0 h'
   have hh := JH h0 40
   rw [show ((40 : UInt8).toNat : Int) = 40 from rfl] at hh
   cases h40 : ((sig[0].toNat : Int) == 40)
   · have hb : ((sig[0].toNat : Int) != 40) = true := by rw [bne, h40]; rfl
     have Hfin := zH (XT (l := sig) (by have : (sig.head? == some 40) = false := by rw [hh, h40]
                                        simpa using this))
     clear hh
     go_enter Tryz.func66, Tryz.ntmps66
     go_wp2_with fail
     go_ret3
     exact Jg Hfin.out rfl (jc.nil _ _) (Below.refl _ _)
   · have hb : ((sig[0].toNat : Int) != 40) = false := by rw [bne, h40]; rfl
     have h40' : sig.head? = some 40 := by rw [h40] at hh; exact eq_of_beq hh
     have Hstart := zH (Taken.start h40')
     have H40' := zH h40'
     have hdl : (sig.drop 1).length ≤ sig.length := by simp
     have hxd : (ByteArray.mk sig.toArray).extract 1 sig.length = ⟨(sig.drop 1).toArray⟩ := by rw [ext, List.take_of_length_le (by simp)]
     clear h40' hh
     generalize hR : sig.drop 1 = R at *
     have HR := zH hR
     clear hR
     go_enter Tryz.func66, Tryz.ntmps66
     go_wp2_with fail
     go_loopw [5, 6, 7] (fun t r _ wr => Zr6 w sig r t wr) (fun _ r _ _ => zb5 r)
     case atStart => exact ⟨[], R, by simp, hdl, rfl, Hstart.out, jc.nil _ _, Below.refl _ _⟩
     case round =>
      obtain ⟨ts, l, h7, hls, rfl, hway, hown, hbel⟩ := hrel
      obtain ⟨A, c, rfl, hc1, hc2, hrd, _⟩ := hown.slice
      have Hown := zH hown
      have Hbel := zH hbel
      have hsz := hbel.size
      have Hway := zH hway
      have Hrd := zH hrd
      unfold maxLen at hc2
      clear hown hbel hway hrd hx0 hb hxd
      by_cases hl0 : 0 < l.length
      · have hx0 := fun h' => xA 0 hl0 h'
        have hh := JH hl0 41
        rw [show ((41 : UInt8).toNat : Int) = 41 from rfl] at hh
        cases h41 : ((l[0].toNat : Int) == 41)
        · have hb41 : ((l[0].toNat : Int) != 41) = true := by rw [bne, h41]; rfl
          have hn41 : ¬ l.head? = some 41 := by
           have : (l.head? == some 41) = false := by rw [hh, h41]
           simpa using this
          by_cases h6 : ts.length ≤ 6
          · cases hL : Zy l with
            | none =>
              have hp := Hway.out.2.2.1 h6
              rw [QK _ hn41 hL] at hp
              have Hfin := zH (jv H40'.out (by rw [HR.out] at hp; rw [HR.out, hp]; rfl))
              have HL := zH (show ((Zy l).getD 0 : Nat) = 0 by rw [hL]; rfl)
              clear hL hn41 hp hh
              go_wp2_with (go_at_call 118; refine (zf7 l _ (by omega)).mono ?_; rw [HL.out]; rintro e w' ⟨rfl, rfl⟩)
              go_ret3
              exact Jg Hfin.out rfl (jc.nil _ _) Hbel.out
            | some k =>
              have hk := qG hL
              have Hnext := zH (Hway.out.step hn41 hL h6)
              have HL := zH (zf6 hL)
              have hk0 : ((k : Int) == 0) = false := by rw [beq_eq_false_iff_ne]; omega
              have hx1 : (ByteArray.mk l.toArray).extract 0 k = ⟨(l.take k).toArray⟩ := by rw [ext]; simp
              have hx2 : (ByteArray.mk l.toArray).extract k l.length = ⟨(l.drop k).toArray⟩ := by rw [ext, List.take_of_length_le (by simp)]
              clear hL hn41 hh
              go_wp2_with (first
               | (go_at_call 118; refine (zf7 l _ (by omega)).mono ?_; rw [HL.out]; rintro e w' ⟨rfl, rfl⟩)
               | (at_builtin
                  refine Zp7 rfl (.tmp 37) (.tmp 41) rfl w.heap.size _ ts rfl (Hown.out.alloc _) (some ⟨wr.heap.size, 0, none⟩) 1 1 [l.take k] rfl rfl (zB _ #[str (l.take k)] 9) (by simp; omega) (by simp; omega) ?_
                  intro v2 w2 hown2 hg2
                  have Hb2 := zH (zV (Hbel.out.alloc hsz _) (Hown.out.alloc _) (Nat.le_refl _) (by simp; omega) hg2)
                  have Hown2 := zH hown2
                  clear hown2 hg2))
              go_roundw
              case rel => exact ⟨ts ++ [l.take k], l.drop k, by simp; omega, by simp; omega, rfl, Hnext.out, Hown2.out, Hb2.out⟩
              case measure => simp [zb5, size_mk]; omega
          · have hp := Hway.out.2.2.2 (by omega)
            have Hfin := zH (jv H40'.out hp)
            have h6d : decide ((ts.length : Int) ≤ 6) = false := by simp; omega
            clear hn41 hp hh h6
            go_wp2_with fail
            go_ret3
            exact Jg Hfin.out rfl (jc.nil _ _) Hbel.out
        · have hb41 : ((l[0].toNat : Int) != 41) = false := by rw [bne, h41]; rfl
          have h41' : l.head? = some 41 := by rw [h41] at hh; exact eq_of_beq hh
          have hall := Hway.out.2.1
          have hsig := Hway.out.1
          have hxg : (ByteArray.mk l.toArray).extract 1 l.length = ⟨(l.drop 1).toArray⟩ := by rw [ext, List.take_of_length_le (by simp)]
          have hl41 : l = 41 :: l.drop 1 := by
           cases l with
           | nil => simp at hl0
           | cons a t => simp at h41'; subst h41'; rfl
          have hgl : (l.drop 1).length ≤ sig.length := by simp; omega
          have Hall := zH (Zg2 hall)
          by_cases h6 : ts.length ≤ 6
          · have hp := Hway.out.2.2.1 h6
            rw [QZ _ h41'] at hp
            simp only [Option.map_some, List.append_nil] at hp
            cases hG : Qk (l.drop 1)
            · have Hfin := zH (Xf H40'.out hp hG)
              have HS := zH (show Ya (l.drop 1) ts = ([], 10) by unfold Ya; rw [if_neg (by omega), if_neg (by rw [hall]; simp), if_pos hG])
              clear hh hp hG h41' hsig hall hl41
              generalize l.drop 1 = g at *
              go_wp2_with (go_at_call 119; refine (Ye g A ts _ c _ (by omega) rfl (by unfold maxLen; omega) Hrd.out Hall.out).mono ?_; rw [HS.out]; unfold Xo; rintro e w' ⟨rfl, rfl⟩)
              go_ret3
              exact Jg Hfin.out rfl (jc.nil _ _) Hbel.out
            · have Hfin := zH (XV H40'.out hp hG)
              have HS := zH (show Ya (l.drop 1) ts = (sig, 0) by unfold Ya; rw [if_neg (by omega), if_neg (by rw [hall]; simp), if_neg (by rw [hG]; simp), ← hl41, ← hsig])
              clear hh hp hG h41' hsig hall hl41
              generalize l.drop 1 = g at *
              go_wp2_with (go_at_call 119; refine (Ye g A ts _ c _ (by omega) rfl (by unfold maxLen; omega) Hrd.out Hall.out).mono ?_; rw [HS.out]; unfold Xo; rintro e w' ⟨rfl, rfl⟩)
              go_ret3
              exact Jg Hfin.out rfl Hown.out Hbel.out
          · have hp := Hway.out.2.2.2 (by omega)
            have Hfin := zH (jv H40'.out hp)
            have HS := zH (show Ya (l.drop 1) ts = ([], 2) by unfold Ya; rw [if_pos (by omega)])
            clear hh hp h41' hsig hall hl41
            generalize l.drop 1 = g at *
            go_wp2_with (go_at_call 119; refine (Ye g A ts _ c _ (by omega) rfl (by unfold maxLen; omega) Hrd.out Hall.out).mono ?_; rw [HS.out]; unfold Xo; rintro e w' ⟨rfl, rfl⟩)
            go_ret3
            exact Jg Hfin.out rfl (jc.nil _ _) Hbel.out
      · have hnil : l = [] := List.eq_nil_of_length_eq_zero (by omega)
        subst hnil
        have Hfin := zH (show zy sig = ([], [], 5) by
         refine jv H40'.out ?_
         by_cases h6 : ts.length ≤ 6
         · have hp := Hway.out.2.2.1 h6
           rw [hp, QK (6 - ts.length) (l := []) (by simp) rfl]; rfl
         · exact Hway.out.2.2.2 (by omega))
        go_wp2_with fail
        go_ret3
        exact Jg Hfin.out rfl (jc.nil _ _) Hbel.out
 · have hnil : sig = [] := List.eq_nil_of_length_eq_zero (by omega)
   subst hnil
   have Hfin := zH (XT (l := []) (by simp))
   go_enter Tryz.func66, Tryz.ntmps66
   go_wp2_with fail
   go_ret3
   exact Jg Hfin.out rfl (jc.nil _ _) (Below.refl _ _)
theorem drawn {B : Nat} {a w : World} (h : Below B a w) (n : Nat) : Below B a (w.drewN n) := ⟨h.os, h.tape, h.output, h.size, h.block⟩
set_option maxHeartbeats 1000000 in
theorem UR (A B : Option Addr) (a b : List (List UInt8)) (m k c d : Nat) (w : World) (hm : m = a.length) (hk : k = b.length) (hmx : m ≤ maxLen) (hr : Rds w A (a.map str)) (hr2 : Rds w B (b.map str)) :
 Calls Tryz.prog 13 #[.slice A m c, .slice B k d] w fun e w' => e = .returned (.bool (decide (a = b))) ∧ Below w.heap.size w w' := by
 have hml : a.length ≤ m := Nat.le_of_eq hm.symm
 have hml2 : m ≤ a.length := Nat.le_of_eq hm
 have hkl : b.length ≤ k := Nat.le_of_eq hk.symm
 have hkl2 : k ≤ b.length := Nat.le_of_eq hk
 have Hr := zH hr
 have Hr2 := zH hr2
 unfold maxLen at hmx
 clear hm hk hr hr2
 by_cases hmk : m = k
 · have hb : ((m : Int) != (k : Int)) = false := by rw [hmk]; simp
   have hkm : k ≤ m := by omega
   have hmk' : m ≤ k := by omega
   clear hmk
   go_enter Tryz.func13, Tryz.ntmps13
   go_wp2_with fail
   go_loopw [5] (fun i wr => ∃ j : Nat, j ≤ m ∧ i = .int .i64 j ∧ a.take j = b.take j ∧ Below w.heap.size w wr) (fun i _ => m - (intOf i).toNat)
   case atStart => exact ⟨0, Nat.zero_le _, rfl, rfl, Below.refl _ _⟩
   case round =>
    obtain ⟨j, hj, rfl, hsame, hbel⟩ := hrel
    have Hsame := zH hsame
    have Hbel := zH hbel
    clear hsame
    by_cases hlt : j < m
    · obtain ⟨b1, o1, rfl, hb1, hcell1⟩ := (Hr.out.below hbel).at_ (k := j) (by simp; omega)
      obtain ⟨b2, o2, rfl, hb2, hcell2⟩ := (Hr2.out.below hbel).at_ (k := j) (by simp; omega)
      have hja : j < a.length := by omega
      have hjb : j < b.length := by omega
      have hc1 : wr.cell? ⟨b1, o1 + j, none⟩ = some (.string ⟨a[j].toArray⟩) := by rw [hcell1]; simp [str]
      have hc2 : wr.cell? ⟨b2, o2 + j, none⟩ = some (.string ⟨b[j].toArray⟩) := by rw [hcell2]; simp [str]
      have e1 : a.take (j + 1) = a.take j ++ [a[j]] := List.take_succ_eq_append_getElem hja
      have e2 : b.take (j + 1) = b.take j ++ [b[j]] := List.take_succ_eq_append_getElem hjb
      have hj1 : (j : Int) < (m : Int) := by omega
      have hj2 : (j : Int) < (k : Int) := by omega
      have hj0 : (0 : Int) ≤ (j : Int) := by omega
      clear hcell1 hcell2 hbel
      cases hx : a[j] == b[j]
      · have Hfin := zH (show decide (a = b) = false by
         rw [decide_eq_false_iff_not]
         intro h
         have : a[j] = b[j] := by subst h; rfl
         rw [this] at hx
         simp at hx)
        have hx' : (a[j] != b[j]) = true := by rw [bne, hx]; rfl
        clear e1 e2
        generalize a[j] = x at *
        generalize b[j] = y at *
        go_wp2_with fail
        go_quiet (fail)
        go_wp2_with fail
        go_ret
        exact ⟨by rw [Hfin.out]; rfl, drawn Hbel.out _⟩
      · have Hnext := zH (show a.take (j + 1) = b.take (j + 1) by rw [e1, e2, Hsame.out, eq_of_beq hx])
        have hx' : (a[j] != b[j]) = false := by rw [bne, hx]; rfl
        clear e1 e2
        generalize a[j] = x at *
        generalize b[j] = y at *
        go_wp2_with fail
        go_quiet (fail)
        go_wp2_with fail
        go_roundw
        case rel => exact ⟨j + 1, by omega, by go_num, Hnext.out, drawn Hbel.out _⟩
        case measure => simp [intOf]; omega
    · have Hfin := zH (show decide (a = b) = true by
       rw [decide_eq_true_iff]
       have h := Hsame.out
       rwa [List.take_of_length_le (by omega), List.take_of_length_le (by omega)] at h)
      go_wp2_with fail
      go_ret
      exact ⟨by rw [Hfin.out]; rfl, Hbel.out⟩
 · have hb : ((m : Int) != (k : Int)) = true := by rw [bne_iff_ne]; omega
   have Hfin := zH (show decide (a = b) = false by
    rw [decide_eq_false_iff_not]
    intro h
    apply hmk
    subst h; omega)
   clear hmk
   go_enter Tryz.func13, Tryz.ntmps13
   go_wp2_with fail
   go_ret
   exact ⟨by rw [Hfin.out]; rfl, Below.refl _ _⟩
end DescQ
end Go.Proofs.YtehainbhoflpnaaGreatDoor
