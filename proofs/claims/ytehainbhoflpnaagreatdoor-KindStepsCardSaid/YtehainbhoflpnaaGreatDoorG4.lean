/-
  How a type is written in a source, by the program and by the document: what each call returns, for every text.
  What a method gives and takes, put together, by the program and by the document: what each call returns.
  What a method gives and takes, taken apart, by the program and by the document: what each call returns.
  The document's own taking apart of what a method gives and takes; and two lists of texts held against each other: what each call returns.
-/
import Derived.Test.YtehainbhoflpnaaGreatDoorG3
import Derived.Outline
import Derived.Test.YtehainbhoflpnaaGreatDoorG2
import Derived.Lib.Join
import Derived.Deep.QuietTactic
import Derived.BigQuiet
namespace Go.Proofs.YtehainbhoflpnaaGreatDoor
namespace DescS
open Go.RowKit BinM DescM DescW DescX DescR

end DescS
end Go.Proofs.YtehainbhoflpnaaGreatDoor

namespace Go.Proofs.YtehainbhoflpnaaGreatDoor
namespace DescG
open Go.RowKit BinM DescM DescW DescX DescR Base
open BinName (ret_bool)

/-- a text as a cell -/
def str (t : List UInt8) : Value := .string ⟨t.toArray⟩

/-- what a method gives and takes, put together: the text, the error's number -/
def sigT (g : List UInt8) (ts : List (List UInt8)) : List UInt8 × Int :=
  if 6 < ts.length then ([], 2) else if ts.all rightB = false then ([], 10) else if givenB g = false then ([], 10) else (40 :: (ts.flatten ++ 41 :: g), 0)

theorem flat_len {ts : List (List UInt8)} (h : ts.all rightB = true) : ts.flatten.length ≤ 30 * ts.length := by
  induction ts with
  | nil => simp
  | cons a t ih =>
    simp only [List.all_cons, Bool.and_eq_true] at h
    have h1 := lead_le (eq_of_beq h.1)
    have h2 := ih h.2
    rw [List.flatten_cons, List.length_append, List.length_cons]
    omega

theorem all_false_at {ts : List (List UInt8)} {k : Nat} (hk : k < ts.length) (h : rightB ts[k] = false) : ts.all rightB = false := by
  rw [List.all_eq_false]
  exact ⟨ts[k], List.getElem_mem hk, by rw [h]; simp⟩

theorem all_take_succ {ts : List (List UInt8)} {k : Nat} (hk : k < ts.length) (h : (ts.take k).all rightB = true) (hr : rightB ts[k] = true) : (ts.take (k + 1)).all rightB = true := by
  rw [List.take_succ_eq_append_getElem hk, List.all_append, h]
  simp [hr]

theorem glue2 (X g : List UInt8) : ByteArray.mk (40 :: X).toArray ++ ByteArray.mk #[41] ++ ByteArray.mk g.toArray = ⟨(40 :: (X ++ 41 :: g)).toArray⟩ := by
  rw [show (ByteArray.mk #[41]) = ByteArray.mk [41].toArray from rfl, app_mk, app_mk]
  congr 2
  simp


theorem given_or (g : List UInt8) : givenB g = (g == [86] || rightB g) := rfl

set_option maxHeartbeats 1000000 in
theorem refSig_any (g : List UInt8) (A : Option Addr) (ts : List (List UInt8)) (m c : Nat) (w : World) (hg : g.length ≤ 140737488355327) (hm : m = ts.length) (hmx : m ≤ maxLen) (hr : Rds w A (ts.map str)) (hs : ∀ t ∈ ts, t.length ≤ 140737488355327) :
    Calls Tryz.prog 119 #[str g, .slice A m c] w fun e w' => e = .returned (twoI (sigT g ts)) ∧ w = w' := by
  have Hm := Lib.hid hm
  have hml : ts.length ≤ m := Nat.le_of_eq hm.symm
  have hml2 : m ≤ ts.length := Nat.le_of_eq hm
  have Hr := Lib.hid hr
  have Hs := Lib.hid hs
  unfold maxLen at hmx
  clear hm hr hs
  unfold str
  by_cases h6 : 6 < ts.length
  · have Hfin := Lib.hid (show sigT g ts = ([], 2) by unfold sigT; rw [if_pos h6])
    have h6' : (6 : Int) < (m : Int) := by omega
    go_enter Tryz.func119, Tryz.ntmps119
    go_wp2
    go_ret2
    exact ⟨ret2I Hfin.out rfl, rfl⟩
  · have h6' : ¬ (6 : Int) < (m : Int) := by omega
    go_enter Tryz.func119, Tryz.ntmps119
    go_wp2_with fail
    go_loop [6, 7] (fun s i => ∃ (k : Nat) (X : List UInt8), k ≤ ts.length ∧ i = .int .i64 k ∧ s = .string ⟨(40 :: X).toArray⟩ ∧ X = (ts.take k).flatten ∧ (ts.take k).all rightB = true) (fun _ i => m - (intOf i).toNat)
    case atStart => exact ⟨0, [], Nat.zero_le _, rfl, rfl, rfl, rfl⟩
    case round =>
      obtain ⟨k, X, hk, rfl, rfl, hX, hall⟩ := hrel
      have hXl : X.length ≤ 30 * k := by
        have := flat_len hall
        have h2 : (ts.take k).length ≤ k := by simp; omega
        rw [hX]; omega
      have Hall := Lib.hid hall
      have HX := Lib.hid hX
      clear hall hX
      by_cases hlt : k < ts.length
      · obtain ⟨b, o, rfl, hb, hcell⟩ := Hr.out.at_ (k := k) (by simpa using hlt)
        have hcell' : w.cell? ⟨b, o + k, none⟩ = some (.string ⟨ts[k].toArray⟩) := by rw [hcell]; simp [str]
        have hsk := Hs.out ts[k] (List.getElem_mem hlt)
        clear hcell
        cases hR : rightB ts[k]
        · have Hfin := Lib.hid (show sigT g ts = ([], 10) by unfold sigT; rw [if_neg h6, if_pos (all_false_at hlt hR)])
          have HR := Lib.hid hR
          clear hR
          generalize ts[k] = x at *
          go_wp2_with (go_at_call 94; refine (refRight_any x _ (by omega)).mono ?_; rw [HR.out]; rintro e w' ⟨rfl, rfl⟩)
          go_ret2
          exact ⟨ret2I Hfin.out rfl, rfl⟩
        · have Hnext := Lib.hid (all_take_succ hlt Hall.out hR)
          have Hflat := Lib.hid (show (ts.take (k + 1)).flatten = X ++ ts[k] by rw [List.take_succ_eq_append_getElem hlt, List.flatten_append, HX.out]; simp)
          have hxl := lead_le (eq_of_beq hR)
          have HR := Lib.hid hR
          clear hR
          generalize ts[k] = x at *
          have Hgl := Lib.hid (app_mk (40 :: X) x)
          go_wp2_with (go_at_call 94; refine (refRight_any x _ (by omega)).mono ?_; rw [HR.out]; rintro e w' ⟨rfl, rfl⟩)
          go_round
          case rel => exact ⟨k + 1, X ++ x, by omega, by go_num, by rw [Hgl.out]; rfl, Hflat.out.symm, Hnext.out⟩
          case measure => simp [intOf]; omega
      · have hall : ts.all rightB = true := by
          have := Hall.out
          rwa [List.take_of_length_le (by omega)] at this
        have hF : ts.flatten = X := by rw [HX.out, List.take_of_length_le (by omega)]
        cases hG : givenB g
        · have Hfin := Lib.hid (show sigT g ts = ([], 10) by unfold sigT; rw [if_neg h6, if_neg (by rw [hall]; simp), if_pos hG])
          rw [given_or, Bool.or_eq_false_iff] at hG
          obtain ⟨hG1, hG2⟩ := hG
          have hG1' : (g != [86]) = true := by rw [bne, hG1]; rfl
          have HG := Lib.hid hG2
          clear hG2 hall hF
          go_wp2_with (go_at_call 94; refine (refRight_any g _ (by omega)).mono ?_; rw [HG.out]; rintro e w' ⟨rfl, rfl⟩)
          go_ret2
          exact ⟨ret2I Hfin.out rfl, rfl⟩
        · have Hfin := Lib.hid (show sigT g ts = (40 :: (X ++ 41 :: g), 0) by unfold sigT; rw [if_neg h6, if_neg (by rw [hall]; simp), if_neg (by rw [hG]; simp), hF])
          rw [given_or] at hG
          clear hall hF
          cases hV : g == [86]
          · have hG2 : rightB g = true := by rw [hV] at hG; simpa using hG
            have hV' : (g != [86]) = true := by rw [bne, hV]; rfl
            have HG := Lib.hid hG2
            clear hG2 hG
            go_wp2_with (go_at_call 94; refine (refRight_any g _ (by omega)).mono ?_; rw [HG.out]; rintro e w' ⟨rfl, rfl⟩)
            go_ret2
            exact ⟨ret2I Hfin.out (glue2 X g), rfl⟩
          · have hV' : (g != [86]) = false := by rw [bne, hV]; rfl
            clear hG
            go_wp2_with fail
            go_ret2
            exact ⟨ret2I Hfin.out (glue2 X g), rfl⟩

end DescG
end Go.Proofs.YtehainbhoflpnaaGreatDoor

namespace Go.Proofs.YtehainbhoflpnaaGreatDoor
namespace DescP
open Go.RowKit BinM DescM DescW DescX DescR DescG Base
open BinName (ret_bool)

/-- types one behind the other up to a bracket: they, and what stands behind it -/
def parse : Nat → List UInt8 → Option (List (List UInt8) × List UInt8)
  | 0, l => if l.head? = some 41 then some ([], l.drop 1) else none
  | n + 1, l => if l.head? = some 41 then some ([], l.drop 1) else match leadT l with
    | none => none
    | some k => (parse n (l.drop k)).map fun r => (l.take k :: r.1, r.2)

/-- a text taken apart: what it gives, what it takes, the error's number -/
def splitT (l : List UInt8) : List UInt8 × List (List UInt8) × Int :=
  if l.head? = some 40 then (match parse 6 (l.drop 1) with
    | some (ts, g) => if givenB g then (g, ts, 0) else ([], [], 5)
    | none => ([], [], 5)) else ([], [], 5)

theorem parse_41 (n : Nat) {l : List UInt8} (h : l.head? = some 41) : parse n l = some ([], l.drop 1) := by
  cases n <;> simp [parse, h]
theorem parse_none (n : Nat) {l : List UInt8} (h : ¬ l.head? = some 41) (hl : leadT l = none) : parse n l = none := by
  cases n <;> simp [parse, h, hl]
theorem parse_zero {l : List UInt8} (h : ¬ l.head? = some 41) : parse 0 l = none := by simp [parse, h]
theorem parse_some (n : Nat) {l : List UInt8} {k : Nat} (h : ¬ l.head? = some 41) (hl : leadT l = some k) : parse (n + 1) l = (parse n (l.drop k)).map fun r => (l.take k :: r.1, r.2) := by
  simp [parse, h, hl]

/-- ts are taken apart, and l is to come -/
def Taken (sig : List UInt8) (ts : List (List UInt8)) (l : List UInt8) : Prop :=
  sig = 40 :: (ts.flatten ++ l) ∧ ts.all rightB = true ∧ (ts.length ≤ 6 → parse 6 (sig.drop 1) = (parse (6 - ts.length) l).map fun r => (ts ++ r.1, r.2)) ∧ (6 < ts.length → parse 6 (sig.drop 1) = none)

theorem Taken.start {sig : List UInt8} (h : sig.head? = some 40) : Taken sig [] (sig.drop 1) := by
  refine ⟨?_, rfl, fun _ => ?_, fun h => ?_⟩
  · cases sig with
    | nil => simp at h
    | cons c t => simp at h; subst h; simp
  · simp
  · simp at h

theorem Taken.step {sig : List UInt8} {ts : List (List UInt8)} {l : List UInt8} (h : Taken sig ts l) (h41 : ¬ l.head? = some 41) {k : Nat} (hk : leadT l = some k) (h6 : ts.length ≤ 6) : Taken sig (ts ++ [l.take k]) (l.drop k) := by
  obtain ⟨h1, h2, h3, _⟩ := h
  have hle := lead_le hk
  refine ⟨?_, ?_, fun h => ?_, fun h => ?_⟩
  · rw [h1, List.flatten_append]
    simp
  · rw [List.all_append, h2]
    simp [(right_take hle.2.1).2 hk]
  · rw [h3 h6]
    simp at h
    obtain ⟨n, hn⟩ : ∃ n, 6 - ts.length = n + 1 := ⟨5 - ts.length, by omega⟩
    have hn2 : 6 - (ts ++ [l.take k]).length = n := by simp; omega
    rw [hn, hn2, parse_some n h41 hk, Option.map_map]
    congr 1
    funext r
    simp
  · rw [h3 h6]
    simp at h
    have : 6 - ts.length = 0 := by omega
    rw [this, parse_zero h41]
    rfl

theorem head_mk (l : List UInt8) (c : UInt8) : Lib.hasPrefix l [c] = (l.head? == some c) := by
  cases l with
  | nil => rfl
  | cons a t =>
    rw [Bool.eq_iff_iff]
    simp [Lib.hasPrefix, List.isPrefixOf]
    exact eq_comm

theorem split_no {l : List UInt8} (h : ¬ l.head? = some 40) : splitT l = ([], [], 5) := by unfold splitT; rw [if_neg h]
theorem split_bad {l : List UInt8} (h : l.head? = some 40) (hp : parse 6 (l.drop 1) = none) : splitT l = ([], [], 5) := by unfold splitT; rw [if_pos h, hp]
theorem split_given {l : List UInt8} (h : l.head? = some 40) {ts : List (List UInt8)} {g : List UInt8} (hp : parse 6 (l.drop 1) = some (ts, g)) (hg : givenB g = false) : splitT l = ([], [], 5) := by unfold splitT; rw [if_pos h, hp]; simp [hg]
theorem split_good {l : List UInt8} (h : l.head? = some 40) {ts : List (List UInt8)} {g : List UInt8} (hp : parse 6 (l.drop 1) = some (ts, g)) (hg : givenB g = true) : splitT l = (g, ts, 0) := by unfold splitT; rw [if_pos h, hp]; simp [hg]

/-- texts in a row of the call's own -/
def OwnS (w : World) (base : Nat) (v : Value) (ts : List (List UInt8)) : Prop := w.ownsRow base 9 1 v ts.length (ts.map str)
theorem OwnS.nil (w : World) (base : Nat) : OwnS w base (.slice none 0 0) [] := World.ownsRow_nil _ _ _ _

/-- a call hands back a text, texts in new memory, and a number -/
def GivesS (w : World) (r : List UInt8 × List (List UInt8) × Int) (e : Ending) (w' : World) : Prop :=
  ∃ v, e = .returned (.tuple #[str r.1, v, .int .i64 r.2.2]) ∧ OwnS w' w.heap.size v r.2.1 ∧ Below w.heap.size w w'

theorem infoS : (Tryz.prog.info? 9).map (fun i => (i.zero, i.size, i.bytes)) = some (some (.string ⟨#[]⟩), 1, 16) := by kernel_rfl

theorem one_str (ts : List (List UInt8)) : ∀ u ∈ ts.map str, u.oneCell' = true := by
  intro u hu
  obtain ⟨t, _, rfl⟩ := List.mem_map.1 hu
  rfl

theorem appS {ops : Array Oper} {rest : List Oper} {o : Oper} {a : Act} {w : World} {Q : Exit → Act → World → Prop} (hgd : o.guard = none) (s x : Operand)
    (ho : o.op = .call { callee := .builtin .append, args := #[s, x], argTypes := #[25, 25] })
    (base : Nat) (v : Value) (p : List (List UInt8)) (hs : a.eval s = v) (hown : OwnS w base v p) (A : Option Addr) (m c : Nat) (l : List (List UInt8)) (hx : a.eval x = .slice A m c)
    (hm : m = l.length) (hr : Rds w A (l.map str)) (hlen : p.length + l.length ≤ 1048576) (hbase : base ≤ w.heap.size)
    (h : ∀ v' w', OwnS w' base v' (p ++ l) → w.grownBy w' v.ownBlock → wpList Tryz.prog ops Q rest (a.put o.dst v') w') : wpList Tryz.prog ops Q (o :: rest) a w := by
  obtain ⟨i0, hi, hz, hs1, hb1⟩ := info_parts infoS
  refine wpList_append_rds hgd s x 25 ho base 9 i0 _ 16 Tryz.underlying25 hi hz hs1 hb1 rfl v p.length (p.map str) hs hown A m c (l.map str) hx (by rw [List.length_map, hm]) hr (one_str l) (by unfold maxLen; omega) (by omega) hbase ?_
  intro v' w' h1 h2
  refine h v' w' ?_ h2
  unfold OwnS
  rw [List.map_append, List.length_append, ← hm]
  exact h1

theorem OwnS.slice {w : World} {base : Nat} {v : Value} {p : List (List UInt8)} (h : OwnS w base v p) :
    ∃ A c, v = .slice A p.length c ∧ p.length ≤ c ∧ c ≤ maxLen ∧ Rds w A (p.map str) ∧ ∀ a, A = some a → base ≤ a.block ∧ a.block < w.heap.size := by
  obtain ⟨A, c, rfl, h1, h2, h3, _⟩ := own_slice h
  exact ⟨A, c, rfl, h1, h2, Rds.own h, fun a ha => ⟨(h3 a ha).1, (h3 a ha).2.1⟩⟩

theorem prefix_l (l : List UInt8) (w : World) :
    Calls Tryz.prog 156 #[.string ⟨l.toArray⟩, .string ⟨#[41]⟩] w fun e w' => e = .returned (.bool (l.head? == some 41)) ∧ w = w' :=
  (Tryz.strings_HasPrefix ⟨l.toArray⟩ ⟨#[41]⟩ w).mono fun _ _ ⟨h1, h2⟩ => ⟨by rw [h1]; congr 2; exact head_mk l 41, h2.symm⟩

theorem cut_l (l : List UInt8) (w : World) :
    Calls Tryz.prog 155 #[.string ⟨l.toArray⟩, .string ⟨#[40]⟩] w fun e w' => e = .returned (.tuple #[.string ⟨(if l.head? == some 40 then l.drop 1 else l).toArray⟩, .bool (l.head? == some 40)]) ∧ w = w' :=
  (Tryz.strings_CutPrefix ⟨l.toArray⟩ ⟨#[40]⟩ w).mono fun _ _ ⟨h1, h2⟩ => ⟨by
    rw [h1]
    have e := head_mk l 40
    have e2 : Lib.trimPrefix (ByteArray.mk l.toArray).data.toList (ByteArray.mk #[40]).data.toList = if l.head? == some 40 then l.drop 1 else l := by
      unfold Lib.trimPrefix
      show (if Lib.hasPrefix l [40] = true then l.drop 1 else l) = _
      rw [e]
    rw [e2, show Lib.hasPrefix (ByteArray.mk l.toArray).data.toList (ByteArray.mk #[40]).data.toList = _ from e], h2.symm⟩

/-- how long a text is that stands in a slot -/
def sizeV : Value → Nat | .string s => s.size | _ => 0

theorem retS3 {w w' : World} {r : List UInt8 × List (List UInt8) × Int} {x : ByteArray} {v : Value} {g : List UInt8} {ts : List (List UInt8)} {n : Int} (h : r = (g, ts, n)) (hx : x = ⟨g.toArray⟩) (ho : OwnS w' w.heap.size v ts) (hb : Below w.heap.size w w') :
    GivesS w r (.returned (.tuple #[.string x, v, .int .i64 n])) w' := by
  subst h; subst hx
  exact ⟨v, rfl, ho, hb⟩

/-- the loop's way -/
def Rel (w : World) (sig : List UInt8) (r t : Value) (wr : World) : Prop :=
  ∃ (ts : List (List UInt8)) (l : List UInt8), ts.length ≤ 6 ∧ l.length ≤ sig.length ∧ r = .string ⟨l.toArray⟩ ∧ Taken sig ts l ∧ OwnS wr w.heap.size t ts ∧ Below w.heap.size w wr

set_option maxHeartbeats 2000000 in
theorem split_any (sig : List UInt8) (w : World) (hl : sig.length ≤ 140737488355327) :
    Calls Tryz.prog 112 #[.string ⟨sig.toArray⟩] w (GivesS w (splitT sig)) := by
  cases h40 : sig.head? == some 40
  · have Hfin := Lib.hid (split_no (by simpa using h40))
    have H40 := Lib.hid h40
    clear h40
    go_enter Tryz.func112, Tryz.ntmps112
    go_wp2_with (go_at_call 155; refine (cut_l sig _).mono ?_; rw [H40.out]; rintro e w' ⟨rfl, rfl⟩)
    go_ret3
    exact retS3 Hfin.out rfl (OwnS.nil _ _) (Below.refl _ _)
  · have h40' : sig.head? = some 40 := eq_of_beq h40
    have Hstart := Lib.hid (Taken.start h40')
    have H40 := Lib.hid h40
    have H40' := Lib.hid h40'
    have hdl : (sig.drop 1).length ≤ sig.length := by simp
    clear h40 h40'
    generalize hR : sig.drop 1 = R at *
    have HR := Lib.hid hR
    clear hR
    go_enter Tryz.func112, Tryz.ntmps112
    go_wp2_with (go_at_call 155; refine (cut_l sig _).mono ?_; rw [H40.out, HR.out]; rintro e w' ⟨rfl, rfl⟩)
    go_loopw [5, 7, 8, 9] (fun r t _ _ wr => Rel w sig r t wr) (fun r _ _ _ _ => sizeV r)
    case atStart => exact ⟨[], R, by simp, hdl, rfl, Hstart.out, OwnS.nil _ _, Below.refl _ _⟩
    case round =>
      obtain ⟨ts, l, h6, hls, rfl, hway, hown, hbel⟩ := hrel
      obtain ⟨A, c, rfl, hc1, hc2, hrd, _⟩ := hown.slice
      have Hown := Lib.hid hown
      have Hbel := Lib.hid hbel
      have hsz := hbel.size
      have Hway := Lib.hid hway
      unfold maxLen at hc2
      clear hown hbel hway hrd
      cases h41 : l.head? == some 41
      · have H41 := Lib.hid h41
        have hn41 : ¬ l.head? = some 41 := by simpa using h41
        cases hL : leadT l with
        | none =>
          have hp := Hway.out.2.2.1 h6
          rw [parse_none _ hn41 hL] at hp
          have Hfin := Lib.hid (split_bad H40'.out (by rw [hp]; rfl))
          have HL := Lib.hid hL
          clear hL hn41 h41 hp
          go_wp2_with (first | (go_at_call 156; refine (prefix_l l _).mono ?_; rw [H41.out]; rintro e w' ⟨rfl, rfl⟩) | (go_at_call 157; refine (lead_any l _ (by omega)).mono ?_; rw [HL.out]; unfold leadV; rintro e w' ⟨rfl, rfl⟩))
          go_ret3
          exact retS3 Hfin.out rfl (OwnS.nil _ _) Hbel.out
        | some k =>
          have hk := lead_le hL
          by_cases hfull : ts.length = 6
          · have hp := Hway.out.2.2.1 h6
            rw [show 6 - ts.length = 0 by omega, parse_zero hn41] at hp
            have Hfin := Lib.hid (split_bad H40'.out (by rw [hp]; rfl))
            have HL := Lib.hid hL
            have hb6 : ((ts.length : Int) == 6) = true := by rw [hfull]; rfl
            clear hL hn41 h41 hp hfull
            go_wp2_with (first | (go_at_call 156; refine (prefix_l l _).mono ?_; rw [H41.out]; rintro e w' ⟨rfl, rfl⟩) | (go_at_call 157; refine (lead_any l _ (by omega)).mono ?_; rw [HL.out]; unfold leadV; rintro e w' ⟨rfl, rfl⟩))
            go_ret3
            exact retS3 Hfin.out rfl (OwnS.nil _ _) Hbel.out
          · have Hnext := Lib.hid (Hway.out.step hn41 hL h6)
            have HL := Lib.hid hL
            have hb6 : ((ts.length : Int) == 6) = false := by rw [beq_eq_false_iff_ne]; omega
            have hx1 : (ByteArray.mk l.toArray).extract 0 k = ⟨(l.take k).toArray⟩ := by rw [ext]; simp
            have hx2 : (ByteArray.mk l.toArray).extract k l.length = ⟨(l.drop k).toArray⟩ := by rw [ext, List.take_of_length_le (by simp)]
            clear hL hn41 h41
            go_wp2_with (first
              | (go_at_call 156; refine (prefix_l l _).mono ?_; rw [H41.out]; rintro e w' ⟨rfl, rfl⟩)
              | (go_at_call 157; refine (lead_any l _ (by omega)).mono ?_; rw [HL.out]; unfold leadV; rintro e w' ⟨rfl, rfl⟩)
              | (at_builtin
                 refine appS rfl (.tmp 33) (.tmp 37) rfl w.heap.size _ ts rfl (Hown.out.alloc _) (some ⟨wr.heap.size, 0, none⟩) 1 1 [l.take k] rfl rfl (rds_new _ #[str (l.take k)] 9) (by simp; omega) (by simp; omega) ?_
                 intro v2 w2 hown2 hg2
                 have Hb2 := Lib.hid (below_own (Hbel.out.alloc hsz _) (Hown.out.alloc _) (Nat.le_refl _) (by simp; omega) hg2)
                 have Hown2 := Lib.hid hown2
                 clear hown2 hg2))
            go_roundw
            case rel => exact ⟨ts ++ [l.take k], l.drop k, by simp; omega, by simp; omega, rfl, Hnext.out, Hown2.out, Hb2.out⟩
            case measure => simp [sizeV, size_mk]; omega
      · have H41 := Lib.hid h41
        have hp := Hway.out.2.2.1 h6
        rw [parse_41 _ (eq_of_beq h41)] at hp
        simp only [Option.map_some, List.append_nil] at hp
        have hpos : 0 < l.length := by cases l with
          | nil => simp at h41
          | cons a t => simp
        have hx1 : (ByteArray.mk l.toArray).extract 1 l.length = ⟨(l.drop 1).toArray⟩ := by rw [ext, List.take_of_length_le (by simp)]
        have hgl : (l.drop 1).length ≤ sig.length := by simp; omega
        cases hG : givenB (l.drop 1)
        · have Hfin := Lib.hid (split_given H40'.out hp hG)
          have HG := Lib.hid hG
          clear h41 hp hG
          generalize l.drop 1 = g at *
          go_wp2_with (first
            | (go_at_call 156; refine (prefix_l l _).mono ?_; rw [H41.out]; rintro e w' ⟨rfl, rfl⟩)
            | (go_at_call 158; refine (given_any g _ (by omega)).mono ?_; rw [HG.out]; rintro e w' ⟨rfl, rfl⟩))
          go_ret3
          exact retS3 Hfin.out rfl (OwnS.nil _ _) Hbel.out
        · have Hfin := Lib.hid (split_good H40'.out hp hG)
          have HG := Lib.hid hG
          clear h41 hp hG
          generalize l.drop 1 = g at *
          go_wp2_with (first
            | (go_at_call 156; refine (prefix_l l _).mono ?_; rw [H41.out]; rintro e w' ⟨rfl, rfl⟩)
            | (go_at_call 158; refine (given_any g _ (by omega)).mono ?_; rw [HG.out]; rintro e w' ⟨rfl, rfl⟩))
          go_ret3
          exact retS3 Hfin.out rfl Hown.out Hbel.out

theorem end_len {l : List UInt8} {k : Nat} (h : leadT l = some k) : (leadT l).getD 0 = k := by rw [h]; rfl

/-- the document's end: how many bytes the type at the head has, 0 where there is none -/
theorem end_any (l : List UInt8) (w : World) (hl : l.length ≤ 140737488355327) :
    Calls Tryz.prog 118 #[.string ⟨l.toArray⟩] w fun e w' => e = .returned (.int .i64 (((leadT l).getD 0 : Nat) : Int)) ∧ w = w' := by
  go_enter Tryz.func118, Tryz.ntmps118
  go_wp2_with fail
  go_loop [3] (fun i => ∃ k : Nat, 1 ≤ k ∧ k ≤ 31 ∧ i = .int .i64 k ∧ ∀ j, leadT l = some j → k ≤ j) (fun i => 31 - (intOf i).toNat)
  case atStart => exact ⟨1, by omega, by omega, rfl, fun j hj => (lead_le hj).1⟩
  case round =>
    obtain ⟨k, hk1, hk2, rfl, hall⟩ := hrel
    have Hall := Lib.hid hall
    clear hall
    by_cases hk : k ≤ l.length ∧ k ≤ 30
    · obtain ⟨ha, hb⟩ := hk
      have hx1 : (ByteArray.mk l.toArray).extract 0 k = ⟨(l.take k).toArray⟩ := by rw [ext]; simp
      cases hR : rightB (l.take k)
      · have hnext : ∀ j, leadT l = some j → k + 1 ≤ j := by
          intro j hj
          have h1 := Hall.out j hj
          rcases Nat.lt_or_ge k j with h | h
          · exact h
          · exfalso
            have : j = k := by omega
            subst this
            rw [(right_take ha).2 hj] at hR
            cases hR
        have Hnext := Lib.hid hnext
        have HR := Lib.hid hR
        clear hR hnext
        have hxl : (l.take k).length ≤ l.length := by simp; omega
        generalize l.take k = x at *
        go_wp2_with (go_at_call 94; refine (refRight_any x _ (by omega)).mono ?_; rw [HR.out]; rintro e w' ⟨rfl, rfl⟩)
        go_round
        case rel => exact ⟨k + 1, by omega, by omega, by go_num, Hnext.out⟩
        case measure => simp [intOf]; omega
      · have Hfin := Lib.hid (end_len ((right_take ha).1 hR))
        have HR := Lib.hid hR
        clear hR
        have hxl : (l.take k).length ≤ l.length := by simp; omega
        generalize l.take k = x at *
        go_wp2_with (go_at_call 94; refine (refRight_any x _ (by omega)).mono ?_; rw [HR.out]; rintro e w' ⟨rfl, rfl⟩)
        go_ret
        exact ⟨by rw [Hfin.out]; rfl, rfl⟩
    · have Hfin := Lib.hid (show (leadT l).getD 0 = 0 by
        cases hT : leadT l with
        | none => rfl
        | some j =>
          have h1 := Hall.out j hT
          have h2 := lead_le hT
          omega)
      by_cases ha : k ≤ l.length
      · have hb : ¬ k ≤ 30 := fun hb => hk ⟨ha, hb⟩
        have hb' : decide ((k : Int) ≤ 30) = false := by simp; omega
        clear hk
        go_wp2_with fail
        go_ret
        exact ⟨by rw [Hfin.out]; rfl, rfl⟩
      · have ha' : decide ((k : Int) ≤ (l.length : Int)) = false := by simp; omega
        clear hk
        go_wp2_with fail
        go_ret
        exact ⟨by rw [Hfin.out]; rfl, rfl⟩

end DescP
end Go.Proofs.YtehainbhoflpnaaGreatDoor

namespace Go.Proofs.YtehainbhoflpnaaGreatDoor
namespace DescQ
open Go.RowKit BinM DescM DescW DescX DescR DescG DescP Base
open BinName (ret_bool)

/-- the loop's way, of the document -/
def Rel7 (w : World) (sig : List UInt8) (r t : Value) (wr : World) : Prop :=
  ∃ (ts : List (List UInt8)) (l : List UInt8), ts.length ≤ 7 ∧ l.length ≤ sig.length ∧ r = .string ⟨l.toArray⟩ ∧ Taken sig ts l ∧ OwnS wr w.heap.size t ts ∧ Below w.heap.size w wr

theorem all_len {ts : List (List UInt8)} (h : ts.all rightB = true) : ∀ t ∈ ts, t.length ≤ 140737488355327 := by
  intro t ht
  have := List.all_eq_true.1 h t ht
  have := lead_le (eq_of_beq this)
  omega

set_option maxRecDepth 100000 in
set_option maxHeartbeats 4000000 in
theorem refSplit_any (sig : List UInt8) (w : World) (hl : sig.length ≤ 140737488355327) :
    Calls Tryz.prog 66 #[.string ⟨sig.toArray⟩] w (GivesS w (splitT sig)) := by
  by_cases h0 : 0 < sig.length
  · have hx0 := fun h' => at_mk 0 h0 h'
    have hh := head_at h0 40
    rw [show ((40 : UInt8).toNat : Int) = 40 from rfl] at hh
    cases h40 : ((sig[0].toNat : Int) == 40)
    · have hb : ((sig[0].toNat : Int) != 40) = true := by rw [bne, h40]; rfl
      have Hfin := Lib.hid (split_no (l := sig) (by have : (sig.head? == some 40) = false := by rw [hh, h40]
                                                    simpa using this))
      clear hh
      go_enter Tryz.func66, Tryz.ntmps66
      go_wp2_with fail
      go_ret3
      exact retS3 Hfin.out rfl (OwnS.nil _ _) (Below.refl _ _)
    · have hb : ((sig[0].toNat : Int) != 40) = false := by rw [bne, h40]; rfl
      have h40' : sig.head? = some 40 := by rw [h40] at hh; exact eq_of_beq hh
      have Hstart := Lib.hid (Taken.start h40')
      have H40' := Lib.hid h40'
      have hdl : (sig.drop 1).length ≤ sig.length := by simp
      have hxd : (ByteArray.mk sig.toArray).extract 1 sig.length = ⟨(sig.drop 1).toArray⟩ := by rw [ext, List.take_of_length_le (by simp)]
      clear h40' hh
      generalize hR : sig.drop 1 = R at *
      have HR := Lib.hid hR
      clear hR
      go_enter Tryz.func66, Tryz.ntmps66
      go_wp2_with fail
      go_loopw [5, 6, 7] (fun t r _ wr => Rel7 w sig r t wr) (fun _ r _ _ => sizeV r)
      case atStart => exact ⟨[], R, by simp, hdl, rfl, Hstart.out, OwnS.nil _ _, Below.refl _ _⟩
      case round =>
        obtain ⟨ts, l, h7, hls, rfl, hway, hown, hbel⟩ := hrel
        obtain ⟨A, c, rfl, hc1, hc2, hrd, _⟩ := hown.slice
        have Hown := Lib.hid hown
        have Hbel := Lib.hid hbel
        have hsz := hbel.size
        have Hway := Lib.hid hway
        have Hrd := Lib.hid hrd
        unfold maxLen at hc2
        clear hown hbel hway hrd hx0 hb hxd
        by_cases hl0 : 0 < l.length
        · have hx0 := fun h' => at_mk 0 hl0 h'
          have hh := head_at hl0 41
          rw [show ((41 : UInt8).toNat : Int) = 41 from rfl] at hh
          cases h41 : ((l[0].toNat : Int) == 41)
          · have hb41 : ((l[0].toNat : Int) != 41) = true := by rw [bne, h41]; rfl
            have hn41 : ¬ l.head? = some 41 := by
              have : (l.head? == some 41) = false := by rw [hh, h41]
              simpa using this
            by_cases h6 : ts.length ≤ 6
            · cases hL : leadT l with
              | none =>
                have hp := Hway.out.2.2.1 h6
                rw [parse_none _ hn41 hL] at hp
                have Hfin := Lib.hid (split_bad H40'.out (by rw [HR.out] at hp; rw [HR.out, hp]; rfl))
                have HL := Lib.hid (show ((leadT l).getD 0 : Nat) = 0 by rw [hL]; rfl)
                clear hL hn41 hp hh
                go_wp2_with (go_at_call 118; refine (end_any l _ (by omega)).mono ?_; rw [HL.out]; rintro e w' ⟨rfl, rfl⟩)
                go_ret3
                exact retS3 Hfin.out rfl (OwnS.nil _ _) Hbel.out
              | some k =>
                have hk := lead_le hL
                have Hnext := Lib.hid (Hway.out.step hn41 hL h6)
                have HL := Lib.hid (end_len hL)
                have hk0 : ((k : Int) == 0) = false := by rw [beq_eq_false_iff_ne]; omega
                have hx1 : (ByteArray.mk l.toArray).extract 0 k = ⟨(l.take k).toArray⟩ := by rw [ext]; simp
                have hx2 : (ByteArray.mk l.toArray).extract k l.length = ⟨(l.drop k).toArray⟩ := by rw [ext, List.take_of_length_le (by simp)]
                clear hL hn41 hh
                go_wp2_with (first
                  | (go_at_call 118; refine (end_any l _ (by omega)).mono ?_; rw [HL.out]; rintro e w' ⟨rfl, rfl⟩)
                  | (at_builtin
                     refine appS rfl (.tmp 37) (.tmp 41) rfl w.heap.size _ ts rfl (Hown.out.alloc _) (some ⟨wr.heap.size, 0, none⟩) 1 1 [l.take k] rfl rfl (rds_new _ #[str (l.take k)] 9) (by simp; omega) (by simp; omega) ?_
                     intro v2 w2 hown2 hg2
                     have Hb2 := Lib.hid (below_own (Hbel.out.alloc hsz _) (Hown.out.alloc _) (Nat.le_refl _) (by simp; omega) hg2)
                     have Hown2 := Lib.hid hown2
                     clear hown2 hg2))
                go_roundw
                case rel => exact ⟨ts ++ [l.take k], l.drop k, by simp; omega, by simp; omega, rfl, Hnext.out, Hown2.out, Hb2.out⟩
                case measure => simp [sizeV, size_mk]; omega
            · have hp := Hway.out.2.2.2 (by omega)
              have Hfin := Lib.hid (split_bad H40'.out hp)
              have h6d : decide ((ts.length : Int) ≤ 6) = false := by simp; omega
              clear hn41 hp hh h6
              go_wp2_with fail
              go_ret3
              exact retS3 Hfin.out rfl (OwnS.nil _ _) Hbel.out
          · have hb41 : ((l[0].toNat : Int) != 41) = false := by rw [bne, h41]; rfl
            have h41' : l.head? = some 41 := by rw [h41] at hh; exact eq_of_beq hh
            have hall := Hway.out.2.1
            have hsig := Hway.out.1
            have hxg : (ByteArray.mk l.toArray).extract 1 l.length = ⟨(l.drop 1).toArray⟩ := by rw [ext, List.take_of_length_le (by simp)]
            have hl41 : l = 41 :: l.drop 1 := by
              cases l with
              | nil => simp at hl0
              | cons a t => simp at h41'; subst h41'; rfl
            have hgl : (l.drop 1).length ≤ sig.length := by simp; omega
            have Hall := Lib.hid (all_len hall)
            by_cases h6 : ts.length ≤ 6
            · have hp := Hway.out.2.2.1 h6
              rw [parse_41 _ h41'] at hp
              simp only [Option.map_some, List.append_nil] at hp
              cases hG : givenB (l.drop 1)
              · have Hfin := Lib.hid (split_given H40'.out hp hG)
                have HS := Lib.hid (show sigT (l.drop 1) ts = ([], 10) by unfold sigT; rw [if_neg (by omega), if_neg (by rw [hall]; simp), if_pos hG])
                clear hh hp hG h41' hsig hall hl41
                generalize l.drop 1 = g at *
                go_wp2_with (go_at_call 119; refine (refSig_any g A ts _ c _ (by omega) rfl (by unfold maxLen; omega) Hrd.out Hall.out).mono ?_; rw [HS.out]; unfold twoI; rintro e w' ⟨rfl, rfl⟩)
                go_ret3
                exact retS3 Hfin.out rfl (OwnS.nil _ _) Hbel.out
              · have Hfin := Lib.hid (split_good H40'.out hp hG)
                have HS := Lib.hid (show sigT (l.drop 1) ts = (sig, 0) by unfold sigT; rw [if_neg (by omega), if_neg (by rw [hall]; simp), if_neg (by rw [hG]; simp), ← hl41, ← hsig])
                clear hh hp hG h41' hsig hall hl41
                generalize l.drop 1 = g at *
                go_wp2_with (go_at_call 119; refine (refSig_any g A ts _ c _ (by omega) rfl (by unfold maxLen; omega) Hrd.out Hall.out).mono ?_; rw [HS.out]; unfold twoI; rintro e w' ⟨rfl, rfl⟩)
                go_ret3
                exact retS3 Hfin.out rfl Hown.out Hbel.out
            · have hp := Hway.out.2.2.2 (by omega)
              have Hfin := Lib.hid (split_bad H40'.out hp)
              have HS := Lib.hid (show sigT (l.drop 1) ts = ([], 2) by unfold sigT; rw [if_pos (by omega)])
              clear hh hp h41' hsig hall hl41
              generalize l.drop 1 = g at *
              go_wp2_with (go_at_call 119; refine (refSig_any g A ts _ c _ (by omega) rfl (by unfold maxLen; omega) Hrd.out Hall.out).mono ?_; rw [HS.out]; unfold twoI; rintro e w' ⟨rfl, rfl⟩)
              go_ret3
              exact retS3 Hfin.out rfl (OwnS.nil _ _) Hbel.out
        · have hnil : l = [] := List.eq_nil_of_length_eq_zero (by omega)
          subst hnil
          have Hfin := Lib.hid (show splitT sig = ([], [], 5) by
            refine split_bad H40'.out ?_
            by_cases h6 : ts.length ≤ 6
            · have hp := Hway.out.2.2.1 h6
              rw [hp, parse_none (6 - ts.length) (l := []) (by simp) rfl]; rfl
            · exact Hway.out.2.2.2 (by omega))
          go_wp2_with fail
          go_ret3
          exact retS3 Hfin.out rfl (OwnS.nil _ _) Hbel.out
  · have hnil : sig = [] := List.eq_nil_of_length_eq_zero (by omega)
    subst hnil
    have Hfin := Lib.hid (split_no (l := []) (by simp))
    go_enter Tryz.func66, Tryz.ntmps66
    go_wp2_with fail
    go_ret3
    exact retS3 Hfin.out rfl (OwnS.nil _ _) (Below.refl _ _)

theorem drawn {B : Nat} {a w : World} (h : Below B a w) (n : Nat) : Below B a (w.drewN n) := ⟨h.os, h.tape, h.output, h.size, h.block⟩

set_option maxHeartbeats 1000000 in
/-- two lists of texts, held against each other -/
theorem texts_any (A B : Option Addr) (a b : List (List UInt8)) (m k c d : Nat) (w : World) (hm : m = a.length) (hk : k = b.length) (hmx : m ≤ maxLen) (hr : Rds w A (a.map str)) (hr2 : Rds w B (b.map str)) :
    Calls Tryz.prog 13 #[.slice A m c, .slice B k d] w fun e w' => e = .returned (.bool (decide (a = b))) ∧ Below w.heap.size w w' := by
  have hml : a.length ≤ m := Nat.le_of_eq hm.symm
  have hml2 : m ≤ a.length := Nat.le_of_eq hm
  have hkl : b.length ≤ k := Nat.le_of_eq hk.symm
  have hkl2 : k ≤ b.length := Nat.le_of_eq hk
  have Hr := Lib.hid hr
  have Hr2 := Lib.hid hr2
  unfold maxLen at hmx
  clear hm hk hr hr2
  by_cases hmk : m = k
  · have hb : ((m : Int) != (k : Int)) = false := by rw [hmk]; simp
    have hkm : k ≤ m := by omega
    have hmk' : m ≤ k := by omega
    clear hmk
    go_enter Tryz.func13, Tryz.ntmps13
    go_wp2_with fail
    go_loopw [5] (fun i wr => ∃ j : Nat, j ≤ m ∧ i = .int .i64 j ∧ a.take j = b.take j ∧ Below w.heap.size w wr) (fun i _ => m - (intOf i).toNat)
    case atStart => exact ⟨0, Nat.zero_le _, rfl, rfl, Below.refl _ _⟩
    case round =>
      obtain ⟨j, hj, rfl, hsame, hbel⟩ := hrel
      have Hsame := Lib.hid hsame
      have Hbel := Lib.hid hbel
      clear hsame
      by_cases hlt : j < m
      · obtain ⟨b1, o1, rfl, hb1, hcell1⟩ := (Hr.out.below hbel).at_ (k := j) (by simp; omega)
        obtain ⟨b2, o2, rfl, hb2, hcell2⟩ := (Hr2.out.below hbel).at_ (k := j) (by simp; omega)
        have hja : j < a.length := by omega
        have hjb : j < b.length := by omega
        have hc1 : wr.cell? ⟨b1, o1 + j, none⟩ = some (.string ⟨a[j].toArray⟩) := by rw [hcell1]; simp [str]
        have hc2 : wr.cell? ⟨b2, o2 + j, none⟩ = some (.string ⟨b[j].toArray⟩) := by rw [hcell2]; simp [str]
        have e1 : a.take (j + 1) = a.take j ++ [a[j]] := List.take_succ_eq_append_getElem hja
        have e2 : b.take (j + 1) = b.take j ++ [b[j]] := List.take_succ_eq_append_getElem hjb
        have hj1 : (j : Int) < (m : Int) := by omega
        have hj2 : (j : Int) < (k : Int) := by omega
        have hj0 : (0 : Int) ≤ (j : Int) := by omega
        clear hcell1 hcell2 hbel
        cases hx : a[j] == b[j]
        · have Hfin := Lib.hid (show decide (a = b) = false by
            rw [decide_eq_false_iff_not]
            intro h
            have : a[j] = b[j] := by subst h; rfl
            rw [this] at hx
            simp at hx)
          have hx' : (a[j] != b[j]) = true := by rw [bne, hx]; rfl
          clear e1 e2
          generalize a[j] = x at *
          generalize b[j] = y at *
          go_wp2_with fail
          go_quiet (fail)
          go_wp2_with fail
          go_ret
          exact ⟨by rw [Hfin.out]; rfl, drawn Hbel.out _⟩
        · have Hnext := Lib.hid (show a.take (j + 1) = b.take (j + 1) by rw [e1, e2, Hsame.out, eq_of_beq hx])
          have hx' : (a[j] != b[j]) = false := by rw [bne, hx]; rfl
          clear e1 e2
          generalize a[j] = x at *
          generalize b[j] = y at *
          go_wp2_with fail
          go_quiet (fail)
          go_wp2_with fail
          go_roundw
          case rel => exact ⟨j + 1, by omega, by go_num, Hnext.out, drawn Hbel.out _⟩
          case measure => simp [intOf]; omega
      · have Hfin := Lib.hid (show decide (a = b) = true by
          rw [decide_eq_true_iff]
          have h := Hsame.out
          rwa [List.take_of_length_le (by omega), List.take_of_length_le (by omega)] at h)
        go_wp2_with fail
        go_ret
        exact ⟨by rw [Hfin.out]; rfl, Hbel.out⟩
  · have hb : ((m : Int) != (k : Int)) = true := by rw [bne_iff_ne]; omega
    have Hfin := Lib.hid (show decide (a = b) = false by
      rw [decide_eq_false_iff_not]
      intro h
      apply hmk
      subst h; omega)
    clear hmk
    go_enter Tryz.func13, Tryz.ntmps13
    go_wp2_with fail
    go_ret
    exact ⟨by rw [Hfin.out]; rfl, Below.refl _ _⟩

end DescQ
end Go.Proofs.YtehainbhoflpnaaGreatDoor
