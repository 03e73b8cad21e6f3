/-
  New, Enter, Owner: what each of them hands back, and all that is held then.
-/
import Derived.Test.YtkjkofdjnjihjaaLkA
import Derived.Deep.RegionWith
import Derived.Laws.MakeOwn
import Derived.Deep.QuietTactic
import Derived.BigQuiet
namespace Go.Proofs.Ytkjkofdjnjihjaa
namespace LkB
open Go.RowKit Go.Shelf Base BinM LkM LkA

/-- what Enter answers, and all that is held then -/
def enterT (hs : List Ho) (a w : Int) : Int × List Ho :=
  if a < 1 then (2, hs) else match hs[fnd hs a]? with
    | none => (0, hs ++ [⟨a, w, 1⟩])
    | some h => if h.w = w then (0, hs.set (fnd hs a) ⟨h.a, h.w, h.n + 1⟩) else (29, hs)
/-- few enough -/
def Few (N : Nat) (hs : List Ho) : Prop := hs.length ≤ N ∧ ∀ h ∈ hs, 1 ≤ h.n ∧ h.n ≤ (N : Int)
theorem infoH : (Try.prog.info? 53).map (fun i => (i.zero, i.size, i.bytes)) = some (some (.agg #[.int .i64 0, .int .i64 0, .int .i64 0]), 3, 24) := by kernel_rfl

section
variable {tb te : TypeId} {w w1 : World} {b : Nat} {A : Option Addr} {c : Nat} {hs : List Ho}
theorem Lk.nochange (H : Lk tb te w b A c hs) (hb : Below w.heap.size w w1) : NextL tb te w w1 b A hs := ⟨A, c, H.beside hb, Turned.of_below hb, fun _ h => .inl h⟩
theorem Lk.pushed (H : Lk tb te w b A c hs) {h : Ho} (hg : w.grownBy w1 (Value.slice A hs.length c).ownBlock) {g cap : Nat} (hown : w1.ownsRow 0 te 3 (.slice (some ⟨g, 0, none⟩) (hs.length + 1) cap) (hs.length + 1) (hs.flatMap hoV ++ hoV h)) (hb : (Value.slice A hs.length c).ownBlock = some g ∨ w.heap.size ≤ g) :
    NextL tb te w (w1.setCell ⟨b, 0, none⟩ (.slice (some ⟨g, 0, none⟩) (hs.length + 1) cap)) b A (hs ++ [h]) := by
  have hbx : Bx w1 b #[.slice A hs.length c] tb := (hg.block b H.box.lt (fun e => own_ne H.row H.box H.ne e.symm)).trans H.box
  have hgb : g ≠ b := by
    rintro rfl
    exact own_ne hown hbx H.ne rfl
  refine ⟨some ⟨g, 0, none⟩, cap, ⟨?_, ?_, H.ne⟩, ?_, ?_⟩
  · rw [List.length_append]
    exact hbx.set 0 _
  · rw [List.length_append, List.flatMap_append]
    simp only [List.length_singleton, List.flatMap_cons, List.flatMap_nil, List.append_nil]
    refine own_same hown (fun k hk => heap_setCell_other w1 _ k _ ?_)
    injection hk with hk
    subst hk
    exact hgb
  · exact (Turned.of_grown hg (fun k hk => by obtain ⟨a, q1, q2⟩ := block_of hk; exact .inr ⟨a, q1, q2⟩)).trans (Turned.of_set (F := feet b A) w1 (.inl rfl) _) (fun j h => .inl h)
  · rintro k (h | ⟨a, h1, h2⟩)
    · exact .inl (.inl h)
    · injection h1 with h1
      subst h1
      have h2' : g = k := h2
      rcases hb with h | h
      · obtain ⟨a', q1, q2⟩ := block_of h
        exact .inl (.inr ⟨a', q1, by omega⟩)
      · exact .inr (by omega)
theorem NextL.after {w0 : World} (hb : Below w0.heap.size w0 w) (h : NextL tb te w w1 b A hs) : NextL tb te w0 w1 b A hs := by
  obtain ⟨A', c', H, T, F⟩ := h
  exact ⟨A', c', H, (Turned.of_below hb).trans T (fun j h => .inl h), fun k hk => (F k hk).imp id (Nat.le_trans hb.size)⟩
end

theorem new_any (w : World) : Calls Try.prog 7 #[] w fun e w' => e = .returned (.pointer (some ⟨w.heap.size, 0, none⟩)) ∧ Lk 48 53 w' w.heap.size none 0 [] ∧ w' = w.alloc (.cells #[.slice none 0 0] 48) := by
  go_enter Try.func7, Try.ntmps7
  go_wp2
  go_ret
  exact ⟨rfl, ⟨Bx.new w #[.slice none 0 0] 48, World.ownsRow_nil _ _ _ _, by decide⟩, rfl⟩

set_option maxRecDepth 100000 in
set_option maxHeartbeats 4000000 in
theorem enter_any {w : World} {b : Nat} {A : Option Addr} {c : Nat} {hs : List Ho} (H : Lk 48 53 w b A c hs) {N : Nat} (hN : N ≤ 10000) (hF : Few N hs) (a who : Int) :
    Calls Try.prog 17 #[.pointer (some ⟨b, 0, none⟩), .int .i64 a, .int .i64 who] w fun e w' => e = .returned (.int .i64 (enterT hs a who).1) ∧ NextL 48 53 w w' b A (enterT hs a who).2 := by
  have hl := hF.1
  by_cases h1 : a < 1
  · have hE : enterT hs a who = (2, hs) := by unfold enterT; rw [if_pos h1]
    rw [hE]
    have HN := Lib.hid (Lk.nochange H (Below.refl _ _))
    clear H hF
    go_enter Try.func17, Try.ntmps17
    go_wp2
    go_ret
    exact ⟨rfl, HN.out⟩
  · have HFi := Lib.hid (find_any H (by omega) a)
    by_cases hlt : fnd hs a < hs.length
    · have hp : ptrE A hs a = .pointer (A.map fun a' => ⟨a'.block, fnd hs a * 3, none⟩) := by unfold ptrE; rw [if_pos hlt]
      rw [hp] at HFi
      obtain ⟨g, rfl, _, hgl⟩ := H.at_ (by omega)
      have hE : enterT hs a who = if (hs[fnd hs a]'hlt).w = who then (0, hs.set (fnd hs a) ⟨(hs[fnd hs a]'hlt).a, (hs[fnd hs a]'hlt).w, (hs[fnd hs a]'hlt).n + 1⟩) else (29, hs) := by
        unfold enterT
        rw [if_neg h1, List.getElem?_eq_getElem hlt]
      have hfit := hF.2 _ (List.getElem_mem hlt)
      have HE := Lib.hid hE
      have HH := Lib.hid (fun w1 (hb : Below w.heap.size w w1) => H.beside hb)
      have HLt := Lib.hid hlt
      clear H hp hE hF
      generalize hk : fnd hs a = k at *
      have hn1 : -9223372036854775808 ≤ (hs[k]'HLt.out).n + 1 ∧ (hs[k]'HLt.out).n + 1 ≤ 9223372036854775807 := by omega
      by_cases hw : (hs[k]'HLt.out).w = who
      · have HE2 := Lib.hid (HE.out.trans (if_pos hw))
        clear HE
        have hw1 : ((hs[k]'HLt.out).w != who) = false := by simpa using hw
        go_enter Try.func17, Try.ntmps17
        go_wp2_with (go_at_call 25; refine HFi.out.mono ?_; rintro e w1 ⟨rfl, hb1⟩; have H1 := HH.out w1 hb1; have q1 := (H1.cells HLt.out).2.1; have q2 := (H1.cells HLt.out).2.2; have q3 := H1.free (k * 3 + 2); have HX := Lib.hid (And.intro H1 hb1); clear H1 hb1)
        go_ret
        rw [HE2.out]
        refine ⟨rfl, some ⟨g, 0, none⟩, c, HX.out.1.setN HLt.out _, (Turned.of_below HX.out.2).trans (Turned.of_set (F := feet b (some ⟨g, 0, none⟩)) w1 (a := ⟨g, k * 3 + 2, none⟩) (.inr ⟨_, rfl, rfl⟩) _) (fun j h => .inl h), fun _ h => .inl h⟩
      · have HE2 := Lib.hid (HE.out.trans (if_neg hw))
        clear HE
        have hw1 : ((hs[k]'HLt.out).w != who) = true := by simpa using hw
        go_enter Try.func17, Try.ntmps17
        go_wp2_with (go_at_call 25; refine HFi.out.mono ?_; rintro e w1 ⟨rfl, hb1⟩; have H1 := HH.out w1 hb1; have q1 := (H1.cells HLt.out).2.1; have HX := Lib.hid (And.intro H1 hb1); clear H1 hb1)
        go_ret
        rw [HE2.out]
        exact ⟨rfl, some ⟨g, 0, none⟩, c, HX.out.1, Turned.of_below HX.out.2, fun _ h => .inl h⟩
    · have hp : ptrE A hs a = .pointer none := by unfold ptrE; rw [if_neg hlt]
      rw [hp] at HFi
      have HE := Lib.hid (show enterT hs a who = (0, hs ++ [⟨a, who, 1⟩]) by
        unfold enterT
        rw [if_neg h1, List.getElem?_eq_none (by omega)])
      have HH := Lib.hid (fun w1 (hb : Below w.heap.size w w1) => H.beside hb)
      obtain ⟨i0, hi, hz, hz1, hz2⟩ := info_parts infoH
      have I0 := Lib.hid hi
      have I1 := Lib.hid hz
      have I2 := Lib.hid hz1
      have I3 := Lib.hid hz2
      clear H hp hF hi hz hz1 hz2 hlt
      go_enter Try.func17, Try.ntmps17
      go_wp2_with (first
        | (go_at_call 25; refine HFi.out.mono ?_; rintro e w1 ⟨rfl, hb1⟩; have H1 := HH.out w1 hb1; have q1 := H1.box.cell 0; have q2 := H1.box.lt; have HB1 := Lib.hid hb1; have HX := Lib.hid (H1.beside ((Below.refl _ w1).alloc (Nat.le_refl _) (.cells #[.int .i64 a, .int .i64 who, .int .i64 1] 53))); clear H1 hb1)
        | (at_builtin
           refine wpList_append_lies _ rfl (.tmp 29) (.tmp 33) 46 rfl 0 53 i0 _ 3 24 Try.underlying46 I0.out I1.out I2.out I3.out rfl (by omega) (.slice A hs.length c) hs.length (hs.flatMap hoV) rfl HX.out.row ⟨w1.heap.size, 0, none⟩ 1 1 [.int .i64 a, .int .i64 who, .int .i64 1] rfl rfl (World.news_of_block (cs := #[.int .i64 a, .int .i64 who, .int .i64 1]) (t := 53) (fr := (0, 0)) (Bx.new _ _ _)) (by simp [Value.oneCell']) (by omega) (by unfold maxLen; omega) (by omega) (Nat.zero_le _) _ rfl ?_
           intro b5 c5 w5 hown5 hg5 hat5 hlt5
           have P5 := Lib.hid (Lk.pushed (h := ⟨a, who, 1⟩) HX.out hg5 hown5 (by rcases hat5 with h | h; exact .inl h; exact .inr (Nat.le_of_eq h.symm)))
           have hbx : Bx w5 b #[.slice A hs.length c] 48 := (hg5.block b HX.out.box.lt (fun e => own_ne HX.out.row HX.out.box HX.out.ne e.symm)).trans HX.out.box
           have d1 := hbx.cell 0
           have e1 := hbx.free 0
           clear hbx hown5 hg5 hat5))
      go_ret
      rw [HE.out]
      exact ⟨rfl, NextL.after (HB1.out.alloc HB1.out.size _) P5.out⟩

/-- what Owner answers -/
def ownerT (hs : List Ho) (a : Int) : Int × Int × Bool := match hs[fnd hs a]? with
  | none => (0, 0, false)
  | some h => (h.w, h.n, true)
set_option maxRecDepth 100000 in
set_option maxHeartbeats 4000000 in
theorem owner_any {w : World} {b : Nat} {A : Option Addr} {c : Nat} {hs : List Ho} (H : Lk 48 53 w b A c hs) (hl : hs.length ≤ 10000) (a : Int) :
    Calls Try.prog 10 #[.pointer (some ⟨b, 0, none⟩), .int .i64 a] w fun e w' => e = .returned (.tuple #[.int .i64 (ownerT hs a).1, .int .i64 (ownerT hs a).2.1, .bool (ownerT hs a).2.2]) ∧ Below w.heap.size w w' := by
  have HFi := Lib.hid (find_any H (by omega) a)
  by_cases hlt : fnd hs a < hs.length
  · have hp : ptrE A hs a = .pointer (A.map fun a' => ⟨a'.block, fnd hs a * 3, none⟩) := by unfold ptrE; rw [if_pos hlt]
    rw [hp] at HFi
    obtain ⟨g, rfl, _, hgl⟩ := H.at_ (by omega)
    have HE := Lib.hid (show ownerT hs a = ((hs[fnd hs a]'hlt).w, (hs[fnd hs a]'hlt).n, true) by
      unfold ownerT
      rw [List.getElem?_eq_getElem hlt])
    have HH := Lib.hid (fun w1 (hb : Below w.heap.size w w1) => H.beside hb)
    have HLt := Lib.hid hlt
    clear H hp
    generalize hk : fnd hs a = k at *
    go_enter Try.func10, Try.ntmps10
    go_wp2_with (go_at_call 25; refine HFi.out.mono ?_; rintro e w1 ⟨rfl, hb1⟩; have H1 := HH.out w1 hb1; have q1 := (H1.cells HLt.out).2.1; have q2 := (H1.cells HLt.out).2.2; have HX := Lib.hid hb1; clear H1 hb1)
    go_quiet (fail)
    go_wp2_with fail
    go_ret3
    rw [HE.out]
    exact ⟨rfl, HX.out.trans ((bel_drewN (Below.refl w1.heap.size w1) nq).mono HX.out.size)⟩
  · have hp : ptrE A hs a = .pointer none := by unfold ptrE; rw [if_neg hlt]
    rw [hp] at HFi
    have HE := Lib.hid (show ownerT hs a = (0, 0, false) by
      unfold ownerT
      rw [List.getElem?_eq_none (by omega)])
    clear H hp hlt
    go_enter Try.func10, Try.ntmps10
    go_wp2_with (go_at_call 25; refine HFi.out.mono ?_; rintro e w1 ⟨rfl, hb1⟩; have HX := Lib.hid hb1; clear hb1)
    go_ret3
    rw [HE.out]
    exact ⟨rfl, HX.out⟩
end LkB
end Go.Proofs.Ytkjkofdjnjihjaa
