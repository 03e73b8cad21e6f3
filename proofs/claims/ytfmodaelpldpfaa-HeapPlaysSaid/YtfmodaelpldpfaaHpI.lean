/-
  The document's heap: one thing more: Put, Thing, Array: what each of them hands back, and the things that there are then.
-/
import Derived.Test.YtfmodaelpldpfaaHpF
import Derived.Deep.RegionWith
import Derived.Laws.MakeOwn
import Derived.Deep.QuietTactic
import Derived.BigQuiet
namespace Go.Proofs.Ytfmodaelpldpfaa
namespace HpI
open Go.RowKit Base BinM HpM HpA HpS HpB HpG HpP HpT HpZ HpR HpQ HpE HpF

theorem infoT : (Try.prog.info? 64).map (fun i => (i.zero, i.size, i.bytes)) = some (some (.agg #[.int .i64 0, .int .i64 0, .slice none 0 0, .int .i64 0]), 4, 48) := by kernel_rfl

section
variable {w w1 : World} {r : Nat} {AL : Option Addr} {cL most : Nat} {ms : List ThM}

theorem things_snoc (ms : List ThM) (m : ThM) : things (ms ++ [m]) = things ms ++ [m.t] := by simp [things]
theorem rgrew (H : RfX w r AL cL most ms) (hg : w.grownBy w1 (Value.slice AL ms.length cL).ownBlock) : Bx w1 r #[.int .i64 most, .slice AL ms.length cL] 47 :=
  (hg.block r H.box.lt (fun e => by obtain ⟨a, h1, h2⟩ := block_of e.symm; exact H.rl a h1 h2)).trans H.box
theorem rpush (H : RfX w r AL cL most ms) {m : ThM} (hW : OwnI w 0 (.slice m.A m.t.W.length m.c) m.t.W) (hfar : ∀ a, m.A = some a → ¬ rfeet r AL ms a.block) (hat : m.at_ = (((raw (things ms)).length + 1 : Nat) : Int))
    (hg : w.grownBy w1 (Value.slice AL ms.length cL).ownBlock) {b c : Nat} (hown : w1.ownsRow 0 64 4 (.slice (some ⟨b, 0, none⟩) (ms.length + 1) c) (ms.length + 1) (ms.flatMap thV ++ thV m)) (hb : (Value.slice AL ms.length cL).ownBlock = some b ∨ w.heap.size ≤ b) :
    RfX (w1.setCell ⟨r, 1, none⟩ (.slice (some ⟨b, 0, none⟩) (ms.length + 1) c)) r (some ⟨b, 0, none⟩) c most (ms ++ [m]) ∧ Turned (rfeet r AL ms) w (w1.setCell ⟨r, 1, none⟩ (.slice (some ⟨b, 0, none⟩) (ms.length + 1) c)) ∧
      ∀ k, rfeet r (some ⟨b, 0, none⟩) (ms ++ [m]) k → rfeet r AL ms k ∨ w.heap.size ≤ k ∨ ∃ a, m.A = some a ∧ a.block = k := by
  have hbx := rgrew H hg
  have hbf : ∀ k, k < w.heap.size → (∀ a, AL = some a → a.block ≠ k) → b ≠ k := by
    intro k hk hn
    rcases hb with h | h
    · obtain ⟨a, q1, q2⟩ := block_of h
      exact fun e => hn a q1 (by omega)
    · omega
  have hbr : b ≠ r := hbf r H.box.lt H.rl
  have hwb : ∀ u ∈ ms, ∀ a, u.A = some a → b ≠ a.block := fun u hu a ha => hbf _ (H.lt (.inr (.inr ⟨u, hu, a, ha, rfl⟩))) (fun a' ha' e => (H.rw_ u hu a ha).2 a' ha' e.symm)
  have hmb : ∀ a, m.A = some a → b ≠ a.block := fun a ha => hbf _ (own_in hW ha).1 (fun a' ha' e => hfar a ha (.inr (.inl ⟨a', ha', e⟩)))
  have hkeep : ∀ k, k < w.heap.size → (∀ a, AL = some a → a.block ≠ k) → k ≠ r → (w1.setCell ⟨r, 1, none⟩ (.slice (some ⟨b, 0, none⟩) (ms.length + 1) c)).heap[k]? = w.heap[k]? := fun k hk hn hr =>
    (heap_setCell_other w1 ⟨r, 1, none⟩ k _ hr).trans (hg.block k hk (fun e => by obtain ⟨a, q1, q2⟩ := block_of e.symm; exact hn a q1 q2))
  refine ⟨⟨?_, ?_, ?_, ?_, ?_, ?_, ?_⟩, ?_, ?_⟩
  · rw [List.length_append]
    exact hbx.set 1 _
  · rw [List.length_append, List.flatMap_append]
    simp only [List.length_singleton, List.flatMap_cons, List.flatMap_nil, List.append_nil]
    refine own_same hown (fun k hk => heap_setCell_other w1 _ k _ ?_)
    injection hk with hk
    subst hk
    exact hbr
  · intro u hu
    rw [List.mem_append, List.mem_singleton] at hu
    rcases hu with hu | rfl
    · refine own_same (H.each u hu) (fun k hk => ?_)
      obtain ⟨a, q1, rfl⟩ := block_of hk
      exact hkeep _ (own_in (H.each u hu) q1).1 (fun a' ha' e => (H.rw_ u hu a q1).2 a' ha' e.symm) (H.rw_ u hu a q1).1
    · refine own_same hW (fun k hk => ?_)
      obtain ⟨a, q1, rfl⟩ := block_of hk
      exact hkeep _ (own_in hW q1).1 (fun a' ha' e => hfar a q1 (.inr (.inl ⟨a', ha', e⟩))) (fun e => hfar a q1 (.inl e))
  · intro a ha
    injection ha with ha
    subst ha
    exact hbr
  · intro u hu a ha
    rw [List.mem_append, List.mem_singleton] at hu
    rcases hu with hu | rfl
    · refine ⟨(H.rw_ u hu a ha).1, fun a' ha' => ?_⟩
      injection ha' with ha'
      subst ha'
      exact Ne.symm (hwb u hu a ha)
    · refine ⟨fun e => hfar a ha (.inl e), fun a' ha' => ?_⟩
      injection ha' with ha'
      subst ha'
      exact Ne.symm (hmb a ha)
  · rw [List.pairwise_append]
    refine ⟨H.ww, by simp, fun u hu v hv a a' ha ha' => ?_⟩
    rw [List.mem_singleton] at hv
    subst hv
    exact fun e => hfar a' ha' (.inr (.inr ⟨u, hu, a, ha, e⟩))
  · rw [things_snoc, adr_snoc, ← H.ats, ← hat]
    simp
  · exact (Turned.of_grown hg (fun k hk => by obtain ⟨a, q1, q2⟩ := block_of hk; exact .inr (.inl ⟨a, q1, q2⟩))).trans (Turned.of_set (F := rfeet r AL ms) w1 (.inl rfl) _) (fun j h => .inl h)
  · rintro k (h | ⟨a, h1, h2⟩ | ⟨u, hu, a, h1, h2⟩)
    · exact .inl (.inl h)
    · injection h1 with h1
      subst h1
      have h2' : b = k := h2
      rcases hb with h | h
      · obtain ⟨a', q1, q2⟩ := block_of h
        exact .inl (.inr (.inl ⟨a', q1, by omega⟩))
      · exact .inr (.inl (by omega))
    · rw [List.mem_append, List.mem_singleton] at hu
      rcases hu with hu | rfl
      · exact .inl (.inr (.inr ⟨u, hu, a, h1, h2⟩))
      · exact .inr (.inr ⟨a, h1, h2⟩)

/-- what a call that makes a thing of the document's heap hands back -/
def GivesRTh (w : World) (F : Nat → Prop) (r most : Nat) (ms : List ThM) (E : Int) (t : Th) (e : Ending) (w' : World) : Prop :=
  (E ≠ 0 ∧ e = .returned (.tuple #[.int .i64 0, .int .i64 E]) ∧ Below w.heap.size w w') ∨
  (E = 0 ∧ e = .returned (.tuple #[.int .i64 (((raw (things ms)).length + 1 : Nat) : Int), .int .i64 0]) ∧ ∃ m : ThM, m.t = t ∧ NextR w w' F r most (ms ++ [m]))

set_option maxRecDepth 100000 in
set_option maxHeartbeats 8000000 in
theorem rput_any (H : RfX w r AL cL most ms) (hb : (raw (things ms)).length ≤ most) (hm : most ≤ 4096) (hn : ms.length ≤ 4000) (id : Int) {A : Option Addr} {c : Nat} (W : List Int) (hr : Rds w A (W.map (Value.int .i64))) (hW : W.length ≤ 100000) :
    Calls Try.prog 45 #[.pointer (some ⟨r, 0, none⟩), .int .i64 id, .slice A W.length c] w (GivesRTh w (rfeet r AL ms) r most ms (addE most (raw (things ms)).length id (W.length : Int)) ⟨id.toNat, W, 0⟩) := by
  by_cases h1 : id < 0
  · have hE := Lib.hid (show addE most (raw (things ms)).length id (W.length : Int) = 2 by unfold addE; rw [if_pos (by omega)])
    clear H hr
    go_enter Try.func45, Try.ntmps45
    go_wp2
    go_ret2
    exact .inl ⟨by rw [hE.out]; omega, by rw [hE.out]; rfl, Below.refl _ _⟩
  · by_cases h2 : 65535 < id
    · have hE := Lib.hid (show addE most (raw (things ms)).length id (W.length : Int) = 2 by unfold addE; rw [if_pos (by omega)])
      clear H hr
      go_enter Try.func45, Try.ntmps45
      go_wp2
      go_ret2
      exact .inl ⟨by rw [hE.out]; omega, by rw [hE.out]; rfl, Below.refl _ _⟩
    · have c0 := H.box.cell 0
      have HH := Lib.hid H
      have HR := Lib.hid hr
      have HU := Lib.hid (fun q => (rused_any (w := w.drewN q) (H.drew q) (by omega) (by omega)).mono (R' := fun e w' => e = .returned (.int .i64 ((raw (things ms)).length : Int)) ∧ w' = w.drewN q) (fun _ _ h => ⟨h.1, h.2.symm⟩))
      have hlt := H.box.lt
      clear H hr
      have hu0 : (raw (things ms)).length ≤ 4096 := by omega
      by_cases h3 : (most : Int) - ((raw (things ms)).length : Int) < (W.length : Int) + 1
      · have hE := Lib.hid (show addE most (raw (things ms)).length id (W.length : Int) = 17 by unfold addE; rw [if_neg (by omega), if_pos (by omega)])
        generalize (raw (things ms)).length = U at *
        generalize W.length = wl at *
        go_enter Try.func45, Try.ntmps45
        go_wp2_with fail
        go_quiet ((go_at_call 14; exact Calls.quiet_of_same (HU.out _)))
        go_wp2_with fail
        go_ret2
        exact .inl ⟨by rw [hE.out]; omega, by rw [hE.out]; rfl, drewN_below _ _⟩
      · have hE := Lib.hid (fun (_ : True) => show addE most (raw (things ms)).length id (W.length : Int) = 0 by unfold addE; rw [if_neg (by omega), if_neg (by omega)])
        obtain ⟨d, rfl⟩ : ∃ d : Nat, id = (d : Int) := ⟨id.toNat, by omega⟩
        rw [Int.toNat_natCast]
        obtain ⟨i0, hi, hz, hz1, hz2⟩ := info_parts info64
        have I0 := Lib.hid hi
        have I1 := Lib.hid hz
        have I2 := Lib.hid hz1
        have I3 := Lib.hid hz2
        obtain ⟨j0, gi, gz, gz1, gz2⟩ := info_parts infoT
        have J0 := Lib.hid gi
        have J1 := Lib.hid gz
        have J2 := Lib.hid gz1
        have J3 := Lib.hid gz2
        clear hi hz hz1 hz2 gi gz gz1 gz2
        generalize hUe : (raw (things ms)).length = U at *
        have HUe := Lib.hid hUe
        clear hUe
        go_enter Try.func45, Try.ntmps45
        go_wp2_with fail
        go_quiet ((go_at_call 14; exact Calls.quiet_of_same (HU.out _)))
        go_wp2_with (first
                      | (go_at_call 14; refine (HU.out nq).mono ?_; rintro e w' ⟨rfl, rfl⟩)
                      | (at_builtin
                         have hB := G1
                         have hB' := HP1
                         refine wpList_append_lies _ rfl (.tmp 37) (.tmp 42) 45 rfl 0 64 j0 _ 4 48 Try.underlying45 J0.out J1.out J2.out J3.out rfl (by omega) (.slice AL ms.length cL) ms.length (ms.flatMap thV) rfl HP1.out.1.row ⟨w1.heap.size, 0, none⟩ 1 1 [.int .i64 ((U : Int) + 1), .int .i64 (d : Int), .slice A1 W.length c1, .int .i64 0] rfl rfl (World.news_of_block (cs := #[.int .i64 ((U : Int) + 1), .int .i64 (d : Int), .slice A1 W.length c1, .int .i64 0]) (t := 64) (fr := (0, 0)) (alloc_at _ _ rfl)) (by simp [Value.oneCell']) (by omega) (by unfold maxLen; omega) (by omega) (Nat.zero_le _) _ rfl ?_
                         intro b5 c5 w5 hown5 hg5 hat5 hlt5
                         have hbx := rgrew HP1.out.1 hg5
                         have d1 := hbx.cell 1
                         have e1 := hbx.free 1
                         have P5 := Lib.hid (rpush (m := ⟨(U : Int) + 1, A1, c1, ⟨d, W, 0⟩⟩) HP1.out.1 HP1.out.2.1 HP1.out.2.2 (by rw [HUe.out]; rfl) hg5 hown5 (by rcases hat5 with h | h; exact .inl h; exact .inr (Nat.le_of_eq h.symm)))
                         clear hbx hown5 hg5 hat5 hB hB')
                      | (at_builtin
                         refine wpList_append_rds rfl (.tmp 30) (.tmp 31) 38 rfl w.heap.size 2 i0 _ 8 Try.underlying38 I0.out I1.out I2.out I3.out rfl (.slice none 0 0) 0 [] rfl (World.ownsRow_nil _ _ _ _) A W.length c (W.map (Value.int .i64)) rfl (by simp) (Rds.drewN HR.out nq) (oneI W) (by unfold maxLen; omega) (by omega) (Nat.le_refl _) ?_
                         intro v1 w1 hown1 hg1
                         rw [Nat.zero_add, List.nil_append] at hown1
                         obtain ⟨A1, c1, rfl, _, _, hA1, _⟩ := own_slice hown1
                         have hb1 : Below w.heap.size w w1 := (drewN_below w nq).grown hg1 (Nat.le_refl _) (fun k hk => by cases hk)
                         have G1 := Lib.hid hb1
                         have H1 := HH.out.beside hb1
                         have c1c := H1.box.cell 1
                         have hlt1 := H1.box.lt
                         have hal : Below w1.heap.size w1 (w1.alloc (.cells #[.int .i64 ((U : Int) + 1), .int .i64 (d : Int), .slice A1 W.length c1, .int .i64 0] 64)) := (Below.refl _ _).alloc (Nat.le_refl _) _
                         have HP1 := Lib.hid (And.intro (H1.beside hal) (And.intro (show OwnI (w1.alloc (.cells #[.int .i64 ((U : Int) + 1), .int .i64 (d : Int), .slice A1 W.length c1, .int .i64 0] 64)) 0 (.slice A1 W.length c1) W from own_mono (World.ownsRow.alloc hown1 _) (Nat.zero_le _)) (show ∀ a, A1 = some a → ¬ rfeet r AL ms a.block from fun a ha hf => by have := (hA1 a ha).1; have := HH.out.lt hf; omega)))
                         have hA1' := Lib.hid hA1
                         clear hown1 hg1 hb1 H1 hal hA1))
        go_ret2
        have T1 := (Turned.of_below (F := rfeet r AL ms) G1.out).trans (G := rfeet r AL ms) (Turned.of_below ((Below.refl w1.heap.size w1).alloc (Nat.le_refl _) (.cells #[.int .i64 ((U : Int) + 1), .int .i64 (d : Int), .slice A1 W.length c1, .int .i64 0] 64))) (fun j h => .inl h)
        refine .inr ⟨hE.out trivial, by rw [HUe.out]; rfl, ⟨(U : Int) + 1, A1, c1, ⟨d, W, 0⟩⟩, rfl, some ⟨b5, 0, none⟩, c5, P5.out.1, T1.trans P5.out.2.1 (fun j h => .inl h), fun k hk => ?_⟩
        rcases P5.out.2.2 k hk with h | h | ⟨a, h1, h2⟩
        · exact .inl h
        · exact .inr (Nat.le_trans T1.size h)
        · exact .inr (by rw [← h2]; exact (hA1'.out a h1).1)
end

end HpI
end Go.Proofs.Ytfmodaelpldpfaa
