/-
  A move's code: what Old, Int and Add do to types.
-/
import Derived.Test.YtiagjnimafdbhaaGreatDoorTnD
import Derived.Deep.RegionLaw
import Derived.Deep.AppendLies
namespace Go.Proofs.YtiagjnimafdbhaaGreatDoor
namespace TnE
open Go.RowKit Go.Shelf Base BinM TabM TnA TnB TnC TnD

theorem take_any (b g c ob db tb : Nat) (O : Value) (w : World) (hbx : Bx w b #[.slice (some ⟨g, 0, none⟩) 2 c, O] 215) (hc : 2 ≤ c) (hcm : c ≤ maxLen) (hg0 : w.cell? ⟨g, 0, none⟩ = some (.pointer (some ⟨ob, 0, none⟩))) (hg1 : w.cell? ⟨g, 1, none⟩ = some (.pointer (some ⟨db, 0, none⟩)))
    (ho : Bx w ob #[.string ⟨#[]⟩] 9) (hd : Bx w db #[.string ⟨#[73]⟩] 9) (ht : Bx w tb #[.string ⟨#[73]⟩, .string ⟨#[73]⟩] 9) (hgl : g < w.heap.size) (n1 : g ≠ b) (n2 : g ≠ ob) (n3 : b ≠ ob) (n4 : db ≠ b) (n5 : db ≠ ob) (n6 : tb ≠ b) (n7 : tb ≠ ob) :
    Calls Tryz.prog 142 #[.pointer (some ⟨b, 0, none⟩), .slice (some ⟨tb, 0, none⟩) 2 2] w fun e w' => e = .returned (.bool true) ∧ Bx w' b #[.slice (some ⟨g, 0, none⟩) 0 0, O] 215 ∧ Bx w' ob #[.string ⟨#[73]⟩] 9 ∧ Tu (fun k => k = b ∨ k = ob) w w' :=
  (callsIn_wide (n := 3)).1 (take_in Fence.wide 3 trivial trivial trivial trivial rfl (Nat.le_refl _) b g c ob db tb O w hbx hc hcm hg0 hg1 ho hd ht hgl n1 n2 n3 n4 n5 n6 n7 (fun _ g' k c' p W h1 h2 h3 h4 => callsIn_wide.2 (pop_any b g' k c' O p W h1 h2 h3 h4)))
set_option maxRecDepth 100000 in
theorem of_add (w : World) : Calls Tryz.prog 200 #[.int .i64 10] w fun e w' => e = .returned (.tuple #[.slice (some ⟨w.heap.size, 0, none⟩) 2 2, .string ⟨#[73]⟩, .bool true]) ∧ w' = w.alloc (.cells #[.string ⟨#[73]⟩, .string ⟨#[73]⟩] 9) := by
  go_enter Tryz.func200, Tryz.ntmps200
  go_wp2_with fail
  go_ret3
  exact ⟨rfl, rfl⟩
set_option maxRecDepth 100000 in
set_option maxHeartbeats 4000000 in
theorem can_old (b ob base : Nat) (w : World) (hbx : Bx w b #[.slice none 0 0, .slice (some ⟨ob, 0, none⟩) 1 1] 215) (hbase : base ≤ w.heap.size) :
    Calls Tryz.prog 176 #[.pointer (some ⟨b, 0, none⟩), .agg #[.int .i64 45, .int .i64 0, .int .i64 0]] w fun e w' => e = .returned (.bool true) ∧ ∃ A c, Bx w' b #[.slice A 1 c, .slice (some ⟨ob, 0, none⟩) 1 1] 215 ∧ w'.ownsRow base 257 1 (.slice A 1 c) 1 [.pointer (some ⟨ob, 0, none⟩)] ∧ Tu (fun k => k = b) w w' := by
  obtain ⟨i, hi, hz, hs1, hb1⟩ := info_parts infoP
  have HI := Lib.hid (And.intro hi (And.intro hz (And.intro hs1 hb1)))
  have hbl := hbx.lt
  have b0 := hbx.cell 0
  have b1 := hbx.cell 1
  have B1 := Lib.hid (TabZ.bx_al hbx (.cells #[.int .i64 45, .int .i64 0, .int .i64 0] 112))
  have T1 := Lib.hid (Tu.of_below (F := fun k => k = b) (((Below.refl w.heap.size w).alloc (Nat.le_refl _) (.cells #[.int .i64 45, .int .i64 0, .int .i64 0] 112))))
  clear hi hz hs1 hb1 hbx
  go_enter Tryz.func176, Tryz.ntmps176
  go_wp2_with fail
  go_quiet (fail)
  go_wp2_with fail
  have B2 := Lib.hid (show Bx ((w.alloc (.cells #[.int .i64 45, .int .i64 0, .int .i64 0] 112)).drewN nq) b _ _ from B1.out)
  have P2 := Lib.hid (show Bx ((w.alloc (.cells #[.int .i64 45, .int .i64 0, .int .i64 0] 112)).drewN nq) w.heap.size _ _ from Bx.new w #[.int .i64 45, .int .i64 0, .int .i64 0] 112)
  have T2 := Lib.hid (T1.out.drew nq)
  have Hsz := Lib.hid (show ((w.alloc (.cells #[.int .i64 45, .int .i64 0, .int .i64 0] 112)).drewN nq).heap.size = w.heap.size + 1 by simp)
  generalize (w.alloc (.cells #[.int .i64 45, .int .i64 0, .int .i64 0] 112)).drewN nq = W at *
  clear b0 b1
  have b0 := B2.out.cell 0
  have b1 := B2.out.cell 1
  have p0 := P2.out.cell 0
  have p1 := P2.out.cell 1
  have hbW := B2.out.lt
  have hwW : base ≤ W.heap.size := by have := Hsz.out; omega
  go_region_law (
    (refine step_append_lies _ (by rfl) _ _ _ (by rfl) base 257 i _ 1 8 Tryz.underlying213 HI.out.1 HI.out.2.1 HI.out.2.2.1 HI.out.2.2.2 rfl (by omega) (.slice none 0 0) 0 [] (by rfl) (World.ownsRow_nil _ _ _ _) ⟨W.heap.size, 0, none⟩ 1 1 [.pointer (some ⟨ob, 0, none⟩)] (by rfl) (by rfl) (World.news_of_block (cs := #[.pointer (some ⟨ob, 0, none⟩)]) (t := 257) (fr := (0, 0)) (by exact heap_alloc_new W.drew (.cells #[.pointer (some ⟨ob, 0, none⟩)] 257))) (by simp [Value.oneCell']) (by omega) (by unfold maxLen; omega) (by omega) (by simp; omega) (W.heap.size + 1) (by simp) ?_
     intro gg cap7 w7 hown7 hg7 hat7 hlt7
     have hx7 : Bx w7 b _ _ := (hg7.block b (by simp; omega) (fun e => by cases e)).trans (TabZ.bx_al (w := W.drew) B2.out (.cells #[.pointer (some ⟨ob, 0, none⟩)] 257))
     have c7 := hx7.cell 0
     have f7 := hx7.free 0
     have X7 := Lib.hid hx7
     have O7 := Lib.hid hown7
     have T7 := Lib.hid ((T2.out.trans (Tu.of_below (F := fun k => k = b) ((Below.refl W.heap.size W).drew.alloc (Nat.le_refl _) (.cells #[.pointer (some ⟨ob, 0, none⟩)] 257))) (fun j e => .inl e)).trans (Tu.of_grown (F := fun k => k = b) hg7 (fun k e => by cases e)) (fun j e => .inl e))
     clear hx7 hown7 hg7 hat7))
  all_goals
    go_wp2_with fail
    go_ret
    have hn7 := row_ne O7.out X7.out (by decide)
    exact ⟨rfl, _, cap7, X7.out.set 0 _, own_same O7.out (fun k hk => heap_setCell_other _ ⟨b, 0, none⟩ _ _ (fun e => hn7 (by rw [hk, e]))), T7.out.trans (Tu.of_set (F := fun k => k = b) w7 rfl _) (fun j e => .inl e)⟩
end TnE
end Go.Proofs.YtiagjnimafdbhaaGreatDoor
