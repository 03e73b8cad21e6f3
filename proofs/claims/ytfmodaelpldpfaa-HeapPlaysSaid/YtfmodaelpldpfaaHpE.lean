/-
  Heap.Send and Heap.Sent: what each of them hands back; where things were sent to.
-/
import Derived.Test.YtfmodaelpldpfaaHpZ
namespace Go.Proofs.Ytfmodaelpldpfaa
namespace HpE
open Go.RowKit Base BinM HpM HpA HpS HpB HpG HpP HpT HpZ

section
variable {w : World} {g mb : Nat} {Aw : Option Addr} {cw : Nat} {Aa : Option Addr} {ca most : Nat} {ws al : List Int} {n : Nat} {f : Int → Option Int}

theorem sent_any (H : HpX w g mb Aw cw Aa ca most ws al n f) (x : Int) (hx : fitI x) :
    Calls Try.prog 30 #[.pointer (some ⟨g, 0, none⟩), .int .i64 x] w fun e w' => e = .returned (.tuple #[.int .i64 ((f x).getD 0), .bool (f x).isSome]) ∧ w = w' := by
  have c3 := H.box.cell 3
  obtain ⟨D, hown, _, hat⟩ := H.map
  have HO := Lib.hid hown
  have HK := Lib.hid (Go.Maps.keyOf_int_mk (P := Try.prog) Try.underlying2 (wf_of hx))
  clear H hown hx
  cases hf : f x with
  | none =>
    obtain ⟨hhas, hk⟩ := (hat x).1 hf
    have HA := Lib.hid hk
    clear hat hk
    go_enter Try.func30, Try.ntmps30
    go_wp2_with (at_lookup; refine wpList_lookup_own_ok_int _ rfl _ _ 60 rfl 2 2 .i64 keyI Try.underlying60 Try.underlying2 (zeroI _) mb n D rfl HO.out _ _ rfl HK.out ?_; intro c' hat' hwc; obtain rfl : c' = 0 := (by have := hat'.symm.trans HA.out; injection this with this; injection this); clear hat' hwc)
    go_ret2
    exact ⟨rfl, rfl⟩
  | some y =>
    obtain ⟨hhas, hk⟩ := (hat x).2 y hf
    have HA := Lib.hid hk
    clear hat hk
    go_enter Try.func30, Try.ntmps30
    go_wp2_with (at_lookup; refine wpList_lookup_own_ok_int _ rfl _ _ 60 rfl 2 2 .i64 keyI Try.underlying60 Try.underlying2 (zeroI _) mb n D rfl HO.out _ _ rfl HK.out ?_; intro c' hat' hwc; obtain rfl : c' = y := (by have := hat'.symm.trans HA.out; injection this with this; injection this); clear hat' hwc)
    go_ret2
    exact ⟨rfl, rfl⟩

theorem send_no {ts : List Th} (H : HpX w g mb Aw cw Aa ca most (raw ts) (adr 0 ts) n f) (F : Fits most ts) (x v : Int) (hx : x ∉ adr 0 ts) :
    Calls Try.prog 31 #[.pointer (some ⟨g, 0, none⟩), .int .i64 x, .int .i64 v] w fun e w' => e = .returned (.int .i64 3) ∧ ∃ q, w' = w.drewN q := by
  have HB := Lib.hid (behind_no H F x hx)
  clear H F hx
  go_enter Try.func31, Try.ntmps31
  go_wp2_with (go_at_call 43; refine HB.out.mono ?_; rintro e w' ⟨rfl, q, rfl⟩)
  go_ret
  exact ⟨rfl, q, rfl⟩

/-- a map put: the heap is as it was but for that -/
theorem putM {w1 : World} (H : HpX w g mb Aw cw Aa ca most ws al n f) (hg : w.grownBy w1 (some mb)) {n' : Nat} {f' : Int → Option Int} (hm : MapI w1 mb n' f') : HpX w1 g mb Aw cw Aa ca most ws al n' f' ∧ Turned (feet g mb Aw Aa) w w1 := by
  have hb : ∀ k, k < w.heap.size → k ≠ mb → w1.heap[k]? = w.heap[k]? := fun k hk hn => hg.block k hk (fun e => hn (by injection e))
  obtain ⟨h1, h2, h3, h4, h5, h6, h7, h8⟩ := H
  refine ⟨⟨(hb g h1.lt h8).trans h1, own_same h2 (fun k hk => ?_), own_same h3 (fun k hk => ?_), hm, h5, h6, h7, h8⟩, Turned.of_grown hg (fun k hk => by injection hk with hk; exact .inr (.inl hk.symm))⟩
  · obtain ⟨a, q1, rfl⟩ := block_of hk
    exact hb _ (own_in h2 q1).1 (h5 a q1).2
  · obtain ⟨a, q1, rfl⟩ := block_of hk
    exact hb _ (own_in h3 q1).1 (h6 a q1).2
/-- the error of Send, of a thing that there is -/
def sendE (o : Option Int) (v : Int) : Int := if v < 1 then 2 else if o.isSome then 22 else 0
def GivesSend (w : World) (F : Nat → Prop) (g mb most : Nat) (ws al : List Int) (n : Nat) (f : Int → Option Int) (x v : Int) (e : Ending) (w' : World) : Prop :=
  e = .returned (.int .i64 (sendE (f x) v)) ∧ ((sendE (f x) v ≠ 0 ∧ Below w.heap.size w w') ∨ (sendE (f x) v = 0 ∧ NextH w w' F g mb most ws al (n + 1) (fun c => if c = x then some v else f c)))
theorem drewN_below (w : World) (q : Nat) : Below w.heap.size w (w.drewN q) := ⟨rfl, rfl, rfl, Nat.le_refl _, fun _ _ => rfl⟩
set_option maxRecDepth 100000 in
theorem send_yes {p : List Th} {t : Th} {r : List Th} (H : HpX w g mb Aw cw Aa ca most (raw (p ++ t :: r)) (adr 0 (p ++ t :: r)) n f) (F : Fits most (p ++ t :: r)) (hn : n ≤ 80000) (v : Int) (hv : fitI v) :
    Calls Try.prog 31 #[.pointer (some ⟨g, 0, none⟩), .int .i64 (((raw p).length + 1 : Nat) : Int), .int .i64 v] w
      (GivesSend w (feet g mb Aw Aa) g mb most (raw (p ++ t :: r)) (adr 0 (p ++ t :: r)) n f (((raw p).length + 1 : Nat) : Int) v) := by
  have HB := Lib.hid (behind_yes H F)
  have HH := Lib.hid H
  have hP : fitI (((raw p).length + 1 : Nat) : Int) := by
    have := F.len
    have := F.top
    rw [raw_mid_len] at *
    unfold fitI
    omega
  clear F
  by_cases h1 : v < 1
  · have hE := Lib.hid (show sendE (f (((raw p).length + 1 : Nat) : Int)) v = 2 by unfold sendE; rw [if_pos h1])
    clear H hP
    generalize (raw p).length = P at *
    go_enter Try.func31, Try.ntmps31
    go_wp2_with (go_at_call 43; refine HB.out.mono ?_; rintro e w' ⟨⟨B, c, rfl, _⟩, q, rfl⟩)
    go_ret
    exact ⟨by rw [hE.out]; rfl, .inl ⟨by rw [hE.out]; omega, drewN_below _ _⟩⟩
  · obtain ⟨D, hown, _, hat⟩ := H.map
    have c3 := H.box.cell 3
    have HO := Lib.hid (fun q => ownsMap_block (w' := w.drewN q) hown rfl)
    have HK := Lib.hid (Go.Maps.keyOf_int_mk (P := Try.prog) Try.underlying2 (wf_of hP))
    have HP := Lib.hid (fun q => map_put (w := w.drewN q) (H.map.block rfl) (by omega) _ v hP hv)
    clear H hown hP
    generalize hx : (((raw p).length + 1 : Nat) : Int) = x at *
    cases hf : f x with
    | none =>
      obtain ⟨hhas, hk⟩ := (hat x).1 hf
      have hE := Lib.hid (show sendE (f x) v = 0 by unfold sendE; rw [if_neg h1, hf]; rfl)
      clear hat hk
      go_enter Try.func31, Try.ntmps31
      go_wp2_with (first
                    | (go_at_call 43; refine HB.out.mono ?_; rintro e w' ⟨⟨B, c, rfl, _⟩, q, rfl⟩; obtain ⟨w5, hrun, hg5, hm5⟩ := HP.out q)
                    | (at_lookup; refine wpList_lookup_own_ok_int _ rfl _ _ 60 rfl 2 2 .i64 keyI Try.underlying60 Try.underlying2 (zeroI _) mb n D rfl (HO.out _) _ _ rfl HK.out ?_; intro c' hat' hwc))
      go_ret
      have h := putM (w := w.drewN q) (HH.out.aside (fun _ _ => rfl)) hg5 hm5
      exact ⟨by rw [hE.out]; rfl, .inr ⟨hE.out, _, _, _, _, h.1, (Turned.of_below (drewN_below w q)).trans h.2 (fun j h => .inl h), fun j h => .inl h⟩⟩
    | some y =>
      obtain ⟨hhas, hk⟩ := (hat x).2 y hf
      have hE := Lib.hid (show sendE (f x) v = 22 by unfold sendE; rw [if_neg h1, hf]; rfl)
      clear hat hk
      go_enter Try.func31, Try.ntmps31
      go_wp2_with (first
                    | (go_at_call 43; refine HB.out.mono ?_; rintro e w' ⟨⟨B, c, rfl, _⟩, q, rfl⟩)
                    | (at_lookup; refine wpList_lookup_own_ok_int _ rfl _ _ 60 rfl 2 2 .i64 keyI Try.underlying60 Try.underlying2 (zeroI _) mb n D rfl (HO.out _) _ _ rfl HK.out ?_; intro c' hat' hwc))
      go_ret
      exact ⟨by rw [hE.out]; rfl, .inl ⟨by rw [hE.out]; omega, drewN_below _ _⟩⟩
end

end HpE
end Go.Proofs.Ytfmodaelpldpfaa
