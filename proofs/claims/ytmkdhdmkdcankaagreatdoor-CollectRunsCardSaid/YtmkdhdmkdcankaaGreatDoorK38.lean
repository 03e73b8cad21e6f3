/- pieces -/
import Derived.Test.YtmkdhdmkdcankaaGreatDoorK37
namespace Go.Proofs.YtmkdhdmkdcankaaGreatDoor
set_option maxRecDepth 100000
namespace HpL
open Go.RowKit Base BinM HpM HpA HpS HpB HpG HpP HpT HpZ HpR HpQ HpE HpF HpI HpJ
theorem za0 (K : Nat) (s : List UInt8) (h : s.length ≤ 8 * K) : qz (K + 1) s = qz K s ++ [0] := by
 unfold qz
 rw [List.range_succ, List.map_append]
 congr 1
 simp only [List.map_cons, List.map_nil]
 rw [List.drop_of_length_le h]
 simp [leN, sg, IntKind.wrap_i64]
theorem zi7 (a : Int) (V : List Int) (i : Nat) : (a :: V)[1 + i]? = V[i]? := by rw [Nat.add_comm, List.getElem?_cons_succ]
theorem zf5 (a : Int) (V : List Int) (i : Nat) (x : Int) : (a :: V).set (1 + i) x = a :: V.set i x := by rw [Nat.add_comm, List.set_cons_succ]
theorem zf3 (c k : Nat) (hc : c < 256) : wrap64 (wrap64 (c : Int) * 2 ^ (8 * k)) = sg (c * 256 ^ k) := by rw [Nat.mul_comm 8 k]; exact shl_sg c k hc
section
variable {w : World}
structure Wd (w wr : World) (b c : Nat) (l : List Int) : Prop where
 row : zT wr w.heap.size (.slice (some ⟨b, 0, none⟩) l.length c) l
 bel : Below w.heap.size w wr
theorem Wd.set {wr : World} {b c : Nat} {l : List Int} (h : Wd w wr b c l) (k : Nat) (x : Int) : Wd w (wr.setCell ⟨b, k, none⟩ (.int .i64 x)).drew b c (l.set k x) := by
 obtain ⟨h1, h2⟩ := h
 have hb := (h1.lt b rfl).1
 have h := HpF.uQ h1 k x
 exact ⟨ze h (fun _ _ => rfl), (h2.setCell (by show w.heap.size ≤ b; omega) _).drew⟩
set_option maxHeartbeats 4000000 in
theorem yt (s : List UInt8) (hs : s.length ≤ 100000) : Calls Tryz.prog 130 #[.string ⟨s.toArray⟩] w fun e w' => ∃ b c, e = .returned (.slice (some ⟨b, 0, none⟩) ((s.length + 7) / 8 + 1) c) ∧ Wd w w' b c ((s.length : Int) :: pack s) := by
 have hss : (⟨s.toArray⟩ : ByteArray).size = s.length := by show s.toArray.size = _; simp
 obtain ⟨i0, hi, hz, hz1, hz2⟩ := info_parts Qv
 have I0 := zH hi
 have I1 := zH hz
 have I2 := zH hz1
 have I3 := zH hz2
 clear hi hz hz1 hz2
 have W0 := zH (show Wd w (w.alloc (.cells #[.int .i64 (s.length : Int)] 2)) w.heap.size 1 ((s.length : Int) :: qz ((0 + 7) / 8) (s.take 0)) from ⟨by
  unfold zT
  exact ⟨rfl, .inr ⟨w.heap.size, 1, #[.int .i64 (s.length : Int)], rfl, Nat.le_refl _, heap_alloc_new w _, Nat.le_refl _, by simp [maxLen], rfl, rfl⟩⟩, (Below.refl _ _).alloc (Nat.le_refl _) _⟩)
 go_enter Tryz.func130, Tryz.ntmps130
 go_wp2
 go_loopw [3, 4] (fun v i wr => ∃ j b c : Nat, j ≤ s.length ∧ i = .int .i64 j ∧ v = .slice (some ⟨b, 0, none⟩) ((j + 7) / 8 + 1) c ∧ Wd w wr b c ((s.length : Int) :: qz ((j + 7) / 8) (s.take j))) (fun _ i _ => s.length - (intOf i).toNat)
 case atStart => exact ⟨0, w.heap.size, 1, Nat.zero_le _, rfl, rfl, W0.out⟩
 case round =>
  obtain ⟨j, b, c, hj, rfl, rfl, hW⟩ := hrel
  have HW := zH hW
  have hlen : ((s.length : Int) :: qz ((j + 7) / 8) (s.take j)).length = (j + 7) / 8 + 1 := by rw [List.length_cons, qM]
  have HL := zH hlen
  by_cases hlt : j < s.length
  · have hj1 : (j : Int) < (s.length : Int) := by omega
    obtain ⟨old, ho, hstep⟩ := vG (j / 8 + 1) s j hlt (by omega)
    have HO := zH ho
    have HST := zH hstep
    have hK' := zH (show (j + 1 + 7) / 8 = j / 8 + 1 by omega)
    clear ho hstep hlen
    by_cases h8 : j % 8 = 0
    · have h8i : ((j : Int) % 8) = 0 := by omega
      have hq : (j + 7) / 8 = j / 8 := by omega
      rw [hq] at hW HL HW ⊢
      have hmore := za0 (j / 8) (s.take j) (by simp; omega)
      have HM := zH hmore
      have hsz := hW.bel.size
      clear hW hmore
      go_wp2_with (at_builtin
                   refine wpList_append_lies _ rfl (.tmp 17) (.tmp 18) 27 rfl w.heap.size 2 i0 _ 1 8 Tryz.underlying27 I0.out I1.out I2.out I3.out rfl (by omega) (.slice (some ⟨b, 0, none⟩) (j / 8 + 1) c) (j / 8 + 1) (((s.length : Int) :: qz (j / 8) (s.take j)).map (Value.int .i64)) rfl (by have h := World.ownsRow.alloc HW.out.row (.cells #[.int .i64 0] 2); rw [HL.out] at h; exact h) ⟨wr.heap.size, 0, none⟩ 1 1 [.int .i64 0] rfl rfl (World.news_of_block (cs := #[.int .i64 0]) (t := 2) (fr := (0, 0)) (alloc_at _ _ rfl)) (by simp [Value.oneCell']) (by omega) (by unfold maxLen; omega) (by omega) (by simp; omega) _ rfl ?_
                   intro b5 c5 w5 hown5 hg5 hat5 hlt5
                   have hb5 : Below w.heap.size w w5 := zC (HW.out.bel.alloc hsz (.cells #[.int .i64 0] 2)) (World.ownsRow.alloc HW.out.row (.cells #[.int .i64 0] 2)) (Nat.le_refl _) (by simp; omega) hg5
                   have W5 := zH (show Wd w w5 b5 c5 ((s.length : Int) :: qz (j / 8 + 1) (s.take j)) from ⟨by rw [HM.out]; unfold zT; rw [← List.cons_append, List.length_append, List.map_append, HL.out]; exact hown5, hb5⟩)
                   clear hown5 hg5 hat5 hb5)
      have hcl := Zq W5.out.row ((zi7 (s.length : Int) (qz (j / 8 + 1) (s.take j)) (j / 8)).trans HO.out)
      have hfr := Qk W5.out.row (1 + j / 8)
      rw [Nat.add_comm] at hcl hfr
      have hat := fun h' => Jh j hlt h'
      go_region
      go_wp2_with fail
      go_roundw
      case rel =>
       have h := W5.out.set (1 + j / 8) (bits .or .i64 old (sg (s[j].toNat * 256 ^ (j % 8))))
       rw [zf5, ← HST.out, Nat.add_comm 1] at h
       have hv : wrap64 (wrap64 (s[j].toNat : Int)) = sg (s[j].toNat * 256 ^ (j % 8)) := by
        have h9 := zf3 s[j].toNat 0 s[j].toNat_lt
        rw [h8]
        simpa using h9
       refine ⟨j + 1, b5, c5, by omega, by go_num, by rw [hK'.out], ?_⟩
       rw [hK'.out, hv]
       exact h
      case measure => simp [intOf]; omega
    · have h8i : ¬ ((j : Int) % 8) = 0 := by omega
      have h8b : (((j : Int) % 8) == 0) = false := by simpa using h8i
      have hq : (j + 7) / 8 = j / 8 + 1 := by omega
      rw [hq] at hW HL HW ⊢
      have hcl := Zq HW.out.row ((zi7 (s.length : Int) (qz (j / 8 + 1) (s.take j)) (j / 8)).trans HO.out)
      have hfr := Qk HW.out.row (1 + j / 8)
      rw [Nat.add_comm] at hcl hfr
      have hat := fun h' => Jh j hlt h'
      clear hW
      go_wp2_with fail
      go_region
      go_wp2_with fail
      go_roundw
      case rel =>
       have h := HW.out.set (1 + j / 8) (bits .or .i64 old (sg (s[j].toNat * 256 ^ (j % 8))))
       rw [zf5, ← HST.out, Nat.add_comm 1] at h
       have hv : wrap64 (wrap64 (s[j].toNat : Int) * 2 ^ (8 * (j % 8))) = sg (s[j].toNat * 256 ^ (j % 8)) := zf3 _ _ s[j].toNat_lt
       refine ⟨j + 1, b, c, by omega, by go_num, by rw [hK'.out], ?_⟩
       rw [hK'.out]
       rw [← hv] at h
       exact h
      case measure => simp [intOf]; omega
  · have hj1 : ¬ (j : Int) < (s.length : Int) := by omega
    obtain rfl : j = s.length := by omega
    rw [List.take_length] at HW
    clear hW hlen
    go_wp2_with fail
    go_ret
    exact ⟨b, c, rfl, HW.out⟩
theorem rtext_any {r : Nat} {AL : Option Addr} {cL most : Nat} {ms : List ThM} (H : RfX w r AL cL most ms) (hb : (raw (things ms)).length ≤ most) (hm : most ≤ 4096) (hn : ms.length ≤ 4000) (id : Int) (s : List UInt8) (hs : s.length ≤ 140737488355328) :
 Calls Tryz.prog 77 #[.pointer (some ⟨r, 0, none⟩), .int .i64 id, .string ⟨s.toArray⟩] w (Zj w (Z6 r AL ms) r most ms (Zr most (raw (things ms)).length id (1 + (((s.length + 7) / 8 : Nat) : Int))) ⟨id.toNat, (s.length : Int) :: pack s, 0⟩) := by
 have hss : (⟨s.toArray⟩ : ByteArray).size = s.length := by show s.toArray.size = _; simp
 by_cases hid : id < 0 ∨ 65535 < id
 · have hE : Zr most (raw (things ms)).length id (1 + (((s.length + 7) / 8 : Nat) : Int)) = 2 := by unfold Zr; rw [if_pos (by omega)]
   rw [hE]
   have hfin : Hid (Zj w (Z6 r AL ms) r most ms 2 ⟨id.toNat, (s.length : Int) :: pack s, 0⟩ (.returned (.tuple #[.int .i64 0, .int .i64 2])) w) := zH (.inl ⟨by omega, rfl, Below.refl _ _⟩)
   clear H hE
   by_cases h1 : id < 0
   · go_enter Tryz.func77, Tryz.ntmps77
     go_wp2
     go_ret2
     exact hfin.out
   · have h2 : 65535 < id := by omega
     go_enter Tryz.func77, Tryz.ntmps77
     go_wp2
     go_ret2
     exact hfin.out
 · have h1 : ¬ id < 0 := by omega
   have h2 : ¬ 65535 < id := by omega
   by_cases hl : 32768 < s.length
   · have hE : Zr most (raw (things ms)).length id (1 + (((s.length + 7) / 8 : Nat) : Int)) = 17 := by unfold Zr; rw [if_neg (by omega), if_pos (by omega)]
     rw [hE]
     have hfin : Hid (Zj w (Z6 r AL ms) r most ms 17 ⟨id.toNat, (s.length : Int) :: pack s, 0⟩ (.returned (.tuple #[.int .i64 0, .int .i64 17])) w) := zH (.inl ⟨by omega, rfl, Below.refl _ _⟩)
     have hl1 : (32768 : Int) < (s.length : Int) := by omega
     clear H hE hid
     go_enter Tryz.func77, Tryz.ntmps77
     go_wp2
     go_ret2
     exact hfin.out
   · have hl1 : ¬ (32768 : Int) < (s.length : Int) := by omega
     have HW := zH (yt (w := w) s (by omega))
     have hpl : ((s.length : Int) :: pack s).length = (s.length + 7) / 8 + 1 := by rw [List.length_cons, JK]
     have HP := zH (fun (w1 : World) (b c : Nat) (h : Wd w w1 b c ((s.length : Int) :: pack s)) => by
      have h9 := YJ (A := some ⟨b, 0, none⟩) (c := c) (H.beside h.bel) hb hm hn id ((s.length : Int) :: pack s) (Qz h.row) (by rw [hpl]; omega)
      rw [hpl, show (((s.length + 7) / 8 + 1 : Nat) : Int) = 1 + (((s.length + 7) / 8 : Nat) : Int) by omega] at h9
      exact h9.mono (R' := Zj w (Z6 r AL ms) r most ms (Zr most (raw (things ms)).length id (1 + (((s.length + 7) / 8 : Nat) : Int))) ⟨id.toNat, (s.length : Int) :: pack s, 0⟩) (fun e w' h' => Zj.pre h.bel h'))
     clear H hpl hid
     generalize hEE : Zr most (raw (things ms)).length id (1 + (((s.length + 7) / 8 : Nat) : Int)) = E at *
     clear hEE
     go_enter Tryz.func77, Tryz.ntmps77
     go_wp2_with fail
     refine HW.out.mono ?_
     rintro e w1 ⟨b, c, rfl, hw⟩
     have HP1 := zH (HP.out w1 b c hw)
     clear hw
     go_wp2_with fail
     refine HP1.out.mono ?_
     intro e w' h
     have H := zH h
     rcases h with ⟨_, rfl, _⟩ | ⟨_, rfl, _⟩
     all_goals
      go_wp2_with fail
      go_ret2
      exact H.out
end
end HpL
namespace HpY
open Go.RowKit Base BinM HpM HpA HpS HpB HpG HpP HpT
section
variable {w : World} {g mb : Nat} {Aw : Option Addr} {cw : Nat} {Aa : Option Addr} {ca most : Nat} {ws al : List Int} {n : Nat} {f : Int → Option Int}
theorem KU : (Tryz.prog.info? 5).map (fun i => (i.zero, i.size, i.bytes)) = some (some (.int .u8 0), 1, 1) := by kernel_rfl
end
end HpY
namespace HpO
open Go.RowKit Base BinM HpM HpA HpS HpB HpG HpP HpT HpY HpZ HpR HpQ HpE HpF HpI HpJ HpL
section
variable {w : World} {r : Nat} {AL : Option Addr} {cL most : Nat} {ms : List ThM}
end
end HpO
namespace HpU
open Go.RowKit Base BinM HpM HpA HpS HpB HpG HpP HpT HpY HpZ HpR HpQ HpE HpF HpI HpJ HpL HpO
section
variable {w : World} {r : Nat} {AL : Option Addr} {cL most : Nat} {ms : List ThM}
end
end HpU
namespace HpW
open Go.RowKit Base BinM HpM HpA HpS HpB HpG HpP HpT HpY HpZ HpR HpQ HpE HpF HpI HpJ HpL HpO HpU
structure Sim (w0 wr : World) (g mb : Nat) (Aw : Option Addr) (cw : Nat) (Aa : Option Addr) (ca r : Nat) (AL : Option Addr) (cL most : Nat) (ms : List ThM) (n : Nat) (f : Int → Option Int) : Prop where
 hp : HpX wr g mb Aw cw Aa ca most (raw (things ms)) (adr 0 (things ms)) n f
 rf : RfX wr r AL cL most ms
 fits : Fits most (things ms)
 apart : ∀ k, zQ g mb Aw Aa k → ¬ Z6 r AL ms k
 own : ∀ k, zQ g mb Aw Aa k → w0.heap.size ≤ k
 rown : ∀ k, Z6 r AL ms k → w0.heap.size ≤ k
 bel : Below w0.heap.size w0 wr
 sent : ∀ m ∈ ms, f m.at_ = if m.t.s = 0 then none else some m.t.s
 none_ : ∀ a, a ∉ adr 0 (things ms) → f a = none
def Gq (w0 wr : World) (g r most N : Nat) : Prop := ∃ mb Aw cw Aa ca AL cL ms n f, Sim w0 wr g mb Aw cw Aa ca r AL cL most ms n f ∧ ms.length ≤ N ∧ n ≤ N
section
variable {w0 wr w' w1 : World} {g mb : Nat} {Aw : Option Addr} {cw : Nat} {Aa : Option Addr} {ca r : Nat} {AL : Option Addr} {cL most : Nat} {ms : List ThM} {n : Nat} {f : Int → Option Int}
theorem Sim.beside (S : Sim w0 wr g mb Aw cw Aa ca r AL cL most ms n f) (hb : Below wr.heap.size wr w') : Sim w0 w' g mb Aw cw Aa ca r AL cL most ms n f :=
 ⟨S.hp.beside hb, S.rf.beside hb, S.fits, S.apart, S.own, S.rown, S.bel.trans (hb.mono S.bel.size), S.sent, S.none_⟩
theorem Gq.beside {N : Nat} (S : Gq w0 wr g r most N) (hb : Below wr.heap.size wr w') : Gq w0 w' g r most N := by
 obtain ⟨a1, a2, a3, a4, a5, a6, a7, a8, a9, a10, S, h⟩ := S
 exact ⟨_, _, _, _, _, _, _, _, _, _, S.beside hb, h⟩
theorem Gq.more {N : Nat} (S : Gq w0 wr g r most N) : Gq w0 wr g r most (N + 1) := by
 obtain ⟨a1, a2, a3, a4, a5, a6, a7, a8, a9, a10, S, h1, h2⟩ := S
 exact ⟨_, _, _, _, _, _, _, _, _, _, S, by omega, by omega⟩
theorem Gq.low {N : Nat} (S : Gq w0 wr g r most N) : Below w0.heap.size w0 wr := by
 obtain ⟨a1, a2, a3, a4, a5, a6, a7, a8, a9, a10, S, _⟩ := S
 exact S.bel
structure Mid (w0 w1 : World) (g mb : Nat) (r : Nat) (AL : Option Addr) (cL most : Nat) (ms : List ThM) (ts' : List Th) (n' : Nat) (f' : Int → Option Int) (X : Option (Nat × Array Value × TypeId)) : Prop where
 ex : ∃ Aw cw Aa ca, HpX w1 g mb Aw cw Aa ca most (raw ts') (adr 0 ts') n' f' ∧ (∀ k, zQ g mb Aw Aa k → ¬ Z6 r AL ms k) ∧ (∀ k, zQ g mb Aw Aa k → w0.heap.size ≤ k)
 rf : RfX w1 r AL cL most ms
 rown : ∀ k, Z6 r AL ms k → w0.heap.size ≤ k
 bel : Below w0.heap.size w0 w1
 box : ∀ b C ty, X = some (b, C, ty) → Bx w1 b C ty
end
end HpW
namespace HpD
open Go.RowKit Base BinM HpM HpA HpS HpB HpG HpP HpT HpY HpZ HpR HpQ HpE HpF HpI HpJ HpL HpO HpU HpW
section
variable {w0 wr w' w1 : World} {g mb : Nat} {Aw : Option Addr} {cw : Nat} {Aa : Option Addr} {ca r : Nat} {AL : Option Addr} {cL most : Nat} {ms : List ThM} {n : Nat} {f : Int → Option Int}
theorem ms_split {ms : List ThM} {x : Int} (h : x ∈ adr 0 (things ms)) : ∃ p m q, ms = p ++ m :: q ∧ x = (((raw (things p)).length + 1 : Nat) : Int) := by
 obtain ⟨P, t, R, h1, h2⟩ := Za h
 rw [Nat.zero_add] at h2
 unfold things at h1
 obtain ⟨p, q', rfl, hp, hq⟩ := List.map_eq_append_iff.1 h1
 obtain ⟨m, q, rfl, _, _⟩ := List.map_eq_cons_iff.1 hq
 exact ⟨p, m, q, rfl, by rw [h2, ← hp]; rfl⟩
end
end HpD
namespace ClX
open Go.RowKit Base BinM HpM HpA HpS HpB HpG HpP HpT HpZ HpR HpQ HpF HpI HpJ HpW HpD
abbrev Box := Nat × Array Value × TypeId
def qO (w0 wr : World) (g r most : Nat) (ts : List Th) (bxs : List Box) : Prop :=
 ∃ mb Aw cw Aa ca AL cL ms f, Sim w0 wr g mb Aw cw Aa ca r AL cL most ms 0 f ∧ things ms = ts ∧ (∀ t ∈ ts, t.s = 0) ∧ ∀ b ∈ bxs, Bx wr b.1 b.2.1 b.2.2 ∧ ¬ zQ g mb Aw Aa b.1 ∧ ¬ Z6 r AL ms b.1
theorem qO.beside {w0 wr w' : World} {g r most : Nat} {ts : List Th} {bxs : List Box} (S : qO w0 wr g r most ts bxs) (hb : Below wr.heap.size wr w') : qO w0 w' g r most ts bxs := by
 obtain ⟨a1, a2, a3, a4, a5, a6, a7, a8, a9, S, h1, h2, h3⟩ := S
 exact ⟨_, _, _, _, _, _, _, _, _, S.beside hb, h1, h2, fun b hm => ⟨(h3 b hm).1.after hb, (h3 b hm).2⟩⟩
theorem qO.alloc {w0 wr : World} {g r most : Nat} {ts : List Th} {bxs : List Box} (S : qO w0 wr g r most ts bxs) (C : Array Value) (ty : TypeId) : qO w0 (wr.alloc (.cells C ty)) g r most ts ((wr.heap.size, C, ty) :: bxs) := by
 have hb : Below wr.heap.size wr (wr.alloc (.cells C ty)) := (Below.refl _ _).alloc (Nat.le_refl _) _
 obtain ⟨a1, a2, a3, a4, a5, a6, a7, a8, a9, S, h1, h2, h3⟩ := S
 refine ⟨_, _, _, _, _, _, _, _, _, S.beside hb, h1, h2, fun b' hm => ?_⟩
 rcases List.mem_cons.1 hm with rfl | hm
 · exact ⟨Bx.new wr C ty, fun h => Nat.lt_irrefl _ (S.hp.lt h), fun h => Nat.lt_irrefl _ (S.rf.lt h)⟩
 · exact ⟨(h3 b' hm).1.after hb, (h3 b' hm).2⟩
theorem xL {w0 wr : World} {g r most : Nat} {ts : List Th} {bxs : List Box} (S : qO w0 wr g r most ts bxs) {E : Int} {t : Th} (hts : t.s = 0) {fn rn : Nat} {args rargs : Array Value}
 (HP : ∀ mb Aw cw Aa ca f, HpX wr g mb Aw cw Aa ca most (raw ts) (adr 0 ts) 0 f → Fits most ts → Calls Tryz.prog fn args wr (XY wr (zQ g mb Aw Aa) g mb most ts 0 f E t))
 (HR : ∀ w1 AL cL ms, RfX w1 r AL cL most ms → things ms = ts → Fits most ts → Calls Tryz.prog rn rargs w1 (Zj w1 (Z6 r AL ms) r most ms E t)) :
 Calls Tryz.prog fn args wr fun e w1 => (∃ a b : Int, e = .returned (.tuple #[.int .i64 a, .int .i64 b])) ∧ (∀ b ∈ bxs, Bx w1 b.1 b.2.1 b.2.2) ∧ ∀ w1', Below w1.heap.size w1 w1' → Calls Tryz.prog rn rargs w1' fun e w2 => (∃ a b : Int, e = .returned (.tuple #[.int .i64 a, .int .i64 b])) ∧ qO w0 w2 g r most (if E = 0 then ts ++ [t] else ts) bxs := by
 obtain ⟨mb, Aw, cw, Aa, ca, AL, cL, ms, f, S, rfl, h2, h3⟩ := S
 refine (HP _ _ _ _ _ _ S.hp S.fits).mono ?_
 rintro e w1 (⟨h4, rfl, h5⟩ | ⟨h4, rfl, ⟨B, c, B2, c2, X, Tn, hf⟩, h6⟩)
 · refine ⟨⟨_, _, rfl⟩, fun b hm => (h3 b hm).1.after h5, fun w1' hb' => (HR w1' _ _ _ ((S.rf.beside h5).beside hb') rfl S.fits).mono ?_⟩
   rintro e w2 (⟨k1, rfl, k3⟩ | ⟨k1, _⟩)
   · refine ⟨⟨_, _, rfl⟩, ?_⟩
     rw [if_neg h4]
     exact ⟨_, _, _, _, _, _, _, _, _, ((S.beside h5).beside hb').beside k3, rfl, h2, fun b hm => ⟨(((h3 b hm).1.after h5).after hb').after k3, (h3 b hm).2⟩⟩
   · exact absurd k1 h4
 · have hbx0 : ∀ b ∈ bxs, Bx w1 b.1 b.2.1 b.2.2 := fun b hm => (Tn.block _ (h3 b hm).1.lt (h3 b hm).2.1).trans (h3 b hm).1
   refine ⟨⟨_, _, rfl⟩, hbx0, fun w1' hb' => ?_⟩
   replace X := X.beside hb'
   replace Tn := Tn.trans (Turned.of_below (F := zQ g mb Aw Aa) hb') (fun _ h => .inl h)
   have hrf := S.rf.aside (fun k hk => Tn.block k (S.rf.lt hk) (fun hh => S.apart k hh hk))
   have hbx : ∀ b ∈ bxs, Bx w1' b.1 b.2.1 b.2.2 := fun b hm => (Tn.block _ (h3 b hm).1.lt (h3 b hm).2.1).trans (h3 b hm).1
   refine (HR w1' _ _ _ hrf rfl S.fits).mono ?_
   rintro e w2 (⟨k1, _⟩ | ⟨_, rfl, m, hm, ⟨AL', cL', p1, p2, p3⟩⟩)
   · exact absurd h4 k1
   · refine ⟨⟨_, _, rfl⟩, ?_⟩
     rw [if_pos h4]
     have hnew : (((raw (things ms)).length + 1 : Nat) : Int) ∉ adr 0 (things ms) := fun h => by
      have := (QO (things ms) 0 _ h).2
      omega
     have hat : m.at_ = (((raw (things ms)).length + 1 : Nat) : Int) := zd2 (p := ms) (m := m) (q := []) p1.ats
     have hap : ∀ k, zQ g mb B B2 k → ¬ Z6 r AL ms k := fun k hk hr => by
      rcases hf k hk with h | h
      · exact S.apart k h hr
      · have := S.rf.lt hr; omega
     have hth : things (ms ++ [m]) = things ms ++ [t] := by rw [Xm, hm]
     rw [← hth] at X h6 ⊢
     refine ⟨mb, B, c, B2, c2, AL', cL', ms ++ [m], f, ⟨X.aside (fun k hk => p2.block k (X.lt hk) (hap k hk)), p1, h6, fun k hk hr => ?_, fun k hk => ?_, fun k hk => ?_, ?_, fun u hu => ?_, fun a ha => ?_⟩, rfl, fun u hu => ?_, fun b hb => ⟨(p2.block _ (hbx b hb).lt (h3 b hb).2.2).trans (hbx b hb), fun h => ?_, fun h => ?_⟩⟩
     · rcases p3 k hr with h | h
       · exact hap k hk h
       · have := X.lt hk; omega
     · rcases hf k hk with h | h
       · exact S.own k h
       · have := S.bel.size; omega
     · rcases p3 k hk with h | h
       · exact S.rown k h
       · have h7 := S.bel.size
         have h8 := Tn.size
         omega
     · have b1 := S.bel.trans (Tn.below S.own S.bel.size)
       exact b1.trans (p2.below S.rown b1.size)
     · rw [List.mem_append, List.mem_singleton] at hu
       rcases hu with hu | rfl
       · exact S.sent u hu
       · rw [hm, if_pos hts, hat]
         exact S.none_ _ hnew
     · refine S.none_ a (fun h => ha ?_)
       rw [hth, y7]
       exact List.mem_append_left _ h
     · rw [hth, List.mem_append, List.mem_singleton] at hu
       rcases hu with hu | rfl
       · exact h2 u hu
       · exact hts
     · rcases hf _ h with h | h
       · exact (h3 b hb).2.1 h
       · have := (h3 b hb).1.lt; omega
     · rcases p3 _ h with h | h
       · exact (h3 b hb).2.2 h
       · have h7 := (h3 b hb).1.lt
         have h8 := Tn.size
         omega
def yS : Nat → List Th → Int → Int → Int → List Th
 | _, [], _, _, _ => []
 | k, t :: r, x, i, v => if x = ((k + 1 : Nat) : Int) then (if 0 ≤ i ∧ i < (t.W.length : Int) then jT t i.toNat v else t) :: r else t :: yS (k + (1 + t.W.length)) r x i v
theorem zf6 (x i v : Int) : ∀ (ts : List Th) (k : Nat), x ∉ adr k ts → yS k ts x i v = ts
 | [], k, _ => rfl
 | t :: r, k, h => by
   rw [adr, List.mem_cons] at h
   rw [yS, if_neg (fun e => h (.inl e)), zf6 x i v r _ (fun e => h (.inr e))]
theorem K4 (i v : Int) (t : Th) (r : List Th) : ∀ (p : List Th) (k : Nat), yS k (p ++ t :: r) ((k + (raw p).length + 1 : Nat) : Int) i v = p ++ (if 0 ≤ i ∧ i < (t.W.length : Int) then jT t i.toNat v else t) :: r
 | [], k => by
   have : (raw ([] : List Th)).length = 0 := by simp [raw]
   rw [this, List.nil_append, yS, if_pos (by omega)]
   rfl
 | u :: p, k => by
   have hl : (raw (u :: p)).length = 1 + u.W.length + (raw p).length := by simp [raw, Zd]
   rw [List.cons_append, yS, if_neg (by rw [hl]; omega), hl, show k + (1 + u.W.length + (raw p).length) + 1 = k + (1 + u.W.length) + (raw p).length + 1 by omega, K4 i v t r p]
   rfl
theorem jS {w0 wr : World} {g r most : Nat} {ts : List Th} {bxs : List Box} (S : qO w0 wr g r most ts bxs) (hlen : ts.length ≤ 4000) (x i v : Int) (hv : zo v) :
 Calls Tryz.prog 41 #[.pointer (some ⟨g, 0, none⟩), .int .i64 x, .int .i64 i, .int .i64 v] wr fun e w1 => (∃ a : Int, e = .returned (.int .i64 a)) ∧ (∀ b ∈ bxs, Bx w1 b.1 b.2.1 b.2.2) ∧ Below w0.heap.size w0 w1 ∧ Calls Tryz.prog 42 #[.pointer (some ⟨r, 0, none⟩), .int .i64 x, .int .i64 i, .int .i64 v] w1 fun e w2 => (∃ a : Int, e = .returned (.int .i64 a)) ∧ qO w0 w2 g r most (yS 0 ts x i v) bxs := by
 obtain ⟨mb, Aw, cw, Aa, ca, AL, cL, ms, f, S, rfl, h2, h3⟩ := S
 have hml : ms.length ≤ 4000 := by unfold things at hlen; simpa using hlen
 by_cases hin : x ∈ adr 0 (things ms)
 · obtain ⟨p, m, q, rfl, rfl⟩ := ms_split hin
   have hsg := K4 i v m.t (things q) (things p) 0
   rw [← Q7, Nat.zero_add] at hsg
   have hat := zd2 S.rf.ats
   have hp := S.hp
   have hF := S.fits
   rw [Q7] at hp hF
   have HP := zf4 hp hF i v
   have hWl : m.t.W.length ≤ 4096 := by
    have := hF.len
    have := hF.top
    rw [Z7] at *
    omega
   rw [hsg]
   rw [← hat] at HP ⊢
   by_cases hr : 0 ≤ i ∧ i < (m.t.W.length : Int)
   · rw [if_pos hr]
     refine HP.mono ?_
     rintro e w1 (⟨h1, _⟩ | ⟨_, _, rfl, ⟨B, c, B2, c2, X, Tn, hf⟩⟩)
     · exact absurd hr h1
     · have hrf := S.rf.aside (fun k hk => Tn.block k (S.rf.lt hk) (fun hh => S.apart k hh hk))
       have hbx : ∀ b ∈ bxs, Bx w1 b.1 b.2.1 b.2.2 := fun b hm => (Tn.block _ (h3 b hm).1.lt (h3 b hm).2.1).trans (h3 b hm).1
       refine ⟨⟨_, rfl⟩, hbx, S.bel.trans (Tn.below S.own S.bel.size), (uE hrf (by omega) hWl i v).mono ?_⟩
       rintro e w2 (⟨k1, _⟩ | ⟨_, _, rfl, ⟨AL', cL', p1, p2, p3⟩⟩)
       · exact absurd hr k1
       · refine ⟨⟨_, rfl⟩, ?_⟩
         have hap : ∀ k, zQ g mb B B2 k → ¬ Z6 r AL (p ++ m :: q) k := fun k hk hr => by
          rcases hf k hk with h | h
          · exact S.apart k h hr
          · have := S.rf.lt hr; omega
         have hth : things (p ++ Xz m i.toNat v :: q) = things p ++ jT m.t i.toNat v :: things q := Y1 _ _ _ _ _
         have hfs := U8 hF i.toNat hv
         have had := kC (things p) m.t (things q) i.toNat v
         rw [← hth] at X hfs had ⊢
         refine ⟨mb, B, c, B2, c2, AL', cL', p ++ Xz m i.toNat v :: q, f, ⟨X.aside (fun k hk => p2.block k (X.lt hk) (hap k hk)), p1, hfs, fun k hk hr => ?_, fun k hk => ?_, fun k hk => ?_, ?_, fun u hu => ?_, fun a ha => ?_⟩, rfl, fun u hu => ?_, fun b hb => ⟨(p2.block _ (hbx b hb).lt (h3 b hb).2.2).trans (hbx b hb), fun h => ?_, fun h => ?_⟩⟩
         · rcases p3 k hr with h | h
           · exact hap k hk h
           · have := X.lt hk; omega
         · rcases hf k hk with h | h
           · exact S.own k h
           · have := S.bel.size; omega
         · rcases p3 k hk with h | h
           · exact S.rown k h
           · have h7 := S.bel.size
             have h8 := Tn.size
             omega
         · have b1 := S.bel.trans (Tn.below S.own S.bel.size)
           exact b1.trans (p2.below S.rown b1.size)
         · rw [List.mem_append, List.mem_cons] at hu
           rcases hu with hu | rfl | hu
           · exact S.sent u (by simp [hu])
           · exact S.sent m (by simp)
           · exact S.sent u (by simp [hu])
         · refine S.none_ a (fun h => ha ?_)
           rw [had, ← Q7]
           exact h
         · rw [hth, List.mem_append, List.mem_cons] at hu
           rw [Q7] at h2
           rcases hu with hu | rfl | hu
           · exact h2 u (by simp [hu])
           · exact h2 m.t (by simp)
           · exact h2 u (by simp [hu])
         · rcases hf _ h with h | h
           · exact (h3 b hb).2.1 h
           · have := (h3 b hb).1.lt; omega
         · rcases p3 _ h with h | h
           · exact (h3 b hb).2.2 h
           · have h7 := (h3 b hb).1.lt
             have h8 := Tn.size
             omega
   · rw [if_neg hr, ← Q7]
     refine HP.mono ?_
     rintro e w1 (⟨h1, rfl, h4⟩ | ⟨h1, h5, _⟩)
     · have hbx : ∀ b ∈ bxs, Bx w1 b.1 b.2.1 b.2.2 := fun b hm => (h3 b hm).1.after h4
       have S1 := S.beside h4
       refine ⟨⟨_, rfl⟩, hbx, S1.bel, (uE S1.rf (by omega) hWl i v).mono ?_⟩
       rintro e w2 (⟨_, rfl, rfl⟩ | ⟨k1, k2, _⟩)
       · exact ⟨⟨_, rfl⟩, _, _, _, _, _, _, _, _, _, S1, rfl, h2, fun b hm => ⟨hbx b hm, (h3 b hm).2⟩⟩
       · exact absurd ⟨k1, k2⟩ hr
     · exact absurd ⟨h1, h5⟩ hr
 · rw [zf6 x i v _ 0 hin]
   refine (set_no S.hp S.fits x i v hin).mono ?_
   rintro e w1 ⟨rfl, d, rfl⟩
   have h4 := below_drewN wr d
   have hbx : ∀ b ∈ bxs, Bx (wr.drewN d) b.1 b.2.1 b.2.2 := fun b hm => (h3 b hm).1.after h4
   have S1 := S.beside h4
   refine ⟨⟨_, rfl⟩, hbx, S1.bel, (rset_no S1.rf (by omega) x i v hin).mono ?_⟩
   rintro e w2 ⟨rfl, rfl⟩
   exact ⟨⟨_, rfl⟩, _, _, _, _, _, _, _, _, _, S1, rfl, h2, fun b hm => ⟨hbx b hm, (h3 b hm).2⟩⟩
end ClX
end Go.Proofs.YtmkdhdmkdcankaaGreatDoor
