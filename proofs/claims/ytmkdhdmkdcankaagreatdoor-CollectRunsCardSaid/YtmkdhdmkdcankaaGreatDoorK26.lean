/- pieces -/
import Derived.Test.YtmkdhdmkdcankaaGreatDoorK25
import Derived.Test.YtmkdhdmkdcankaaGreatDoorK15
namespace Go.Proofs.YtmkdhdmkdcankaaGreatDoor
set_option maxRecDepth 100000
set_option maxHeartbeats 8000000
namespace TabCs
open Go.RowKit Base BinM Stru DescM DescW DescX DescS DescG DescP DescQ HierS HierT HierM HierC HierD HierN Kls KlsP KlsQ OpenK TabC TabM TabK TabP TabE TabB TabG TabH TabT TabU TabV TabX TabW TabN TabO TabY
structure N0 (w0 wr : World) (A : Option Addr) (cap : Nat) (cs L : List za) : Prop where
 own : wr.ownsRow w0.heap.size 132 5 (.slice A cs.length cap) cs.length (cs.flatMap qF)
 bare : cs.map zy = L.map zy
 each : ∀ y ∈ cs, jC w0.heap.size wr y
 far : ∀ y ∈ cs, ∀ b, OnC y b → some b ≠ (Value.slice A cs.length cap).ownBlock
 bel : Below w0.heap.size w0 wr
theorem N0.start (w : World) : N0 w w none 0 [] [] := ⟨World.ownsRow_nil _ _ _ _, rfl, by simp, by simp, Below.refl _ _⟩
theorem N0.ext {w0 wr w' : World} {A : Option Addr} {cap : Nat} {cs L : List za} (h : N0 w0 wr A cap cs L) (hb : Below wr.heap.size wr w') : N0 w0 w' A cap cs L :=
 ⟨TabM.ze h.own (fun q hq => hb.block q (h.own.lt q hq).2), h.bare, fun y hy => (h.each y hy).below hb, h.far, h.bel.trans (hb.mono h.bel.size)⟩
theorem N0.push {w0 W W2 : World} {A : Option Addr} {cap : Nat} {cs L : List za} (h : N0 w0 W A cap cs L) {x y : za} (hy : jC w0.heap.size W y) (hyf : ∀ b, OnC y b → some b ≠ (Value.slice A cs.length cap).ownBlock) (hxy : zy y = zy x) (v : Value)
 (hF : W2.ownsRow w0.heap.size 132 5 v (cs.length + 1) ((cs ++ [y]).flatMap qF)) (hg : W.grownBy W2 (Value.slice A cs.length cap).ownBlock) (hat : v.ownBlock = (Value.slice A cs.length cap).ownBlock ∨ v.ownBlock = some W.heap.size) :
 ∃ A' cap', v = .slice A' (cs ++ [y]).length cap' ∧ N0 w0 W2 A' cap' (cs ++ [y]) (L ++ [x]) := by
 obtain ⟨A', cap', rfl, _, _, _, _⟩ := zi hF
 have hsz2 := hg.size
 have hl : (cs ++ [y]).length = cs.length + 1 := by simp
 refine ⟨A', cap', by rw [hl], by rw [hl]; exact hF, ?_, ?_, ?_, zC h.bel h.own (Nat.le_refl _) h.bel.size hg⟩
 · rw [List.map_append, List.map_append, h.bare, List.map_cons, List.map_cons, hxy]
 · intro z hz
   rcases List.mem_append.1 hz with hz | hz
   · exact (h.each z hz).same hsz2 (fun b hb => hg.block b ((h.each z hz).on b hb).2 (h.far z hz b hb))
   · simp at hz; subst hz; exact hy.same hsz2 (fun b hb => hg.block b (hy.on b hb).2 (hyf b hb))
 · intro z hz b hb
   rw [hl]
   have hold : jC w0.heap.size W z ∧ some b ≠ (Value.slice A cs.length cap).ownBlock := by
    rcases List.mem_append.1 hz with hz | hz
    · exact ⟨h.each z hz, h.far z hz b hb⟩
    · simp at hz; subst hz; exact ⟨hy, hyf b hb⟩
   rcases hat with e | e
   · rw [e]; exact hold.2
   · rw [e]
     have := (hold.1.on b hb).2
     intro e2
     injection e2 with e2
     omega
theorem appCl {ops : Array Oper} {rest : List Oper} {o : Oper} {a : Act} {w : World} {Q : Exit → Act → World → Prop} (hgd : o.guard = none) (s x : Operand)
 (ho : o.op = .call { callee := .builtin .append, args := #[s, x], argTypes := #[74, 74] })
 (base : Nat) (v : Value) (p : List za) (hs : a.eval s = v) (hown : w.ownsRow base 132 5 v p.length (p.flatMap qF)) (g c : Nat) (y : za) (hx : a.eval x = .slice (some ⟨g, 0, none⟩) 1 c)
 (hr : Rds w (some ⟨g, 0, none⟩) (qF y)) (hlen : p.length ≤ 100000) (hbase : base ≤ w.heap.size)
 (h : ∀ v' w', w'.ownsRow base 132 5 v' (p.length + 1) ((p ++ [y]).flatMap qF) → w.grownBy w' v.ownBlock → (v'.ownBlock = v.ownBlock ∨ v'.ownBlock = some w.heap.size) → wpList Tryz.prog ops Q rest (a.put o.dst v') w') : wpList Tryz.prog ops Q (o :: rest) a w := by
 obtain ⟨i0, hi, hz, hs1, hb1⟩ := info_parts TabO.zi1
 refine wpList_plain hgd fun K hK => ?_
 obtain ⟨v', w', hrun, h2, h3, _, h5⟩ := run_append_own_at (P := Tryz.prog) w base 74 o.type 132 i0 _ 5 104 Tryz.underlying74 hi hz hs1 hb1 rfl (by omega) v p.length (p.flatMap qF) hown ⟨g, 0, none⟩ 1 c (qF y) rfl
  (by intro j u hu
      rcases hr with h0 | ⟨b, o', hA, _, hc⟩
      · rw [h0] at hu; simp at hu
      · injection hA with hA
        rw [hA, Addr.add_mid]
        exact hc j u hu)
  (by intro u hu; unfold qF at hu; simp at hu; rcases hu with rfl | rfl | rfl | rfl | rfl <;> rfl) (by unfold maxLen; omega) (by omega) hbase
 unfold Oper.wp execOp
 simp only [ho, resolve, invoke, builtin, Sem.run_bind, Sem.run_pure, Result.andThen_ok, List.map_toArray, List.map_cons, List.map_nil, hs, hx, hrun]
 refine hK _ _ (h v' w' ?_ h3 h5)
 rw [List.flatMap_append]
 simpa using h2
def Short (L : List za) : Prop := ∀ x ∈ L, x.consts.length ≤ 10000 ∧ x.fields.length ≤ 10000 ∧ x.meths.length ≤ 10000 ∧ ∀ z ∈ x.meths, z.code.length ≤ 10000 ∧ z.hand.length ≤ 10000
theorem G5 {lo : Nat} {w : World} {t g mb n : Nat} {A : Option Addr} {c : Nat} {h : Hr} {L : List za} {f : T → Option zO} (H : Ta lo w t g mb n A c h L f) (hml : L.length ≤ 10000) (hsh : Short L) :
 Calls Tryz.prog 69 #[.pointer (some ⟨t, 0, none⟩)] w fun e w' => ∃ (A' : Option Addr) (c' : Nat) (C : List za), e = .returned (.slice A' C.length c') ∧ Rds w' A' (C.flatMap qF) ∧ (∀ x ∈ C, x.is w') ∧ C.map zy = L.map zy ∧ Below w.heap.size w w' := by
 have HT := zH H
 have HS := zH hsh
 have t1 := H.box.cell 1
 have htl := H.box.lt
 clear H hsh
 go_enter Tryz.func69, Tryz.ntmps69
 go_wp2_with fail
 clear t1 htl
 have M0 := zH (N0.start w)
 go_loopw [3, 13] (fun v i wr => ∃ (j : Nat) (A1 : Option Addr) (cap : Nat) (cs : List za), j ≤ L.length ∧ i = .int .i64 j ∧ v = .slice A1 cs.length cap ∧ cs.length = j ∧ N0 w wr A1 cap cs (L.take j)) (fun _ i _ => L.length - (intOf i).toNat)
 case atStart => exact ⟨0, none, 0, [], Nat.zero_le _, rfl, rfl, rfl, M0.out⟩
 case round =>
  obtain ⟨j, A1, cap, cs, hj, rfl, rfl, hcl, hN⟩ := hrel
  have HN := zH hN
  have HCl := zH hcl
  have hcl2 : cs.length ≤ j := Nat.le_of_eq hcl
  have hbw := hN.bel
  have hsz := hbw.size
  clear hN hcl
  by_cases hlt : j < L.length
  · obtain ⟨b1, o1, hA, hb1, hc0, hc1, hc2, hc3, hc4⟩ := Jw (HT.out.rds.below hbw) hlt
    subst hA
    have hj1 : (j : Int) < (L.length : Int) := by omega
    have hj0 : (0 : Int) ≤ (j : Int) := by omega
    have HTk := zH (show L.take (j + 1) = L.take j ++ [L[j]] from by rw [List.take_succ_eq_append_getElem hlt])
    have hxis := (HT.out.each _ (List.getElem_mem hlt)).below hbw
    have hxs := HS.out _ (List.getElem_mem hlt)
    generalize L[j] = x at *
    have HC := zH ((JX x (wr.alloc (.cells #[.string ⟨x.name.toArray⟩, .string ⟨x.sup.toArray⟩, .slice x.kA x.km x.kc, .slice x.fA x.fm x.fc, .slice x.mA x.mm x.mc] 132)) (hxis.below ((Below.refl _ _).alloc (Nat.le_refl _) _)) hxs.1 hxs.2.1 hxs.2.2.1 hxs.2.2.2).mono (R' := fun e w' => ∃ y : za, e = .returned (.agg #[.string ⟨y.name.toArray⟩, .string ⟨y.sup.toArray⟩, .slice y.kA y.km y.kc, .slice y.fA y.fm y.fc, .slice y.mA y.mm y.mc]) ∧ Ux (wr.alloc (.cells #[.string ⟨x.name.toArray⟩, .string ⟨x.sup.toArray⟩, .slice x.kA x.km x.kc, .slice x.fA x.fm x.fc, .slice x.mA x.mm x.mc] 132)).heap.size w' y ∧ zy y = zy x ∧ Below (wr.alloc (.cells #[.string ⟨x.name.toArray⟩, .string ⟨x.sup.toArray⟩, .slice x.kA x.km x.kc, .slice x.fA x.fm x.fc, .slice x.mA x.mm x.mc] 132)).heap.size (wr.alloc (.cells #[.string ⟨x.name.toArray⟩, .string ⟨x.sup.toArray⟩, .slice x.kA x.km x.kc, .slice x.fA x.fm x.fc, .slice x.mA x.mm x.mc] 132)) w') (fun e w' h => by
     obtain ⟨y, rfl, q1, q2, q3⟩ := h
     exact ⟨y, rfl, q1, zk0 q2, q3⟩))
    simp only [za.V] at HC
    clear hxis hxs hbw
    go_wp2_with fail
    refine HC.out.mono ?_
    rintro e w6 ⟨y, rfl, hy, hxy, hb6⟩
    have hb06 : Below wr.heap.size wr w6 := ((Below.refl _ _).alloc (Nat.le_refl _) _).trans (hb6.mono (by simp))
    have N6 := zH ((HN.out.ext hb06).ext ((Below.refl _ _).alloc (Nat.le_refl _) (.cells #[.string ⟨y.name.toArray⟩, .string ⟨y.sup.toArray⟩, .slice y.kA y.km y.kc, .slice y.fA y.fm y.fc, .slice y.mA y.mm y.mc] 132)))
    have ow : jC wr.heap.size w6 y := (own_of hy).mono (by simp)
    have HY := zH (show jC w.heap.size (w6.alloc (.cells #[.string ⟨y.name.toArray⟩, .string ⟨y.sup.toArray⟩, .slice y.kA y.km y.kc, .slice y.fA y.fm y.fc, .slice y.mA y.mm y.mc] 132)) y from (ow.mono hsz).below ((Below.refl _ _).alloc (Nat.le_refl _) _))
    have HF := zH (show ∀ b, OnC y b → some b ≠ (Value.slice A1 cs.length cap).ownBlock from fun b hb e => by
     have h1 := (ow.on b hb).1
     have h2 := (HN.out.own.lt b e.symm).2
     omega)
    have HXY := zH hxy
    have hs6 := hb06.size
    clear hy hxy hb6 hb06 ow hc0 hc1 hc2 hc3 hc4
    go_wp2_with (at_builtin
                 refine appCl rfl (.tmp 17) (.tmp 20) rfl w.heap.size (.slice A1 cs.length cap) cs rfl N6.out.own w6.heap.size 1 y rfl (Base.qK w6 _ _) (by omega) (by simp; omega) ?_
                 intro v7 w7 hF7 hg7 hat7
                 obtain ⟨A7, c7, rfl, hN7⟩ := N6.out.push HY.out HF.out HXY.out v7 hF7 hg7 hat7
                 have N7 := zH hN7
                 clear hF7 hg7 hat7 hN7)
    go_roundw
    case rel => exact ⟨j + 1, A7, c7, cs ++ [y], by omega, by go_num, by simp, by have := HCl.out; simp [this], by rw [HTk.out]; exact N7.out⟩
    case measure => simp [intOf]; omega
  · have htk : L.take j = L := List.take_of_length_le (by omega)
    rw [htk] at HN
    clear htk hbw
    go_wp2_with fail
    go_ret
    exact ⟨A1, cap, cs, rfl, Rds.qp HN.out.own, fun x hx => (HN.out.each x hx).is, HN.out.bare, HN.out.bel⟩
end TabCs
namespace LnkB
open Go.RowKit Base BinM Stru DescM DescW DescX DescS DescG DescP DescQ HierS HierT HierM HierC HierD HierN Kls KlsP KlsQ OpenK TabC TabM TabK TabP TabE TabB TabG TabH TabT TabU TabV TabX TabW TabN TabO TabY TabCs
theorem new0_any {lo : Nat} {w : World} {t g mb n : Nat} {A : Option Addr} {c : Nat} {h : Hr} {L : List za} {f : T → Option zO} (H : Ta lo w t g mb n A c h L f) (hml : L.length ≤ 10000) (hsh : Short L) (h0 : ∀ x ∈ L, x.meths = []) (y : Nat) :
 Calls Tryz.prog 36 #[.pointer (some ⟨t, 0, none⟩), .pointer (some ⟨y, 0, none⟩)] w fun e w' => ∃ p mb', e = .returned (.tuple #[.pointer (some ⟨p, 0, none⟩), .int .i64 0]) ∧ HpM.Bx w' p #[.pointer (some ⟨y, 0, none⟩), .pointer (some ⟨t, 0, none⟩), .slice none 0 0, .map (some mb')] 154 ∧ Below w.heap.size w w' ∧ w.heap.size ≤ p := by
 have hb : Below w.heap.size w ((w.alloc (.map #[] 0)).alloc (.cells #[.pointer (some ⟨y, 0, none⟩), .pointer (some ⟨t, 0, none⟩), .slice none 0 0, .map (some w.heap.size)] 154)) := ((Below.refl _ _).alloc (Nat.le_refl _) _).alloc (by simp) _
 have HC := zH (G5 (H.ext hb) hml hsh)
 have HP := zH (HpM.Bx.new (w.alloc (.map #[] 0)) #[.pointer (some ⟨y, 0, none⟩), .pointer (some ⟨t, 0, none⟩), .slice none 0 0, .map (some w.heap.size)] 154)
 have hsz1 : (w.alloc (.map #[] 0)).heap.size = w.heap.size + 1 := by simp
 rw [hsz1] at HP
 clear hsz1
 have HB := zH hb
 have H0 := zH h0
 have hmm := @run_makeMap Tryz.prog
 clear H hb hsh h0
 go_enter Tryz.func36, Tryz.ntmps36
 go_wp2_with fail
 clear hmm
 refine HC.out.mono ?_
 rintro e w2 ⟨A', c', C, rfl, hr, his, hbare, hb2⟩
 have HR := zH hr
 have HI := zH his
 have HE := zH hbare
 have HB2 := zH hb2
 have HP2 := zH (HP.out.after hb2)
 have hsz := hb2.size
 have hCl : C.length ≤ 10000 := by have := congrArg List.length hbare; simp at this; omega
 clear hr his hbare hb2
 go_wp2_with fail
 go_loopw [27] (fun i wr => ∃ k : Nat, k ≤ C.length ∧ i = .int .i64 (k : Int) ∧ Below w2.heap.size w2 wr) (fun i _ => C.length - (intOf i).toNat)
 case atStart => exact ⟨0, Nat.zero_le _, rfl, Below.refl _ _⟩
 case round =>
  obtain ⟨k, hk, rfl, hbel⟩ := hrel
  have hszr := hbel.size
  by_cases hlt : k < C.length
  · obtain ⟨b, o, hA, hb1, hc0, hc1, hc2, hc3, hc4⟩ := Jw (HR.out.below hbel) hlt
    subst hA
    have hmz : C[k].mm = 0 := by
     obtain ⟨k', hk', he⟩ := xA HE.out (List.getElem_mem hlt)
     have h1 := (HI.out _ (List.getElem_mem hlt)).meths.len
     have h2 : (C[k]).meths.map JY = k'.meths.map JY := by
      have := congrArg za.meths he
      exact this
     rw [H0.out k' hk', List.map_nil, List.map_eq_nil_iff] at h2
     rw [h1, h2]; rfl
    rw [hmz] at hc4
    have Hbel := zH hbel
    clear hbel hmz
    go_wp2_with fail
    go_loop [34] (fun i => i = .int .i64 0) (fun _ => 0)
    case atStart => rfl
    case round =>
     subst hrel
     go_wp2_with fail
     go_roundw
     case rel => exact ⟨k + 1, by omega, by go_num, Hbel.out.alloc hszr _⟩
     case measure => simp [intOf]; omega
  · have Hb := zH ((HB.out.trans (HB2.out.mono HB.out.size)).trans (hbel.mono (by have := HB.out.size; omega)))
    have HF := zH (HP2.out.after hbel)
    clear hbel
    go_wp2_with fail
    go_ret2
    exact ⟨_, _, rfl, HF.out, Hb.out, by simp⟩
end LnkB
end Go.Proofs.YtmkdhdmkdcankaaGreatDoor
