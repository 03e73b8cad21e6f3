/- pieces -/
import Derived.Test.YtehainbhoflpnaaGreatDoorK24
namespace Go.Proofs.YtehainbhoflpnaaGreatDoor
namespace TabR
open Go.RowKit Base BinM Stru DescM DescW DescX DescR DescS DescG DescP DescQ HierS HierT HierM HierC HierD HierN HierV HierR HierU Kls KlsP KlsQ OpenK TabC TabM TabK TabP TabE TabB TabG TabH TabT TabU TabV TabX TabW TabF TabN TabO TabY TabI
def lenOf : Value → Nat
 | .string s => s.size
 | _ => 0
theorem zq7 (d : T) (k : Nat) (hk : k < d.length) : (ByteArray.mk (d.drop k).toArray).extract 1 (d.drop k).length = ⟨(d.drop (k + 1)).toArray⟩ := by
 rw [ext, List.take_of_length_le (by simp; omega), List.drop_drop]
set_option maxRecDepth 100000 in
set_option maxHeartbeats 2000000 in
theorem QL (B g : Nat) (l : List P2) (d : T) (w : World) (H : IsR B w g (jE l)) (hl : d.length ≤ 140737488355328) :
 Calls Tryz.prog 59 #[.pointer (some ⟨g, 0, none⟩), .string ⟨d.toArray⟩] w fun e w' => e = .returned (.bool ((mk l).known d)) ∧ w = w' := by
 have HR0 := zH (zP d w hl)
 cases hR : zI d
 · have Hfin := zH (show (mk l).known d = false by unfold Hr.known; rw [hR]; rfl)
   rw [hR] at HR0
   clear hR hl H
   go_enter Tryz.func59, Tryz.ntmps59
   go_wp2_with (go_at_call 94; refine HR0.out.mono ?_; rintro e w' ⟨rfl, rfl⟩)
   go_ret
   exact ⟨BinName.ze (by rw [Hfin.out]), rfl⟩
 · rw [hR] at HR0
   have hp : brk d < d.length := by
    rcases Nat.lt_or_ge (brk d) d.length with h | h
    · exact h
    · exfalso
      rw [Yd, List.drop_of_length_le h] at hR
      simp [Yy] at hR
   have hdl : (d.drop (brk d)).length ≤ 140737488355328 := by rw [List.length_drop]; omega
   have HC := zH (Za (d.drop (brk d)) w hdl)
   have Hfin := zH (show (mk l).known d = (!(zq (d.drop (brk d))).2 || (mk l).has (zq (d.drop (brk d))).1) by unfold Hr.known; rw [hR]; rfl)
   have HH := zH (fun c => yt B g (jE l) c w H)
   clear hR H hdl
   generalize hb : brk d = b at *
   have Hb := zH hb
   clear hb
   go_enter Tryz.func59, Tryz.ntmps59
   go_wp2_with (go_at_call 94; refine HR0.out.mono ?_; rintro e w' ⟨rfl, rfl⟩)
   go_loop [1] (fun v => ∃ k : Nat, k ≤ b ∧ v = .string ⟨(d.drop k).toArray⟩) (fun v => lenOf v)
   case atStart => exact ⟨0, Nat.zero_le _, rfl⟩
   case round =>
    obtain ⟨k, hk, rfl⟩ := hrel
    have hkl : k < d.length := by omega
    have h0 : 0 < (d.drop k).length := by rw [List.length_drop]; omega
    have hx0 := fun h' => xA 0 h0 h'
    have he0 : (d.drop k)[0] = d[k] := by simp
    have hdl : (d.drop k).length ≤ 140737488355328 := by rw [List.length_drop]; omega
    by_cases hkb : k < b
    · have hx91 : (((d.drop k)[0].toNat : Int) == 91) = true := by rw [he0, xZ d k hkl (by rw [Hb.out]; exact hkb)]; rfl
      have h1 := zq7 d k hkl
      have hm1 : (d.drop (k + 1)).length < (d.drop k).length := by rw [List.length_drop, List.length_drop]; omega
      generalize hd1 : d.drop (k + 1) = d1 at *
      have Hd1 := zH hd1
      generalize d.drop k = dk at *
      clear he0 hd1
      go_wp2_with fail
      go_round
      case rel => exact ⟨k + 1, by omega, by rw [Hd1.out]⟩
      case measure =>
       show d1.toArray.size < dk.toArray.size
       simpa using hm1
    · obtain rfl : k = b := by omega
      have hstop : ((d.drop k)[0].toNat : Int) ≠ 91 := by
       rw [he0]
       have h1 := Jv d (by rw [Hb.out]; exact hkl)
       intro he
       apply h1
       have : d[brk d]'(by rw [Hb.out]; exact hkl) = d[k] := by congr 1
       rw [this]
       exact UInt8.toNat_inj.1 (by show d[k].toNat = 91; omega)
      have hx91 : (((d.drop k)[0].toNat : Int) == 91) = false := by rw [beq_eq_false_iff_ne]; exact hstop
      clear he0 hstop
      generalize d.drop k = dk at *
      generalize zq dk = C at *
      obtain ⟨c, ok⟩ := C
      unfold J7 at HC
      simp only at Hfin HC
      have HH1 := zH (by have := HH.out c; rw [YR] at this; exact this)
      cases ok
      · go_wp2_with (go_at_call 56; refine HC.out.mono ?_; rintro e w' ⟨rfl, rfl⟩)
        go_ret
        exact ⟨BinName.ze (by rw [Hfin.out]; rfl), rfl⟩
      · go_wp2_with (first | (go_at_call 56; refine HC.out.mono ?_; rintro e w' ⟨rfl, rfl⟩) | (go_at_call 57; refine HH1.out.mono ?_; rintro e w' ⟨rfl, rfl⟩))
        go_ret
        exact ⟨BinName.ze (by rw [Hfin.out]; rfl), rfl⟩
structure RT (lo : Nat) (w : World) (r g : Nat) (A : Option Addr) (c : Nat) (ps : List P2) (L : List zf) : Prop where
 box : Bx w r #[.pointer (some ⟨g, 0, none⟩), .slice A L.length c] 117
 hier : IsR lo w g (jE ps)
 base : lo ≤ w.heap.size
 rds : Rds w A (L.flatMap jB)
 each : ∀ x ∈ L, x.is w
theorem RT.ext {lo : Nat} {w w' : World} {r g : Nat} {A : Option Addr} {c : Nat} {ps : List P2} {L : List zf} (H : RT lo w r g A c ps L) (hb : Below w.heap.size w w') : RT lo w' r g A c ps L :=
 ⟨H.box.after hb, H.hier.below (hb.mono H.base), Nat.le_trans H.base hb.size, H.rds.below hb, fun x hx => (H.each x hx).below hb⟩
set_option maxRecDepth 100000 in
set_option maxHeartbeats 4000000 in
theorem jP {lo : Nat} {w : World} {r g : Nat} {A : Option Addr} {c : Nat} {ps : List P2} {L : List zf} (H : RT lo w r g A c ps L) (hml : L.length ≤ 100000) (q : T) :
 Calls Tryz.prog 44 #[.pointer (some ⟨r, 0, none⟩), .string ⟨q.toArray⟩] w fun e w' => e = .returned (.tuple #[(ZR q L).V, .bool (L.find? (named q)).isSome]) ∧ Below w.heap.size w w' := by
 have hb0 := (Below.refl w.heap.size w).alloc (Nat.le_refl _) (.cells #[.string ⟨#[]⟩, .string ⟨#[]⟩, .slice none 0 0, .slice none 0 0, .slice none 0 0] 81)
 have HT := zH (H.ext hb0)
 have HB := zH hb0
 have HR := zH (Bx.new w #[.string ⟨#[]⟩, .string ⟨#[]⟩, .slice none 0 0, .slice none 0 0, .slice none 0 0] 81)
 clear H hb0
 go_enter Tryz.func44, Tryz.ntmps44
 go_wp2_with fail
 generalize (w.alloc (.cells #[.string ⟨#[]⟩, .string ⟨#[]⟩, .slice none 0 0, .slice none 0 0, .slice none 0 0] 81)) = W1 at *
 have b1 := HT.out.box.cell 1
 have hgl := HT.out.box.lt
 have f0 := HR.out.free 0
 have f1 := HR.out.free 1
 have f2 := HR.out.free 2
 have f3 := HR.out.free 3
 have f4 := HR.out.free 4
 have r0 := HR.out.cell 0
 have r1 := HR.out.cell 1
 have r2 := HR.out.cell 2
 have r3 := HR.out.cell 3
 have r4 := HR.out.cell 4
 have Hr := zH HT.out.rds
 go_loopw [6] (fun i wr => ∃ j : Nat, j ≤ L.length ∧ i = .int .i64 j ∧ (∀ x ∈ L.take j, named q x = false) ∧ W1 = wr) (fun i _ => L.length - (intOf i).toNat)
 case atStart => exact ⟨0, Nat.zero_le _, rfl, by simp, rfl⟩
 case round =>
  obtain ⟨j, hj, rfl, hno, rfl⟩ := hrel
  have Hno := zH hno
  clear hno
  by_cases hlt : j < L.length
  · obtain ⟨b, o, hA, hb1, hc0, hc1, hc2, hc3, hc4⟩ := Yp Hr.out hlt
    subst hA
    have hj1 : (j : Int) < (L.length : Int) := by omega
    have hj0 : (0 : Int) ≤ (j : Int) := by omega
    have Hat := zH (fun he => zd9 hlt Hno.out he)
    have Hnext := zH (fun he => uR hlt Hno.out he)
    generalize L[j] = x at *
    obtain ⟨x0, x1, x2, x3, x4, x5, x6, x7, x8, x9, x10, x11, x12, x13⟩ := x
    simp only at hc0 hc1 hc2 hc3 hc4
    cases hq : (x0 == q)
    · have Hq := zH (Hnext.out (show named q _ = false from hq))
      go_wp2_with fail
      go_roundw
      case rel => exact ⟨j + 1, by omega, by go_num, Hq.out, trivial⟩
      case measure => simp [intOf]; omega
    · have Hq := zH (Hat.out (show named q _ = true from hq))
      have HE := zH (show Ending.returned (.tuple #[.agg #[.string ⟨x0.toArray⟩, .string ⟨x1.toArray⟩, .slice x2 x3 x4, .slice x5 x6 x7, .slice x8 x9 x10], .bool true]) = Ending.returned (.tuple #[(ZR q L).V, .bool (L.find? (named q)).isSome]) from by unfold ZR; rw [Hq.out]; rfl)
      go_wp2_with fail
      have HW := zt3 HR.out (.string ⟨x0.toArray⟩) (.string ⟨x1.toArray⟩) (.slice x2 x3 x4) (.slice x5 x6 x7) (.slice x8 x9 x10)
      exact bodyPost_ret (v := .tuple #[.agg #[.string ⟨x0.toArray⟩, .string ⟨x1.toArray⟩, .slice x2 x3 x4, .slice x5 x6 x7, .slice x8 x9 x10], .bool true]) (zX Tryz.results44 _ _ _ _ rfl (run_loadVar_row _ _ _ _ #[.string ⟨x0.toArray⟩, .string ⟨x1.toArray⟩, .slice x2 x3 x4, .slice x5 x6 x7, .slice x8 x9 x10] (0, 0) _ HW Tryz.underlying81 rfl Jc)) rfl ⟨HE.out, vN HB.out (Nat.le_refl _) _ _ _ _ _⟩
  · have hn := xM (q := q) (l := L) (by have := Hno.out; rw [List.take_of_length_le (by omega)] at this; exact this)
    have HE := zH (show Ending.returned (.tuple #[.agg #[.string ⟨#[]⟩, .string ⟨#[]⟩, .slice none 0 0, .slice none 0 0, .slice none 0 0], .bool false]) = Ending.returned (.tuple #[(ZR q L).V, .bool (L.find? (named q)).isSome]) from by unfold ZR; rw [hn]; rfl)
    clear hn
    go_wp2_with fail
    have HW := zt3 HR.out (.string ⟨#[]⟩) (.string ⟨#[]⟩) (.slice none 0 0) (.slice none 0 0) (.slice none 0 0)
    exact bodyPost_ret (v := .tuple #[.agg #[.string ⟨#[]⟩, .string ⟨#[]⟩, .slice none 0 0, .slice none 0 0, .slice none 0 0], .bool false]) (zX Tryz.results44 _ _ _ _ rfl (run_loadVar_row _ _ _ _ #[.string ⟨#[]⟩, .string ⟨#[]⟩, .slice none 0 0, .slice none 0 0, .slice none 0 0] (0, 0) _ HW Tryz.underlying81 rfl Jc)) rfl ⟨HE.out, vN HB.out (Nat.le_refl _) _ _ _ _ _⟩
theorem zz8 (l : List ZA) : ∀ u ∈ l.flatMap ZA.vals, u.oneCell' = true := by
 intro u hu
 obtain ⟨x, _, hx⟩ := List.mem_flatMap.1 hu
 unfold ZA.vals at hx
 simp at hx
 rcases hx with rfl | rfl <;> rfl
theorem Zb8 (l : List ZA) : (l.flatMap ZA.vals).length = l.length * 2 := Z7 ZA.vals 2 (fun _ => rfl) l
set_option maxRecDepth 100000 in
theorem Zi0 {ops : Array Oper} {rest : List Oper} {o : Oper} {a : Act} {w : World} {Q : Exit → Act → World → Prop} (hgd : o.guard = none) (s x : Operand)
 (ho : o.op = .call { callee := .builtin .append, args := #[s, x], argTypes := #[78, 78] })
 (base : Nat) (v : Value) (p : List ZA) (hs : a.eval s = v) (hown : zx5 w base v p) (A : Option Addr) (m c : Nat) (l : List ZA) (hx : a.eval x = .slice A m c)
 (hm : m = l.length) (hr : Rds w A (l.flatMap ZA.vals)) (hlen : p.length + l.length ≤ 1048576) (hbase : base ≤ w.heap.size)
 (h : ∀ v' w', zx5 w' base v' (p ++ l) → w.grownBy w' v.ownBlock → wpList Tryz.prog ops Q rest (a.put o.dst v') w') : wpList Tryz.prog ops Q (o :: rest) a w := by
 obtain ⟨i0, hi, hz, hs1, hb1⟩ := info_parts zs5
 refine zZ hgd s x 78 ho base 125 i0 _ 2 32 Tryz.underlying78 hi hz hs1 hb1 rfl (by omega) v p.length (p.flatMap ZA.vals) hs hown A m c (l.flatMap ZA.vals) hx (by rw [Zb8, hm]) hr (zz8 l) (by unfold maxLen; omega) (by omega) hbase ?_
 intro v' w' h1 h2
 refine h v' w' ?_ h2
 unfold zx5
 rw [List.length_append, List.flatMap_append, ← hm]
 exact h1
theorem zr6 {L : List zf} {q : T} {k : zf} (h : hav L q = (qZ (hav L k.sup).1 k, qC (hav L k.sup).2 k)) : (hav L q).1.map YW = (hav L k.sup).1.map YW ++ k.fields := by
 rw [h]
 show (((hav L k.sup).1 ++ k.fields.map (Xq k.name)).map YW) = _
 rw [List.map_append, List.map_map]
 congr 1
 conv => rhs; rw [← List.map_id k.fields]
 rfl
def Xd (L : List zf) (q : T) (w : World) (e : Ending) (w' : World) : Prop := ∃ v, e = .returned v ∧ zx5 w' w.heap.size v ((hav L q).1.map YW) ∧ Below w.heap.size w w'
set_option maxRecDepth 100000 in
set_option maxHeartbeats 4000000 in
theorem JF {lo : Nat} {w : World} {r g : Nat} {A : Option Addr} {c : Nat} {ps : List P2} {L : List zf} (H : RT lo w r g A c ps L) (hml : L.length ≤ 100000) (q : T) (hk : L.find? (named q) = none) :
 Calls Tryz.prog 97 #[.pointer (some ⟨r, 0, none⟩), .string ⟨q.toArray⟩] w (Xd L q w) := by
 have HC := zH (jP H hml q)
 rw [show ZR q L = noC from by unfold ZR; rw [hk]; rfl, hk] at HC
 have HZ := zH (jM hk)
 clear H hk
 go_enter Tryz.func97, Tryz.ntmps97
 go_wp2_with fail
 refine HC.out.mono ?_
 rintro e w1 ⟨rfl, hb1⟩
 simp only [zf.V, noC]
 have B1 := zH hb1
 clear hb1
 go_wp2_with fail
 go_ret
 exact ⟨_, rfl, by rw [HZ.out]; exact World.ownsRow_nil _ _ _ _, B1.out.alloc B1.out.size _⟩
set_option maxRecDepth 100000 in
set_option maxHeartbeats 4000000 in
theorem Vz {lo : Nat} {w : World} {r g : Nat} {A : Option Addr} {c : Nat} {ps : List P2} {L : List zf} (H : RT lo w r g A c ps L) (hml : L.length ≤ 100000) (hfew : ∀ k ∈ L, k.fields.length ≤ 16 ∧ k.meths.length ≤ 32) (q : T) (k : zf) (hk : L.find? (named q) = some k) (hhav : hav L q = (qZ (hav L k.sup).1 k, qC (hav L k.sup).2 k))
 (ih : ∀ W, RT lo W r g A c ps L → Calls Tryz.prog 97 #[.pointer (some ⟨r, 0, none⟩), .string ⟨k.sup.toArray⟩] W (Xd L k.sup W)) :
 Calls Tryz.prog 97 #[.pointer (some ⟨r, 0, none⟩), .string ⟨q.toArray⟩] w (Xd L q w) := by
 have HC := zH (jP H hml q)
 rw [show ZR q L = k from by unfold ZR; rw [hk]; rfl, hk] at HC
 have HT := zH (fun W (hb : Below w.heap.size w W) => H.ext hb)
 have HLy := zH (zr6 hhav)
 have hmem := List.mem_of_find?_eq_some hk
 have HF := zH (fun W (hb : Below w.heap.size w W) => ((H.ext hb).each k hmem).fields)
 have hfl := (hfew k hmem).1
 have hl5 := (yO hfew k.sup).1
 have HI := zH ih
 clear H hk hhav ih hfew hmem
 go_enter Tryz.func97, Tryz.ntmps97
 go_wp2_with fail
 refine HC.out.mono ?_
 rintro e w1 ⟨rfl, hb1⟩
 simp only [zf.V, Option.isSome_some]
 have B1 := zH hb1
 have B2 := zH (hb1.alloc hb1.size (.cells #[.string ⟨k.name.toArray⟩, .string ⟨k.sup.toArray⟩, .slice k.kA k.km k.kc, .slice k.fA k.fm k.fc, .slice k.mA k.mm k.mc] 81))
 have C2 := zH (Bx.new w1 #[.string ⟨k.name.toArray⟩, .string ⟨k.sup.toArray⟩, .slice k.kA k.km k.kc, .slice k.fA k.fm k.fc, .slice k.mA k.mm k.mc] 81)
 clear hb1
 go_wp2_with fail
 refine (HI.out _ (HT.out _ B2.out)).mono ?_
 rintro e w3 ⟨v3, rfl, ho3, hb3⟩
 have B3 := zH (B2.out.trans (hb3.mono B2.out.size))
 have C3 := zH (C2.out.after hb3)
 have hlo : w.heap.size ≤ (w1.alloc (.cells #[.string ⟨k.name.toArray⟩, .string ⟨k.sup.toArray⟩, .slice k.kA k.km k.kc, .slice k.fA k.fm k.fc, .slice k.mA k.mm k.mc] 81)).heap.size := B2.out.size
 obtain ⟨A3, c3, rfl, _, _, _, _⟩ := zS ho3
 have R3 := zH (Rds.qU ho3)
 have HN := zH (show zx5 w3 w3.heap.size (.slice none 0 0) [] from World.ownsRow_nil _ _ _ _)
 generalize hls : (hav L k.sup).1.map YW = ls at *
 have hll : ls.length ≤ 5000 := by rw [← hls]; simp; omega
 have Z3 := zH (Below.refl w3.heap.size w3)
 clear hb3 ho3 hls
 go_wp2_with (first
  | (at_builtin; refine Zi0 rfl (.tmp 16) (.tmp 20) rfl w3.heap.size _ [] rfl HN.out A3 ls.length c3 ls rfl rfl R3.out (by simp; omega) (Nat.le_refl _) ?_; intro v4 w4 ho4 hg4; rw [List.nil_append] at ho4; have HO4 := zH ho4; have hb4 := zV Z3.out HN.out (Nat.le_refl _) (Nat.le_refl _) hg4; have HB4 := zH hb4; have C4 := zH (C3.out.after hb4); have x3 := C4.out.cell 3; have xlt := C4.out.lt; clear ho4 hg4 hb4)
  | (at_builtin; refine Zi0 rfl (.tmp 22) (.tmp 24) rfl w3.heap.size _ ls rfl HO4.out k.fA k.fm k.fc k.fields rfl (HF.out _ (B3.out.trans (HB4.out.mono B3.out.size))).len (HF.out _ (B3.out.trans (HB4.out.mono B3.out.size))).rds (by omega) (by have := HB4.out.size; omega) ?_; intro v5 w5 ho5 hg5; have HO5 := zH ho5; have HB5 := zH (zV HB4.out HO4.out (Nat.le_refl _) HB4.out.size hg5); clear ho5 hg5))
 go_ret
 exact ⟨v5, rfl, by rw [HLy.out]; exact Z6 HO5.out B3.out.size, B3.out.trans (HB5.out.mono B3.out.size)⟩
theorem Kt {lo r g : Nat} {A : Option Addr} {c : Nat} {ps : List P2} {L : List zf} {up : T → Option T} (hup : ∀ c k, L.find? (named c) = some k → up c = some k.sup) (hml : L.length ≤ 100000) (hfew : ∀ k ∈ L, k.fields.length ≤ 16 ∧ k.meths.length ≤ 32)
 {q : T} {l : List T} (hw : Zz up q l) : l.length ≤ 41 → ∀ w, RT lo w r g A c ps L → Calls Tryz.prog 97 #[.pointer (some ⟨r, 0, none⟩), .string ⟨q.toArray⟩] w (Xd L q w) := by
 induction hw with
 | @top q hu =>
   intro _ w H
   cases hk : L.find? (named q) with
   | none => exact JF H hml q hk
   | some k => rw [hup q k hk] at hu; cases hu
 | @step q d l hu hw ih =>
   intro hl w H
   cases hk : L.find? (named q) with
   | none => exact JF H hml q hk
   | some k =>
     have e : k.sup = d := by
      have := (hup q k hk).symm.trans hu
      injection this
     have hl2 : l.length ≤ 41 := by simp at hl; omega
     refine Vz H hml hfew q k hk (YQ hup (Zz.step hu hw) hl hk) (fun W HW => ?_)
     rw [e]
     exact ih hl2 W HW
theorem vS (p : zG → Bool) (x : zG) : ∀ l : List zG, Ze p (l ++ [x]) = if Ze p l = -1 then (if p x = true then (l.length : Int) else -1) else Ze p l
 | [] => by
   by_cases h : p x = true <;> simp [Ze, h]
 | y :: r => by
   show Ze p (y :: (r ++ [x])) = _
   unfold Ze
   by_cases h : p y = true
   · rw [if_pos h, if_pos h, if_neg (by omega)]
   · rw [if_neg h, if_neg h, vS p x r]
     by_cases h1 : Ze p r = -1
     · rw [if_pos h1, if_pos h1, if_pos rfl]
       by_cases h2 : p x = true
       · rw [if_pos h2, if_pos h2, if_neg (by omega)]; simp
       · rw [if_neg h2, if_neg h2, if_pos rfl]
     · rw [if_neg h1, if_neg h1]
       rcases qo p r with e | ⟨k, _, e⟩
       · exact absurd e h1
       · rw [if_neg (by omega)]
theorem zk2 {ms : List zG} {n : T} {k : Nat} (hnd : (ms.map zG.name).Nodup) (hk : k < ms.length) : Ze (Zl n) (ms.take (k + 1)) = if ms[k].name == n then (k : Int) else Ze (Zl n) (ms.take k) := by
 rw [List.take_succ_eq_append_getElem hk, vS]
 have hl : (ms.take k).length = k := by rw [List.length_take]; omega
 show (if Ze (Zl n) (ms.take k) = -1 then (if (ms[k].name == n) = true then ((ms.take k).length : Int) else -1) else _) = _
 rcases qo (Zl n) (ms.take k) with e | ⟨j, hj, e⟩
 · rw [if_pos e, e, hl]
 · rw [if_neg (by omega), if_neg]
   intro h
   have h1 := XH hj e
   have h2 := List.find?_some h1
   unfold Zl at h2
   rw [List.getElem_take] at h2
   rw [hl] at hj
   have h3 := List.pairwise_iff_getElem.1 hnd j k (by simp; omega) (by simpa using hk) hj
   apply h3
   rw [List.getElem_map, List.getElem_map, eq_of_beq h2, eq_of_beq h]
theorem GY {l : List zG} {e : zG} (h : (l.map zG.name).Nodup) : ((Qt l e).map zG.name).Nodup := by
 rcases qo (Zl e.name) l with hf | ⟨j, hj, hf⟩
 · rw [X0 hf, List.map_append, List.nodup_append]
   refine ⟨h, by simp, fun a ha b hb => ?_⟩
   simp at hb
   subst hb
   obtain ⟨x, hx, rfl⟩ := List.mem_map.1 ha
   have h1 := YX hf
   rw [List.find?_eq_none] at h1
   intro he
   exact h1 x hx (by unfold Zl; rw [he]; simp)
 · rw [VZ hf, List.map_set]
   have h1 := List.find?_some (XH hj hf)
   unfold Zl at h1
   have : (l.map zG.name).set j e.name = l.map zG.name := by
    rw [← eq_of_beq h1]
    apply List.ext_getElem
    · simp
    · intro i hi hi2
      rw [List.getElem_set]
      split
      · rename_i h5; subst h5; simp
      · rfl
   rw [this]
   exact h
theorem Yn (cn : T) : ∀ (ms : List zO) (l : List zG), (l.map zG.name).Nodup → ((ms.foldl (fun l m => Qt l (JC cn m)) l).map zG.name).Nodup
 | [], _, h => h
 | m :: r, l, h => by rw [List.foldl_cons]; exact Yn cn r _ (GY h)
theorem vL (L : List zf) : ∀ (n : Nat) (c : T), ((gat L n c).2.map zG.name).Nodup
 | 0, _ => by simp [gat]
 | n + 1, c => by
   unfold gat
   cases L.find? (named c) with
   | none => simp
   | some k => exact Yn k.name k.meths _ (vL L n k.sup)
theorem zj9 (L : List zf) (c : T) : ((hav L c).2.map zG.name).Nodup := vL L 41 c
def Xa (w : World) (base : Nat) (v : Value) (l : List zG) : Prop := w.ownsRow base 138 3 v l.length (l.flatMap zG.vals)
theorem zs6 : (Tryz.prog.info? 138).map (fun i => (i.zero, i.size, i.bytes)) = some (some (.agg #[.string ⟨#[]⟩, .string ⟨#[]⟩, .string ⟨#[]⟩]), 3, 48) := by kernel_rfl
theorem zz9 (l : List zG) : ∀ u ∈ l.flatMap zG.vals, u.oneCell' = true := by
 intro u hu
 obtain ⟨x, _, hx⟩ := List.mem_flatMap.1 hu
 unfold zG.vals at hx
 simp at hx
 rcases hx with rfl | rfl | rfl <;> rfl
theorem Zb9 (l : List zG) : (l.flatMap zG.vals).length = l.length * 3 := Z7 zG.vals 3 (fun _ => rfl) l
set_option maxRecDepth 100000 in
theorem Zi1 {ops : Array Oper} {rest : List Oper} {o : Oper} {a : Act} {w : World} {Q : Exit → Act → World → Prop} (hgd : o.guard = none) (s x : Operand)
 (ho : o.op = .call { callee := .builtin .append, args := #[s, x], argTypes := #[172, 172] })
 (base : Nat) (v : Value) (p : List zG) (hs : a.eval s = v) (hown : Xa w base v p) (A : Option Addr) (m c : Nat) (l : List zG) (hx : a.eval x = .slice A m c)
 (hm : m = l.length) (hr : Rds w A (l.flatMap zG.vals)) (hlen : p.length + l.length ≤ 1048576) (hbase : base ≤ w.heap.size)
 (h : ∀ v' w', Xa w' base v' (p ++ l) → w.grownBy w' v.ownBlock → wpList Tryz.prog ops Q rest (a.put o.dst v') w') : wpList Tryz.prog ops Q (o :: rest) a w := by
 obtain ⟨i0, hi, hz, hs1, hb1⟩ := info_parts zs6
 refine zZ hgd s x 172 ho base 138 i0 _ 3 48 Tryz.underlying172 hi hz hs1 hb1 rfl (by omega) v p.length (p.flatMap zG.vals) hs hown A m c (l.flatMap zG.vals) hx (by rw [Zb9, hm]) hr (zz9 l) (by unfold maxLen; omega) (by omega) hbase ?_
 intro v' w' h1 h2
 refine h v' w' ?_ h2
 unfold Xa
 rw [List.length_append, List.flatMap_append, ← hm]
 exact h1
end TabR
end Go.Proofs.YtehainbhoflpnaaGreatDoor
