/- pieces -/
import Derived.Test.YtehainbhoflpnaaGreatDoorK28
namespace Go.Proofs.YtehainbhoflpnaaGreatDoor
namespace TabL
open Go.RowKit Base BinM Stru DescM DescW DescX DescR DescS DescG DescP DescQ HierS HierT HierM HierC HierD HierN HierV HierR HierU HierQ HierY Kls KlsP KlsQ OpenK TabC TabM TabK TabP TabE TabB TabG TabH TabT TabU TabV TabX TabW TabF TabN TabO TabY TabI TabR TabQ TabD TabJ
theorem Zm5 : ∀ p ∈ alw, p.2 = Zc ∨ ∃ q ∈ alw, q.1 = p.2 := by decide
theorem Gi {L : List zf} (hT : (qg (pairs L)).2 = 0) {c s : T} (hf : L.find? (named c) = none) (hu : (mk (pairs L)).up c = some s) : L.find? (named s) = none := by
 cases hk : L.find? (named s) with
 | none => rfl
 | some k =>
   obtain ⟨hkm, hkn⟩ := jK hk
   obtain ⟨h1, h2⟩ := zg1 hT hkm
   exfalso
   have hu' : ((abv (full (pairs L)) c).bind fun i => (nms (full (pairs L)))[i]?) = some s := hu
   unfold abv at hu'
   cases hfa : (full (pairs L)).find? (fun p => p.1 == c) with
   | none => rw [hfa] at hu'; cases hu'
   | some p =>
     rw [hfa] at hu'
     have hpm := List.mem_of_find?_eq_some hfa
     have hpc := List.find?_some hfa
     obtain ⟨_, _, h3⟩ := QG hT
     have hin := jJ _ _ h3 p hpm
     have hu2 : (nms (full (pairs L)))[(nms (full (pairs L))).idxOf p.2]? = some s := hu'
     rw [yN hin] at hu2
     injection hu2 with hu2
     have hpa : p ∈ alw := by
      unfold full at hpm
      rcases List.mem_append.1 hpm with hp | hp
      · exact hp
      · exfalso
        obtain ⟨x, hx, rfl⟩ := List.mem_map.1 hp
        rw [List.find?_eq_none] at hf
        exact hf x hx (by unfold named; exact hpc)
     rcases Zm5 p hpa with e | ⟨q, hq, e⟩
     · exact h2 (by rw [hkn, ← hu2, e])
     · exact h1 q hq (by rw [e, hu2, hkn])
theorem zm5 : ∀ p ∈ alw, p.1.length ≤ 140737488351232 := by decide
theorem zm9 {L : List zf} (hT : (qg (pairs L)).2 = 0) (hC : ∀ x ∈ L, qY x = 0) : Ups (pairs L) L := by
 refine ⟨fun c k hf => za7 hT hf, fun k hk => xk (hC k hk), ?_, fun c hc => ?_, fun c d hf hu => Gi hT hf hu, fun c hc => ?_⟩
 · have := (QG hT).1
   unfold pairs at this
   simpa using this
 · cases hk : L.find? (named c) with
   | none => exact absurd hk hc
   | some k =>
     obtain ⟨h1, h2⟩ := jK hk
     obtain ⟨l, h3, h4⟩ := TabV.ways hT h1
     exact ⟨l, h2 ▸ h3, h4⟩
 · cases hk : L.find? (named c) with
   | none => exact absurd hk hc
   | some k =>
     obtain ⟨h1, h2⟩ := jK hk
     exact h2 ▸ Kc h1
theorem zv5 {L : List zf} (hT : (qg (pairs L)).2 = 0) (hl : ∀ k ∈ L, k.name.length ≤ 140737488351232) : HierQ.Can (pairs L) := by
 obtain ⟨h1, h2, h3⟩ := QG hT
 refine ⟨(Yt hT).1, h2, h3, h1, fun c hc => ?_⟩
 have hm : c ∈ nms (full (pairs L)) := hc
 unfold nms full at hm
 rcases List.mem_cons.1 hm with rfl | hm
 · decide
 · obtain ⟨p, hp, rfl⟩ := List.mem_map.1 hm
   rcases List.mem_append.1 hp with hp | hp
   · have := zm5 p hp; omega
   · obtain ⟨k, hk, rfl⟩ := List.mem_map.1 hp
     have := hl k hk
     show k.name.length ≤ _
     omega
def zg5 (L : List zf) (w : World) (e : Ending) (w' : World) : Prop :=
 Below w.heap.size w w' ∧ (((J6 L).2 = 0 ∧ ∃ (lo r g : Nat) (A : Option Addr) (c : Nat), e = .returned (.tuple #[.pointer (some ⟨r, 0, none⟩), .string ⟨#[]⟩, .int .i64 0]) ∧ RT lo w' r g A c (pairs L) L) ∨
  ((J6 L).2 ≠ 0 ∧ e = .returned (.tuple #[.pointer none, .string ⟨(J6 L).1.toArray⟩, .int .i64 (J6 L).2])))
theorem Yl {L : List zf} {w w' : World} {c : T} {n : Int} (h : J6 L = (c, n)) (hn : n ≠ 0) (hb : Below w.heap.size w w') : zg5 L w (.returned (.tuple #[.pointer none, .string ⟨c.toArray⟩, .int .i64 n])) w' :=
 ⟨hb, .inr ⟨by rw [h]; exact hn, by rw [h]⟩⟩
set_option maxRecDepth 100000 in
set_option maxHeartbeats 16000000 in
theorem uQ (A : Option Addr) (l : List zf) (m c : Nat) (w : World) (hm : m = l.length) (hr : Rds w A (l.flatMap jB)) (his : ∀ x ∈ l, x.is w ∧ zf.lt x) :
 Calls Tryz.prog 18 #[.slice A m c] w (zg5 l w) := by
 have HN := HierY.uQ A (l.map zl9) m c w (by simpa using hm) (by rw [XC]; exact hr) (by
  intro x hx
  obtain ⟨y, hy, rfl⟩ := List.mem_map.1 hx
  have := (his y hy).2.name
  show y.name.length ≤ _
  omega)
 rw [kZ] at HN
 have HN0 := zH HN
 have Hr := zH hr
 have His := zH his
 clear HN hr his
 subst hm
 go_enter Tryz.func18, Tryz.ntmps18
 go_wp2_with fail
 refine HN0.out.mono ?_
 rintro e w1 ⟨hb1, hor⟩
 have B1 := zH hb1
 clear hb1
 rcases hor with ⟨hz, g, rfl, hH⟩ | ⟨hne, rfl⟩
 · have HZ := zH hz
   have HH := zH hH
   have hl32 : l.length ≤ 32 := by have := (QG hz).1; unfold pairs at this; simpa using this
   clear hz hH
   go_wp2_with fail
   have Z1 := zH (Below.refl w1.heap.size w1)
   go_loopw [8] (fun i wr => ∃ j : Nat, j ≤ l.length ∧ i = .int .i64 j ∧ Below w1.heap.size w1 wr ∧ ∀ x ∈ l.take j, qY x = 0) (fun i _ => l.length - (intOf i).toNat)
   case atStart => exact ⟨0, Nat.zero_le _, rfl, Z1.out, by simp⟩
   case round =>
    obtain ⟨j, hj, rfl, hbel, hz0⟩ := hrel
    have HZ0 := zH hz0
    have Hbel := zH hbel
    have hbw := B1.out.trans (hbel.mono B1.out.size)
    have Hbw := zH hbw
    clear hz0
    by_cases hlt : j < l.length
    · obtain ⟨b1, o1, hA, hb1, hc0, hc1, hc2, hc3, hc4⟩ := Yp (Hr.out.below hbw) hlt
      subst hA
      have hj1 : (j : Int) < (l.length : Int) := by omega
      have hj0 : (0 : Int) ≤ (j : Int) := by omega
      have Hwhy := zH (fun hne => za5 (L := l) HZ.out hlt HZ0.out hne)
      have Hnext := zH (fun h0 => yG (e := qY) hlt HZ0.out h0)
      have HRt := zH (KlsX.zP l[j] wr ((His.out _ (List.getElem_mem hlt)).1.below hbw) (His.out _ (List.getElem_mem hlt)).2)
      clear hbw hbel
      generalize hE : qY l[j] = E at *
      clear hE
      generalize l[j] = x at *
      simp only [zf.V] at HRt
      go_wp2_with fail
      refine HRt.out.mono ?_
      rintro e w5 ⟨rfl, hb5⟩
      have B5 := zH (Hbw.out.trans (hb5.mono Hbw.out.size))
      have Z5 := zH (Hbel.out.trans (hb5.mono Hbel.out.size))
      have n0 := (hb5.cell (p := ⟨b1, o1 + j * 5, none⟩) hb1).trans hc0
      clear hb5 hc0 hc1 hc2 hc3 hc4
      by_cases h0 : E = 0
      · subst h0
        go_wp2_with fail
        go_roundw
        case rel => exact ⟨j + 1, by omega, by go_num, Z5.out, Hnext.out trivial⟩
        case measure => simp [intOf]; omega
      · have Hne := zH h0
        have HW := zH (by have := Hwhy.out h0; exact this)
        go_wp2_with fail
        go_quiet (fail)
        go_wp2_with fail
        go_ret3
        exact Yl HW.out Hne.out (Stru.drawn B5.out _)
    · have htk : l.take j = l := List.take_of_length_le (by omega)
      rw [htk] at HZ0
      have HU := zH (zm9 HZ.out HZ0.out)
      have HCan := zH (zv5 HZ.out (fun k hk => (His.out k hk).2.name))
      have hR1 := Hr.out.below hbw
      have hR2 := hR1.below ((Below.refl wr.heap.size wr).alloc (Nat.le_refl _) (.cells #[.pointer (some ⟨g, 0, none⟩), .slice none 0 0] 117))
      have HR2 := zH (show Rds (wr.alloc (.cells #[.pointer (some ⟨g, 0, none⟩), .slice none 0 0] 117)) A ((l.map zl9).flatMap CE.vals) from by rw [XC]; exact hR2)
      have TB := zH (Bx.new wr #[.pointer (some ⟨g, 0, none⟩), .slice none 0 0] 117)
      have B2 := zH (Hbel.out.alloc Hbel.out.size (.cells #[.pointer (some ⟨g, 0, none⟩), .slice none 0 0] 117))
      have hs1 := hbel.size
      clear htk hbel hbw hR1 hR2
      go_wp2_with (at_builtin
                   refine HierN.Zm4 rfl (.tmp 49) (.tmp 50) rfl (wr.heap.size + 1) (.slice none 0 0) [] rfl (Y5.nil _ _) A l.length c (l.map zl9) rfl (by simp) HR2.out (by simp; omega) (by simp) ?_
                   intro v4 w4 ho4 hg4
                   rw [List.nil_append] at ho4
                   obtain ⟨A4, c4, rfl, _, _, _, _⟩ := ho4.slice
                   rw [List.length_map]
                   have TB4 := zH ((hg4.block wr.heap.size TB.out.lt (by simp [Value.ownBlock])).trans TB.out)
                   have B4 := zH (zV B2.out (Y5.nil _ (wr.heap.size + 1)) (by omega) B2.out.size hg4)
                   have HO4 := zH ho4
                   have HO4b := zH (zS ho4)
                   have t1 := (show Bx w4 wr.heap.size #[.pointer (some ⟨g, 0, none⟩), .slice none 0 0] 117 from TB4.out).cell 1
                   have tf := (show Bx w4 wr.heap.size #[.pointer (some ⟨g, 0, none⟩), .slice none 0 0] 117 from TB4.out).free 1
                   clear ho4 hg4)
      have Hrt := zH (show RT w1.heap.size (w4.setCell ⟨wr.heap.size, 1, none⟩ (.slice A4 l.length c4)) wr.heap.size g A4 c4 (pairs l) l from by
       have hB : Below w1.heap.size w1 (w4.setCell ⟨wr.heap.size, 1, none⟩ (.slice A4 l.length c4)) := B4.out.setCell (p := ⟨wr.heap.size, 1, none⟩) hs1 _
       have hset := TabM.zz5 HO4.out (Nat.lt_succ_self wr.heap.size) 1 (.slice A4 l.length c4)
       have hset2 := Rds.qU hset
       rw [XC] at hset2
       refine ⟨?_, HH.out.below hB, hB.size, hset2, fun x hx => (His.out x hx).1.below (B1.out.trans (hB.mono B1.out.size))⟩
       exact (show Bx w4 wr.heap.size #[.pointer (some ⟨g, 0, none⟩), .slice none 0 0] 117 from TB4.out).set 1 (.slice A4 l.length c4))
      have HBW := zH (show Below w.heap.size w (w4.setCell ⟨wr.heap.size, 1, none⟩ (.slice A4 l.length c4)) from
       B1.out.trans ((B4.out.setCell (p := ⟨wr.heap.size, 1, none⟩) hs1 (.slice A4 l.length c4)).mono B1.out.size))
      clear t1 tf TB4 B4 HO4 HO4b TB B2 HR2 hs1
      generalize hW : w4.setCell ⟨wr.heap.size, 1, none⟩ (.slice A4 l.length c4) = W at *
      clear hW
      have Z2 := zH (Below.refl W.heap.size W)
      go_loopw [11] (fun i wq => ∃ j : Nat, j ≤ l.length ∧ i = .int .i64 j ∧ Below W.heap.size W wq ∧ ∀ x ∈ l.take j, qL (mk (pairs l)) l x = 0) (fun i _ => l.length - (intOf i).toNat)
      case atStart => exact ⟨0, Nat.zero_le _, rfl, Z2.out, by simp⟩
      case round =>
       obtain ⟨k, hk, rfl, hbel, hz0⟩ := hrel
       have HF0 := zH hz0
       have Hbe := zH hbel
       have hbw := HBW.out.trans (hbel.mono HBW.out.size)
       have Hbq := zH hbw
       clear hz0
       by_cases hlt : k < l.length
       · obtain ⟨b1, o1, hA, hb1, hc0, hc1, hc2, hc3, hc4⟩ := Yp (Hr.out.below hbw) hlt
         subst hA
         have hk1 : (k : Int) < (l.length : Int) := by omega
         have hk0 : (0 : Int) ≤ (k : Int) := by omega
         have Hwhy := zH (fun hne => za4 (L := l) HZ.out HZ0.out hlt HF0.out hne)
         have Hnext := zH (fun h0 => yG (e := qL (mk (pairs l)) l) hlt HF0.out h0)
         have HRt := zH (G9 (Hrt.out.ext hbel) HU.out HCan.out l[k] ((His.out _ (List.getElem_mem hlt)).1.below hbw) (His.out _ (List.getElem_mem hlt)).2)
         clear hbw hbel
         generalize hE : qL (mk (pairs l)) l l[k] = E at *
         clear hE
         generalize l[k] = x at *
         simp only [zf.V] at HRt
         go_wp2_with fail
         refine HRt.out.mono ?_
         rintro e w5 ⟨rfl, hb5⟩
         have B5 := zH (Hbq.out.trans (hb5.mono Hbq.out.size))
         have Z5 := zH (Hbe.out.trans (hb5.mono Hbe.out.size))
         have n0 := (hb5.cell (p := ⟨b1, o1 + k * 5, none⟩) hb1).trans hc0
         clear hb5 hc0 hc1 hc2 hc3 hc4
         by_cases h0 : E = 0
         · subst h0
           go_wp2_with fail
           go_roundw
           case rel => exact ⟨k + 1, by omega, by go_num, Z5.out, Hnext.out trivial⟩
           case measure => simp [intOf]; omega
         · have Hne := zH h0
           have HW := zH (by have := Hwhy.out h0; exact this)
           go_wp2_with fail
           go_quiet (fail)
           go_wp2_with fail
           go_ret3
           exact Yl HW.out Hne.out (Stru.drawn B5.out _)
       · have htk : l.take k = l := List.take_of_length_le (by omega)
         rw [htk] at HF0
         have HY := zH (za2 HZ.out HZ0.out HF0.out)
         have HE := zH (Hrt.out.ext hbel)
         clear htk hbel hbw
         go_wp2_with fail
         go_ret3
         exact ⟨Hbq.out, .inl ⟨by rw [HY.out], w1.heap.size, _, g, A4, c4, rfl, HE.out⟩⟩
 · have Hne := zH hne
   have HW := zH (kH hne)
   generalize qg (pairs l) = WW at *
   obtain ⟨nm, en⟩ := WW
   simp only at hne
   go_wp2_with fail
   go_ret3
   exact Yl HW.out Hne.out B1.out
end TabL
namespace OpenC
open Go.RowKit Go.ChangeShapes Go.WideShapes Go.Deep Base Stru Opened OpenS OpenG OpenK Kls
section
variable {H : Type} {enc : TypeId × Value → H} {w : World}
end
end OpenC
namespace KndB
open Go.RowKit Base BinM Stru DescM DescW DescX DescS DescG DescP DescQ HierS HierT HierM HierC HierD HierN HierV HierR HierU HierY Kls KlsP KlsQ OpenK TabC TabM TabK TabP TabE TabB TabG TabH TabT TabU TabV TabX TabW TabF TabN TabO TabY TabR TabQ TabL TabZ
def p1 (w : World) : World := (w).alloc (.cells #[.int .i64 34, .int .i64 0] 24)
def p2 (w : World) : World := ((p1 w)).alloc (.cells #[.string ⟨#[114, 117, 110]⟩, .string ⟨#[40, 41, 86]⟩, .int .i64 1, .slice (some ⟨w.heap.size, 0, none⟩) 1 1, .slice none 0 0] 85)
def p3 (w : World) : World := ((p2 w)).alloc (.cells #[.int .i64 6, .int .i64 1, .int .i64 33, .int .i64 0] 24)
def p4 (w : World) : World := ((p3 w)).alloc (.cells #[.string ⟨#[109]⟩, .string ⟨#[40, 73, 41, 73]⟩, .int .i64 2, .slice (some ⟨w.heap.size + 1 + 1, 0, none⟩) 2 2, .slice none 0 0] 85)
def p5 (w : World) : World := ((p4 w)).alloc (.cells #[.string ⟨#[120]⟩, .string ⟨#[73]⟩, .string ⟨#[121]⟩, .string ⟨#[76, 65, 59]⟩] 125)
def p6 (w : World) : World := ((p5 w)).alloc (.cells #[.string ⟨#[109]⟩, .string ⟨#[40, 73, 41, 73]⟩, .int .i64 2, .slice (some ⟨w.heap.size + 1 + 1, 0, none⟩) 2 2, .slice none 0 0] 85)
def p7 (w : World) : World := ((p6 w)).alloc (.cells #[.string ⟨#[114, 117, 110]⟩, .string ⟨#[40, 41, 86]⟩, .int .i64 1, .slice (some ⟨w.heap.size, 0, none⟩) 1 1, .slice none 0 0] 85)
def p8 (w : World) : World := ((p7 w)).alloc (.cells #[.string ⟨#[65]⟩, .string ⟨#[79, 98, 106, 101, 99, 116]⟩, .slice none 0 0, .slice (some ⟨w.heap.size + 1 + 1 + 1 + 1, 0, none⟩) 2 2, .slice (some ⟨w.heap.size + 1 + 1 + 1 + 1 + 1, 0, none⟩) 1 1, .string ⟨#[66]⟩, .string ⟨#[65]⟩, .slice none 0 0, .slice none 0 0, .slice (some ⟨w.heap.size + 1 + 1 + 1 + 1 + 1 + 1, 0, none⟩) 1 1, .string ⟨#[67]⟩, .string ⟨#[65]⟩, .slice none 0 0, .slice none 0 0, .slice none 0 0, .string ⟨#[69]⟩, .string ⟨#[69, 120, 99]⟩, .slice none 0 0, .slice none 0 0, .slice none 0 0] 81)
theorem zc4 (w : World) : (p1 w).heap.size = w.heap.size + 1 := by unfold p1; simp
theorem Vv (w : World) : (p2 w).heap.size = w.heap.size + 1 + 1 := by unfold p2; simp [zc4]
theorem zc3 (w : World) : (p3 w).heap.size = w.heap.size + 1 + 1 + 1 := by unfold p3; simp [Vv]
theorem Vu (w : World) : (p4 w).heap.size = w.heap.size + 1 + 1 + 1 + 1 := by unfold p4; simp [zc3]
theorem Vt (w : World) : (p5 w).heap.size = w.heap.size + 1 + 1 + 1 + 1 + 1 := by unfold p5; simp [Vu]
theorem Vs (w : World) : (p6 w).heap.size = w.heap.size + 1 + 1 + 1 + 1 + 1 + 1 := by unfold p6; simp [Vt]
theorem zc2 (w : World) : (p7 w).heap.size = w.heap.size + 1 + 1 + 1 + 1 + 1 + 1 + 1 := by unfold p7; simp [Vs]
theorem zq1 (w : World) : Below w.heap.size w (p8 w) := by
 have h0 := Below.refl w.heap.size w
 have h1 : Below w.heap.size w (p1 w) := h0.alloc (by omega) _
 have h2 : Below w.heap.size w (p2 w) := h1.alloc (by rw [zc4]; omega) _
 have h3 : Below w.heap.size w (p3 w) := h2.alloc (by rw [Vv]; omega) _
 have h4 : Below w.heap.size w (p4 w) := h3.alloc (by rw [zc3]; omega) _
 have h5 : Below w.heap.size w (p5 w) := h4.alloc (by rw [Vu]; omega) _
 have h6 : Below w.heap.size w (p6 w) := h5.alloc (by rw [Vt]; omega) _
 have h7 : Below w.heap.size w (p7 w) := h6.alloc (by rw [Vs]; omega) _
 have h8 : Below w.heap.size w (p8 w) := h7.alloc (by rw [zc2]; omega) _
 exact h8
theorem Zk2 (w : World) : Bx (p8 w) (w.heap.size) #[.int .i64 34, .int .i64 0] 24 := Zn (Zn (Zn (Zn (Zn (Zn (Zn (vY w #[.int .i64 34, .int .i64 0] 24 (w.heap.size) (rfl)) _) _) _) _) _) _) _
theorem Zk1 (w : World) : Bx (p8 w) (w.heap.size + 1 + 1) #[.int .i64 6, .int .i64 1, .int .i64 33, .int .i64 0] 24 := Zn (Zn (Zn (Zn (Zn (vY (p2 w) #[.int .i64 6, .int .i64 1, .int .i64 33, .int .i64 0] 24 (w.heap.size + 1 + 1) (Vv w)) _) _) _) _) _
theorem Zk0 (w : World) : Bx (p8 w) (w.heap.size + 1 + 1 + 1 + 1) #[.string ⟨#[120]⟩, .string ⟨#[73]⟩, .string ⟨#[121]⟩, .string ⟨#[76, 65, 59]⟩] 125 := Zn (Zn (Zn (vY (p4 w) #[.string ⟨#[120]⟩, .string ⟨#[73]⟩, .string ⟨#[121]⟩, .string ⟨#[76, 65, 59]⟩] 125 (w.heap.size + 1 + 1 + 1 + 1) (Vu w)) _) _) _
theorem Zj9 (w : World) : Bx (p8 w) (w.heap.size + 1 + 1 + 1 + 1 + 1) #[.string ⟨#[109]⟩, .string ⟨#[40, 73, 41, 73]⟩, .int .i64 2, .slice (some ⟨w.heap.size + 1 + 1, 0, none⟩) 2 2, .slice none 0 0] 85 := Zn (Zn (vY (p5 w) #[.string ⟨#[109]⟩, .string ⟨#[40, 73, 41, 73]⟩, .int .i64 2, .slice (some ⟨w.heap.size + 1 + 1, 0, none⟩) 2 2, .slice none 0 0] 85 (w.heap.size + 1 + 1 + 1 + 1 + 1) (Vt w)) _) _
theorem Zj8 (w : World) : Bx (p8 w) (w.heap.size + 1 + 1 + 1 + 1 + 1 + 1) #[.string ⟨#[114, 117, 110]⟩, .string ⟨#[40, 41, 86]⟩, .int .i64 1, .slice (some ⟨w.heap.size, 0, none⟩) 1 1, .slice none 0 0] 85 := Zn (vY (p6 w) #[.string ⟨#[114, 117, 110]⟩, .string ⟨#[40, 41, 86]⟩, .int .i64 1, .slice (some ⟨w.heap.size, 0, none⟩) 1 1, .slice none 0 0] 85 (w.heap.size + 1 + 1 + 1 + 1 + 1 + 1) (Vs w)) _
theorem Zj7 (w : World) : Bx (p8 w) (w.heap.size + 1 + 1 + 1 + 1 + 1 + 1 + 1) #[.string ⟨#[65]⟩, .string ⟨#[79, 98, 106, 101, 99, 116]⟩, .slice none 0 0, .slice (some ⟨w.heap.size + 1 + 1 + 1 + 1, 0, none⟩) 2 2, .slice (some ⟨w.heap.size + 1 + 1 + 1 + 1 + 1, 0, none⟩) 1 1, .string ⟨#[66]⟩, .string ⟨#[65]⟩, .slice none 0 0, .slice none 0 0, .slice (some ⟨w.heap.size + 1 + 1 + 1 + 1 + 1 + 1, 0, none⟩) 1 1, .string ⟨#[67]⟩, .string ⟨#[65]⟩, .slice none 0 0, .slice none 0 0, .slice none 0 0, .string ⟨#[69]⟩, .string ⟨#[69, 120, 99]⟩, .slice none 0 0, .slice none 0 0, .slice none 0 0] 81 := vY (p7 w) #[.string ⟨#[65]⟩, .string ⟨#[79, 98, 106, 101, 99, 116]⟩, .slice none 0 0, .slice (some ⟨w.heap.size + 1 + 1 + 1 + 1, 0, none⟩) 2 2, .slice (some ⟨w.heap.size + 1 + 1 + 1 + 1 + 1, 0, none⟩) 1 1, .string ⟨#[66]⟩, .string ⟨#[65]⟩, .slice none 0 0, .slice none 0 0, .slice (some ⟨w.heap.size + 1 + 1 + 1 + 1 + 1 + 1, 0, none⟩) 1 1, .string ⟨#[67]⟩, .string ⟨#[65]⟩, .slice none 0 0, .slice none 0 0, .slice none 0 0, .string ⟨#[69]⟩, .string ⟨#[69, 120, 99]⟩, .slice none 0 0, .slice none 0 0, .slice none 0 0] 81 (w.heap.size + 1 + 1 + 1 + 1 + 1 + 1 + 1) (zc2 w)
def runM (s : Nat) : zO := ⟨[114, 117, 110], [40, 41, 86], 1, some ⟨s, 0, none⟩, 1, 1, none, 0, 0, [(34, 0)], []⟩
def mM (s : Nat) : zO := ⟨[109], [40, 73, 41, 73], 2, some ⟨s, 0, none⟩, 2, 2, none, 0, 0, [(6, 1), (33, 0)], []⟩
def clA (s f m : Nat) : zf := ⟨[65], [79, 98, 106, 101, 99, 116], none, 0, 0, some ⟨f, 0, none⟩, 2, 2, some ⟨m, 0, none⟩, 1, 1, [], [⟨[120], [73]⟩, ⟨[121], [76, 65, 59]⟩], [mM s]⟩
def clB (s m : Nat) : zf := ⟨[66], [65], none, 0, 0, none, 0, 0, some ⟨m, 0, none⟩, 1, 1, [], [], [runM s]⟩
def clC : zf := ⟨[67], [65], none, 0, 0, none, 0, 0, none, 0, 0, [], [], []⟩
def clE : zf := ⟨[69], [69, 120, 99], none, 0, 0, none, 0, 0, none, 0, 0, [], [], []⟩
def BL (s0 s1 f m0 m1 : Nat) : List zf := [clA s1 f m0, clB s0 m1, clC, clE]
theorem zf8 {W : World} {s : Nat} {c : List InsT} {n : Nat} (hn : n = c.length) (hm : n ≤ 100) (hf : ∀ x ∈ c, ZI x.1 ∧ ZI x.2) (hs : Rds W (some ⟨s, 0, none⟩) (c.flatMap JG)) : JR W (some ⟨s, 0, none⟩) n n c := ⟨hn, Nat.le_refl _, by unfold maxLen; omega, hs, hf⟩
theorem Zh4 {W : World} : Xb W none 0 0 [] := ⟨rfl, Nat.le_refl _, by unfold maxLen; omega, .inl rfl, by simp⟩
theorem zd0 {W : World} : Zq W none 0 0 [] := ⟨rfl, Nat.le_refl _, by unfold maxLen; omega, .inl rfl, by simp⟩
theorem zr0 {W : World} : JQ W none 0 0 [] := ⟨rfl, Nat.le_refl _, by unfold maxLen; omega, .inl rfl⟩
theorem Zh3 {W : World} : yD W none 0 0 [] := ⟨rfl, Nat.le_refl _, by unfold maxLen; omega, .inl rfl, by simp⟩
theorem zf0 {l : List InsT} (h : ∀ x ∈ l, 0 ≤ x.1 ∧ x.1 ≤ 100 ∧ 0 ≤ x.2 ∧ x.2 ≤ 100) : ∀ x ∈ l, ZI x.1 ∧ ZI x.2 := fun x hx => by
 obtain ⟨a, b, c, d⟩ := h x hx
 unfold ZI
 omega
theorem zy4 {W : World} {s : Nat} (hs : Bx W s #[.int .i64 34, .int .i64 0] 24) : (runM s).is W :=
 ⟨by show ZI 1; unfold ZI; omega, zf8 rfl (by simp [runM]) (zf0 (by simp [runM])) (xE hs), Zh4⟩
theorem Zo9 {W : World} {s : Nat} (hs : Bx W s #[.int .i64 6, .int .i64 1, .int .i64 33, .int .i64 0] 24) : (mM s).is W :=
 ⟨by show ZI 2; unfold ZI; omega, zf8 rfl (by simp [mM]) (zf0 (by simp [mM])) (xE hs), Zh4⟩
theorem zy3 (s : Nat) : zO.lt (runM s) := ⟨by simp [runM], by simp [runM], by simp [runM]⟩
theorem Zo8 (s : Nat) : zO.lt (mM s) := ⟨by simp [mM], by simp [mM], by simp [mM]⟩
theorem Zq3 (w : World) : ∀ x ∈ BL (w.heap.size) (w.heap.size + 1 + 1) (w.heap.size + 1 + 1 + 1 + 1) (w.heap.size + 1 + 1 + 1 + 1 + 1) (w.heap.size + 1 + 1 + 1 + 1 + 1 + 1), x.is (p8 w) ∧ zf.lt x := by
 intro x hx
 simp only [BL, List.mem_cons, List.not_mem_nil, or_false] at hx
 rcases hx with rfl | rfl | rfl | rfl
 · refine ⟨⟨zd0, ⟨rfl, Nat.le_refl _, by show 2 ≤ maxLen; unfold maxLen; omega, xE (Zk0 w)⟩, ⟨rfl, Nat.le_refl _, by show 1 ≤ maxLen; unfold maxLen; omega, xE (Zj9 w), ?_⟩⟩, ⟨by simp [clA], by simp [clA], by simp [clA], by simp [clA, ZA.lt], ?_⟩⟩
   · intro y hy
     simp only [clA, List.mem_singleton] at hy
     subst hy
     exact Zo9 (Zk1 w)
   · intro y hy
     simp only [clA, List.mem_singleton] at hy
     subst hy
     exact Zo8 _
 · refine ⟨⟨zd0, zr0, ⟨rfl, Nat.le_refl _, by show 1 ≤ maxLen; unfold maxLen; omega, xE (Zj8 w), ?_⟩⟩, ⟨by simp [clB], by simp [clB], by simp [clB], by simp [clB], ?_⟩⟩
   · intro y hy
     simp only [clB, List.mem_singleton] at hy
     subst hy
     exact zy4 (Zk2 w)
   · intro y hy
     simp only [clB, List.mem_singleton] at hy
     subst hy
     exact zy3 _
 · exact ⟨⟨zd0, zr0, Zh3⟩, ⟨by simp [clC], by simp [clC], by simp [clC], by simp [clC], by simp [clC]⟩⟩
 · exact ⟨⟨zd0, zr0, Zh3⟩, ⟨by simp [clE], by simp [clE], by simp [clE], by simp [clE], by simp [clE]⟩⟩
set_option maxRecDepth 100000 in
theorem Zh1 (s0 s1 f m0 m1 : Nat) : J6 (BL s0 s1 f m0 m1) = ([], 0) := by kernel_rfl
theorem zw3 (w : World) : Calls Tryz.prog 23 #[] w fun e w' => ∃ s0 s1 f m0 m1 g : Nat, e = .returned (.slice (some ⟨g, 0, none⟩) 4 4) ∧ Rds w' (some ⟨g, 0, none⟩) ((BL s0 s1 f m0 m1).flatMap jB) ∧ (∀ x ∈ BL s0 s1 f m0 m1, x.is w' ∧ zf.lt x) ∧ Below w.heap.size w w' := by
 have HB := zH (zq1 w)
 have HI := zH (Zq3 w)
 have HR := zH (xE (Zj7 w))
 go_enter Tryz.func23, Tryz.ntmps23
 go_wp2_with fail
 go_ret
 exact ⟨_, _, _, _, _, _, rfl, HR.out, HI.out, HB.out⟩
def Ux (w : World) (t r : Nat) : Prop := (∃ (lo g mb n : Nat) (A : Option Addr) (c : Nat) (C : List zf) (f : T → Option Zf) (s0 s1 ff m0 m1 : Nat), Ta lo w t g mb n A c (mk (pairs (BL s0 s1 ff m0 m1))) C f ∧ Total C f ∧ C.map zR = (BL s0 s1 ff m0 m1).map zR ∧ (qg (pairs (BL s0 s1 ff m0 m1))).2 = 0 ∧ ∀ x ∈ BL s0 s1 ff m0 m1, qY x = 0) ∧
 ∃ (lo g : Nat) (A : Option Addr) (c : Nat) (s0 s1 ff m0 m1 : Nat), RT lo w r g A c (pairs (BL s0 s1 ff m0 m1)) (BL s0 s1 ff m0 m1)
theorem Ux.ext {w w' : World} {t r : Nat} (h : Ux w t r) (hb : Below w.heap.size w w') : Ux w' t r := by
 obtain ⟨⟨lo, g, mb, n, A, c, C, f, s0, s1, ff, m0, m1, h1, h2⟩, lo', g', A', c', t0, t1, tf, n0, n1, h3⟩ := h
 exact ⟨⟨lo, g, mb, n, A, c, C, f, s0, s1, ff, m0, m1, h1.ext hb, h2⟩, lo', g', A', c', t0, t1, tf, n0, n1, h3.ext hb⟩
set_option maxRecDepth 100000 in
set_option maxHeartbeats 4000000 in
theorem Ka (w : World) (hL : InsA.Laid w) : Calls Tryz.prog 7 #[] w fun e w' => ∃ t r : Nat, e = .returned (.tuple #[.pointer (some ⟨t, 0, none⟩), .pointer (some ⟨r, 0, none⟩), .bool true]) ∧ Ux w' t r ∧ Below w.heap.size w w' := by
 have HB := zH (zw3)
 have HL := zH hL
 clear hL
 go_enter Tryz.func7, Tryz.ntmps7
 go_wp2_with fail
 refine (HB.out _).mono ?_
 rintro e w1 ⟨s0, s1, ff, m0, m1, g1, rfl, r1, i1, hb1⟩
 have B1 := zH hb1
 have HN := zH (TabO.Vx _ _ 4 4 w1 rfl r1 i1 (HL.out.below hb1 HL.out.1))
 clear r1 i1 hb1
 go_wp2_with fail
 refine HN.out.mono ?_
 rintro e w2 ⟨hb2, hor⟩
 have B2 := zH (B1.out.trans (hb2.mono B1.out.size))
 rcases hor with ⟨_, lo, t, g, mb, n, A, c, C, f, rfl, _, hTa, hTot, hbare, hwhy, hz⟩ | ⟨hne, _⟩
 · have HT := zH (And.intro hTa (And.intro hTot (And.intro hbare (And.intro hwhy hz))))
   clear hTa hTot hbare hwhy hz hb2 HN
   go_wp2_with fail
   refine (HB.out _).mono ?_
   rintro e w3 ⟨t0, t1, tf, n0, n1, g3, rfl, r3, i3, hb3⟩
   have B3 := zH (B2.out.trans (hb3.mono B2.out.size))
   have K3 := zH hb3
   have HN := zH (uQ _ _ 4 4 w3 rfl r3 i3)
   clear r3 i3 hb3
   go_wp2_with fail
   refine HN.out.mono ?_
   rintro e w4 ⟨hb4, hor⟩
   have B4 := zH (B3.out.trans (hb4.mono B3.out.size))
   rcases hor with ⟨_, lo', r, g', A', c', rfl, hRT⟩ | ⟨hne, _⟩
   · have HF : Hid (Ux w4 t r) := zH ⟨⟨lo, g, mb, n, A, c, C, f, s0, s1, ff, m0, m1, (HT.out.1.ext K3.out).ext hb4, HT.out.2⟩, lo', g', A', c', t0, t1, tf, n0, n1, hRT⟩
     clear hRT hb4 HN HT
     go_wp2_with fail
     go_ret3
     exact ⟨t, r, rfl, HF.out, B4.out⟩
   · exact absurd (by rw [Zh1]) hne
 · exact absurd (by rw [Zh1]) hne
end KndB
end Go.Proofs.YtehainbhoflpnaaGreatDoor
