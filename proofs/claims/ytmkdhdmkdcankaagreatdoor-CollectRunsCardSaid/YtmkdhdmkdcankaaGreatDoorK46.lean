/- pieces -/
import Derived.Test.YtmkdhdmkdcankaaGreatDoorK45
namespace Go.Proofs.YtmkdhdmkdcankaaGreatDoor
set_option maxRecDepth 100000
namespace TabL
open Go.RowKit Base BinM Stru DescM DescW DescX DescR DescS DescG DescP DescQ HierS HierT HierM HierC HierD HierN HierV HierR HierU HierQ HierY Kls KlsP KlsQ OpenK TabC TabM TabK TabP TabE TabB TabG TabH TabT TabU TabV TabX TabW TabF TabN TabO TabY TabI TabR TabQ TabD TabJ
theorem alw_up : ∀ p ∈ alw, p.2 = zX ∨ ∃ q ∈ alw, q.1 = p.2 := by decide
theorem za2 {L : List za} (hT : (ZA (pairs L)).2 = 0) {c s : T} (hf : L.find? (named c) = none) (hu : (mk (pairs L)).up c = some s) : L.find? (named s) = none := by
 cases hk : L.find? (named s) with
 | none => rfl
 | some k =>
   obtain ⟨hkm, hkn⟩ := jk hk
   obtain ⟨h1, h2⟩ := zk1 hT hkm
   exfalso
   have hu' : ((abv (full (pairs L)) c).bind fun i => (nms (full (pairs L)))[i]?) = some s := hu
   unfold abv at hu'
   cases hfa : (full (pairs L)).find? (fun p => p.1 == c) with
   | none => rw [hfa] at hu'; cases hu'
   | some p =>
     rw [hfa] at hu'
     have hpm := List.mem_of_find?_eq_some hfa
     have hpc := List.find?_some hfa
     obtain ⟨_, _, h3⟩ := Qs hT
     have hin := jh _ _ h3 p hpm
     have hu2 : (nms (full (pairs L)))[(nms (full (pairs L))).idxOf p.2]? = some s := hu'
     rw [yH hin] at hu2
     injection hu2 with hu2
     have hpa : p ∈ alw := by
      unfold full at hpm
      rcases List.mem_append.1 hpm with hp | hp
      · exact hp
      · exfalso
        obtain ⟨x, hx, rfl⟩ := List.mem_map.1 hp
        rw [List.find?_eq_none] at hf
        exact hf x hx (by unfold named; exact hpc)
     rcases alw_up p hpa with e | ⟨q, hq, e⟩
     · exact h2 (by rw [hkn, ← hu2, e])
     · exact h1 q hq (by rw [e, hu2, hkn])
theorem alw_short : ∀ p ∈ alw, p.1.length ≤ 140737488351232 := by decide
theorem ups_of {L : List za} (hT : (ZA (pairs L)).2 = 0) (hC : ∀ x ∈ L, qE x = 0) : Ups (pairs L) L := by
 refine ⟨fun c k hf => ze7 hT hf, fun k hk => yP (hC k hk), ?_, fun c hc => ?_, fun c d hf hu => za2 hT hf hu, fun c hc => ?_⟩
 · have := (Qs hT).1
   unfold pairs at this
   simpa using this
 · cases hk : L.find? (named c) with
   | none => exact absurd hk hc
   | some k =>
     obtain ⟨h1, h2⟩ := jk hk
     obtain ⟨l, h3, h4⟩ := TabV.ways hT h1
     exact ⟨l, h2 ▸ h3, h4⟩
 · cases hk : L.find? (named c) with
   | none => exact absurd hk hc
   | some k =>
     obtain ⟨h1, h2⟩ := jk hk
     exact h2 ▸ Kw h1
theorem can_of {L : List za} (hT : (ZA (pairs L)).2 = 0) (hl : ∀ k ∈ L, k.name.length ≤ 140737488351232) : HierQ.Can (pairs L) := by
 obtain ⟨h1, h2, h3⟩ := Qs hT
 refine ⟨(kQ hT).1, h2, h3, h1, fun c hc => ?_⟩
 have hm : c ∈ nms (full (pairs L)) := hc
 unfold nms full at hm
 rcases List.mem_cons.1 hm with rfl | hm
 · decide
 · obtain ⟨p, hp, rfl⟩ := List.mem_map.1 hm
   rcases List.mem_append.1 hp with hp | hp
   · have := alw_short p hp; omega
   · obtain ⟨k, hk, rfl⟩ := List.mem_map.1 hp
     have := hl k hk
     show k.name.length ≤ _
     omega
def zk5 (L : List za) (w : World) (e : Ending) (w' : World) : Prop :=
 Below w.heap.size w w' ∧ (((jP L).2 = 0 ∧ ∃ (lo r g : Nat) (A : Option Addr) (c : Nat), e = .returned (.tuple #[.pointer (some ⟨r, 0, none⟩), .string ⟨#[]⟩, .int .i64 0]) ∧ RT lo w' r g A c (pairs L) L) ∨
  ((jP L).2 ≠ 0 ∧ e = .returned (.tuple #[.pointer none, .string ⟨(jP L).1.toArray⟩, .int .i64 (jP L).2])))
theorem Yg {L : List za} {w w' : World} {c : T} {n : Int} (h : jP L = (c, n)) (hn : n ≠ 0) (hb : Below w.heap.size w w') : zk5 L w (.returned (.tuple #[.pointer none, .string ⟨c.toArray⟩, .int .i64 n])) w' :=
 ⟨hb, .inr ⟨by rw [h]; exact hn, by rw [h]⟩⟩
set_option maxHeartbeats 16000000 in
theorem uU (A : Option Addr) (l : List za) (m c : Nat) (w : World) (hm : m = l.length) (hr : Rds w A (l.flatMap qF)) (his : ∀ x ∈ l, x.is w ∧ za.lt x) :
 Calls Tryz.prog 33 #[.slice A m c] w (zk5 l w) := by
 have HN := HierY.uU A (l.map ceOf) m c w (by simpa using hm) (by rw [XK]; exact hr) (by
  intro x hx
  obtain ⟨y, hy, rfl⟩ := List.mem_map.1 hx
  have := (his y hy).2.name
  show y.name.length ≤ _
  omega)
 rw [Kr] at HN
 have HN0 := zH HN
 have Hr := zH hr
 have His := zH his
 clear HN hr his
 subst hm
 go_enter Tryz.func33, Tryz.ntmps33
 go_wp2_with fail
 refine HN0.out.mono ?_
 rintro e w1 ⟨hb1, hor⟩
 have B1 := zH hb1
 clear hb1
 rcases hor with ⟨hz, g, rfl, hH⟩ | ⟨hne, rfl⟩
 · have HZ := zH hz
   have HH := zH hH
   have hl32 : l.length ≤ 32 := by have := (Qs hz).1; unfold pairs at this; simpa using this
   clear hz hH
   go_wp2_with fail
   have Z1 := zH (Below.refl w1.heap.size w1)
   go_loopw [8] (fun i wr => ∃ j : Nat, j ≤ l.length ∧ i = .int .i64 j ∧ Below w1.heap.size w1 wr ∧ ∀ x ∈ l.take j, qE x = 0) (fun i _ => l.length - (intOf i).toNat)
   case atStart => exact ⟨0, Nat.zero_le _, rfl, Z1.out, by simp⟩
   case round =>
    obtain ⟨j, hj, rfl, hbel, hz0⟩ := hrel
    have HZ0 := zH hz0
    have Hbel := zH hbel
    have hbw := B1.out.trans (hbel.mono B1.out.size)
    have Hbw := zH hbw
    clear hz0
    by_cases hlt : j < l.length
    · obtain ⟨b1, o1, hA, hb1, hc0, hc1, hc2, hc3, hc4⟩ := Jw (Hr.out.below hbw) hlt
      subst hA
      have hj1 : (j : Int) < (l.length : Int) := by omega
      have hj0 : (0 : Int) ≤ (j : Int) := by omega
      have Hwhy := zH (fun hne => ze5 (L := l) HZ.out hlt HZ0.out hne)
      have Hnext := zH (fun h0 => yj (e := qE) hlt HZ0.out h0)
      have HRt := zH (KlsX.zD l[j] wr ((His.out _ (List.getElem_mem hlt)).1.below hbw) (His.out _ (List.getElem_mem hlt)).2)
      clear hbw hbel
      generalize hE : qE l[j] = E at *
      clear hE
      generalize l[j] = x at *
      simp only [za.V] at HRt
      go_wp2_with fail
      refine HRt.out.mono ?_
      rintro e w5 ⟨rfl, hb5⟩
      have B5 := zH (Hbw.out.trans (hb5.mono Hbw.out.size))
      have Z5 := zH (Hbel.out.trans (hb5.mono Hbel.out.size))
      have n0 := (hb5.cell (p := ⟨b1, o1 + j * 5, none⟩) hb1).trans hc0
      clear hb5 hc0 hc1 hc2 hc3 hc4
      by_cases h0 : E = 0
      · subst h0
        go_wp2_with fail
        go_roundw
        case rel => exact ⟨j + 1, by omega, by go_num, Z5.out, Hnext.out trivial⟩
        case measure => simp [intOf]; omega
      · have Hne := zH h0
        have HW := zH (by have := Hwhy.out h0; exact this)
        go_wp2_with fail
        go_quiet (fail)
        go_wp2_with fail
        go_ret3
        exact Yg HW.out Hne.out (Stru.drawn B5.out _)
    · have htk : l.take j = l := List.take_of_length_le (by omega)
      rw [htk] at HZ0
      have HU := zH (ups_of HZ.out HZ0.out)
      have HCan := zH (can_of HZ.out (fun k hk => (His.out k hk).2.name))
      have hR1 := Hr.out.below hbw
      have hR2 := hR1.below ((Below.refl wr.heap.size wr).alloc (Nat.le_refl _) (.cells #[.pointer (some ⟨g, 0, none⟩), .slice none 0 0] 146))
      have HR2 := zH (show Rds (wr.alloc (.cells #[.pointer (some ⟨g, 0, none⟩), .slice none 0 0] 146)) A ((l.map ceOf).flatMap CE.vals) from by rw [XK]; exact hR2)
      have TB := zH (Bx.new wr #[.pointer (some ⟨g, 0, none⟩), .slice none 0 0] 146)
      have B2 := zH (Hbel.out.alloc Hbel.out.size (.cells #[.pointer (some ⟨g, 0, none⟩), .slice none 0 0] 146))
      have hs1 := hbel.size
      clear htk hbel hbw hR1 hR2
      go_wp2_with (at_builtin
                   refine HierN.appC rfl (.tmp 49) (.tmp 50) rfl (wr.heap.size + 1) (.slice none 0 0) [] rfl (yV.nil _ _) A l.length c (l.map ceOf) rfl (by simp) HR2.out (by simp; omega) (by simp) ?_
                   intro v4 w4 ho4 hg4
                   rw [List.nil_append] at ho4
                   obtain ⟨A4, c4, rfl, _, _, _, _⟩ := ho4.slice
                   rw [List.length_map]
                   have TB4 := zH ((hg4.block wr.heap.size TB.out.lt (by simp [Value.ownBlock])).trans TB.out)
                   have B4 := zH (zC B2.out (yV.nil _ (wr.heap.size + 1)) (by omega) B2.out.size hg4)
                   have HO4 := zH ho4
                   have HO4b := zH (zi ho4)
                   have t1 := (show Bx w4 wr.heap.size #[.pointer (some ⟨g, 0, none⟩), .slice none 0 0] 146 from TB4.out).cell 1
                   have tf := (show Bx w4 wr.heap.size #[.pointer (some ⟨g, 0, none⟩), .slice none 0 0] 146 from TB4.out).free 1
                   clear ho4 hg4)
      have Hrt := zH (show RT w1.heap.size (w4.setCell ⟨wr.heap.size, 1, none⟩ (.slice A4 l.length c4)) wr.heap.size g A4 c4 (pairs l) l from by
       have hB : Below w1.heap.size w1 (w4.setCell ⟨wr.heap.size, 1, none⟩ (.slice A4 l.length c4)) := B4.out.setCell (p := ⟨wr.heap.size, 1, none⟩) hs1 _
       have hset := TabM.own_set HO4.out (Nat.lt_succ_self wr.heap.size) 1 (.slice A4 l.length c4)
       have hset2 := Rds.qp hset
       rw [XK] at hset2
       refine ⟨?_, HH.out.below hB, hB.size, hset2, fun x hx => (His.out x hx).1.below (B1.out.trans (hB.mono B1.out.size))⟩
       exact (show Bx w4 wr.heap.size #[.pointer (some ⟨g, 0, none⟩), .slice none 0 0] 146 from TB4.out).set 1 (.slice A4 l.length c4))
      have HBW := zH (show Below w.heap.size w (w4.setCell ⟨wr.heap.size, 1, none⟩ (.slice A4 l.length c4)) from
       B1.out.trans ((B4.out.setCell (p := ⟨wr.heap.size, 1, none⟩) hs1 (.slice A4 l.length c4)).mono B1.out.size))
      clear t1 tf TB4 B4 HO4 HO4b TB B2 HR2 hs1
      generalize hW : w4.setCell ⟨wr.heap.size, 1, none⟩ (.slice A4 l.length c4) = W at *
      clear hW
      have Z2 := zH (Below.refl W.heap.size W)
      go_loopw [11] (fun i wq => ∃ j : Nat, j ≤ l.length ∧ i = .int .i64 j ∧ Below W.heap.size W wq ∧ ∀ x ∈ l.take j, qw (mk (pairs l)) l x = 0) (fun i _ => l.length - (intOf i).toNat)
      case atStart => exact ⟨0, Nat.zero_le _, rfl, Z2.out, by simp⟩
      case round =>
       obtain ⟨k, hk, rfl, hbel, hz0⟩ := hrel
       have HF0 := zH hz0
       have Hbe := zH hbel
       have hbw := HBW.out.trans (hbel.mono HBW.out.size)
       have Hbq := zH hbw
       clear hz0
       by_cases hlt : k < l.length
       · obtain ⟨b1, o1, hA, hb1, hc0, hc1, hc2, hc3, hc4⟩ := Jw (Hr.out.below hbw) hlt
         subst hA
         have hk1 : (k : Int) < (l.length : Int) := by omega
         have hk0 : (0 : Int) ≤ (k : Int) := by omega
         have Hwhy := zH (fun hne => ze4 (L := l) HZ.out HZ0.out hlt HF0.out hne)
         have Hnext := zH (fun h0 => yj (e := qw (mk (pairs l)) l) hlt HF0.out h0)
         have HRt := zH (GQ (Hrt.out.ext hbel) HU.out HCan.out l[k] ((His.out _ (List.getElem_mem hlt)).1.below hbw) (His.out _ (List.getElem_mem hlt)).2)
         clear hbw hbel
         generalize hE : qw (mk (pairs l)) l l[k] = E at *
         clear hE
         generalize l[k] = x at *
         simp only [za.V] at HRt
         go_wp2_with fail
         refine HRt.out.mono ?_
         rintro e w5 ⟨rfl, hb5⟩
         have B5 := zH (Hbq.out.trans (hb5.mono Hbq.out.size))
         have Z5 := zH (Hbe.out.trans (hb5.mono Hbe.out.size))
         have n0 := (hb5.cell (p := ⟨b1, o1 + k * 5, none⟩) hb1).trans hc0
         clear hb5 hc0 hc1 hc2 hc3 hc4
         by_cases h0 : E = 0
         · subst h0
           go_wp2_with fail
           go_roundw
           case rel => exact ⟨k + 1, by omega, by go_num, Z5.out, Hnext.out trivial⟩
           case measure => simp [intOf]; omega
         · have Hne := zH h0
           have HW := zH (by have := Hwhy.out h0; exact this)
           go_wp2_with fail
           go_quiet (fail)
           go_wp2_with fail
           go_ret3
           exact Yg HW.out Hne.out (Stru.drawn B5.out _)
       · have htk : l.take k = l := List.take_of_length_le (by omega)
         rw [htk] at HF0
         have HY := zH (ze2 HZ.out HZ0.out HF0.out)
         have HE := zH (Hrt.out.ext hbel)
         clear htk hbel hbw
         go_wp2_with fail
         go_ret3
         exact ⟨Hbq.out, .inl ⟨by rw [HY.out], w1.heap.size, _, g, A4, c4, rfl, HE.out⟩⟩
 · have Hne := zH hne
   have HW := zH (kP hne)
   generalize ZA (pairs l) = WW at *
   obtain ⟨nm, en⟩ := WW
   simp only at hne
   go_wp2_with fail
   go_ret3
   exact Yg HW.out Hne.out B1.out
end TabL
namespace ClZ
open Go.RowKit Base BinM Stru DescM DescW DescX DescS DescG DescP DescQ HierS HierT HierM HierC HierD HierN Kls KlsP KlsQ OpenK TabC TabM TabK TabP TabE TabB TabG TabH TabT TabU TabV TabX TabW TabN TabO TabY TabCs LnkB
def obj : T := [79, 98, 106, 101, 99, 116]
def aC (f : Nat) : za := ⟨[65], obj, none, 0, 0, some ⟨f, 0, none⟩, 3, 3, none, 0, 0, [], [⟨[120], [73]⟩, ⟨[121], [76, 65, 59]⟩, ⟨[122], [76, 79, 98, 106, 101, 99, 116, 59]⟩], []⟩
def bC : za := ⟨[66], obj, none, 0, 0, none, 0, 0, none, 0, 0, [], [], []⟩
def bs (f : Nat) : List za := [aC f, bC]
def tyn : List T := [[76, 65, 59], [76, 66, 59], [91, 76, 65, 59], [91, 73], [83], [76, 90, 59]]
def fC : Array Value := #[.string ⟨#[120]⟩, .string ⟨#[73]⟩, .string ⟨#[121]⟩, .string ⟨#[76, 65, 59]⟩, .string ⟨#[122]⟩, .string ⟨#[76, 79, 98, 106, 101, 99, 116, 59]⟩]
def cC (f : Nat) : Array Value := #[.string ⟨#[65]⟩, .string ⟨#[79, 98, 106, 101, 99, 116]⟩, .slice none 0 0, .slice (some ⟨f, 0, none⟩) 3 3, .slice none 0 0, .string ⟨#[66]⟩, .string ⟨#[79, 98, 106, 101, 99, 116]⟩, .slice none 0 0, .slice none 0 0, .slice none 0 0]
theorem aC_is {W : World} {f : Nat} (hf : Bx W f fC 141) : (aC f).is W :=
 ⟨⟨rfl, Nat.le_refl _, by unfold maxLen; simp [aC], .inl rfl, by simp [aC]⟩, ⟨rfl, Nat.le_refl _, by unfold maxLen; simp [aC], TabZ.ZG hf⟩, ⟨rfl, Nat.le_refl _, by unfold maxLen; simp [aC], .inl rfl, by simp [aC]⟩⟩
theorem bC_is (W : World) : bC.is W :=
 ⟨⟨rfl, Nat.le_refl _, by unfold maxLen; simp [bC], .inl rfl, by simp [bC]⟩, ⟨rfl, Nat.le_refl _, by unfold maxLen; simp [bC], .inl rfl⟩, ⟨rfl, Nat.le_refl _, by unfold maxLen; simp [bC], .inl rfl, by simp [bC]⟩⟩
theorem aC_lt (f : Nat) : za.lt (aC f) := ⟨by simp [aC], by simp [aC, obj], by simp [aC], by simp [aC, zU.lt], by simp [aC]⟩
theorem bC_lt : za.lt bC := ⟨by simp [bC], by simp [bC, obj], by simp [bC], by simp [bC], by simp [bC]⟩
theorem bs_is {W : World} {f : Nat} (hf : Bx W f fC 141) : ∀ x ∈ bs f, x.is W ∧ za.lt x := by
 intro x hx
 simp only [bs, List.mem_cons, List.not_mem_nil, or_false] at hx
 rcases hx with rfl | rfl
 · exact ⟨aC_is hf, aC_lt f⟩
 · exact ⟨bC_is W, bC_lt⟩
theorem why_bs (f : Nat) : jP (bs f) = ([], 0) := by kernel_rfl
def jA (w : World) (e : Ending) (w' : World) : Prop :=
 ∃ f k, e = .returned (.slice (some ⟨k, 0, none⟩) 2 2) ∧ Bx w' f fC 141 ∧ Bx w' k (cC f) 132 ∧ Below w.heap.size w w'
theorem Gg (w : World) : Calls Tryz.prog 32 #[] w (jA w) := by
 have HF := zH (Bx.new w fC 141)
 have HK := zH (Bx.new (w.alloc (.cells fC 141)) (cC w.heap.size) 132)
 have hsz : (w.alloc (.cells fC 141)).heap.size = w.heap.size + 1 := by simp
 rw [hsz] at HK
 have HB := zH (((Below.refl w.heap.size w).alloc (Nat.le_refl _) (.cells fC 141)).alloc (by simp) (.cells (cC w.heap.size) 132))
 clear hsz
 go_enter Tryz.func32, Tryz.ntmps32
 go_wp2_with fail
 go_ret
 exact ⟨_, _, rfl, TabZ.bx_al HF.out _, HK.out, HB.out⟩
theorem Qe (w : World) : Calls Tryz.prog 12 #[] w fun e w' => ∃ k, e = .returned (.slice (some ⟨k, 0, none⟩) 6 6) ∧ w.heap.size ≤ k ∧ Rds w' (some ⟨k, 0, none⟩) (tyn.map sv) ∧ Below w.heap.size w w' := by
 have HF := zH (Bx.new w #[.string ⟨#[76, 65, 59]⟩, .string ⟨#[76, 66, 59]⟩, .string ⟨#[91, 76, 65, 59]⟩, .string ⟨#[91, 73]⟩, .string ⟨#[83]⟩, .string ⟨#[76, 90, 59]⟩] 9)
 have HB := zH ((Below.refl w.heap.size w).alloc (Nat.le_refl _) (.cells #[.string ⟨#[76, 65, 59]⟩, .string ⟨#[76, 66, 59]⟩, .string ⟨#[91, 76, 65, 59]⟩, .string ⟨#[91, 73]⟩, .string ⟨#[83]⟩, .string ⟨#[76, 90, 59]⟩] 9))
 go_enter Tryz.func12, Tryz.ntmps12
 go_wp2_with fail
 go_ret
 exact ⟨_, rfl, Nat.le_refl _, TabZ.ZG HF.out, HB.out⟩
end ClZ
namespace ClI
open Go.RowKit Base BinM Stru DescM DescW DescX DescS DescG DescP DescQ HierS HierT HierM HierC HierD HierN Kls KlsP KlsQ OpenK TabC TabM TabK TabP TabE TabB TabG TabH TabT TabU TabV TabX TabW TabN TabO TabY TabCs TabL TabR LnkA LnkC LnkS ClZ
open HpM (zo Turned zQ)
open HpA (Th raw adr)
theorem gu (L : List za) : ∀ (n : Nat) (c : T), ∀ y ∈ (gat L n c).1, ∃ k ∈ L, ∃ z ∈ k.fields, y.desc = z.desc
 | 0, c, y, h => by cases h
 | n + 1, c, y, h => by
   unfold gat at h
   split at h
   · cases h
   · rename_i k hk
     simp only [qy, List.mem_append, List.mem_map] at h
     rcases h with h | ⟨z, hz, rfl⟩
     · exact gu L n _ y h
     · exact ⟨k, List.mem_of_find?_eq_some hk, z, hz, rfl⟩
theorem zj9 {f : Nat} {C : List za} (hb : C.map zy = (bs f).map zy) (q : T) : ∀ y ∈ (hav C q).1, y.desc.length ≤ 140737488355328 := by
 intro y hy
 rw [xU hb] at hy
 obtain ⟨k, hk, z, hz, e⟩ := gu _ _ _ y hy
 rw [e]
 simp only [bs, List.mem_cons, List.not_mem_nil, or_false] at hk
 rcases hk with rfl | rfl
 · simp only [aC, List.mem_cons, List.not_mem_nil, or_false] at hz
   rcases hz with rfl | rfl | rfl <;> simp
 · cases hz
theorem J7 (i : Nat) (h : 6 ≤ i) : LnkA.zG tyn (i : Int) = [] := by
 unfold LnkA.zG
 rw [if_neg (by simp [tyn]; omega)]
theorem kZ (f : Nat) : ∀ d ∈ [0, 1, 2, 3, 4, 5, 6], ZF (mk (pairs (bs f))) (bs f) (LnkA.zG tyn ((d : Nat) : Int)) = ClA.shp d := by
 intro d hd
 simp only [List.mem_cons, List.not_mem_nil, or_false] at hd
 rcases hd with rfl | rfl | rfl | rfl | rfl | rfl | rfl <;> kernel_rfl
theorem zl8 {f : Nat} {C : List za} (hb : C.map zy = (bs f).map zy) (i : Nat) : ZF (mk (pairs (bs f))) C (LnkA.zG tyn (i : Int)) = ClA.shp i := by
 have h1 : ZF (mk (pairs (bs f))) C = ZF (mk (pairs (bs f))) (bs f) := by
  funext d
  unfold ZF JD
  rw [xU hb]
 rw [h1]
 by_cases hi : i < 7
 · exact kZ f i (by simp; omega)
 · have h7 := kZ f 6 (by simp)
   rw [J7 6 (by omega)] at h7
   rw [J7 i (by omega), h7]
   unfold ClA.shp
   simp only [show ¬ (i = 0) by omega, show ¬ (i = 1) by omega, show ¬ (i = 2) by omega, show ¬ (i = 3) by omega, show ¬ (i = 4) by omega, if_false]
   rfl
def ProgE (w1 : World) (p : Nat) : Prop := ∃ lo y t gg mb n A c h L f, (∀ w', Below w1.heap.size w1 w' → Pg lo w' p y t gg mb n A c h L f tyn) ∧ ∀ i : Nat, ZF h L (LnkA.zG tyn (i : Int)) = ClA.shp i
def Gp (w1 : World) (u : Nat) : Prop := ∃ f lo g A c, ∀ w', Below w1.heap.size w1 w' → RT lo w' u g A c (pairs (bs f)) (bs f)
theorem Gp.later {w1 w2 : World} {u : Nat} (h : Gp w1 u) (hb : Below w1.heap.size w1 w2) : Gp w2 u := by
 obtain ⟨f, lo, g, A, c, h⟩ := h
 exact ⟨f, lo, g, A, c, fun w' hb' => h w' (hb.trans (hb'.mono hb.size))⟩
theorem prog_of {lo t gg mb n : Nat} {A : Option Addr} {c f0 : Nat} {C : List za} {f : T → Option zO} {w w0 w1 : World} {p y mb' : Nat} (H : Ta lo w t gg mb n A c (mk (pairs (bs f0))) C f) (ht : Total C f) (hb : C.map zy = (bs f0).map zy) (hz : ∀ x ∈ bs f0, qE x = 0)
 (hy : TyE w0 w y tyn) (hw : Below w.heap.size w w1) (hp : HpM.Bx w1 p #[.pointer (some ⟨y, 0, none⟩), .pointer (some ⟨t, 0, none⟩), .slice none 0 0, .map (some mb')] 154) : ProgE w1 p := by
 obtain ⟨A2, c2, mo, f2, HY⟩ := hy
 refine ⟨lo, y, t, gg, mb, n, A, c, _, C, f, fun w' hb' => ⟨⟨_, _, hp.after hb'⟩, (H.ext hw).ext hb', ht, TabZ.few_of hb hz, zj9 hb, ⟨A2, c2, _, (HY.box.after hw).after hb', ?_⟩, fun d hd => ?_⟩, zl8 hb⟩
 · have h9 : Rds w A2 (tyn.map sv) := Rds.qp HY.row
   exact (h9.below hw).below hb'
 · simp only [tyn, List.mem_cons, List.not_mem_nil, or_false] at hd
   rcases hd with rfl | rfl | rfl | rfl | rfl | rfl <;> simp
end ClI
namespace ClJ
open Go.RowKit Base BinM HpM HpA HpB HpG HpP HpT HpZ HpR HpQ HpW ClM ClX ClY ClZ ClI
theorem K7 : ∀ (ts : List Th) (k : Nat) (x i v : Int), (yS k ts x i v).length = ts.length
 | [], _, _, _, _ => rfl
 | t :: r, k, x, i, v => by
   unfold yS
   split
   · rfl
   · simp [K7 r]
theorem y8 (E : Int) (t : Th) (ts : List Th) : (Yn E t ts).length ≤ ts.length + 1 := by
 unfold Yn
 split <;> simp
theorem makeT_len (ts : List Th) (m : OpenMk.MkT) : (makeT ts m).length ≤ ts.length + 1 := by
 unfold makeT
 split
 · exact y8 _ _ _
 split
 · exact y8 _ _ _
 split
 · exact y8 _ _ _
 split
 · split
   · exact y8 _ _ _
   · omega
 · exact y8 _ _ _
def Gt (ts : List Th) (s : OpenMk.StT) : Int := if s.raw = true then s.v else if 0 < s.dest then (adr 0 ts).getD (s.dest.tmod (ts.length : Int)).toNat 0 else 0
def Qc (ts : List Th) (s : OpenMk.StT) : List Th := if ts.length = 0 then ts else yS 0 ts ((adr 0 ts).getD (s.from_ % (ts.length : Int)).toNat 0) s.i (Gt ts s)
theorem zm0 (ts : List Th) (s : OpenMk.StT) : (Qc ts s).length = ts.length := by
 unfold Qc
 split
 · rfl
 · exact K7 _ _ _ _ _
def jH (l : List OpenMk.MkT) : List Th := l.foldl makeT []
def Zy (ts : List Th) (l : List OpenMk.StT) : List Th := l.foldl Qc ts
theorem vK (l : List OpenMk.MkT) : (jH l).length ≤ l.length := by
 have h : ∀ (l : List OpenMk.MkT) (ts : List Th), (l.foldl makeT ts).length ≤ ts.length + l.length := by
  intro l
  induction l with
  | nil => intro ts; simp
  | cons m l ih =>
    intro ts
    have h1 := ih (makeT ts m)
    have h2 := makeT_len ts m
    rw [List.foldl_cons, List.length_cons]
    omega
 have := h l []
 rw [List.length_nil] at this
 unfold jH
 omega
theorem yC (l : List OpenMk.StT) : ∀ ts, (Zy ts l).length = ts.length := by
 induction l with
 | nil => intro ts; rfl
 | cons m l ih => intro ts; show (Zy (Qc ts m) l).length = _; rw [ih, zm0]
theorem yB (l : List OpenMk.StT) : ∀ ts : List Th, ts.length = 0 → Zy ts l = ts := by
 induction l with
 | nil => intro ts h; rfl
 | cons m l ih =>
   intro ts h
   show Zy (Qc ts m) l = _
   have : Qc ts m = ts := by unfold Qc; rw [if_pos h]
   rw [this, ih ts h]
theorem za8 {l : List OpenMk.MkT} {j : Nat} (h : j < l.length) : jH (l.take (j + 1)) = makeT (jH (l.take j)) l[j] := by
 unfold jH
 rw [List.take_succ_eq_append_getElem h, List.foldl_append]
 rfl
theorem uM {l : List OpenMk.StT} {j : Nat} (ts : List Th) (h : j < l.length) : Zy ts (l.take (j + 1)) = Qc (Zy ts (l.take j)) l[j] := by
 unfold Zy
 rw [List.take_succ_eq_append_getElem h, List.foldl_append]
 rfl
def JB (makes : List OpenMk.MkT) (sets : List OpenMk.StT) : List Th := Zy (jH (makes.take 40)) (sets.take 60)
theorem Yx {α : Type} {l : List α} {j N : Nat} (hj : j ≤ N) (h : j = l.length ∨ j = N) : l.take N = l.take j := by
 rcases h with rfl | rfl
 · rw [List.take_of_length_le hj, List.take_of_length_le (Nat.le_refl _)]
 · rfl
def bx (x g r p u : Nat) : Box := (x, #[.pointer (some ⟨g, 0, none⟩), .pointer (some ⟨r, 0, none⟩), .pointer (some ⟨p, 0, none⟩), .pointer (some ⟨u, 0, none⟩)], 37)
structure Qb (w wr : World) (x g r p u : Nat) (ts : List Th) : Prop where
 at_ : ∃ w1, Below w.heap.size w w1 ∧ qO w1 wr g r 400 ts [bx x g r p u] ∧ ProgE w1 p ∧ Gp w1 u
 few : ts.length ≤ 40
theorem ty_low {w0 w : World} {y : Nat} {ns : List (List UInt8)} (H : LnkA.TyE w0 w y ns) : Turned (fun k => k = y) w0 w := by
 obtain ⟨A, c, mo, f, H⟩ := H
 exact H.bel
theorem qZ {w0 wr : World} {g r most : Nat} {ts : List Th} {bxs : List Box} (S : qO w0 wr g r most ts bxs) : Below w0.heap.size w0 wr := by
 obtain ⟨a1, a2, a3, a4, a5, a6, a7, a8, a9, S, h1, h2, h3⟩ := S
 exact S.bel
theorem zl5 {w w1 w2 : World} {g mb r : Nat} (B1 : Below w.heap.size w w1) (h1 : w.heap.size ≤ g) (h2 : w.heap.size ≤ mb) (H1 : HpX w1 g mb none 0 none 0 400 [] [] 0 (fun _ => none)) (hb2 : Below w1.heap.size w1 w2) (hr : w1.heap.size ≤ r) (X2 : RfX w2 r none 0 400 []) : qO w w2 g r 400 [] [] := by
 refine ⟨mb, none, 0, none, 0, none, 0, [], fun _ => none, ⟨H1.beside hb2, X2, (show Fits 400 [] from ⟨by omega, by simp [raw], by simp, by simp⟩), fun k hk hf => ?_, fun k hk => ?_, fun k hk => ?_, B1.trans (hb2.mono B1.size), (fun m hm => by cases hm), fun a _ => rfl⟩, rfl, (fun t ht => by cases ht), fun b hb => by cases hb⟩
 · have h9 := H1.lt hk
   rcases hf with rfl | ⟨a, h, _⟩ | ⟨m, hm, _⟩
   · omega
   · cases h
   · cases hm
 · rcases hk with rfl | rfl | ⟨a, h, _⟩ | ⟨a, h, _⟩
   · exact h1
   · exact h2
   · cases h
   · cases h
 · rcases hk with rfl | ⟨a, h, _⟩ | ⟨m, hm, _⟩
   · have := B1.size; omega
   · cases h
   · cases hm
theorem uy {w0 wr : World} {g r most : Nat} {ts : List Th} {bxs : List Box} (S : qO w0 wr g r most ts bxs) : ∃ AL cL, Bx wr r #[.int .i64 most, .slice AL ts.length cL] 63 ∧ ∀ k (_ : k < ts.length), ∃ b o, AL = some ⟨b, o, none⟩ ∧ wr.cell? ⟨b, o + k * 4, none⟩ = some (.int .i64 ((adr 0 ts).getD k 0)) := by
 obtain ⟨a1, a2, a3, a4, a5, AL, cL, ms, a9, S, h1, h2, h3⟩ := S
 have hl : ts.length = ms.length := by rw [← h1]; unfold things; simp
 refine ⟨AL, cL, ?_, fun k hk => ?_⟩
 · rw [hl]; exact S.rf.box
 · have hk2 : k < ms.length := by omega
   obtain ⟨b, o, e, h, _⟩ := S.rf.cells (p := ms.take k) (m := ms[k]) (q := ms.drop (k + 1)) (by rw [← List.drop_eq_getElem_cons hk2, List.take_append_drop])
   refine ⟨b, o, e, ?_⟩
   have hlt : (ms.take k).length = k := by rw [List.length_take]; omega
   rw [hlt] at h
   rw [h]
   have hat := S.rf.ats
   rw [h1] at hat
   rw [← hat, List.getD_eq_getElem?_getD, List.getElem?_map, List.getElem?_eq_getElem hk2]
   rfl
theorem kD {w0 wr : World} {g r most : Nat} {ts : List Th} {bxs : List Box} (S : qO w0 wr g r most ts bxs) (k : Nat) : zo ((adr 0 ts).getD k 0) := by
 obtain ⟨a1, a2, a3, a4, a5, AL, cL, ms, a9, S, h1, h2, h3⟩ := S
 have hf := S.fits
 rw [h1] at hf
 rw [List.getD_eq_getElem?_getD]
 cases h : (adr 0 ts)[k]? with
 | none => show zo 0; unfold zo; omega
 | some x =>
   have hx := QO ts 0 x (List.mem_of_getElem? h)
   have := hf.len
   have := hf.top
   show zo x
   unfold zo
   omega
theorem tyn_new : ∀ j (h : j < 6), tyn[j]'h ∉ tyn.take j ∧ (tyn[j]'h).length ≤ 10 := by decide
end ClJ
end Go.Proofs.YtmkdhdmkdcankaaGreatDoor
