/-
  The document's tables: New.
-/
import Derived.Test.YtiagjnimafdbhaaGreatDoorG37
import Derived.Test.YtiagjnimafdbhaaGreatDoorG36
import Derived.Deep.Onto
namespace Go.Proofs.YtiagjnimafdbhaaGreatDoor
namespace TabL
open Go.RowKit Base BinM Stru DescM DescW DescX DescR DescS DescG DescP DescQ HierS HierT HierM HierC HierD HierN HierV HierR HierU HierQ HierY Kls KlsP KlsQ OpenK TabC TabM TabK TabP TabE TabB TabG TabH TabT TabU TabV TabX TabW TabF TabN TabO TabY TabI TabR TabQ TabD TabJ

theorem alw_up : ∀ p ∈ alw, p.2 = objN ∨ ∃ q ∈ alw, q.1 = p.2 := by decide
theorem none_above {L : List ClsT} (hT : (whyT (pairs L)).2 = 0) {c s : T} (hf : L.find? (named c) = none) (hu : (mk (pairs L)).up c = some s) : L.find? (named s) = none := by
  cases hk : L.find? (named s) with
  | none => rfl
  | some k =>
    obtain ⟨hkm, hkn⟩ := named_of hk
    obtain ⟨h1, h2⟩ := alw_not hT hkm
    exfalso
    have hu' : ((abv (full (pairs L)) c).bind fun i => (nms (full (pairs L)))[i]?) = some s := hu
    unfold abv at hu'
    cases hfa : (full (pairs L)).find? (fun p => p.1 == c) with
    | none => rw [hfa] at hu'; cases hu'
    | some p =>
      rw [hfa] at hu'
      have hpm := List.mem_of_find?_eq_some hfa
      have hpc := List.find?_some hfa
      obtain ⟨_, _, h3⟩ := why_parts hT
      have hin := noSup_in _ _ h3 p hpm
      have hu2 : (nms (full (pairs L)))[(nms (full (pairs L))).idxOf p.2]? = some s := hu'
      rw [idx_get hin] at hu2
      injection hu2 with hu2
      have hpa : p ∈ alw := by
        unfold full at hpm
        rcases List.mem_append.1 hpm with hp | hp
        · exact hp
        · exfalso
          obtain ⟨x, hx, rfl⟩ := List.mem_map.1 hp
          rw [List.find?_eq_none] at hf
          exact hf x hx (by unfold named; exact hpc)
      rcases alw_up p hpa with e | ⟨q, hq, e⟩
      · exact h2 (by rw [hkn, ← hu2, e])
      · exact h1 q hq (by rw [e, hu2, hkn])
theorem alw_short : ∀ p ∈ alw, p.1.length ≤ 140737488351232 := by decide
theorem ups_of {L : List ClsT} (hT : (whyT (pairs L)).2 = 0) (hC : ∀ x ∈ L, clsE x = 0) : Ups (pairs L) L := by
  refine ⟨fun c k hf => up_kept hT hf, fun k hk => cls_few (hC k hk), ?_, fun c hc => ?_, fun c d hf hu => none_above hT hf hu, fun c hc => ?_⟩
  · have := (why_parts hT).1
    unfold pairs at this
    simpa using this
  · cases hk : L.find? (named c) with
    | none => exact absurd hk hc
    | some k =>
      obtain ⟨h1, h2⟩ := named_of hk
      obtain ⟨l, h3, h4⟩ := TabV.ways hT h1
      exact ⟨l, h2 ▸ h3, h4⟩
  · cases hk : L.find? (named c) with
    | none => exact absurd hk hc
    | some k =>
      obtain ⟨h1, h2⟩ := named_of hk
      exact h2 ▸ names_of h1
theorem can_of {L : List ClsT} (hT : (whyT (pairs L)).2 = 0) (hl : ∀ k ∈ L, k.name.length ≤ 140737488351232) : HierQ.Can (pairs L) := by
  obtain ⟨h1, h2, h3⟩ := why_parts hT
  refine ⟨(why_good hT).1, h2, h3, h1, fun c hc => ?_⟩
  have hm : c ∈ nms (full (pairs L)) := hc
  unfold nms full at hm
  rcases List.mem_cons.1 hm with rfl | hm
  · decide
  · obtain ⟨p, hp, rfl⟩ := List.mem_map.1 hm
    rcases List.mem_append.1 hp with hp | hp
    · have := alw_short p hp; omega
    · obtain ⟨k, hk, rfl⟩ := List.mem_map.1 hp
      have := hl k hk
      show k.name.length ≤ _
      omega
/-- what the document's New hands back -/
def GivesRN (L : List ClsT) (w : World) (e : Ending) (w' : World) : Prop :=
  Below w.heap.size w w' ∧ (((whyC L).2 = 0 ∧ ∃ (lo r g : Nat) (A : Option Addr) (c : Nat), e = .returned (.tuple #[.pointer (some ⟨r, 0, none⟩), .string ⟨#[]⟩, .int .i64 0]) ∧ RT lo w' r g A c (pairs L) L) ∨
    ((whyC L).2 ≠ 0 ∧ e = .returned (.tuple #[.pointer none, .string ⟨(whyC L).1.toArray⟩, .int .i64 (whyC L).2])))
theorem givesRN_no {L : List ClsT} {w w' : World} {c : T} {n : Int} (h : whyC L = (c, n)) (hn : n ≠ 0) (hb : Below w.heap.size w w') : GivesRN L w (.returned (.tuple #[.pointer none, .string ⟨c.toArray⟩, .int .i64 n])) w' :=
  ⟨hb, .inr ⟨by rw [h]; exact hn, by rw [h]⟩⟩

set_option maxRecDepth 100000 in
set_option maxHeartbeats 16000000 in
theorem newR_any (A : Option Addr) (l : List ClsT) (m c : Nat) (w : World) (hm : m = l.length) (hr : Rds w A (l.flatMap valsC)) (his : ∀ x ∈ l, x.is w ∧ ClsT.lt x) :
    Calls Tryz.prog 8 #[.slice A m c] w (GivesRN l w) := by
  have HN := HierY.newR_any A (l.map ceOf) m c w (by simpa using hm) (by rw [rows_ce]; exact hr) (by
    intro x hx
    obtain ⟨y, hy, rfl⟩ := List.mem_map.1 hx
    have := (his y hy).2.name
    show y.name.length ≤ _
    omega)
  rw [pairs_ce] at HN
  have HN0 := Lib.hid HN
  have Hr := Lib.hid hr
  have His := Lib.hid his
  clear HN hr his
  subst hm
  go_enter Tryz.func8, Tryz.ntmps8
  go_wp2_with fail
  refine HN0.out.mono ?_
  rintro e w1 ⟨hb1, hor⟩
  have B1 := Lib.hid hb1
  clear hb1
  rcases hor with ⟨hz, g, rfl, hH⟩ | ⟨hne, rfl⟩
  · have HZ := Lib.hid hz
    have HH := Lib.hid hH
    have hl32 : l.length ≤ 32 := by have := (why_parts hz).1; unfold pairs at this; simpa using this
    clear hz hH
    go_wp2_with fail
    have Z1 := Lib.hid (Below.refl w1.heap.size w1)
    go_loopw [8] (fun i wr => ∃ j : Nat, j ≤ l.length ∧ i = .int .i64 j ∧ Below w1.heap.size w1 wr ∧ ∀ x ∈ l.take j, clsE x = 0) (fun i _ => l.length - (intOf i).toNat)
    case atStart => exact ⟨0, Nat.zero_le _, rfl, Z1.out, by simp⟩
    case round =>
      obtain ⟨j, hj, rfl, hbel, hz0⟩ := hrel
      have HZ0 := Lib.hid hz0
      have Hbel := Lib.hid hbel
      have hbw := B1.out.trans (hbel.mono B1.out.size)
      have Hbw := Lib.hid hbw
      clear hz0
      by_cases hlt : j < l.length
      · obtain ⟨b1, o1, hA, hb1, hc0, hc1, hc2, hc3, hc4⟩ := cls_at (Hr.out.below hbw) hlt
        subst hA
        have hj1 : (j : Int) < (l.length : Int) := by omega
        have hj0 : (0 : Int) ≤ (j : Int) := by omega
        have Hwhy := Lib.hid (fun hne => why_cls (L := l) HZ.out hlt HZ0.out hne)
        have Hnext := Lib.hid (fun h0 => zero_next (e := clsE) hlt HZ0.out h0)
        have HRt := Lib.hid (KlsX.refRight_any l[j] wr ((His.out _ (List.getElem_mem hlt)).1.below hbw) (His.out _ (List.getElem_mem hlt)).2)
        clear hbw hbel
        generalize hE : clsE l[j] = E at *
        clear hE
        generalize l[j] = x at *
        simp only [ClsT.V] at HRt
        go_wp2_with fail
        refine HRt.out.mono ?_
        rintro e w5 ⟨rfl, hb5⟩
        have B5 := Lib.hid (Hbw.out.trans (hb5.mono Hbw.out.size))
        have Z5 := Lib.hid (Hbel.out.trans (hb5.mono Hbel.out.size))
        have n0 := (hb5.cell (p := ⟨b1, o1 + j * 5, none⟩) hb1).trans hc0
        clear hb5 hc0 hc1 hc2 hc3 hc4
        by_cases h0 : E = 0
        · subst h0
          go_wp2_with fail
          go_roundw
          case rel => exact ⟨j + 1, by omega, by go_num, Z5.out, Hnext.out trivial⟩
          case measure => simp [intOf]; omega
        · have Hne := Lib.hid h0
          have HW := Lib.hid (by have := Hwhy.out h0; exact this)
          go_wp2_with fail
          go_quiet (fail)
          go_wp2_with fail
          go_ret3
          exact givesRN_no HW.out Hne.out (Stru.drawn B5.out _)
      · have htk : l.take j = l := List.take_of_length_le (by omega)
        rw [htk] at HZ0
        have HU := Lib.hid (ups_of HZ.out HZ0.out)
        have HCan := Lib.hid (can_of HZ.out (fun k hk => (His.out k hk).2.name))
        have hR1 := Hr.out.below hbw
        have hR2 := hR1.below ((Below.refl wr.heap.size wr).alloc (Nat.le_refl _) (.cells #[.pointer (some ⟨g, 0, none⟩), .slice none 0 0] 85))
        have HR2 := Lib.hid (show Rds (wr.alloc (.cells #[.pointer (some ⟨g, 0, none⟩), .slice none 0 0] 85)) A ((l.map ceOf).flatMap CE.vals) from by rw [rows_ce]; exact hR2)
        have TB := Lib.hid (Bx.new wr #[.pointer (some ⟨g, 0, none⟩), .slice none 0 0] 85)
        have B2 := Lib.hid (Hbel.out.alloc Hbel.out.size (.cells #[.pointer (some ⟨g, 0, none⟩), .slice none 0 0] 85))
        have hs1 := hbel.size
        clear htk hbel hbw hR1 hR2
        go_wp2_with (at_builtin
                     refine HierN.appC rfl (.tmp 49) (.tmp 50) rfl (wr.heap.size + 1) (.slice none 0 0) [] rfl (OwnC.nil _ _) A l.length c (l.map ceOf) rfl (by simp) HR2.out (by simp; omega) (by simp) ?_
                     intro v4 w4 ho4 hg4
                     rw [List.nil_append] at ho4
                     obtain ⟨A4, c4, rfl, _, _, _, _⟩ := ho4.slice
                     rw [List.length_map]
                     have TB4 := Lib.hid ((hg4.block wr.heap.size TB.out.lt (by simp [Value.ownBlock])).trans TB.out)
                     have B4 := Lib.hid (below_own B2.out (OwnC.nil _ (wr.heap.size + 1)) (by omega) B2.out.size hg4)
                     have HO4 := Lib.hid ho4
                     have HO4b := Lib.hid (own_slice ho4)
                     have t1 := (show Bx w4 wr.heap.size #[.pointer (some ⟨g, 0, none⟩), .slice none 0 0] 85 from TB4.out).cell 1
                     have tf := (show Bx w4 wr.heap.size #[.pointer (some ⟨g, 0, none⟩), .slice none 0 0] 85 from TB4.out).free 1
                     clear ho4 hg4)
        have Hrt := Lib.hid (show RT w1.heap.size (w4.setCell ⟨wr.heap.size, 1, none⟩ (.slice A4 l.length c4)) wr.heap.size g A4 c4 (pairs l) l from by
          have hB : Below w1.heap.size w1 (w4.setCell ⟨wr.heap.size, 1, none⟩ (.slice A4 l.length c4)) := B4.out.setCell (p := ⟨wr.heap.size, 1, none⟩) hs1 _
          have hset := TabM.own_set HO4.out (Nat.lt_succ_self wr.heap.size) 1 (.slice A4 l.length c4)
          have hset2 := Rds.ownN hset
          rw [rows_ce] at hset2
          refine ⟨?_, HH.out.below hB, hB.size, hset2, fun x hx => (His.out x hx).1.below (B1.out.trans (hB.mono B1.out.size))⟩
          exact (show Bx w4 wr.heap.size #[.pointer (some ⟨g, 0, none⟩), .slice none 0 0] 85 from TB4.out).set 1 (.slice A4 l.length c4))
        have HBW := Lib.hid (show Below w.heap.size w (w4.setCell ⟨wr.heap.size, 1, none⟩ (.slice A4 l.length c4)) from
          B1.out.trans ((B4.out.setCell (p := ⟨wr.heap.size, 1, none⟩) hs1 (.slice A4 l.length c4)).mono B1.out.size))
        clear t1 tf TB4 B4 HO4 HO4b TB B2 HR2 hs1
        generalize hW : w4.setCell ⟨wr.heap.size, 1, none⟩ (.slice A4 l.length c4) = W at *
        clear hW
        have Z2 := Lib.hid (Below.refl W.heap.size W)
        go_loopw [11] (fun i wq => ∃ j : Nat, j ≤ l.length ∧ i = .int .i64 j ∧ Below W.heap.size W wq ∧ ∀ x ∈ l.take j, fitE (mk (pairs l)) l x = 0) (fun i _ => l.length - (intOf i).toNat)
        case atStart => exact ⟨0, Nat.zero_le _, rfl, Z2.out, by simp⟩
        case round =>
          obtain ⟨k, hk, rfl, hbel, hz0⟩ := hrel
          have HF0 := Lib.hid hz0
          have Hbe := Lib.hid hbel
          have hbw := HBW.out.trans (hbel.mono HBW.out.size)
          have Hbq := Lib.hid hbw
          clear hz0
          by_cases hlt : k < l.length
          · obtain ⟨b1, o1, hA, hb1, hc0, hc1, hc2, hc3, hc4⟩ := cls_at (Hr.out.below hbw) hlt
            subst hA
            have hk1 : (k : Int) < (l.length : Int) := by omega
            have hk0 : (0 : Int) ≤ (k : Int) := by omega
            have Hwhy := Lib.hid (fun hne => why_fit (L := l) HZ.out HZ0.out hlt HF0.out hne)
            have Hnext := Lib.hid (fun h0 => zero_next (e := fitE (mk (pairs l)) l) hlt HF0.out h0)
            have HRt := Lib.hid (rightR_any (Hrt.out.ext hbel) HU.out HCan.out l[k] ((His.out _ (List.getElem_mem hlt)).1.below hbw) (His.out _ (List.getElem_mem hlt)).2)
            clear hbw hbel
            generalize hE : fitE (mk (pairs l)) l l[k] = E at *
            clear hE
            generalize l[k] = x at *
            simp only [ClsT.V] at HRt
            go_wp2_with fail
            refine HRt.out.mono ?_
            rintro e w5 ⟨rfl, hb5⟩
            have B5 := Lib.hid (Hbq.out.trans (hb5.mono Hbq.out.size))
            have Z5 := Lib.hid (Hbe.out.trans (hb5.mono Hbe.out.size))
            have n0 := (hb5.cell (p := ⟨b1, o1 + k * 5, none⟩) hb1).trans hc0
            clear hb5 hc0 hc1 hc2 hc3 hc4
            by_cases h0 : E = 0
            · subst h0
              go_wp2_with fail
              go_roundw
              case rel => exact ⟨k + 1, by omega, by go_num, Z5.out, Hnext.out trivial⟩
              case measure => simp [intOf]; omega
            · have Hne := Lib.hid h0
              have HW := Lib.hid (by have := Hwhy.out h0; exact this)
              go_wp2_with fail
              go_quiet (fail)
              go_wp2_with fail
              go_ret3
              exact givesRN_no HW.out Hne.out (Stru.drawn B5.out _)
          · have htk : l.take k = l := List.take_of_length_le (by omega)
            rw [htk] at HF0
            have HY := Lib.hid (why_yes HZ.out HZ0.out HF0.out)
            have HE := Lib.hid (Hrt.out.ext hbel)
            clear htk hbel hbw
            go_wp2_with fail
            go_ret3
            exact ⟨Hbq.out, .inl ⟨by rw [HY.out], w1.heap.size, _, g, A4, c4, rfl, HE.out⟩⟩
  · have Hne := Lib.hid hne
    have HW := Lib.hid (why_hier hne)
    generalize whyT (pairs l) = WW at *
    obtain ⟨nm, en⟩ := WW
    simp only at hne
    go_wp2_with fail
    go_ret3
    exact givesRN_no HW.out Hne.out B1.out
end TabL
end Go.Proofs.YtiagjnimafdbhaaGreatDoor
/-
  Which classes of two tables have not the same: table.same, Changed, and the document's alike and Changed.
-/
namespace Go.Proofs.YtiagjnimafdbhaaGreatDoor
namespace TabCg
open Go.RowKit Base BinM Stru DescM DescW DescX HierS HierT HierM HierC HierD HierN HierR HierU Kls KlsP KlsQ TabC TabM TabK TabP TabE TabB TabG TabH TabT TabU TabV TabW TabN TabO TabY TabR TabQ TabEq

theorem own_ext {w w' : World} {base : Nat} {e : TypeId} {size n : Nat} {v : Value} {xs : List Value} (h : w.ownsRow base e size v n xs) (hb : Below w.heap.size w w') : w'.ownsRow base e size v n xs :=
  TabM.own_same h (fun k hk => hb.block k (h.lt k hk).2)
/-- whether a class has the same in two tables -/
def chg (C D : List ClsT) (q : T) : Bool := decide ((hav C q).1.map fldOf = (hav D q).1.map fldOf) && decide ((hav C q).2.map nsE = (hav D q).2.map nsE)
def chL (ns : List T) (has : T → Bool) (C D : List ClsT) : List T := ns.filter (fun q => has q && !chg C D q)
theorem chL_take {ns : List T} {has : T → Bool} {C D : List ClsT} {j : Nat} (hj : j < ns.length) : chL (ns.take (j + 1)) has C D = chL (ns.take j) has C D ++ (if (has ns[j] && !chg C D ns[j]) = true then [ns[j]] else []) := by
  unfold chL
  rw [List.take_succ_eq_append_getElem hj, List.filter_append]
  congr 1
  cases h : (has ns[j] && !chg C D ns[j]) <;> simp [h]
theorem app_no {cs cs' : List T} {q : T} {b : Bool} (h : cs' = cs ++ (if b = true then [q] else [])) (hb : b = false) : cs' = cs := by rw [h, hb]; simp
theorem app_yes {cs cs' : List T} {q : T} {b : Bool} (h : cs' = cs ++ (if b = true then [q] else [])) (hb : b = true) : cs' = cs ++ [q] := by rw [h, hb]; simp
theorem chL_len (ns : List T) (has : T → Bool) (C D : List ClsT) : (chL ns has C D).length ≤ ns.length := List.length_filter_le _ _
set_option maxRecDepth 100000 in
set_option maxHeartbeats 2000000 in
theorem same_any (x y : HavT) (w : World) (hx : x.is w) (hy : y.is w) (h1 : x.fields.length ≤ 100000 ∧ x.meths.length ≤ 100000) (h2 : y.fields.length ≤ 100000 ∧ y.meths.length ≤ 100000) :
    Calls Tryz.prog 101 #[x.V, y.V] w fun e w' => e = .returned (.bool (decide (x.fields.map fldOf = y.fields.map fldOf) && decide (x.meths.map nsE = y.meths.map nsE))) ∧ Below w.heap.size w w' := by
  obtain ⟨fA, fn, fc, mA, mn, mc, fs, ms⟩ := x
  obtain ⟨fB, gn, gc, mB, kn, kc, gs, ks⟩ := y
  obtain ⟨a1, a2, a3, a4, a5, a6, a7, a8⟩ := hx
  obtain ⟨b1, b2, b3, b4, b5, b6, b7, b8⟩ := hy
  simp only at a1 a2 a3 a4 a5 a6 a7 a8 b1 b2 b3 b4 b5 b6 b7 b8 h1 h2
  simp only [HavT.V]
  subst a1
  subst a5
  subst b1
  subst b5
  have hA1 : Below w.heap.size w (w.alloc (.cells #[.slice fA fs.length fc, .slice mA ms.length mc] 79)) := (Below.refl _ _).alloc (Nat.le_refl _) _
  have hA2 : Below w.heap.size w ((w.alloc (.cells #[.slice fA fs.length fc, .slice mA ms.length mc] 79)).alloc (.cells #[.slice fB gs.length gc, .slice mB ks.length kc] 79)) := hA1.alloc (by simp) _
  have hs1 : (w.alloc (.cells #[.slice fA fs.length fc, .slice mA ms.length mc] 79)).heap.size = w.heap.size + 1 := by simp
  have X2 := Lib.hid ((Bx.new w #[.slice fA fs.length fc, .slice mA ms.length mc] 79).after ((Below.refl _ _).alloc (Nat.le_refl _) (.cells #[.slice fB gs.length gc, .slice mB ks.length kc] 79)))
  have Y0 := Bx.new (w.alloc (.cells #[.slice fA fs.length fc, .slice mA ms.length mc] 79)) #[.slice fB gs.length gc, .slice mB ks.length kc] 79
  rw [hs1] at Y0
  have Y2 := Lib.hid Y0
  have B2 := Lib.hid hA2
  have HF := Lib.hid (equalFF_any fA fB fs gs fs.length gs.length fc gc _ rfl rfl h1.1 h2.1 (a4.below hA2) (b4.below hA2))
  have HE := Lib.hid (fun W (hb : Below w.heap.size w W) => equalEE_any mA mB ms ks ms.length ks.length mc kc W rfl rfl h1.2 h2.2 (a8.below hb) (b8.below hb))
  clear hA1 hA2 hs1 Y0 a2 a3 a4 a6 a7 a8 b2 b3 b4 b6 b7 b8 h1 h2
  generalize decide (fs.map fldOf = gs.map fldOf) = D1 at *
  generalize decide (ms.map nsE = ks.map nsE) = D2 at *
  go_enter Tryz.func101, Tryz.ntmps101
  go_wp2_with fail
  refine HF.out.mono ?_
  rintro e w3 ⟨rfl, hb3⟩
  have B3 := Lib.hid (B2.out.trans (hb3.mono B2.out.size))
  have x1 := (X2.out.after hb3).cell 1
  have y1 := (Y2.out.after hb3).cell 1
  clear hb3
  cases D1
  · go_wp2_with fail
    go_ret
    exact ⟨rfl, B3.out⟩
  · go_wp2_with fail
    refine (HE.out _ B3.out).mono ?_
    rintro e w4 ⟨rfl, hb4⟩
    have B4 := Lib.hid (B3.out.trans (hb4.mono B3.out.size))
    clear hb4
    go_wp2_with fail
    go_ret
    exact ⟨by simp, B4.out⟩

set_option maxRecDepth 100000 in
set_option maxHeartbeats 8000000 in
theorem changed_any {lo : Nat} {w : World} {t g mb n : Nat} {A : Option Addr} {c : Nat} {h : Hr} {L : List ClsT} {f : T → Option HavT} (H : Ta lo w t g mb n A c h L f) (ht : Total L f) (hfew : ∀ k ∈ L, k.fields.length ≤ 16 ∧ k.meths.length ≤ 32)
    {lo2 : Nat} {t2 g2 mb2 n2 : Nat} {A2 : Option Addr} {c2 : Nat} {h2 : Hr} {L2 : List ClsT} {f2 : T → Option HavT} (H2 : Ta lo2 w t2 g2 mb2 n2 A2 c2 h2 L2 f2) (ht2 : Total L2 f2) (hfew2 : ∀ k ∈ L2, k.fields.length ≤ 16 ∧ k.meths.length ≤ 32)
    (hnm : ∀ q ∈ h.names, q.length ≤ 140737488351232) :
    Calls Tryz.prog 45 #[.pointer (some ⟨t, 0, none⟩), .pointer (some ⟨t2, 0, none⟩)] w fun e w' => ∃ v, e = .returned v ∧ OwnT w' w.heap.size v (chL h.names h2.has L L2) ∧ Below w.heap.size w w' := by
  have hn41 := H.hier.few
  have HT1 := Lib.hid (fun W (hb : Below w.heap.size w W) => H.ext hb)
  have HT2 := Lib.hid (fun W (hb : Below w.heap.size w W) => H2.ext hb)
  have HNs := Lib.hid (fun W (hb : Below w.heap.size w W) => names_any lo g h W (H.ext hb).hier)
  have HHs := Lib.hid (fun W (hb : Below w.heap.size w W) (q : T) => HierM.has_any lo2 g2 h2 q W (H2.ext hb).hier)
  have HV1 := Lib.hid (fun W (hb : Below w.heap.size w W) (q : T) (hq : q.length ≤ 140737488351232) => TabU.has_any (H.ext hb) ht q hq)
  have HV2 := Lib.hid (fun W (hb : Below w.heap.size w W) (q : T) (hq : q.length ≤ 140737488351232) => TabU.has_any (H2.ext hb) ht2 q hq)
  have HL1 := Lib.hid (fun q => hav_len hfew q)
  have HL2 := Lib.hid (fun q => hav_len hfew2 q)
  have Hnm := Lib.hid hnm
  have b0 := H.box.cell 0
  have b20 := H2.box.cell 0
  have Z := Lib.hid (Below.refl w.heap.size w)
  clear H H2 ht ht2 hfew hfew2 hnm
  generalize hns : h.names = ns at *
  clear hns
  go_enter Tryz.func45, Tryz.ntmps45
  go_wp2_with fail
  refine (HNs.out _ Z.out).mono ?_
  rintro e w1 ⟨v1, rfl, ho1, hb1⟩
  obtain ⟨A1, c1, rfl, _, _, r1, _⟩ := ho1.slice
  have R1 := Lib.hid r1
  have B1 := Lib.hid hb1
  have Z1 := Lib.hid (Below.refl w1.heap.size w1)
  clear ho1 hb1 b0 r1
  go_wp2_with fail
  go_loopw [5, 7, 20] (fun v _ i wr => ∃ (j : Nat), j ≤ ns.length ∧ i = .int .i64 j ∧ OwnT wr w1.heap.size v (chL (ns.take j) h2.has L L2) ∧ Below w1.heap.size w1 wr) (fun _ _ i _ => ns.length - (intOf i).toNat)
  case atStart => exact ⟨0, Nat.zero_le _, rfl, World.ownsRow_nil _ _ _ _, Z1.out⟩
  case round =>
    obtain ⟨j, hj, rfl, hown, hbw⟩ := hrel
    have Hbw := Lib.hid hbw
    have HO := Lib.hid hown
    have GB := Lib.hid (B1.out.trans (hbw.mono B1.out.size))
    obtain ⟨A5, c5, rfl, _, _, _, _⟩ := hown.slice
    by_cases hlt : j < ns.length
    · obtain ⟨b9, o9, hA9, hb9, hc9⟩ := (R1.out.below hbw).at_ (k := j) (by simp; omega)
      subst hA9
      rw [List.getElem_map] at hc9
      have hj1 : (j : Int) < (ns.length : Int) := by omega
      have hj0 : (0 : Int) ≤ (j : Int) := by omega
      have HT := Lib.hid (chL_take (has := h2.has) (C := L) (D := L2) hlt)
      have hl := chL_len (ns.take j) h2.has L L2
      rw [List.length_take] at hl
      have Hq := Lib.hid (Hnm.out _ (List.getElem_mem hlt))
      have x20 := (HT2.out _ GB.out).box.cell 0
      have xlt := (HT2.out _ GB.out).box.lt
      have hsz := hbw.size
      clear hbw hown
      generalize ns[j] = q at *
      generalize chL (ns.take j) h2.has L L2 = cs at *
      generalize hhas : h2.has q = hb at *
      have Hhas := Lib.hid hhas
      clear hhas
      simp only [sv] at hc9
      cases hb
      · go_wp2_with fail
        refine (HHs.out _ GB.out q).mono ?_
        rw [Hhas.out]
        rintro e w' ⟨rfl, rfl⟩
        go_wp2_with fail
        go_roundw
        case rel => exact ⟨j + 1, by omega, by go_num, by rw [app_no HT.out rfl]; exact HO.out, Hbw.out⟩
        case measure => simp [intOf]; omega
      · go_wp2_with fail
        refine (HHs.out _ GB.out q).mono ?_
        rw [Hhas.out]
        rintro e w' ⟨rfl, rfl⟩
        go_wp2_with fail
        refine (HV1.out _ GB.out q Hq.out).mono ?_
        rintro e w3 ⟨x, rfl, hx, hxf, hxm, hb3⟩
        have B3 := Lib.hid (Hbw.out.trans (hb3.mono hsz))
        have G3 := Lib.hid (GB.out.trans (hb3.mono GB.out.size))
        have O3 := Lib.hid (own_ext HO.out hb3)
        have HX := Lib.hid (And.intro (keeps_hav hx (keeps_below hb3)) (And.intro hxf hxm))
        clear hx hxf hxm hb3
        go_wp2_with fail
        refine (HV2.out _ G3.out q Hq.out).mono ?_
        rintro e w4 ⟨y, rfl, hy, hyf, hym, hb4⟩
        have B4 := Lib.hid (B3.out.trans (hb4.mono B3.out.size))
        have G4 := Lib.hid (G3.out.trans (hb4.mono G3.out.size))
        have O4 := Lib.hid (own_ext O3.out hb4)
        have l1 := HL1.out q
        have l2 := HL2.out q
        have HS := Lib.hid (same_any x y w4 (keeps_hav HX.out.1 (keeps_below hb4)) (keeps_hav hy (keeps_below hb4)) (by rw [HX.out.2.1, HX.out.2.2]; omega) (by rw [hyf, hym]; omega))
        rw [HX.out.2.1, HX.out.2.2, hyf, hym] at HS
        have HT3 := HT.out
        unfold chg at HT3
        generalize (decide ((hav L q).1.map fldOf = (hav L2 q).1.map fldOf) && decide ((hav L q).2.map nsE = (hav L2 q).2.map nsE)) = D at *
        have HT4 := Lib.hid HT3
        clear hy hyf hym hb4 l1 l2 HT3
        go_wp2_with fail
        refine HS.out.mono ?_
        rintro e w5 ⟨rfl, hb5⟩
        have B5 := Lib.hid (B4.out.trans (hb5.mono B4.out.size))
        have O5 := Lib.hid (own_ext O4.out hb5)
        have hs5 := B5.out.size
        clear hb5
        cases D
        · go_wp2_with (at_builtin
                       refine appT rfl (.tmp 40) (.tmp 42) rfl w1.heap.size _ cs rfl (World.ownsRow.alloc O5.out _) (some ⟨w5.heap.size, 0, none⟩) 1 1 [q] rfl rfl (rds_new _ #[sv q] 9) (by simp; omega) (by simp; omega) ?_
                       intro v6 w6 hown6 hg6
                       have B6 := Lib.hid (below_own (B5.out.alloc hs5 _) (World.ownsRow.alloc O5.out _) (Nat.le_refl _) (by simp; omega) hg6)
                       have O6 := Lib.hid hown6
                       clear hown6 hg6)
          go_roundw
          case rel => exact ⟨j + 1, by omega, by go_num, by rw [app_yes HT4.out rfl]; exact O6.out, B6.out⟩
          case measure => simp [intOf]; omega
        · go_wp2_with fail
          go_roundw
          case rel => exact ⟨j + 1, by omega, by go_num, by rw [app_no HT4.out rfl]; exact O5.out, B5.out⟩
          case measure => simp [intOf]; omega
    · have hjm : j = ns.length := by omega
      have HF := Lib.hid (show OwnT wr w.heap.size (.slice A5 (chL (ns.take j) h2.has L L2).length c5) (chL ns h2.has L L2) by
        have e : ns.take j = ns := List.take_of_length_le (by omega)
        have h := HO.out
        rw [e] at h ⊢
        exact World.ownsRow.mono h B1.out.size)
      clear hbw hown
      go_wp2_with fail
      go_ret
      exact ⟨_, rfl, HF.out, GB.out⟩
end TabCg
end Go.Proofs.YtiagjnimafdbhaaGreatDoor
