/- pieces -/
import Derived.Lib.SlicesCompact
import Derived.Test.YtehainbhoflpnaaGreatDoorShelg
import Derived.Lib.OwnBridge
import Derived.Sort.OwnSortedInts
import Derived.Test.YtehainbhoflpnaaGreatDoorK32
import Derived.OpenShut
import Derived.ChangeArms
import Derived.FnData
namespace Go.Proofs.YtehainbhoflpnaaGreatDoor
namespace InsF
open Go.RowKit InsM Base InsA InsB Stru InsC
end InsF
namespace InsT
open Go.Lib
end InsT
namespace InsU
open Go.RowKit Base InsA InsT
def X4 (w : World) (base : Nat) (v : Value) (l : List Int) : Prop := w.ownsRow base 3 1 v l.length (l.map (Value.int .i64))
theorem X4.nil (w : World) (base : Nat) : X4 w base (.slice none 0 0) [] := World.ownsRow_nil _ _ _ _
theorem Zp1 : (Tryz.prog.info? 3).map (fun i => (i.zero, i.size, i.bytes)) = some (some (.int .i64 0), 1, 8) := by kernel_rfl
theorem zc6 (l : List Int) : ∀ u ∈ l.map (Value.int .i64), u.oneCell' = true := by
 intro u hu
 obtain ⟨t, _, rfl⟩ := List.mem_map.1 hu
 rfl
theorem appJ {ops : Array Oper} {rest : List Oper} {o : Oper} {a : Act} {w : World} {Q : Exit → Act → World → Prop} (hgd : o.guard = none) (s x : Operand)
 (ho : o.op = .call { callee := .builtin .append, args := #[s, x], argTypes := #[59, 59] })
 (base : Nat) (v : Value) (p : List Int) (hs : a.eval s = v) (hown : X4 w base v p) (A : Option Addr) (m c : Nat) (l : List Int) (hx : a.eval x = .slice A m c)
 (hm : m = l.length) (hr : Rds w A (l.map (Value.int .i64))) (hlen : p.length + l.length ≤ 1048576) (hbase : base ≤ w.heap.size)
 (h : ∀ v' w', X4 w' base v' (p ++ l) → w.grownBy w' v.ownBlock → wpList Tryz.prog ops Q rest (a.put o.dst v') w') : wpList Tryz.prog ops Q (o :: rest) a w := by
 obtain ⟨i0, hi, hz, hs1, hb1⟩ := info_parts Zp1
 refine Zk hgd s x 59 ho base 3 i0 _ 8 Tryz.underlying59 hi hz hs1 hb1 rfl v p.length (p.map (Value.int .i64)) hs hown A m c (l.map (Value.int .i64)) hx (by rw [List.length_map, hm]) hr (zc6 l) (by unfold maxLen; omega) (by omega) hbase ?_
 intro v' w' h1 h2
 refine h v' w' ?_ h2
 unfold X4
 rw [List.map_append, List.length_append, ← hm]
 exact h1
theorem Gg {B base : Nat} {v : Value} {p : List Int} {w0 w w' : World} (h : X4 w base v p) (hb : Below B w0 w) (hB : B ≤ base) (hs : B ≤ w.heap.size) (hg : w.grownBy w' v.ownBlock) : Below B w0 w' :=
 zV hb h hB hs hg
theorem vC {w w' : World} {base : Nat} {v : Value} {p : List Int} (h : X4 w base v p) (hb : Below w.heap.size w w') : X4 w' base v p := by
 obtain ⟨h1, h2⟩ := h
 refine ⟨h1, ?_⟩
 rcases h2 with h2 | ⟨g, cap, cur, a, b, c, d⟩
 · exact .inl h2
 · have hlt : g < w.heap.size := by
    rcases Nat.lt_or_ge g w.heap.size with hl | hl
    · exact hl
    · rw [Array.getElem?_eq_none hl] at c; cases c
   exact .inr ⟨g, cap, cur, a, b, by rw [hb.block g hlt]; exact c, d⟩
theorem X4.slice {w : World} {base : Nat} {v : Value} {p : List Int} (h : X4 w base v p) :
 ∃ A c, v = .slice A p.length c ∧ p.length ≤ c ∧ c ≤ maxLen ∧ Rds w A (p.map (Value.int .i64)) ∧ ∀ a, A = some a → base ≤ a.block ∧ a.block < w.heap.size := by
 obtain ⟨A, c, rfl, h1, h2, h3, _⟩ := zS h
 exact ⟨A, c, rfl, h1, h2, Rds.own h, fun a ha => ⟨(h3 a ha).1, (h3 a ha).2.1⟩⟩
end InsU
namespace InsV
open Go.RowKit Base InsM InsA InsB Stru InsC InsF InsT InsU
def Zn3 (w : World) (l : List Int) (e : Ending) (w' : World) : Prop := ∃ v, e = .returned v ∧ X4 w' w.heap.size v l ∧ Below w.heap.size w w'
theorem eqf {a b : Int} (h : a ≠ b) : (a == b) = false := by simpa using h
end InsV
namespace InsW
open Go.RowKit Base InsM InsA InsB Stru InsC InsT InsU InsV
theorem Vl (w : World) (x : Value) (t : TypeId) : Rds (w.alloc (.cells #[x] t)) (some ⟨w.heap.size, 0, none⟩) [x] := zB w #[x] t
end InsW
namespace InsX
open Go.RowKit Base InsM InsA InsB Stru InsC InsT InsU InsV InsW
set_option maxRecDepth 100000 in
set_option maxHeartbeats 1000000 in
theorem zs4 (A B : Option Addr) (a b : List Int) (m k c d : Nat) (w : World) (hm : m = a.length) (hk : k = b.length) (hmx : m ≤ maxLen) (hr : Rds w A (a.map (Value.int .i64))) (hr2 : Rds w B (b.map (Value.int .i64))) :
 Calls Tryz.prog 22 #[.slice A m c, .slice B k d] w fun e w' => e = .returned (.bool (decide (a = b))) ∧ Below w.heap.size w w' := by
 have hml : a.length ≤ m := Nat.le_of_eq hm.symm
 have hml2 : m ≤ a.length := Nat.le_of_eq hm
 have hkl : b.length ≤ k := Nat.le_of_eq hk.symm
 have hkl2 : k ≤ b.length := Nat.le_of_eq hk
 have Hr := zH hr
 have Hr2 := zH hr2
 unfold maxLen at hmx
 clear hm hk hr hr2
 by_cases hmk : m = k
 · have hb : ((m : Int) != (k : Int)) = false := by rw [hmk]; simp
   have hkm : k ≤ m := by omega
   have hmk' : m ≤ k := by omega
   clear hmk
   go_enter Tryz.func22, Tryz.ntmps22
   go_wp2_with fail
   go_loopw [5] (fun i wr => ∃ j : Nat, j ≤ m ∧ i = .int .i64 j ∧ a.take j = b.take j ∧ Below w.heap.size w wr) (fun i _ => m - (intOf i).toNat)
   case atStart => exact ⟨0, Nat.zero_le _, rfl, rfl, Below.refl _ _⟩
   case round =>
    obtain ⟨j, hj, rfl, hsame, hbel⟩ := hrel
    have Hsame := zH hsame
    have Hbel := zH hbel
    clear hsame
    by_cases hlt : j < m
    · have hja : j < a.length := by omega
      have hjb : j < b.length := by omega
      obtain ⟨b1, o1, rfl, hb1, hcell1⟩ := (Hr.out.below hbel).at_ (k := j) (by simp; omega)
      obtain ⟨b2, o2, rfl, hb2, hcell2⟩ := (Hr2.out.below hbel).at_ (k := j) (by simp; omega)
      have hc1 : wr.cell? ⟨b1, o1 + j, none⟩ = some (.int .i64 a[j]) := by rw [hcell1]; simp
      have hc2 : wr.cell? ⟨b2, o2 + j, none⟩ = some (.int .i64 b[j]) := by rw [hcell2]; simp
      have e1 : a.take (j + 1) = a.take j ++ [a[j]] := List.take_succ_eq_append_getElem hja
      have e2 : b.take (j + 1) = b.take j ++ [b[j]] := List.take_succ_eq_append_getElem hjb
      have hj1 : (j : Int) < (m : Int) := by omega
      have hj2 : (j : Int) < (k : Int) := by omega
      have hj0 : (0 : Int) ≤ (j : Int) := by omega
      clear hbel hcell1 hcell2
      cases hx : (a[j] == b[j])
      · have Hfin := zH (show decide (a = b) = false by
         rw [decide_eq_false_iff_not]
         intro h
         have : a[j] = b[j] := by subst h; rfl
         rw [this] at hx
         simp at hx)
        have hx' : (a[j] != b[j]) = true := by rw [bne, hx]; rfl
        clear e1 e2
        generalize a[j] = x at *
        generalize b[j] = y at *
        go_wp2_with fail
        go_quiet (fail)
        go_wp2_with fail
        go_ret
        exact ⟨by rw [Hfin.out]; rfl, drawn Hbel.out _⟩
      · have Hnext := zH (show a.take (j + 1) = b.take (j + 1) by rw [e1, e2, Hsame.out, eq_of_beq hx])
        have hx' : (a[j] != b[j]) = false := by rw [bne, hx]; rfl
        clear e1 e2
        generalize a[j] = x at *
        generalize b[j] = y at *
        go_wp2_with fail
        go_quiet (fail)
        go_wp2_with fail
        go_roundw
        case rel => exact ⟨j + 1, by omega, by go_num, Hnext.out, drawn Hbel.out _⟩
        case measure => simp [intOf]; omega
    · have Hfin := zH (show decide (a = b) = true by
       have h := Hsame.out
       rw [List.take_of_length_le (by omega), List.take_of_length_le (by omega)] at h
       simp [h])
      go_wp2_with fail
      go_ret
      exact ⟨by rw [Hfin.out]; rfl, hbel⟩
 · have hb : ((m : Int) != (k : Int)) = true := by simp; omega
   have Hfin := zH (show decide (a = b) = false by
    rw [decide_eq_false_iff_not]
    rintro rfl
    omega)
   clear hmk
   go_enter Tryz.func22, Tryz.ntmps22
   go_wp2_with fail
   go_ret
   exact ⟨by rw [Hfin.out]; rfl, Below.refl _ _⟩
end InsX
namespace KndK
open Go.RowKit Base BinM Stru DescM DescW DescX DescS DescG DescP DescQ HierS HierT HierM HierC HierD HierN HierV HierR HierU HierY Kls KlsP KlsQ OpenK TabC TabM TabK TabP TabE TabB TabG TabH TabT TabU TabV TabX TabW TabF TabN TabO TabY TabR TabQ TabL TabZ InsU InsV InsX KndB KndM KndS KndZ
def Y7 (k : Nat) : List T → List Int
 | [] => []
 | d :: l => if Zr d then (k : Int) :: Y7 (k + 1) l else Y7 (k + 1) l
def Q9 (l : List T) : List Int := Y7 0 l
theorem vk : ∀ (l : List T) (k : Nat), (Y7 k l).length ≤ l.length
 | [], k => by simp [Y7]
 | d :: l, k => by
   have h := vk l (k + 1)
   unfold Y7
   split <;> simp <;> omega
theorem vo : ∀ (l : List T) (d : T) (k : Nat), Y7 k (l ++ [d]) = Y7 k l ++ (if Zr d then [((k + l.length : Nat) : Int)] else [])
 | [], d, k => by cases h : Zr d <;> simp [Y7, h]
 | x :: l, d, k => by
   have h := vo l d (k + 1)
   have e : k + 1 + l.length = k + (x :: l).length := by simp; omega
   rw [e] at h
   rw [List.cons_append]
   unfold Y7
   rw [h]
   split <;> simp
theorem zi0 {l : List T} {j : Nat} (h : j < l.length) : Q9 (l.take (j + 1)) = Q9 (l.take j) ++ (if Zr l[j] then [(j : Int)] else []) := by
 rw [List.take_succ_eq_append_getElem h]
 unfold Q9
 rw [vo]
 have e : (0 + (l.take j).length : Nat) = j := by simp; omega
 rw [e]
set_option maxRecDepth 100000 in
set_option maxHeartbeats 1000000 in
theorem kU (A : Option Addr) (c : Nat) (l : List T) (w : World) (hm : l.length ≤ 1000) (hr : Rds w A (l.map sv)) (hl : ∀ x ∈ l, x.length ≤ 140737488355328) :
 Calls Tryz.prog 46 #[.slice A l.length c] w (Zn3 w (Q9 l)) := by
 have R := zH hr
 have Hl := zH hl
 have Z := zH (Below.refl w.heap.size w)
 clear hr hl
 go_enter Tryz.func46, Tryz.ntmps46
 go_wp2_with fail
 go_loopw [3, 4, 5, 8] (fun v _ _ i wr => ∃ j : Nat, j ≤ l.length ∧ i = .int .i64 j ∧ X4 wr w.heap.size v (Q9 (l.take j)) ∧ Below w.heap.size w wr) (fun _ _ _ i _ => l.length - (intOf i).toNat)
 case atStart => exact ⟨0, Nat.zero_le _, rfl, X4.nil _ _, Z.out⟩
 case round =>
  obtain ⟨j, hj, rfl, hown, hbw⟩ := hrel
  have Hbw := zH hbw
  have HO := zH hown
  have hsz := hbw.size
  have hlen : (Q9 (l.take j)).length ≤ 1000 := by
   have := vk (l.take j) 0
   rw [List.length_take] at this
   unfold Q9
   omega
  by_cases hlt : j < l.length
  · obtain ⟨b, o, rfl, hb, hc⟩ := (R.out.below hbw).at_ (k := j) (by simp; omega)
    rw [List.getElem_map] at hc
    have hji : (j : Int) < (l.length : Int) := by omega
    have hj0 : (0 : Int) ≤ (j : Int) := by omega
    have HT := zH (zi0 hlt)
    have HR := zH (DescX.yK l[j] wr (Hl.out _ (List.getElem_mem hlt)))
    simp only [sv] at hc
    clear hown hbw
    generalize l[j] = d at *
    generalize Q9 (l.take j) = p at *
    generalize Zr d = rb at *
    cases rb
    · have Hn := zH (show Q9 (l.take (j + 1)) = p by rw [HT.out]; simp)
      go_wp2_with fail
      refine HR.out.mono ?_
      rintro e w' ⟨rfl, rfl⟩
      go_wp2_with fail
      go_roundw
      case rel => exact ⟨j + 1, by omega, by go_num, by rw [Hn.out]; exact HO.out, Hbw.out⟩
      case measure => simp [intOf]; omega
    · have Hn := zH (show Q9 (l.take (j + 1)) = p ++ [(j : Int)] by rw [HT.out]; simp)
      go_wp2_with fail
      refine HR.out.mono ?_
      rintro e w' ⟨rfl, rfl⟩
      go_wp2_with (at_builtin
                   refine appJ rfl (.tmp 15) (.tmp 17) rfl w.heap.size _ p rfl (vC HO.out ((Below.refl _ _).alloc (Nat.le_refl _) _)) (some ⟨wr.heap.size, 0, none⟩) 1 1 [(j : Int)] rfl rfl (zB wr #[.int .i64 (j : Int)] 3) (by simp; omega) (by simp; omega) ?_
                   intro v2 w2 hown2 hg2
                   have Hb3 := zH (Gg (vC HO.out ((Below.refl _ _).alloc (Nat.le_refl _) _)) (Hbw.out.alloc (by omega) _) (Nat.le_refl _) (by simp; omega) hg2)
                   have Hown2 := zH hown2
                   clear hown2 hg2)
      go_roundw
      case rel => exact ⟨j + 1, by omega, by go_num, by rw [Hn.out]; exact Hown2.out, Hb3.out⟩
      case measure => simp [intOf]; omega
  · have e : l.take j = l := List.take_of_length_le (by omega)
    rw [e] at hown
    have HF := zH hown
    clear hown hbw e
    go_wp2_with fail
    go_ret
    exact ⟨_, rfl, HF.out, Hbw.out⟩
set_option maxRecDepth 100000 in
set_option maxHeartbeats 2000000 in
theorem zi1 (A B : Option Addr) (c d : Nat) (ls ss : List T) (w : World) (hm : ls.length ≤ 1000) (hk : ss.length ≤ 1000) (hr : Rds w A (ls.map sv)) (hr2 : Rds w B (ss.map sv)) (hl : ∀ x ∈ ls, x.length ≤ 140737488355328) (hs : ∀ x ∈ ss, x.length ≤ 140737488355328) :
 Calls Tryz.prog 21 #[.agg #[.slice A ls.length c, .slice B ss.length d]] w fun e w' => ∃ A1 c1 A2 c2, e = .returned (.tuple #[.slice A1 (Q9 ls).length c1, .slice A2 (Q9 ss).length c2]) ∧ Rds w' A1 ((Q9 ls).map (Value.int .i64)) ∧ Rds w' A2 ((Q9 ss).map (Value.int .i64)) ∧ Below w.heap.size w w' := by
 have hb1 : Below w.heap.size w (w.alloc (.cells #[.slice A ls.length c, .slice B ss.length d] 34)) := (Below.refl _ _).alloc (Nat.le_refl _) _
 have hx := Bx.new w #[.slice A ls.length c, .slice B ss.length d] 34
 have hs0 : w.heap.size < (w.alloc (.cells #[.slice A ls.length c, .slice B ss.length d] 34)).heap.size := by simp
 obtain ⟨W3, hW3⟩ : ∃ W, (w.alloc (.cells #[.slice A ls.length c, .slice B ss.length d] 34)) = W := ⟨_, rfl⟩
 rw [hW3] at hb1 hx hs0
 have HC1 : Hid (∀ W, Below W3.heap.size W3 W → Calls Tryz.prog 46 #[.slice A ls.length c] W fun e w' => ∃ A1 c1, e = .returned (.slice A1 (Q9 ls).length c1) ∧ Rds w' A1 ((Q9 ls).map (Value.int .i64)) ∧ Below W.heap.size W w') := zH (fun W hb => (kU A c ls W hm ((hr.below hb1).below hb) hl).mono (fun e w' ⟨v, h1, h2, h3⟩ => by
  obtain ⟨A1, c1, rfl, _, _, r, _⟩ := h2.slice
  exact ⟨A1, c1, h1, r, h3⟩))
 have HC2 : Hid (∀ W, Below W3.heap.size W3 W → Calls Tryz.prog 46 #[.slice B ss.length d] W fun e w' => ∃ A1 c1, e = .returned (.slice A1 (Q9 ss).length c1) ∧ Rds w' A1 ((Q9 ss).map (Value.int .i64)) ∧ Below W.heap.size W w') := zH (fun W hb => (kU B d ss W hk ((hr2.below hb1).below hb) hs).mono (fun e w' ⟨v, h1, h2, h3⟩ => by
  obtain ⟨A1, c1, rfl, _, _, r, _⟩ := h2.slice
  exact ⟨A1, c1, h1, r, h3⟩))
 have H1 := zH hx
 have HB := zH hb1
 have a0 : W3.cell? ⟨w.heap.size, 0, none⟩ = some (.slice A ls.length c) := hx.cell 0
 have a1 : W3.cell? ⟨w.heap.size, 1, none⟩ = some (.slice B ss.length d) := hx.cell 1
 clear hx hb1 hr hr2 hl hs
 generalize Q9 ls = P1 at *
 generalize Q9 ss = P2 at *
 go_enter Tryz.func21, Tryz.ntmps21
 go_wp2_with fail
 clear hW3
 have hB0 := Below.refl W3.heap.size W3
 have hB1 := hB0.drew
 go_region_held3 (fun w' => w'.cell? ⟨w.heap.size, 0, none⟩ = some (.slice A ls.length c) ∧ w'.cell? ⟨w.heap.size, 1, none⟩ = some (.slice B ss.length d))
  (first | (with_reducible exact ⟨a0, a1⟩) | (with_reducible exact ⟨x0, x1⟩) | (with_reducible exact ⟨y0, y1⟩) | go_keep)
  (first
   | (go_at_call 46
      have hG := hG1
      clear hG
      with_reducible refine (HC2.out _ hB4).mono ?_
      rintro e w5 ⟨A5, c5, rfl, r5, hb5⟩
      have hB5 := hB4.trans (hb5.mono hB4.size)
      have R4 := zH (r4.below hb5)
      have y0 : w5.cell? ⟨w.heap.size, 0, none⟩ = some (.slice A ls.length c) := (H1.out.after hB5).cell 0
      have y1 : w5.cell? ⟨w.heap.size, 1, none⟩ = some (.slice B ss.length d) := (H1.out.after hB5).cell 1)
   | (go_at_call 46
      with_reducible refine (HC1.out _ hB1).mono ?_
      rintro e w4 ⟨A4, c4, rfl, r4, hb4⟩
      have hG1 := hb4
      have hB4 := hB1.trans (hb4.mono hB1.size)
      have x0 : w4.cell? ⟨w.heap.size, 0, none⟩ = some (.slice A ls.length c) := (H1.out.after hB4).cell 0
      have x1 : w4.cell? ⟨w.heap.size, 1, none⟩ = some (.slice B ss.length d) := (H1.out.after hB4).cell 1))
 all_goals
  go_wp2_with fail
  go_ret2
  exact ⟨_, _, _, _, rfl, R4.out, r5, HB.out.trans (hB5.mono HB.out.size)⟩
theorem vI (A B : Option Addr) (a : List Int) (m k c d : Nat) (w : World) (hm : m = a.length) (hk : k = a.length) (hmx : m ≤ maxLen) (hr : Rds w A (a.map (Value.int .i64))) (hr2 : Rds w B (a.map (Value.int .i64))) :
 Calls Tryz.prog 22 #[.slice A m c, .slice B k d] w fun e w' => e = .returned (.bool true) ∧ Below w.heap.size w w' :=
 (zs4 A B a a m k c d w hm hk hmx hr hr2).mono fun e w' ⟨h1, h2⟩ => ⟨by rw [h1]; simp, h2⟩
theorem Zn8 {w : World} {t r : Nat} (h : Ux w t r) : ∃ (g : Nat) (hr : Hr), Tb w.heap.size w t g hr ∧ ∃ s0 s1 ff m0 m1, hr = mk (pairs (BL s0 s1 ff m0 m1)) := by
 obtain ⟨⟨lo, g, mb, n, A, c, C, f, s0, s1, ff, m0, m1, hTa, _, _, hwhy, _⟩, _⟩ := h
 exact ⟨g, _, ⟨⟨_, _, hTa.box⟩, hTa.box.lt, hTa.hier.mono hTa.base, (Yt hwhy).1⟩, s0, s1, ff, m0, m1, rfl⟩
set_option maxRecDepth 100000 in
theorem zy1 (s0 s1 ff m0 m1 : Nat) : zn5 (mk (pairs (BL s0 s1 ff m0 m1))) 10 [] [[73], [73]] = some ([], [[73]]) := by kernel_rfl
set_option maxRecDepth 100000 in
theorem zy0 (s0 s1 ff m0 m1 : Nat) : zn5 (mk (pairs (BL s0 s1 ff m0 m1))) 29 [] [[78], [73]] = none := by kernel_rfl
theorem zy7 : Q9 [[76, 65, 59], [73], []] = [0] := by decide
theorem zy6 : Q9 [[78]] = [0] := by decide
set_option maxRecDepth 100000 in
set_option maxHeartbeats 4000000 in
theorem Q0 (w : World) (hL : InsA.Laid w) : Calls Tryz.prog 6 #[] w fun e w' => e = .returned (.bool true) ∧ Below w.heap.size w w' := by
 have HO := zH (Ka w hL)
 clear hL
 go_enter Tryz.func6, Tryz.ntmps6
 go_wp2_with fail
 refine HO.out.mono ?_
 rintro e w1 ⟨t, r, rfl, hbs, hb1⟩
 obtain ⟨g, hr, hTb, s0, s1, ff, m0, m1, rfl⟩ := Zn8 hbs
 have B1 := zH hb1
 have HT := zH hTb
 have hal : Below w1.heap.size w1 (w1.alloc (.cells #[.string ⟨#[73]⟩, .string ⟨#[73]⟩] 9)) := (Below.refl _ _).alloc (Nat.le_refl _) _
 have HS := zH (kP (lo0 := w1.heap.size) hal.size (hTb.below hal) none 0 0 [86] 10 (.inl rfl) none 0 [] (some ⟨w1.heap.size, 0, none⟩) 2 [[73], [73]] (.inl rfl) (zB w1 #[sv [73], sv [73]] 9) (by simp) (by simp) (by simp))
 have G2 := zH hal
 rw [zy1] at HS
 clear hbs hb1 hTb hal
 go_wp2_with fail
 refine HS.out.mono ?_
 rintro e w3 ⟨⟨A3, c3, B3, d3, rfl, r3, r3'⟩, hb3⟩
 obtain ⟨b3, o3, rfl, hb3l, hc3⟩ := r3'.at_ (k := 0) (by simp)
 have K3 := zH (show Below w1.heap.size w1 w3 from G2.out.trans (hb3.mono G2.out.size))
 have C3 := zH hc3
 have L3 := zH hb3l
 have ha1 : Below w3.heap.size w3 (w3.alloc (.cells #[.slice A3 0 c3, .slice (some ⟨b3, o3, none⟩) 1 d3] 34)) := (Below.refl _ _).alloc (Nat.le_refl _) _
 have ha2 : Below w3.heap.size w3 ((w3.alloc (.cells #[.slice A3 0 c3, .slice (some ⟨b3, o3, none⟩) 1 d3] 34)).alloc (.cells #[.string ⟨#[78]⟩, .string ⟨#[73]⟩] 9)) := ha1.alloc (by simp) _
 have X3 := zH (TabZ.Zn (Bx.new w3 #[.slice A3 0 c3, .slice (some ⟨b3, o3, none⟩) 1 d3] 34) (.cells #[.string ⟨#[78]⟩, .string ⟨#[73]⟩] 9))
 have hr2 := zB (w3.alloc (.cells #[.slice A3 0 c3, .slice (some ⟨b3, o3, none⟩) 1 d3] 34)) #[sv [78], sv [73]] 9
 have es : (w3.alloc (.cells #[.slice A3 0 c3, .slice (some ⟨b3, o3, none⟩) 1 d3] 34)).heap.size = w3.heap.size + 1 := by simp
 rw [es] at hr2
 have G4 := zH ha2
 have hK4 := K3.out.trans (ha2.mono K3.out.size)
 have HS2 := zH (kP (lo0 := w1.heap.size) hK4.size (HT.out.below hK4) none 0 0 [86] 29 (.inr rfl) none 0 [] (some ⟨w3.heap.size + 1, 0, none⟩) 2 [[78], [73]] (.inl rfl) hr2 (by simp) (by simp) (by simp))
 rw [zy0] at HS2
 have B4 := zH (B1.out.trans (hK4.mono B1.out.size))
 clear ha1 ha2 hr2 es hK4 hb3 r3 r3' hb3l hc3 HS
 simp only [List.length_nil, List.length_cons] at *
 go_wp2_with fail
 refine HS2.out.mono ?_
 rintro e w5 ⟨rfl, hb5⟩
 have B5 := zH (B4.out.trans (hb5.mono B4.out.size))
 have G5 := zH (G4.out.trans (hb5.mono G4.out.size))
 have X5 := zH (X3.out.after hb5)
 have hc1 : Below w5.heap.size w5 (w5.alloc (.cells #[.slice none 0 0, .slice none 0 0] 34)) := (Below.refl _ _).alloc (Nat.le_refl _) _
 have e1 : (w5.alloc (.cells #[.slice none 0 0, .slice none 0 0] 34)).heap.size = w5.heap.size + 1 := by simp
 have e2 : ((w5.alloc (.cells #[.slice none 0 0, .slice none 0 0] 34)).alloc (.cells #[.string ⟨#[76, 65, 59]⟩, .string ⟨#[73]⟩, .string ⟨#[]⟩] 9)).heap.size = w5.heap.size + 1 + 1 := by simp
 have hc2 := hc1.alloc (by simp) (.cells #[.string ⟨#[76, 65, 59]⟩, .string ⟨#[73]⟩, .string ⟨#[]⟩] 9)
 have hc3 := hc2.alloc (by simp; omega) (.cells #[.string ⟨#[78]⟩] 9)
 have hr5 := (zB (w5.alloc (.cells #[.slice none 0 0, .slice none 0 0] 34)) #[sv [76, 65, 59], sv [73], sv []] 9).below ((Below.refl _ _).alloc (Nat.le_refl _) (.cells #[.string ⟨#[78]⟩] 9))
 have hr6 := zB ((w5.alloc (.cells #[.slice none 0 0, .slice none 0 0] 34)).alloc (.cells #[.string ⟨#[76, 65, 59]⟩, .string ⟨#[73]⟩, .string ⟨#[]⟩] 9)) #[sv [78]] 9
 rw [e1] at hr5
 rw [e2] at hr6
 have HRf := zH (zi1 (some ⟨w5.heap.size + 1, 0, none⟩) (some ⟨w5.heap.size + 1 + 1, 0, none⟩) 3 1 [[76, 65, 59], [73], []] [[78]] _ (by simp) (by simp) hr5 hr6 (by simp) (by simp))
 rw [zy7, zy6] at HRf
 have B6 := zH (B5.out.trans (hc3.mono B5.out.size))
 have G6 := zH (G5.out.trans (hc3.mono G5.out.size))
 have X6 := zH (X5.out.after hc3)
 clear hb5 hc1 e1 e2 hc2 hc3 hr5 hr6 HS2
 simp only [List.length_nil, List.length_cons] at HRf
 go_wp2_with fail
 refine HRf.out.mono ?_
 rintro e w7 ⟨A1, c1, A2, c2, rfl, r71, r72, hb7⟩
 have B7 := zH (B6.out.trans (hb7.mono B6.out.size))
 have G7 := zH (G6.out.trans (hb7.mono G6.out.size))
 have x71 : w7.cell? ⟨w3.heap.size, 1, none⟩ = some (.slice (some ⟨b3, o3, none⟩) 1 d3) := (X6.out.after hb7).cell 1
 have x7l := (X6.out.after hb7).lt
 have y7 : w7.cell? ⟨b3, o3, none⟩ = some (.string ⟨#[73]⟩) := (G7.out.cell (p := ⟨b3, o3, none⟩) L3.out).trans C3.out
 have hd : Below w7.heap.size w7 (w7.alloc (.cells #[.int .i64 0] 3)) := (Below.refl _ _).alloc (Nat.le_refl _) _
 have HI1 := zH (vI A1 (some ⟨w7.heap.size, 0, none⟩) [0] 1 1 c1 1 _ rfl rfl (by unfold maxLen; omega) (r71.below hd) (zB w7 #[.int .i64 0] 3))
 have R72 := zH (r72.below hd)
 have B8 := zH (B7.out.trans (hd.mono B7.out.size))
 clear hd r71 r72 hb7 HRf
 go_wp2_with fail
 refine HI1.out.mono ?_
 rintro e w9 ⟨rfl, hb9⟩
 have B9 := zH (B8.out.trans (hb9.mono B8.out.size))
 have hd : Below w9.heap.size w9 (w9.alloc (.cells #[.int .i64 0] 3)) := (Below.refl _ _).alloc (Nat.le_refl _) _
 have HI2 := zH (vI A2 (some ⟨w9.heap.size, 0, none⟩) [0] 1 1 c2 1 _ rfl rfl (by unfold maxLen; omega) ((R72.out.below hb9).below hd) (zB w9 #[.int .i64 0] 3))
 have B10 := zH (B9.out.trans (hd.mono B9.out.size))
 clear hd hb9 HI1
 go_wp2_with fail
 refine HI2.out.mono ?_
 rintro e w11 ⟨rfl, hb11⟩
 have B11 := zH (B10.out.trans (hb11.mono B10.out.size))
 clear hb11
 go_wp2_with fail
 go_ret
 exact ⟨rfl, B11.out⟩
end KndK
namespace OpenI
open Go.RowKit Go.ChangeShapes Go.WideShapes Go.Deep Base Stru Opened OpenS OpenG Kls OpenK
structure InT where
 op : Int
 a : Int
def InT.vals (x : InT) : List Value := [.int .i64 x.op, .int .i64 x.a]
def InT.V (x : InT) : Value := .agg #[.int .i64 x.op, .int .i64 x.a]
def InT.is (_ : World) (x : InT) : Prop := ZI x.op ∧ ZI x.a
def InT.lt (_ : InT) : Prop := True
section
variable {H : Type} {enc : TypeId × Value → H} {w : World}
theorem zi3 {n : Nat} {cs : Array Value} {d : DataW H} {p : List MemPlace} (h : Tr enc w n 24 (Value.agg cs).cells.toList d p) (hl : Light Tryz.prog 24 d) :
 ∃ x : InT, cs = (InT.vals x).toArray ∧ InT.is w x ∧ InT.lt x := by
 obtain ⟨x, e, h1, h2⟩ := zq3 (cs := cs.toList) h hl
 obtain ⟨x1, x2⟩ := x
 exact ⟨⟨x1, x2⟩, by rw [show InT.vals ⟨x1, x2⟩ = JG (x1, x2) from rfl, ← e], ⟨h1, h2⟩, trivial⟩
end
end OpenI
namespace OpenF
open Go.RowKit Go.ChangeShapes Go.WideShapes Go.Deep Base Stru Opened OpenS OpenG Kls OpenK
structure FrT where
 lA : Option Addr
 lm : Nat
 lc : Nat
 sA : Option Addr
 sm : Nat
 sc : Nat
 locals : List (List UInt8)
 stack : List (List UInt8)
def tv (t : List UInt8) : Value := .string ⟨t.toArray⟩
def FrT.vals (x : FrT) : List Value := [.slice x.lA x.lm x.lc, .slice x.sA x.sm x.sc]
def FrT.V (x : FrT) : Value := .agg #[.slice x.lA x.lm x.lc, .slice x.sA x.sm x.sc]
structure FrT.is (w : World) (x : FrT) : Prop where
 lm : x.lm = x.locals.length
 sm : x.sm = x.stack.length
 lc : x.lm ≤ x.lc ∧ x.lc ≤ maxLen
 sc : x.sm ≤ x.sc ∧ x.sc ≤ maxLen
 lr : Rds w x.lA (x.locals.map tv)
 sr : Rds w x.sA (x.stack.map tv)
structure FrT.lt (x : FrT) : Prop where
 locals : ∀ t ∈ x.locals, t.length ≤ 140737488351232
 stack : ∀ t ∈ x.stack, t.length ≤ 140737488351232
theorem Zd4 (l : List (List UInt8)) : (l.flatMap fun t => [tv t]) = l.map tv := by
 induction l with
 | nil => rfl
 | cons a l ih => rw [List.flatMap_cons, ih]; rfl
section
variable {H : Type} {enc : TypeId × Value → H} {w : World}
set_option maxRecDepth 100000 in
theorem zq4 {n : Nat} {cs : Array Value} {d : DataW H} {p : List MemPlace} (h : Tr enc w n 27 (Value.agg cs).cells.toList d p) (hl : Light Tryz.prog 27 d) :
 ∃ x : FrT, cs = (FrT.vals x).toArray ∧ FrT.is w x ∧ FrT.lt x := by
 have ce : Tryz.prog.cellsOf 27 = 2 := by kernel_rfl
 obtain ⟨hcl, hf⟩ := KS Tryz.underlying27 (cs := cs.toList) h hl
 rw [ce] at hcl
 obtain ⟨n0, y0, q0, t0, l0⟩ := hf 0 { name := "Locals", type := 25, offset := 0, embedded := false, tag := "", pkgPath := "", byteOffset := 0 } rfl
 dsimp only at t0 l0
 rw [show Tryz.prog.cellsOf 25 = 1 by kernel_rfl] at t0
 obtain ⟨n1, y1, q1, t1, l1⟩ := hf 1 { name := "Stack", type := 25, offset := 1, embedded := false, tag := "", pkgPath := "", byteOffset := 24 } rfl
 dsimp only at t1 l1
 rw [show Tryz.prog.cellsOf 25 = 1 by kernel_rfl] at t1
 obtain ⟨cl⟩ := cs
 match cl, hcl with
 | [x0, x1], _ =>
   obtain ⟨A0, m0, c0, s0, e0, hm0, hc0, hx0, hr0, hok0⟩ := open_list (k := 1) Tryz.underlying25 (by kernel_rfl) (by omega) (fun t => [tv t]) (fun t => t.length ≤ 140737488351232) (fun _ => rfl) (fun _ cs _ _ h hl => by
    obtain ⟨z, e, g, _⟩ := DataW.trod_string Tryz.underlying9 h
    obtain ⟨rfl, _⟩ := Prod.mk.inj g
    exact ⟨z.data.toList, e, hl.text⟩) t0 l0
   obtain rfl := (List.cons.inj e0).1
   obtain ⟨A1, m1, c1, s1, e1, hm1, hc1, hx1, hr1, hok1⟩ := open_list (k := 1) Tryz.underlying25 (by kernel_rfl) (by omega) (fun t => [tv t]) (fun t => t.length ≤ 140737488351232) (fun _ => rfl) (fun _ cs _ _ h hl => by
    obtain ⟨z, e, g, _⟩ := DataW.trod_string Tryz.underlying9 h
    obtain ⟨rfl, _⟩ := Prod.mk.inj g
    exact ⟨z.data.toList, e, hl.text⟩) t1 l1
   obtain rfl := (List.cons.inj e1).1
   rw [Zd4] at hr0 hr1
   exact ⟨⟨A0, m0, c0, A1, m1, c1, s0, s1⟩, rfl, ⟨hm0, hm1, ⟨hc0, hx0⟩, ⟨hc1, hx1⟩, hr0, hr1⟩, ⟨hok0, hok1⟩⟩
end
end OpenF
namespace LaidM
open Go.RowKit Go.ChangeShapes Go.WideShapes InsM InsA
def Zj4 (r : List UInt8 × Int) : DataW Unit := .agg [.lit (.string r.1), .lit (.int .i64 r.2)]
theorem gW : (Rows.laid_hornbook_ins_rows : DataW Unit) = .agg (UZ.map Zj4) := by rfl
theorem Zj3 (k : Nat) (hk : k < 46) : UZ[k]? = some (Qo k, yh k) := by
 have hl : UZ.length = 46 := rfl
 rw [List.getElem?_eq_getElem (by omega)]
 congr 1
 unfold Qo yh
 rw [List.getD_eq_getElem?_getD, List.getElem?_eq_getElem (by omega)]
 rfl
theorem Ku {P : Program} {w : World} {n : String} {d : DataW Unit} : ∀ {L : List (String × DataW Unit)} {ps : List MemPlace}, DataW.LaidVars P w L ps → (n, d) ∈ L →
 ∃ g t cs fuel p, P.globalNamed n = some g ∧ (P.globals[g]?).map (·.type) = some t ∧ w.var? P n = some cs ∧ DataW.trod (fun _ => ()) P w 0 (fun _ => true) false fuel t cs.toList = some (d, p)
 | (n', d') :: r, ps, h, hm => by
   obtain ⟨g, t, cs, fuel, p, q, hg, ht, hvar, hd, hr, _⟩ := h
   rcases List.mem_cons.1 hm with e | hm
   · obtain ⟨rfl, rfl⟩ := Prod.mk.inj e
     exact ⟨g, t, cs, fuel, p, hg, ht, hvar, hd⟩
   · exact Ku hr hm
theorem Zc4 (W : World) (L : List (String × DataW Unit)) (hm : ("hornbook/ins.rows", Rows.laid_hornbook_ins_rows) ∈ L) (h : laidMet Tryz.prog L W) : Laid W := by
 obtain ⟨ps, h1, _⟩ := h
 obtain ⟨g, t, cs, fuel, p, hg, ht, hvar, hd⟩ := Ku h1 hm
 have hg0 : Tryz.prog.globalNamed "hornbook/ins.rows" = some 0 := by kernel_rfl
 obtain rfl := Option.some.inj (hg0.symm.trans hg)
 have ht0 : (Tryz.prog.globals[0]?).map (·.type) = some 272 := by kernel_rfl
 obtain rfl := Option.some.inj (ht0.symm.trans ht)
 have hcell : ∀ i, W.cell? ⟨0, i, none⟩ = cs[i]? := fun i => World.var?_cell hg0 hvar i
 have hc86 : Tryz.prog.cellsOf 271 = 2 := by kernel_rfl
 have hc3 : Tryz.prog.cellsOf 3 = 1 := by kernel_rfl
 have hc9 : Tryz.prog.cellsOf 9 = 1 := by kernel_rfl
 obtain ⟨xs, m, _, hx, _, _, hrow⟩ := DataW.trod_array Tryz.underlying272 hd
 rw [gW] at hx
 simp only [Prod.mk.injEq, DataW.agg.injEq] at hx
 have key : ∀ k, k < 46 → cs[k * 2]? = some (.string ⟨(Qo k).toArray⟩) ∧ cs[k * 2 + 1]? = some (.int .i64 (yh k)) := by
  intro k hk
  have h1 := hrow k hk
  have h2 : (xs.map (·.1))[k]? = some (Zj4 (Qo k, yh k)) := by rw [← hx.1, List.getElem?_map, Zj3 k hk]; rfl
  rw [List.getElem?_map] at h2
  obtain ⟨y, hy, hy1⟩ := Option.map_eq_some_iff.1 h2
  rw [hy, hc86] at h1
  obtain ⟨y0, y1, n, hyy, hlen, t0, t1⟩ := trod_struct2 Tryz.underlying271 h1
  rw [hc86] at hlen
  simp only [hc3, hc9, List.drop_zero] at t0 t1
  obtain ⟨s, hs, e0, _⟩ := DataW.trod_string Tryz.underlying9 t0
  obtain ⟨z, hz, e1, _⟩ := DataW.trod_int Tryz.underlying3 t1
  rw [hyy] at hy1
  simp only [Zj4, DataW.agg.injEq, List.cons.injEq, and_true] at hy1
  rw [e0, e1] at hy1
  simp only [DataW.lit.injEq, Lit.string.injEq, Lit.int.injEq, true_and] at hy1
  obtain ⟨hy0, rfl⟩ := hy1
  have hs' : s = ⟨(Qo k).toArray⟩ := by rw [← hy0]
  subst hs'
  have g0 : (cs.toList.drop (k * 2))[0]? = some (.string ⟨(Qo k).toArray⟩) := by
   have := congrArg (·[0]?) hs
   simpa [List.getElem?_take] using this
  have g1 : (cs.toList.drop (k * 2))[1]? = some (.int .i64 (yh k)) := by
   have := congrArg (·[0]?) hz
   simpa [List.getElem?_take, List.getElem?_drop] using this
  rw [List.getElem?_drop] at g0 g1
  exact ⟨by simpa using g0, by simpa using g1⟩
 have hc0 := (hcell (0 * 2)).trans (key 0 (by omega)).1
 exact ⟨World.block_lt_of_cell? W _ hc0, fun k hk => ⟨(hcell _).trans (key k hk).1, (hcell _).trans (key k hk).2⟩⟩
def gX : Array Value := (UZ.flatMap fun r => [.string ⟨r.1.toArray⟩, .int .i64 r.2]).toArray
end LaidM
end Go.Proofs.YtehainbhoflpnaaGreatDoor
