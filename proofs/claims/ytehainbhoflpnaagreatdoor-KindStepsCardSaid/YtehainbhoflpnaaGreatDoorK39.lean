/- pieces -/
import Derived.Test.YtehainbhoflpnaaGreatDoorK38
import Derived.Test.YtehainbhoflpnaaGreatDoorK35
namespace Go.Proofs.YtehainbhoflpnaaGreatDoor
namespace KrC
open Go.RowKit Base BinM Stru DescM DescW DescX DescS DescG DescP DescQ HierS HierT HierM HierC HierD HierN HierV HierR HierU HierY HierQ Kls KlsP KlsQ OpenK TabC TabM TabK TabP TabE TabB TabG TabH TabT TabU TabV TabX TabW TabF TabN TabO TabY TabR TabQ TabL KndM KndS KrS KrA KrP KrB
open KndP (Qv)
open KndW (mtE qI QV jh)
theorem Ze0 (d : T) : (zM d).1.length ≤ d.length := by
 unfold zM
 split <;> simp
set_option maxRecDepth 100000 in
theorem Zb6 {w : World} {b r : Nat} {s : RS} (h : Sk w b r s.1 s.2) (hf : Few 800 s) (gv : T) : Calls Tryz.prog 67 #[.pointer (some ⟨b, 0, none⟩), .int .i64 29, .string ⟨gv.toArray⟩] w (zw w b r (zC (zM (ZL (zK [73] s))).1 (jQ (zK [73] s)))) := by
 go_enter Tryz.func67, Tryz.ntmps67
 go_wp2_with fail
 refine (ZN h (hf.mono (by omega)) [73]).mono ?_
 rintro e w1 ⟨rfl, hs, hg⟩
 have HS1 := zH hs
 have HG1 := zH hg
 have HF1 := zH (hf.want [73])
 clear hs hg
 go_wp2_with fail
 refine (c_arr HS1.out (HF1.out.mono (by omega))).mono ?_
 rintro e w2 ⟨rfl, hs, hg⟩
 have HS2 := zH hs
 have HG2 := zH (za HG1.out hg)
 have HF2 := zH HF1.out.arr
 clear hs hg
 go_wp2_with fail
 refine (Zp HS2.out (HF2.out.mono (by omega)) _).mono ?_
 rintro e w3 ⟨rfl, hs, hg⟩
 have HS3 := zH hs
 have HG3 := zH (za HG2.out hg)
 clear hs hg
 go_wp2_with fail
 go_end0
 exact ⟨rfl, HS3.out, HG3.out⟩
set_option maxRecDepth 100000 in
set_option maxHeartbeats 2000000 in
theorem Zb5 {lo g : Nat} {ps : List P2} {w : World} {b r : Nat} {s : RS} (H : TbR lo w r g ps) (hb : lo ≤ b) (h : Sk w b r s.1 s.2) (hf : Few 800 s) (gv : T) : Calls Tryz.prog 67 #[.pointer (some ⟨b, 0, none⟩), .int .i64 30, .string ⟨gv.toArray⟩] w (zw w b r (zL ((mk ps).sub (ZL s) (zM (ZL (zK [73] (qb s)))).1) (jQ (zK [73] (qb s))))) := by
 have hlow : lo ≤ w.heap.size := by have := h.lt; omega
 have HT := zH (fun W (hW : Below lo w W) => H.below hW)
 have HFt := zH hf.top
 go_enter Tryz.func67, Tryz.ntmps67
 go_wp2_with fail
 refine (gG h (hf.mono (by omega))).mono ?_
 rintro e w1 ⟨rfl, hs, hg⟩
 have HS1 := zH hs
 have HG1 := zH hg
 have HF1 := zH hf.pop
 clear hs hg
 go_wp2_with fail
 refine (ZN HS1.out (HF1.out.mono (by omega)) [73]).mono ?_
 rintro e w2 ⟨rfl, hs, hg⟩
 have HS2 := zH hs
 have HG2 := zH (za HG1.out hg)
 have HF2 := zH (HF1.out.want [73])
 clear hs hg
 go_wp2_with fail
 refine (c_arr HS2.out (HF2.out.mono (by omega))).mono ?_
 rintro e w3 ⟨rfl, hs, hg⟩
 have HS3 := zH hs
 have HG3 := zH (za HG2.out hg)
 have hel := Nat.le_trans (Ze0 (ZL (zK [73] (qb s)))) HF2.out.top
 have HB3 := below_grown HG3.out hb hlow
 have HT3 := HT.out w3 HB3
 have HSub := zH (kN lo g ps (ZL s) (zM (ZL (zK [73] (qb s)))).1 w3 HT3.hier (Nat.le_trans hlow HB3.size) HT3.can (by have := HFt.out; omega) (by omega))
 have c0 := hs.flag.2.2
 have c1 := KY HT3
 have hbl := hs.lt
 have hrl : r < w3.heap.size := Nat.lt_of_lt_of_le HT3.low (Nat.le_trans hlow HB3.size)
 generalize (mk ps).sub (ZL s) (zM (ZL (zK [73] (qb s)))).1 = sb at *
 clear hs hg HT3 HB3 hel
 go_wp2_with fail
 refine HSub.out.mono ?_
 rintro e w4 ⟨rfl, hb4⟩
 have HS4 := HS3.out.ext hb4
 have HG4 := zH (za HG3.out (grown_of (some b) hb4))
 go_wp2_with fail
 refine (qB (s := jQ (zK [73] (qb s))) HS4 sb).mono ?_
 rintro e w5 ⟨rfl, hs, hg⟩
 have HS5 := zH hs
 have HG5 := zH (za HG4.out hg)
 clear hs hg
 go_wp2_with fail
 go_end0
 exact ⟨rfl, HS5.out, HG5.out⟩
set_option maxRecDepth 100000 in
theorem Zb3 {lo g : Nat} {ps : List P2} {w : World} {b r : Nat} {s : RS} (H : TbR lo w r g ps) (hb : lo ≤ b) (h : Sk w b r s.1 s.2) (hf : Few 800 s) (gv : T) (hgv : gv.length ≤ 140737488351232) : Calls Tryz.prog 67 #[.pointer (some ⟨b, 0, none⟩), .int .i64 33, .string ⟨gv.toArray⟩] w (zw w b r (Zd (mk ps) gv (zL (!(gv == [86])) s))) := by
 have hlow : lo ≤ w.heap.size := by have := h.lt; omega
 have hx : ∀ x, (gv == [86]) = x → Calls Tryz.prog 67 #[.pointer (some ⟨b, 0, none⟩), .int .i64 33, .string ⟨gv.toArray⟩] w (zw w b r (Zd (mk ps) gv (zL (!x) s))) := by
  intro x hx
  cases x
  all_goals
   go_enter Tryz.func67, Tryz.ntmps67
   go_wp2_with fail
   refine (qB h _).mono ?_
   rintro e w1 ⟨rfl, hs, hg⟩
   have HS1 := zH hs
   have HG1 := zH hg
   clear hs hg
   go_wp2_with fail
   refine (Ul HS1.out ((hf.need _).mono (by omega)) (H.below (below_grown HG1.out hb hlow)) hb gv hgv).mono ?_
   rintro e w2 ⟨rfl, hs, hg⟩
   have HS2 := zH hs
   have HG2 := zH (za HG1.out hg)
   clear hs hg
   go_wp2_with fail
   go_end0
   exact ⟨rfl, HS2.out, HG2.out⟩
 exact hx _ rfl
set_option maxRecDepth 100000 in
theorem Zb2 {w : World} {b r : Nat} {s : RS} (h : Sk w b r s.1 s.2) (gv : T) : Calls Tryz.prog 67 #[.pointer (some ⟨b, 0, none⟩), .int .i64 34, .string ⟨gv.toArray⟩] w (zw w b r (zL (gv == [86]) s)) := by
 have hx : ∀ x, (gv == [86]) = x → Calls Tryz.prog 67 #[.pointer (some ⟨b, 0, none⟩), .int .i64 34, .string ⟨gv.toArray⟩] w (zw w b r (zL x s)) := by
  intro x hx
  cases x
  all_goals
   go_enter Tryz.func67, Tryz.ntmps67
   go_wp2_with fail
   refine (qB h _).mono ?_
   rintro e w1 ⟨rfl, hs, hg⟩
   have HS1 := zH hs
   have HG1 := zH hg
   clear hs hg
   go_wp2_with fail
   go_end0
   exact ⟨rfl, HS1.out, HG1.out⟩
 exact hx _ rfl
def shown (x : T) : Bool := x == [73] || x == [66] || x == [83]
set_option maxRecDepth 100000 in
theorem Za8 {w : World} {b r : Nat} {s : RS} (h : Sk w b r s.1 s.2) (hf : Few 800 s) (gv : T) : Calls Tryz.prog 67 #[.pointer (some ⟨b, 0, none⟩), .int .i64 40, .string ⟨gv.toArray⟩] w (zw w b r (zL (shown (ZL s)) (qb s))) := by
 have HP := zH (gG h (hf.mono (by omega)))
 unfold shown
 generalize ZL s = x at *
 generalize qb s = q at *
 clear h hf
 cases h1 : x == [73] <;> cases h2 : x == [66] <;> cases h3 : x == [83]
 all_goals
  go_enter Tryz.func67, Tryz.ntmps67
  go_wp2_with fail
  refine HP.out.mono ?_
  rintro e w1 ⟨rfl, hs, hg⟩
  have HS1 := zH hs
  have HG1 := zH hg
  clear hs hg
  go_wp2_with fail
  refine (qB HS1.out _).mono ?_
  rintro e w2 ⟨rfl, hs, hg⟩
  have HS2 := zH hs
  have HG2 := zH (za HG1.out hg)
  clear hs hg
  go_wp2_with fail
  go_end0
  exact ⟨rfl, HS2.out, HG2.out⟩
def zh9 (E : T → List zG) (x : T) : Bool := (zq x).2 && (mtE (E (zq x).1) QV).sig == jh
theorem zy2 {l : List zG} (h : Ze (Zl QV) l < 0) : ((mtE l QV).sig == jh) = false := by
 unfold mtE
 rw [if_pos h]
 rfl
set_option maxRecDepth 100000 in
set_option maxHeartbeats 2000000 in
theorem Za5 {lo g : Nat} {ps : List P2} {E : T → List zG} {w : World} {b r : Nat} {s : RS} (H : TbR lo w r g ps) (hb : lo ≤ b) (h : Sk w b r s.1 s.2) (hf : Few 800 s)
 (HM : ∀ W, Below lo w W → ∀ q, Calls Tryz.prog 65 #[.pointer (some ⟨r, 0, none⟩), .string ⟨q.toArray⟩, .string ⟨QV.toArray⟩] W fun e w' => J5 (E q) QV e ∧ Below W.heap.size W w') (gv : T) :
 Calls Tryz.prog 67 #[.pointer (some ⟨b, 0, none⟩), .int .i64 44, .string ⟨gv.toArray⟩] w (zw w b r (zL (zh9 E (ZL s)) (qb s))) := by
 have hlow : lo ≤ w.heap.size := by have := h.lt; omega
 have HP := zH (gG h (hf.mono (by omega)))
 have HT := zH (fun W (hW : Below lo w W) => H.below hW)
 have HC := zH (fun W => DescR.Za (ZL s) W (by have := hf.top; omega))
 have HMh0 : ∀ W, Below lo w W → Calls Tryz.prog 65 #[.pointer (some ⟨r, 0, none⟩), .string ⟨(zq (ZL s)).1.toArray⟩, .string ⟨#[114, 117, 110]⟩] W fun e w' => e = .returned (.tuple #[.agg #[.string ⟨(mtE (E (zq (ZL s)).1) QV).name.toArray⟩, .string ⟨(mtE (E (zq (ZL s)).1) QV).sig.toArray⟩, .string ⟨(mtE (E (zq (ZL s)).1) QV).cls.toArray⟩], .int .i64 (Ze (Zl QV) (E (zq (ZL s)).1))]) ∧ Below W.heap.size W w' :=
  fun W hW => (HM W hW (zq (ZL s)).1).mono (fun e w' ⟨h1, h2⟩ => ⟨qI h1, h2⟩)
 have HMh := zH HMh0
 clear HMh0
 have hno := @zy2 (E (zq (ZL s)).1)
 unfold zh9
 unfold J7 at HC
 clear h hf HM
 generalize ZL s = x at *
 generalize qb s = q at *
 generalize zq x = cx at *
 obtain ⟨cn, cb⟩ := cx
 simp only at HC HP HMh hno ⊢
 generalize mtE (E cn) QV = m at *
 generalize Ze (Zl QV) (E cn) = k at *
 obtain ⟨m0, m1, m2⟩ := m
 simp only at hno HMh ⊢
 unfold jh at hno ⊢
 cases hs0 : m1 == [40, 41, 86]
 all_goals
  rcases Int.lt_or_le k 0 with hk | hk
  all_goals
   cases cb
   all_goals
    first
     | (rw [hno hk] at hs0; cases hs0; done)
     | (go_enter Tryz.func67, Tryz.ntmps67
        go_wp2_with fail
        refine HP.out.mono ?_
        rintro e w1 ⟨rfl, hs, hg⟩
        have HS1 := zH hs
        have HG1 := zH hg
        clear hs hg
        go_wp2_with fail
        refine (HC.out _).mono ?_
        rintro e w2 ⟨rfl, rfl⟩
        have HB1 := below_grown HG1.out hb hlow
        have HT1 := HT.out w1 HB1
        have c0 := HS1.out.flag.2.2
        have hbl := HS1.out.lt
        have HMw := zH (HMh.out w1 HB1)
        clear HT1 HB1
        go_wp2_with fail
        refine HMw.out.mono ?_
        rintro e w3 ⟨rfl, hb3⟩
        have HS3h := zH (HS1.out.ext hb3)
        have HG3 := zH (za HG1.out (grown_of (some b) hb3))
        have Z3 := zH ((Below.refl w3.heap.size w3).alloc (Nat.le_refl _) (.cells #[.string ⟨m0.toArray⟩, .string ⟨m1.toArray⟩, .string ⟨m2.toArray⟩] 138))
        clear hb3
        go_wp2_with fail
        refine (qB (HS3h.out.ext Z3.out) _).mono ?_
        rintro e w5 ⟨rfl, hs5, hg5⟩
        have HS5 := zH hs5
        have HG5 := zH (za (za HG3.out (grown_of (some b) Z3.out)) hg5)
        clear hs5 hg5
        go_wp2_with fail
        go_end0
        exact ⟨rfl, HS5.out, HG5.out⟩)
end KrC
namespace KrG
open Go.RowKit Base BinM Stru DescM DescW DescX DescS DescG DescP DescQ HierS HierT HierM HierC HierD HierN HierV HierR HierU HierY HierQ Kls KlsP KlsQ OpenK TabC TabM TabK TabP TabE TabB TabG TabH TabT TabU TabV TabX TabW TabF TabN TabO TabY TabR TabQ TabL KndM KndS KrS KrA KrP KrB KrC
open KndP (Qv)
open KndW (mtE qI QV jh)
def Zq7 (s : RS) : RS := (s.1, true)
set_option maxRecDepth 100000 in
theorem zo6 {w : World} {b r : Nat} {s : RS} (gv : T) (hm : Calls Tryz.prog 67 #[.pointer (some ⟨b, 0, none⟩), .int .i64 29, .string ⟨gv.toArray⟩] w (zw w b r s)) : Calls Tryz.prog 31 #[.pointer (some ⟨b, 0, none⟩), .int .i64 29, .string ⟨gv.toArray⟩] w (zw w b r s) := by
 go_enter Tryz.func31, Tryz.ntmps31
 go_wp2_with fail
 refine hm.mono ?_
 rintro e w1 ⟨rfl, hs, hg⟩
 have HS1 := zH hs
 have HG1 := zH hg
 clear hs hg
 go_wp2_with fail
 go_end0
 exact ⟨rfl, HS1.out, HG1.out⟩
set_option maxRecDepth 100000 in
theorem uJ {w : World} {b r : Nat} {s : RS} (gv : T) (hm : Calls Tryz.prog 67 #[.pointer (some ⟨b, 0, none⟩), .int .i64 30, .string ⟨gv.toArray⟩] w (zw w b r s)) : Calls Tryz.prog 31 #[.pointer (some ⟨b, 0, none⟩), .int .i64 30, .string ⟨gv.toArray⟩] w (zw w b r s) := by
 go_enter Tryz.func31, Tryz.ntmps31
 go_wp2_with fail
 refine hm.mono ?_
 rintro e w1 ⟨rfl, hs, hg⟩
 have HS1 := zH hs
 have HG1 := zH hg
 clear hs hg
 go_wp2_with fail
 go_end0
 exact ⟨rfl, HS1.out, HG1.out⟩
set_option maxRecDepth 100000 in
theorem uI {w : World} {b r : Nat} {s : RS} (gv : T) (hm : Calls Tryz.prog 67 #[.pointer (some ⟨b, 0, none⟩), .int .i64 31, .string ⟨gv.toArray⟩] w (zw w b r s)) : Calls Tryz.prog 31 #[.pointer (some ⟨b, 0, none⟩), .int .i64 31, .string ⟨gv.toArray⟩] w (zw w b r s) := by
 go_enter Tryz.func31, Tryz.ntmps31
 go_wp2_with fail
 refine hm.mono ?_
 rintro e w1 ⟨rfl, hs, hg⟩
 have HS1 := zH hs
 have HG1 := zH hg
 clear hs hg
 go_wp2_with fail
 go_end0
 exact ⟨rfl, HS1.out, HG1.out⟩
set_option maxRecDepth 100000 in
theorem uH {w : World} {b r : Nat} {s : RS} (gv : T) (hm : Calls Tryz.prog 67 #[.pointer (some ⟨b, 0, none⟩), .int .i64 33, .string ⟨gv.toArray⟩] w (zw w b r s)) : Calls Tryz.prog 31 #[.pointer (some ⟨b, 0, none⟩), .int .i64 33, .string ⟨gv.toArray⟩] w (zw w b r s) := by
 go_enter Tryz.func31, Tryz.ntmps31
 go_wp2_with fail
 refine hm.mono ?_
 rintro e w1 ⟨rfl, hs, hg⟩
 have HS1 := zH hs
 have HG1 := zH hg
 clear hs hg
 go_wp2_with fail
 go_end0
 exact ⟨rfl, HS1.out, HG1.out⟩
set_option maxRecDepth 100000 in
theorem uG {w : World} {b r : Nat} {s : RS} (gv : T) (hm : Calls Tryz.prog 67 #[.pointer (some ⟨b, 0, none⟩), .int .i64 34, .string ⟨gv.toArray⟩] w (zw w b r s)) : Calls Tryz.prog 31 #[.pointer (some ⟨b, 0, none⟩), .int .i64 34, .string ⟨gv.toArray⟩] w (zw w b r s) := by
 go_enter Tryz.func31, Tryz.ntmps31
 go_wp2_with fail
 refine hm.mono ?_
 rintro e w1 ⟨rfl, hs, hg⟩
 have HS1 := zH hs
 have HG1 := zH hg
 clear hs hg
 go_wp2_with fail
 go_end0
 exact ⟨rfl, HS1.out, HG1.out⟩
set_option maxRecDepth 100000 in
theorem uF {w : World} {b r : Nat} {s : RS} (gv : T) (hm : Calls Tryz.prog 67 #[.pointer (some ⟨b, 0, none⟩), .int .i64 35, .string ⟨gv.toArray⟩] w (zw w b r s)) : Calls Tryz.prog 31 #[.pointer (some ⟨b, 0, none⟩), .int .i64 35, .string ⟨gv.toArray⟩] w (zw w b r s) := by
 go_enter Tryz.func31, Tryz.ntmps31
 go_wp2_with fail
 refine hm.mono ?_
 rintro e w1 ⟨rfl, hs, hg⟩
 have HS1 := zH hs
 have HG1 := zH hg
 clear hs hg
 go_wp2_with fail
 go_end0
 exact ⟨rfl, HS1.out, HG1.out⟩
set_option maxRecDepth 100000 in
theorem uE {w : World} {b r : Nat} {s : RS} (gv : T) (hm : Calls Tryz.prog 67 #[.pointer (some ⟨b, 0, none⟩), .int .i64 36, .string ⟨gv.toArray⟩] w (zw w b r s)) : Calls Tryz.prog 31 #[.pointer (some ⟨b, 0, none⟩), .int .i64 36, .string ⟨gv.toArray⟩] w (zw w b r s) := by
 go_enter Tryz.func31, Tryz.ntmps31
 go_wp2_with fail
 refine hm.mono ?_
 rintro e w1 ⟨rfl, hs, hg⟩
 have HS1 := zH hs
 have HG1 := zH hg
 clear hs hg
 go_wp2_with fail
 go_end0
 exact ⟨rfl, HS1.out, HG1.out⟩
set_option maxRecDepth 100000 in
theorem uD {w : World} {b r : Nat} {s : RS} (gv : T) (hm : Calls Tryz.prog 67 #[.pointer (some ⟨b, 0, none⟩), .int .i64 37, .string ⟨gv.toArray⟩] w (zw w b r s)) : Calls Tryz.prog 31 #[.pointer (some ⟨b, 0, none⟩), .int .i64 37, .string ⟨gv.toArray⟩] w (zw w b r s) := by
 go_enter Tryz.func31, Tryz.ntmps31
 go_wp2_with fail
 refine hm.mono ?_
 rintro e w1 ⟨rfl, hs, hg⟩
 have HS1 := zH hs
 have HG1 := zH hg
 clear hs hg
 go_wp2_with fail
 go_end0
 exact ⟨rfl, HS1.out, HG1.out⟩
set_option maxRecDepth 100000 in
theorem uz {w : World} {b r : Nat} {s : RS} (gv : T) (hm : Calls Tryz.prog 67 #[.pointer (some ⟨b, 0, none⟩), .int .i64 40, .string ⟨gv.toArray⟩] w (zw w b r s)) : Calls Tryz.prog 31 #[.pointer (some ⟨b, 0, none⟩), .int .i64 40, .string ⟨gv.toArray⟩] w (zw w b r s) := by
 go_enter Tryz.func31, Tryz.ntmps31
 go_wp2_with fail
 refine hm.mono ?_
 rintro e w1 ⟨rfl, hs, hg⟩
 have HS1 := zH hs
 have HG1 := zH hg
 clear hs hg
 go_wp2_with fail
 go_end0
 exact ⟨rfl, HS1.out, HG1.out⟩
set_option maxRecDepth 100000 in
theorem uw {w : World} {b r : Nat} {s : RS} (gv : T) (hm : Calls Tryz.prog 67 #[.pointer (some ⟨b, 0, none⟩), .int .i64 42, .string ⟨gv.toArray⟩] w (zw w b r s)) : Calls Tryz.prog 31 #[.pointer (some ⟨b, 0, none⟩), .int .i64 42, .string ⟨gv.toArray⟩] w (zw w b r s) := by
 go_enter Tryz.func31, Tryz.ntmps31
 go_wp2_with fail
 refine hm.mono ?_
 rintro e w1 ⟨rfl, hs, hg⟩
 have HS1 := zH hs
 have HG1 := zH hg
 clear hs hg
 go_wp2_with fail
 go_end0
 exact ⟨rfl, HS1.out, HG1.out⟩
set_option maxRecDepth 100000 in
theorem uq {w : World} {b r : Nat} {s : RS} (gv : T) (hm : Calls Tryz.prog 67 #[.pointer (some ⟨b, 0, none⟩), .int .i64 43, .string ⟨gv.toArray⟩] w (zw w b r s)) : Calls Tryz.prog 31 #[.pointer (some ⟨b, 0, none⟩), .int .i64 43, .string ⟨gv.toArray⟩] w (zw w b r s) := by
 go_enter Tryz.func31, Tryz.ntmps31
 go_wp2_with fail
 refine hm.mono ?_
 rintro e w1 ⟨rfl, hs, hg⟩
 have HS1 := zH hs
 have HG1 := zH hg
 clear hs hg
 go_wp2_with fail
 go_end0
 exact ⟨rfl, HS1.out, HG1.out⟩
set_option maxRecDepth 100000 in
theorem uo {w : World} {b r : Nat} {s : RS} (gv : T) (hm : Calls Tryz.prog 67 #[.pointer (some ⟨b, 0, none⟩), .int .i64 44, .string ⟨gv.toArray⟩] w (zw w b r s)) : Calls Tryz.prog 31 #[.pointer (some ⟨b, 0, none⟩), .int .i64 44, .string ⟨gv.toArray⟩] w (zw w b r s) := by
 go_enter Tryz.func31, Tryz.ntmps31
 go_wp2_with fail
 refine hm.mono ?_
 rintro e w1 ⟨rfl, hs, hg⟩
 have HS1 := zH hs
 have HG1 := zH hg
 clear hs hg
 go_wp2_with fail
 go_end0
 exact ⟨rfl, HS1.out, HG1.out⟩
end KrG
namespace KrD
open Go.RowKit Base BinM Stru DescM DescW DescX DescS DescG DescP DescQ HierS HierT HierM HierC HierD HierN HierV HierR HierU HierY HierQ Kls KlsP KlsQ OpenK TabC TabM TabK TabP TabE TabB TabG TabH TabT TabU TabV TabX TabW TabF TabN TabO TabY TabR TabQ TabL KndM KndS KrS KrA KrP KrB KrC
open KndP (Qv)
open KndW (mtE qI QV jh)
theorem still {f : Nat} {a : Array Value} {w : World} {v : Value} (h : Calls Tryz.prog f a w fun e w' => e = .returned v ∧ w = w') : Calls Tryz.prog f a w fun e w'' => e = .returned v ∧ w'' = w := h.mono fun _ _ ⟨a, b⟩ => ⟨a, b.symm⟩
theorem zo {W w' : World} {b q : Nat} {C : Array Value} {t : TypeId} (h : Bx W q C t) (hg : W.grownBy w' (some b)) (hn : q ≠ b) : Bx w' q C t := (hg.block q h.lt (fun e => by injection e with e; omega)).trans h
set_option maxRecDepth 100000 in
set_option maxHeartbeats 2000000 in
theorem zu6 {w : World} {b r : Nat} {s : RS} (h : Sk w b r s.1 s.2) (hf : Few 800 s) (kk nn : Int) (S T' U : T) (hS : S.length ≤ 140737488351232) :
 Calls Tryz.prog 30 #[.pointer (some ⟨b, 0, none⟩), .int .i64 1, .agg #[.int .i64 kk, .int .i64 nn, .string ⟨S.toArray⟩, .string ⟨T'.toArray⟩, .string ⟨U.toArray⟩]] w (zw w b r (zC [73] s)) := by
 have hqb : w.heap.size ≠ b := by have := h.lt; omega
 have A0 := ((Below.refl w.heap.size w).alloc (Nat.le_refl _) (.cells #[.int .i64 kk, .int .i64 nn, .string ⟨S.toArray⟩, .string ⟨T'.toArray⟩, .string ⟨U.toArray⟩] 75))
 have HS0 := zH (h.ext A0)
 have HG0 := zH (grown_of (some b) A0)
 have HBx := zH (Bx.new w #[.int .i64 kk, .int .i64 nn, .string ⟨S.toArray⟩, .string ⟨T'.toArray⟩, .string ⟨U.toArray⟩] 75)
 have hCl := zH (fun W => DescR.Za S W (by omega))
 unfold J7 at hCl
 clear A0
 obtain ⟨W0, hW0⟩ : ∃ W, w.alloc (.cells #[.int .i64 kk, .int .i64 nn, .string ⟨S.toArray⟩, .string ⟨T'.toArray⟩, .string ⟨U.toArray⟩] 75) = W := ⟨_, rfl⟩
 rw [hW0] at HS0 HG0 HBx
 have k2 := HBx.out.cell 2
 have kl := HBx.out.lt
 go_enter Tryz.func30, Tryz.ntmps30
 go_wp2_with fail
 refine (hCl.out _).mono ?_
 rintro e w' ⟨rfl, rfl⟩
 go_wp2_with fail
 refine (Zp HS0.out (hf.mono (by omega)) [73]).mono ?_
 rintro e w1 ⟨rfl, hs, hg⟩
 have HS1 := zH hs
 have HG1 := zH hg
 clear hs hg
 go_wp2_with fail
 go_end0
 exact ⟨rfl, HS1.out, za HG0.out HG1.out⟩
set_option maxRecDepth 100000 in
set_option maxHeartbeats 2000000 in
theorem zu5 {w : World} {b r : Nat} {s : RS} (h : Sk w b r s.1 s.2) (hf : Few 800 s) (kk nn : Int) (S T' U : T) (hS : S.length ≤ 140737488351232) :
 Calls Tryz.prog 30 #[.pointer (some ⟨b, 0, none⟩), .int .i64 2, .agg #[.int .i64 kk, .int .i64 nn, .string ⟨S.toArray⟩, .string ⟨T'.toArray⟩, .string ⟨U.toArray⟩]] w (zw w b r (zC [83] s)) := by
 have hqb : w.heap.size ≠ b := by have := h.lt; omega
 have A0 := ((Below.refl w.heap.size w).alloc (Nat.le_refl _) (.cells #[.int .i64 kk, .int .i64 nn, .string ⟨S.toArray⟩, .string ⟨T'.toArray⟩, .string ⟨U.toArray⟩] 75))
 have HS0 := zH (h.ext A0)
 have HG0 := zH (grown_of (some b) A0)
 have HBx := zH (Bx.new w #[.int .i64 kk, .int .i64 nn, .string ⟨S.toArray⟩, .string ⟨T'.toArray⟩, .string ⟨U.toArray⟩] 75)
 have hCl := zH (fun W => DescR.Za S W (by omega))
 unfold J7 at hCl
 clear A0
 obtain ⟨W0, hW0⟩ : ∃ W, w.alloc (.cells #[.int .i64 kk, .int .i64 nn, .string ⟨S.toArray⟩, .string ⟨T'.toArray⟩, .string ⟨U.toArray⟩] 75) = W := ⟨_, rfl⟩
 rw [hW0] at HS0 HG0 HBx
 have k2 := HBx.out.cell 2
 have kl := HBx.out.lt
 go_enter Tryz.func30, Tryz.ntmps30
 go_wp2_with fail
 refine (hCl.out _).mono ?_
 rintro e w' ⟨rfl, rfl⟩
 go_wp2_with fail
 refine (Zp HS0.out (hf.mono (by omega)) [83]).mono ?_
 rintro e w1 ⟨rfl, hs, hg⟩
 have HS1 := zH hs
 have HG1 := zH hg
 clear hs hg
 go_wp2_with fail
 go_end0
 exact ⟨rfl, HS1.out, za HG0.out HG1.out⟩
set_option maxRecDepth 100000 in
set_option maxHeartbeats 2000000 in
theorem zl3 {lo g : Nat} {ps : List P2} {w : World} {b r : Nat} {s : RS} (h : Sk w b r s.1 s.2) (hf : Few 800 s) (kk nn : Int) (S T' U : T) (hS : S.length ≤ 140737488351232) (H : TbR lo w r g ps) (hb : lo ≤ b) :
 Calls Tryz.prog 30 #[.pointer (some ⟨b, 0, none⟩), .int .i64 25, .agg #[.int .i64 kk, .int .i64 nn, .string ⟨S.toArray⟩, .string ⟨T'.toArray⟩, .string ⟨U.toArray⟩]] w (zw w b r (zC S (zL ((zq S).2 && (mk ps).has (zq S).1) s))) := by
 have hlow : lo ≤ w.heap.size := by have := h.lt; omega
 have HT := zH (fun W (hW : Below lo w W) => H.below hW)
 have hqb : w.heap.size ≠ b := by have := h.lt; omega
 have A0 := ((Below.refl w.heap.size w).alloc (Nat.le_refl _) (.cells #[.int .i64 kk, .int .i64 nn, .string ⟨S.toArray⟩, .string ⟨T'.toArray⟩, .string ⟨U.toArray⟩] 75))
 have HS0 := zH (h.ext A0)
 have HG0 := zH (grown_of (some b) A0)
 have HBx := zH (Bx.new w #[.int .i64 kk, .int .i64 nn, .string ⟨S.toArray⟩, .string ⟨T'.toArray⟩, .string ⟨U.toArray⟩] 75)
 have hCl := zH (fun W => DescR.Za S W (by omega))
 unfold J7 at hCl
 clear A0
 obtain ⟨W0, hW0⟩ : ∃ W, w.alloc (.cells #[.int .i64 kk, .int .i64 nn, .string ⟨S.toArray⟩, .string ⟨T'.toArray⟩, .string ⟨U.toArray⟩] 75) = W := ⟨_, rfl⟩
 rw [hW0] at HS0 HG0 HBx
 have k2 := HBx.out.cell 2
 have kl := HBx.out.lt
 have hB0 := below_grown HG0.out hb hlow
 have HT0 := HT.out W0 hB0
 have c0 := HS0.out.flag.2.2
 have c1 := KY HT0
 have hbl := HS0.out.lt
 have hrl : r < W0.heap.size := Nat.lt_of_lt_of_le HT0.low (Nat.le_trans hlow hB0.size)
 have HHs := zH (yt lo g (jE ps) (zq S).1 W0 HT0.hier)
 rw [YR] at HHs
 generalize (mk ps).has (zq S).1 = hx at *
 generalize zq S = cx at *
 obtain ⟨cn, cb⟩ := cx
 simp only at hCl HHs ⊢
 clear HT0 hB0
 cases cb
 · go_enter Tryz.func30, Tryz.ntmps30
   go_wp2_with fail
   refine (hCl.out _).mono ?_
   rintro e w' ⟨rfl, rfl⟩
   go_wp2_with fail
   refine (qB HS0.out _).mono ?_
   rintro e w1 ⟨rfl, hs, hg⟩
   have HS1 := zH hs
   have HG1 := zH hg
   have k2 := (zo HBx.out HG1.out hqb).cell 2
   have kl := (zo HBx.out HG1.out hqb).lt
   clear hs hg
   go_wp2_with fail
   refine (Zp HS1.out ((hf.need _).mono (by omega)) S).mono ?_
   rintro e w2 ⟨rfl, hs, hg⟩
   have HS2 := zH hs
   have HG2 := zH (za HG1.out hg)
   clear hs hg
   go_wp2_with fail
   go_end0
   exact ⟨rfl, HS2.out, za HG0.out HG2.out⟩
 · go_enter Tryz.func30, Tryz.ntmps30
   go_wp2_with fail
   refine (hCl.out _).mono ?_
   rintro e w' ⟨rfl, rfl⟩
   go_wp2_with fail
   refine HHs.out.mono ?_
   rintro e w' ⟨rfl, rfl⟩
   go_wp2_with fail
   refine (qB HS0.out _).mono ?_
   rintro e w1 ⟨rfl, hs, hg⟩
   have HS1 := zH hs
   have HG1 := zH hg
   have k2 := (zo HBx.out HG1.out hqb).cell 2
   have kl := (zo HBx.out HG1.out hqb).lt
   clear hs hg
   go_wp2_with fail
   refine (Zp HS1.out ((hf.need _).mono (by omega)) S).mono ?_
   rintro e w2 ⟨rfl, hs, hg⟩
   have HS2 := zH hs
   have HG2 := zH (za HG1.out hg)
   clear hs hg
   go_wp2_with fail
   go_end0
   exact ⟨rfl, HS2.out, za HG0.out HG2.out⟩
set_option maxRecDepth 100000 in
set_option maxHeartbeats 2000000 in
theorem zk8 {lo g : Nat} {ps : List P2} {w : World} {b r : Nat} {s : RS} (h : Sk w b r s.1 s.2) (hf : Few 800 s) (kk nn : Int) (S T' U : T) (hS : S.length ≤ 140737488351232) (H : TbR lo w r g ps) (hb : lo ≤ b) :
 Calls Tryz.prog 30 #[.pointer (some ⟨b, 0, none⟩), .int .i64 38, .agg #[.int .i64 kk, .int .i64 nn, .string ⟨S.toArray⟩, .string ⟨T'.toArray⟩, .string ⟨U.toArray⟩]] w (zw w b r (zC S (ZM (zL ((mk ps).known S && Zr S) s)))) := by
 have hlow : lo ≤ w.heap.size := by have := h.lt; omega
 have HT := zH (fun W (hW : Below lo w W) => H.below hW)
 have hqb : w.heap.size ≠ b := by have := h.lt; omega
 have A0 := ((Below.refl w.heap.size w).alloc (Nat.le_refl _) (.cells #[.int .i64 kk, .int .i64 nn, .string ⟨S.toArray⟩, .string ⟨T'.toArray⟩, .string ⟨U.toArray⟩] 75))
 have HS0 := zH (h.ext A0)
 have HG0 := zH (grown_of (some b) A0)
 have HBx := zH (Bx.new w #[.int .i64 kk, .int .i64 nn, .string ⟨S.toArray⟩, .string ⟨T'.toArray⟩, .string ⟨U.toArray⟩] 75)
 have hCl := zH (fun W => DescR.Za S W (by omega))
 unfold J7 at hCl
 clear A0
 obtain ⟨W0, hW0⟩ : ∃ W, w.alloc (.cells #[.int .i64 kk, .int .i64 nn, .string ⟨S.toArray⟩, .string ⟨T'.toArray⟩, .string ⟨U.toArray⟩] 75) = W := ⟨_, rfl⟩
 rw [hW0] at HS0 HG0 HBx
 have k2 := HBx.out.cell 2
 have kl := HBx.out.lt
 have hB0 := below_grown HG0.out hb hlow
 have HT0 := HT.out W0 hB0
 have c0 := HS0.out.flag.2.2
 have c1 := KY HT0
 have hbl := HS0.out.lt
 have hrl : r < W0.heap.size := Nat.lt_of_lt_of_le HT0.low (Nat.le_trans hlow hB0.size)
 have HKn := zH (fun W (hW : Below lo w W) => QL lo g ps S W (HT.out W hW).hier (by omega))
 have HRf := zH (fun W => DescR.jD S W (by omega))
 have HNd := zH (fun W (hs : Sk W b r s.1 s.2) x => qB hs x)
 generalize (mk ps).known S = hx at *
 generalize hr : Zr S = rb at *
 clear hr
 clear HT0
 cases hx <;> cases rb
 all_goals
  go_enter Tryz.func30, Tryz.ntmps30
  go_wp2_with fail
  refine (hCl.out _).mono ?_
  rintro e w' ⟨rfl, rfl⟩
  go_wp2_with fail
  have hSd := zH HS0.out.drew
  have HKd := zH (HKn.out _ hB0.drew)
  have HGd := zH (qW (qV W0 (some b)))
  go_still_tail 16, (by kernel_rfl)
  still_call (still HKd.out)
  repeat still_step
  first
   | (still_call (still (HRf.out _))
      repeat still_step
      refine wpStill_nil ?_)
   | refine wpStill_nil ?_
  go_wp2_with fail
  refine (qB hSd.out _).mono ?_
  rintro e w1 ⟨rfl, hs, hg⟩
  have HS1 := zH hs
  have HG1 := zH (za HGd.out hg)
  have k2 := (zo HBx.out HG1.out hqb).cell 2
  have kl := (zo HBx.out HG1.out hqb).lt
  clear hs hg
  go_wp2_with fail
  refine (yZ HS1.out ((hf.need _).mono (by omega))).mono ?_
  rintro e w2 ⟨rfl, hs, hg⟩
  have HS2 := zH hs
  have HG2 := zH (za HG1.out hg)
  have k2 := (zo HBx.out HG2.out hqb).cell 2
  have kl := (zo HBx.out HG2.out hqb).lt
  clear hs hg
  go_wp2_with fail
  refine (Zp HS2.out ((hf.need _).thing.mono (by omega)) S).mono ?_
  rintro e w3 ⟨rfl, hs, hg⟩
  have HS3 := zH hs
  have HG3 := zH (za HG2.out hg)
  clear hs hg
  go_wp2_with fail
  go_end0
  exact ⟨rfl, HS3.out, za HG0.out HG3.out⟩
set_option maxRecDepth 100000 in
set_option maxHeartbeats 2000000 in
theorem zk7 {lo g : Nat} {ps : List P2} {w : World} {b r : Nat} {s : RS} (h : Sk w b r s.1 s.2) (hf : Few 800 s) (kk nn : Int) (S T' U : T) (hS : S.length ≤ 140737488351232) (H : TbR lo w r g ps) (hb : lo ≤ b) :
 Calls Tryz.prog 30 #[.pointer (some ⟨b, 0, none⟩), .int .i64 39, .agg #[.int .i64 kk, .int .i64 nn, .string ⟨S.toArray⟩, .string ⟨T'.toArray⟩, .string ⟨U.toArray⟩]] w (zw w b r (zC [66] (ZM (zL ((mk ps).known S && Zr S) s)))) := by
 have hlow : lo ≤ w.heap.size := by have := h.lt; omega
 have HT := zH (fun W (hW : Below lo w W) => H.below hW)
 have hqb : w.heap.size ≠ b := by have := h.lt; omega
 have A0 := ((Below.refl w.heap.size w).alloc (Nat.le_refl _) (.cells #[.int .i64 kk, .int .i64 nn, .string ⟨S.toArray⟩, .string ⟨T'.toArray⟩, .string ⟨U.toArray⟩] 75))
 have HS0 := zH (h.ext A0)
 have HG0 := zH (grown_of (some b) A0)
 have HBx := zH (Bx.new w #[.int .i64 kk, .int .i64 nn, .string ⟨S.toArray⟩, .string ⟨T'.toArray⟩, .string ⟨U.toArray⟩] 75)
 have hCl := zH (fun W => DescR.Za S W (by omega))
 unfold J7 at hCl
 clear A0
 obtain ⟨W0, hW0⟩ : ∃ W, w.alloc (.cells #[.int .i64 kk, .int .i64 nn, .string ⟨S.toArray⟩, .string ⟨T'.toArray⟩, .string ⟨U.toArray⟩] 75) = W := ⟨_, rfl⟩
 rw [hW0] at HS0 HG0 HBx
 have k2 := HBx.out.cell 2
 have kl := HBx.out.lt
 have hB0 := below_grown HG0.out hb hlow
 have HT0 := HT.out W0 hB0
 have c0 := HS0.out.flag.2.2
 have c1 := KY HT0
 have hbl := HS0.out.lt
 have hrl : r < W0.heap.size := Nat.lt_of_lt_of_le HT0.low (Nat.le_trans hlow hB0.size)
 have HKn := zH (fun W (hW : Below lo w W) => QL lo g ps S W (HT.out W hW).hier (by omega))
 have HRf := zH (fun W => DescR.jD S W (by omega))
 have HNd := zH (fun W (hs : Sk W b r s.1 s.2) x => qB hs x)
 generalize (mk ps).known S = hx at *
 generalize hr : Zr S = rb at *
 clear hr
 clear HT0
 cases hx <;> cases rb
 all_goals
  go_enter Tryz.func30, Tryz.ntmps30
  go_wp2_with fail
  refine (hCl.out _).mono ?_
  rintro e w' ⟨rfl, rfl⟩
  go_wp2_with fail
  have hSd := zH HS0.out.drew
  have HKd := zH (HKn.out _ hB0.drew)
  have HGd := zH (qW (qV W0 (some b)))
  go_still_tail 16, (by kernel_rfl)
  still_call (still HKd.out)
  repeat still_step
  first
   | (still_call (still (HRf.out _))
      repeat still_step
      refine wpStill_nil ?_)
   | refine wpStill_nil ?_
  go_wp2_with fail
  refine (qB hSd.out _).mono ?_
  rintro e w1 ⟨rfl, hs, hg⟩
  have HS1 := zH hs
  have HG1 := zH (za HGd.out hg)
  have k2 := (zo HBx.out HG1.out hqb).cell 2
  have kl := (zo HBx.out HG1.out hqb).lt
  clear hs hg
  go_wp2_with fail
  refine (yZ HS1.out ((hf.need _).mono (by omega))).mono ?_
  rintro e w2 ⟨rfl, hs, hg⟩
  have HS2 := zH hs
  have HG2 := zH (za HG1.out hg)
  have k2 := (zo HBx.out HG2.out hqb).cell 2
  have kl := (zo HBx.out HG2.out hqb).lt
  clear hs hg
  go_wp2_with fail
  refine (Zp HS2.out ((hf.need _).thing.mono (by omega)) [66]).mono ?_
  rintro e w3 ⟨rfl, hs, hg⟩
  have HS3 := zH hs
  have HG3 := zH (za HG2.out hg)
  clear hs hg
  go_wp2_with fail
  go_end0
  exact ⟨rfl, HS3.out, za HG0.out HG3.out⟩
end KrD
namespace KrE
open Go.RowKit Base BinM Stru DescM DescW DescX DescS DescG DescP DescQ HierS HierT HierM HierC HierD HierN HierV HierR HierU HierY HierQ Kls KlsP KlsQ OpenK TabC TabM TabK TabP TabE TabB TabG TabH TabT TabU TabV TabX TabW TabF TabN TabO TabY TabR TabQ TabL KndM KndS KrS KrA KrP KrB KrC KrD
open KndP (Qv)
open KndW (mtE qI QV jh)
set_option maxRecDepth 100000 in
set_option maxHeartbeats 2000000 in
theorem UJ {lo g : Nat} {ps : List P2} {w : World} {b r : Nat} {s : RS} (h : Sk w b r s.1 s.2) (hf : Few 800 s) (kk nn : Int) (S T' U : T) (hS : S.length ≤ 140737488351232) (hn : (zM S).2 = 0) (H : TbR lo w r g ps) (hb : lo ≤ b) :
 Calls Tryz.prog 30 #[.pointer (some ⟨b, 0, none⟩), .int .i64 28, .agg #[.int .i64 kk, .int .i64 nn, .string ⟨S.toArray⟩, .string ⟨T'.toArray⟩, .string ⟨U.toArray⟩]] w (zw w b r (zC S (zK [73] (zL ((zM S).2 == 0 && (mk ps).known S) s)))) := by
 have hlow : lo ≤ w.heap.size := by have := h.lt; omega
 have HT := zH (fun W (hW : Below lo w W) => H.below hW)
 have hqb : w.heap.size ≠ b := by have := h.lt; omega
 have A0 := ((Below.refl w.heap.size w).alloc (Nat.le_refl _) (.cells #[.int .i64 kk, .int .i64 nn, .string ⟨S.toArray⟩, .string ⟨T'.toArray⟩, .string ⟨U.toArray⟩] 75))
 have HS0 := zH (h.ext A0)
 have HG0 := zH (grown_of (some b) A0)
 have HBx := zH (Bx.new w #[.int .i64 kk, .int .i64 nn, .string ⟨S.toArray⟩, .string ⟨T'.toArray⟩, .string ⟨U.toArray⟩] 75)
 have hCl := zH (fun W => DescR.Za S W (by omega))
 unfold J7 at hCl
 clear A0
 obtain ⟨W0, hW0⟩ : ∃ W, w.alloc (.cells #[.int .i64 kk, .int .i64 nn, .string ⟨S.toArray⟩, .string ⟨T'.toArray⟩, .string ⟨U.toArray⟩] 75) = W := ⟨_, rfl⟩
 rw [hW0] at HS0 HG0 HBx
 have k2 := HBx.out.cell 2
 have kl := HBx.out.lt
 have hB0 := below_grown HG0.out hb hlow
 have HT0 := HT.out W0 hB0
 have c0 := HS0.out.flag.2.2
 have c1 := KY HT0
 have hbl := HS0.out.lt
 have hrl : r < W0.heap.size := Nat.lt_of_lt_of_le HT0.low (Nat.le_trans hlow hB0.size)
 have HKn := zH (fun W (hW : Below lo w W) => QL lo g ps S W (HT.out W hW).hier (by omega))
 have HEl := zH (fun W => DescR.JY S W (by omega))
 unfold Xo at HEl
 generalize (mk ps).known S = hx at *
 generalize zM S = el at *
 obtain ⟨y, n⟩ := el
 simp only at HEl hn ⊢
 clear HT0
 subst hn
 go_enter Tryz.func30, Tryz.ntmps30
 go_wp2_with fail
 refine (hCl.out _).mono ?_
 rintro e w' ⟨rfl, rfl⟩
 go_wp2_with fail
 refine (HEl.out _).mono ?_
 rintro e w' ⟨rfl, rfl⟩
 go_wp2_with fail
 have hSd := zH HS0.out.drew
 have HKd := zH (HKn.out _ hB0.drew)
 have HGd := zH (qW (qV W0 (some b)))
 go_still_tail 15, (by kernel_rfl)
 still_call (still HKd.out)
 repeat still_step
 refine wpStill_nil ?_
 go_wp2_with fail
 refine (qB hSd.out _).mono ?_
 rintro e w1 ⟨rfl, hs, hg⟩
 have HS1 := zH hs
 have HG1 := zH (za HGd.out hg)
 clear hs hg
 go_wp2_with fail
 refine (ZN HS1.out ((hf.need _).mono (by omega)) [73]).mono ?_
 rintro e w2 ⟨rfl, hs, hg⟩
 have HS2 := zH hs
 have HG2 := zH (za HG1.out hg)
 have k2 := (zo HBx.out HG2.out hqb).cell 2
 have kl := (zo HBx.out HG2.out hqb).lt
 clear hs hg
 go_wp2_with fail
 refine (Zp HS2.out (((hf.need _).want [73]).mono (by omega)) S).mono ?_
 rintro e w3 ⟨rfl, hs, hg⟩
 have HS3 := zH hs
 have HG3 := zH (za HG2.out hg)
 clear hs hg
 go_wp2_with fail
 go_end0
 exact ⟨rfl, HS3.out, za HG0.out HG3.out⟩
end KrE
end Go.Proofs.YtehainbhoflpnaaGreatDoor
