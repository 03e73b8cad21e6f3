/- pieces -/
import Derived.Test.YtehainbhoflpnaaGreatDoorK10
import Derived.Test.YtehainbhoflpnaaGreatDoorK14
import Derived.Test.YtehainbhoflpnaaGreatDoorK18
namespace Go.Proofs.YtehainbhoflpnaaGreatDoor
namespace TabG
open Go.RowKit Base BinM Stru Kls TabC TabM TabK TabP
theorem zX {P : Program} {fn : Func} {p t1 : Tmp} {ty : TypeId} (h : fn.results = #[.cell p ty, .tmp t1]) (tmps : Array Value) (w : World) (a : Addr) (x : Value)
 (hp : tmps.getD p undef = .pointer (some a)) (hl : (loadVar ty a).run P w = .ok x w) : (results fn tmps).run P w = .ok (.tuple #[x, tmps.getD t1 undef]) w := by
 have hp' : tmps[p]?.getD undef = .pointer (some a) := by simpa using hp
 simp [results, h, hp', asAddr, hl]
def jB (x : zf) : List Value := [.string ⟨x.name.toArray⟩, .string ⟨x.sup.toArray⟩, .slice x.kA x.km x.kc, .slice x.fA x.fm x.fc, .slice x.mA x.mm x.mc]
theorem Yp {w : World} {A : Option Addr} {l : List zf} {k : Nat} (h : Rds w A (l.flatMap jB)) (hk : k < l.length) :
 ∃ b o, A = some ⟨b, o, none⟩ ∧ b < w.heap.size ∧ w.cell? ⟨b, o + k * 5, none⟩ = some (.string ⟨l[k].name.toArray⟩) ∧ w.cell? ⟨b, o + k * 5 + 1, none⟩ = some (.string ⟨l[k].sup.toArray⟩) ∧ w.cell? ⟨b, o + k * 5 + 2, none⟩ = some (.slice l[k].kA l[k].km l[k].kc) ∧
   w.cell? ⟨b, o + k * 5 + 3, none⟩ = some (.slice l[k].fA l[k].fm l[k].fc) ∧ w.cell? ⟨b, o + k * 5 + 4, none⟩ = some (.slice l[k].mA l[k].mm l[k].mc) := by
 obtain ⟨b, o, hA, hb, hc⟩ := QU (n := 5) (fun _ => rfl) (by omega) h hk
 exact ⟨b, o, hA, hb, hc 0 _ rfl, hc 1 _ rfl, hc 2 _ rfl, hc 3 _ rfl, hc 4 _ rfl⟩
def noC : zf := ⟨[], [], none, 0, 0, none, 0, 0, none, 0, 0, [], [], []⟩
def named (q : List UInt8) (c : zf) : Bool := c.name == q
def ZR (q : List UInt8) (l : List zf) : zf := (l.find? (named q)).getD noC
theorem xM {q : List UInt8} {l : List zf} (h : ∀ x ∈ l, named q x = false) : l.find? (named q) = none := by
 rw [List.find?_eq_none]
 intro x hx
 rw [h x hx]
 simp
theorem zd9 {q : List UInt8} {l : List zf} {k : Nat} (hk : k < l.length) (h : ∀ x ∈ l.take k, named q x = false) (he : named q l[k] = true) : l.find? (named q) = some l[k] := by
 have e : l = l.take k ++ l[k] :: l.drop (k + 1) := by rw [← List.drop_eq_getElem_cons hk, List.take_append_drop]
 conv => lhs; rw [e]
 rw [List.find?_append, xM h, List.find?_cons_of_pos he]
 rfl
theorem uR {q : List UInt8} {l : List zf} {j : Nat} (hj : j < l.length) (h : ∀ x ∈ l.take j, named q x = false) (h2 : named q l[j] = false) : ∀ x ∈ l.take (j + 1), named q x = false := by
 intro x hx
 rw [List.take_succ_eq_append_getElem hj, List.mem_append] at hx
 rcases hx with hx | hx
 · exact h x hx
 · simp at hx; subst hx; exact h2
set_option maxRecDepth 100000 in
set_option maxHeartbeats 4000000 in
theorem Ky (g : Nat) (tp mp : Value) (A : Option Addr) (l : List zf) (m c : Nat) (q : List UInt8) (w : World) (hbox : Bx w g #[tp, .slice A m c, mp] 105) (hm : m = l.length) (hml : m ≤ 100000) (hr : Rds w A (l.flatMap jB)) :
 Calls Tryz.prog 84 #[.pointer (some ⟨g, 0, none⟩), .string ⟨q.toArray⟩] w fun e w' => e = .returned (.tuple #[(ZR q l).V, .bool (l.find? (named q)).isSome]) ∧ Below w.heap.size w w' := by
 have hb := zH (Below.refl w.heap.size w)
 have HR := zH (Bx.new w #[.string ⟨#[]⟩, .string ⟨#[]⟩, .slice none 0 0, .slice none 0 0, .slice none 0 0] 81)
 have f0 := HR.out.free 0
 have f1 := HR.out.free 1
 have f2 := HR.out.free 2
 have f3 := HR.out.free 3
 have f4 := HR.out.free 4
 have b1 := hbox.cell 1
 have hgl0 := hbox.lt
 have Hr := zH hr
 have Z0 := zH (Below.refl (w.alloc (.cells #[.string ⟨#[]⟩, .string ⟨#[]⟩, .slice none 0 0, .slice none 0 0, .slice none 0 0] 81)).heap.size (w.alloc (.cells #[.string ⟨#[]⟩, .string ⟨#[]⟩, .slice none 0 0, .slice none 0 0, .slice none 0 0] 81)))
 have h1a := zH ((Below.refl w.heap.size w).alloc (Nat.le_refl _) (.cells #[.string ⟨#[]⟩, .string ⟨#[]⟩, .slice none 0 0, .slice none 0 0, .slice none 0 0] 81))
 have hws := zH (show w.heap.size ≤ (w.alloc (.cells #[.string ⟨#[]⟩, .string ⟨#[]⟩, .slice none 0 0, .slice none 0 0, .slice none 0 0] 81)).heap.size from by simp)
 clear hbox hr
 subst hm
 go_enter Tryz.func84, Tryz.ntmps84
 go_wp2_with fail
 clear b1 f0 f1 f2 f3 f4
 go_loopw [16] (fun i wr => ∃ j : Nat, j ≤ l.length ∧ i = .int .i64 j ∧ (∀ x ∈ l.take j, named q x = false) ∧ Below (w.alloc (.cells #[.string ⟨#[]⟩, .string ⟨#[]⟩, .slice none 0 0, .slice none 0 0, .slice none 0 0] 81)).heap.size (w.alloc (.cells #[.string ⟨#[]⟩, .string ⟨#[]⟩, .slice none 0 0, .slice none 0 0, .slice none 0 0] 81)) wr) (fun i _ => l.length - (intOf i).toNat)
 case atStart => exact ⟨0, Nat.zero_le _, rfl, by simp, Z0.out⟩
 case round =>
  obtain ⟨j, hj, rfl, hno, hbel⟩ := hrel
  have Hno := zH hno
  have hbw := h1a.out.trans (hbel.mono hws.out)
  have Hbw := zH hbw
  have R1 := zH (HR.out.after hbel)
  have f0 := R1.out.free 0
  have r0 := R1.out.cell 0
  have f1 := R1.out.free 1
  have r1 := R1.out.cell 1
  have f2 := R1.out.free 2
  have r2 := R1.out.cell 2
  have f3 := R1.out.free 3
  have r3 := R1.out.cell 3
  have f4 := R1.out.free 4
  have r4 := R1.out.cell 4
  have hgl := R1.out.lt
  have hszw := hbel.size
  clear hno
  by_cases hlt : j < l.length
  · obtain ⟨b, o, hA, hb1, hc0, hc1, hc2, hc3, hc4⟩ := Yp (Hr.out.below hbw) hlt
    subst hA
    have hj1 : (j : Int) < (l.length : Int) := by omega
    have hj0 : (0 : Int) ≤ (j : Int) := by omega
    have Hat := zH (fun he => zd9 hlt Hno.out he)
    have Hnext := zH (fun he => uR hlt Hno.out he)
    have Hbel := zH hbel
    clear hbel hbw
    generalize l[j] = x at *
    obtain ⟨x0, x1, x2, x3, x4, x5, x6, x7, x8, x9, x10, x11, x12, x13⟩ := x
    simp only at hc0 hc1 hc2 hc3 hc4
    cases hq : (x0 == q)
    · have Hq := zH (Hnext.out (show named q _ = false from hq))
      go_wp2_with fail
      go_roundw
      case rel => exact ⟨j + 1, by omega, by go_num, Hq.out, Hbel.out.alloc hszw _⟩
      case measure => simp [intOf]; omega
    · have Hq := zH (Hat.out (show named q _ = true from hq))
      have HE := zH (show Ending.returned (.tuple #[.agg #[.string ⟨x0.toArray⟩, .string ⟨x1.toArray⟩, .slice x2 x3 x4, .slice x5 x6 x7, .slice x8 x9 x10], .bool true]) = Ending.returned (.tuple #[(ZR q l).V, .bool (l.find? (named q)).isSome]) from by unfold ZR; rw [Hq.out]; rfl)
      go_wp2_with fail
      have K0 := zH (((((R1.out.set 0 (.string ⟨x0.toArray⟩)).set 1 (.string ⟨x1.toArray⟩)).set 2 (.slice x2 x3 x4)).set 3 (.slice x5 x6 x7)).set 4 (.slice x8 x9 x10))
      have K1 : Bx (((((wr.setCell ⟨w.heap.size, 0, none⟩ (.string ⟨x0.toArray⟩)).setCell ⟨w.heap.size, 1, none⟩ (.string ⟨x1.toArray⟩)).setCell ⟨w.heap.size, 2, none⟩ (.slice x2 x3 x4)).setCell ⟨w.heap.size, 3, none⟩ (.slice x5 x6 x7)).setCell ⟨w.heap.size, 4, none⟩ (.slice x8 x9 x10)) w.heap.size #[.string ⟨x0.toArray⟩, .string ⟨x1.toArray⟩, .slice x2 x3 x4, .slice x5 x6 x7, .slice x8 x9 x10] 81 := K0.out
      have HW : Bx ((((((wr.setCell ⟨w.heap.size, 0, none⟩ (.string ⟨x0.toArray⟩)).setCell ⟨w.heap.size, 1, none⟩ (.string ⟨x1.toArray⟩)).setCell ⟨w.heap.size, 2, none⟩ (.slice x2 x3 x4)).setCell ⟨w.heap.size, 3, none⟩ (.slice x5 x6 x7)).setCell ⟨w.heap.size, 4, none⟩ (.slice x8 x9 x10)).alloc (.cells #[.string ⟨x0.toArray⟩, .string ⟨x1.toArray⟩, .slice x2 x3 x4, .slice x5 x6 x7, .slice x8 x9 x10] 81)) w.heap.size #[.string ⟨x0.toArray⟩, .string ⟨x1.toArray⟩, .slice x2 x3 x4, .slice x5 x6 x7, .slice x8 x9 x10] 81 := K1.after ((Below.refl _ _).alloc (Nat.le_refl _) _)
      have EB0 : Below w.heap.size w (((((wr.setCell ⟨w.heap.size, 0, none⟩ (.string ⟨x0.toArray⟩)).setCell ⟨w.heap.size, 1, none⟩ (.string ⟨x1.toArray⟩)).setCell ⟨w.heap.size, 2, none⟩ (.slice x2 x3 x4)).setCell ⟨w.heap.size, 3, none⟩ (.slice x5 x6 x7)).setCell ⟨w.heap.size, 4, none⟩ (.slice x8 x9 x10)) := (((((Hbw.out.setCell (p := ⟨w.heap.size, 0, none⟩) (Nat.le_refl _) _).setCell (p := ⟨w.heap.size, 1, none⟩) (Nat.le_refl _) _).setCell (p := ⟨w.heap.size, 2, none⟩) (Nat.le_refl _) _).setCell (p := ⟨w.heap.size, 3, none⟩) (Nat.le_refl _) _).setCell (p := ⟨w.heap.size, 4, none⟩) (Nat.le_refl _) _)
      have EB : Below w.heap.size w ((((((wr.setCell ⟨w.heap.size, 0, none⟩ (.string ⟨x0.toArray⟩)).setCell ⟨w.heap.size, 1, none⟩ (.string ⟨x1.toArray⟩)).setCell ⟨w.heap.size, 2, none⟩ (.slice x2 x3 x4)).setCell ⟨w.heap.size, 3, none⟩ (.slice x5 x6 x7)).setCell ⟨w.heap.size, 4, none⟩ (.slice x8 x9 x10)).alloc (.cells #[.string ⟨x0.toArray⟩, .string ⟨x1.toArray⟩, .slice x2 x3 x4, .slice x5 x6 x7, .slice x8 x9 x10] 81)) := EB0.alloc EB0.size _
      exact bodyPost_ret (v := .tuple #[.agg #[.string ⟨x0.toArray⟩, .string ⟨x1.toArray⟩, .slice x2 x3 x4, .slice x5 x6 x7, .slice x8 x9 x10], .bool true]) (zX Tryz.results84 _ _ _ _ rfl (run_loadVar_row _ _ _ _ #[.string ⟨x0.toArray⟩, .string ⟨x1.toArray⟩, .slice x2 x3 x4, .slice x5 x6 x7, .slice x8 x9 x10] (0, 0) _ HW Tryz.underlying81 rfl Jc)) rfl ⟨HE.out, EB⟩
  · have hjm : j = l.length := by omega
    have hn := xM (q := q) (l := l) (by have := Hno.out; rw [List.take_of_length_le (by omega)] at this; exact this)
    have HN := zH hn
    have HE := zH (show Ending.returned (.tuple #[.agg #[.string ⟨#[]⟩, .string ⟨#[]⟩, .slice none 0 0, .slice none 0 0, .slice none 0 0], .bool false]) = Ending.returned (.tuple #[(ZR q l).V, .bool (l.find? (named q)).isSome]) from by unfold ZR; rw [HN.out]; rfl)
    clear hn hbel
    go_wp2_with fail
    have K0 := zH (((((R1.out.set 0 (.string ⟨#[]⟩)).set 1 (.string ⟨#[]⟩)).set 2 (.slice none 0 0)).set 3 (.slice none 0 0)).set 4 (.slice none 0 0))
    have HW : Bx (((((wr.setCell ⟨w.heap.size, 0, none⟩ (.string ⟨#[]⟩)).setCell ⟨w.heap.size, 1, none⟩ (.string ⟨#[]⟩)).setCell ⟨w.heap.size, 2, none⟩ (.slice none 0 0)).setCell ⟨w.heap.size, 3, none⟩ (.slice none 0 0)).setCell ⟨w.heap.size, 4, none⟩ (.slice none 0 0)) w.heap.size #[.string ⟨#[]⟩, .string ⟨#[]⟩, .slice none 0 0, .slice none 0 0, .slice none 0 0] 81 := K0.out
    have EB : Below w.heap.size w (((((wr.setCell ⟨w.heap.size, 0, none⟩ (.string ⟨#[]⟩)).setCell ⟨w.heap.size, 1, none⟩ (.string ⟨#[]⟩)).setCell ⟨w.heap.size, 2, none⟩ (.slice none 0 0)).setCell ⟨w.heap.size, 3, none⟩ (.slice none 0 0)).setCell ⟨w.heap.size, 4, none⟩ (.slice none 0 0)) := (((((Hbw.out.setCell (p := ⟨w.heap.size, 0, none⟩) (Nat.le_refl _) _).setCell (p := ⟨w.heap.size, 1, none⟩) (Nat.le_refl _) _).setCell (p := ⟨w.heap.size, 2, none⟩) (Nat.le_refl _) _).setCell (p := ⟨w.heap.size, 3, none⟩) (Nat.le_refl _) _).setCell (p := ⟨w.heap.size, 4, none⟩) (Nat.le_refl _) _)
    exact bodyPost_ret (v := .tuple #[.agg #[.string ⟨#[]⟩, .string ⟨#[]⟩, .slice none 0 0, .slice none 0 0, .slice none 0 0], .bool false]) (zX Tryz.results84 _ _ _ _ rfl (run_loadVar_row _ _ _ _ #[.string ⟨#[]⟩, .string ⟨#[]⟩, .slice none 0 0, .slice none 0 0, .slice none 0 0] (0, 0) _ HW Tryz.underlying81 rfl Jc)) rfl ⟨HE.out, EB⟩
end TabG
namespace TabH
open Go.RowKit Base BinM Stru Kls TabC TabM TabK TabP TabE TabB TabG
theorem zt7 (a b c a' b' c' : _) (W : World) : (Instr.field 111 (.agg #[.slice a b c, .slice a' b' c']) 0).run Tryz.prog W = .ok (.slice a b c) W := by kernel_rfl
theorem field1 (a b c a' b' c' : _) (W : World) : (Instr.field 111 (.agg #[.slice a b c, .slice a' b' c']) 1).run Tryz.prog W = .ok (.slice a' b' c') W := by kernel_rfl
theorem Ve : (Tryz.prog.info? 160).map (·.size) = some 3 := by kernel_rfl
end TabH
namespace TabT
open Go.RowKit Base BinM Stru DescM DescW DescX HierS HierT HierM HierC HierD HierN Kls KlsP KlsQ TabC TabM TabK TabP TabE TabB TabG
def gat (L : List zf) : Nat → T → List Zi × List zG
 | 0, _ => ([], [])
 | n + 1, c => match L.find? (named c) with
   | none => ([], [])
   | some k => (qZ (gat L n k.sup).1 k, qC (gat L n k.sup).2 k)
def hav (L : List zf) (c : T) : List Zi × List zG := gat L 41 c
theorem Zd3 {L : List zf} {up : T → Option T} (hup : ∀ c k, L.find? (named c) = some k → up c = some k.sup) {c : T} {l : List T} (h : Zz up c l) : ∀ n m, l.length ≤ n → l.length ≤ m → gat L n c = gat L m c := by
 induction h with
 | @top c hu =>
   intro n m hn hm
   cases n with
   | zero => simp at hn
   | succ n =>
     cases m with
     | zero => simp at hm
     | succ m =>
       unfold gat
       cases hf : L.find? (named c) with
       | none => rfl
       | some k => rw [hup c k hf] at hu; cases hu
 | @step c d l hu _ ih =>
   intro n m hn hm
   cases n with
   | zero => simp at hn
   | succ n =>
     cases m with
     | zero => simp at hm
     | succ m =>
       unfold gat
       cases hf : L.find? (named c) with
       | none => rfl
       | some k =>
         have e := (hup c k hf).symm.trans hu
         injection e with e
         simp only [e]
         rw [ih n m (by simpa using hn) (by simpa using hm)]
theorem jM {L : List zf} {c : T} (h : L.find? (named c) = none) : hav L c = ([], []) := by
 unfold hav gat
 rw [h]
theorem zt0 {L : List zf} {n : Nat} {c : T} {k : zf} (hf : L.find? (named c) = some k) : gat L (n + 1) c = (qZ (gat L n k.sup).1 k, qC (gat L n k.sup).2 k) := by
 show (match L.find? (named c) with | none => _ | some k => _) = _
 rw [hf]
theorem YQ {L : List zf} {up : T → Option T} (hup : ∀ c k, L.find? (named c) = some k → up c = some k.sup) {c : T} {k : zf} {l : List T} (h : Zz up c l) (hl : l.length ≤ 41) (hf : L.find? (named c) = some k) : hav L c = (qZ (hav L k.sup).1 k, qC (hav L k.sup).2 k) := by
 cases h with
 | top hu => rw [hup c k hf] at hu; cases hu
 | @step c d l hu hw =>
   have e := (hup c k hf).symm.trans hu
   injection e with e
   subst e
   have e2 : hav L c = (qZ (gat L 40 k.sup).1 k, qC (gat L 40 k.sup).2 k) := zt0 hf
   rw [e2, Zd3 hup hw 40 41 (by simp at hl; omega) (by simp at hl; omega)]
   rfl
theorem ze8 {L : List zf} (hL : ∀ k ∈ L, k.fields.length ≤ 16 ∧ k.meths.length ≤ 32) : ∀ (n : Nat) (c : T), (gat L n c).1.length ≤ n * 16 ∧ (gat L n c).2.length ≤ n * 32
 | 0, c => by simp [gat]
 | n + 1, c => by
   unfold gat
   cases hf : L.find? (named c) with
   | none => simp
   | some k =>
     have hk := hL k (List.mem_of_find?_eq_some hf)
     have ih := ze8 hL n k.sup
     refine ⟨?_, ?_⟩
     · show (qZ (gat L n k.sup).1 k).length ≤ _
       unfold qZ
       rw [List.length_append, List.length_map]
       omega
     · show (qC (gat L n k.sup).2 k).length ≤ _
       have := YV k.name k.meths (gat L n k.sup).2
       unfold qC
       omega
theorem yO {L : List zf} (hL : ∀ k ∈ L, k.fields.length ≤ 16 ∧ k.meths.length ≤ 32) (c : T) : (hav L c).1.length ≤ 5000 ∧ (hav L c).2.length ≤ 5000 := by
 have := ze8 hL 41 c
 unfold hav
 omega
theorem xk {x : zf} (h : qY x = 0) : x.fields.length ≤ 16 ∧ x.meths.length ≤ 32 := by
 unfold qY at h
 split at h
 · cases h
 · split at h
   · omega
   · split at h
     · omega
     · rename_i h3
       have h3 : jO x.fields = 0 := by omega
       unfold jO at h3
       unfold JV at h
       split at h3
       · cases h3
       · split at h
         · cases h
         · omega
theorem KQ {α : Type} {f : Nat → α → Int} {l : List α} (h : Zo f l = 0) : ∀ i (hi : i < l.length), f i l[i] = 0 := by
 intro i hi
 unfold Zo at h
 split at h
 · rename_i k hk
   have h1 := List.find?_some hk
   have h2 := List.mem_of_find?_eq_some hk
   rw [List.mem_range] at h2
   rw [List.getElem?_eq_getElem h2] at h h1
   simp only [Option.elim] at h h1
   rw [h] at h1
   simp at h1
 · rename_i hk
   rw [List.find?_eq_none] at hk
   have := hk i (List.mem_range.2 hi)
   rw [List.getElem?_eq_getElem hi] at this
   simpa using this
theorem xW {x : zf} (h : qY x = 0) : x.consts.length ≤ 256 ∧ ∀ z ∈ x.meths, z.code.length ≤ 512 ∧ z.hand.length ≤ 8 := by
 unfold qY at h
 split at h
 · cases h
 · split at h
   · rename_i h2; exact (h2 h).elim
   · rename_i h2
     split at h
     · rename_i h3; exact (h3 h).elim
     · have h2' : (PutN.J3 [] x.consts).2 = 0 := Classical.byContradiction h2
       unfold JV at h
       split at h
       · cases h
       · have hM := KQ h
         refine ⟨?_, fun z hz => ?_⟩
         · unfold PutN.J3 at h2'
           split at h2'
           · cases h2'
           · omega
         · obtain ⟨i, hi, rfl⟩ := List.getElem_of_mem hz
           have h6 := hM i hi
           unfold jZ at h6
           split at h6
           · cases h6
           · split at h6
             · cases h6
             · split at h6
               · cases h6
               · split at h6
                 · cases h6
                 · unfold QC at h6
                   split at h6
                   · rename_i h7; exact (h7 h6).elim
                   · rename_i h7
                     have h7' : (InsD.qA x.meths[i].code x.consts x.meths[i].locals).2 = 0 := Classical.byContradiction h7
                     split at h6
                     · cases h6
                     · refine ⟨?_, ?_⟩
                       · unfold InsD.qA at h7'
                         split at h7'
                         · cases h7'
                         · omega
                       · unfold Jp at h6
                         split at h6
                         · cases h6
                         · omega
abbrev DV := DataW Value
def RV (v : Value) : Option (DV × List MemPlace) := some (.held v, [])
theorem ku {v u : Value} {ps : List MemPlace} (h : RV v = some (.held u, ps)) : v = u := by
 unfold RV at h
 injection h with h
 injection h with h1 h2
 injection h1
def noV : Zf := ⟨none, 0, 0, none, 0, 0, [], []⟩
theorem zr1 (w : World) : noV.is w := ⟨rfl, Nat.le_refl _, by unfold maxLen; simp [noV], .inl rfl, rfl, Nat.le_refl _, by unfold maxLen; simp [noV], .inl rfl⟩
def Ur (w : World) (b n : Nat) (f : T → Option Zf) : Prop :=
 ∃ D : DV, w.ownsMap Tryz.prog 9 RV b n D ∧ Maps.IsMap D ∧
   ∀ c, (f c = none → Maps.has D (.string c) = false) ∧ (∀ x, f c = some x → Maps.has D (.string c) = true ∧ D.atKey (.string c) (.held noV.V) = .held x.V)
theorem Ur.obj {w : World} {b n : Nat} {f : T → Option Zf} (h : Ur w b n f) : ∃ es ck, w.heap[b]? = some (.map es ck) := by
 obtain ⟨D, ⟨es, ck, hb, _⟩, _⟩ := h
 exact ⟨es, ck, hb⟩
theorem Ur.block {w w' : World} {b n : Nat} {f : T → Option Zf} (h : Ur w b n f) (hb : w'.heap[b]? = w.heap[b]?) : Ur w' b n f := by
 obtain ⟨D, h1, h2⟩ := h
 exact ⟨D, jX h1 hb, h2⟩
theorem Ur.lt {w : World} {b n : Nat} {f : T → Option Zf} (h : Ur w b n f) : b < w.heap.size := by
 obtain ⟨D, h1, _⟩ := h
 exact h1.lt
theorem YN (c : T) (hc : c.length ≤ 140737488351232) : keyOf Tryz.prog 9 (.string ⟨c.toArray⟩) = some (.string c) :=
 Go.WideMaps.keyOf_string_mk Tryz.underlying9 (s := ⟨c.toArray⟩) (by show c.length ≤ maxLen; unfold maxLen; omega)
theorem zr5 {w' : World} {b n : Nat} {f : T → Option Zf} {D : DV} (hD : Maps.IsMap D) (hall : ∀ c, (f c = none → Maps.has D (.string c) = false) ∧ (∀ x, f c = some x → Maps.has D (.string c) = true ∧ D.atKey (.string c) (.held noV.V) = .held x.V))
 (c : T) (x : Zf) (h : w'.ownsMap Tryz.prog 9 RV b (n + 1) (D.put (.string c) (.held x.V))) : Ur w' b (n + 1) (fun c' => if c' = c then some x else f c') := by
 refine ⟨_, h, hD.put _ _, fun c' => ?_⟩
 simp only
 by_cases e : c' = c
 · subst e
   rw [if_pos rfl]
   refine ⟨fun h => ?_, fun j hj => ?_⟩
   · cases h
   · cases hj
     exact ⟨Maps.has_put_same hD (show WideAt.IsKeyLit (.string c') from True.intro) _, Maps.atKey_put_same hD (show WideAt.IsKeyLit (.string c') from True.intro) _ _⟩
 · rw [if_neg e]
   have hne : (Lit.string c') ≠ Lit.string c := by intro h; injection h with h; exact e h
   obtain ⟨k1, k2⟩ := hall c'
   refine ⟨fun h => ?_, fun j hj => ?_⟩
   · rw [Maps.has_put_other hne]; exact k1 h
   · rw [Maps.has_put_other hne, Maps.atKey_put_other hne]
     exact k2 j hj
theorem Xu (w : World) : (zeroValue 111).run Tryz.prog w = .ok noV.V w := by kernel_rfl
theorem kW {w w' : World} {mb : Nat} {es : Array MapEntry} {ck : Nat} {A : Option Addr} {xs : List Value} (h : Rds w A xs) (hm : w.heap[mb]? = some (.map es ck)) (hg : w.grownBy w' (some mb)) : Rds w' A xs := by
 cases xs with
 | nil => exact .inl rfl
 | cons x r =>
   rcases h with h | ⟨b, o, rfl, hlt, hc⟩
   · cases h
   · have hne : b ≠ mb := by
      rintro rfl
      have := hc 0 x rfl
      unfold World.cell? at this
      simp only [hm] at this
      cases this
     exact Rds.grown (.inr ⟨b, o, rfl, hlt, hc⟩) hg (fun a ha => by cases ha; simpa using hne)
def Keeps (w w' : World) : Prop := ∀ A xs, Rds w A xs → Rds w' A xs
theorem U0 {w w' : World} {mb n : Nat} {f : T → Option Zf} (hm : Ur w mb n f) (hg : w.grownBy w' (some mb)) : Keeps w w' := by
 obtain ⟨es, ck, h⟩ := hm.obj
 exact fun A xs hr => kW hr h hg
theorem zj5 {w w' : World} {x : zO} (h : x.is w) (k : Keeps w w') : x.is w' := ⟨h.fit, ⟨h.code.len, h.code.le, h.code.max, k _ _ h.code.rds, h.code.fit⟩, ⟨h.hand.len, h.hand.le, h.hand.max, k _ _ h.hand.rds, h.hand.fit⟩⟩
theorem zj6 {w w' : World} {x : zf} (h : x.is w) (k : Keeps w w') : x.is w' :=
 ⟨⟨h.consts.len, h.consts.le, h.consts.max, k _ _ h.consts.rds, h.consts.fit⟩, ⟨h.fields.len, h.fields.le, h.fields.max, k _ _ h.fields.rds⟩, ⟨h.meths.len, h.meths.le, h.meths.max, k _ _ h.meths.rds, fun y hy => zj5 (h.meths.each y hy) k⟩⟩
theorem Jo {w w' : World} {x : Zf} (h : x.is w) (k : Keeps w w') : x.is w' := ⟨h.flen, h.fle, h.fmax, k _ _ h.frds, h.mlen, h.mle, h.mmax, k _ _ h.mrds⟩
theorem yj {w w' : World} (h : Below w.heap.size w w') : Keeps w w' := fun _ _ hr => hr.below h
structure Ta (lo : Nat) (w : World) (t g mb n : Nat) (A : Option Addr) (c : Nat) (h : Hr) (L : List zf) (f : T → Option Zf) : Prop where
 box : Bx w t #[.pointer (some ⟨g, 0, none⟩), .slice A L.length c, .map (some mb)] 105
 hier : IsH lo w g h
 base : lo ≤ w.heap.size
 lom : lo ≤ mb
 rds : Rds w A (L.flatMap jB)
 map : Ur w mb n f
 each : ∀ x ∈ L, x.is w
 havs : ∀ d x, f d = some x → x.is w ∧ x.fields = (hav L d).1 ∧ x.meths = (hav L d).2
theorem Ta.ext {lo : Nat} {w w' : World} {t g mb n : Nat} {A : Option Addr} {c : Nat} {h : Hr} {L : List zf} {f : T → Option Zf} (H : Ta lo w t g mb n A c h L f) (hb : Below w.heap.size w w') : Ta lo w' t g mb n A c h L f :=
 ⟨H.box.after hb, H.hier.below (hb.mono H.base), Nat.le_trans H.base hb.size, H.lom, H.rds.below hb, H.map.block (hb.block _ H.map.lt), fun x hx => (H.each x hx).below hb, fun d x hx => ⟨Jo (H.havs d x hx).1 (yj hb), (H.havs d x hx).2⟩⟩
theorem Um {lo mb : Nat} {w w' : World} (hg : w.grownBy w' (some mb)) (hl : lo ≤ mb) (hs : lo ≤ w.heap.size) : Below lo w w' :=
 (Below.refl lo w).grown hg hs (fun k hk => by cases hk; exact hl)
theorem Ta.turn {lo : Nat} {w w' : World} {t g mb n n' : Nat} {A : Option Addr} {c : Nat} {h : Hr} {L : List zf} {f f' : T → Option Zf} (H : Ta lo w t g mb n A c h L f) (hg : w.grownBy w' (some mb)) (hm : Ur w' mb n' f') (hh : ∀ d x, f' d = some x → x.is w' ∧ x.fields = (hav L d).1 ∧ x.meths = (hav L d).2) : Ta lo w' t g mb n' A c h L f' := by
 obtain ⟨es, ck, ho⟩ := H.map.obj
 have hne : t ≠ mb := by
  rintro rfl
  have := H.box
  unfold Bx at this
  rw [ho] at this
  cases this
 exact ⟨(hg.block t H.box.lt (by simpa using hne)).trans H.box, H.hier.below (Um hg H.lom H.base), Nat.le_trans H.base hg.size, H.lom, kW H.rds ho hg, hm, fun x hx => zj6 (H.each x hx) (U0 H.map hg), hh⟩
def Total (L : List zf) (f : T → Option Zf) : Prop := ∀ d, L.find? (named d) ≠ none → f d ≠ none
theorem got {lo : Nat} {w : World} {t g mb n : Nat} {A : Option Addr} {c : Nat} {h : Hr} {L : List zf} {f : T → Option Zf} (H : Ta lo w t g mb n A c h L f) (ht : Total L f) (q : T) : (f q).getD noV = noV ∧ f q = none ∧ hav L q = ([], []) ∨ ∃ x, f q = some x ∧ x.is w ∧ x.fields = (hav L q).1 ∧ x.meths = (hav L q).2 := by
 cases hf : f q with
 | none =>
   refine .inl ⟨rfl, rfl, jM ?_⟩
   by_cases hk : L.find? (named q) = none
   · exact hk
   · exact absurd hf (ht q hk)
 | some x => exact .inr ⟨x, rfl, H.havs q x hf⟩
end TabT
end Go.Proofs.YtehainbhoflpnaaGreatDoor
