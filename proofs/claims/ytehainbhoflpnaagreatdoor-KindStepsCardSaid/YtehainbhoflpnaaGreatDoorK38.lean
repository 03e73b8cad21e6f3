/- pieces -/
import Derived.Test.YtehainbhoflpnaaGreatDoorK37
import Derived.Test.YtehainbhoflpnaaGreatDoorK32
namespace Go.Proofs.YtehainbhoflpnaaGreatDoor
namespace KrP
open Go.RowKit Base BinM Stru DescM DescW DescX DescR DescS DescG DescP DescQ HierS HierT HierM HierC HierD HierN HierV HierR HierU HierY HierQ Kls KlsP KlsQ OpenK TabC TabM TabK TabP TabE TabB TabG TabH TabT TabU TabV TabX TabW TabF TabN TabO TabY TabR TabQ TabL KndM KndS KrS KrA
theorem vv (w : World) (cs : Array Value) (ty : TypeId) (xs : List Value) (h : ∃ r, cs.toList = xs ++ r) : Rds (w.alloc (.cells cs ty)) (some ⟨w.heap.size, 0, none⟩) xs := by
 obtain ⟨r, hr⟩ := h
 have h2 := zB w cs ty
 rcases h2 with h0 | ⟨b, o, hA, hb, hc⟩
 · rw [hr] at h0
   exact .inl (List.append_eq_nil_iff.1 h0).1
 · refine .inr ⟨b, o, hA, hb, fun j u hu => hc j u ?_⟩
   rw [hr, List.getElem?_append_left]
   · exact hu
   · exact (List.getElem?_eq_some_iff.1 hu).1
theorem Zc6 : (Tryz.prog.info? 9).map (fun i => (i.zero, i.size, i.bytes)) = some (some (.string ⟨#[]⟩), 1, 16) := by kernel_rfl
theorem zn9 (w : World) (A : Option Addr) (n : Nat) (p : List T) (hn : n = p.length) (hm : n ≤ 1000) (hr : Rds w A (p.map sv)) (ad : Addr) (c : Nat) (d : T) (hx : w.cell? ad = some (sv d)) (ty : TypeId) :
 ∃ A' c' w', (Builtin.append_ #[25, 25] ty #[.slice A n n, .slice (some ad) 1 c]).run Tryz.prog w = .ok (.slice A' (p ++ [d]).length c') w' ∧ Rds w' A' ((p ++ [d]).map sv) ∧ (∀ a, A' = some a → w.heap.size ≤ a.block) ∧ (p ++ [d]).length ≤ c' ∧ c' ≤ maxLen ∧ Below w.heap.size w w' := by
 obtain ⟨i0, hi, hz, hs1, hb1⟩ := info_parts Zc6
 have hx' : ∀ j u, [sv d][j]? = some u → w.cell? (ad.add j) = some u := by
  intro j u hu
  cases j with
  | zero => simp at hu; subst hu; rw [show ad.add 0 = ad by cases ad; simp [Addr.add]]; exact hx
  | succ j => simp at hu
 have hlp : (p ++ [d]).length = n + 1 := by simp [hn]
 have hml : maxLen = 9223372036854775807 := rfl
 rw [hlp]
 cases A with
 | none =>
   have hp : p = [] := by
    rcases hr with h | ⟨_, _, h, _⟩
    · simpa using h
    · cases h
   subst hp
   obtain rfl : n = 0 := hn
   have h := run_append_nil (P := Tryz.prog) w 25 ty 9 i0 _ Tryz.underlying25 hi hz ad 1 c [sv d] (by rw [hs1]; rfl) hx' (by omega) (by omega) (by rw [hb1]; omega)
   refine ⟨_, _, _, h, ?_, ?_, ?_, ?_, ?_⟩
   · exact vv _ _ _ _ (by simp)
   · intro a ha; injection ha with ha; subst ha; exact Nat.le_refl _
   · exact grownCap_ge w 1 0 _
   · exact grownCap_le_maxLen w 1 0 _ (by rw [hml]; omega)
   · exact ((Below.refl w.heap.size w).drew).alloc (Nat.le_refl _) _
 | some b =>
   have h := run_append_grow (P := Tryz.prog) w 25 ty 9 i0 _ Tryz.underlying25 hi hz b n n (p.map sv) (by rw [hs1, hn]; simp) (gB hr b rfl) ad 1 c [sv d] (by rw [hs1]; rfl) hx' (by omega) (by omega) (growslice_fits (by omega) (by rw [hb1]; omega))
   refine ⟨_, _, _, h, ?_, ?_, ?_, ?_, ?_⟩
   · exact vv _ _ _ _ (by simp)
   · intro a ha; injection ha with ha; subst ha; exact Nat.le_refl _
   · exact grownCap_ge w (n + 1) n _
   · exact grownCap_le_maxLen w (n + 1) n _ (by rw [hml]; omega)
   · exact ((Below.refl w.heap.size w).drew).alloc (Nat.le_refl _) _
theorem zh4 {ops : Array Oper} {o : Oper} {a : Act} {w : World} {K : Act → World → Prop} {Q : Exit → Act → World → Prop} {E : Prop} (hgd : o.guard = none) (s x : Operand)
 (ho : o.op = .call { callee := .builtin .append, args := #[s, x], argTypes := #[25, 25] })
 (A : Option Addr) (p : List T) (n : Nat) (hn : n = p.length) (hm : n ≤ 1000) (hs : a.eval s = .slice A n n) (ad : Addr) (c : Nat) (d : T) (hx : a.eval x = .slice (some ad) 1 c) (hr : Rds w A (p.map sv)) (hd : w.cell? ad = some (sv d))
 (h : ∀ A' c' w', Rds w' A' ((p ++ [d]).map sv) → (∀ a, A' = some a → w.heap.size ≤ a.block) → (p ++ [d]).length ≤ c' → c' ≤ maxLen → Below w.heap.size w w' → K (a.put o.dst (.slice A' (p ++ [d]).length c')) w') :
 if Region.wanted o (yielded ops a.tmps) = true then Oper.wp Tryz.prog o a w K Q else E := by
 have hw : Region.wanted o (yielded ops a.tmps) = true := by simp [Region.wanted, hgd]
 rw [if_pos hw]
 obtain ⟨A', c', w', hrun, h1, h2, h3, h4, h5⟩ := zn9 w A n p hn hm hr ad c d hd o.type
 unfold Oper.wp execOp
 simp only [ho, resolve, invoke, builtin, Sem.run_bind, Sem.run_pure, Result.andThen_ok, List.map_toArray, List.map_cons, List.map_nil, hs, hx, hrun]
 exact h A' c' w' h1 h2 h3 h4 h5
set_option maxRecDepth 100000 in
set_option maxHeartbeats 4000000 in
theorem zo2 {w : World} {b r : Nat} {ss : List T} {bad : Bool} (h : Sk w b r ss bad) (hm : ss.length ≤ 1000) (d : T) :
 Calls Tryz.prog 28 #[.pointer (some ⟨b, 0, none⟩), .string ⟨d.toArray⟩] w (J4 w b r (ss ++ [d]) bad (.tuple #[])) := by
 obtain ⟨A, c, hbx, hr, hA, hc1, hc2⟩ := h
 have HB := zH hbx
 have HR := zH hr
 have HA := zH hA
 have c1 : w.cell? ⟨b, 1, none⟩ = some (.slice A ss.length c) := hbx.cell 1
 have f1 := hbx.free 1
 have hlt := hbx.lt
 unfold maxLen at hc2
 clear hbx hr hA
 go_enter Tryz.func28, Tryz.ntmps28
 go_wp2_with fail
 have hal := (Below.refl w.heap.size w).alloc (Nat.le_refl _) (.cells #[.string ⟨d.toArray⟩] 9)
 have HR2 := zH (HR.out.below hal.drew)
 have hd0 : (w.alloc (.cells #[.string ⟨d.toArray⟩] 9)).drew.cell? ⟨w.heap.size, 0, none⟩ = some (sv d) := by simp [sv]
 go_region_law (refine zh4 rfl (.tmp 19) (.tmp 21) rfl A ss ss.length rfl hm rfl ⟨w.heap.size, 0, none⟩ 1 d rfl HR2.out hd0 ?_; intro A2 c2 w2 hr2 hA2 hc21 hc22 hb2; have hB2 := (HB.out.after hal.drew).after hb2; have c12 : w2.cell? ⟨b, 1, none⟩ = some (.slice A ss.length c) := hB2.cell 1; have f12 := hB2.free 1; have hlt2 := hB2.lt)
 all_goals
  have hbl := hal.drew.trans (hb2.mono hal.drew.size)
  have hln : (ss ++ [d]).length = ss.length + 1 := by simp
  have hf : Sk (w2.setCell ⟨b, 1, none⟩ (.slice A2 (ss ++ [d]).length c2)) b r (ss ++ [d]) bad := ⟨A2, c2, hB2.set 1 (.slice A2 (ss ++ [d]).length c2), Vk hr2 (fun a ha => by have := hA2 a ha; have h2 : w.heap.size < (w.alloc (.cells #[.string ⟨d.toArray⟩] 9)).drew.heap.size := (by simp); omega) 1 _, fun _ a ha => by have := hA2 a ha; have h2 : w.heap.size < (w.alloc (.cells #[.string ⟨d.toArray⟩] 9)).drew.heap.size := (by simp); omega, hc21, hc22⟩
  rw [hln] at hf
  have HF := zH hf
  have HG := zH (za (grown_of (some b) hbl) (ZT (w := w2) (b := b) 1 (.slice A2 (ss.length + 1) c2)))
  clear hf hbl hB2 hr2 hA2 hb2
  go_wp2_with fail
  go_end0
  exact ⟨rfl, HF.out, HG.out⟩
end KrP
namespace KrB
open Go.RowKit Base BinM Stru DescM DescW DescX DescS DescG DescP DescQ HierS HierT HierM HierC HierD HierN HierV HierR HierU HierY HierQ Kls KlsP KlsQ OpenK TabC TabM TabK TabP TabE TabB TabG TabH TabT TabU TabV TabX TabW TabF TabN TabO TabY TabR TabQ TabL KndM KndS KrS KrA KrP
open KndP (Qv)
abbrev RS := List T × Bool
def qb (s : RS) : RS := ((zi s.1).2.1, s.2 || !(zi s.1).2.2)
def ZL (s : RS) : T := (zi s.1).1
def zL (x : Bool) (s : RS) : RS := (s.1, s.2 || !x)
def zC (d : T) (s : RS) : RS := (s.1 ++ [d], s.2)
def zK (d : T) (s : RS) : RS := zL (ZL s == d) (qb s)
def Zd (h : Hr) (d : T) (s : RS) : RS := zL (h.sub (ZL s) d) (qb s)
def ZM (s : RS) : RS := zL (Zr (ZL s)) (qb s)
def jQ (s : RS) : RS := zL ((zM (ZL s)).2 == 0) (qb s)
def Few (n : Nat) (s : RS) : Prop := s.1.length ≤ n ∧ ∀ x ∈ s.1, x.length ≤ 140737488351232
theorem Few.mono {n m : Nat} {s : RS} (h : Few n s) (hm : n ≤ m) : Few m s := ⟨Nat.le_trans h.1 hm, h.2⟩
theorem Few.pop {n : Nat} {s : RS} (h : Few n s) : Few n (qb s) := ⟨Nat.le_trans Qv h.1, fun x hx => h.2 x (Gf x hx)⟩
theorem Few.need {n : Nat} {s : RS} (h : Few n s) (x : Bool) : Few n (zL x s) := h
theorem Few.want {n : Nat} {s : RS} (h : Few n s) (d : T) : Few n (zK d s) := h.pop
theorem Few.fits {n : Nat} {s : RS} (h : Few n s) (H : Hr) (d : T) : Few n (Zd H d s) := h.pop
theorem Few.thing {n : Nat} {s : RS} (h : Few n s) : Few n (ZM s) := h.pop
theorem Few.arr {n : Nat} {s : RS} (h : Few n s) : Few n (jQ s) := h.pop
theorem Few.top {n : Nat} {s : RS} (h : Few n s) : (ZL s).length ≤ 140737488351232 := QT h.2
theorem Few.push {n : Nat} {s : RS} (h : Few n s) {d : T} (hd : d.length ≤ 140737488351232) : Few (n + 1) (zC d s) := ⟨by unfold zC; simp; exact h.1, fun x hx => by
 unfold zC at hx
 rcases List.mem_append.1 hx with hx | hx
 · exact h.2 x hx
 · simp at hx; subst hx; exact hd⟩
theorem yw {n : Nat} {s : RS} (h : Few n s) : ∀ x ∈ s.1, x.length ≤ 140737488355328 := fun x hx => Nat.le_trans (h.2 x hx) (by omega)
def zw (w : World) (b r : Nat) (s : RS) (e : Ending) (w' : World) : Prop := J4 w b r s.1 s.2 (.tuple #[]) e w'
section
variable {w : World} {b r : Nat} {s : RS}
theorem ZN (h : Sk w b r s.1 s.2) (hf : Few 900 s) (d : T) : Calls Tryz.prog 60 #[.pointer (some ⟨b, 0, none⟩), .string ⟨d.toArray⟩] w (zw w b r (zK d s)) := zm8 h (by have := hf.1; omega) d
theorem yZ (h : Sk w b r s.1 s.2) (hf : Few 900 s) : Calls Tryz.prog 62 #[.pointer (some ⟨b, 0, none⟩)] w (zw w b r (ZM s)) := Qm h (by have := hf.1; omega) (yw hf)
theorem qB (h : Sk w b r s.1 s.2) (x : Bool) : Calls Tryz.prog 27 #[.pointer (some ⟨b, 0, none⟩), .bool x] w (zw w b r (zL x s)) := zr3 h x
theorem gG (h : Sk w b r s.1 s.2) (hf : Few 900 s) : Calls Tryz.prog 29 #[.pointer (some ⟨b, 0, none⟩)] w (J4 w b r (qb s).1 (qb s).2 (.string ⟨(ZL s).toArray⟩)) := qO h (by have := hf.1; omega)
theorem c_arr (h : Sk w b r s.1 s.2) (hf : Few 900 s) : Calls Tryz.prog 120 #[.pointer (some ⟨b, 0, none⟩)] w (J4 w b r (jQ s).1 (jQ s).2 (.string ⟨(zM (ZL s)).1.toArray⟩)) := zm4 h (by have := hf.1; omega) (yw hf)
theorem Zp (h : Sk w b r s.1 s.2) (hf : Few 900 s) (d : T) : Calls Tryz.prog 28 #[.pointer (some ⟨b, 0, none⟩), .string ⟨d.toArray⟩] w (zw w b r (zC d s)) := zo2 h (by have := hf.1; omega) d
theorem Ul {lo g : Nat} {ps : List P2} (h : Sk w b r s.1 s.2) (hf : Few 900 s) (H : TbR lo w r g ps) (hb : lo ≤ b) (d : T) (hd : d.length ≤ 140737488351232) : Calls Tryz.prog 64 #[.pointer (some ⟨b, 0, none⟩), .string ⟨d.toArray⟩] w (zw w b r (Zd (mk ps) d s)) := yu h H hb (by have := hf.1; omega) (yw hf) d (by omega)
end
set_option maxRecDepth 100000 in
theorem Zb4 {w : World} {b r : Nat} {s : RS} (h : Sk w b r s.1 s.2) (hf : Few 800 s) (gv : T) : Calls Tryz.prog 67 #[.pointer (some ⟨b, 0, none⟩), .int .i64 31, .string ⟨gv.toArray⟩] w (zw w b r (zC [73] (jQ (s)))) := by
 go_enter Tryz.func67, Tryz.ntmps67
 go_wp2_with fail
 refine (c_arr h (hf.mono (by omega))).mono ?_
 rintro e w1 ⟨rfl, hs, hg⟩
 have HS1 := zH hs
 have HG1 := zH (hg)
 have HF1 := zH hf.arr
 clear hs hg
 go_wp2_with fail
 refine (Zp HS1.out (HF1.out.mono (by omega)) [73]).mono ?_
 rintro e w2 ⟨rfl, hs, hg⟩
 have HS2 := zH hs
 have HG2 := zH (za HG1.out hg)
 have HF2 := zH (HF1.out.push (d := [73]) (by simp))
 clear hs hg
 go_wp2_with fail
 go_end0
 exact ⟨rfl, HS2.out, HG2.out⟩
set_option maxRecDepth 100000 in
theorem Zb1 {w : World} {b r : Nat} {s : RS} {lo g : Nat} {ps : List P2} (H : TbR lo w r g ps) (hb : lo ≤ b) (h : Sk w b r s.1 s.2) (hf : Few 800 s) (gv : T) : Calls Tryz.prog 67 #[.pointer (some ⟨b, 0, none⟩), .int .i64 35, .string ⟨gv.toArray⟩] w (zw w b r (Zd (mk ps) [76, 69, 120, 99, 59] (s))) := by
 have hlow : lo ≤ w.heap.size := by have := h.lt; omega
 go_enter Tryz.func67, Tryz.ntmps67
 go_wp2_with fail
 refine (Ul h (hf.mono (by omega)) H hb [76, 69, 120, 99, 59] (by simp)).mono ?_
 rintro e w1 ⟨rfl, hs, hg⟩
 have HS1 := zH hs
 have HG1 := zH (hg)
 have HF1 := zH (hf.fits (mk ps) [76, 69, 120, 99, 59])
 clear hs hg
 go_wp2_with fail
 go_end0
 exact ⟨rfl, HS1.out, HG1.out⟩
set_option maxRecDepth 100000 in
theorem Zb0 {w : World} {b r : Nat} {s : RS} (h : Sk w b r s.1 s.2) (hf : Few 800 s) (gv : T) : Calls Tryz.prog 67 #[.pointer (some ⟨b, 0, none⟩), .int .i64 36, .string ⟨gv.toArray⟩] w (zw w b r (ZM (s))) := by
 go_enter Tryz.func67, Tryz.ntmps67
 go_wp2_with fail
 refine (yZ h (hf.mono (by omega))).mono ?_
 rintro e w1 ⟨rfl, hs, hg⟩
 have HS1 := zH hs
 have HG1 := zH (hg)
 have HF1 := zH hf.thing
 clear hs hg
 go_wp2_with fail
 go_end0
 exact ⟨rfl, HS1.out, HG1.out⟩
set_option maxRecDepth 100000 in
theorem Za9 {w : World} {b r : Nat} {s : RS} (h : Sk w b r s.1 s.2) (hf : Few 800 s) (gv : T) : Calls Tryz.prog 67 #[.pointer (some ⟨b, 0, none⟩), .int .i64 37, .string ⟨gv.toArray⟩] w (zw w b r (ZM (s))) := by
 go_enter Tryz.func67, Tryz.ntmps67
 go_wp2_with fail
 refine (yZ h (hf.mono (by omega))).mono ?_
 rintro e w1 ⟨rfl, hs, hg⟩
 have HS1 := zH hs
 have HG1 := zH (hg)
 have HF1 := zH hf.thing
 clear hs hg
 go_wp2_with fail
 go_end0
 exact ⟨rfl, HS1.out, HG1.out⟩
set_option maxRecDepth 100000 in
theorem Za7 {w : World} {b r : Nat} {s : RS} {lo g : Nat} {ps : List P2} (H : TbR lo w r g ps) (hb : lo ≤ b) (h : Sk w b r s.1 s.2) (hf : Few 800 s) (gv : T) : Calls Tryz.prog 67 #[.pointer (some ⟨b, 0, none⟩), .int .i64 42, .string ⟨gv.toArray⟩] w (zw w b r (zC [83] (Zd (mk ps) [83] (Zd (mk ps) [83] (s))))) := by
 have hlow : lo ≤ w.heap.size := by have := h.lt; omega
 go_enter Tryz.func67, Tryz.ntmps67
 go_wp2_with fail
 refine (Ul h (hf.mono (by omega)) H hb [83] (by simp)).mono ?_
 rintro e w1 ⟨rfl, hs, hg⟩
 have HS1 := zH hs
 have HG1 := zH (hg)
 have HF1 := zH (hf.fits (mk ps) [83])
 clear hs hg
 go_wp2_with fail
 refine (Ul HS1.out (HF1.out.mono (by omega)) (H.below (below_grown HG1.out hb hlow)) hb [83] (by simp)).mono ?_
 rintro e w2 ⟨rfl, hs, hg⟩
 have HS2 := zH hs
 have HG2 := zH (za HG1.out hg)
 have HF2 := zH (HF1.out.fits (mk ps) [83])
 clear hs hg
 go_wp2_with fail
 refine (Zp HS2.out (HF2.out.mono (by omega)) [83]).mono ?_
 rintro e w3 ⟨rfl, hs, hg⟩
 have HS3 := zH hs
 have HG3 := zH (za HG2.out hg)
 have HF3 := zH (HF2.out.push (d := [83]) (by simp))
 clear hs hg
 go_wp2_with fail
 go_end0
 exact ⟨rfl, HS3.out, HG3.out⟩
set_option maxRecDepth 100000 in
theorem Za6 {w : World} {b r : Nat} {s : RS} {lo g : Nat} {ps : List P2} (H : TbR lo w r g ps) (hb : lo ≤ b) (h : Sk w b r s.1 s.2) (hf : Few 800 s) (gv : T) : Calls Tryz.prog 67 #[.pointer (some ⟨b, 0, none⟩), .int .i64 43, .string ⟨gv.toArray⟩] w (zw w b r (zC [73] (Zd (mk ps) [83] (s)))) := by
 have hlow : lo ≤ w.heap.size := by have := h.lt; omega
 go_enter Tryz.func67, Tryz.ntmps67
 go_wp2_with fail
 refine (Ul h (hf.mono (by omega)) H hb [83] (by simp)).mono ?_
 rintro e w1 ⟨rfl, hs, hg⟩
 have HS1 := zH hs
 have HG1 := zH (hg)
 have HF1 := zH (hf.fits (mk ps) [83])
 clear hs hg
 go_wp2_with fail
 refine (Zp HS1.out (HF1.out.mono (by omega)) [73]).mono ?_
 rintro e w2 ⟨rfl, hs, hg⟩
 have HS2 := zH hs
 have HG2 := zH (za HG1.out hg)
 have HF2 := zH (HF1.out.push (d := [73]) (by simp))
 clear hs hg
 go_wp2_with fail
 go_end0
 exact ⟨rfl, HS2.out, HG2.out⟩
set_option maxRecDepth 100000 in
theorem Vr {w : World} {b r : Nat} {s : RS} (h : Sk w b r s.1 s.2) (_hf : Few 800 s) (gv : T) : Calls Tryz.prog 31 #[.pointer (some ⟨b, 0, none⟩), .int .i64 0, .string ⟨gv.toArray⟩] w (zw w b r (s)) := by
 go_enter Tryz.func31, Tryz.ntmps31
 go_wp2_with fail
 go_end0
 exact ⟨rfl, h, qV _ _⟩
set_option maxRecDepth 100000 in
theorem zz4 {w : World} {b r : Nat} {s : RS} (h : Sk w b r s.1 s.2) (hf : Few 800 s) (gv : T) : Calls Tryz.prog 31 #[.pointer (some ⟨b, 0, none⟩), .int .i64 3, .string ⟨gv.toArray⟩] w (zw w b r (zC [66] (s))) := by
 go_enter Tryz.func31, Tryz.ntmps31
 go_wp2_with fail
 refine (Zp h (hf.mono (by omega)) [66]).mono ?_
 rintro e w1 ⟨rfl, hs, hg⟩
 have HS1 := zH hs
 have HG1 := zH (hg)
 have HF1 := zH (hf.push (d := [66]) (by simp))
 clear hs hg
 go_wp2_with fail
 go_end0
 exact ⟨rfl, HS1.out, HG1.out⟩
set_option maxRecDepth 100000 in
theorem zz3 {w : World} {b r : Nat} {s : RS} (h : Sk w b r s.1 s.2) (hf : Few 800 s) (gv : T) : Calls Tryz.prog 31 #[.pointer (some ⟨b, 0, none⟩), .int .i64 4, .string ⟨gv.toArray⟩] w (zw w b r (zC [66] (s))) := by
 go_enter Tryz.func31, Tryz.ntmps31
 go_wp2_with fail
 refine (Zp h (hf.mono (by omega)) [66]).mono ?_
 rintro e w1 ⟨rfl, hs, hg⟩
 have HS1 := zH hs
 have HG1 := zH (hg)
 have HF1 := zH (hf.push (d := [66]) (by simp))
 clear hs hg
 go_wp2_with fail
 go_end0
 exact ⟨rfl, HS1.out, HG1.out⟩
set_option maxRecDepth 100000 in
theorem Vq {w : World} {b r : Nat} {s : RS} (h : Sk w b r s.1 s.2) (hf : Few 800 s) (gv : T) : Calls Tryz.prog 31 #[.pointer (some ⟨b, 0, none⟩), .int .i64 5, .string ⟨gv.toArray⟩] w (zw w b r (zC [78] (s))) := by
 go_enter Tryz.func31, Tryz.ntmps31
 go_wp2_with fail
 refine (Zp h (hf.mono (by omega)) [78]).mono ?_
 rintro e w1 ⟨rfl, hs, hg⟩
 have HS1 := zH hs
 have HG1 := zH (hg)
 have HF1 := zH (hf.push (d := [78]) (by simp))
 clear hs hg
 go_wp2_with fail
 go_end0
 exact ⟨rfl, HS1.out, HG1.out⟩
set_option maxRecDepth 100000 in
theorem zq0 {w : World} {b r : Nat} {s : RS} (h : Sk w b r s.1 s.2) (hf : Few 800 s) (gv : T) : Calls Tryz.prog 31 #[.pointer (some ⟨b, 0, none⟩), .int .i64 10, .string ⟨gv.toArray⟩] w (zw w b r (zC [73] (zK [73] (zK [73] (s))))) := by
 go_enter Tryz.func31, Tryz.ntmps31
 go_wp2_with fail
 refine (ZN h (hf.mono (by omega)) [73]).mono ?_
 rintro e w1 ⟨rfl, hs, hg⟩
 have HS1 := zH hs
 have HG1 := zH (hg)
 have HF1 := zH (hf.want [73])
 clear hs hg
 go_wp2_with fail
 refine (ZN HS1.out (HF1.out.mono (by omega)) [73]).mono ?_
 rintro e w2 ⟨rfl, hs, hg⟩
 have HS2 := zH hs
 have HG2 := zH (za HG1.out hg)
 have HF2 := zH (HF1.out.want [73])
 clear hs hg
 go_wp2_with fail
 refine (Zp HS2.out (HF2.out.mono (by omega)) [73]).mono ?_
 rintro e w3 ⟨rfl, hs, hg⟩
 have HS3 := zH hs
 have HG3 := zH (za HG2.out hg)
 have HF3 := zH (HF2.out.push (d := [73]) (by simp))
 clear hs hg
 go_wp2_with fail
 go_end0
 exact ⟨rfl, HS3.out, HG3.out⟩
set_option maxRecDepth 100000 in
theorem zp9 {w : World} {b r : Nat} {s : RS} (h : Sk w b r s.1 s.2) (hf : Few 800 s) (gv : T) : Calls Tryz.prog 31 #[.pointer (some ⟨b, 0, none⟩), .int .i64 11, .string ⟨gv.toArray⟩] w (zw w b r (zC [73] (zK [73] (zK [73] (s))))) := by
 go_enter Tryz.func31, Tryz.ntmps31
 go_wp2_with fail
 refine (ZN h (hf.mono (by omega)) [73]).mono ?_
 rintro e w1 ⟨rfl, hs, hg⟩
 have HS1 := zH hs
 have HG1 := zH (hg)
 have HF1 := zH (hf.want [73])
 clear hs hg
 go_wp2_with fail
 refine (ZN HS1.out (HF1.out.mono (by omega)) [73]).mono ?_
 rintro e w2 ⟨rfl, hs, hg⟩
 have HS2 := zH hs
 have HG2 := zH (za HG1.out hg)
 have HF2 := zH (HF1.out.want [73])
 clear hs hg
 go_wp2_with fail
 refine (Zp HS2.out (HF2.out.mono (by omega)) [73]).mono ?_
 rintro e w3 ⟨rfl, hs, hg⟩
 have HS3 := zH hs
 have HG3 := zH (za HG2.out hg)
 have HF3 := zH (HF2.out.push (d := [73]) (by simp))
 clear hs hg
 go_wp2_with fail
 go_end0
 exact ⟨rfl, HS3.out, HG3.out⟩
set_option maxRecDepth 100000 in
theorem zp8 {w : World} {b r : Nat} {s : RS} (h : Sk w b r s.1 s.2) (hf : Few 800 s) (gv : T) : Calls Tryz.prog 31 #[.pointer (some ⟨b, 0, none⟩), .int .i64 12, .string ⟨gv.toArray⟩] w (zw w b r (zC [73] (zK [73] (zK [73] (s))))) := by
 go_enter Tryz.func31, Tryz.ntmps31
 go_wp2_with fail
 refine (ZN h (hf.mono (by omega)) [73]).mono ?_
 rintro e w1 ⟨rfl, hs, hg⟩
 have HS1 := zH hs
 have HG1 := zH (hg)
 have HF1 := zH (hf.want [73])
 clear hs hg
 go_wp2_with fail
 refine (ZN HS1.out (HF1.out.mono (by omega)) [73]).mono ?_
 rintro e w2 ⟨rfl, hs, hg⟩
 have HS2 := zH hs
 have HG2 := zH (za HG1.out hg)
 have HF2 := zH (HF1.out.want [73])
 clear hs hg
 go_wp2_with fail
 refine (Zp HS2.out (HF2.out.mono (by omega)) [73]).mono ?_
 rintro e w3 ⟨rfl, hs, hg⟩
 have HS3 := zH hs
 have HG3 := zH (za HG2.out hg)
 have HF3 := zH (HF2.out.push (d := [73]) (by simp))
 clear hs hg
 go_wp2_with fail
 go_end0
 exact ⟨rfl, HS3.out, HG3.out⟩
set_option maxRecDepth 100000 in
theorem zp7 {w : World} {b r : Nat} {s : RS} (h : Sk w b r s.1 s.2) (hf : Few 800 s) (gv : T) : Calls Tryz.prog 31 #[.pointer (some ⟨b, 0, none⟩), .int .i64 13, .string ⟨gv.toArray⟩] w (zw w b r (zC [73] (zK [73] (zK [73] (s))))) := by
 go_enter Tryz.func31, Tryz.ntmps31
 go_wp2_with fail
 refine (ZN h (hf.mono (by omega)) [73]).mono ?_
 rintro e w1 ⟨rfl, hs, hg⟩
 have HS1 := zH hs
 have HG1 := zH (hg)
 have HF1 := zH (hf.want [73])
 clear hs hg
 go_wp2_with fail
 refine (ZN HS1.out (HF1.out.mono (by omega)) [73]).mono ?_
 rintro e w2 ⟨rfl, hs, hg⟩
 have HS2 := zH hs
 have HG2 := zH (za HG1.out hg)
 have HF2 := zH (HF1.out.want [73])
 clear hs hg
 go_wp2_with fail
 refine (Zp HS2.out (HF2.out.mono (by omega)) [73]).mono ?_
 rintro e w3 ⟨rfl, hs, hg⟩
 have HS3 := zH hs
 have HG3 := zH (za HG2.out hg)
 have HF3 := zH (HF2.out.push (d := [73]) (by simp))
 clear hs hg
 go_wp2_with fail
 go_end0
 exact ⟨rfl, HS3.out, HG3.out⟩
set_option maxRecDepth 100000 in
theorem zp6 {w : World} {b r : Nat} {s : RS} (h : Sk w b r s.1 s.2) (hf : Few 800 s) (gv : T) : Calls Tryz.prog 31 #[.pointer (some ⟨b, 0, none⟩), .int .i64 14, .string ⟨gv.toArray⟩] w (zw w b r (zC [73] (zK [73] (zK [73] (s))))) := by
 go_enter Tryz.func31, Tryz.ntmps31
 go_wp2_with fail
 refine (ZN h (hf.mono (by omega)) [73]).mono ?_
 rintro e w1 ⟨rfl, hs, hg⟩
 have HS1 := zH hs
 have HG1 := zH (hg)
 have HF1 := zH (hf.want [73])
 clear hs hg
 go_wp2_with fail
 refine (ZN HS1.out (HF1.out.mono (by omega)) [73]).mono ?_
 rintro e w2 ⟨rfl, hs, hg⟩
 have HS2 := zH hs
 have HG2 := zH (za HG1.out hg)
 have HF2 := zH (HF1.out.want [73])
 clear hs hg
 go_wp2_with fail
 refine (Zp HS2.out (HF2.out.mono (by omega)) [73]).mono ?_
 rintro e w3 ⟨rfl, hs, hg⟩
 have HS3 := zH hs
 have HG3 := zH (za HG2.out hg)
 have HF3 := zH (HF2.out.push (d := [73]) (by simp))
 clear hs hg
 go_wp2_with fail
 go_end0
 exact ⟨rfl, HS3.out, HG3.out⟩
set_option maxRecDepth 100000 in
theorem zp5 {w : World} {b r : Nat} {s : RS} (h : Sk w b r s.1 s.2) (hf : Few 800 s) (gv : T) : Calls Tryz.prog 31 #[.pointer (some ⟨b, 0, none⟩), .int .i64 15, .string ⟨gv.toArray⟩] w (zw w b r (zC [73] (zK [73] (s)))) := by
 go_enter Tryz.func31, Tryz.ntmps31
 go_wp2_with fail
 refine (ZN h (hf.mono (by omega)) [73]).mono ?_
 rintro e w1 ⟨rfl, hs, hg⟩
 have HS1 := zH hs
 have HG1 := zH (hg)
 have HF1 := zH (hf.want [73])
 clear hs hg
 go_wp2_with fail
 refine (Zp HS1.out (HF1.out.mono (by omega)) [73]).mono ?_
 rintro e w2 ⟨rfl, hs, hg⟩
 have HS2 := zH hs
 have HG2 := zH (za HG1.out hg)
 have HF2 := zH (HF1.out.push (d := [73]) (by simp))
 clear hs hg
 go_wp2_with fail
 go_end0
 exact ⟨rfl, HS2.out, HG2.out⟩
set_option maxRecDepth 100000 in
theorem zp4 {w : World} {b r : Nat} {s : RS} (h : Sk w b r s.1 s.2) (hf : Few 800 s) (gv : T) : Calls Tryz.prog 31 #[.pointer (some ⟨b, 0, none⟩), .int .i64 16, .string ⟨gv.toArray⟩] w (zw w b r (zC [66] (zK [66] (s)))) := by
 go_enter Tryz.func31, Tryz.ntmps31
 go_wp2_with fail
 refine (ZN h (hf.mono (by omega)) [66]).mono ?_
 rintro e w1 ⟨rfl, hs, hg⟩
 have HS1 := zH hs
 have HG1 := zH (hg)
 have HF1 := zH (hf.want [66])
 clear hs hg
 go_wp2_with fail
 refine (Zp HS1.out (HF1.out.mono (by omega)) [66]).mono ?_
 rintro e w2 ⟨rfl, hs, hg⟩
 have HS2 := zH hs
 have HG2 := zH (za HG1.out hg)
 have HF2 := zH (HF1.out.push (d := [66]) (by simp))
 clear hs hg
 go_wp2_with fail
 go_end0
 exact ⟨rfl, HS2.out, HG2.out⟩
set_option maxRecDepth 100000 in
theorem zp3 {w : World} {b r : Nat} {s : RS} (h : Sk w b r s.1 s.2) (hf : Few 800 s) (gv : T) : Calls Tryz.prog 31 #[.pointer (some ⟨b, 0, none⟩), .int .i64 17, .string ⟨gv.toArray⟩] w (zw w b r (zC [66] (zK [73] (zK [73] (s))))) := by
 go_enter Tryz.func31, Tryz.ntmps31
 go_wp2_with fail
 refine (ZN h (hf.mono (by omega)) [73]).mono ?_
 rintro e w1 ⟨rfl, hs, hg⟩
 have HS1 := zH hs
 have HG1 := zH (hg)
 have HF1 := zH (hf.want [73])
 clear hs hg
 go_wp2_with fail
 refine (ZN HS1.out (HF1.out.mono (by omega)) [73]).mono ?_
 rintro e w2 ⟨rfl, hs, hg⟩
 have HS2 := zH hs
 have HG2 := zH (za HG1.out hg)
 have HF2 := zH (HF1.out.want [73])
 clear hs hg
 go_wp2_with fail
 refine (Zp HS2.out (HF2.out.mono (by omega)) [66]).mono ?_
 rintro e w3 ⟨rfl, hs, hg⟩
 have HS3 := zH hs
 have HG3 := zH (za HG2.out hg)
 have HF3 := zH (HF2.out.push (d := [66]) (by simp))
 clear hs hg
 go_wp2_with fail
 go_end0
 exact ⟨rfl, HS3.out, HG3.out⟩
set_option maxRecDepth 100000 in
theorem zp2 {w : World} {b r : Nat} {s : RS} (h : Sk w b r s.1 s.2) (hf : Few 800 s) (gv : T) : Calls Tryz.prog 31 #[.pointer (some ⟨b, 0, none⟩), .int .i64 18, .string ⟨gv.toArray⟩] w (zw w b r (zC [66] (zK [73] (zK [73] (s))))) := by
 go_enter Tryz.func31, Tryz.ntmps31
 go_wp2_with fail
 refine (ZN h (hf.mono (by omega)) [73]).mono ?_
 rintro e w1 ⟨rfl, hs, hg⟩
 have HS1 := zH hs
 have HG1 := zH (hg)
 have HF1 := zH (hf.want [73])
 clear hs hg
 go_wp2_with fail
 refine (ZN HS1.out (HF1.out.mono (by omega)) [73]).mono ?_
 rintro e w2 ⟨rfl, hs, hg⟩
 have HS2 := zH hs
 have HG2 := zH (za HG1.out hg)
 have HF2 := zH (HF1.out.want [73])
 clear hs hg
 go_wp2_with fail
 refine (Zp HS2.out (HF2.out.mono (by omega)) [66]).mono ?_
 rintro e w3 ⟨rfl, hs, hg⟩
 have HS3 := zH hs
 have HG3 := zH (za HG2.out hg)
 have HF3 := zH (HF2.out.push (d := [66]) (by simp))
 clear hs hg
 go_wp2_with fail
 go_end0
 exact ⟨rfl, HS3.out, HG3.out⟩
set_option maxRecDepth 100000 in
theorem zp1 {w : World} {b r : Nat} {s : RS} (h : Sk w b r s.1 s.2) (hf : Few 800 s) (gv : T) : Calls Tryz.prog 31 #[.pointer (some ⟨b, 0, none⟩), .int .i64 19, .string ⟨gv.toArray⟩] w (zw w b r (zC [66] (zK [73] (zK [73] (s))))) := by
 go_enter Tryz.func31, Tryz.ntmps31
 go_wp2_with fail
 refine (ZN h (hf.mono (by omega)) [73]).mono ?_
 rintro e w1 ⟨rfl, hs, hg⟩
 have HS1 := zH hs
 have HG1 := zH (hg)
 have HF1 := zH (hf.want [73])
 clear hs hg
 go_wp2_with fail
 refine (ZN HS1.out (HF1.out.mono (by omega)) [73]).mono ?_
 rintro e w2 ⟨rfl, hs, hg⟩
 have HS2 := zH hs
 have HG2 := zH (za HG1.out hg)
 have HF2 := zH (HF1.out.want [73])
 clear hs hg
 go_wp2_with fail
 refine (Zp HS2.out (HF2.out.mono (by omega)) [66]).mono ?_
 rintro e w3 ⟨rfl, hs, hg⟩
 have HS3 := zH hs
 have HG3 := zH (za HG2.out hg)
 have HF3 := zH (HF2.out.push (d := [66]) (by simp))
 clear hs hg
 go_wp2_with fail
 go_end0
 exact ⟨rfl, HS3.out, HG3.out⟩
set_option maxRecDepth 100000 in
theorem zp0 {w : World} {b r : Nat} {s : RS} (h : Sk w b r s.1 s.2) (hf : Few 800 s) (gv : T) : Calls Tryz.prog 31 #[.pointer (some ⟨b, 0, none⟩), .int .i64 20, .string ⟨gv.toArray⟩] w (zw w b r (zC [66] (zK [66] (zK [66] (s))))) := by
 go_enter Tryz.func31, Tryz.ntmps31
 go_wp2_with fail
 refine (ZN h (hf.mono (by omega)) [66]).mono ?_
 rintro e w1 ⟨rfl, hs, hg⟩
 have HS1 := zH hs
 have HG1 := zH (hg)
 have HF1 := zH (hf.want [66])
 clear hs hg
 go_wp2_with fail
 refine (ZN HS1.out (HF1.out.mono (by omega)) [66]).mono ?_
 rintro e w2 ⟨rfl, hs, hg⟩
 have HS2 := zH hs
 have HG2 := zH (za HG1.out hg)
 have HF2 := zH (HF1.out.want [66])
 clear hs hg
 go_wp2_with fail
 refine (Zp HS2.out (HF2.out.mono (by omega)) [66]).mono ?_
 rintro e w3 ⟨rfl, hs, hg⟩
 have HS3 := zH hs
 have HG3 := zH (za HG2.out hg)
 have HF3 := zH (HF2.out.push (d := [66]) (by simp))
 clear hs hg
 go_wp2_with fail
 go_end0
 exact ⟨rfl, HS3.out, HG3.out⟩
set_option maxRecDepth 100000 in
theorem uK {w : World} {b r : Nat} {s : RS} (h : Sk w b r s.1 s.2) (hf : Few 800 s) (gv : T) : Calls Tryz.prog 31 #[.pointer (some ⟨b, 0, none⟩), .int .i64 21, .string ⟨gv.toArray⟩] w (zw w b r (zC [66] (ZM (ZM (s))))) := by
 go_enter Tryz.func31, Tryz.ntmps31
 go_wp2_with fail
 refine (yZ h (hf.mono (by omega))).mono ?_
 rintro e w1 ⟨rfl, hs, hg⟩
 have HS1 := zH hs
 have HG1 := zH (hg)
 have HF1 := zH hf.thing
 clear hs hg
 go_wp2_with fail
 refine (yZ HS1.out (HF1.out.mono (by omega))).mono ?_
 rintro e w2 ⟨rfl, hs, hg⟩
 have HS2 := zH hs
 have HG2 := zH (za HG1.out hg)
 have HF2 := zH HF1.out.thing
 clear hs hg
 go_wp2_with fail
 refine (Zp HS2.out (HF2.out.mono (by omega)) [66]).mono ?_
 rintro e w3 ⟨rfl, hs, hg⟩
 have HS3 := zH hs
 have HG3 := zH (za HG2.out hg)
 have HF3 := zH (HF2.out.push (d := [66]) (by simp))
 clear hs hg
 go_wp2_with fail
 go_end0
 exact ⟨rfl, HS3.out, HG3.out⟩
set_option maxRecDepth 100000 in
theorem zo9 {w : World} {b r : Nat} {s : RS} (h : Sk w b r s.1 s.2) (_hf : Few 800 s) (gv : T) : Calls Tryz.prog 31 #[.pointer (some ⟨b, 0, none⟩), .int .i64 22, .string ⟨gv.toArray⟩] w (zw w b r (s)) := by
 go_enter Tryz.func31, Tryz.ntmps31
 go_wp2_with fail
 go_end0
 exact ⟨rfl, h, qV _ _⟩
set_option maxRecDepth 100000 in
theorem zo8 {w : World} {b r : Nat} {s : RS} (h : Sk w b r s.1 s.2) (hf : Few 800 s) (gv : T) : Calls Tryz.prog 31 #[.pointer (some ⟨b, 0, none⟩), .int .i64 23, .string ⟨gv.toArray⟩] w (zw w b r (zK [66] (s))) := by
 go_enter Tryz.func31, Tryz.ntmps31
 go_wp2_with fail
 refine (ZN h (hf.mono (by omega)) [66]).mono ?_
 rintro e w1 ⟨rfl, hs, hg⟩
 have HS1 := zH hs
 have HG1 := zH (hg)
 have HF1 := zH (hf.want [66])
 clear hs hg
 go_wp2_with fail
 go_end0
 exact ⟨rfl, HS1.out, HG1.out⟩
set_option maxRecDepth 100000 in
theorem zo7 {w : World} {b r : Nat} {s : RS} (h : Sk w b r s.1 s.2) (hf : Few 800 s) (gv : T) : Calls Tryz.prog 31 #[.pointer (some ⟨b, 0, none⟩), .int .i64 24, .string ⟨gv.toArray⟩] w (zw w b r (zK [66] (s))) := by
 go_enter Tryz.func31, Tryz.ntmps31
 go_wp2_with fail
 refine (ZN h (hf.mono (by omega)) [66]).mono ?_
 rintro e w1 ⟨rfl, hs, hg⟩
 have HS1 := zH hs
 have HG1 := zH (hg)
 have HF1 := zH (hf.want [66])
 clear hs hg
 go_wp2_with fail
 go_end0
 exact ⟨rfl, HS1.out, HG1.out⟩
set_option maxRecDepth 100000 in
theorem uy {w : World} {b r : Nat} {s : RS} (h : Sk w b r s.1 s.2) (hf : Few 800 s) (gv : T) : Calls Tryz.prog 31 #[.pointer (some ⟨b, 0, none⟩), .int .i64 41, .string ⟨gv.toArray⟩] w (zw w b r (zC [73] (s))) := by
 go_enter Tryz.func31, Tryz.ntmps31
 go_wp2_with fail
 refine (Zp h (hf.mono (by omega)) [73]).mono ?_
 rintro e w1 ⟨rfl, hs, hg⟩
 have HS1 := zH hs
 have HG1 := zH (hg)
 have HF1 := zH (hf.push (d := [73]) (by simp))
 clear hs hg
 go_wp2_with fail
 go_end0
 exact ⟨rfl, HS1.out, HG1.out⟩
set_option maxRecDepth 100000 in
theorem Vp {w : World} {b r : Nat} {s : RS} (h : Sk w b r s.1 s.2) (hf : Few 800 s) (gv : T) : Calls Tryz.prog 31 #[.pointer (some ⟨b, 0, none⟩), .int .i64 8, .string ⟨gv.toArray⟩] w (zw w b r (qb s)) := by
 go_enter Tryz.func31, Tryz.ntmps31
 go_wp2_with fail
 refine (gG h (hf.mono (by omega))).mono ?_
 rintro e w1 ⟨rfl, hs, hg⟩
 have HS1 := zH hs
 have HG1 := zH hg
 clear hs hg
 go_wp2_with fail
 go_end0
 exact ⟨rfl, HS1.out, HG1.out⟩
set_option maxRecDepth 100000 in
theorem Vo {w : World} {b r : Nat} {s : RS} (h : Sk w b r s.1 s.2) (hf : Few 800 s) (gv : T) : Calls Tryz.prog 31 #[.pointer (some ⟨b, 0, none⟩), .int .i64 9, .string ⟨gv.toArray⟩] w (zw w b r (zC (ZL s) (zC (ZL s) (qb s)))) := by
 go_enter Tryz.func31, Tryz.ntmps31
 go_wp2_with fail
 refine (gG h (hf.mono (by omega))).mono ?_
 rintro e w1 ⟨rfl, hs, hg⟩
 have HS1 := zH hs
 have HG1 := zH hg
 clear hs hg
 go_wp2_with fail
 refine (Zp HS1.out (hf.pop.mono (by omega)) (ZL s)).mono ?_
 rintro e w2 ⟨rfl, hs, hg⟩
 have HS2 := zH hs
 have HG2 := zH (za HG1.out hg)
 clear hs hg
 go_wp2_with fail
 refine (Zp HS2.out ((hf.pop.push hf.top).mono (by omega)) (ZL s)).mono ?_
 rintro e w3 ⟨rfl, hs, hg⟩
 have HS3 := zH hs
 have HG3 := zH (za HG2.out hg)
 clear hs hg
 go_wp2_with fail
 go_end0
 exact ⟨rfl, HS3.out, HG3.out⟩
end KrB
end Go.Proofs.YtehainbhoflpnaaGreatDoor
