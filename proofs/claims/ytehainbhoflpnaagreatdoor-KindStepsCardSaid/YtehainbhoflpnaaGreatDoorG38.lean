/-
  The document's stack (layer 9): push.
-/
import Derived.Test.YtehainbhoflpnaaGreatDoorG37
import Derived.Test.YtehainbhoflpnaaGreatDoorG32
namespace Go.Proofs.YtehainbhoflpnaaGreatDoor
namespace KrP
open Go.RowKit Base BinM Stru DescM DescW DescX DescR DescS DescG DescP DescQ HierS HierT HierM HierC HierD HierN HierV HierR HierU HierY HierQ Kls KlsP KlsQ OpenK TabC TabM TabK TabP TabE TabB TabG TabH TabT TabU TabV TabX TabW TabF TabN TabO TabY TabR TabQ TabL KndM KndS KrS KrA

/-- the first cells of what was just laid -/
theorem rds_first (w : World) (cs : Array Value) (ty : TypeId) (xs : List Value) (h : ∃ r, cs.toList = xs ++ r) : Rds (w.alloc (.cells cs ty)) (some ⟨w.heap.size, 0, none⟩) xs := by
  obtain ⟨r, hr⟩ := h
  have h2 := rds_new w cs ty
  rcases h2 with h0 | ⟨b, o, hA, hb, hc⟩
  · rw [hr] at h0
    exact .inl (List.append_eq_nil_iff.1 h0).1
  · refine .inr ⟨b, o, hA, hb, fun j u hu => hc j u ?_⟩
    rw [hr, List.getElem?_append_left]
    · exact hu
    · exact (List.getElem?_eq_some_iff.1 hu).1
theorem infoStr : (Tryz.prog.info? 9).map (fun i => (i.zero, i.size, i.bytes)) = some (some (.string ⟨#[]⟩), 1, 16) := by kernel_rfl
/-- one more, behind a slice without room -/
theorem run_push (w : World) (A : Option Addr) (n : Nat) (p : List T) (hn : n = p.length) (hm : n ≤ 1000) (hr : Rds w A (p.map sv)) (ad : Addr) (c : Nat) (d : T) (hx : w.cell? ad = some (sv d)) (ty : TypeId) :
    ∃ A' c' w', (Builtin.append_ #[25, 25] ty #[.slice A n n, .slice (some ad) 1 c]).run Tryz.prog w = .ok (.slice A' (p ++ [d]).length c') w' ∧ Rds w' A' ((p ++ [d]).map sv) ∧ (∀ a, A' = some a → w.heap.size ≤ a.block) ∧ (p ++ [d]).length ≤ c' ∧ c' ≤ maxLen ∧ Below w.heap.size w w' := by
  obtain ⟨i0, hi, hz, hs1, hb1⟩ := info_parts infoStr
  have hx' : ∀ j u, [sv d][j]? = some u → w.cell? (ad.add j) = some u := by
    intro j u hu
    cases j with
    | zero => simp at hu; subst hu; rw [show ad.add 0 = ad by cases ad; simp [Addr.add]]; exact hx
    | succ j => simp at hu
  have hlp : (p ++ [d]).length = n + 1 := by simp [hn]
  have hml : maxLen = 9223372036854775807 := rfl
  rw [hlp]
  cases A with
  | none =>
    have hp : p = [] := by
      rcases hr with h | ⟨_, _, h, _⟩
      · simpa using h
      · cases h
    subst hp
    obtain rfl : n = 0 := hn
    have h := run_append_nil (P := Tryz.prog) w 25 ty 9 i0 _ Tryz.underlying25 hi hz ad 1 c [sv d] (by rw [hs1]; rfl) hx' (by omega) (by omega) (by rw [hb1]; omega)
    refine ⟨_, _, _, h, ?_, ?_, ?_, ?_, ?_⟩
    · exact rds_first _ _ _ _ (by simp)
    · intro a ha; injection ha with ha; subst ha; exact Nat.le_refl _
    · exact grownCap_ge w 1 0 _
    · exact grownCap_le_maxLen w 1 0 _ (by rw [hml]; omega)
    · exact ((Below.refl w.heap.size w).drew).alloc (Nat.le_refl _) _
  | some b =>
    have h := run_append_grow (P := Tryz.prog) w 25 ty 9 i0 _ Tryz.underlying25 hi hz b n n (p.map sv) (by rw [hs1, hn]; simp) (cells_of hr b rfl) ad 1 c [sv d] (by rw [hs1]; rfl) hx' (by omega) (by omega) (growslice_fits (by omega) (by rw [hb1]; omega))
    refine ⟨_, _, _, h, ?_, ?_, ?_, ?_, ?_⟩
    · exact rds_first _ _ _ _ (by simp)
    · intro a ha; injection ha with ha; subst ha; exact Nat.le_refl _
    · exact grownCap_ge w (n + 1) n _
    · exact grownCap_le_maxLen w (n + 1) n _ (by rw [hml]; omega)
    · exact ((Below.refl w.heap.size w).drew).alloc (Nat.le_refl _) _

theorem step_push {ops : Array Oper} {o : Oper} {a : Act} {w : World} {K : Act → World → Prop} {Q : Exit → Act → World → Prop} {E : Prop} (hgd : o.guard = none) (s x : Operand)
    (ho : o.op = .call { callee := .builtin .append, args := #[s, x], argTypes := #[25, 25] })
    (A : Option Addr) (p : List T) (n : Nat) (hn : n = p.length) (hm : n ≤ 1000) (hs : a.eval s = .slice A n n) (ad : Addr) (c : Nat) (d : T) (hx : a.eval x = .slice (some ad) 1 c) (hr : Rds w A (p.map sv)) (hd : w.cell? ad = some (sv d))
    (h : ∀ A' c' w', Rds w' A' ((p ++ [d]).map sv) → (∀ a, A' = some a → w.heap.size ≤ a.block) → (p ++ [d]).length ≤ c' → c' ≤ maxLen → Below w.heap.size w w' → K (a.put o.dst (.slice A' (p ++ [d]).length c')) w') :
    if Region.wanted o (yielded ops a.tmps) = true then Oper.wp Tryz.prog o a w K Q else E := by
  have hw : Region.wanted o (yielded ops a.tmps) = true := by simp [Region.wanted, hgd]
  rw [if_pos hw]
  obtain ⟨A', c', w', hrun, h1, h2, h3, h4, h5⟩ := run_push w A n p hn hm hr ad c d hd o.type
  unfold Oper.wp execOp
  simp only [ho, resolve, invoke, builtin, Sem.run_bind, Sem.run_pure, Result.andThen_ok, List.map_toArray, List.map_cons, List.map_nil, hs, hx, hrun]
  exact h A' c' w' h1 h2 h3 h4 h5

set_option maxRecDepth 100000 in
set_option maxHeartbeats 4000000 in
theorem push_any {w : World} {b r : Nat} {ss : List T} {bad : Bool} (h : Sk w b r ss bad) (hm : ss.length ≤ 1000) (d : T) :
    Calls Tryz.prog 28 #[.pointer (some ⟨b, 0, none⟩), .string ⟨d.toArray⟩] w (GivesK w b r (ss ++ [d]) bad (.tuple #[])) := by
  obtain ⟨A, c, hbx, hr, hA, hc1, hc2⟩ := h
  have HB := Lib.hid hbx
  have HR := Lib.hid hr
  have HA := Lib.hid hA
  have c1 : w.cell? ⟨b, 1, none⟩ = some (.slice A ss.length c) := hbx.cell 1
  have f1 := hbx.free 1
  have hlt := hbx.lt
  unfold maxLen at hc2
  clear hbx hr hA
  go_enter Tryz.func28, Tryz.ntmps28
  go_wp2_with fail
  have hal := (Below.refl w.heap.size w).alloc (Nat.le_refl _) (.cells #[.string ⟨d.toArray⟩] 9)
  have HR2 := Lib.hid (HR.out.below hal.drew)
  have hd0 : (w.alloc (.cells #[.string ⟨d.toArray⟩] 9)).drew.cell? ⟨w.heap.size, 0, none⟩ = some (sv d) := by simp [sv]
  go_region_law (refine step_push rfl (.tmp 19) (.tmp 21) rfl A ss ss.length rfl hm rfl ⟨w.heap.size, 0, none⟩ 1 d rfl HR2.out hd0 ?_; intro A2 c2 w2 hr2 hA2 hc21 hc22 hb2; have hB2 := (HB.out.after hal.drew).after hb2; have c12 : w2.cell? ⟨b, 1, none⟩ = some (.slice A ss.length c) := hB2.cell 1; have f12 := hB2.free 1; have hlt2 := hB2.lt)
  all_goals
    have hbl := hal.drew.trans (hb2.mono hal.drew.size)
    have hln : (ss ++ [d]).length = ss.length + 1 := by simp
    have hf : Sk (w2.setCell ⟨b, 1, none⟩ (.slice A2 (ss ++ [d]).length c2)) b r (ss ++ [d]) bad := ⟨A2, c2, hB2.set 1 (.slice A2 (ss ++ [d]).length c2), rds_set hr2 (fun a ha => by have := hA2 a ha; have h2 : w.heap.size < (w.alloc (.cells #[.string ⟨d.toArray⟩] 9)).drew.heap.size := (by simp); omega) 1 _, fun _ a ha => by have := hA2 a ha; have h2 : w.heap.size < (w.alloc (.cells #[.string ⟨d.toArray⟩] 9)).drew.heap.size := (by simp); omega, hc21, hc22⟩
    rw [hln] at hf
    have HF := Lib.hid hf
    have HG := Lib.hid (grown_trans (grown_of (some b) hbl) (grown_set (w := w2) (b := b) 1 (.slice A2 (ss.length + 1) c2)))
    clear hf hbl hB2 hr2 hA2 hb2
    go_wp2_with fail
    go_end0
    exact ⟨rfl, HF.out, HG.out⟩
end KrP
end Go.Proofs.YtehainbhoflpnaaGreatDoor
/-
  The document's stack at work (layer 9): plain and more, one instruction after another.
-/
namespace Go.Proofs.YtehainbhoflpnaaGreatDoor
namespace KrB
open Go.RowKit Base BinM Stru DescM DescW DescX DescS DescG DescP DescQ HierS HierT HierM HierC HierD HierN HierV HierR HierU HierY HierQ Kls KlsP KlsQ OpenK TabC TabM TabK TabP TabE TabB TabG TabH TabT TabU TabV TabX TabW TabF TabN TabO TabY TabR TabQ TabL KndM KndS KrS KrA KrP
open KndP (pop_le)

/-- a stack, and whether something was not so -/
abbrev RS := List T × Bool
def rpop (s : RS) : RS := ((popP s.1).2.1, s.2 || !(popP s.1).2.2)
def rtop (s : RS) : T := (popP s.1).1
def rneed (x : Bool) (s : RS) : RS := (s.1, s.2 || !x)
def rpush (d : T) (s : RS) : RS := (s.1 ++ [d], s.2)
def rwant (d : T) (s : RS) : RS := rneed (rtop s == d) (rpop s)
def rfits (h : Hr) (d : T) (s : RS) : RS := rneed (h.sub (rtop s) d) (rpop s)
def rthing (s : RS) : RS := rneed (refB (rtop s)) (rpop s)
def rarr (s : RS) : RS := rneed ((elemT (rtop s)).2 == 0) (rpop s)
/-- not much, and short texts -/
def Few (n : Nat) (s : RS) : Prop := s.1.length ≤ n ∧ ∀ x ∈ s.1, x.length ≤ 140737488351232
theorem Few.mono {n m : Nat} {s : RS} (h : Few n s) (hm : n ≤ m) : Few m s := ⟨Nat.le_trans h.1 hm, h.2⟩
theorem Few.pop {n : Nat} {s : RS} (h : Few n s) : Few n (rpop s) := ⟨Nat.le_trans pop_le h.1, fun x hx => h.2 x (pop_in x hx)⟩
theorem Few.need {n : Nat} {s : RS} (h : Few n s) (x : Bool) : Few n (rneed x s) := h
theorem Few.want {n : Nat} {s : RS} (h : Few n s) (d : T) : Few n (rwant d s) := h.pop
theorem Few.fits {n : Nat} {s : RS} (h : Few n s) (H : Hr) (d : T) : Few n (rfits H d s) := h.pop
theorem Few.thing {n : Nat} {s : RS} (h : Few n s) : Few n (rthing s) := h.pop
theorem Few.arr {n : Nat} {s : RS} (h : Few n s) : Few n (rarr s) := h.pop
theorem Few.top {n : Nat} {s : RS} (h : Few n s) : (rtop s).length ≤ 140737488351232 := pop_len h.2
theorem Few.push {n : Nat} {s : RS} (h : Few n s) {d : T} (hd : d.length ≤ 140737488351232) : Few (n + 1) (rpush d s) := ⟨by unfold rpush; simp; exact h.1, fun x hx => by
  unfold rpush at hx
  rcases List.mem_append.1 hx with hx | hx
  · exact h.2 x hx
  · simp at hx; subst hx; exact hd⟩
theorem few_long {n : Nat} {s : RS} (h : Few n s) : ∀ x ∈ s.1, x.length ≤ 140737488355328 := fun x hx => Nat.le_trans (h.2 x hx) (by omega)

/-- a call that works on the stack -/
def GivesR (w : World) (b r : Nat) (s : RS) (e : Ending) (w' : World) : Prop := GivesK w b r s.1 s.2 (.tuple #[]) e w'
section
variable {w : World} {b r : Nat} {s : RS}
theorem c_want (h : Sk w b r s.1 s.2) (hf : Few 900 s) (d : T) : Calls Tryz.prog 60 #[.pointer (some ⟨b, 0, none⟩), .string ⟨d.toArray⟩] w (GivesR w b r (rwant d s)) := want_any h (by have := hf.1; omega) d
theorem c_thing (h : Sk w b r s.1 s.2) (hf : Few 900 s) : Calls Tryz.prog 62 #[.pointer (some ⟨b, 0, none⟩)] w (GivesR w b r (rthing s)) := thing_any h (by have := hf.1; omega) (few_long hf)
theorem c_need (h : Sk w b r s.1 s.2) (x : Bool) : Calls Tryz.prog 27 #[.pointer (some ⟨b, 0, none⟩), .bool x] w (GivesR w b r (rneed x s)) := need_any h x
theorem c_pop (h : Sk w b r s.1 s.2) (hf : Few 900 s) : Calls Tryz.prog 29 #[.pointer (some ⟨b, 0, none⟩)] w (GivesK w b r (rpop s).1 (rpop s).2 (.string ⟨(rtop s).toArray⟩)) := pop_any h (by have := hf.1; omega)
theorem c_arr (h : Sk w b r s.1 s.2) (hf : Few 900 s) : Calls Tryz.prog 120 #[.pointer (some ⟨b, 0, none⟩)] w (GivesK w b r (rarr s).1 (rarr s).2 (.string ⟨(elemT (rtop s)).1.toArray⟩)) := array_any h (by have := hf.1; omega) (few_long hf)
theorem c_push (h : Sk w b r s.1 s.2) (hf : Few 900 s) (d : T) : Calls Tryz.prog 28 #[.pointer (some ⟨b, 0, none⟩), .string ⟨d.toArray⟩] w (GivesR w b r (rpush d s)) := push_any h (by have := hf.1; omega) d
theorem c_fits {lo g : Nat} {ps : List P2} (h : Sk w b r s.1 s.2) (hf : Few 900 s) (H : TbR lo w r g ps) (hb : lo ≤ b) (d : T) (hd : d.length ≤ 140737488351232) : Calls Tryz.prog 64 #[.pointer (some ⟨b, 0, none⟩), .string ⟨d.toArray⟩] w (GivesR w b r (rfits (mk ps) d s)) := fits_any h H hb (by have := hf.1; omega) (few_long hf) d (by omega)
end
set_option maxRecDepth 100000 in
theorem more_31 {w : World} {b r : Nat} {s : RS} (h : Sk w b r s.1 s.2) (hf : Few 800 s) (gv : T) : Calls Tryz.prog 67 #[.pointer (some ⟨b, 0, none⟩), .int .i64 31, .string ⟨gv.toArray⟩] w (GivesR w b r (rpush [73] (rarr (s)))) := by
  go_enter Tryz.func67, Tryz.ntmps67
  go_wp2_with fail
  refine (c_arr h (hf.mono (by omega))).mono ?_
  rintro e w1 ⟨rfl, hs, hg⟩
  have HS1 := Lib.hid hs
  have HG1 := Lib.hid (hg)
  have HF1 := Lib.hid hf.arr
  clear hs hg
  go_wp2_with fail
  refine (c_push HS1.out (HF1.out.mono (by omega)) [73]).mono ?_
  rintro e w2 ⟨rfl, hs, hg⟩
  have HS2 := Lib.hid hs
  have HG2 := Lib.hid (grown_trans HG1.out hg)
  have HF2 := Lib.hid (HF1.out.push (d := [73]) (by simp))
  clear hs hg
  go_wp2_with fail
  go_end0
  exact ⟨rfl, HS2.out, HG2.out⟩
set_option maxRecDepth 100000 in
theorem more_35 {w : World} {b r : Nat} {s : RS} {lo g : Nat} {ps : List P2} (H : TbR lo w r g ps) (hb : lo ≤ b) (h : Sk w b r s.1 s.2) (hf : Few 800 s) (gv : T) : Calls Tryz.prog 67 #[.pointer (some ⟨b, 0, none⟩), .int .i64 35, .string ⟨gv.toArray⟩] w (GivesR w b r (rfits (mk ps) [76, 69, 120, 99, 59] (s))) := by
  have hlow : lo ≤ w.heap.size := by have := h.lt; omega
  go_enter Tryz.func67, Tryz.ntmps67
  go_wp2_with fail
  refine (c_fits h (hf.mono (by omega)) H hb [76, 69, 120, 99, 59] (by simp)).mono ?_
  rintro e w1 ⟨rfl, hs, hg⟩
  have HS1 := Lib.hid hs
  have HG1 := Lib.hid (hg)
  have HF1 := Lib.hid (hf.fits (mk ps) [76, 69, 120, 99, 59])
  clear hs hg
  go_wp2_with fail
  go_end0
  exact ⟨rfl, HS1.out, HG1.out⟩
set_option maxRecDepth 100000 in
theorem more_36 {w : World} {b r : Nat} {s : RS} (h : Sk w b r s.1 s.2) (hf : Few 800 s) (gv : T) : Calls Tryz.prog 67 #[.pointer (some ⟨b, 0, none⟩), .int .i64 36, .string ⟨gv.toArray⟩] w (GivesR w b r (rthing (s))) := by
  go_enter Tryz.func67, Tryz.ntmps67
  go_wp2_with fail
  refine (c_thing h (hf.mono (by omega))).mono ?_
  rintro e w1 ⟨rfl, hs, hg⟩
  have HS1 := Lib.hid hs
  have HG1 := Lib.hid (hg)
  have HF1 := Lib.hid hf.thing
  clear hs hg
  go_wp2_with fail
  go_end0
  exact ⟨rfl, HS1.out, HG1.out⟩
set_option maxRecDepth 100000 in
theorem more_37 {w : World} {b r : Nat} {s : RS} (h : Sk w b r s.1 s.2) (hf : Few 800 s) (gv : T) : Calls Tryz.prog 67 #[.pointer (some ⟨b, 0, none⟩), .int .i64 37, .string ⟨gv.toArray⟩] w (GivesR w b r (rthing (s))) := by
  go_enter Tryz.func67, Tryz.ntmps67
  go_wp2_with fail
  refine (c_thing h (hf.mono (by omega))).mono ?_
  rintro e w1 ⟨rfl, hs, hg⟩
  have HS1 := Lib.hid hs
  have HG1 := Lib.hid (hg)
  have HF1 := Lib.hid hf.thing
  clear hs hg
  go_wp2_with fail
  go_end0
  exact ⟨rfl, HS1.out, HG1.out⟩
set_option maxRecDepth 100000 in
theorem more_42 {w : World} {b r : Nat} {s : RS} {lo g : Nat} {ps : List P2} (H : TbR lo w r g ps) (hb : lo ≤ b) (h : Sk w b r s.1 s.2) (hf : Few 800 s) (gv : T) : Calls Tryz.prog 67 #[.pointer (some ⟨b, 0, none⟩), .int .i64 42, .string ⟨gv.toArray⟩] w (GivesR w b r (rpush [83] (rfits (mk ps) [83] (rfits (mk ps) [83] (s))))) := by
  have hlow : lo ≤ w.heap.size := by have := h.lt; omega
  go_enter Tryz.func67, Tryz.ntmps67
  go_wp2_with fail
  refine (c_fits h (hf.mono (by omega)) H hb [83] (by simp)).mono ?_
  rintro e w1 ⟨rfl, hs, hg⟩
  have HS1 := Lib.hid hs
  have HG1 := Lib.hid (hg)
  have HF1 := Lib.hid (hf.fits (mk ps) [83])
  clear hs hg
  go_wp2_with fail
  refine (c_fits HS1.out (HF1.out.mono (by omega)) (H.below (below_grown HG1.out hb hlow)) hb [83] (by simp)).mono ?_
  rintro e w2 ⟨rfl, hs, hg⟩
  have HS2 := Lib.hid hs
  have HG2 := Lib.hid (grown_trans HG1.out hg)
  have HF2 := Lib.hid (HF1.out.fits (mk ps) [83])
  clear hs hg
  go_wp2_with fail
  refine (c_push HS2.out (HF2.out.mono (by omega)) [83]).mono ?_
  rintro e w3 ⟨rfl, hs, hg⟩
  have HS3 := Lib.hid hs
  have HG3 := Lib.hid (grown_trans HG2.out hg)
  have HF3 := Lib.hid (HF2.out.push (d := [83]) (by simp))
  clear hs hg
  go_wp2_with fail
  go_end0
  exact ⟨rfl, HS3.out, HG3.out⟩
set_option maxRecDepth 100000 in
theorem more_43 {w : World} {b r : Nat} {s : RS} {lo g : Nat} {ps : List P2} (H : TbR lo w r g ps) (hb : lo ≤ b) (h : Sk w b r s.1 s.2) (hf : Few 800 s) (gv : T) : Calls Tryz.prog 67 #[.pointer (some ⟨b, 0, none⟩), .int .i64 43, .string ⟨gv.toArray⟩] w (GivesR w b r (rpush [73] (rfits (mk ps) [83] (s)))) := by
  have hlow : lo ≤ w.heap.size := by have := h.lt; omega
  go_enter Tryz.func67, Tryz.ntmps67
  go_wp2_with fail
  refine (c_fits h (hf.mono (by omega)) H hb [83] (by simp)).mono ?_
  rintro e w1 ⟨rfl, hs, hg⟩
  have HS1 := Lib.hid hs
  have HG1 := Lib.hid (hg)
  have HF1 := Lib.hid (hf.fits (mk ps) [83])
  clear hs hg
  go_wp2_with fail
  refine (c_push HS1.out (HF1.out.mono (by omega)) [73]).mono ?_
  rintro e w2 ⟨rfl, hs, hg⟩
  have HS2 := Lib.hid hs
  have HG2 := Lib.hid (grown_trans HG1.out hg)
  have HF2 := Lib.hid (HF1.out.push (d := [73]) (by simp))
  clear hs hg
  go_wp2_with fail
  go_end0
  exact ⟨rfl, HS2.out, HG2.out⟩
set_option maxRecDepth 100000 in
theorem plain_0 {w : World} {b r : Nat} {s : RS} (h : Sk w b r s.1 s.2) (_hf : Few 800 s) (gv : T) : Calls Tryz.prog 31 #[.pointer (some ⟨b, 0, none⟩), .int .i64 0, .string ⟨gv.toArray⟩] w (GivesR w b r (s)) := by
  go_enter Tryz.func31, Tryz.ntmps31
  go_wp2_with fail
  go_end0
  exact ⟨rfl, h, grown_refl _ _⟩
set_option maxRecDepth 100000 in
theorem plain_3 {w : World} {b r : Nat} {s : RS} (h : Sk w b r s.1 s.2) (hf : Few 800 s) (gv : T) : Calls Tryz.prog 31 #[.pointer (some ⟨b, 0, none⟩), .int .i64 3, .string ⟨gv.toArray⟩] w (GivesR w b r (rpush [66] (s))) := by
  go_enter Tryz.func31, Tryz.ntmps31
  go_wp2_with fail
  refine (c_push h (hf.mono (by omega)) [66]).mono ?_
  rintro e w1 ⟨rfl, hs, hg⟩
  have HS1 := Lib.hid hs
  have HG1 := Lib.hid (hg)
  have HF1 := Lib.hid (hf.push (d := [66]) (by simp))
  clear hs hg
  go_wp2_with fail
  go_end0
  exact ⟨rfl, HS1.out, HG1.out⟩
set_option maxRecDepth 100000 in
theorem plain_4 {w : World} {b r : Nat} {s : RS} (h : Sk w b r s.1 s.2) (hf : Few 800 s) (gv : T) : Calls Tryz.prog 31 #[.pointer (some ⟨b, 0, none⟩), .int .i64 4, .string ⟨gv.toArray⟩] w (GivesR w b r (rpush [66] (s))) := by
  go_enter Tryz.func31, Tryz.ntmps31
  go_wp2_with fail
  refine (c_push h (hf.mono (by omega)) [66]).mono ?_
  rintro e w1 ⟨rfl, hs, hg⟩
  have HS1 := Lib.hid hs
  have HG1 := Lib.hid (hg)
  have HF1 := Lib.hid (hf.push (d := [66]) (by simp))
  clear hs hg
  go_wp2_with fail
  go_end0
  exact ⟨rfl, HS1.out, HG1.out⟩
set_option maxRecDepth 100000 in
theorem plain_5 {w : World} {b r : Nat} {s : RS} (h : Sk w b r s.1 s.2) (hf : Few 800 s) (gv : T) : Calls Tryz.prog 31 #[.pointer (some ⟨b, 0, none⟩), .int .i64 5, .string ⟨gv.toArray⟩] w (GivesR w b r (rpush [78] (s))) := by
  go_enter Tryz.func31, Tryz.ntmps31
  go_wp2_with fail
  refine (c_push h (hf.mono (by omega)) [78]).mono ?_
  rintro e w1 ⟨rfl, hs, hg⟩
  have HS1 := Lib.hid hs
  have HG1 := Lib.hid (hg)
  have HF1 := Lib.hid (hf.push (d := [78]) (by simp))
  clear hs hg
  go_wp2_with fail
  go_end0
  exact ⟨rfl, HS1.out, HG1.out⟩
set_option maxRecDepth 100000 in
theorem plain_10 {w : World} {b r : Nat} {s : RS} (h : Sk w b r s.1 s.2) (hf : Few 800 s) (gv : T) : Calls Tryz.prog 31 #[.pointer (some ⟨b, 0, none⟩), .int .i64 10, .string ⟨gv.toArray⟩] w (GivesR w b r (rpush [73] (rwant [73] (rwant [73] (s))))) := by
  go_enter Tryz.func31, Tryz.ntmps31
  go_wp2_with fail
  refine (c_want h (hf.mono (by omega)) [73]).mono ?_
  rintro e w1 ⟨rfl, hs, hg⟩
  have HS1 := Lib.hid hs
  have HG1 := Lib.hid (hg)
  have HF1 := Lib.hid (hf.want [73])
  clear hs hg
  go_wp2_with fail
  refine (c_want HS1.out (HF1.out.mono (by omega)) [73]).mono ?_
  rintro e w2 ⟨rfl, hs, hg⟩
  have HS2 := Lib.hid hs
  have HG2 := Lib.hid (grown_trans HG1.out hg)
  have HF2 := Lib.hid (HF1.out.want [73])
  clear hs hg
  go_wp2_with fail
  refine (c_push HS2.out (HF2.out.mono (by omega)) [73]).mono ?_
  rintro e w3 ⟨rfl, hs, hg⟩
  have HS3 := Lib.hid hs
  have HG3 := Lib.hid (grown_trans HG2.out hg)
  have HF3 := Lib.hid (HF2.out.push (d := [73]) (by simp))
  clear hs hg
  go_wp2_with fail
  go_end0
  exact ⟨rfl, HS3.out, HG3.out⟩
set_option maxRecDepth 100000 in
theorem plain_11 {w : World} {b r : Nat} {s : RS} (h : Sk w b r s.1 s.2) (hf : Few 800 s) (gv : T) : Calls Tryz.prog 31 #[.pointer (some ⟨b, 0, none⟩), .int .i64 11, .string ⟨gv.toArray⟩] w (GivesR w b r (rpush [73] (rwant [73] (rwant [73] (s))))) := by
  go_enter Tryz.func31, Tryz.ntmps31
  go_wp2_with fail
  refine (c_want h (hf.mono (by omega)) [73]).mono ?_
  rintro e w1 ⟨rfl, hs, hg⟩
  have HS1 := Lib.hid hs
  have HG1 := Lib.hid (hg)
  have HF1 := Lib.hid (hf.want [73])
  clear hs hg
  go_wp2_with fail
  refine (c_want HS1.out (HF1.out.mono (by omega)) [73]).mono ?_
  rintro e w2 ⟨rfl, hs, hg⟩
  have HS2 := Lib.hid hs
  have HG2 := Lib.hid (grown_trans HG1.out hg)
  have HF2 := Lib.hid (HF1.out.want [73])
  clear hs hg
  go_wp2_with fail
  refine (c_push HS2.out (HF2.out.mono (by omega)) [73]).mono ?_
  rintro e w3 ⟨rfl, hs, hg⟩
  have HS3 := Lib.hid hs
  have HG3 := Lib.hid (grown_trans HG2.out hg)
  have HF3 := Lib.hid (HF2.out.push (d := [73]) (by simp))
  clear hs hg
  go_wp2_with fail
  go_end0
  exact ⟨rfl, HS3.out, HG3.out⟩
set_option maxRecDepth 100000 in
theorem plain_12 {w : World} {b r : Nat} {s : RS} (h : Sk w b r s.1 s.2) (hf : Few 800 s) (gv : T) : Calls Tryz.prog 31 #[.pointer (some ⟨b, 0, none⟩), .int .i64 12, .string ⟨gv.toArray⟩] w (GivesR w b r (rpush [73] (rwant [73] (rwant [73] (s))))) := by
  go_enter Tryz.func31, Tryz.ntmps31
  go_wp2_with fail
  refine (c_want h (hf.mono (by omega)) [73]).mono ?_
  rintro e w1 ⟨rfl, hs, hg⟩
  have HS1 := Lib.hid hs
  have HG1 := Lib.hid (hg)
  have HF1 := Lib.hid (hf.want [73])
  clear hs hg
  go_wp2_with fail
  refine (c_want HS1.out (HF1.out.mono (by omega)) [73]).mono ?_
  rintro e w2 ⟨rfl, hs, hg⟩
  have HS2 := Lib.hid hs
  have HG2 := Lib.hid (grown_trans HG1.out hg)
  have HF2 := Lib.hid (HF1.out.want [73])
  clear hs hg
  go_wp2_with fail
  refine (c_push HS2.out (HF2.out.mono (by omega)) [73]).mono ?_
  rintro e w3 ⟨rfl, hs, hg⟩
  have HS3 := Lib.hid hs
  have HG3 := Lib.hid (grown_trans HG2.out hg)
  have HF3 := Lib.hid (HF2.out.push (d := [73]) (by simp))
  clear hs hg
  go_wp2_with fail
  go_end0
  exact ⟨rfl, HS3.out, HG3.out⟩
set_option maxRecDepth 100000 in
theorem plain_13 {w : World} {b r : Nat} {s : RS} (h : Sk w b r s.1 s.2) (hf : Few 800 s) (gv : T) : Calls Tryz.prog 31 #[.pointer (some ⟨b, 0, none⟩), .int .i64 13, .string ⟨gv.toArray⟩] w (GivesR w b r (rpush [73] (rwant [73] (rwant [73] (s))))) := by
  go_enter Tryz.func31, Tryz.ntmps31
  go_wp2_with fail
  refine (c_want h (hf.mono (by omega)) [73]).mono ?_
  rintro e w1 ⟨rfl, hs, hg⟩
  have HS1 := Lib.hid hs
  have HG1 := Lib.hid (hg)
  have HF1 := Lib.hid (hf.want [73])
  clear hs hg
  go_wp2_with fail
  refine (c_want HS1.out (HF1.out.mono (by omega)) [73]).mono ?_
  rintro e w2 ⟨rfl, hs, hg⟩
  have HS2 := Lib.hid hs
  have HG2 := Lib.hid (grown_trans HG1.out hg)
  have HF2 := Lib.hid (HF1.out.want [73])
  clear hs hg
  go_wp2_with fail
  refine (c_push HS2.out (HF2.out.mono (by omega)) [73]).mono ?_
  rintro e w3 ⟨rfl, hs, hg⟩
  have HS3 := Lib.hid hs
  have HG3 := Lib.hid (grown_trans HG2.out hg)
  have HF3 := Lib.hid (HF2.out.push (d := [73]) (by simp))
  clear hs hg
  go_wp2_with fail
  go_end0
  exact ⟨rfl, HS3.out, HG3.out⟩
set_option maxRecDepth 100000 in
theorem plain_14 {w : World} {b r : Nat} {s : RS} (h : Sk w b r s.1 s.2) (hf : Few 800 s) (gv : T) : Calls Tryz.prog 31 #[.pointer (some ⟨b, 0, none⟩), .int .i64 14, .string ⟨gv.toArray⟩] w (GivesR w b r (rpush [73] (rwant [73] (rwant [73] (s))))) := by
  go_enter Tryz.func31, Tryz.ntmps31
  go_wp2_with fail
  refine (c_want h (hf.mono (by omega)) [73]).mono ?_
  rintro e w1 ⟨rfl, hs, hg⟩
  have HS1 := Lib.hid hs
  have HG1 := Lib.hid (hg)
  have HF1 := Lib.hid (hf.want [73])
  clear hs hg
  go_wp2_with fail
  refine (c_want HS1.out (HF1.out.mono (by omega)) [73]).mono ?_
  rintro e w2 ⟨rfl, hs, hg⟩
  have HS2 := Lib.hid hs
  have HG2 := Lib.hid (grown_trans HG1.out hg)
  have HF2 := Lib.hid (HF1.out.want [73])
  clear hs hg
  go_wp2_with fail
  refine (c_push HS2.out (HF2.out.mono (by omega)) [73]).mono ?_
  rintro e w3 ⟨rfl, hs, hg⟩
  have HS3 := Lib.hid hs
  have HG3 := Lib.hid (grown_trans HG2.out hg)
  have HF3 := Lib.hid (HF2.out.push (d := [73]) (by simp))
  clear hs hg
  go_wp2_with fail
  go_end0
  exact ⟨rfl, HS3.out, HG3.out⟩
set_option maxRecDepth 100000 in
theorem plain_15 {w : World} {b r : Nat} {s : RS} (h : Sk w b r s.1 s.2) (hf : Few 800 s) (gv : T) : Calls Tryz.prog 31 #[.pointer (some ⟨b, 0, none⟩), .int .i64 15, .string ⟨gv.toArray⟩] w (GivesR w b r (rpush [73] (rwant [73] (s)))) := by
  go_enter Tryz.func31, Tryz.ntmps31
  go_wp2_with fail
  refine (c_want h (hf.mono (by omega)) [73]).mono ?_
  rintro e w1 ⟨rfl, hs, hg⟩
  have HS1 := Lib.hid hs
  have HG1 := Lib.hid (hg)
  have HF1 := Lib.hid (hf.want [73])
  clear hs hg
  go_wp2_with fail
  refine (c_push HS1.out (HF1.out.mono (by omega)) [73]).mono ?_
  rintro e w2 ⟨rfl, hs, hg⟩
  have HS2 := Lib.hid hs
  have HG2 := Lib.hid (grown_trans HG1.out hg)
  have HF2 := Lib.hid (HF1.out.push (d := [73]) (by simp))
  clear hs hg
  go_wp2_with fail
  go_end0
  exact ⟨rfl, HS2.out, HG2.out⟩
set_option maxRecDepth 100000 in
theorem plain_16 {w : World} {b r : Nat} {s : RS} (h : Sk w b r s.1 s.2) (hf : Few 800 s) (gv : T) : Calls Tryz.prog 31 #[.pointer (some ⟨b, 0, none⟩), .int .i64 16, .string ⟨gv.toArray⟩] w (GivesR w b r (rpush [66] (rwant [66] (s)))) := by
  go_enter Tryz.func31, Tryz.ntmps31
  go_wp2_with fail
  refine (c_want h (hf.mono (by omega)) [66]).mono ?_
  rintro e w1 ⟨rfl, hs, hg⟩
  have HS1 := Lib.hid hs
  have HG1 := Lib.hid (hg)
  have HF1 := Lib.hid (hf.want [66])
  clear hs hg
  go_wp2_with fail
  refine (c_push HS1.out (HF1.out.mono (by omega)) [66]).mono ?_
  rintro e w2 ⟨rfl, hs, hg⟩
  have HS2 := Lib.hid hs
  have HG2 := Lib.hid (grown_trans HG1.out hg)
  have HF2 := Lib.hid (HF1.out.push (d := [66]) (by simp))
  clear hs hg
  go_wp2_with fail
  go_end0
  exact ⟨rfl, HS2.out, HG2.out⟩
set_option maxRecDepth 100000 in
theorem plain_17 {w : World} {b r : Nat} {s : RS} (h : Sk w b r s.1 s.2) (hf : Few 800 s) (gv : T) : Calls Tryz.prog 31 #[.pointer (some ⟨b, 0, none⟩), .int .i64 17, .string ⟨gv.toArray⟩] w (GivesR w b r (rpush [66] (rwant [73] (rwant [73] (s))))) := by
  go_enter Tryz.func31, Tryz.ntmps31
  go_wp2_with fail
  refine (c_want h (hf.mono (by omega)) [73]).mono ?_
  rintro e w1 ⟨rfl, hs, hg⟩
  have HS1 := Lib.hid hs
  have HG1 := Lib.hid (hg)
  have HF1 := Lib.hid (hf.want [73])
  clear hs hg
  go_wp2_with fail
  refine (c_want HS1.out (HF1.out.mono (by omega)) [73]).mono ?_
  rintro e w2 ⟨rfl, hs, hg⟩
  have HS2 := Lib.hid hs
  have HG2 := Lib.hid (grown_trans HG1.out hg)
  have HF2 := Lib.hid (HF1.out.want [73])
  clear hs hg
  go_wp2_with fail
  refine (c_push HS2.out (HF2.out.mono (by omega)) [66]).mono ?_
  rintro e w3 ⟨rfl, hs, hg⟩
  have HS3 := Lib.hid hs
  have HG3 := Lib.hid (grown_trans HG2.out hg)
  have HF3 := Lib.hid (HF2.out.push (d := [66]) (by simp))
  clear hs hg
  go_wp2_with fail
  go_end0
  exact ⟨rfl, HS3.out, HG3.out⟩
set_option maxRecDepth 100000 in
theorem plain_18 {w : World} {b r : Nat} {s : RS} (h : Sk w b r s.1 s.2) (hf : Few 800 s) (gv : T) : Calls Tryz.prog 31 #[.pointer (some ⟨b, 0, none⟩), .int .i64 18, .string ⟨gv.toArray⟩] w (GivesR w b r (rpush [66] (rwant [73] (rwant [73] (s))))) := by
  go_enter Tryz.func31, Tryz.ntmps31
  go_wp2_with fail
  refine (c_want h (hf.mono (by omega)) [73]).mono ?_
  rintro e w1 ⟨rfl, hs, hg⟩
  have HS1 := Lib.hid hs
  have HG1 := Lib.hid (hg)
  have HF1 := Lib.hid (hf.want [73])
  clear hs hg
  go_wp2_with fail
  refine (c_want HS1.out (HF1.out.mono (by omega)) [73]).mono ?_
  rintro e w2 ⟨rfl, hs, hg⟩
  have HS2 := Lib.hid hs
  have HG2 := Lib.hid (grown_trans HG1.out hg)
  have HF2 := Lib.hid (HF1.out.want [73])
  clear hs hg
  go_wp2_with fail
  refine (c_push HS2.out (HF2.out.mono (by omega)) [66]).mono ?_
  rintro e w3 ⟨rfl, hs, hg⟩
  have HS3 := Lib.hid hs
  have HG3 := Lib.hid (grown_trans HG2.out hg)
  have HF3 := Lib.hid (HF2.out.push (d := [66]) (by simp))
  clear hs hg
  go_wp2_with fail
  go_end0
  exact ⟨rfl, HS3.out, HG3.out⟩
set_option maxRecDepth 100000 in
theorem plain_19 {w : World} {b r : Nat} {s : RS} (h : Sk w b r s.1 s.2) (hf : Few 800 s) (gv : T) : Calls Tryz.prog 31 #[.pointer (some ⟨b, 0, none⟩), .int .i64 19, .string ⟨gv.toArray⟩] w (GivesR w b r (rpush [66] (rwant [73] (rwant [73] (s))))) := by
  go_enter Tryz.func31, Tryz.ntmps31
  go_wp2_with fail
  refine (c_want h (hf.mono (by omega)) [73]).mono ?_
  rintro e w1 ⟨rfl, hs, hg⟩
  have HS1 := Lib.hid hs
  have HG1 := Lib.hid (hg)
  have HF1 := Lib.hid (hf.want [73])
  clear hs hg
  go_wp2_with fail
  refine (c_want HS1.out (HF1.out.mono (by omega)) [73]).mono ?_
  rintro e w2 ⟨rfl, hs, hg⟩
  have HS2 := Lib.hid hs
  have HG2 := Lib.hid (grown_trans HG1.out hg)
  have HF2 := Lib.hid (HF1.out.want [73])
  clear hs hg
  go_wp2_with fail
  refine (c_push HS2.out (HF2.out.mono (by omega)) [66]).mono ?_
  rintro e w3 ⟨rfl, hs, hg⟩
  have HS3 := Lib.hid hs
  have HG3 := Lib.hid (grown_trans HG2.out hg)
  have HF3 := Lib.hid (HF2.out.push (d := [66]) (by simp))
  clear hs hg
  go_wp2_with fail
  go_end0
  exact ⟨rfl, HS3.out, HG3.out⟩
set_option maxRecDepth 100000 in
theorem plain_20 {w : World} {b r : Nat} {s : RS} (h : Sk w b r s.1 s.2) (hf : Few 800 s) (gv : T) : Calls Tryz.prog 31 #[.pointer (some ⟨b, 0, none⟩), .int .i64 20, .string ⟨gv.toArray⟩] w (GivesR w b r (rpush [66] (rwant [66] (rwant [66] (s))))) := by
  go_enter Tryz.func31, Tryz.ntmps31
  go_wp2_with fail
  refine (c_want h (hf.mono (by omega)) [66]).mono ?_
  rintro e w1 ⟨rfl, hs, hg⟩
  have HS1 := Lib.hid hs
  have HG1 := Lib.hid (hg)
  have HF1 := Lib.hid (hf.want [66])
  clear hs hg
  go_wp2_with fail
  refine (c_want HS1.out (HF1.out.mono (by omega)) [66]).mono ?_
  rintro e w2 ⟨rfl, hs, hg⟩
  have HS2 := Lib.hid hs
  have HG2 := Lib.hid (grown_trans HG1.out hg)
  have HF2 := Lib.hid (HF1.out.want [66])
  clear hs hg
  go_wp2_with fail
  refine (c_push HS2.out (HF2.out.mono (by omega)) [66]).mono ?_
  rintro e w3 ⟨rfl, hs, hg⟩
  have HS3 := Lib.hid hs
  have HG3 := Lib.hid (grown_trans HG2.out hg)
  have HF3 := Lib.hid (HF2.out.push (d := [66]) (by simp))
  clear hs hg
  go_wp2_with fail
  go_end0
  exact ⟨rfl, HS3.out, HG3.out⟩
set_option maxRecDepth 100000 in
theorem plain_21 {w : World} {b r : Nat} {s : RS} (h : Sk w b r s.1 s.2) (hf : Few 800 s) (gv : T) : Calls Tryz.prog 31 #[.pointer (some ⟨b, 0, none⟩), .int .i64 21, .string ⟨gv.toArray⟩] w (GivesR w b r (rpush [66] (rthing (rthing (s))))) := by
  go_enter Tryz.func31, Tryz.ntmps31
  go_wp2_with fail
  refine (c_thing h (hf.mono (by omega))).mono ?_
  rintro e w1 ⟨rfl, hs, hg⟩
  have HS1 := Lib.hid hs
  have HG1 := Lib.hid (hg)
  have HF1 := Lib.hid hf.thing
  clear hs hg
  go_wp2_with fail
  refine (c_thing HS1.out (HF1.out.mono (by omega))).mono ?_
  rintro e w2 ⟨rfl, hs, hg⟩
  have HS2 := Lib.hid hs
  have HG2 := Lib.hid (grown_trans HG1.out hg)
  have HF2 := Lib.hid HF1.out.thing
  clear hs hg
  go_wp2_with fail
  refine (c_push HS2.out (HF2.out.mono (by omega)) [66]).mono ?_
  rintro e w3 ⟨rfl, hs, hg⟩
  have HS3 := Lib.hid hs
  have HG3 := Lib.hid (grown_trans HG2.out hg)
  have HF3 := Lib.hid (HF2.out.push (d := [66]) (by simp))
  clear hs hg
  go_wp2_with fail
  go_end0
  exact ⟨rfl, HS3.out, HG3.out⟩
set_option maxRecDepth 100000 in
theorem plain_22 {w : World} {b r : Nat} {s : RS} (h : Sk w b r s.1 s.2) (_hf : Few 800 s) (gv : T) : Calls Tryz.prog 31 #[.pointer (some ⟨b, 0, none⟩), .int .i64 22, .string ⟨gv.toArray⟩] w (GivesR w b r (s)) := by
  go_enter Tryz.func31, Tryz.ntmps31
  go_wp2_with fail
  go_end0
  exact ⟨rfl, h, grown_refl _ _⟩
set_option maxRecDepth 100000 in
theorem plain_23 {w : World} {b r : Nat} {s : RS} (h : Sk w b r s.1 s.2) (hf : Few 800 s) (gv : T) : Calls Tryz.prog 31 #[.pointer (some ⟨b, 0, none⟩), .int .i64 23, .string ⟨gv.toArray⟩] w (GivesR w b r (rwant [66] (s))) := by
  go_enter Tryz.func31, Tryz.ntmps31
  go_wp2_with fail
  refine (c_want h (hf.mono (by omega)) [66]).mono ?_
  rintro e w1 ⟨rfl, hs, hg⟩
  have HS1 := Lib.hid hs
  have HG1 := Lib.hid (hg)
  have HF1 := Lib.hid (hf.want [66])
  clear hs hg
  go_wp2_with fail
  go_end0
  exact ⟨rfl, HS1.out, HG1.out⟩
set_option maxRecDepth 100000 in
theorem plain_24 {w : World} {b r : Nat} {s : RS} (h : Sk w b r s.1 s.2) (hf : Few 800 s) (gv : T) : Calls Tryz.prog 31 #[.pointer (some ⟨b, 0, none⟩), .int .i64 24, .string ⟨gv.toArray⟩] w (GivesR w b r (rwant [66] (s))) := by
  go_enter Tryz.func31, Tryz.ntmps31
  go_wp2_with fail
  refine (c_want h (hf.mono (by omega)) [66]).mono ?_
  rintro e w1 ⟨rfl, hs, hg⟩
  have HS1 := Lib.hid hs
  have HG1 := Lib.hid (hg)
  have HF1 := Lib.hid (hf.want [66])
  clear hs hg
  go_wp2_with fail
  go_end0
  exact ⟨rfl, HS1.out, HG1.out⟩
set_option maxRecDepth 100000 in
theorem plain_41 {w : World} {b r : Nat} {s : RS} (h : Sk w b r s.1 s.2) (hf : Few 800 s) (gv : T) : Calls Tryz.prog 31 #[.pointer (some ⟨b, 0, none⟩), .int .i64 41, .string ⟨gv.toArray⟩] w (GivesR w b r (rpush [73] (s))) := by
  go_enter Tryz.func31, Tryz.ntmps31
  go_wp2_with fail
  refine (c_push h (hf.mono (by omega)) [73]).mono ?_
  rintro e w1 ⟨rfl, hs, hg⟩
  have HS1 := Lib.hid hs
  have HG1 := Lib.hid (hg)
  have HF1 := Lib.hid (hf.push (d := [73]) (by simp))
  clear hs hg
  go_wp2_with fail
  go_end0
  exact ⟨rfl, HS1.out, HG1.out⟩
-- pop alone; twice what was on top
set_option maxRecDepth 100000 in
theorem plain_8 {w : World} {b r : Nat} {s : RS} (h : Sk w b r s.1 s.2) (hf : Few 800 s) (gv : T) : Calls Tryz.prog 31 #[.pointer (some ⟨b, 0, none⟩), .int .i64 8, .string ⟨gv.toArray⟩] w (GivesR w b r (rpop s)) := by
  go_enter Tryz.func31, Tryz.ntmps31
  go_wp2_with fail
  refine (c_pop h (hf.mono (by omega))).mono ?_
  rintro e w1 ⟨rfl, hs, hg⟩
  have HS1 := Lib.hid hs
  have HG1 := Lib.hid hg
  clear hs hg
  go_wp2_with fail
  go_end0
  exact ⟨rfl, HS1.out, HG1.out⟩
set_option maxRecDepth 100000 in
theorem plain_9 {w : World} {b r : Nat} {s : RS} (h : Sk w b r s.1 s.2) (hf : Few 800 s) (gv : T) : Calls Tryz.prog 31 #[.pointer (some ⟨b, 0, none⟩), .int .i64 9, .string ⟨gv.toArray⟩] w (GivesR w b r (rpush (rtop s) (rpush (rtop s) (rpop s)))) := by
  go_enter Tryz.func31, Tryz.ntmps31
  go_wp2_with fail
  refine (c_pop h (hf.mono (by omega))).mono ?_
  rintro e w1 ⟨rfl, hs, hg⟩
  have HS1 := Lib.hid hs
  have HG1 := Lib.hid hg
  clear hs hg
  go_wp2_with fail
  refine (c_push HS1.out (hf.pop.mono (by omega)) (rtop s)).mono ?_
  rintro e w2 ⟨rfl, hs, hg⟩
  have HS2 := Lib.hid hs
  have HG2 := Lib.hid (grown_trans HG1.out hg)
  clear hs hg
  go_wp2_with fail
  refine (c_push HS2.out ((hf.pop.push hf.top).mono (by omega)) (rtop s)).mono ?_
  rintro e w3 ⟨rfl, hs, hg⟩
  have HS3 := Lib.hid hs
  have HG3 := Lib.hid (grown_trans HG2.out hg)
  clear hs hg
  go_wp2_with fail
  go_end0
  exact ⟨rfl, HS3.out, HG3.out⟩
end KrB
end Go.Proofs.YtehainbhoflpnaaGreatDoor
