/- pieces -/
import Derived.Test.YtmkdhdmkdcankaaGreatDoorK5
import Derived.Laws.EntriesVeiled
namespace Go.Proofs.YtmkdhdmkdcankaaGreatDoor
set_option maxRecDepth 100000
namespace HierJ
open Go.RowKit BinM Base DescM DescW DescX HierS HierT HierM HierC HierD
open BinName (z8)
theorem zx {a b : Int} (h : a = b) : Ending.returned (.int .i64 a) = .returned (.int .i64 b) := by rw [h]
theorem ZR {p : T → Bool} {l : List T} {j : Nat} (hj : j < l.length) (h : ∀ x ∈ l.take j, p x = false) (h2 : p l[j] = false) : ∀ x ∈ l.take (j + 1), p x = false := by
 intro x hx
 rw [List.take_succ_eq_append_getElem hj, List.mem_append] at hx
 rcases hx with hx | hx
 · exact h x hx
 · simp at hx; subst hx; exact h2
theorem gY (B g : Nat) (h : Hr) (o c : T) (gh go : Nat) (w : World) (H : IsH B w g h) (hB : B ≤ w.heap.size) (hg : Xy h) (hl : o.length ≤ 140737488355328) (c1 : w.cell? ⟨gh, 0, none⟩ = some (.pointer (some ⟨g, 0, none⟩))) (c2 : w.cell? ⟨go, 0, none⟩ = some (.string ⟨o.toArray⟩)) :
 Calls Tryz.prog 260 #[.string ⟨c.toArray⟩, .pointer (some ⟨gh, 0, none⟩), .pointer (some ⟨go, 0, none⟩)] w fun e w' => e = .returned (.bool (h.under o c)) ∧ Below w.heap.size w w' := by
 have HU := zH (zk6 B g h o c w H hB hg hl)
 clear H hB hg hl
 go_enter Tryz.func260, Tryz.ntmps260
 go_wp2_with fail
 refine HU.out.mono ?_
 rintro e w' ⟨rfl, hb⟩
 go_wp2_with fail
 go_ret
 exact ⟨rfl, hb⟩
end HierJ
namespace HierK
open Go.RowKit BinM Base DescM DescW DescX HierS HierT HierM HierC HierD HierJ
open BinName (z8)
theorem retJ {J : T × Bool} {t : T} {b : Bool} (h : J = (t, b)) : Ending.returned (.tuple #[.string ⟨t.toArray⟩, .bool b]) = .returned (.tuple #[.string ⟨J.1.toArray⟩, .bool J.2]) := by subst h; rfl
def gV (o : T × Bool) : Option T := if o.2 then some o.1 else none
theorem Xb (h : Hr) (c : T) : gV (ZO h c) = h.up c := by
 unfold ZO gV
 cases h.up c <;> rfl
set_option maxHeartbeats 2000000 in
theorem loops_any (B g : Nat) (h : Hr) (c : T) (w : World) (H : IsH B w g h) (hc : c.length ≤ 140737488355328) :
 Calls Tryz.prog 96 #[.pointer (some ⟨g, 0, none⟩), .string ⟨c.toArray⟩] w fun e w' => e = .returned (.bool (zV h.up h.names.length (h.up c) c)) ∧ w = w' := by
 have HS := zH (fun c o (hl : c.length ≤ 140737488355328) ho => Vs B g h c o w H hl ho)
 have Hlong := zH H.long
 obtain ⟨A, n, cap, mb, h1, h2, h3, h4, h5, _⟩ := H.cells
 have hfew := H.few
 have c0 : w.cell? ⟨g, 0, none⟩ = some (.slice A n cap) := cell_of_row _ _ _ _ _ (0, 0) h1
 have hn41 : n ≤ 41 := by omega
 have hnl : n ≤ h.names.length := by omega
 have hnl2 : h.names.length ≤ n := by omega
 generalize hS : ZO h c = S at *
 have HS1 := zH (HS.out c S hc hS)
 have Hst := zH (show zV h.up h.names.length (h.up c) c = zV h.up (h.names.length - 0) (gV S) c by rw [← hS, Xb]; rfl)
 have Hst1 := zH (show S.2 = true → S.1 ∈ h.names by
  intro h
  rw [← hS] at h ⊢
  unfold ZO at h ⊢
  cases hu : Hr.up _ c with
  | none => rw [hu] at h; cases h
  | some d => exact kR hu)
 clear h1 h2 h3 h4 h5 H hS hc
 go_enter Tryz.func96, Tryz.ntmps96
 go_wp2_with (go_at_call 138; refine HS1.out.mono ?_; rintro e w' ⟨rfl, rfl⟩)
 go_loop [5, 6, 18] (fun u ok i => ∃ (k : Nat) (o : T × Bool), k ≤ n ∧ i = .int .i64 k ∧ u = .string ⟨o.1.toArray⟩ ∧ ok = .bool o.2 ∧ (o.2 = true → o.1 ∈ h.names) ∧ zV h.up h.names.length (h.up c) c = zV h.up (h.names.length - k) (gV o) c) (fun _ _ i => n - (intOf i).toNat)
 case atStart => exact ⟨0, S, Nat.zero_le _, rfl, rfl, rfl, Hst1.out, Hst.out⟩
 case round =>
  obtain ⟨k, o, hk, rfl, rfl, rfl, hin, hst⟩ := hrel
  obtain ⟨u, ok⟩ := o
  simp only at hin
  by_cases hlt : k < n
  · obtain ⟨m, hm⟩ : ∃ m, h.names.length - k = m + 1 := ⟨h.names.length - k - 1, by omega⟩
    have hm2 : m = h.names.length - (k + 1) := by omega
    rw [hm] at hst
    cases ok
    · have Hfin := zH (show zV h.up h.names.length (h.up c) c = false from hst)
      clear hst hm hin
      go_wp2_with fail
      go_ret
      exact ⟨z8 (by rw [Hfin.out]), rfl⟩
    · cases hE : u == c
      · have hst2 : zV h.up h.names.length (h.up c) c = zV h.up (h.names.length - (k + 1)) (h.up u) c := by
         rw [hst, ← hm2]
         show (u == c || zV h.up m (h.up u) c) = _
         rw [hE]; rfl
        generalize hS2 : ZO h u = S2 at *
        have Hul := zH (Hlong.out u (hin rfl))
        have HS2 := zH (HS.out u S2 (Nat.le_trans Hul.out (by omega)) hS2)
        have Hst2 := zH (show zV h.up h.names.length (h.up c) c = zV h.up (h.names.length - (k + 1)) (gV S2) c by rw [hst2, ← hS2, Xb])
        have Hin2 := zH (show S2.2 = true → S2.1 ∈ h.names by
         intro h
         rw [← hS2] at h ⊢
         unfold ZO at h ⊢
         cases hu : Hr.up _ u with
         | none => rw [hu] at h; cases h
         | some d => exact kR hu)
        clear hst hst2 hm hm2 hin hS2
        go_wp2_with (go_at_call 138; refine HS2.out.mono ?_; rintro e w' ⟨rfl, rfl⟩)
        go_round
        case rel => exact ⟨k + 1, S2, by omega, by go_num, rfl, rfl, Hin2.out, Hst2.out⟩
        case measure => simp [intOf]; omega
      · have Hfin := zH (show zV h.up h.names.length (h.up c) c = true by
         rw [hst]
         show (u == c || zV h.up m (h.up u) c) = _
         rw [hE]; rfl)
        clear hst hm hin
        go_wp2_with fail
        go_ret
        exact ⟨z8 (by rw [Hfin.out]), rfl⟩
  · have Hfin := zH (show zV h.up h.names.length (h.up c) c = false by
     rw [hst, show h.names.length - k = 0 by omega]; rfl)
    clear hst hin
    go_wp2_with fail
    go_ret
    exact ⟨z8 (by rw [Hfin.out]), rfl⟩
end HierK
namespace Stru
open Go.RowKit Base
theorem flat_get {α : Type} (f : α → List Value) (n : Nat) (hn : ∀ x, (f x).length = n) : ∀ (l : List α) (k j : Nat) (hk : k < l.length), j < n → (l.flatMap f)[k * n + j]? = (f l[k])[j]?
 | [], _, _, h, _ => by simp at h
 | x :: t, 0, j, _, hj => by
   simp only [List.flatMap_cons, List.getElem_cons_zero, Nat.zero_mul, Nat.zero_add]
   rw [List.getElem?_append_left (by rw [hn]; exact hj)]
 | x :: t, k + 1, j, h, hj => by
   simp only [List.flatMap_cons, List.getElem_cons_succ]
   rw [List.getElem?_append_right (by rw [hn, Nat.add_mul]; omega), hn]
   have e : (k + 1) * n + j - n = k * n + j := by rw [Nat.add_mul]; omega
   rw [e]
   exact flat_get f n hn t k j (by simpa using h) hj
theorem zN {α : Type} (f : α → List Value) (n : Nat) (hn : ∀ x, (f x).length = n) (l : List α) : (l.flatMap f).length = l.length * n := by
 induction l with
 | nil => simp
 | cons x t ih => simp [ih, hn, Nat.add_mul, Nat.add_comm]
theorem Ql {α : Type} {w : World} {A : Option Addr} {f : α → List Value} {n : Nat} (hn : ∀ x, (f x).length = n) (h0 : 0 < n) {l : List α} {k : Nat} (h : Rds w A (l.flatMap f)) (hk : k < l.length) :
 ∃ b o, A = some ⟨b, o, none⟩ ∧ b < w.heap.size ∧ ∀ j u, (f l[k])[j]? = some u → w.cell? ⟨b, o + (k * n + j), none⟩ = some u := by
 rcases h with h | ⟨b, o, hA, hb, hc⟩
 · have := zN f n hn l
   rw [h] at this
   have h2 : 0 < l.length * n := Nat.mul_pos (by omega) h0
   simp only [List.length_nil] at this
   omega
 · refine ⟨b, o, hA, hb, fun j u hu => hc _ u ?_⟩
   have hj : j < n := by
    have := (List.getElem?_eq_some_iff.1 hu).1
    rw [hn] at this; exact this
   rw [flat_get f n hn l k j hk hj, hu]
section
variable {P : Program} {w : World}
theorem XC (base : Nat) (t ty e : TypeId) (i : TypeInfo) (z : Value) (size bytes : Nat) (ht : P.underlying t = some (.slice e)) (hi : P.info? e = some i) (hz : i.zero = some z)
 (hsize : i.size = size) (hby : i.bytes = bytes) (hzs : z.cells.size = size) (h0 : 0 < size)
 {v : Value} {n : Nat} {xs : List Value} (hown : w.ownsRow base e size v n xs) {A : Option Addr} {m c : Nat} {news : List Value} (hm : news.length = m * size) (hr : Rds w A news) (h1 : ∀ u ∈ news, u.oneCell' = true)
 (h63 : n + m ≤ maxLen) (hbytes : (n + m) * bytes ≤ 140737488355328) (hbase : base ≤ w.heap.size) :
 ∃ v' w', (Builtin.append_ #[t, t] ty #[v, .slice A m c]).run P w = .ok v' w' ∧ w'.ownsRow base e size v' (n + m) (xs ++ news) ∧ w.grownBy w' v.ownBlock := by
 cases A with
 | none =>
   have hnil : news = [] := by
    rcases hr with h | ⟨b, o, h, _⟩
    · exact h
    · cases h
   subst hnil
   have hm0 : m = 0 := by
    rcases Nat.eq_zero_or_pos m with h | h
    · exact h
    · have := Nat.mul_pos h h0
      simp only [List.length_nil] at hm
      omega
   subst hm0
   exact ⟨v, w, run_append_nothing base t ty e i size ht hi hown c, by simpa using hown, World.grownBy.refl w _⟩
 | some ad =>
   have hcells : ∀ j u, news[j]? = some u → w.cell? (ad.add j) = some u := by
    intro j u hu
    rcases hr with h | ⟨b, o, h, _, hc⟩
    · rw [h] at hu; simp at hu
    · injection h with h
      rw [h, Addr.add_mid]
      exact hc j u hu
   obtain ⟨v', w', hrun, h2, h3, _⟩ := run_append_own (P := P) w base t ty e i z size bytes ht hi hz hsize hby hzs h0 v n xs hown ad m c news hm hcells h1 h63 hbytes hbase
   exact ⟨v', w', hrun, h2, h3⟩
theorem XZ {o : Oper} {a : Act} {K : Act → World → Prop} {Q : Exit → Act → World → Prop} (s x : Operand) (t : TypeId)
 (ho : o.op = .call { callee := .builtin .append, args := #[s, x], argTypes := #[t, t] })
 (base : Nat) (e : TypeId) (i : TypeInfo) (z : Value) (size bytes : Nat) (ht : P.underlying t = some (.slice e)) (hi : P.info? e = some i) (hz : i.zero = some z)
 (hsize : i.size = size) (hby : i.bytes = bytes) (hzs : z.cells.size = size) (h0 : 0 < size)
 (v : Value) (n : Nat) (xs : List Value) (hs : a.eval s = v) (hown : w.ownsRow base e size v n xs) (A : Option Addr) (m c : Nat) (news : List Value) (hx : a.eval x = .slice A m c)
 (hm : news.length = m * size) (hr : Rds w A news) (h1 : ∀ u ∈ news, u.oneCell' = true)
 (h63 : n + m ≤ maxLen) (hbytes : (n + m) * bytes ≤ 140737488355328) (hbase : base ≤ w.heap.size)
 (h : ∀ v' w', w'.ownsRow base e size v' (n + m) (xs ++ news) → w.grownBy w' v.ownBlock → K (a.put o.dst v') w') : o.wp P a w K Q := by
 obtain ⟨v', w', hrun, h2, h3⟩ := XC (P := P) base t o.type e i z size bytes ht hi hz hsize hby hzs h0 hown (c := c) hm hr h1 h63 hbytes hbase
 unfold Oper.wp execOp
 simp only [ho, resolve, invoke, builtin, Sem.run_bind, Sem.run_pure, Result.andThen_ok, List.map_toArray, List.map_cons, List.map_nil, hs, hx, hrun]
 exact h v' w' h2 h3
theorem zM {ops : Array Oper} {rest : List Oper} {o : Oper} {a : Act} {Q : Exit → Act → World → Prop} (hgd : o.guard = none) (s x : Operand) (t : TypeId)
 (ho : o.op = .call { callee := .builtin .append, args := #[s, x], argTypes := #[t, t] })
 (base : Nat) (e : TypeId) (i : TypeInfo) (z : Value) (size bytes : Nat) (ht : P.underlying t = some (.slice e)) (hi : P.info? e = some i) (hz : i.zero = some z)
 (hsize : i.size = size) (hby : i.bytes = bytes) (hzs : z.cells.size = size) (h0 : 0 < size)
 (v : Value) (n : Nat) (xs : List Value) (hs : a.eval s = v) (hown : w.ownsRow base e size v n xs) (A : Option Addr) (m c : Nat) (news : List Value) (hx : a.eval x = .slice A m c)
 (hm : news.length = m * size) (hr : Rds w A news) (h1 : ∀ u ∈ news, u.oneCell' = true)
 (h63 : n + m ≤ maxLen) (hbytes : (n + m) * bytes ≤ 140737488355328) (hbase : base ≤ w.heap.size)
 (h : ∀ v' w', w'.ownsRow base e size v' (n + m) (xs ++ news) → w.grownBy w' v.ownBlock → wpList P ops Q rest (a.put o.dst v') w') : wpList P ops Q (o :: rest) a w :=
 wpList_plain hgd fun _ hK => XZ s x t ho base e i z size bytes ht hi hz hsize hby hzs h0 v n xs hs hown A m c news hx hm hr h1 h63 hbytes hbase fun v' w' h2 h3 => hK _ _ (h v' w' h2 h3)
end
theorem Rds.qp {w : World} {base : Nat} {e : TypeId} {size n c : Nat} {A : Option Addr} {xs : List Value} (h : w.ownsRow base e size (.slice A n c) n xs) : Rds w A xs := by
 rcases h.2 with ⟨hv, hn⟩ | ⟨g, cap, cur, hv, hb, hh, hn, hm, hs, hx⟩
 · have h1 := h.1
   rw [hn, Nat.zero_mul] at h1
   exact .inl (List.eq_nil_of_length_eq_zero h1)
 · have hA : A = some ⟨g, 0, none⟩ := by injection hv
   subst hA
   have hlt : g < w.heap.size := (h.lt g rfl).2
   refine .inr ⟨g, 0, rfl, hlt, fun j u hu => ?_⟩
   have := h.cells (g := g) rfl j u hu
   rwa [Addr.add_mid] at this
abbrev Qo := Int × Int
def xQ (x : Qo) : List Value := [.int .i64 x.1, .int .i64 x.2]
def zo (x : Int) : Prop := -9223372036854775808 ≤ x ∧ x ≤ 9223372036854775807
structure Yq (w : World) (A : Option Addr) (m c : Nat) (l : List Qo) : Prop where
 len : m = l.length
 le : m ≤ c
 max : c ≤ maxLen
 rds : Rds w A (l.flatMap xQ)
 fit : ∀ x ∈ l, zo x.1 ∧ zo x.2
theorem XW {w : World} {A : Option Addr} {l : List Qo} {k : Nat} (h : Rds w A (l.flatMap xQ)) (hk : k < l.length) :
 ∃ b o, A = some ⟨b, o, none⟩ ∧ b < w.heap.size ∧ w.cell? ⟨b, o + k * 2, none⟩ = some (.int .i64 l[k].1) ∧ w.cell? ⟨b, o + k * 2 + 1, none⟩ = some (.int .i64 l[k].2) := by
 obtain ⟨b, o, hA, hb, hc⟩ := Ql (n := 2) (fun _ => rfl) (by omega) h hk
 exact ⟨b, o, hA, hb, hc 0 _ rfl, hc 1 _ rfl⟩
theorem Yq.below {w w' : World} {A : Option Addr} {m c : Nat} {l : List Qo} (h : Yq w A m c l) (hb : Below w.heap.size w w') : Yq w' A m c l := ⟨h.len, h.le, h.max, h.rds.below hb, h.fit⟩
structure Cst where
 kind : Int
 n : Int
 s : List UInt8
 t : List UInt8
 u : List UInt8
def Cst.vals (c : Cst) : List Value := [.int .i64 c.kind, .int .i64 c.n, .string ⟨c.s.toArray⟩, .string ⟨c.t.toArray⟩, .string ⟨c.u.toArray⟩]
structure ZH (w : World) (A : Option Addr) (m c : Nat) (l : List Cst) : Prop where
 len : m = l.length
 le : m ≤ c
 max : c ≤ maxLen
 rds : Rds w A (l.flatMap Cst.vals)
 fit : ∀ x ∈ l, zo x.kind ∧ zo x.n
theorem jJ {w : World} {A : Option Addr} {l : List Cst} {k : Nat} (h : Rds w A (l.flatMap Cst.vals)) (hk : k < l.length) :
 ∃ b o, A = some ⟨b, o, none⟩ ∧ b < w.heap.size ∧ w.cell? ⟨b, o + k * 5, none⟩ = some (.int .i64 l[k].kind) ∧ w.cell? ⟨b, o + k * 5 + 1, none⟩ = some (.int .i64 l[k].n) ∧
   w.cell? ⟨b, o + k * 5 + 2, none⟩ = some (.string ⟨l[k].s.toArray⟩) ∧ w.cell? ⟨b, o + k * 5 + 3, none⟩ = some (.string ⟨l[k].t.toArray⟩) ∧ w.cell? ⟨b, o + k * 5 + 4, none⟩ = some (.string ⟨l[k].u.toArray⟩) := by
 obtain ⟨b, o, hA, hb, hc⟩ := Ql (n := 5) (fun _ => rfl) (by omega) h hk
 exact ⟨b, o, hA, hb, hc 0 _ rfl, hc 1 _ rfl, hc 2 _ rfl, hc 3 _ rfl, hc 4 _ rfl⟩
theorem ZH.below {w w' : World} {A : Option Addr} {m c : Nat} {l : List Cst} (h : ZH w A m c l) (hb : Below w.heap.size w w') : ZH w' A m c l := ⟨h.len, h.le, h.max, h.rds.below hb, h.fit⟩
theorem drawn {B : Nat} {a w : World} (h : Below B a w) (n : Nat) : Below B a (w.drewN n) := ⟨h.os, h.tape, h.output, h.size, h.block⟩
end Stru
end Go.Proofs.YtmkdhdmkdcankaaGreatDoor
