/- pieces -/
import Derived.Below
import Derived.Laws.OwnMore
import Derived.Laws.Cells
import Derived.Laws.BytesString
import Derived.Deep.Draws
import Derived.Deep.MidRow
import Derived.Lib.Hide
import Derived.Lib.AppendStr
import Derived.Laws.Rows
import Derived.OwnWalk
import Derived.WalkKit
import Derived.Deep.DeepAppendWide
import Derived.Deep.WholeRow
import Derived.Test.YtehainbhoflpnaaGreatDoorRows
import Derived.ProofKit
import Derived.SizedLaws
import Derived.SliceStrings
import Derived.Test.YtehainbhoflpnaaGreatDoorProg
import Derived.LoopTactic
import Derived.WalkSpells
namespace Go.Proofs.YtehainbhoflpnaaGreatDoor
theorem zH {p : Prop} (h : p) : Go.RowKit.Hid p := h
namespace BinM
def isLet (x : Int) : Bool := decide ((65 ≤ x ∧ x ≤ 90) ∨ (97 ≤ x ∧ x ≤ 122) ∨ x = 95)
def U1 (x : Int) : Bool := decide (48 ≤ x ∧ x ≤ 57)
def okI (k : Nat) (x : Int) : Bool := isLet x || (decide (k ≠ 0) && U1 x)
def okB (k : Nat) (c : UInt8) : Bool := okI k (c.toNat : Int)
def ji : Nat → List UInt8 → Bool
 | _, [] => true
 | k, c :: t => okB k c && ji (k + 1) t
def zF (l : List UInt8) : Bool := decide (1 ≤ l.length) && decide (l.length ≤ 24) && ji 0 l
theorem YG (k : Nat) (a b : List UInt8) : ji k (a ++ b) = (ji k a && ji (k + a.length) b) := by
 induction a generalizing k with
 | nil => simp [ji]
 | cons c t ih => simp [ji, ih, Bool.and_assoc, Nat.add_assoc, Nat.add_comm 1]
theorem Qh (s : ByteArray) (k : Nat) (h : k < s.size) :
 ji 0 (s.data.toList.take (k + 1)) = (ji 0 (s.data.toList.take k) && okB k s[k]) := by
 rw [List.take_succ_eq_append_getElem (by simpa using h), YG]
 have hl : (s.data.toList.take k).length = k := by simp; have : s.data.size = s.size := rfl; omega
 rw [hl]
 simp [ji]
 rfl
theorem ug (s : ByteArray) (k : Nat) (h : k < s.size) (hk : okB k s[k] = false) : ji 0 s.data.toList = false := by
 have e : s.data.toList = s.data.toList.take (k + 1) ++ s.data.toList.drop (k + 1) := (List.take_append_drop _ _).symm
 rw [e, YG, Qh s k h, hk]
 simp
theorem jL (s : ByteArray) (k : Nat) (h : k < s.size) (hk : okB k s[k] = false) : zF s.data.toList = false := by
 unfold zF; rw [ug s k h hk]; simp
theorem Ke (s : ByteArray) (h1 : 1 ≤ s.size) (h2 : s.size ≤ 24) (h : ji 0 s.data.toList = true) : zF s.data.toList = true := by
 have hl : s.data.toList.length = s.size := by simp
 unfold zF; rw [hl, h]; simp [h1, h2]
theorem Xh (s : ByteArray) (h : ¬ (1 ≤ s.size ∧ s.size ≤ 24)) : zF s.data.toList = false := by
 have hl : s.data.toList.length = s.size := by simp
 unfold zF; rw [hl]
 by_cases a : 1 ≤ s.size
 · have b : ¬ s.size ≤ 24 := fun b => h ⟨a, b⟩
   simp [b]
 · simp [a]
def foldI (n : Int) : Int := if n < 0 then -2 * n - 1 else 2 * n
end BinM
namespace BinE
open BinM
def val : List UInt8 → Nat
 | [] => 0
 | c :: t => c.toNat % 128 + 128 * val t
def Jr : Nat → Nat → List UInt8
 | 0, u => [UInt8.ofNat u]
 | f + 1, u => if u < 128 then [UInt8.ofNat u] else UInt8.ofNat (u % 128 + 128) :: Jr f (u / 128)
def enc (u : Nat) : List UInt8 := Jr 9 u
def num (n : Int) : List UInt8 := enc (foldI n).toNat
def lead : List UInt8 → Nat
 | [] => 0
 | c :: t => if 128 ≤ c.toNat then lead t + 1 else 0
theorem toNat_ofNat (n : Nat) (h : n < 256) : (UInt8.ofNat n).toNat = n := by simp; omega
def Can : List UInt8 → Prop
 | [] => False
 | [c] => c.toNat < 128
 | c :: d :: t => 128 ≤ c.toNat ∧ (t = [] → d.toNat ≠ 0) ∧ Can (d :: t)
theorem Can.pos : ∀ {l : List UInt8}, Can l → (2 ≤ l.length ∨ ∀ c, l = [c] → c.toNat ≠ 0) → 0 < val l
 | [], h, _ => by cases h
 | [c], h, h2 => by
   simp [Can] at h
   have h3 : c.toNat ≠ 0 := by rcases h2 with h2 | h2
                               · simp at h2
                               · exact h2 c rfl
   simp [val]; omega
 | c :: d :: t, h, _ => by
   obtain ⟨h1, h2, h3⟩ := h
   have : 0 < val (d :: t) := Can.pos h3 (by
    cases t with
    | nil => right; intro c' e; simp at e; subst e; exact h2 rfl
    | cons => left; simp)
   simp only [val] at this ⊢
   omega
theorem Can.ne : ∀ {l : List UInt8}, Can l → l ≠ [] := by
 intro l h e; subst e; cases h
theorem gF : ∀ (f u : Nat), u < 128 ^ (f + 1) → Can (Jr f u) ∧ val (Jr f u) = u ∧ (Jr f u).length ≤ f + 1 ∧ (u = 0 ∨ ∀ c, Jr f u = [c] → c.toNat ≠ 0)
 | 0, u, h => by
   have h' : u < 128 := by simpa using h
   have e : (UInt8.ofNat u).toNat = u := toNat_ofNat u (by omega)
   refine ⟨by unfold Jr Can; omega, by simp only [Jr, val]; omega, by simp [Jr], ?_⟩
   by_cases h0 : u = 0
   · exact .inl h0
   · right; intro c hc; simp only [Jr, List.cons.injEq, and_true] at hc; subst hc; omega
 | f + 1, u, h => by
   unfold Jr
   by_cases hu : u < 128
   · rw [if_pos hu]
     have e : (UInt8.ofNat u).toNat = u := toNat_ofNat u (by omega)
     refine ⟨by unfold Can; omega, by simp only [val]; omega, by simp, ?_⟩
     by_cases h0 : u = 0
     · exact .inl h0
     · right; intro c hc; simp only [List.cons.injEq, and_true] at hc; subst hc; omega
   · rw [if_neg hu]
     have hb : u / 128 < 128 ^ (f + 1) := by
      rw [Nat.pow_succ] at h
      exact Nat.div_lt_of_lt_mul (by rw [Nat.mul_comm]; exact h)
     obtain ⟨c1, c2, c3, c4⟩ := gF f (u / 128) hb
     have e : (UInt8.ofNat (u % 128 + 128)).toNat = u % 128 + 128 := toNat_ofNat _ (by omega)
     refine ⟨?_, by simp only [val, c2]; omega, by simp; omega, ?_⟩
     · cases hl : Jr f (u / 128) with
       | nil => rw [hl] at c1; cases c1
       | cons d t =>
         rw [hl] at c1 c4
         refine ⟨by omega, fun ht => ?_, c1⟩
         subst ht
         rcases c4 with c4 | c4
         · omega
         · exact c4 d rfl
     · right
       intro c hc
       have := c1.ne
       simp at hc
       exact absurd hc.2 this
theorem qG : ∀ l : List UInt8, lead l ≤ l.length
 | [] => by simp [lead]
 | c :: t => by
   have := qG t
   unfold lead
   split <;> simp <;> omega
theorem Zd9 {u : Nat} (h : u < 18446744073709551616) : Can (enc u) ∧ val (enc u) = u ∧ (enc u).length ≤ 10 := by
 have := gF 9 u (by have : (128 : Nat) ^ (9 + 1) = 1180591620717411303424 := by decide
                    omega)
 exact ⟨this.1, this.2.1, this.2.2.1⟩
theorem KI (n : Int) : 0 ≤ foldI n := by unfold foldI; split <;> omega
theorem YU {n : Int} (h0 : -9223372036854775808 ≤ n) (h1 : n ≤ 9223372036854775807) : foldI n ≤ 18446744073709551615 := by unfold foldI; split <;> omega
theorem qF {n : Int} (h0 : -9223372036854775808 ≤ n) (h1 : n ≤ 9223372036854775807) : Can (num n) ∧ val (num n) = (foldI n).toNat ∧ (num n).length ≤ 10 := by
 have := YU h0 h1
 exact Zd9 (by omega)
theorem Za1 {n : Int} (h0 : -9223372036854775808 ≤ n) (h1 : n ≤ 9223372036854775807) : 1 ≤ (num n).length := by
 have := (qF h0 h1).1.ne
 cases h : num n with
 | nil => exact absurd h this
 | cons => simp
end BinE
namespace Base
open Go.RowKit
def Rds (w : World) (A : Option Addr) (xs : List Value) : Prop :=
 xs = [] ∨ ∃ b o, A = some ⟨b, o, none⟩ ∧ b < w.heap.size ∧ ∀ j u, xs[j]? = some u → w.cell? ⟨b, o + j, none⟩ = some u
def gD (c : UInt8) : Value := .int .u8 (c.toNat : Int)
def zW (l : List UInt8) : List Value := l.map gD
theorem qK (l : List UInt8) : (zW l).length = l.length := by simp [zW]
theorem Qc (a b : List UInt8) : zW (a ++ b) = zW a ++ zW b := by simp [zW]
theorem JL (l : List UInt8) : ∀ u ∈ zW l, u.oneCell' = true := by
 intro u hu
 simp only [zW, List.mem_map] at hu
 obtain ⟨c, _, rfl⟩ := hu
 rfl
section
variable {w w' : World} {A : Option Addr} {xs : List Value}
theorem Rds.at_ {k : Nat} (h : Rds w A xs) (hk : k < xs.length) : ∃ b o, A = some ⟨b, o, none⟩ ∧ b < w.heap.size ∧ w.cell? ⟨b, o + k, none⟩ = some xs[k] := by
 rcases h with rfl | ⟨b, o, hA, hb, hc⟩
 · simp at hk
 · exact ⟨b, o, hA, hb, hc k _ (List.getElem?_eq_getElem hk)⟩
theorem Rds.below (h : Rds w A xs) (hb : Below w.heap.size w w') : Rds w' A xs := by
 rcases h with rfl | ⟨b, o, hA, hlt, hc⟩
 · exact .inl rfl
 · exact .inr ⟨b, o, hA, Nat.lt_of_lt_of_le hlt hb.size, fun j u hu => (hb.cell (p := ⟨b, o + j, none⟩) hlt).trans (hc j u hu)⟩
theorem Rds.gK (h : Rds w A xs) {B : Nat} (hb : Below B w w') (hA : ∀ a, A = some a → a.block < B) : Rds w' A xs := by
 rcases h with rfl | ⟨b, o, rfl, hlt, hc⟩
 · exact .inl rfl
 · have hB : b < B := hA _ rfl
   exact .inr ⟨b, o, rfl, Nat.lt_of_lt_of_le hlt hb.size, fun j u hu => (hb.cell (p := ⟨b, o + j, none⟩) hB).trans (hc j u hu)⟩
theorem Rds.grown (h : Rds w A xs) {row : Option Nat} (hg : w.grownBy w' row) (hne : ∀ a, A = some a → some a.block ≠ row) : Rds w' A xs := by
 rcases h with rfl | ⟨b, o, rfl, hlt, hc⟩
 · exact .inl rfl
 · exact .inr ⟨b, o, rfl, Nat.lt_of_lt_of_le hlt hg.size, fun j u hu => hg.cell (hc j u hu) (hne ⟨b, o, none⟩ rfl)⟩
theorem Rds.drewN (h : Rds w A xs) (n : Nat) : Rds (w.drewN n) A xs := h
theorem Rds.drew (h : Rds w A xs) : Rds w.drew A xs := h
theorem Rds.take (h : Rds w A xs) (k : Nat) : Rds w A (xs.take k) := by
 rcases h with rfl | ⟨b, o, hA, hlt, hc⟩
 · simp [Rds]
 · refine .inr ⟨b, o, hA, hlt, fun j u hu => hc j u ?_⟩
   rw [List.getElem?_take] at hu
   by_cases hj : j < k
   · rwa [if_pos hj] at hu
   · rw [if_neg hj] at hu; cases hu
theorem Rds.drop (h : Rds w A xs) {k c : Nat} (hc : xs.length ≤ c) : Rds w (if c = k then A else A.map (·.add k)) (xs.drop k) := by
 by_cases hk : k < xs.length
 · rcases h with rfl | ⟨b, o, rfl, hlt, hcell⟩
   · simp at hk
   · rw [if_neg (by omega)]
     refine .inr ⟨b, o + k, by simp only [Option.map_some, Addr.add_mid], hlt, fun j u hu => ?_⟩
     rw [List.getElem?_drop] at hu
     have := hcell (k + j) u hu
     rwa [← Nat.add_assoc] at this
 · rw [List.drop_of_length_le (by omega)]
   exact .inl rfl
theorem Rds.own {base : Nat} {e : TypeId} {size n c : Nat} (h : w.ownsRow base e size (.slice A n c) n xs) : Rds w A xs := by
 rcases h.2 with ⟨hv, hn⟩ | ⟨g, cap, cur, hv, hb, hh, hn, hm, hs, hx⟩
 · have h1 := h.1
   rw [hn] at h1
   exact .inl (List.eq_nil_of_length_eq_zero (by omega))
 · have hA : A = some ⟨g, 0, none⟩ := by injection hv
   subst hA
   have hlt : g < w.heap.size := (h.lt g rfl).2
   refine .inr ⟨g, 0, rfl, hlt, fun j u hu => ?_⟩
   have := h.cells (g := g) rfl j u hu
   rwa [Addr.add_mid] at this
theorem run_text {P : Program} {l : List UInt8} (src dst e : TypeId) (n c : Nat) (hs : P.underlying src = some (.slice e)) (he : P.underlying e = some (.int .u8)) (hd : P.underlying dst = some .string)
 (hn : n = l.length) (h : Rds w A (zW l)) : (convert src dst (.slice A n c)).run P w = .ok (.string ⟨l.toArray⟩) w := by
 subst hn
 rw [run_convert_bytes_string w src dst e A l.length c hs he hd]
 have key : ∀ (l : List UInt8) (s : ByteArray), (l.map fun c => (c.toNat : Int)).foldl (fun r n => r.push (UInt8.ofNat n.toNat)) s = ⟨s.data ++ l.toArray⟩ := by
  intro l
  induction l with
  | nil => intro s; simp
  | cons a t ih =>
    intro s
    simp only [List.map_cons, List.foldl_cons, ih]
    simp [ByteArray.push]
 rcases h with h0 | ⟨b, o, rfl, hlt, hc⟩
 · have : l = [] := by cases l with
    | nil => rfl
    | cons a t => simp [zW] at h0
   subst this
   cases A with
   | none => simp [Conv.bytesToString, Sem.run_pure]; rfl
   | some a =>
     have hl : (loadCells a 0).run P w = .ok ((([] : List Int).map (Value.int .u8)).toArray) w := run_loadCells_list (P := P) (w := w) a [] (by intro j v h; cases h)
     exact run_bytesToString w a 0 c [] hl
 · have hl : (loadCells ⟨b, o, none⟩ l.length).run P w = .ok (((l.map fun c => (c.toNat : Int)).map (Value.int .u8)).toArray) w := by
    have := run_loadCells_list (P := P) (w := w) ⟨b, o, none⟩ (zW l) (fun j v hj => by rw [Addr.add_mid]; exact hc j v hj)
    rw [qK] at this
    rw [this]
    simp [zW, gD, List.map_map, Function.comp_def]
   rw [run_bytesToString w ⟨b, o, none⟩ l.length c _ hl, key]
   simp
end
end Base
namespace Base
open Go.RowKit
structure GZ (w : World) (A : Option Addr) (m c : Nat) (l : List Int) : Prop where
 len : m = l.length
 le : m ≤ c
 max : c ≤ maxLen
 rds : Rds w A (l.map (Value.int .i64))
 fit : ∀ x ∈ l, -9223372036854775808 ≤ x ∧ x ≤ 9223372036854775807
end Base
namespace Base
open Go.RowKit
section
variable {P : Program} {w : World}
theorem run_append_nothing (base : Nat) (t ty e : TypeId) (i : TypeInfo) (size : Nat) (ht : P.underlying t = some (.slice e)) (hi : P.info? e = some i)
 {v : Value} {n : Nat} {xs : List Value} (hown : w.ownsRow base e size v n xs) (c : Nat) :
 (Builtin.append_ #[t, t] ty #[v, .slice none 0 c]).run P w = .ok v w := by
 obtain ⟨_, hv⟩ := hown
 rcases hv with ⟨rfl, _⟩ | ⟨g, cap, cur, rfl, _, _, hle, _⟩
 · simp [Builtin.append_, Builtin.lenOf, Builtin.firstCells, sizeOf, typeInfo, run_underlying ht, hi]
 · simp [Builtin.append_, Builtin.lenOf, Builtin.firstCells, sizeOf, typeInfo, storeCells, run_underlying ht, hi, hle]
theorem XZ (base : Nat) (t ty e : TypeId) (i : TypeInfo) (z : Value) (bytes : Nat) (ht : P.underlying t = some (.slice e)) (hi : P.info? e = some i) (hz : i.zero = some z)
 (hsize : i.size = 1) (hby : i.bytes = bytes) (hzs : z.cells.size = 1)
 {v : Value} {n : Nat} {xs : List Value} (hown : w.ownsRow base e 1 v n xs) {A : Option Addr} {m c : Nat} {news : List Value} (hm : news.length = m) (hr : Rds w A news) (h1 : ∀ u ∈ news, u.oneCell' = true)
 (h63 : n + m ≤ maxLen) (hbytes : ((n + m) + (n + m) / 4 + 192) * bytes ≤ 281474976710656) (hbase : base ≤ w.heap.size) :
 ∃ v' w', (Builtin.append_ #[t, t] ty #[v, .slice A m c]).run P w = .ok v' w' ∧ w'.ownsRow base e 1 v' (n + m) (xs ++ news) ∧ w.grownBy w' v.ownBlock := by
 cases A with
 | none =>
   have hnil : news = [] := by
    rcases hr with h | ⟨b, o, h, _⟩
    · exact h
    · cases h
   subst hnil
   subst hm
   exact ⟨v, w, run_append_nothing base t ty e i 1 ht hi hown c, by simpa using hown, World.grownBy.refl w _⟩
 | some ad =>
   have hcells : ∀ j u, news[j]? = some u → w.cell? (ad.add j) = some u := by
    intro j u hu
    rcases hr with h | ⟨b, o, h, _, hc⟩
    · rw [h] at hu; simp at hu
    · injection h with h
      rw [h, Addr.add_mid]
      exact hc j u hu
   obtain ⟨v', w', hrun, h2, h3, _⟩ := run_append_own_wide (P := P) w base t ty e i z 1 bytes ht hi hz hsize hby hzs (by omega) v n xs hown ad m c news (by omega) hcells h1 h63 hbytes hbase
   exact ⟨v', w', hrun, h2, h3⟩
theorem zB (w : World) (cs : Array Value) (t : TypeId) : Rds (w.alloc (.cells cs t)) (some ⟨w.heap.size, 0, none⟩) cs.toList := by
 refine .inr ⟨w.heap.size, 0, rfl, by simp, fun j u hu => ?_⟩
 rw [cell_of_row _ _ (0 + j) cs t (0, 0) (heap_alloc_new w _), Nat.zero_add]
 simpa using hu
theorem QN {o : Oper} {a : Act} {K : Act → World → Prop} {Q : Exit → Act → World → Prop} (s x : Operand) (t : TypeId)
 (ho : o.op = .call { callee := .builtin .append, args := #[s, x], argTypes := #[t, t] })
 (base : Nat) (e : TypeId) (i : TypeInfo) (z : Value) (bytes : Nat) (ht : P.underlying t = some (.slice e)) (hi : P.info? e = some i) (hz : i.zero = some z)
 (hsize : i.size = 1) (hby : i.bytes = bytes) (hzs : z.cells.size = 1)
 (v : Value) (n : Nat) (xs : List Value) (hs : a.eval s = v) (hown : w.ownsRow base e 1 v n xs) (A : Option Addr) (m c : Nat) (news : List Value) (hx : a.eval x = .slice A m c)
 (hm : news.length = m) (hr : Rds w A news) (h1 : ∀ u ∈ news, u.oneCell' = true)
 (h63 : n + m ≤ maxLen) (hbytes : ((n + m) + (n + m) / 4 + 192) * bytes ≤ 281474976710656) (hbase : base ≤ w.heap.size)
 (h : ∀ v' w', w'.ownsRow base e 1 v' (n + m) (xs ++ news) → w.grownBy w' v.ownBlock → K (a.put o.dst v') w') : o.wp P a w K Q := by
 obtain ⟨v', w', hrun, h2, h3⟩ := XZ (P := P) base t o.type e i z bytes ht hi hz hsize hby hzs hown (c := c) hm hr h1 h63 hbytes hbase
 unfold Oper.wp execOp
 simp only [ho, resolve, invoke, builtin, Sem.run_bind, Sem.run_pure, Result.andThen_ok, List.map_toArray, List.map_cons, List.map_nil, hs, hx, hrun]
 exact h v' w' h2 h3
theorem Zk {ops : Array Oper} {rest : List Oper} {o : Oper} {a : Act} {Q : Exit → Act → World → Prop} (hgd : o.guard = none) (s x : Operand) (t : TypeId)
 (ho : o.op = .call { callee := .builtin .append, args := #[s, x], argTypes := #[t, t] })
 (base : Nat) (e : TypeId) (i : TypeInfo) (z : Value) (bytes : Nat) (ht : P.underlying t = some (.slice e)) (hi : P.info? e = some i) (hz : i.zero = some z)
 (hsize : i.size = 1) (hby : i.bytes = bytes) (hzs : z.cells.size = 1)
 (v : Value) (n : Nat) (xs : List Value) (hs : a.eval s = v) (hown : w.ownsRow base e 1 v n xs) (A : Option Addr) (m c : Nat) (news : List Value) (hx : a.eval x = .slice A m c)
 (hm : news.length = m) (hr : Rds w A news) (h1 : ∀ u ∈ news, u.oneCell' = true)
 (h63 : n + m ≤ maxLen) (hbytes : ((n + m) + (n + m) / 4 + 192) * bytes ≤ 281474976710656) (hbase : base ≤ w.heap.size)
 (h : ∀ v' w', w'.ownsRow base e 1 v' (n + m) (xs ++ news) → w.grownBy w' v.ownBlock → wpList P ops Q rest (a.put o.dst v') w') : wpList P ops Q (o :: rest) a w :=
 wpList_plain hgd fun _ hK => QN s x t ho base e i z bytes ht hi hz hsize hby hzs v n xs hs hown A m c news hx hm hr h1 h63 hbytes hbase fun v' w' h2 h3 => hK _ _ (h v' w' h2 h3)
theorem Z6 {base base' : Nat} {e : TypeId} {size n : Nat} {v : Value} {xs : List Value} (h : w.ownsRow base e size v n xs) (hb : base' ≤ base) : w.ownsRow base' e size v n xs := by
 obtain ⟨h1, h2⟩ := h
 refine ⟨h1, ?_⟩
 rcases h2 with h2 | ⟨g, cap, cur, a, b, r⟩
 · exact .inl h2
 · exact .inr ⟨g, cap, cur, a, Nat.le_trans hb b, r⟩
theorem zS {base : Nat} {e : TypeId} {size n : Nat} {v : Value} {xs : List Value} (h : w.ownsRow base e size v n xs) :
 ∃ A c, v = .slice A n c ∧ n ≤ c ∧ c ≤ maxLen ∧ (∀ a, A = some a → base ≤ a.block ∧ a.block < w.heap.size ∧ v.ownBlock = some a.block) ∧ (A = none → n = 0 ∧ v.ownBlock = none) := by
 rcases h.2 with ⟨rfl, rfl⟩ | ⟨g, cap, cur, rfl, hb, hh, hn, hm, _⟩
 · exact ⟨none, 0, rfl, Nat.le_refl _, by simp [maxLen], by simp, fun _ => ⟨rfl, rfl⟩⟩
 · refine ⟨some ⟨g, 0, none⟩, cap, rfl, hn, hm, fun a ha => ?_, by simp⟩
   injection ha with ha
   subst ha
   exact ⟨hb, (h.lt g rfl).2, rfl⟩
theorem zV {B base : Nat} {e : TypeId} {size n : Nat} {v : Value} {xs : List Value} {w0 w' : World} (hb : Below B w0 w) (h : w.ownsRow base e size v n xs) (hB : B ≤ base) (hs : B ≤ w.heap.size) (hg : w.grownBy w' v.ownBlock) : Below B w0 w' :=
 hb.grown hg hs (fun k hk => by have := (h.lt k hk).1; omega)
end
end Base
namespace Opened
open Go.RowKit Go.ChangeShapes Base
def Places {H : Type} (d : DataW H) (c : Nat) : Prop := (d = .nil ∧ c = 0) ∨ ∃ el sp, d = .slice el sp ∧ el.length + sp.length = c
section
variable {H : Type} {enc : TypeId × Value → H} {P : Program} {w : World}
theorem Vj {ts : List TypeId} {ds : List (DataW H)} (h : (DataW.weightsEach P ts ds).all (· ≤ reachBytes) = true) {j : Nat} {t : TypeId} {s : ByteArray} (ht : ts[j]? = some t) (hd : ds[j]? = some (.lit (.string s.data.toList))) : s.size ≤ 140737488351232 := by
 have := sized_string h ht hd
 simpa [reachBytes] using this
end
end Opened
namespace BinNum
open Go.RowKit BinM
theorem QS {k : IntKind} {a b : Int} (h : a = b) : Ending.returned (.int k a) = .returned (.int k b) := by rw [h]
theorem ze {a b : Bool} (h : a = b) : Ending.returned (.bool a) = .returned (.bool b) := by rw [h]
theorem zt1 (n : Int) (w : World) (h0 : -9223372036854775808 ≤ n) (h1 : n ≤ 9223372036854775807) :
 Calls Tryz.prog 199 #[.int .i64 n] w fun e w' => e = .returned (.int .u64 (foldI n)) ∧ w = w' := by
 by_cases h : n < 0
 · go_enter Tryz.func199, Tryz.ntmps199
   go_wp2
   go_ret
   exact ⟨QS (by unfold foldI; rw [if_pos h]; omega), rfl⟩
 · go_enter Tryz.func199, Tryz.ntmps199
   go_wp2
   go_ret
   exact ⟨QS (by unfold foldI; rw [if_neg (by omega)]), rfl⟩
end BinNum
namespace BinName
open Go.RowKit BinM
theorem ze {a b : Bool} (h : a = b) : Ending.returned (.bool a) = .returned (.bool b) := by rw [h]
theorem JE (x : Int) (w : World) (h0 : 0 ≤ x) (h1 : x ≤ 255) :
 Calls Tryz.prog 127 #[.int .u8 x] w fun e w' => e = .returned (.bool (isLet x)) ∧ w = w' := by
 rcases (by omega : x < 65 ∨ (65 ≤ x ∧ x ≤ 90) ∨ (91 ≤ x ∧ x ≤ 94) ∨ x = 95 ∨ x = 96 ∨ (97 ≤ x ∧ x ≤ 122) ∨ 123 ≤ x) with h | h | h | h | h | h | h
 all_goals
  first | (obtain ⟨ha, hb⟩ := h) | (subst h) | skip
  go_enter Tryz.func127, Tryz.ntmps127
  go_wp2
  go_ret
  exact ⟨ze (by rw [Bool.eq_iff_iff]; simp [isLet] <;> omega), rfl⟩
theorem vT (x : Int) (w : World) (h0 : 0 ≤ x) (h1 : x ≤ 255) :
 Calls Tryz.prog 128 #[.int .u8 x] w fun e w' => e = .returned (.bool (U1 x)) ∧ w = w' := by
 rcases (by omega : x < 48 ∨ (48 ≤ x ∧ x ≤ 57) ∨ 58 ≤ x) with h | h | h
 all_goals
  first | (obtain ⟨ha, hb⟩ := h) | skip
  go_enter Tryz.func128, Tryz.ntmps128
  go_wp2
  go_ret
  exact ⟨ze (by rw [Bool.eq_iff_iff]; simp [U1] <;> omega), rfl⟩
theorem uT (s : ByteArray) (w : World) (hs : s.size ≤ maxLen) :
 Calls Tryz.prog 76 #[.string s] w fun e w' => e = .returned (.bool (zF s.data.toList)) ∧ w = w' := by
 unfold maxLen at hs
 by_cases hc : 1 ≤ s.size ∧ s.size ≤ 24
 · obtain ⟨hc1, hc2⟩ := hc
   go_enter Tryz.func76, Tryz.ntmps76
   go_wp2
   go_loop [14, 3] (fun i _ => ∃ k : Nat, k ≤ s.size ∧ i = .int .i64 k ∧ ji 0 (s.data.toList.take k) = true) (fun i _ => s.size - (intOf i).toNat)
   case atStart => exact ⟨0, Nat.zero_le _, rfl, rfl⟩
   case round =>
    obtain ⟨k, hk, rfl, hr⟩ := hrel
    have Hr := zH hr
    clear hr
    by_cases hlt : k < s.size
    · have c0 : (0 : Int) ≤ (s[k].toNat : Int) := by omega
      have c1 : (s[k].toNat : Int) ≤ 255 := by have := s[k].toNat_lt; omega
      have hz : k = 0 ∨ 0 < k := by omega
      cases hL : isLet (s[k].toNat : Int)
      · rcases hz with rfl | hz
        · have hno : okB 0 s[0] = false := by simp [okB, okI, hL]
          have Hno := zH hno
          clear hno
          go_wp2_with (go_at_call 127; refine (JE _ _ (by omega) (by omega)).mono ?_; rintro e w' ⟨rfl, rfl⟩)
          go_ret
          exact ⟨ze (jL s 0 hlt Hno.out).symm, rfl⟩
        · have hk0 : ((k : Int) == 0) = false := by simp; omega
          cases hD : U1 (s[k].toNat : Int)
          · have hno : okB k s[k] = false := by simp [okB, okI, hL, hD]
            have Hno := zH hno
            clear hno
            go_wp2_with (first | (go_at_call 127; refine (JE _ _ (by omega) (by omega)).mono ?_; rintro e w' ⟨rfl, rfl⟩) | (go_at_call 128; refine (vT _ _ (by omega) (by omega)).mono ?_; rintro e w' ⟨rfl, rfl⟩))
            go_ret
            exact ⟨ze (jL s k hlt Hno.out).symm, rfl⟩
          · have hyes : okB k s[k] = true := by simp [okB, okI, hD]; omega
            have hsn := Qh s k hlt
            rw [hyes, Hr.out] at hsn
            have Hsn := zH hsn
            clear hsn hyes
            go_wp2_with (first | (go_at_call 127; refine (JE _ _ (by omega) (by omega)).mono ?_; rintro e w' ⟨rfl, rfl⟩) | (go_at_call 128; refine (vT _ _ (by omega) (by omega)).mono ?_; rintro e w' ⟨rfl, rfl⟩))
            go_round
            case rel => exact ⟨k + 1, by omega, by go_num, Hsn.out⟩
            case measure => simp [intOf]; omega
      · have hyes : okB k s[k] = true := by simp [okB, okI, hL]
        have hsn := Qh s k hlt
        rw [hyes, Hr.out] at hsn
        have Hsn := zH hsn
        clear hsn hyes
        go_wp2_with (go_at_call 127; refine (JE _ _ (by omega) (by omega)).mono ?_; rintro e w' ⟨rfl, rfl⟩)
        go_round
        case rel => exact ⟨k + 1, by omega, by go_num, Hsn.out⟩
        case measure => simp [intOf]; omega
    · go_wp2
      go_ret
      have hl : s.data.toList.length = s.size := by simp
      have hr := Hr.out
      rw [List.take_of_length_le (by omega)] at hr
      exact ⟨ze (Ke s hc1 hc2 hr).symm, rfl⟩
 · have hno := Xh s hc
   have Hno := zH hno
   clear hno
   rcases (by omega : s.size < 1 ∨ (1 ≤ s.size ∧ 24 < s.size)) with h | h
   · clear hc
     go_enter Tryz.func76, Tryz.ntmps76
     go_wp2
     go_ret
     exact ⟨ze Hno.out.symm, rfl⟩
   · clear hc
     obtain ⟨h1, h2⟩ := h
     go_enter Tryz.func76, Tryz.ntmps76
     go_wp2
     go_ret
     exact ⟨ze Hno.out.symm, rfl⟩
theorem Zq9 {k : Nat} {x : Int} (h : ((65 ≤ x ∧ x ≤ 90) ∨ (97 ≤ x ∧ x ≤ 122) ∨ x = 95) ∨ (0 < k ∧ 48 ≤ x ∧ x ≤ 57)) : okI k x = true := by
 unfold okI isLet U1
 rcases h with h | ⟨h1, h2⟩
 · simp [h]
 · have : k ≠ 0 := by omega
   simp [h2, this]
theorem Zr0 {k : Nat} {x : Int} (h : ¬ (((65 ≤ x ∧ x ≤ 90) ∨ (97 ≤ x ∧ x ≤ 122) ∨ x = 95) ∨ (0 < k ∧ 48 ≤ x ∧ x ≤ 57))) : okI k x = false := by
 cases e : okI k x
 · rfl
 · exfalso
   apply h
   unfold okI isLet U1 at e
   simp at e
   omega
set_option maxHeartbeats 2000000 in
theorem Qn (s : ByteArray) (w : World) (hs : s.size ≤ maxLen) :
 Calls Tryz.prog 93 #[.string s] w fun e w' => e = .returned (.bool (zF s.data.toList)) ∧ w = w' := by
 unfold maxLen at hs
 by_cases hc : 1 ≤ s.size ∧ s.size ≤ 24
 · obtain ⟨hc1, hc2⟩ := hc
   go_enter Tryz.func93, Tryz.ntmps93
   go_wp2
   go_loop [3, 4, 5, 6] (fun i _ _ _ => ∃ k : Nat, k ≤ s.size ∧ i = .int .i64 k ∧ ji 0 (s.data.toList.take k) = true) (fun i _ _ _ => s.size - (intOf i).toNat)
   case atStart => exact ⟨0, Nat.zero_le _, rfl, rfl⟩
   case round =>
    obtain ⟨k, hk, rfl, hr⟩ := hrel
    have Hr := zH hr
    clear hr
    by_cases hlt : k < s.size
    · have c0 : (0 : Int) ≤ (s[k].toNat : Int) := by omega
      have c1 : (s[k].toNat : Int) ≤ 255 := by have := s[k].toNat_lt; omega
      by_cases hok : ((65 ≤ (s[k].toNat : Int) ∧ (s[k].toNat : Int) ≤ 90) ∨ (97 ≤ (s[k].toNat : Int) ∧ (s[k].toNat : Int) ≤ 122) ∨ (s[k].toNat : Int) = 95) ∨ (0 < k ∧ 48 ≤ (s[k].toNat : Int) ∧ (s[k].toNat : Int) ≤ 57)
      · have hyes : okB k s[k] = true := Zq9 hok
        have hsn := Qh s k hlt
        rw [hyes, Hr.out] at hsn
        have Hsn := zH hsn
        clear hsn hyes
        rcases hok with (⟨ha, hb⟩ | ⟨ha, hb⟩ | hx) | ⟨hz, ha, hb⟩
        all_goals
         first | (have Hx := zH hx; have ha : 95 ≤ (s[k].toNat : Int) := by omega; have hb : (s[k].toNat : Int) ≤ 95 := by omega; clear hx) | skip
         first | (have hk0 : ((k : Int) == 0) = false := by (simp; omega)) | skip
         first | (have h95 : ((s[k].toNat : Int) == 95) = false := by (simp; omega)) | skip
         go_wp2
         go_round
         case rel => exact ⟨k + 1, by omega, by go_num, Hsn.out⟩
         case measure => simp [intOf]; omega
      · have hno : okB k s[k] = false := Zr0 hok
        have Hno := zH hno
        clear hno
        rcases (by omega : (s[k].toNat : Int) < 48 ∨ ((k : Nat) = 0 ∧ 48 ≤ (s[k].toNat : Int) ∧ (s[k].toNat : Int) ≤ 57) ∨ (58 ≤ (s[k].toNat : Int) ∧ (s[k].toNat : Int) ≤ 64) ∨ (91 ≤ (s[k].toNat : Int) ∧ (s[k].toNat : Int) ≤ 94) ∨ (96 ≤ (s[k].toNat : Int) ∧ (s[k].toNat : Int) ≤ 96) ∨ 123 ≤ (s[k].toNat : Int)) with h | ⟨h, h', h''⟩ | ⟨h, h'⟩ | ⟨h, h'⟩ | ⟨h, h'⟩ | h
        all_goals
         have h95 : ((s[k].toNat : Int) == 95) = false := by simp; omega
         first | (have d90 : decide ((s[k].toNat : Int) ≤ 90) = false := by (simp; omega)) | (have d90 : decide ((s[k].toNat : Int) ≤ 90) = true := by (simp; omega))
         first | (have d122 : decide ((s[k].toNat : Int) ≤ 122) = false := by (simp; omega)) | (have d122 : decide ((s[k].toNat : Int) ≤ 122) = true := by (simp; omega))
         first | (have d57 : decide ((s[k].toNat : Int) ≤ 57) = false := by (simp; omega)) | (have d57 : decide ((s[k].toNat : Int) ≤ 57) = true := by (simp; omega))
         clear hok
         first | (subst h) | skip
         go_wp2
         go_ret
         exact ⟨ze (jL s _ hlt Hno.out).symm, rfl⟩
    · go_wp2
      go_ret
      have hl : s.data.toList.length = s.size := by simp
      have hr := Hr.out
      rw [List.take_of_length_le (by omega)] at hr
      exact ⟨ze (Ke s hc1 hc2 hr).symm, rfl⟩
 · have hno := Xh s hc
   have Hno := zH hno
   clear hno
   rcases (by omega : s.size < 1 ∨ (1 ≤ s.size ∧ 24 < s.size)) with h | h
   · clear hc
     go_enter Tryz.func93, Tryz.ntmps93
     go_wp2
     go_ret
     exact ⟨ze Hno.out.symm, rfl⟩
   · clear hc
     obtain ⟨h1, h2⟩ := h
     go_enter Tryz.func93, Tryz.ntmps93
     go_wp2
     go_ret
     exact ⟨ze Hno.out.symm, rfl⟩
end BinName
end Go.Proofs.YtehainbhoflpnaaGreatDoor
