/- pieces -/
import Derived.Test.YtmkdhdmkdcankaaGreatDoorK28
import Derived.Laws.BitsAllLaws
namespace Go.Proofs.YtmkdhdmkdcankaaGreatDoor
set_option maxRecDepth 100000
namespace HpB
open Go.RowKit Base BinM HpM HpA HpS
structure Fits (most : Nat) (ts : List Th) : Prop where
 top : most ≤ 4096
 len : (raw ts).length ≤ most
 ids : ∀ t ∈ ts, t.id < 65536
 fit : ∀ t ∈ ts, ∀ x ∈ t.W, zo x
theorem elem64 : (sizeOf (Tryz.prog.elem 27)).run Tryz.prog = fun W => .ok 1 W := by kernel_rfl
theorem cut64 (W : World) (A : Option Addr) (n cap : Nat) (lo hi : Int) (h0 : 0 ≤ lo) (h1 : lo ≤ hi) (h2 : hi ≤ cap) :
 (Instr.slice 27 (.slice A n cap) (some (.int .i64 lo)) (some (.int .i64 hi)) none).run Tryz.prog W = .ok (.slice (if cap = lo.toNat then A else A.map (·.add lo.toNat)) (hi.toNat - lo.toNat) (cap - lo.toNat)) W := by
 have hu : Tryz.prog.underlying 27 = some (.slice (Tryz.prog.elem 27)) := by kernel_rfl
 rw [run_slice_lh W 27 A n cap hu .i64 .i64 lo hi h0 h1 h2, elem64]
 simp [Result.andThen, sliced]
theorem yx (p : List Th) (t : Th) (r : List Th) : raw (p ++ t :: r) = raw p ++ ((t.id : Int) * 65536 + (t.W.length : Int)) :: t.W ++ raw r := by
 simp [raw, Th.row]
theorem Z7 (p : List Th) (t : Th) (r : List Th) : (raw (p ++ t :: r)).length = (raw p).length + 1 + t.W.length + (raw r).length := by
 rw [yx]; simp; omega
theorem Qz {w : World} {A : Option Addr} {c : Nat} {l : List Int} {base : Nat} (h : zT w base (.slice A l.length c) l) : Rds w A (l.map (Value.int .i64)) := Rds.own h
theorem qH {w : World} {A : Option Addr} {c : Nat} {l : List Int} {base n : Nat} (h : zT w base (.slice A n c) l) (h0 : 0 < l.length) : ∃ b, A = some ⟨b, 0, none⟩ ∧ b < w.heap.size := by
 obtain ⟨g, cap, e, _, hlt⟩ := World.ownsRow.form h h0
 injection e with e
 exact ⟨g, e, hlt⟩
theorem zg5 {w : World} {A : Option Addr} {c : Nat} {l : List Int} {base : Nat} (h : zT w base (.slice A l.length c) l) : l.length ≤ c ∧ c ≤ maxLen := by
 obtain ⟨A', c', e, h1, h2, _⟩ := zi h
 injection e with _ _ e
 subst e
 exact ⟨h1, h2⟩
theorem Zq {w : World} {b c n : Nat} {l : List Int} {base : Nat} (h : zT w base (.slice (some ⟨b, 0, none⟩) n c) l) {k : Nat} {x : Int} (hx : l[k]? = some x) : w.cell? ⟨b, k, none⟩ = some (.int .i64 x) := by
 have := World.ownsRow.cells h (g := b) rfl k (.int .i64 x) (by rw [List.getElem?_map, hx]; rfl)
 rw [Addr.add_mid] at this
 rwa [Nat.zero_add] at this
section
variable {w : World} {g mb : Nat} {Aw : Option Addr} {cw : Nat} {Aa : Option Addr} {ca most : Nat} {n : Nat} {f : Int → Option Int}
theorem Xf {ts : List Th} (H : HpX w g mb Aw cw Aa ca most (raw ts) (adr 0 ts) n f) (F : Fits most ts) (x : Int) (hx : x ∉ adr 0 ts) :
 Calls Tryz.prog 60 #[.pointer (some ⟨g, 0, none⟩), .int .i64 x] w fun e w' => e = .returned (.tuple #[.slice none 0 0, .int .i64 3]) ∧ ∃ q, w' = w.drewN q := by
 have HS := zH (uz Aa (adr 0 ts).length ca (adr 0 ts) x w rfl (by have := qJ ts 0; have := F.len; have := F.top; omega) (Qz H.adr) (Um ts 0))
 rw [decide_eq_false hx] at HS
 have c2 := H.box.cell 2
 clear H hx
 go_enter Tryz.func60, Tryz.ntmps60
 go_wp2_with (go_at_call 92; refine HS.out.mono ?_; rintro e w' ⟨⟨i, rfl⟩, q, rfl⟩)
 go_ret2
 exact ⟨rfl, q, rfl⟩
set_option maxHeartbeats 4000000 in
theorem jw {p : List Th} {t : Th} {r : List Th} (H : HpX w g mb Aw cw Aa ca most (raw (p ++ t :: r)) (adr 0 (p ++ t :: r)) n f) (F : Fits most (p ++ t :: r)) :
 Calls Tryz.prog 60 #[.pointer (some ⟨g, 0, none⟩), .int .i64 (((raw p).length + 1 : Nat) : Int)] w fun e w' => (∃ B c, e = .returned (.tuple #[.slice B t.W.length c, .int .i64 0]) ∧ t.W.length ≤ c ∧ c ≤ maxLen ∧
  (0 < t.W.length → ∃ b, Aw = some ⟨b, 0, none⟩ ∧ B = some ⟨b, (raw p).length + 1, none⟩)) ∧ ∃ q, w' = w.drewN q := by
 have hl := Z7 p t r
 have hlen := F.len
 have htop := F.top
 have HS := zH (uz Aa (adr 0 (p ++ t :: r)).length ca (adr 0 (p ++ t :: r)) (((raw p).length + 1 : Nat) : Int) w rfl (by have := qJ (p ++ t :: r) 0; omega) (Qz H.adr) (Um (p ++ t :: r) 0))
 have hmem := adr_mem p t r 0
 rw [Nat.zero_add] at hmem
 rw [decide_eq_true hmem] at HS
 obtain ⟨b, rfl, hb⟩ := qH H.row (by omega)
 obtain ⟨hcap, hmax⟩ := zg5 H.row
 have hhead : (raw (p ++ t :: r))[(raw p).length]? = some (((t.id * 65536 + t.W.length : Nat)) : Int) := by
  rw [yx]
  simp
 have c0 := Zq H.row hhead
 have c1 := H.box.cell 1
 have c2 := H.box.cell 2
 have hid := F.ids t (by simp)
 have hmod : (((t.id * 65536 + t.W.length : Nat) : Int)) % 65536 = (t.W.length : Int) := by omega
 have hbnd : (t.id * 65536 + t.W.length) ≤ 5000000000 := by omega
 clear H F hmem hhead
 generalize (raw p).length = P at *
 generalize (raw r).length = R at *
 generalize (raw (p ++ t :: r)).length = L at *
 generalize (t.id * 65536 + t.W.length) = hd at *
 generalize t.W.length = wl at *
 have hcut := fun (W : World) => cut64 W (some ⟨b, 0, none⟩) L cw ((P : Int) + 1) ((P : Int) + 1 + (wl : Int)) (by omega) (by omega) (by omega)
 have hPL : (P : Int) < (L : Int) := by omega
 by_cases hcc : cw = P + 1
 · have hw0 : wl = 0 := by omega
   subst hw0
   go_enter Tryz.func60, Tryz.ntmps60
   go_wp2_with (go_at_call 92; refine HS.out.mono ?_; rintro e w' ⟨⟨i, rfl⟩, q, rfl⟩)
   go_region
   go_wp2_with fail
   go_ret2
   exact ⟨⟨_, 0, rfl, by omega, by omega, fun h => by omega⟩, _, rfl⟩
 · go_enter Tryz.func60, Tryz.ntmps60
   go_wp2_with (go_at_call 92; refine HS.out.mono ?_; rintro e w' ⟨⟨i, rfl⟩, q, rfl⟩)
   go_region
   go_wp2_with fail
   go_ret2
   exact ⟨⟨_, cw - (P + 1), by rw [show P + 1 + wl - (P + 1) = wl by omega]; rfl, by omega, by omega, fun h => ⟨b, rfl, rfl⟩⟩, _, rfl⟩
end
end HpB
namespace ClM
open Go.RowKit Base BinM HpM HpA HpB
def Zh (t : Th) : Option (List Nat) :=
 if t.id = 0 then (if t.W.length = 3 then some [1, 2] else none)
 else if t.id = 1 then (if t.W.length = 0 then some [] else none)
 else if t.id = 2 then some (List.range' 1 (t.W.length - 1))
 else if t.id = 3 ∨ t.id = 4 then some [] else none
theorem Qj {t : Th} {ps : List Nat} (h : Zh t = some ps) : ∀ p ∈ ps, p < t.W.length := by
 unfold Zh at h
 intro p hp
 split at h
 · split at h
   · injection h with h; subst h; simp at hp; omega
   · cases h
 · split at h
   · split at h
     · injection h with h; subst h; simp at hp
     · cases h
   · split at h
     · injection h with h; subst h; rw [List.mem_range'_1] at hp; omega
     · split at h
       · injection h with h; subst h; simp at hp
       · cases h
theorem QX {t : Th} {ps : List Nat} (h : Zh t = some ps) : ps.length ≤ t.W.length := by
 unfold Zh at h
 split at h
 · split at h
   · injection h with h; subst h; simp; omega
   · cases h
 · split at h
   · split at h
     · injection h with h; subst h; simp
     · cases h
   · split at h
     · injection h with h; subst h; simp
     · split at h
       · injection h with h; subst h; simp
       · cases h
def zB (t : Th) (ps : List Nat) : List Int := ps.map (fun p => t.W.getD p 0)
def come (A : List Int) : List Int → List Int → Option (List Int)
 | out, [] => some out
 | out, x :: xs => if x = 0 ∨ x ∈ out then come A out xs else if x ∈ A then come A (out ++ [x]) xs else none
structure Good (A out : List Int) : Prop where
 sub : ∀ x ∈ out, x ∈ A
 nodup : out.Nodup
theorem Good.nil (A : List Int) : Good A [] := ⟨by simp, by simp⟩
theorem Good.push {A out : List Int} (h : Good A out) {x : Int} (hx : x ∈ A) (hn : x ∉ out) : Good A (out ++ [x]) := by
 refine ⟨fun y hy => ?_, ?_⟩
 · rcases List.mem_append.1 hy with h1 | h1
   · exact h.sub y h1
   · rw [List.mem_singleton] at h1; subst h1; exact hx
 · rw [List.nodup_append]
   refine ⟨h.nodup, by simp, ?_⟩
   intro a ha b hb e
   rw [List.mem_singleton] at hb
   subst hb; subst e
   exact hn ha
theorem Good.len {A out : List Int} (h : Good A out) : out.length ≤ A.length := by
 have := h.nodup.length_le_of_subset (fun x hx => h.sub x hx)
 exact this
theorem qN {A : List Int} : ∀ {xs out out' : List Int}, Good A out → come A out xs = some out' → Good A out' ∧ out <+: out'
 | [], out, out', h, e => by
   simp only [come, Option.some.injEq] at e
   subst e
   exact ⟨h, List.prefix_refl _⟩
 | x :: xs, out, out', h, e => by
   rw [come] at e
   split at e
   · exact qN h e
   · rename_i hc
     split at e
     · rename_i hx
       obtain ⟨g1, g2⟩ := qN (h.push hx (fun hm => hc (.inr hm))) e
       exact ⟨g1, (List.prefix_append _ _).trans g2⟩
     · cases e
theorem qb {A : List Int} : ∀ (xs ys out : List Int), come A out (xs ++ ys) = (come A out xs).bind (fun o => come A o ys)
 | [], ys, out => rfl
 | x :: xs, ys, out => by
   rw [List.cons_append, come, come]
   split
   · exact qb xs ys out
   · split
     · exact qb xs ys _
     · rfl
def Zp (ts : List Th) (x : Int) : Option Th := ((ts.zip (adr 0 ts)).find? (fun p => p.2 == x)).map (·.1)
def zP (ts : List Th) : Nat → Nat → List Int → Int × List Int
 | 0, _, out => (0, out)
 | k + 1, i, out =>
   match out[i]? with
   | none => (0, out)
   | some x =>
     match Zp ts x with
     | none => (3, [])
     | some t =>
       match Zh t with
       | none => (5, [])
       | some ps =>
         match come (adr 0 ts) out (zB t ps) with
         | none => (3, [])
         | some o => zP ts k (i + 1) o
def zn (ts : List Th) (roots : List Int) : Int × List Int :=
 match come (adr 0 ts) [] roots with
 | none => (3, [])
 | some o => zP ts (ts.length + 1) 0 o
theorem qd (ts : List Th) : ∀ k, (adr k ts).length = ts.length := by
 induction ts with
 | nil => intro k; rfl
 | cons t r ih => intro k; simp [adr, ih]
theorem kU : ∀ (p : List Th) (t : Th) (r : List Th) (k : Nat), (((p ++ t :: r).zip (adr k (p ++ t :: r))).find? (fun q => q.2 == ((k + (raw p).length + 1 : Nat) : Int))).map (·.1) = some t
 | [], t, r, k => by
   have : (((k + (raw []).length + 1 : Nat) : Int)) = ((k + 1 : Nat) : Int) := by simp [raw]
   rw [this]
   simp [adr]
 | u :: p, t, r, k => by
   have hl : (raw (u :: p)).length = 1 + u.W.length + (raw p).length := by simp [raw, Zd]
   have ih := kU p t r (k + (1 + u.W.length))
   simp only [List.cons_append, adr, List.zip_cons_cons]
   rw [List.find?_cons]
   have hne : (((k + 1 : Nat) : Int) == ((k + (raw (u :: p)).length + 1 : Nat) : Int)) = false := by
    rw [beq_eq_false_iff_ne, hl]; omega
   simp only [hne]
   rw [show k + (raw (u :: p)).length + 1 = k + (1 + u.W.length) + (raw p).length + 1 by rw [hl]; omega]
   exact ih
theorem Zl (p : List Th) (t : Th) (r : List Th) : Zp (p ++ t :: r) (((raw p).length + 1 : Nat) : Int) = some t := by
 have := kU p t r 0
 rw [Nat.zero_add] at this
 exact this
end ClM
namespace HpG
open Go.RowKit Base BinM HpM HpA HpS HpB
section
variable {w : World} {g mb : Nat} {Aw : Option Addr} {cw : Nat} {Aa : Option Addr} {ca most : Nat} {n : Nat} {f : Int → Option Int}
theorem word {p : List Th} {t : Th} {r : List Th} {al : List Int} (H : HpX w g mb Aw cw Aa ca most (raw (p ++ t :: r)) al n f) {b : Nat} (e : Aw = some ⟨b, 0, none⟩) {i : Nat} {x : Int} (hx : t.W[i]? = some x) : w.cell? ⟨b, (raw p).length + 1 + i, none⟩ = some (.int .i64 x) := by
 subst e
 refine Zq H.row ?_
 rw [yx]
 have h0 : i < t.W.length := (List.getElem?_eq_some_iff.1 hx).1
 rw [List.append_assoc, List.getElem?_append_right (by omega), List.cons_append, show (raw p).length + 1 + i - (raw p).length = i + 1 by omega, List.getElem?_cons_succ, List.getElem?_append_left h0]
 exact hx
theorem YD {p : List Th} {t : Th} {r : List Th} (H : HpX w g mb Aw cw Aa ca most (raw (p ++ t :: r)) (adr 0 (p ++ t :: r)) n f) (F : Fits most (p ++ t :: r)) :
 Calls Tryz.prog 28 #[.pointer (some ⟨g, 0, none⟩), .int .i64 (((raw p).length + 1 : Nat) : Int)] w fun e w' => e = .returned (.tuple #[.int .i64 (t.W.length : Int), .int .i64 0]) ∧ ∃ q, w' = w.drewN q := by
 have HB := zH (jw H F)
 have hl := Z7 p t r
 have hb := F.len
 have ht := F.top
 have hwl : t.W.length ≤ 4096 := by omega
 clear H F hl hb ht
 generalize (raw p).length = P at *
 generalize t.W.length = W at *
 go_enter Tryz.func28, Tryz.ntmps28
 go_wp2_with (go_at_call 60; refine HB.out.mono ?_; rintro e w' ⟨⟨B, c, rfl, _⟩, q, rfl⟩)
 go_ret2
 exact ⟨rfl, q, rfl⟩
theorem ze8 {ts : List Th} (H : HpX w g mb Aw cw Aa ca most (raw ts) (adr 0 ts) n f) (F : Fits most ts) (x : Int) (hx : x ∉ adr 0 ts) :
 Calls Tryz.prog 27 #[.pointer (some ⟨g, 0, none⟩), .int .i64 x] w fun e w' => e = .returned (.tuple #[.int .i64 0, .int .i64 3]) ∧ ∃ q, w' = w.drewN q := by
 have HB := zH (Xf H F x hx)
 clear H F hx
 go_enter Tryz.func27, Tryz.ntmps27
 go_wp2_with (go_at_call 60; refine HB.out.mono ?_; rintro e w' ⟨rfl, q, rfl⟩)
 go_ret2
 exact ⟨rfl, q, rfl⟩
theorem uf {p : List Th} {t : Th} {r : List Th} (H : HpX w g mb Aw cw Aa ca most (raw (p ++ t :: r)) (adr 0 (p ++ t :: r)) n f) (F : Fits most (p ++ t :: r)) :
 Calls Tryz.prog 27 #[.pointer (some ⟨g, 0, none⟩), .int .i64 (((raw p).length + 1 : Nat) : Int)] w fun e w' => e = .returned (.tuple #[.int .i64 (t.id : Int), .int .i64 0]) ∧ ∃ q, w' = w.drewN q := by
 have HB := zH (jw H F)
 have hl := Z7 p t r
 have hlen := F.len
 have htop := F.top
 obtain ⟨b, rfl, hb⟩ := qH H.row (by omega)
 have hhead : (raw (p ++ t :: r))[(raw p).length]? = some (((t.id * 65536 + t.W.length : Nat)) : Int) := by
  rw [yx]
  simp
 have c0 := Zq H.row hhead
 have c1 := H.box.cell 1
 have hid := F.ids t (by simp)
 have hdiv : (((t.id * 65536 + t.W.length : Nat) : Int)) / 65536 = (t.id : Int) := by omega
 have hbnd : (t.id * 65536 + t.W.length) ≤ 5000000000 := by omega
 clear H F hhead
 generalize (raw p).length = P at *
 generalize (raw r).length = R at *
 generalize (raw (p ++ t :: r)).length = L at *
 generalize (t.id * 65536 + t.W.length) = hd at *
 generalize t.W.length = wl at *
 have hPL : (P : Int) < (L : Int) := by omega
 go_enter Tryz.func27, Tryz.ntmps27
 go_wp2_with (go_at_call 60; refine HB.out.mono ?_; rintro e w' ⟨⟨B, c, rfl, _⟩, q, rfl⟩)
 go_ret2
 exact ⟨by rw [← hdiv]; rfl, q, rfl⟩
def qD (W : List Int) (i : Int) : Int × Int := if 0 ≤ i ∧ i < (W.length : Int) then (W.getD i.toNat 0, 0) else (0, 3)
theorem zi6 {p : List Th} {t : Th} {r : List Th} (H : HpX w g mb Aw cw Aa ca most (raw (p ++ t :: r)) (adr 0 (p ++ t :: r)) n f) (F : Fits most (p ++ t :: r)) (i : Int) :
 Calls Tryz.prog 29 #[.pointer (some ⟨g, 0, none⟩), .int .i64 (((raw p).length + 1 : Nat) : Int), .int .i64 i] w fun e w' => e = .returned (.tuple #[.int .i64 (qD t.W i).1, .int .i64 (qD t.W i).2]) ∧ ∃ q, w' = w.drewN q := by
 have HB := zH (jw H F)
 have HC : Hid (∀ (b k : Nat) (x : Int), Aw = some ⟨b, 0, none⟩ → t.W[k]? = some x → w.cell? ⟨b, (raw p).length + 1 + k, none⟩ = some (.int .i64 x)) := zH (fun b k x e hx => word H e hx)
 have hl := Z7 p t r
 have hb := F.len
 have ht := F.top
 have hwl : t.W.length ≤ 4096 := by omega
 clear H F hl hb ht
 generalize (raw p).length = P at *
 generalize t.W = W at *
 by_cases h0 : i < 0
 · have hE := zH (show qD W i = (0, 3) by unfold qD; rw [if_neg (by omega)])
   go_enter Tryz.func29, Tryz.ntmps29
   go_wp2_with (go_at_call 60; refine HB.out.mono ?_; rintro e w' ⟨⟨B, c, rfl, _⟩, q, rfl⟩)
   go_ret2
   exact ⟨by rw [hE.out]; rfl, q, rfl⟩
 · by_cases h1 : (W.length : Int) ≤ i
   · have hE := zH (show qD W i = (0, 3) by unfold qD; rw [if_neg (by omega)])
     go_enter Tryz.func29, Tryz.ntmps29
     go_wp2_with (go_at_call 60; refine HB.out.mono ?_; rintro e w' ⟨⟨B, c, rfl, _⟩, q, rfl⟩)
     go_ret2
     exact ⟨by rw [hE.out]; rfl, q, rfl⟩
   · obtain ⟨k, rfl⟩ : ∃ k : Nat, i = (k : Int) := ⟨i.toNat, by omega⟩
     have hk : k < W.length := by omega
     have hE := zH (show qD W (k : Int) = (W[k], 0) by
      unfold qD
      rw [if_pos (by omega), Int.toNat_natCast, List.getD_eq_getElem?_getD, List.getElem?_eq_getElem hk]; rfl)
     have HC1 := zH (fun b e => HC.out b k _ e (List.getElem?_eq_getElem hk))
     generalize W[k] = x at *
     generalize W.length = wl at *
     go_enter Tryz.func29, Tryz.ntmps29
     go_wp2_with (go_at_call 60; refine HB.out.mono ?_; rintro e w' ⟨⟨B, c, rfl, _, _, hB⟩, q, rfl⟩; obtain ⟨b, hb, rfl⟩ := hB (by omega); have hc := HC1.out b hb; clear hB)
     go_ret2
     exact ⟨by rw [hE.out]; rfl, q, rfl⟩
theorem used_any {ws al : List Int} (H : HpX w g mb Aw cw Aa ca most ws al n f) :
 Calls Tryz.prog 51 #[.pointer (some ⟨g, 0, none⟩)] w fun e w' => e = .returned (.int .i64 (ws.length : Int)) ∧ w = w' := by
 have c1 := H.box.cell 1
 clear H
 go_enter Tryz.func51, Tryz.ntmps51
 go_wp2
 go_ret
 exact ⟨rfl, rfl⟩
theorem raw_any {ws al : List Int} (H : HpX w g mb Aw cw Aa ca most ws al n f) (hb : ws.length ≤ 4096) :
 Calls Tryz.prog 20 #[.pointer (some ⟨g, 0, none⟩)] w fun e w' => ∃ v, e = .returned v ∧ zT w' w.heap.size v ws ∧ Below w.heap.size w w' := by
 have c1 := H.box.cell 1
 have HC := zH (Vf Aw ws.length cw ws w rfl (by omega) (Qz H.row))
 clear H
 go_enter Tryz.func20, Tryz.ntmps20
 go_wp2_with (go_at_call 52; refine HC.out.mono ?_; rintro e w' ⟨v, rfl, ho, hbl⟩)
 go_ret
 exact ⟨v, rfl, ho, hbl⟩
end
end HpG
namespace HpP
open Go.RowKit Base BinM HpM HpA
def leN : List UInt8 → Nat
 | [] => 0
 | c :: t => c.toNat + 256 * leN t
theorem leN_lt (l : List UInt8) : leN l < 256 ^ l.length := by
 induction l with
 | nil => simp [leN]
 | cons c t ih =>
   have hc := c.toNat_lt
   simp only [leN, List.length_cons, Nat.pow_succ]
   omega
theorem leN_snoc (l : List UInt8) (c : UInt8) : leN (l ++ [c]) = leN l + c.toNat * 256 ^ l.length := by
 induction l with
 | nil => simp [leN]
 | cons d t ih =>
   simp only [List.cons_append, leN, ih, List.length_cons, Nat.pow_succ]
   rw [Nat.mul_add, Nat.add_assoc]
   congr 2
   rw [Nat.mul_left_comm, Nat.mul_comm 256]
def sg (n : Nat) : Int := IntKind.i64.wrap (n : Int)
theorem Ku (n : Nat) (h : n < 18446744073709551616) : (BitVec.ofInt 64 (sg n)).toNat = n := by
 unfold sg
 rw [IntKind.wrap_i64, BitVec.toNat_ofInt]
 omega
theorem fit_sg (n : Nat) : zo (sg n) := by
 unfold sg zo
 rw [IntKind.wrap_i64]
 omega
theorem sg_or (N c k : Nat) (hk : k < 8) (hN : N < 256 ^ k) (hc : c < 256) : bits .or .i64 (sg N) (sg (c * 256 ^ k)) = sg (N + c * 256 ^ k) := by
 have e : (256 : Nat) ^ k = 2 ^ (8 * k) := by rw [show (256 : Nat) = 2 ^ 8 by decide, ← Nat.pow_mul]
 have h7 : (256 : Nat) ^ k ≤ 256 ^ 7 := Nat.pow_le_pow_right (by omega) (by omega)
 have e7 : (256 : Nat) ^ 7 = 72057594037927936 := by decide
 have hm : c * 256 ^ k ≤ 255 * 256 ^ k := Nat.mul_le_mul_right _ (by omega)
 show IntKind.i64.wrap ((BitVec.ofInt 64 (sg N) ||| BitVec.ofInt 64 (sg (c * 256 ^ k))).toNat : Int) = _
 rw [BitVec.toNat_or, Ku N (by omega), Ku _ (by omega), Nat.or_comm, nat_join (8 * k) (c * 256 ^ k) N (by rw [e]; exact Nat.mul_mod_left _ _) (by rw [← e]; exact hN), Nat.add_comm]
 rfl
def qz (K : Nat) (s : List UInt8) : List Int := (List.range K).map fun i => sg (leN ((s.drop (8 * i)).take 8))
theorem qM (K : Nat) (s : List UInt8) : (qz K s).length = K := by simp [qz]
theorem xJ (K : Nat) (s : List UInt8) (i : Nat) (h : i < K) : (qz K s)[i]? = some (sg (leN ((s.drop (8 * i)).take 8))) := by simp [qz, h]
theorem packK_nil (K : Nat) : qz K [] = List.replicate K 0 := by
 unfold qz
 apply List.ext_getElem?
 intro j
 by_cases h : j < K
 · simp [h, leN, sg, IntKind.wrap_i64]
 · simp [h]
theorem packK_fit (K : Nat) (s : List UInt8) : ∀ x ∈ qz K s, zo x := by
 intro x hx
 unfold qz at hx
 obtain ⟨i, _, rfl⟩ := List.mem_map.1 hx
 exact fit_sg _
theorem vG (K : Nat) (s : List UInt8) (j : Nat) (hj : j < s.length) (hK : j / 8 < K) :
 ∃ old, (qz K (s.take j))[j / 8]? = some old ∧ qz K (s.take (j + 1)) = (qz K (s.take j)).set (j / 8) (bits .or .i64 old (sg (s[j].toNat * 256 ^ (j % 8)))) := by
 refine ⟨_, xJ K _ _ hK, ?_⟩
 have hc := s[j].toNat_lt
 have hch : ((s.take j).drop (8 * (j / 8))).take 8 = (s.take j).drop (8 * (j / 8)) := List.take_of_length_le (by simp; omega)
 have hlen : ((s.take j).drop (8 * (j / 8))).length = j % 8 := by simp; omega
 have hnew : ((s.take (j + 1)).drop (8 * (j / 8))).take 8 = (s.take j).drop (8 * (j / 8)) ++ [s[j]] := by
  rw [List.take_succ_eq_append_getElem hj, List.drop_append_of_le_length (by simp; omega), List.take_of_length_le (by simp; omega)]
 rw [hch]
 have hlt := leN_lt ((s.take j).drop (8 * (j / 8)))
 rw [hlen] at hlt
 rw [sg_or _ _ _ (by omega) hlt hc]
 apply List.ext_getElem?
 intro i
 by_cases hi : i < K
 · rw [List.getElem?_set, qM, xJ K _ i hi]
   by_cases he : j / 8 = i
   · subst he
     rw [if_pos rfl, if_pos hi, hnew, leN_snoc, hlen]
   · rw [if_neg he, xJ K _ i hi]
     congr 3
     by_cases hlo : i < j / 8
     · rw [List.take_succ_eq_append_getElem hj, List.drop_append_of_le_length (by simp; omega), List.take_append_of_le_length (by simp; omega)]
     · rw [List.drop_of_length_le (by simp; omega), List.drop_of_length_le (by simp; omega)]
 · rw [List.getElem?_eq_none (by rw [qM]; omega), List.getElem?_eq_none (by rw [List.length_set, qM]; omega)]
def pack (s : List UInt8) : List Int := qz ((s.length + 7) / 8) s
theorem JK (s : List UInt8) : (pack s).length = (s.length + 7) / 8 := qM _ _
end HpP
end Go.Proofs.YtmkdhdmkdcankaaGreatDoor
