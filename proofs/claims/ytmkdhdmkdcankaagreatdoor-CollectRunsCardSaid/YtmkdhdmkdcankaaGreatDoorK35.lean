/- pieces -/
import Derived.Test.YtmkdhdmkdcankaaGreatDoorK34
namespace Go.Proofs.YtmkdhdmkdcankaaGreatDoor
set_option maxRecDepth 100000
set_option maxHeartbeats 8000000
namespace ClL
open Go.RowKit Base BinM HpM HpA HpB HpG HpT ClM LnkC ClA ClB ClC
def jB (ts : List Th) (out : List Int) : Nat := (out.map (fun x => 1 + ((Zp ts x).map (fun t => t.W.length)).getD 0)).sum
def uZ (ts : List Th) (roots : List Int) : Int × Int := if (zn ts roots).1 = 0 then (((jB ts (zn ts roots).2 : Nat) : Int), 0) else (0, (zn ts roots).1)
theorem Xr {ts : List Th} : ∀ (k i : Nat) (out o : List Int), ClM.Good (adr 0 ts) out → zP ts k i out = (0, o) → ClM.Good (adr 0 ts) o
 | 0, i, out, o, h, e => by
   rw [zP] at e
   injection e with _ e
   subst e
   exact h
 | k + 1, i, out, o, h, e => by
   rw [zP] at e
   split at e
   · injection e with _ e
     subst e
     exact h
   · split at e
     · injection e with e _; cases e
     · split at e
       · injection e with e _; cases e
       · split at e
         · injection e with e _; cases e
         · rename_i o2 hc
           exact Xr k (i + 1) o2 o (qN h hc).1 e
theorem Zu {ts : List Th} {roots o : List Int} (h : zn ts roots = (0, o)) : ClM.Good (adr 0 ts) o := by
 unfold zn at h
 split at h
 · injection h with h _; cases h
 · rename_i o2 hc
   exact Xr _ _ _ _ (qN (ClM.Good.nil _) hc).1 h
theorem vw {ts : List Th} {out : List Int} {k : Nat} (hk : k < out.length) {t : Th} (ht : Zp ts out[k] = some t) : jB ts (out.take (k + 1)) = jB ts (out.take k) + (1 + t.W.length) := by
 unfold jB
 rw [List.take_succ_eq_append_getElem hk, List.map_append, List.sum_append]
 simp [ht]
theorem uh {ts : List Th} {x : Int} {t : Th} (h : Zp ts x = some t) : t ∈ ts := by
 unfold Zp at h
 rw [Option.map_eq_some_iff] at h
 obtain ⟨p, h1, rfl⟩ := h
 exact (List.of_mem_zip (List.mem_of_find?_eq_some h1)).1
theorem Vu {ts : List Th} (hw : ∀ t ∈ ts, t.W.length ≤ 4096) : ∀ out : List Int, jB ts out ≤ out.length * 4097
 | [] => by simp [jB]
 | x :: r => by
   have := Vu hw r
   unfold jB at this ⊢
   rw [List.map_cons, List.sum_cons, List.length_cons]
   have h1 : 1 + ((Zp ts x).map (fun t => t.W.length)).getD 0 ≤ 4097 := by
    cases ht : Zp ts x with
    | none => simp
    | some t =>
      have := hw t (uh ht)
      simp; omega
   omega
section
open HierS HierT LnkS Kls TabP TabB
variable {lo : Nat} {w : World} {p y t g mb n : Nat} {A : Option Addr} {c : Nat} {h : Hr} {L : List za} {f : T → Option zO} {ns : List T}
 {hg mp : Nat} {Aw : Option Addr} {cw : Nat} {Aa : Option Addr} {ca most : Nat} {kk : Nat} {F : Int → Option Int}
theorem live_any {ts : List Th} (P : Pg lo w p y t g mb n A c h L f ns) (hsp : ∀ i : Nat, ZF h L (LnkA.zG ns (i : Int)) = shp i) (H : HpX w hg mp Aw cw Aa ca most (raw ts) (adr 0 ts) kk F) (Ft : Fits most ts) (hts : ts.length ≤ 5000)
 {Ar : Option Addr} {cr : Nat} {roots : List Int} (R : Rds w Ar (roots.map (Value.int .i64))) (hrl : roots.length ≤ 100000) (hfr : ∀ x ∈ roots, zo x) :
 Calls Tryz.prog 13 #[.pointer (some ⟨hg, 0, none⟩), .pointer (some ⟨p, 0, none⟩), .slice Ar roots.length cr] w fun e w' => e = .returned (.tuple #[.int .i64 (uZ ts roots).1, .int .i64 (uZ ts roots).2]) ∧ Below w.heap.size w w' := by
 have HRe := zH (xH (cr := cr) P hsp H Ft hts R hrl hfr)
 have HH := zH (fun wr (hb : Below w.heap.size w wr) => H.beside hb)
 have HF := zH Ft
 have HA := zH (qd ts 0)
 have hgd := @Zu ts roots
 have hwm : ∀ t ∈ ts, t.W.length ≤ 4096 := by
  intro t ht
  obtain ⟨pp, rr, rfl⟩ := List.append_of_mem ht
  have h1 := Z7 pp t rr
  have h2 := Ft.len
  have h3 := Ft.top
  omega
 have HW := zH hwm
 have hE : uZ ts roots = if (zn ts roots).1 = 0 then (((jB ts (zn ts roots).2 : Nat) : Int), 0) else (0, (zn ts roots).1) := rfl
 generalize uZ ts roots = res at *
 generalize zn ts roots = re at *
 obtain ⟨e0, out⟩ := re
 by_cases h0 : e0 = 0
 · subst h0
   rw [if_pos rfl] at hE
   simp only at hE
   have HG := zH (hgd rfl)
   have hol := HG.out.len
   rw [HA.out] at hol
   subst hE
   clear P H Ft R hfr hsp hgd hwm
   go_enter Tryz.func13, Tryz.ntmps13
   go_wp2_with (go_at_call 10; refine HRe.out.mono ?_; rintro e w1 ⟨A1, c1, rfl, hr1, hb1, ha1⟩; have HR1 := zH hr1; have HB1 := zH hb1; clear hr1 hb1 ha1)
   go_loopw [10, 27] (fun s i wr => ∃ k : Nat, k ≤ out.length ∧ i = .int .i64 (k : Int) ∧ s = .int .i64 ((jB ts (out.take k) : Nat) : Int) ∧ Below w.heap.size w wr ∧ Rds wr A1 (out.map (Value.int .i64))) (fun _ i _ => out.length - (intOf i).toNat)
   case atStart => exact ⟨0, Nat.zero_le _, rfl, rfl, HB1.out, HR1.out⟩
   case round =>
    obtain ⟨k, hk, rfl, rfl, hbel, hrd⟩ := hrel
    by_cases hlt : k < out.length
    · obtain ⟨b, oo, rfl, hb1, hc0⟩ := hrd.at_ (k := k) (by simpa using hlt)
      rw [List.getElem_map] at hc0
      obtain ⟨pp, th, rr, hts2, hx⟩ := Za (HG.out.sub _ (List.getElem_mem hlt))
      rw [Nat.zero_add] at hx
      have hth : Zp ts out[k] = some th := by rw [hts2, hx]; exact Zl pp th rr
      have HS := zH (vw hlt hth)
      have hw1 := HW.out th (uh hth)
      have hsl := Vu HW.out (out.take k)
      have hkl : (out.take k).length ≤ 5000 := by rw [List.length_take]; omega
      have hsb : jB ts (out.take k) ≤ 30000000 := by omega
      have HSz : Hid (Calls Tryz.prog 28 #[.pointer (some ⟨hg, 0, none⟩), .int .i64 out[k]] wr fun e w' => e = .returned (.tuple #[.int .i64 (th.W.length : Int), .int .i64 0]) ∧ ∃ q, w' = wr.drewN q) := zH (by
       rw [hx]
       have h1 := HH.out wr hbel
       have h2 := HF.out
       rw [hts2] at h1 h2
       exact YD h1 h2)
      have HBl := zH hbel
      have HRd := zH hrd
      clear hth hx hbel hrd hsl hkl
      generalize out[k] = x at *
      generalize jB ts (out.take k) = s at *
      go_wp2_with (go_at_call 28; refine HSz.out.mono ?_; rintro e w' ⟨rfl, q, rfl⟩)
      go_roundw
      case rel => exact ⟨k + 1, by omega, by go_num, by rw [HS.out]; go_num, HBl.out.trans ((HpE.zf wr q).mono HBl.out.size), HRd.out.below (HpE.zf wr q)⟩
      case measure => simp [intOf]; omega
    · have HS := zH (show jB ts (out.take k) = jB ts out by rw [List.take_of_length_le (by omega)])
      have HBl := zH hbel
      clear hbel hrd
      generalize jB ts (out.take k) = s at *
      go_wp2_with fail
      go_ret2
      exact ⟨by rw [← HS.out]; rfl, HBl.out⟩
 · rw [if_neg h0] at hE
   subst hE
   have h0' : (e0 == 0) = false := by simpa using h0
   simp only
   clear P H Ft R hfr hsp hgd hwm h0
   go_enter Tryz.func13, Tryz.ntmps13
   go_wp2_with (go_at_call 10; refine HRe.out.mono ?_; rintro e w1 ⟨A1, c1, rfl, hr1, hb1, ha1⟩; have HB1 := zH hb1; clear hr1 hb1 ha1)
   go_ret2
   exact ⟨rfl, HB1.out⟩
end
end ClL
namespace ClR
open Go.RowKit Base BinM HpM HpA HpB HpG HpT ClM LnkC ClA ClB ClC ClL
structure Tw (F : Nat → Prop) (w0 wr : World) (hg mp : Nat) (Aw : Option Addr) (cw : Nat) (Aa : Option Addr) (ca most : Nat) (ts : List Th) (n : Nat) (f : Int → Option Int)
 (g2 mp2 : Nat) (Aw2 : Option Addr) (cw2 : Nat) (Aa2 : Option Addr) (ca2 : Nat) (ns : List Th) (n2 : Nat) (f2 : Int → Option Int) : Prop where
 h : HpX wr hg mp Aw cw Aa ca most (raw ts) (adr 0 ts) n f
 g : HpX wr g2 mp2 Aw2 cw2 Aa2 ca2 most (raw ns) (adr 0 ns) n2 f2
 apart : ∀ k, zQ hg mp Aw Aa k → ¬ zQ g2 mp2 Aw2 Aa2 k
 gn : ∀ k, zQ g2 mp2 Aw2 Aa2 k → w0.heap.size ≤ k
 hn : ∀ k, zQ hg mp Aw Aa k → F k ∨ w0.heap.size ≤ k
 tur : Turned F w0 wr
 un : n2 = 0 ∧ f2 = fun _ => none
def TwE (F : Nat → Prop) (w0 wr : World) (hg g2 most : Nat) (ts ns : List Th) (n : Nat) (f : Int → Option Int) : Prop :=
 ∃ mp Aw cw Aa ca mp2 Aw2 cw2 Aa2 ca2 n2 f2, Tw F w0 wr hg mp Aw cw Aa ca most ts n f g2 mp2 Aw2 cw2 Aa2 ca2 ns n2 f2
section
variable {F : Nat → Prop} {w0 wr w' : World} {hg mp : Nat} {Aw : Option Addr} {cw : Nat} {Aa : Option Addr} {ca most : Nat} {ts ns : List Th} {n : Nat} {f : Int → Option Int}
 {g2 mp2 : Nat} {Aw2 : Option Addr} {cw2 : Nat} {Aa2 : Option Addr} {ca2 : Nat} {n2 : Nat} {f2 : Int → Option Int}
theorem Tw.beside (T : Tw F w0 wr hg mp Aw cw Aa ca most ts n f g2 mp2 Aw2 cw2 Aa2 ca2 ns n2 f2) (hb : Below wr.heap.size wr w') : Tw F w0 w' hg mp Aw cw Aa ca most ts n f g2 mp2 Aw2 cw2 Aa2 ca2 ns n2 f2 :=
 ⟨T.h.beside hb, T.g.beside hb, T.apart, T.gn, T.hn, T.tur.trans (Turned.of_below (F := F) hb) (fun _ hj => .inl hj), T.un⟩
theorem TwE.beside {hg g2 : Nat} (T : TwE F w0 wr hg g2 most ts ns n f) (hb : Below wr.heap.size wr w') : TwE F w0 w' hg g2 most ts ns n f := by
 obtain ⟨a1, a2, a3, a4, a5, a6, a7, a8, a9, a10, a11, a12, T⟩ := T
 exact ⟨_, _, _, _, _, _, _, _, _, _, _, _, T.beside hb⟩
theorem Tw.nextG {ns' : List Th} {n3 : Nat} {f3 : Int → Option Int} (T : Tw F w0 wr hg mp Aw cw Aa ca most ts n f g2 mp2 Aw2 cw2 Aa2 ca2 ns n2 f2) (N : Y0 wr w' (zQ g2 mp2 Aw2 Aa2) g2 mp2 most (raw ns') (adr 0 ns') n3 f3) (he : n3 = n2 ∧ f3 = f2) : TwE F w0 w' hg g2 most ts ns' n f := by
 obtain ⟨B, c, B2, c2, X, Tn, hf⟩ := N
 refine ⟨_, _, _, _, _, _, _, _, _, _, _, _, T.h.aside (fun k hk => Tn.block k (T.h.lt hk) (T.apart k hk)), X, fun k hk h2 => ?_, fun k hk => ?_, T.hn, T.tur.trans Tn (fun j hj => .inr (T.gn j hj)), ⟨he.1.trans T.un.1, he.2.trans T.un.2⟩⟩
 · rcases hf k h2 with h3 | h3
   · exact T.apart k hk h3
   · exact Nat.lt_irrefl _ (Nat.lt_of_lt_of_le (T.h.lt hk) h3)
 · rcases hf k hk with h3 | h3
   · exact T.gn k h3
   · exact Nat.le_trans T.tur.size h3
theorem Tw.nextH {n3 : Nat} {f3 : Int → Option Int} (T : Tw F w0 wr hg mp Aw cw Aa ca most ts n f g2 mp2 Aw2 cw2 Aa2 ca2 ns n2 f2) (N : Y0 wr w' (zQ hg mp Aw Aa) hg mp most (raw ts) (adr 0 ts) n3 f3) : TwE F w0 w' hg g2 most ts ns n3 f3 := by
 obtain ⟨B, c, B2, c2, X, Tn, hf⟩ := N
 refine ⟨_, _, _, _, _, _, _, _, _, _, _, _, X, T.g.aside (fun k hk => Tn.block k (T.g.lt hk) (fun h => T.apart k h hk)), fun k hk h2 => ?_, T.gn, fun k hk => ?_, T.tur.trans Tn (fun j hj => ?_), T.un⟩
 · rcases hf k hk with h3 | h3
   · exact T.apart k h3 h2
   · exact Nat.lt_irrefl _ (Nat.lt_of_lt_of_le (T.g.lt h2) h3)
 · rcases hf k hk with h3 | h3
   · exact T.hn k h3
   · exact .inr (Nat.le_trans T.tur.size h3)
 · exact T.hn j hj
theorem Qu {A : Option Addr} {xs : List Value} (h : Rds w0 A xs) (hA : ∀ a, A = some a → xs ≠ [] → ¬ F a.block) (t : Turned F w0 wr) : Rds wr A xs := by
 by_cases hx : xs = []
 · exact .inl hx
 · exact TabN.qU h t.size (fun a ha => t.block _ (qL h hx ha) (hA a ha hx))
end
section
variable {w : World} {hg mp : Nat} {Aw : Option Addr} {cw : Nat} {Aa : Option Addr} {ca most : Nat} {ws al : List Int} {kk : Nat} {f : Int → Option Int}
theorem K8 (H : HpX w hg mp Aw cw Aa ca most ws al kk f) {A : Option Addr} {c : Nat} {xs : List Int} (R : Rds w A (xs.map (Value.int .i64))) (hf : ∀ x ∈ xs, zo x) (hxl : xs.length ≤ 100000) :
 Calls Tryz.prog 57 #[.pointer (some ⟨hg, 0, none⟩), .slice A xs.length c] w fun e w' => e = .returned (.slice (some ⟨w.heap.size, 0, none⟩) xs.length xs.length) ∧ zT w' w.heap.size (.slice (some ⟨w.heap.size, 0, none⟩) xs.length xs.length) (xs.map (fun x => (f x).getD 0)) ∧ Below w.heap.size w w' := by
 have hmk := HpJ.VH xs.length hxl
 have R0 := zH (Row.start w xs.length hxl (xs.map (fun x => (f x).getD 0)))
 have HWl := zH (show (xs.map (fun x => (f x).getD 0)).length = xs.length by simp)
 have HS := zH (fun wr (hb : Below w.heap.size w wr) x hx => HpE.YI (H.beside hb) x hx)
 have HR := zH R
 have HF := zH hf
 clear H R hf
 go_enter Tryz.func57, Tryz.ntmps57
 go_wp2_with fail
 clear hmk
 go_loopw [13] (fun i wr => ∃ (k : Nat) (l : List Int), k ≤ xs.length ∧ i = .int .i64 (k : Int) ∧ Row w wr xs.length k (xs.map (fun x => (f x).getD 0)) l) (fun i _ => xs.length - (intOf i).toNat)
 case atStart => exact ⟨0, _, Nat.zero_le _, rfl, R0.out⟩
 case round =>
  obtain ⟨k, l, hk, rfl, hrow⟩ := hrel
  have HRw := zH hrow
  by_cases hlt : k < xs.length
  · obtain ⟨b, oo, hA, hb1, hc0⟩ := (HR.out.below hrow.bel).at_ (k := k) (by simpa using hlt)
    rw [List.getElem_map] at hc0
    subst hA
    have HSk := zH (HS.out wr hrow.bel xs[k] (HF.out _ (List.getElem_mem hlt)))
    have Hge := zH (show (f xs[k]).getD 0 = (xs.map (fun x => (f x).getD 0))[k]'(by rw [HWl.out]; exact hlt) by rw [List.getElem_map])
    obtain ⟨u, z1⟩ := hrow.cell hlt
    have z2 := Qk hrow.row k
    have z3 := (hrow.row.lt _ rfl).2
    clear hrow
    generalize xs[k] = x at *
    generalize (f x).getD 0 = y at *
    generalize (f x).isSome = bb at *
    go_wp2_with (go_at_call 25; refine HSk.out.mono ?_; rintro e w' ⟨rfl, rfl⟩)
    go_roundw
    case rel => exact ⟨k + 1, l.set k y, by omega, by go_num, HRw.out.put hlt HWl.out Hge.out⟩
    case measure => simp [intOf]; omega
  · have hkn : k = xs.length := by omega
    subst hkn
    clear hrow
    go_wp2_with fail
    go_ret
    exact ⟨rfl, HRw.out.fin HWl.out, HRw.out.bel⟩
end
end ClR
namespace ClS
open Go.RowKit Base BinM HpM HpA HpB HpG HpT ClM ClL
def QA (ts : List Th) (x : Int) : Th := match Zp ts x with
 | some t => ⟨t.id, List.replicate t.W.length 0, 0⟩
 | none => ⟨0, [], 0⟩
def zs (ts : List Th) (out : List Int) : List Th := out.map (QA ts)
def posE (ts : List Th) (out : List Int) (c : Int) : Int := (((raw (zs ts (out.takeWhile (· != c)))).length + 1 : Nat) : Int)
def zh (ts : List Th) (f : Int → Option Int) (out : List Int) (c : Int) : Option Int := if c ∈ out then some (posE ts out c) else f c
theorem tw_in {c : Int} : ∀ {l r : List Int}, c ∈ l → (l ++ r).takeWhile (· != c) = l.takeWhile (· != c)
 | x :: l, r, h => by
   rw [List.cons_append, List.takeWhile_cons, List.takeWhile_cons]
   by_cases e : x = c
   · subst e; simp
   · have hc : c ∈ l := by
      rcases List.mem_cons.1 h with h | h
      · exact absurd h.symm e
      · exact h
     rw [tw_in hc]
theorem Gx {c : Int} : ∀ {l r : List Int}, c ∉ l → (l ++ c :: r).takeWhile (· != c) = l
 | [], r, _ => by simp
 | x :: l, r, h => by
   have h1 : x ≠ c := fun e => h (by rw [e]; simp)
   have h2 : c ∉ l := fun e => h (List.mem_cons_of_mem _ e)
   rw [List.cons_append, List.takeWhile_cons, Gx h2]
   simp [h1]
theorem GJ (ts : List Th) (f : Int → Option Int) (l : List Int) (x : Int) (hx : x ∉ l) :
 zh ts f (l ++ [x]) = fun c => if c = x then some (((raw (zs ts l)).length + 1 : Nat) : Int) else zh ts f l c := by
 funext c
 unfold zh
 by_cases h : c = x
 · subst h
   rw [if_pos (by simp), if_pos rfl]
   unfold posE
   rw [Gx hx]
 · rw [if_neg h]
   by_cases hc : c ∈ l
   · rw [if_pos (by simp [hc]), if_pos hc]
     unfold posE
     rw [tw_in hc]
   · rw [if_neg (by simp [hc, h]), if_neg hc]
theorem zm1 (ts : List Th) (f : Int → Option Int) : zh ts f [] = f := by
 funext c
 unfold zh
 rw [if_neg (by simp)]
theorem uL (ts : List Th) : ∀ out : List Int, (raw (zs ts out)).length = jB ts out
 | [] => by simp [zs, raw, jB]
 | x :: r => by
   have := uL ts r
   unfold zs raw jB at this ⊢
   rw [List.map_cons, List.flatMap_cons, List.length_append, this, List.map_cons, List.sum_cons, Zd]
   congr 1
   unfold QA
   cases Zp ts x <;> simp
theorem vo (g : Int → Nat) {x : Int} : ∀ {A : List Int}, x ∈ A → (A.map g).sum = g x + ((A.erase x).map g).sum
 | y :: A, h => by
   rw [List.erase_cons]
   by_cases e : y = x
   · subst e; simp
   · have hx : x ∈ A := by
      rcases List.mem_cons.1 h with h | h
      · exact absurd h.symm e
      · exact h
     have := vo g hx
     simp [e]
     omega
theorem vk (g : Int → Nat) : ∀ {l A : List Int}, l.Nodup → (∀ x ∈ l, x ∈ A) → (l.map g).sum ≤ (A.map g).sum
 | [], A, _, _ => by simp
 | x :: l, A, hn, hs => by
   have hx : x ∈ A := hs x (by simp)
   have h1 := vo g hx
   rw [List.nodup_cons] at hn
   have h2 := vk g (A := A.erase x) hn.2 (fun y hy => by
    have : y ≠ x := fun e => hn.1 (e ▸ hy)
    exact (List.mem_erase_of_ne this).2 (hs y (by simp [hy])))
   rw [List.map_cons, List.sum_cons, h1]
   omega
theorem zf0 : ∀ (r : List Th) (p : List Th), ((adr (raw p).length r).map (fun x => 1 + ((Zp (p ++ r) x).map (fun t => t.W.length)).getD 0)).sum = (raw r).length
 | [], p => by simp [adr, raw]
 | t :: r, p => by
   have hl : (raw (p ++ [t])).length = (raw p).length + (1 + t.W.length) := by rw [Q8, XM, List.length_append, Zd]
   have ih := zf0 r (p ++ [t])
   rw [hl, List.append_assoc] at ih
   simp only [List.singleton_append] at ih
   rw [adr, List.map_cons, List.sum_cons, ih, Zl]
   have : (raw (t :: r)).length = (1 + t.W.length) + (raw r).length := by simp [raw, Zd]
   rw [this]
   simp
theorem xD {ts : List Th} {out : List Int} (h : ClM.Good (adr 0 ts) out) : jB ts out ≤ (raw ts).length := by
 have h1 := vk (fun x => 1 + ((Zp ts x).map (fun t => t.W.length)).getD 0) h.nodup h.sub
 have h2 := zf0 ts []
 simp only [List.nil_append] at h2
 have h3 : (raw ([] : List Th)).length = 0 := by simp [raw]
 rw [h3] at h2
 unfold jB
 omega
end ClS
namespace ClT
open Go.RowKit Base BinM HpM HpA HpB HpG HpT HpZ ClM LnkC ClA ClB ClC ClL ClR ClS
section
variable {w : World} {g mb : Nat} {Aw : Option Addr} {cw : Nat} {Aa : Option Addr} {ca most : Nat} {ws al : List Int} {n : Nat} {f : Int → Option Int}
theorem VZ (H : HpX w g mb Aw cw Aa ca most ws al n f) :
 Calls Tryz.prog 24 #[.pointer (some ⟨g, 0, none⟩)] w fun e w' => e = .returned (.int .i64 (most : Int)) ∧ w = w' := by
 have c1 := H.box.cell 0
 clear H
 go_enter Tryz.func24, Tryz.ntmps24
 go_wp2
 go_ret
 exact ⟨rfl, rfl⟩
theorem empty_any (H : HpX w g mb Aw cw Aa ca most ws al n f) (h0 : 16 ≤ most) (h1 : most ≤ 4096) :
 Calls Tryz.prog 53 #[.pointer (some ⟨g, 0, none⟩)] w fun e w' => ∃ g2 mb2, e = .returned (.pointer (some ⟨g2, 0, none⟩)) ∧ w.heap.size ≤ g2 ∧ w.heap.size ≤ mb2 ∧ HpX w' g2 mb2 none 0 none 0 most [] [] 0 (fun _ => none) ∧ Below w.heap.size w w' := by
 have HC := zH (VZ H)
 have HN := zH (yE (most : Int) w)
 clear H
 go_enter Tryz.func53, Tryz.ntmps53
 go_wp2_with (first
  | (go_at_call 24; refine HC.out.mono ?_; rintro e w' ⟨rfl, rfl⟩)
  | (go_at_call 37; refine HN.out.mono ?_; rintro e w1 ⟨hb, (⟨_, _, g2, mb2, rfl, hg, hm, hx⟩ | ⟨hn, _⟩)⟩; rotate_left; (exact absurd ⟨by omega, by omega⟩ hn); have HX := zH hx; have HB := zH hb; clear hx hb))
 go_ret
 exact ⟨g2, mb2, rfl, hg, hm, by have := HX.out; rw [Int.toNat_natCast] at this; exact this, HB.out⟩
end
section
variable {F : Nat → Prop} {w0 wr w' : World} {hg mp : Nat} {Aw : Option Addr} {cw : Nat} {Aa : Option Addr} {ca most : Nat} {ts ns : List Th} {n : Nat} {f : Int → Option Int}
 {g2 mp2 : Nat} {Aw2 : Option Addr} {cw2 : Nat} {Aa2 : Option Addr} {ca2 : Nat} {n2 : Nat} {f2 : Int → Option Int}
theorem yD {pp : List Th} {th : Th} {rr : List Th} (T : Tw F w0 wr hg mp Aw cw Aa ca most (pp ++ th :: rr) n f g2 mp2 Aw2 cw2 Aa2 ca2 ns n2 f2) (Ft : Fits most (pp ++ th :: rr)) (Fn : Fits most ns) (hroom : (raw ns).length + 1 + th.W.length ≤ most) :
 Calls Tryz.prog 55 #[.pointer (some ⟨g2, 0, none⟩), .pointer (some ⟨hg, 0, none⟩), .int .i64 (((raw pp).length + 1 : Nat) : Int)] wr fun e w' => e = .returned (.int .i64 (((raw ns).length + 1 : Nat) : Int)) ∧ TwE F w0 w' hg g2 most (pp ++ th :: rr) (ns ++ [⟨th.id, List.replicate th.W.length 0, 0⟩]) n f ∧ Fits most (ns ++ [⟨th.id, List.replicate th.W.length 0, 0⟩]) := by
 have HT := zH (uf T.h Ft)
 have HZ : Hid (∀ q, Calls Tryz.prog 28 #[.pointer (some ⟨hg, 0, none⟩), .int .i64 (((raw pp).length + 1 : Nat) : Int)] (wr.drewN q) fun e w' => e = .returned (.tuple #[.int .i64 (th.W.length : Int), .int .i64 0]) ∧ ∃ q', w' = (wr.drewN q).drewN q') := zH (fun q => YD (T.h.aside (fun _ _ => rfl)) Ft)
 have hid := Ft.ids th (by simp)
 have hm := Fn.top
 have hE : ZC most (raw ns).length (th.id : Int) (th.W.length : Int) = 0 := by
  unfold ZC Zr
  rw [if_neg (by omega), if_neg (by omega), if_neg (by omega)]
 have HP : Hid (∀ q, Calls Tryz.prog 72 #[.pointer (some ⟨g2, 0, none⟩), .int .i64 (th.id : Int), .int .i64 (th.W.length : Int)] (wr.drewN q) fun e w' => e = .returned (.tuple #[.int .i64 (((raw ns).length + 1 : Nat) : Int), .int .i64 0]) ∧ TwE F w0 w' hg g2 most (pp ++ th :: rr) (ns ++ [⟨th.id, List.replicate th.W.length 0, 0⟩]) n f ∧ Fits most (ns ++ [⟨th.id, List.replicate th.W.length 0, 0⟩])) := zH (fun q => by
  have hb := HpE.zf wr q
  have Tq := T.beside hb
  refine (HpT.yu Tq.g Fn (th.id : Int) (th.W.length : Int)).mono ?_
  rintro e w' (⟨h1, _⟩ | ⟨_, rfl, h3, h4⟩)
  · exact absurd hE h1
  · rw [Int.toNat_natCast, Int.toNat_natCast] at h3 h4
    exact ⟨rfl, Tq.nextG h3 ⟨rfl, rfl⟩, h4⟩)
 clear T Ft Fn hroom hE hm hid
 generalize (((raw pp).length + 1 : Nat) : Int) = X at *
 generalize (((raw ns).length + 1 : Nat) : Int) = Y at *
 go_enter Tryz.func55, Tryz.ntmps55
 go_wp2_with (first
  | (go_at_call 27; refine HT.out.mono ?_; rintro e w' ⟨rfl, q, rfl⟩)
  | (go_at_call 28; refine (HZ.out q).mono ?_; rintro e w' ⟨rfl, q', rfl⟩)
  | (go_at_call 72; refine (HP.out _).mono ?_; rintro e w1 ⟨rfl, hT, hF⟩; have HT1 := zH hT; have HF1 := zH hF; clear hT hF))
 go_ret
 exact ⟨rfl, HT1.out, HF1.out⟩
end
end ClT
end Go.Proofs.YtmkdhdmkdcankaaGreatDoor
