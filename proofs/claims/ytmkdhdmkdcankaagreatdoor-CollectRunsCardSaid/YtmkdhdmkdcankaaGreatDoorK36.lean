/- pieces -/
import Derived.Test.YtmkdhdmkdcankaaGreatDoorK35
namespace Go.Proofs.YtmkdhdmkdcankaaGreatDoor
namespace ClU
open Go.RowKit Base BinM HpM HpA HpB HpG HpT HpZ ClM LnkC ClA ClB ClC ClL ClR ClS ClT
def Safe (wr : World) (P : Nat → Prop) (A : Option Addr) (xs : List Value) : Prop := Rds wr A xs ∧ ∀ a, A = some a → xs ≠ [] → ¬ P a.block
def TwS (F : Nat → Prop) (w0 wr : World) (hg g2 most : Nat) (ts ns : List Th) (n : Nat) (f : Int → Option Int) (rows : List (Option Addr × List Value)) : Prop :=
 ∃ mp Aw cw Aa ca mp2 Aw2 cw2 Aa2 ca2 n2 f2, Tw F w0 wr hg mp Aw cw Aa ca most ts n f g2 mp2 Aw2 cw2 Aa2 ca2 ns n2 f2 ∧ ∀ r ∈ rows, Safe wr (zQ g2 mp2 Aw2 Aa2) r.1 r.2
section
variable {F : Nat → Prop} {w0 wr w' : World} {hg mp : Nat} {Aw : Option Addr} {cw : Nat} {Aa : Option Addr} {ca most : Nat} {ts ns : List Th} {n : Nat} {f : Int → Option Int}
 {g2 mp2 : Nat} {Aw2 : Option Addr} {cw2 : Nat} {Aa2 : Option Addr} {ca2 : Nat} {n2 : Nat} {f2 : Int → Option Int}
theorem next_s {ns' : List Th} {n3 : Nat} {f3 : Int → Option Int} {rows : List (Option Addr × List Value)} (T : Tw F w0 wr hg mp Aw cw Aa ca most ts n f g2 mp2 Aw2 cw2 Aa2 ca2 ns n2 f2) (N : Y0 wr w' (zQ g2 mp2 Aw2 Aa2) g2 mp2 most (raw ns') (adr 0 ns') n3 f3) (he : n3 = n2 ∧ f3 = f2)
 (hA : ∀ r ∈ rows, Safe wr (zQ g2 mp2 Aw2 Aa2) r.1 r.2) : TwS F w0 w' hg g2 most ts ns' n f rows := by
 obtain ⟨C, c, C2, c2, X, Tn, hf⟩ := N
 have keep : ∀ {A : Option Addr} {xs : List Value}, Safe wr (zQ g2 mp2 Aw2 Aa2) A xs → Safe w' (zQ g2 mp2 C C2) A xs := by
  intro A xs hA
  refine ⟨Qu hA.1 hA.2 Tn, fun a ha hx h => ?_⟩
  rcases hf _ h with h3 | h3
  · exact hA.2 a ha hx h3
  · exact Nat.lt_irrefl _ (Nat.lt_of_lt_of_le (qL hA.1 hx ha) h3)
 refine ⟨_, _, _, _, _, _, _, _, _, _, _, _, ⟨T.h.aside (fun k hk => Tn.block k (T.h.lt hk) (T.apart k hk)), X, fun k hk h2 => ?_, fun k hk => ?_, T.hn, T.tur.trans Tn (fun j hj => .inr (T.gn j hj)), ⟨he.1.trans T.un.1, he.2.trans T.un.2⟩⟩, fun r hr => keep (hA r hr)⟩
 · rcases hf k h2 with h3 | h3
   · exact T.apart k hk h3
   · exact Nat.lt_irrefl _ (Nat.lt_of_lt_of_le (T.h.lt hk) h3)
 · rcases hf k hk with h3 | h3
   · exact T.gn k h3
   · exact Nat.le_trans T.tur.size h3
theorem Safe.beside {P : Nat → Prop} {A : Option Addr} {xs : List Value} (h : Safe wr P A xs) (hb : Below wr.heap.size wr w') : Safe w' P A xs := ⟨h.1.below hb, h.2⟩
theorem TwS.beside {hg g2 : Nat} {rows : List (Option Addr × List Value)} (T : TwS F w0 wr hg g2 most ts ns n f rows) (hb : Below wr.heap.size wr w') : TwS F w0 w' hg g2 most ts ns n f rows := by
 obtain ⟨a1, a2, a3, a4, a5, a6, a7, a8, a9, a10, a11, a12, T, h1⟩ := T
 exact ⟨_, _, _, _, _, _, _, _, _, _, _, _, T.beside hb, fun r hr => (h1 r hr).beside hb⟩
theorem K3 {hg g2 : Nat} {P R : List Th} {t : Th} {rows : List (Option Addr × List Value)} (T : TwS F w0 wr hg g2 most ts (P ++ t :: R) n f rows) (Fn : Fits most (P ++ t :: R)) (i : Nat) (hi : i < t.W.length) (v : Int) :
 Calls Tryz.prog 41 #[.pointer (some ⟨g2, 0, none⟩), .int .i64 (((raw P).length + 1 : Nat) : Int), .int .i64 (i : Int), .int .i64 v] wr fun e w' => e = .returned (.int .i64 0) ∧ TwS F w0 w' hg g2 most ts (P ++ jT t i v :: R) n f rows := by
 obtain ⟨a1, a2, a3, a4, a5, a6, a7, a8, a9, a10, a11, a12, T, h1⟩ := T
 refine (zf4 T.g Fn (i : Int) v).mono ?_
 rintro e w' (⟨h3, _⟩ | ⟨_, _, rfl, h4⟩)
 · exact absurd ⟨by omega, by omega⟩ h3
 · rw [Int.toNat_natCast] at h4
   exact ⟨rfl, next_s T h4 ⟨rfl, rfl⟩ h1⟩
def part (t0 : Th) (W : List Int) (k : Nat) : Th := ⟨t0.id, W.take k ++ t0.W.drop k, t0.s⟩
theorem part_len {t0 : Th} {W : List Int} (h : t0.W.length = W.length) (k : Nat) (hk : k ≤ W.length) : (part t0 W k).W.length = W.length := by unfold part; simp; omega
theorem Kn {t0 : Th} {W : List Int} (h : t0.W.length = W.length) {k : Nat} (hk : k < W.length) : jT (part t0 W k) k W[k] = part t0 W (k + 1) := by
 unfold jT part
 congr 1
 have h1 : (W.take k).length = k := by simp; omega
 rw [List.set_append_right _ _ (by omega), h1, Nat.sub_self, List.take_succ_eq_append_getElem hk, List.append_assoc]
 congr 1
 rw [List.drop_eq_getElem_cons (by omega : k < t0.W.length)]
 rfl
theorem Kq {t0 : Th} {W : List Int} (h : t0.W.length = W.length) : part t0 W W.length = ⟨t0.id, W, t0.s⟩ := by
 unfold part
 rw [List.take_of_length_le (Nat.le_refl _), List.drop_of_length_le (by omega), List.append_nil]
theorem Ko (t0 : Th) (W : List Int) : part t0 W 0 = t0 := by unfold part; simp
theorem X4 {P R : List Th} {t0 : Th} {W : List Int} (Fn : Fits most (P ++ t0 :: R)) (h : t0.W.length = W.length) (hW : ∀ x ∈ W, zo x) : ∀ k, k ≤ W.length → Fits most (P ++ part t0 W k :: R)
 | 0, _ => by rw [Ko]; exact Fn
 | k + 1, hk => by
   rw [← Kn h (by omega : k < W.length)]
   exact U8 (X4 Fn h hW k (by omega)) k (hW _ (List.getElem_mem _))
def ZN (f : Int → Option Int) (t : Th) (ps : List Nat) (k : Nat) : List Int := (ps.take k).foldl (fun W p => W.set p ((f (t.W.getD p 0)).getD 0)) t.W
theorem Qw (f : Int → Option Int) (t : Th) (ps : List Nat) {k : Nat} (hk : k < ps.length) : ZN f t ps (k + 1) = (ZN f t ps k).set ps[k] ((f (t.W.getD ps[k] 0)).getD 0) := by
 unfold ZN
 rw [List.take_succ_eq_append_getElem hk, List.foldl_append]
 rfl
theorem QZ (f : Int → Option Int) (t : Th) (ps : List Nat) (k : Nat) : (ZN f t ps k).length = t.W.length := by
 unfold ZN
 generalize ps.take k = l
 have : ∀ (l : List Nat) (W : List Int), (l.foldl (fun W p => W.set p ((f (t.W.getD p 0)).getD 0)) W).length = W.length := by
  intro l
  induction l with
  | nil => intro W; rfl
  | cons a l ih => intro W; rw [List.foldl_cons, ih, List.length_set]
 exact this l t.W
theorem vT {P R : List Th} {i : Nat} {s : Int} {t : Th} {ps : List Nat} (Fn : Fits most (P ++ ⟨i, t.W, s⟩ :: R)) (hff : ∀ v, zo ((f v).getD 0)) : ∀ k, k ≤ ps.length → Fits most (P ++ ⟨i, ZN f t ps k, s⟩ :: R)
 | 0, _ => Fn
 | k + 1, hk => by
   rw [Qw f t ps (by omega : k < ps.length)]
   exact U8 (vT Fn hff k (by omega)) _ (hff _)
end
section
open HierS HierT LnkS Kls TabP TabB
variable {lo p y t g mb nn : Nat} {A : Option Addr} {c : Nat} {h : Hr} {L : List za} {ff : T → Option zO} {ns : List T}
 {F : Nat → Prop} {w0 wr : World} {hg g2 most : Nat} {n : Nat} {f : Int → Option Int}
set_option maxRecDepth 100000 in
set_option maxHeartbeats 16000000 in
theorem fill_any {pp : List Th} {th : Th} {rr : List Th} {P R : List Th} {t0 : Th} (PG : ∀ w, Turned F w0 w → Pg lo w p y t g mb nn A c h L ff ns) (hsp : ∀ i : Nat, ZF h L (LnkA.zG ns (i : Int)) = shp i)
 {rows : List (Option Addr × List Value)} (T : TwS F w0 wr hg g2 most (pp ++ th :: rr) (P ++ t0 :: R) n f rows) (Ft : Fits most (pp ++ th :: rr)) (Fn : Fits most (P ++ t0 :: R)) (hl : t0.W.length = th.W.length)
 (hx : f (((raw pp).length + 1 : Nat) : Int) = some (((raw P).length + 1 : Nat) : Int)) (hff : ∀ v, zo ((f v).getD 0)) {ps : List Nat} (hq : Zh th = some ps) :
 Calls Tryz.prog 56 #[.pointer (some ⟨g2, 0, none⟩), .pointer (some ⟨hg, 0, none⟩), .pointer (some ⟨p, 0, none⟩), .int .i64 (((raw pp).length + 1 : Nat) : Int)] wr fun e w' => e = .returned (.tuple #[]) ∧ TwS F w0 w' hg g2 most (pp ++ th :: rr) (P ++ ⟨t0.id, ZN f th ps ps.length, t0.s⟩ :: R) n f rows := by
 have hfit : ∀ z ∈ th.W, zo z := Ft.fit th (by simp)
 have hwl : th.W.length ≤ 4096 := by
  have h1 := Z7 pp th rr
  have h2 := Ft.len
  have h3 := Ft.top
  omega
 have hXf : zo (((raw pp).length + 1 : Nat) : Int) := by
  have h1 := Z7 pp th rr
  have h2 := Ft.len
  have h3 := Ft.top
  unfold zo
  omega
 have HS : Hid (Calls Tryz.prog 25 #[.pointer (some ⟨hg, 0, none⟩), .int .i64 (((raw pp).length + 1 : Nat) : Int)] wr fun e w' => e = .returned (.tuple #[.int .i64 (((raw P).length + 1 : Nat) : Int), .bool true]) ∧ wr = w') := zH (by
  obtain ⟨a1, a2, a3, a4, a5, a6, a7, a8, a9, a10, a11, a12, T, _⟩ := T
  have := HpE.YI T.h _ hXf
  rw [hx] at this
  exact this)
 have HT := zH T
 have HGet : Hid (∀ w' Q ns' rows', TwS Q w0 w' hg g2 most (pp ++ th :: rr) ns' n f rows' → ∀ k : Nat, (hk : k < th.W.length) → Calls Tryz.prog 29 #[.pointer (some ⟨hg, 0, none⟩), .int .i64 (((raw pp).length + 1 : Nat) : Int), .int .i64 (k : Int)] w' fun e w2 => (∃ z : Int, e = .returned (.tuple #[.int .i64 (th.W[k]'hk), .int .i64 z])) ∧ ∃ q, w2 = w'.drewN q) := zH (fun w' Q ns' rows' T' k hk => by
  obtain ⟨a1, a2, a3, a4, a5, a6, a7, a8, a9, a10, a11, a12, T', _⟩ := T'
  refine (zi6 T'.h Ft (k : Int)).mono ?_
  rintro e w2 ⟨rfl, hw⟩
  have : (qD th.W (k : Int)).1 = th.W[k] := by
   unfold qD
   rw [if_pos (by omega), Int.toNat_natCast, List.getD_eq_getElem?_getD, List.getElem?_eq_getElem hk]
   rfl
  exact ⟨⟨_, by rw [this]⟩, hw⟩)
 have HSz : Hid (Calls Tryz.prog 28 #[.pointer (some ⟨hg, 0, none⟩), .int .i64 (((raw pp).length + 1 : Nat) : Int)] wr fun e w' => e = .returned (.tuple #[.int .i64 (th.W.length : Int), .int .i64 0]) ∧ ∃ q, w' = wr.drewN q) := zH (by
  obtain ⟨a1, a2, a3, a4, a5, a6, a7, a8, a9, a10, a11, a12, T, _⟩ := T
  exact YD T.h Ft)
 have HSet := zH (fun w' k (hk : k < th.W.length) (T' : TwS F w0 w' hg g2 most (pp ++ th :: rr) (P ++ part t0 th.W k :: R) n f rows) => K3 T' (X4 Fn hl hfit k (Nat.le_of_lt hk)) k (by rw [part_len hl k (Nat.le_of_lt hk)]; exact hk) (th.W[k]'hk))
 have HPs : Hid (∀ k (hk : k < th.W.length), jT (part t0 th.W k) k (th.W[k]'hk) = part t0 th.W (k + 1)) := zH (fun k hk => Kn hl hk)
 have HTs : Hid (TwS F w0 wr hg g2 most (pp ++ th :: rr) (P ++ part t0 th.W 0 :: R) n f rows) := zH (by rw [Ko]; exact T)
 have hrx : Qq (pp ++ th :: rr) (((raw pp).length + 1 : Nat) : Int) = (0, ps.map (fun (k : Nat) => (k : Int))) := by
  unfold Qq
  rw [Zl]
  simp only [hq]
 have HRf : Hid (∀ w' ns' rows', TwS F w0 w' hg g2 most (pp ++ th :: rr) ns' n f rows' → Calls Tryz.prog 16 #[.pointer (some ⟨hg, 0, none⟩), .pointer (some ⟨p, 0, none⟩), .int .i64 (((raw pp).length + 1 : Nat) : Int)] w' (Xj w' (0, ps.map (fun (k : Nat) => (k : Int))))) := zH (fun w' ns' rows' T' => by
  obtain ⟨a1, a2, a3, a4, a5, a6, a7, a8, a9, a10, a11, a12, T', _⟩ := T'
  have := Ka (PG w' T'.tur) hsp T'.h Ft (((raw pp).length + 1 : Nat) : Int)
  rw [hrx] at this
  exact this)
 have hpl := QX hq
 have hplt := Qj hq
 have HWd : Hid (∀ w' ns' rows', TwS F w0 w' hg g2 most (pp ++ th :: rr) ns' n f rows' → ∀ A2 c2, Rds w' A2 ((ps.map (fun (k : Nat) => (k : Int))).map (Value.int .i64)) → Calls Tryz.prog 44 #[.pointer (some ⟨hg, 0, none⟩), .int .i64 (((raw pp).length + 1 : Nat) : Int), .slice A2 ps.length c2] w' fun e w2 => e = .returned (.slice (some ⟨w'.heap.size, 0, none⟩) ps.length ps.length) ∧ zT w2 w'.heap.size (.slice (some ⟨w'.heap.size, 0, none⟩) ps.length ps.length) (zB th ps) ∧ Below w'.heap.size w' w2) := zH (fun w' ns' rows' T' A2 c2 hr => by
  obtain ⟨a1, a2, a3, a4, a5, a6, a7, a8, a9, a10, a11, a12, T', _⟩ := T'
  exact yt T'.h Ft hr hplt (by omega))
 have hwlen : (zB th ps).length = ps.length := by simp [zB]
 have hwfit : ∀ z ∈ zB th ps, zo z := by
  intro z hz
  obtain ⟨k', hk', rfl⟩ := List.mem_map.1 hz
  have := hplt k' hk'
  rw [List.getD_eq_getElem?_getD, List.getElem?_eq_getElem this]
  exact hfit _ (List.getElem_mem this)
 have HSn : Hid (∀ w' ns' rows', TwS F w0 w' hg g2 most (pp ++ th :: rr) ns' n f rows' → ∀ A2 c2, Rds w' A2 ((zB th ps).map (Value.int .i64)) → Calls Tryz.prog 57 #[.pointer (some ⟨hg, 0, none⟩), .slice A2 ps.length c2] w' fun e w2 => e = .returned (.slice (some ⟨w'.heap.size, 0, none⟩) ps.length ps.length) ∧ zT w2 w'.heap.size (.slice (some ⟨w'.heap.size, 0, none⟩) ps.length ps.length) ((zB th ps).map (fun x => (f x).getD 0)) ∧ Below w'.heap.size w' w2) := zH (fun w' ns' rows' T' A2 c2 hr => by
  obtain ⟨a1, a2, a3, a4, a5, a6, a7, a8, a9, a10, a11, a12, T', _⟩ := T'
  have := K8 T'.h (c := c2) hr hwfit (by omega)
  rw [hwlen] at this
  exact this)
 have HSt2 : Hid (∀ w' k (hk : k < ps.length) rows', TwS F w0 w' hg g2 most (pp ++ th :: rr) (P ++ ⟨t0.id, ZN f th ps k, t0.s⟩ :: R) n f rows' → Calls Tryz.prog 41 #[.pointer (some ⟨g2, 0, none⟩), .int .i64 (((raw P).length + 1 : Nat) : Int), .int .i64 ((ps[k]'hk : Nat) : Int), .int .i64 ((f (th.W.getD (ps[k]'hk) 0)).getD 0)] w' fun e w2 => e = .returned (.int .i64 0) ∧ TwS F w0 w2 hg g2 most (pp ++ th :: rr) (P ++ ⟨t0.id, ZN f th ps (k + 1), t0.s⟩ :: R) n f rows') := zH (fun w' k hk rows' T' => by
  have hF := vT (f := f) (ps := ps) (P := P) (R := R) (i := t0.id) (s := t0.s) (t := th) (by have := X4 Fn hl hfit th.W.length (Nat.le_refl _); rw [Kq hl] at this; exact this) hff k (Nat.le_of_lt hk)
  have := K3 T' hF ps[k] (by show ps[k] < (ZN f th ps k).length; rw [QZ]; exact hplt _ (List.getElem_mem hk)) ((f (th.W.getD ps[k] 0)).getD 0)
  rw [Qw f th ps hk]
  exact this)
 have HPa := zH (Kq hl)
 have HWl := zH hwlen
 clear hXf hx T hrx hwfit hwlen
 generalize (((raw pp).length + 1 : Nat) : Int) = X at *
 generalize hY : (((raw P).length + 1 : Nat) : Int) = Y at *
 have HY := zH hY
 clear hY
 go_enter Tryz.func56, Tryz.ntmps56
 go_wp2_with (first
  | (go_at_call 25; refine HS.out.mono ?_; rintro e w' ⟨rfl, rfl⟩)
  | (go_at_call 28; refine HSz.out.mono ?_; rintro e w' ⟨rfl, q, rfl⟩))
 go_loopw [32] (fun i wr => ∃ k : Nat, k ≤ th.W.length ∧ i = .int .i64 (k : Int) ∧ TwS F w0 wr hg g2 most (pp ++ th :: rr) (P ++ part t0 th.W k :: R) n f rows) (fun i _ => th.W.length - (intOf i).toNat)
 case atStart => exact ⟨0, Nat.zero_le _, rfl, HTs.out.beside (HpE.zf wr q)⟩
 case round =>
  obtain ⟨k, hk, rfl, hT⟩ := hrel
  by_cases hlt : k < th.W.length
  · have HG1 := zH (HGet.out _ _ _ _ hT k hlt)
    have HS1 := zH (fun q => HSet.out _ k hlt (hT.beside (HpE.zf _ q)))
    rw [HPs.out k hlt] at HS1
    clear hT
    generalize th.W[k] = v at *
    go_wp2_with (first
     | (go_at_call 29; refine HG1.out.mono ?_; rintro e w2 ⟨⟨z, rfl⟩, q2, rfl⟩)
     | (go_at_call 41; refine (HS1.out q2).mono ?_; rintro e w3 ⟨rfl, hT3⟩; have HT3 := zH hT3; clear hT3))
    go_roundw
    case rel => exact ⟨k + 1, by omega, by go_num, HT3.out⟩
    case measure => simp [intOf]; omega
  · have hkl : k = th.W.length := by omega
    subst hkl
    rw [HPa.out] at hT
    have HR1 := zH (HRf.out _ _ _ hT)
    have HT1 := zH hT
    clear hT
    go_wp2_with (first
     | (go_at_call 16; refine HR1.out.mono ?_; rintro e w4 ⟨A2, c2, rfl, hr4, _, hb4, ha4⟩; have HT4 := zH (HT1.out.beside hb4); have HR4 := zH hr4; have HB4 := zH hb4; have HA4 := zH ha4; clear hr4 hb4 ha4; simp only [List.length_map])
     | (go_at_call 44; refine (HWd.out _ _ _ HT4.out A2 c2 HR4.out).mono ?_; rintro e w5 ⟨rfl, ho5, hb5⟩; have HT5 := zH (HT4.out.beside hb5); have HR5 := zH (Rds.own (show w5.ownsRow _ _ _ (.slice _ ps.length _) ps.length _ by have := ho5; unfold zT at this; rw [HWl.out] at this; exact this)); have HB5 := zH hb5; clear ho5 hb5)
     | (go_at_call 57; refine (HSn.out _ _ _ HT5.out _ ps.length HR5.out).mono ?_; rintro e w6 ⟨rfl, ho6, hb6⟩; have HT6 := zH (HT5.out.beside hb6); have HO6 := zH ho6; have HB6 := zH hb6; clear ho6 hb6))
    have HZ : Hid (TwS F w0 w6 hg g2 most (pp ++ th :: rr) (P ++ ⟨t0.id, ZN f th ps 0, t0.s⟩ :: R) n f ((A2, (ps.map (fun (k : Nat) => (k : Int))).map (Value.int .i64)) :: (some ⟨w5.heap.size, 0, none⟩, ((zB th ps).map (fun x => (f x).getD 0)).map (Value.int .i64)) :: rows)) := zH (by
     obtain ⟨b1, b2, b3, b4, b5, b6, b7, b8, b9, b10, b11, b12, T1, h1⟩ := HT1.out
     have B5 := HB4.out.trans (HB5.out.mono HB4.out.size)
     have B6 := B5.trans (HB6.out.mono B5.size)
     refine ⟨_, _, _, _, _, _, _, _, _, _, _, _, T1.beside B6, fun r hr => ?_⟩
     rcases List.mem_cons.1 hr with rfl | hr
     · exact ⟨(HR4.out.below HB5.out).below HB6.out, fun a ha _ h => by
        have h2 := HA4.out a ha
        have h3 := T1.g.lt h
        omega⟩
     · rcases List.mem_cons.1 hr with rfl | hr
       · refine ⟨Rds.own (show w6.ownsRow _ _ _ (.slice _ ps.length _) ps.length _ by have := HO6.out; unfold zT at this; rw [List.length_map, HWl.out] at this; exact this), fun a ha _ h => ?_⟩
         injection ha with ha
         subst ha
         have h3 := T1.g.lt h
         have h4 := B5.size
         have h5 : w5.heap.size = (⟨w5.heap.size, 0, none⟩ : Addr).block := rfl
         omega
       · exact (h1 r hr).beside B6)
    go_loopw [62] (fun i wr => ∃ k : Nat, k ≤ ps.length ∧ i = .int .i64 (k : Int) ∧ TwS F w0 wr hg g2 most (pp ++ th :: rr) (P ++ ⟨t0.id, ZN f th ps k, t0.s⟩ :: R) n f ((A2, (ps.map (fun (k : Nat) => (k : Int))).map (Value.int .i64)) :: (some ⟨w5.heap.size, 0, none⟩, ((zB th ps).map (fun x => (f x).getD 0)).map (Value.int .i64)) :: rows)) (fun i _ => ps.length - (intOf i).toNat)
    case atStart => exact ⟨0, Nat.zero_le _, rfl, HZ.out⟩
    case round =>
     obtain ⟨k, hk, rfl, hT⟩ := hrel
     have HT7 := zH hT
     by_cases hlt : k < ps.length
     · obtain ⟨hr1, hr2⟩ : Rds wr A2 ((ps.map (fun (k : Nat) => (k : Int))).map (Value.int .i64)) ∧ Rds wr (some ⟨w5.heap.size, 0, none⟩) (((zB th ps).map (fun x => (f x).getD 0)).map (Value.int .i64)) := by
        obtain ⟨b1, b2, b3, b4, b5, b6, b7, b8, b9, b10, b11, b12, T1, h1⟩ := hT
        exact ⟨(h1 _ List.mem_cons_self).1, (h1 _ (List.mem_cons_of_mem _ List.mem_cons_self)).1⟩
       obtain ⟨ba, oa, hA, hba, hca⟩ := hr1.at_ (k := k) (by simpa using hlt)
       obtain ⟨bv, ov, hV, hbv, hcv⟩ := hr2.at_ (k := k) (by simp [HWl.out]; exact hlt)
       have hw : (zB th ps)[k]'(by rw [HWl.out]; exact hlt) = th.W.getD ps[k] 0 := by unfold zB; rw [List.getElem_map]
       rw [List.getElem_map, List.getElem_map] at hca
       rw [List.getElem_map, List.getElem_map, hw] at hcv
       injection hV with hV
       injection hV with hV1 hV2
       subst hA
       subst hV1
       subst hV2
       rw [Nat.zero_add] at hcv
       have HSx := zH (HSt2.out wr k hlt _ hT)
       have hk1 : (k : Int) < (ps.length : Int) := by omega
       clear hr1 hr2 hw hT
       generalize (f (th.W.getD ps[k] 0)).getD 0 = v at *
       generalize ps[k] = pk at *
       go_wp2_with (go_at_call 41; refine HSx.out.mono ?_; rintro e w7 ⟨rfl, hT8⟩; have HT8 := zH hT8; clear hT8)
       go_roundw
       case rel => exact ⟨k + 1, by omega, by go_num, HT8.out⟩
       case measure => simp [intOf]; omega
     · have HE := zH (show k = ps.length by omega)
       have hkn : ¬ (k : Int) < (ps.length : Int) := by omega
       clear hT
       go_wp2_with fail
       go_end0
       refine ⟨rfl, ?_⟩
       obtain ⟨b1, b2, b3, b4, b5, b6, b7, b8, b9, b10, b11, b12, T1, h1⟩ := HT7.out
       rw [HE.out] at T1
       exact ⟨_, _, _, _, _, _, _, _, _, _, _, _, T1, fun r hr => h1 r (List.mem_cons_of_mem _ (List.mem_cons_of_mem _ hr))⟩
end
end ClU
namespace ClV
open Go.RowKit Base BinM HpM HpA HpB HpG HpT HpZ ClM LnkC ClA ClB ClC ClL ClR ClS ClT ClU
def cpT (ts : List Th) (f : Int → Option Int) (x : Int) : Th := match Zp ts x with
 | some t => (match Zh t with
   | some ps => ⟨t.id, ZN f t ps ps.length, 0⟩
   | none => ⟨t.id, List.replicate t.W.length 0, 0⟩)
 | none => ⟨0, [], 0⟩
theorem qV : ∀ {a b : List Th}, a.map (fun t => t.W.length) = b.map (fun t => t.W.length) → (raw a).length = (raw b).length
 | [], [], _ => rfl
 | [], _ :: _, h => by cases h
 | _ :: _, [], h => by cases h
 | x :: a, y :: b, h => by
   simp only [List.map_cons, List.cons.injEq] at h
   have := qV h.2
   unfold raw at this ⊢
   rw [List.flatMap_cons, List.flatMap_cons, List.length_append, List.length_append, this, Zd, Zd, h.1]
theorem VN (ts : List Th) (f : Int → Option Int) (x : Int) : (cpT ts f x).W.length = (QA ts x).W.length := by
 unfold cpT QA
 cases Zp ts x with
 | none => rfl
 | some t =>
   simp only
   cases Zh t with
   | none => rfl
   | some ps => simp [QZ]
def nsK (ts : List Th) (f : Int → Option Int) (out : List Int) (k : Nat) : List Th := (out.take k).map (cpT ts f) ++ (out.drop k).map (QA ts)
theorem uR (ts : List Th) (f : Int → Option Int) (out : List Int) : nsK ts f out 0 = zs ts out := by unfold nsK zs; simp
theorem nsK_at (ts : List Th) (f : Int → Option Int) {out : List Int} {k : Nat} (hk : k < out.length) : nsK ts f out k = (out.take k).map (cpT ts f) ++ QA ts out[k] :: (out.drop (k + 1)).map (QA ts) := by
 unfold nsK
 rw [List.drop_eq_getElem_cons hk, List.map_cons]
theorem nsK_succ (ts : List Th) (f : Int → Option Int) {out : List Int} {k : Nat} (hk : k < out.length) : nsK ts f out (k + 1) = (out.take k).map (cpT ts f) ++ cpT ts f out[k] :: (out.drop (k + 1)).map (QA ts) := by
 unfold nsK
 rw [List.take_succ_eq_append_getElem hk, List.map_append, List.append_assoc]
 rfl
theorem VE (ts : List Th) (f : Int → Option Int) (out : List Int) : nsK ts f out out.length = out.map (cpT ts f) := by unfold nsK; simp
theorem pos_at {ts : List Th} {f f' : Int → Option Int} {out : List Int} (hn : out.Nodup) {k : Nat} (hk : k < out.length) : zh ts f out out[k] = some (((raw ((out.take k).map (cpT ts f'))).length + 1 : Nat) : Int) := by
 unfold zh
 rw [if_pos (List.getElem_mem hk)]
 congr 1
 unfold posE
 have h1 : out.takeWhile (· != out[k]) = out.take k := by
  have h2 : out = out.take k ++ out[k] :: out.drop (k + 1) := by rw [← List.drop_eq_getElem_cons hk, List.take_append_drop]
  have h3 : out[k] ∉ out.take k := by
   intro hm
   rw [h2, List.nodup_append] at hn
   exact hn.2.2 _ hm _ List.mem_cons_self rfl
  have := Gx (r := out.drop (k + 1)) h3
  rw [← h2] at this
  exact this
 rw [h1]
 congr 2
 refine qV ?_
 unfold zs
 rw [List.map_map, List.map_map]
 exact List.map_congr_left (fun x _ => (VN ts f' x).symm)
theorem Vb {f : Int → Option Int} {t : Th} {ps : List Nat} (ht : ∀ x ∈ t.W, zo x) (hff : ∀ v, zo ((f v).getD 0)) : ∀ k, k ≤ ps.length → ∀ x ∈ ZN f t ps k, zo x
 | 0, _, x, hx => ht x hx
 | k + 1, hk, x, hx => by
   rw [Qw f t ps (by omega : k < ps.length)] at hx
   rcases List.mem_or_eq_of_mem_set hx with h | rfl
   · exact Vb ht hff k (by omega) x h
   · exact hff _
theorem JW {most : Nat} {ts : List Th} (Ft : Fits most ts) {f : Int → Option Int} (hff : ∀ v, zo ((f v).getD 0)) {out : List Int} (hg : ClM.Good (adr 0 ts) out) (k : Nat) : Fits most (nsK ts f out k) := by
 have hth : ∀ x t, Zp ts x = some t → t ∈ ts := fun x t h => uh h
 refine ⟨Ft.top, ?_, fun u hu => ?_, fun u hu => ?_⟩
 · have h1 : (raw (nsK ts f out k)).length = (raw (zs ts out)).length := by
    refine qV ?_
    unfold nsK zs
    rw [List.map_append, List.map_map, List.map_map, List.map_map]
    conv => rhs; rw [← List.take_append_drop k out, List.map_append]
    congr 1
    exact List.map_congr_left (fun x _ => VN ts f x)
   rw [h1, uL]
   exact Nat.le_trans (xD hg) Ft.len
 · unfold nsK at hu
   rcases List.mem_append.1 hu with hu | hu
   · obtain ⟨x, _, rfl⟩ := List.mem_map.1 hu
     unfold cpT
     cases h : Zp ts x with
     | none => simp
     | some t =>
       have := Ft.ids t (hth x t h)
       simp only
       cases Zh t <;> exact this
   · obtain ⟨x, _, rfl⟩ := List.mem_map.1 hu
     unfold QA
     cases h : Zp ts x with
     | none => simp
     | some t => exact Ft.ids t (hth x t h)
 · unfold nsK at hu
   rcases List.mem_append.1 hu with hu | hu
   · obtain ⟨x, _, rfl⟩ := List.mem_map.1 hu
     unfold cpT
     cases h : Zp ts x with
     | none => simp
     | some t =>
       simp only
       cases Zh t with
       | none => intro y hy; rw [List.eq_of_mem_replicate hy]; unfold zo; omega
       | some ps => exact Vb (Ft.fit t (hth x t h)) hff _ (Nat.le_refl _)
   · obtain ⟨x, _, rfl⟩ := List.mem_map.1 hu
     unfold QA
     cases h : Zp ts x with
     | none => simp
     | some t => intro y hy; rw [List.eq_of_mem_replicate hy]; unfold zo; omega
theorem sumW_sub {ts : List Th} (hw : ∀ t ∈ ts, t.W.length ≤ 4096) {out l : List Int} (h : l.length ≤ out.length) (ho : out.length ≤ 5000) : jB ts l ≤ 30000000 := by
 have := Vu hw l
 omega
theorem YH {most : Nat} {ts : List Th} (Ft : Fits most ts) {f : Int → Option Int} (hf : ∀ v, zo ((f v).getD 0)) {out : List Int} (ho : out.length ≤ 5000) (l : List Int) (hl : l.length ≤ out.length) : ∀ v, zo ((zh ts f l v).getD 0) := by
 intro v
 unfold zh
 by_cases h : v ∈ l
 · rw [if_pos h]
   unfold posE
   rw [uL]
   have hw : ∀ t ∈ ts, t.W.length ≤ 4096 := by
    intro t ht
    obtain ⟨pp, rr, rfl⟩ := List.append_of_mem ht
    have h1 := Z7 pp t rr
    have h2 := Ft.len
    have h3 := Ft.top
    omega
   have h1 : (l.takeWhile (· != v)).length ≤ l.length := (List.takeWhile_prefix _).length_le
   have := sumW_sub hw (Nat.le_trans h1 hl) ho
   show zo (((jB ts (l.takeWhile (· != v)) + 1 : Nat)) : Int)
   unfold zo
   omega
 · rw [if_neg h]; exact hf v
theorem ZY {A : List Int} : ∀ {xs out o : List Int}, come A out xs = some o → out <+: o
 | [], out, o, e => by
   simp only [come, Option.some.injEq] at e
   subst e
   exact List.prefix_refl _
 | x :: xs, out, o, e => by
   rw [come] at e
   split at e
   · exact ZY e
   · split at e
     · exact (List.prefix_append _ _).trans (ZY e)
     · cases e
theorem Zt {ts : List Th} : ∀ (k i : Nat) (out o : List Int), zP ts k i out = (0, o) → out <+: o
 | 0, i, out, o, e => by
   rw [zP] at e
   injection e with _ e
   subst e
   exact List.prefix_refl _
 | k + 1, i, out, o, e => by
   rw [zP] at e
   split at e
   · injection e with _ e
     subst e
     exact List.prefix_refl _
   · split at e
     · injection e with e _; cases e
     · split at e
       · injection e with e _; cases e
       · split at e
         · injection e with e _; cases e
         · rename_i o2 hc
           exact (ZY hc).trans (Zt k (i + 1) o2 o e)
theorem Xq {ts : List Th} : ∀ (k i : Nat) (out o : List Int), zP ts k i out = (0, o) → o.length < i + k → ∀ j (hj : j < o.length), i ≤ j → ∃ t ps, Zp ts o[j] = some t ∧ Zh t = some ps
 | 0, i, out, o, e, h, j, hj, hi => by omega
 | k + 1, i, out, o, e, h, j, hj, hi => by
   rw [zP] at e
   split at e
   · rename_i hn
     injection e with _ e
     subst e
     rw [List.getElem?_eq_none_iff] at hn
     omega
   · rename_i x hx
     split at e
     · injection e with e _; cases e
     · rename_i t ht
       split at e
       · injection e with e _; cases e
       · rename_i ps hp
         split at e
         · injection e with e _; cases e
         · rename_i o2 hc
           by_cases hij : i = j
           · subst hij
             have h2 : out <+: o := (ZY hc).trans (Zt k (i + 1) o2 o e)
             obtain ⟨hl, rfl⟩ := List.getElem?_eq_some_iff.1 hx
             refine ⟨t, ps, ?_, hp⟩
             rw [← ht]
             congr 1
             exact (h2.getElem hl).symm
           · exact Xq k (i + 1) o2 o e (by omega) j hj (by omega)
theorem Xt {ts : List Th} {roots o : List Int} (h : zn ts roots = (0, o)) : ∀ j (hj : j < o.length), ∃ t ps, Zp ts o[j] = some t ∧ Zh t = some ps := by
 have hg := Zu h
 have hl := hg.len
 rw [qd] at hl
 unfold zn at h
 split at h
 · injection h with h _; cases h
 · exact fun j hj => Xq (ts.length + 1) 0 _ o h (by omega) j hj (Nat.zero_le _)
end ClV
end Go.Proofs.YtmkdhdmkdcankaaGreatDoor
