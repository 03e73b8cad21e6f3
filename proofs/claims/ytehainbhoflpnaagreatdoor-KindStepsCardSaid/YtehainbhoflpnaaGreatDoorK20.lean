/- pieces -/
import Derived.Test.YtehainbhoflpnaaGreatDoorK19
namespace Go.Proofs.YtehainbhoflpnaaGreatDoor
namespace TabX
open Go.RowKit Base BinM Stru DescM DescW DescX HierS HierT HierM HierC HierD HierN Kls KlsP KlsQ TabC TabM TabK TabP TabE TabB TabG TabT
theorem jV {w w' : World} {b mb : Nat} {cells : Array Value} {T : TypeId} {es : Array MapEntry} {ck : Nat} (h : Bx w b cells T) (ho : w.heap[mb]? = some (.map es ck)) (hg : w.grownBy w' (some mb)) : Bx w' b cells T := by
 have hne : b ≠ mb := by
  rintro rfl
  unfold Bx at h
  rw [ho] at h
  cases h
 exact (hg.block b h.lt (by simpa using hne)).trans h
theorem QO {w w' : World} (mb : Nat) (h : Below w.heap.size w w') : w.grownBy w' (some mb) := ⟨h.os, h.tape, h.output, h.size, fun k hk _ => h.block k hk⟩
theorem ZT {w w' : World} {row : Option Nat} (h : w.grownBy w' row) {p : Addr} (hp : w.heap.size ≤ p.block) (u : Value) : w.grownBy (w'.setCell p u) row :=
 ⟨h.os, h.tape, h.output, by simpa using h.size, fun k hk hne => (heap_setCell_other w' p k u (by omega)).trans (h.block k hk hne)⟩
def zz : Value := .slice none 0 0
theorem zv7 {w : World} {b o : Nat} {T : TypeId} {x : Value} (h : Bx w b #[zz, zz] T) (hc : w.cell? ⟨b, o, none⟩ = some x) : x = zz := by
 unfold Bx at h
 unfold World.cell? at hc
 simp only [h] at hc
 match o, hc with
 | 0, hc => simpa using hc.symm
 | 1, hc => simpa using hc.symm
 | o + 2, hc => simp at hc
theorem zz0 {w w' : World} {b : Nat} {T : TypeId} {A : Option Addr} {xs : List Value} (h : Rds w A xs) (hb : Bx w b #[zz, zz] T) (hx : ∀ x, xs.head? = some x → x ≠ zz) (hs : w.heap.size ≤ w'.heap.size) (hk : ∀ k, k ≠ b → w'.heap[k]? = w.heap[k]?) : Rds w' A xs := by
 cases xs with
 | nil => exact .inl rfl
 | cons x r =>
   rcases h with h | ⟨d, o, rfl, hlt, hc⟩
   · cases h
   · have hne : d ≠ b := by
      rintro rfl
      exact hx x rfl (zv7 hb (hc 0 x rfl))
     refine .inr ⟨d, o, rfl, by omega, fun j u hu => ?_⟩
     rw [← hc j u hu]
     unfold World.cell?
     rw [show w'.heap[d]? = w.heap[d]? from hk d hne]
theorem Qq {α : Type} {f : α → List Value} {l : List α} {x : Value} (hf : ∀ a, ∃ y r, f a = y :: r ∧ y ≠ zz) (h : (l.flatMap f).head? = some x) : x ≠ zz := by
 cases l with
 | nil => simp at h
 | cons a r =>
   obtain ⟨y, t, e, hy⟩ := hf a
   rw [List.flatMap_cons, e] at h
   simp at h
   rw [← h]; exact hy
def kC (w w' : World) : Prop := ∀ A xs, Rds w A xs → (∀ x, xs.head? = some x → x ≠ zz) → Rds w' A xs
theorem Gn {w w' : World} {x : zO} (h : x.is w) (k : kC w w') : x.is w' :=
 ⟨h.fit, ⟨h.code.len, h.code.le, h.code.max, k _ _ h.code.rds (fun _ hx => Qq (fun a => ⟨_, _, rfl, by unfold zz; simp⟩) hx), h.code.fit⟩, ⟨h.hand.len, h.hand.le, h.hand.max, k _ _ h.hand.rds (fun _ hx => Qq (fun a => ⟨_, _, rfl, by unfold zz; simp⟩) hx), h.hand.fit⟩⟩
theorem Gp {w w' : World} {x : zf} (h : x.is w) (k : kC w w') : x.is w' :=
 ⟨⟨h.consts.len, h.consts.le, h.consts.max, k _ _ h.consts.rds (fun _ hx => Qq (fun a => ⟨_, _, rfl, by unfold zz; simp⟩) hx), h.consts.fit⟩, ⟨h.fields.len, h.fields.le, h.fields.max, k _ _ h.fields.rds (fun _ hx => Qq (fun a => ⟨_, _, rfl, by unfold zz; simp⟩) hx)⟩, ⟨h.meths.len, h.meths.le, h.meths.max, k _ _ h.meths.rds (fun _ hx => Qq (fun a => ⟨_, _, rfl, by unfold zz; simp⟩) hx), fun y hy => Gn (h.meths.each y hy) k⟩⟩
theorem uZ {w w' : World} {x : Zf} (h : x.is w) (k : kC w w') : x.is w' :=
 ⟨h.flen, h.fle, h.fmax, k _ _ h.frds (fun _ hx => Qq (fun a => ⟨_, _, rfl, by unfold zz; simp⟩) hx), h.mlen, h.mle, h.mmax, k _ _ h.mrds (fun _ hx => Qq (fun a => ⟨_, _, rfl, by unfold zz; simp⟩) hx)⟩
def two (w : World) (b : Nat) (u v : Value) : World := (w.setCell ⟨b, 0, none⟩ u).setCell ⟨b, 1, none⟩ v
theorem qw (w : World) (b : Nat) (u v : Value) (k : Nat) (hk : k ≠ b) : (two w b u v).heap[k]? = w.heap[k]? :=
 (heap_setCell_other _ ⟨b, 1, none⟩ k v hk).trans (heap_setCell_other w ⟨b, 0, none⟩ k u hk)
theorem Yu (w : World) (b : Nat) (u v : Value) : (two w b u v).heap.size = w.heap.size := by simp [two]
theorem Zw {w : World} {b : Nat} {T : TypeId} (h : Bx w b #[zz, zz] T) (u v : Value) : Bx (two w b u v) b #[u, v] T := (h.set 0 u).set 1 v
theorem zQ {lo : Nat} {w w' : World} (h : Below lo w w') {b : Nat} (hb : lo ≤ b) (u v : Value) : Below lo w (two w' b u v) := (h.setCell (p := ⟨b, 0, none⟩) hb u).setCell (p := ⟨b, 1, none⟩) hb v
theorem UQ {w w' : World} {row : Option Nat} (h : w.grownBy w' row) {b : Nat} (hb : w.heap.size ≤ b) (u v : Value) : w.grownBy (two w' b u v) row := ZT (ZT h (p := ⟨b, 0, none⟩) hb u) (p := ⟨b, 1, none⟩) hb v
theorem UO {w : World} {b : Nat} {T : TypeId} (h : Bx w b #[zz, zz] T) (u v : Value) : kC w (two w b u v) := fun _ _ hr hx => zz0 hr h hx (by rw [Yu]; exact Nat.le_refl _) (fun k hk => qw w b u v k hk)
theorem zn4 {lo : Nat} {w : World} {t g mb n : Nat} {A : Option Addr} {c : Nat} {h : Hr} {L : List zf} {f : T → Option Zf} (H : Ta lo w t g mb n A c h L f) {b : Nat} {T : TypeId} (hb : Bx w b #[zz, zz] T) (hl : lo ≤ b) (u v : Value) : Ta lo (two w b u v) t g mb n A c h L f := by
 have hk := UO hb u v
 have hbel : Below lo w (two w b u v) := zQ (Below.refl _ _) hl u v
 have htb : t ≠ b := by
  rintro rfl
  have h1 := H.box
  unfold Bx at h1 hb
  rw [h1] at hb
  simp at hb
 have hmb : mb ≠ b := by
  rintro rfl
  obtain ⟨es, ck, ho⟩ := H.map.obj
  unfold Bx at hb
  rw [ho] at hb
  cases hb
 exact ⟨(qw w b u v t htb).trans H.box, H.hier.below hbel, by rw [Yu]; exact H.base, H.lom, hk _ _ H.rds (fun _ hx => Qq (fun a => ⟨_, _, rfl, by unfold zz; simp⟩) hx), H.map.block (qw w b u v mb hmb), fun x hx => Gp (H.each x hx) hk, fun d x hx => ⟨uZ (H.havs d x hx).1 hk, (H.havs d x hx).2⟩⟩
def Uv (lo : Nat) (w : World) (t g mb n : Nat) (A : Option Addr) (c : Nat) (h : Hr) (L : List zf) (f : T → Option Zf) (q : T) (N : Nat) (e : Ending) (w' : World) : Prop :=
 ∃ (x : Zf) (f' : T → Option Zf) (n' : Nat), e = .returned x.V ∧ x.is w' ∧ x.fields = (hav L q).1 ∧ x.meths = (hav L q).2 ∧ Ta lo w' t g mb n' A c h L f' ∧ n' ≤ n + N ∧ (∀ d, f d ≠ none → f' d ≠ none) ∧ (L.find? (named q) ≠ none → f' q ≠ none) ∧ w.grownBy w' (some mb)
set_option maxRecDepth 100000 in
set_option maxHeartbeats 4000000 in
theorem YT {lo : Nat} {w : World} {t g mb n : Nat} {A : Option Addr} {c : Nat} {h : Hr} {L : List zf} {f : T → Option Zf} (H : Ta lo w t g mb n A c h L f) (q : T) (N : Nat) (hq : q.length ≤ 140737488351232) (x : Zf) (hf : f q = some x) :
 Calls Tryz.prog 37 #[.pointer (some ⟨t, 0, none⟩), .string ⟨q.toArray⟩] w (Uv lo w t g mb n A c h L f q N) := by
 obtain ⟨D, hown, hD, hall⟩ := H.map
 obtain ⟨hhas, hat⟩ := (hall q).2 x hf
 obtain ⟨v, ps, hrun, hv⟩ := (hown.alloc (.cells #[.slice none 0 0, .slice none 0 0] 111)).look_ok Kw Tryz.underlying103 (Xu _) (show RV noV.V = some (.held noV.V, []) from rfl) (YN q hq)
 obtain rfl : v = x.V := ku (hv.trans (by rw [hat]))
 rw [hhas] at hrun
 have b2 := H.box.cell 2
 have hgl := H.box.lt
 have HR := zH (Bx.new w #[.slice none 0 0, .slice none 0 0] 111)
 have f0 := HR.out.free 0
 have f1 := HR.out.free 1
 have HH := zH H
 have HV := zH (H.havs q x hf)
 have HF := zH hf
 clear H hown hD hall hhas hat hv hf
 obtain ⟨x0, x1, x2, x3, x4, x5, xf, xm⟩ := x
 simp only [Zf.V] at hrun
 go_enter Tryz.func37, Tryz.ntmps37
 go_wp2_with fail
 have EB0 : Below w.heap.size w (w.alloc (.cells #[.slice x0 x1 x2, .slice x3 x4 x5] 111)) := (Below.refl w.heap.size w).alloc (Nat.le_refl _) _
 have EB : Below w.heap.size w ((w.alloc (.cells #[.slice x0 x1 x2, .slice x3 x4 x5] 111)).alloc (.cells #[.slice x0 x1 x2, .slice x3 x4 x5] 111)) := EB0.alloc EB0.size _
 have HW : Bx ((w.alloc (.cells #[.slice x0 x1 x2, .slice x3 x4 x5] 111)).alloc (.cells #[.slice x0 x1 x2, .slice x3 x4 x5] 111)) w.heap.size #[.slice x0 x1 x2, .slice x3 x4 x5] 111 := (Bx.new w _ _).after ((Below.refl _ _).alloc (Nat.le_refl _) _)
 exact bodyPost_ret (v := .agg #[.slice x0 x1 x2, .slice x3 x4 x5]) (jl Tryz.results37 _ _ _ _ rfl (run_loadVar_row _ _ _ _ #[.slice x0 x1 x2, .slice x3 x4 x5] (0, 0) _ HW Tryz.underlying111 rfl YE)) rfl
  ⟨⟨x0, x1, x2, x3, x4, x5, xf, xm⟩, f, n, rfl, Jo HV.out.1 (yj EB), HV.out.2.1, HV.out.2.2, HH.out.ext EB, Nat.le_add_right _ _, fun _ hd => hd, fun _ => by rw [HF.out]; simp, QO mb EB⟩
set_option maxRecDepth 100000 in
set_option maxHeartbeats 4000000 in
theorem Xn {lo : Nat} {w : World} {t g mb n : Nat} {A : Option Addr} {c : Nat} {h : Hr} {L : List zf} {f : T → Option Zf} (H : Ta lo w t g mb n A c h L f) (q : T) (N : Nat) (hq : q.length ≤ 140737488351232) (hll : L.length ≤ 100000) (hf : f q = none) (hk : L.find? (named q) = none) :
 Calls Tryz.prog 37 #[.pointer (some ⟨t, 0, none⟩), .string ⟨q.toArray⟩] w (Uv lo w t g mb n A c h L f q N) := by
 obtain ⟨D, hown, hD, hall⟩ := H.map
 have hhas := (hall q).1 hf
 obtain ⟨v, ps, hrun, hv⟩ := (hown.alloc (.cells #[.slice none 0 0, .slice none 0 0] 111)).look_ok Kw Tryz.underlying103 (Xu _) (show RV noV.V = some (.held noV.V, []) from rfl) (YN q hq)
 obtain rfl : v = noV.V := ku (hv.trans (by rw [Maps.atKey_of_not_has hhas]))
 rw [hhas] at hrun
 have b2 := H.box.cell 2
 have hgl := H.box.lt
 have hb0 : Below w.heap.size w ((w.alloc (.cells #[.slice none 0 0, .slice none 0 0] 111)).alloc (.cells #[.slice none 0 0, .slice none 0 0] 111)) := ((Below.refl _ _).alloc (Nat.le_refl _) _).alloc (by simp) _
 have HB0 := zH hb0
 have HK := zH (Ky t _ _ A L L.length c q _ (H.ext hb0).box rfl hll (H.ext hb0).rds)
 have HR := zH ((Bx.new w #[.slice none 0 0, .slice none 0 0] 111).after ((Below.refl _ _).alloc (Nat.le_refl _) (.cells #[.slice none 0 0, .slice none 0 0] 111)))
 have HH := zH H
 have HF := zH hk
 have HZ := zH (jM hk)
 rw [show ZR q L = noC from by unfold ZR; rw [hk]; rfl, hk] at HK
 clear H hown hD hall hhas hv hf hk hb0
 simp only [Zf.V, noV] at hrun
 go_enter Tryz.func37, Tryz.ntmps37
 go_wp2_with fail
 refine HK.out.mono ?_
 rintro e w1 ⟨rfl, hb1⟩
 simp only [zf.V, noC]
 have R1 := zH (HR.out.after hb1)
 have f0 := R1.out.free 0
 have f1 := R1.out.free 1
 have r0 := R1.out.cell 0
 have r1 := R1.out.cell 1
 have hgl1 := R1.out.lt
 have EB1 := zH (HB0.out.trans (hb1.mono HB0.out.size))
 clear hb1
 go_wp2_with fail
 have K0 := zH ((R1.out.set 0 (.slice none 0 0)).set 1 (.slice none 0 0))
 have EB0 : Below w.heap.size w ((w1.setCell ⟨w.heap.size, 0, none⟩ (.slice none 0 0)).setCell ⟨w.heap.size, 1, none⟩ (.slice none 0 0)) := (EB1.out.setCell (p := ⟨w.heap.size, 0, none⟩) (Nat.le_refl _) _).setCell (p := ⟨w.heap.size, 1, none⟩) (Nat.le_refl _) _
 have EB : Below w.heap.size w (((w1.setCell ⟨w.heap.size, 0, none⟩ (.slice none 0 0)).setCell ⟨w.heap.size, 1, none⟩ (.slice none 0 0)).alloc (.cells #[.string ⟨#[]⟩, .string ⟨#[]⟩, .slice none 0 0, .slice none 0 0, .slice none 0 0] 81)) := EB0.alloc EB0.size _
 have HW : Bx (((w1.setCell ⟨w.heap.size, 0, none⟩ (.slice none 0 0)).setCell ⟨w.heap.size, 1, none⟩ (.slice none 0 0)).alloc (.cells #[.string ⟨#[]⟩, .string ⟨#[]⟩, .slice none 0 0, .slice none 0 0, .slice none 0 0] 81)) w.heap.size #[.slice none 0 0, .slice none 0 0] 111 := K0.out.after ((Below.refl _ _).alloc (Nat.le_refl _) _)
 exact bodyPost_ret (v := .agg #[.slice none 0 0, .slice none 0 0]) (jl Tryz.results37 _ _ _ _ rfl (run_loadVar_row _ _ _ _ #[.slice none 0 0, .slice none 0 0] (0, 0) _ HW Tryz.underlying111 rfl YE)) rfl
  ⟨noV, f, n, rfl, zr1 _, by rw [HZ.out]; rfl, by rw [HZ.out]; rfl, HH.out.ext EB, Nat.le_add_right _ _, fun _ hd => hd, fun hd => absurd HF.out hd, QO mb EB⟩
structure Done (lo : Nat) (w wx : World) (ob t g mb n : Nat) (A : Option Addr) (c : Nat) (h : Hr) (L : List zf) (f : T → Option Zf) (N : Nat) (s : T) (k : zf) (y : Zf) (f2 : T → Option Zf) (n2 : Nat) : Prop where
 box : Bx wx ob #[.slice y.fA y.fn y.fc, .slice y.mA y.mn y.mc] 111
 fresh : yF (w.heap.size + 1) wx y
 fs : y.fields = qZ (hav L s).1 k
 ms : y.meths = qC (hav L s).2 k
 ta : Ta lo wx t g mb n2 A c h L f2
 n : n2 ≤ n + N
 keep : ∀ d, f d ≠ none → f2 d ≠ none
 gr : w.grownBy wx (some mb)
 res : Bx wx w.heap.size #[zz, zz] 111
theorem Ym {lo lo' : Nat} {w w' : World} {y : Zf} (h : yF lo w y) (hl : lo' ≤ lo) (hs : w.heap.size ≤ w'.heap.size) (hk : ∀ k, lo ≤ k → k < w.heap.size → w'.heap[k]? = w.heap[k]?) : yF lo' w' y := by
 have rds : ∀ {A : Option Addr} {xs : List Value}, Rds w A xs → (∀ a, A = some a → lo ≤ a.block ∧ a.block < w.heap.size) → Rds w' A xs := by
  intro A xs hr he
  rcases hr with h0 | ⟨b, o, hA, hb, hc⟩
  · exact .inl h0
  · refine .inr ⟨b, o, hA, Nat.lt_of_lt_of_le hb hs, fun j u hu => ?_⟩
    rw [← hc j u hu]
    unfold World.cell?
    rw [show w'.heap[b]? = w.heap[b]? from hk b (he _ hA).1 hb]
 exact ⟨⟨h.is.flen, h.is.fle, h.is.fmax, rds h.is.frds h.f, h.is.mlen, h.is.mle, h.is.mmax, rds h.is.mrds h.m⟩, fun a ha => ⟨by have := (h.f a ha).1; omega, by have := (h.f a ha).2; omega⟩, fun a ha => ⟨by have := (h.m a ha).1; omega, by have := (h.m a ha).2; omega⟩⟩
structure After (lo : Nat) (w3 w4 : World) (t g mb n : Nat) (A : Option Addr) (c : Nat) (h : Hr) (L : List zf) (f : T → Option Zf) (N : Nat) (s : T) (x : Zf) (f2 : T → Option Zf) (n2 : Nat) : Prop where
 is : x.is w4
 fs : x.fields = (hav L s).1
 ms : x.meths = (hav L s).2
 ta : Ta lo w4 t g mb n2 A c h L f2
 n : n2 ≤ n + N
 keep : ∀ d, f d ≠ none → f2 d ≠ none
 gr : w3.grownBy w4 (some mb)
section
variable {lo : Nat} {w w3 w4 w5 : World} {t g mb n : Nat} {A : Option Addr} {c : Nat} {h : Hr} {L : List zf} {f : T → Option Zf} {N : Nat} {s : T} {x y : Zf} {f2 : T → Option Zf} {n2 : Nat} {k : zf}
theorem Yr (AF : After lo w3 w4 t g mb n A c h L f N s x f2 n2) (W : World) (hb : Below w4.heap.size w4 W) (hk : k ∈ L) (hfew : ∀ k ∈ L, k.fields.length ≤ 16 ∧ k.meths.length ≤ 32) :
 Calls Tryz.prog 85 #[.agg #[.slice x.fA x.fn x.fc, .slice x.mA x.mn x.mc], .agg #[.string ⟨k.name.toArray⟩, .string ⟨k.sup.toArray⟩, .slice k.kA k.km k.kc, .slice k.fA k.fm k.fc, .slice k.mA k.mm k.mc]] W fun e w' => ∃ y : Zf, e = .returned (.agg #[.slice y.fA y.fn y.fc, .slice y.mA y.mn y.mc]) ∧ yF W.heap.size w' y ∧ y.fields = qZ (hav L s).1 k ∧ y.meths = qC (hav L s).2 k ∧ Below W.heap.size W w' := by
 have h1 := yO hfew s
 have h2 := hfew k hk
 refine (zm2 x k W (Jo AF.is (yj hb)) ((AF.ta.each k hk).below hb) (by rw [AF.fs]; exact h1.1) (by rw [AF.ms]; exact h1.2) (by omega) (by omega)).mono ?_
 rintro e w' ⟨y, rfl, q1, q2, q3, q4⟩
 exact ⟨y, rfl, q1, by rw [q2, AF.fs], by rw [q3, AF.ms], q4⟩
theorem Zp6 (hb3 : Below w.heap.size w w3) (hs : w.heap.size + 1 ≤ w3.heap.size) (R3 : Bx w3 w.heap.size #[zz, zz] 111) (AF : After lo w3 w4 t g mb n A c h L f N s x f2 n2) (hy : yF w4.heap.size w5 y) (h1 : y.fields = qZ (hav L s).1 k) (h2 : y.meths = qC (hav L s).2 k) (hb5 : Below w4.heap.size w4 w5) (es : Array MapEntry) (ck : Nat) (ho : w3.heap[mb]? = some (.map es ck)) :
 Done lo w (w5.alloc (.cells #[.slice y.fA y.fn y.fc, .slice y.mA y.mn y.mc] 111)) w5.heap.size t g mb n A c h L f N s k y f2 n2 := by
 have h34 := AF.gr.size
 have h45 := hb5.size
 have hb6 : Below w4.heap.size w4 (w5.alloc (.cells #[.slice y.fA y.fn y.fc, .slice y.mA y.mn y.mc] 111)) := hb5.alloc h45 _
 refine ⟨Bx.new w5 _ _, Ym hy (by omega) (by simp) (fun k _ hk => Below.heap_alloc _ _ _ hk), h1, h2, AF.ta.ext hb6, AF.n, AF.keep, ?_, ?_⟩
 · exact ((QO mb hb3).trans AF.gr).trans (QO mb hb6)
 · exact (jV R3 ho AF.gr).after hb6
theorem Zp5 (hb3 : Below w.heap.size w w3) (hs : w.heap.size + 1 ≤ w3.heap.size) (R3 : Bx w3 w.heap.size #[zz, zz] 111) (AF : After lo w3 w4 t g mb n A c h L f N s x f2 n2) (hy : yF (w4.heap.size + 1) w5 y) (h1 : y.fields = qZ (hav L s).1 k) (h2 : y.meths = qC (hav L s).2 k) (hb5 : Below w4.heap.size w4 w5) (OB : Bx w5 w4.heap.size #[zz, zz] 111) (es : Array MapEntry) (ck : Nat) (ho : w3.heap[mb]? = some (.map es ck)) :
 Done lo w (two w5 w4.heap.size (.slice y.fA y.fn y.fc) (.slice y.mA y.mn y.mc)) w4.heap.size t g mb n A c h L f N s k y f2 n2 := by
 have h34 := AF.gr.size
 have h45 := hb5.size
 have hb6 : Below w4.heap.size w4 (two w5 w4.heap.size (.slice y.fA y.fn y.fc) (.slice y.mA y.mn y.mc)) := zQ hb5 (Nat.le_refl _) _ _
 refine ⟨Zw OB _ _, Ym hy (by omega) (by rw [Yu]; exact Nat.le_refl _) (fun k hk _ => qw _ _ _ _ _ (by omega)), h1, h2, AF.ta.ext hb6, AF.n, AF.keep, ?_, ?_⟩
 · exact ((QO mb hb3).trans AF.gr).trans (QO mb hb6)
 · exact (jV R3 ho AF.gr).after hb6
theorem Zp4 (hb3 : Below w.heap.size w w3) (hs : w.heap.size + 1 ≤ w3.heap.size) (R3 : Bx w3 w.heap.size #[zz, zz] 111) (hlo : lo ≤ w.heap.size) (AF : After lo (w3.alloc (.cells #[zz, zz] 111)) w4 t g mb n A c h L f N s x f2 n2) (hy : yF w4.heap.size w5 y) (h1 : y.fields = qZ (hav L s).1 k) (h2 : y.meths = qC (hav L s).2 k) (hb5 : Below w4.heap.size w4 w5) (OB : Bx w5 w3.heap.size #[zz, zz] 111) (es : Array MapEntry) (ck : Nat) (ho : w3.heap[mb]? = some (.map es ck)) :
 Done lo w (two w5 w3.heap.size (.slice y.fA y.fn y.fc) (.slice y.mA y.mn y.mc)) w3.heap.size t g mb n A c h L f N s k y f2 n2 := by
 have h34 := AF.gr.size
 have h45 := hb5.size
 have hs3 : (w3.alloc (.cells #[zz, zz] 111)).heap.size = w3.heap.size + 1 := by simp
 have hbz : Below w3.heap.size w3 (w3.alloc (.cells #[zz, zz] 111)) := (Below.refl _ _).alloc (Nat.le_refl _) _
 have hmb : mb < w3.heap.size := by
  rcases Nat.lt_or_ge mb w3.heap.size with h | h
  · exact h
  · rw [Array.getElem?_eq_none h] at ho; cases ho
 have ho2 : (w3.alloc (.cells #[zz, zz] 111)).heap[mb]? = some (.map es ck) := (hbz.block mb hmb).trans ho
 refine ⟨Zw OB _ _, Ym hy (by omega) (by rw [Yu]; exact Nat.le_refl _) (fun k hk _ => qw _ _ _ _ _ (by omega)), h1, h2, zn4 (AF.ta.ext hb5) OB (by omega) _ _, AF.n, AF.keep, ?_, ?_⟩
 · exact UQ ((((QO mb hb3).trans (QO mb hbz)).trans AF.gr).trans (QO mb hb5)) (by omega) _ _
 · refine (qw _ _ _ _ _ (by omega)).trans ?_
   exact (jV (R3.after hbz) ho2 AF.gr).after hb5
theorem Kj {es : Array MapEntry} {ck : Nat} (o : Obj) (ho : w3.heap[mb]? = some (.map es ck)) : (w3.alloc o).heap[mb]? = some (.map es ck) := by
 have hmb : mb < w3.heap.size := by
  rcases Nat.lt_or_ge mb w3.heap.size with h | h
  · exact h
  · rw [Array.getElem?_eq_none h] at ho; cases ho
 exact (((Below.refl w3.heap.size w3).alloc (Nat.le_refl _) o).block mb hmb).trans ho
theorem Zr4 {cb : Nat} {C : Array Value} {ty : TypeId} (h3 : Bx w3 cb C ty) {es : Array MapEntry} {ck : Nat} (ho : w3.drew.heap[mb]? = some (.map es ck)) (AF : After lo w3.drew w4 t g mb n A c h L f N s x f2 n2) : Bx w4 cb C ty :=
 jV (w := w3.drew) h3 ho AF.gr
theorem Qe {cb : Nat} {C : Array Value} {ty : TypeId} (h3 : Bx w3 cb C ty) {o : Obj} {es : Array MapEntry} {ck : Nat} (ho : w3.drew.heap[mb]? = some (.map es ck)) (AF : After lo (w3.drew.alloc o) w4 t g mb n A c h L f N s x f2 n2) : Bx w4 cb C ty :=
 jV (Bx.after (w := w3.drew) h3 ((Below.refl _ _).alloc (Nat.le_refl _) o)) (Kj o ho) AF.gr
theorem obC {es : Array MapEntry} {ck : Nat} {C : Array Value} {ty : TypeId} (ho : w3.drew.heap[mb]? = some (.map es ck)) (AF : After lo (w3.drew.alloc (.cells C ty)) w4 t g mb n A c h L f N s x f2 n2) : Bx w4 w3.heap.size C ty :=
 jV (Bx.new w3.drew C ty) (Kj _ ho) AF.gr
end
set_option maxRecDepth 100000 in
set_option maxHeartbeats 16000000 in
theorem KF {lo : Nat} {w : World} {t g mb n : Nat} {A : Option Addr} {c : Nat} {h : Hr} {L : List zf} {f : T → Option Zf} (H : Ta lo w t g mb n A c h L f) (q : T) (N : Nat) (hq : q.length ≤ 140737488351232) (hll : L.length ≤ 100000) (hfew : ∀ k ∈ L, k.fields.length ≤ 16 ∧ k.meths.length ≤ 32) (hn : n + N ≤ 100000) (hf : f q = none) (k : zf) (hk : L.find? (named q) = some k)
 (hhav : hav L q = (qZ (hav L k.sup).1 k, qC (hav L k.sup).2 k))
 (ih : ∀ W, Ta lo W t g mb n A c h L f → Calls Tryz.prog 37 #[.pointer (some ⟨t, 0, none⟩), .string ⟨k.sup.toArray⟩] W (Uv lo W t g mb n A c h L f k.sup N)) :
 Calls Tryz.prog 37 #[.pointer (some ⟨t, 0, none⟩), .string ⟨q.toArray⟩] w (Uv lo w t g mb n A c h L f q (N + 1)) := by
 obtain ⟨D, hown, hD, hall⟩ := H.map
 have hhas := (hall q).1 hf
 obtain ⟨v, ps, hrun, hv⟩ := (hown.alloc (.cells #[.slice none 0 0, .slice none 0 0] 111)).look_ok Kw Tryz.underlying103 (Xu _) (show RV noV.V = some (.held noV.V, []) from rfl) (YN q hq)
 obtain rfl : v = noV.V := ku (hv.trans (by rw [Maps.atKey_of_not_has hhas]))
 rw [hhas] at hrun
 have b2 := H.box.cell 2
 have hgl := H.box.lt
 have hmem : k ∈ L := List.mem_of_find?_eq_some hk
 have hb0 : Below w.heap.size w ((w.alloc (.cells #[.slice none 0 0, .slice none 0 0] 111)).alloc (.cells #[.slice none 0 0, .slice none 0 0] 111)) := ((Below.refl _ _).alloc (Nat.le_refl _) _).alloc (by simp) _
 have HB0 := zH hb0
 have HK := zH (Ky t _ _ A L L.length c q _ (H.ext hb0).box rfl hll (H.ext hb0).rds)
 have HR := zH ((Bx.new w #[.slice none 0 0, .slice none 0 0] 111).after ((Below.refl _ _).alloc (Nat.le_refl _) (.cells #[.slice none 0 0, .slice none 0 0] 111)))
 have HT := zH (fun (W : World) (hb : Below w.heap.size w W) => H.ext hb)
 have HG := zH (fun (W : World) (hb : Below w.heap.size w W) => (ih W (H.ext hb)).mono (R' := fun e w4 => ∃ (x : Zf) (f2 : T → Option Zf) (n2 : Nat), e = .returned (.agg #[.slice x.fA x.fn x.fc, .slice x.mA x.mn x.mc]) ∧ After lo W w4 t g mb n A c h L f N k.sup x f2 n2) fun e w4 h => by
  obtain ⟨x, f2, n2, rfl, q1, q2, q3, q4, q5, q6, _, q8⟩ := h
  exact ⟨x, f2, n2, rfl, q1, q2, q3, q4, q5, q6, q8⟩)
 have HLo := zH H.base
 have HC := zH (And.intro hmem hfew)
 have HV := zH hhav
 have HN := zH hn
 have HQ := zH hq
 have hobj : ∀ (W : World) (hb : Below w.heap.size w W), ∃ es ck, W.heap[mb]? = some (.map es ck) := fun W hb => (H.ext hb).map.obj
 have HO := zH hobj
 rw [show ZR q L = k from by unfold ZR; rw [hk]; rfl, hk] at HK
 clear H hown hD hall hhas hv hf hk hb0 ih hll hfew hmem hhav hn hq hobj
 simp only [Zf.V, noV] at hrun
 go_enter Tryz.func37, Tryz.ntmps37
 go_wp2_with fail
 refine HK.out.mono ?_
 rintro e w1 ⟨rfl, hb1⟩
 simp only [zf.V, Option.isSome_some]
 have EB1 := zH (HB0.out.trans (hb1.mono HB0.out.size))
 have hs1 : w.heap.size + 2 ≤ w1.heap.size := by have := hb1.size; simp at this; omega
 have hR3 : Bx (w1.alloc (.cells #[.string ⟨k.name.toArray⟩, .string ⟨k.sup.toArray⟩, .slice k.kA k.km k.kc, .slice k.fA k.fm k.fc, .slice k.mA k.mm k.mc] 81)) w.heap.size #[zz, zz] 111 := (HR.out.after hb1).after ((Below.refl _ _).alloc (Nat.le_refl _) _)
 have R3 := zH hR3
 have C3 := zH (Bx.new w1 #[.string ⟨k.name.toArray⟩, .string ⟨k.sup.toArray⟩, .slice k.kA k.km k.kc, .slice k.fA k.fm k.fc, .slice k.mA k.mm k.mc] 81)
 have E3 := zH (EB1.out.alloc EB1.out.size (.cells #[.string ⟨k.name.toArray⟩, .string ⟨k.sup.toArray⟩, .slice k.kA k.km k.kc, .slice k.fA k.fm k.fc, .slice k.mA k.mm k.mc] 81))
 have hs3 : (w1.alloc (.cells #[.string ⟨k.name.toArray⟩, .string ⟨k.sup.toArray⟩, .slice k.kA k.km k.kc, .slice k.fA k.fm k.fc, .slice k.mA k.mm k.mc] 81)).heap.size = w1.heap.size + 1 := by simp
 have HS3 := zH hs3
 clear hb1 hR3 hs3
 go_wp2_with fail
 go_upto_region 7 with fail
 generalize (w1.alloc (.cells #[.string ⟨k.name.toArray⟩, .string ⟨k.sup.toArray⟩, .slice k.kA k.km k.kc, .slice k.fA k.fm k.fc, .slice k.mA k.mm k.mc] 81)) = W3 at *
 have hc0 := C3.out.cell 0
 have hc1 := C3.out.cell 1
 have hc2 := C3.out.cell 2
 have hc3 := C3.out.cell 3
 have hc4 := C3.out.cell 4
 have hcl := C3.out.lt
 have ne3 : ¬ w1.heap.size = W3.heap.size := by have := HS3.out; omega
 have ne3' : ¬ W3.heap.size = w1.heap.size := by have := HS3.out; omega
 obtain ⟨es, ck, hob⟩ := HO.out W3.drew E3.out.drew
 have HOb := zH hob
 clear hob
 go_cut [8] (fun s8 wx => ∃ (ob : Nat) (y : Zf) (f2 : T → Option Zf) (n2 : Nat), s8 = .pointer (some ⟨ob, 0, none⟩) ∧ Done lo w wx ob t g mb n A c h L f N k.sup k y f2 n2)
 case first =>
  go_region_held3 (fun w' => w'.cell? ⟨w1.heap.size, 0, none⟩ = some (.string ⟨k.name.toArray⟩) ∧ w'.cell? ⟨w1.heap.size, 1, none⟩ = some (.string ⟨k.sup.toArray⟩) ∧ w'.cell? ⟨w1.heap.size, 2, none⟩ = some (.slice k.kA k.km k.kc) ∧ w'.cell? ⟨w1.heap.size, 3, none⟩ = some (.slice k.fA k.fm k.fc) ∧ w'.cell? ⟨w1.heap.size, 4, none⟩ = some (.slice k.mA k.mm k.mc)) (go_keep)
   (first
    | (go_at_call 85; have hq := AFC; clear hq; refine (Yr AFC.out _ (Below.refl _ _) HC.out.1 HC.out.2).mono ?_; rintro e w5 ⟨y, rfl, q1, q2, q3, hb5⟩; have OB := zH (OBC.out.after hb5); have p0 := OB.out.cell 0; have p1 := OB.out.cell 1; have g0 := OB.out.free 0; have g1 := OB.out.free 1; have YC := zH (And.intro q1 (And.intro q2 (And.intro q3 hb5))); have lt5 := OB.out.lt; have C5 := zH (C4.out.after hb5); have d0 := C5.out.cell 0; have d1 := C5.out.cell 1; have d2 := C5.out.cell 2; have d3 := C5.out.cell 3; have d4 := C5.out.cell 4; clear q1 q2 q3 hb5)
    | (go_at_call 85; have hq := AFA; clear hq; refine (Yr AFA.out _ ((Below.refl _ _).alloc (Nat.le_refl _) _) HC.out.1 HC.out.2).mono ?_; rintro e w5 ⟨y, rfl, q1, q2, q3, hb5⟩; have OB := zH ((Bx.new w4 #[zz, zz] 111).after hb5); have p0 := OB.out.cell 0; have p1 := OB.out.cell 1; have g0 := OB.out.free 0; have g1 := OB.out.free 1; have YB := zH (And.intro q1 (And.intro q2 (And.intro q3 hb5))); have lt5 := OB.out.lt; have C5 := zH ((C4.out.after ((Below.refl _ _).alloc (Nat.le_refl _) _)).after hb5); have d0 := C5.out.cell 0; have d1 := C5.out.cell 1; have d2 := C5.out.cell 2; have d3 := C5.out.cell 3; have d4 := C5.out.cell 4; clear q1 q2 q3 hb5)
    | (go_at_call 85; have hq := AFA; clear hq; refine (Yr AFA.out _ (Below.refl _ _) HC.out.1 HC.out.2).mono ?_; rintro e w5 ⟨y, rfl, q1, q2, q3, hb5⟩; have YA := zH (And.intro q1 (And.intro q2 (And.intro q3 hb5))); have C5 := zH (C4.out.after hb5); have d0 := C5.out.cell 0; have d1 := C5.out.cell 1; have d2 := C5.out.cell 2; have d3 := C5.out.cell 3; have d4 := C5.out.cell 4; have lt5 := C5.out.lt; clear q1 q2 q3 hb5)
    | (go_at_call 37; refine (HG.out _ (E3.out.drew.alloc E3.out.drew.size _)).mono ?_; rintro e w4 ⟨x, f2, n2, rfl, AF⟩; have OBC := zH (obC HOb.out AF); have AFC := zH AF; have C4 := zH (Qe C3.out HOb.out AF); have c0 := C4.out.cell 0; have c1 := C4.out.cell 1; have c2 := C4.out.cell 2; have c3 := C4.out.cell 3; have c4 := C4.out.cell 4; have lt4 := C4.out.lt; have ne4 : ¬ w1.heap.size = w4.heap.size := (by omega); have ne4' : ¬ w4.heap.size = w1.heap.size := (by omega); clear AF)
    | (go_at_call 37; refine (HG.out _ E3.out.drew).mono ?_; rintro e w4 ⟨x, f2, n2, rfl, AF⟩; have AFA := zH AF; have C4 := zH (Zr4 C3.out HOb.out AF); have c0 := C4.out.cell 0; have c1 := C4.out.cell 1; have c2 := C4.out.cell 2; have c3 := C4.out.cell 3; have c4 := C4.out.cell 4; have lt4 := C4.out.lt; have ne4 : ¬ w1.heap.size = w4.heap.size := (by omega); have ne4' : ¬ w4.heap.size = w1.heap.size := (by omega); clear AF))
  all_goals
   go_wp2_with fail
   go_meet
   first
    | exact ⟨_, y, f2, n2, rfl, Zp6 (w3 := W3.drew) E3.out.drew (by have := HS3.out; show w.heap.size + 1 ≤ W3.heap.size; omega) R3.out AFA.out YA.out.1 YA.out.2.1 YA.out.2.2.1 YA.out.2.2.2 es ck HOb.out⟩
    | exact ⟨_, y, f2, n2, rfl, Zp5 (w3 := W3.drew) E3.out.drew (by have := HS3.out; show w.heap.size + 1 ≤ W3.heap.size; omega) R3.out AFA.out (by have := YB.out.1; simpa using this) YB.out.2.1 YB.out.2.2.1 (((Below.refl _ _).alloc (Nat.le_refl _) _).trans (YB.out.2.2.2.mono (by simp))) OB.out es ck HOb.out⟩
    | exact ⟨_, y, f2, n2, rfl, Zp4 (w3 := W3.drew) E3.out.drew (by have := HS3.out; show w.heap.size + 1 ≤ W3.heap.size; omega) R3.out HLo.out AFC.out YC.out.1 YC.out.2.1 YC.out.2.2.1 YC.out.2.2.2 OB.out es ck HOb.out⟩
 case rest =>
  obtain ⟨ob, y, f2, n2, rfl, hd⟩ := hcut
  clear hc0 hc1 hc2 hc3 hc4 hcl ne3 ne3' HOb HG HT HO
  have Hd := zH hd
  obtain ⟨es2, ck2, ho2⟩ := hd.ta.map.obj
  have hm := hd.ta.map.block (w' := wc.drew) rfl
  obtain ⟨D2, hown2, hD2, hall2⟩ := hm
  obtain ⟨w6, hrun6, h61, h62⟩ := hown2.update Kw Tryz.underlying103 (by unfold maxLen; have := hd.n; have := HN.out; omega) (YN q HQ.out) (show RV y.V = some (.held y.V, []) from rfl)
  have hg6 : wc.grownBy w6 (some mb) := (QO mb (Below.refl wc.heap.size wc).drew).trans h62
  have Hm6 := zH (zr5 hD2 hall2 q y h61)
  have HG6 := zH hg6
  have kp := U0 hd.ta.map hg6
  have Y6 := zH (Jo hd.fresh.is kp)
  have HTa := zH (hd.ta.turn hg6 Hm6.out (fun d x hx => by
   by_cases e : d = q
   · subst e
     simp only [if_pos] at hx
     injection hx with hx
     subst hx
     exact ⟨Y6.out, by rw [hd.fs, HV.out], by rw [hd.ms, HV.out]⟩
   · simp only [if_neg e] at hx
     obtain ⟨k1, k2⟩ := hd.ta.havs d x hx
     exact ⟨Jo k1 kp, k2⟩))
  have b2 := hd.ta.box.cell 2
  have p0 := hd.box.cell 0
  have p1 := hd.box.cell 1
  have O6 := zH (jV hd.box ho2 hg6)
  have R6 := zH (jV hd.res ho2 hg6)
  have q0 := O6.out.cell 0
  have q1 := O6.out.cell 1
  have r0 := R6.out.cell 0
  have r1 := R6.out.cell 1
  have f0 := R6.out.free 0
  have f1 := R6.out.free 1
  simp only [Zf.V] at hrun6
  clear hd ho2 hown2 hD2 hall2 h61 h62 hg6 kp
  go_wp2_with fail
  go_region
  go_wp2_with fail
  have HW : Bx ((w6.setCell ⟨w.heap.size, 0, none⟩ (.slice y.fA y.fn y.fc)).setCell ⟨w.heap.size, 1, none⟩ (.slice y.mA y.mn y.mc)) w.heap.size #[.slice y.fA y.fn y.fc, .slice y.mA y.mn y.mc] 111 := Zw R6.out _ _
  exact bodyPost_ret (v := .agg #[.slice y.fA y.fn y.fc, .slice y.mA y.mn y.mc]) (jl Tryz.results37 _ _ _ _ rfl (run_loadVar_row _ _ _ _ #[.slice y.fA y.fn y.fc, .slice y.mA y.mn y.mc] (0, 0) _ HW Tryz.underlying111 rfl YE)) rfl
   ⟨y, fun c' => if c' = q then some y else f2 c', n2 + 1, rfl, uZ Y6.out (UO R6.out _ _), by rw [Hd.out.fs, HV.out], by rw [Hd.out.ms, HV.out], zn4 HTa.out R6.out HLo.out _ _, by have := Hd.out.n; omega, fun d hd => by
    show (if d = q then some y else f2 d) ≠ none
    split
    · simp
    · exact Hd.out.keep d hd, fun _ => by simp, UQ (Hd.out.gr.trans HG6.out) (Nat.le_refl _) _ _⟩
theorem GA {lo t g mb : Nat} {A : Option Addr} {c : Nat} {h : Hr} {L : List zf} {up : T → Option T} (hup : ∀ c k, L.find? (named c) = some k → up c = some k.sup) (hll : L.length ≤ 100000) (hfew : ∀ k ∈ L, k.fields.length ≤ 16 ∧ k.meths.length ≤ 32) (hlong : ∀ k ∈ L, k.sup.length ≤ 140737488351232)
 {q : T} {l : List T} (hw : Zz up q l) : l.length ≤ 41 → q.length ≤ 140737488351232 → ∀ (n : Nat) (f : T → Option Zf) (w : World), Ta lo w t g mb n A c h L f → n + l.length ≤ 100000 →
  Calls Tryz.prog 37 #[.pointer (some ⟨t, 0, none⟩), .string ⟨q.toArray⟩] w (Uv lo w t g mb n A c h L f q l.length) := by
 induction hw with
 | @top q hu =>
   intro _ hq n f w H hn
   cases hf : f q with
   | some x => exact YT H q _ hq x hf
   | none =>
     cases hk : L.find? (named q) with
     | none => exact Xn H q _ hq hll hf hk
     | some k => rw [hup q k hk] at hu; cases hu
 | @step q d l hu hw ih =>
   intro hl hq n f w H hn
   cases hf : f q with
   | some x => exact YT H q _ hq x hf
   | none =>
     cases hk : L.find? (named q) with
     | none => exact Xn H q _ hq hll hf hk
     | some k =>
       have e : k.sup = d := by
        have := (hup q k hk).symm.trans hu
        injection this
       have hl2 : l.length ≤ 41 := by simp at hl; omega
       have hn2 : n + l.length ≤ 100000 := by simp at hn; omega
       have hs := hlong k (List.mem_of_find?_eq_some hk)
       refine KF H q l.length hq hll hfew hn2 hf k hk (YQ hup (Zz.step hu hw) hl hk) (fun W HW => ?_)
       rw [e] at hs ⊢
       exact ih hl2 hs n f W HW hn2
end TabX
end Go.Proofs.YtehainbhoflpnaaGreatDoor
