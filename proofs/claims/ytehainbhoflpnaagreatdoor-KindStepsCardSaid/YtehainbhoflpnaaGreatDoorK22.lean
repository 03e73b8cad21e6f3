/- pieces -/
import Derived.Test.YtehainbhoflpnaaGreatDoorK20
import Derived.Test.YtehainbhoflpnaaGreatDoorK21
namespace Go.Proofs.YtehainbhoflpnaaGreatDoor
namespace TabN
open Go.RowKit Base BinM Stru DescM DescW DescX DescS DescG DescP DescQ HierS HierT HierM HierC HierD HierN Kls KlsP KlsQ OpenK TabC TabM TabK TabP TabE TabB TabG TabH TabT TabU TabV TabX TabW
def zl9 (x : zf) : CE := ⟨x.name, x.sup, x.kA, x.km, x.kc, x.fA, x.fm, x.fc, x.mA, x.mm, x.mc⟩
theorem XC (L : List zf) : (L.map zl9).flatMap CE.vals = L.flatMap jB := by rw [List.flatMap_map]; rfl
theorem kZ (L : List zf) : (L.map zl9).map CE.p2 = pairs L := by rw [List.map_map]; rfl
def OnC (x : zf) (b : Nat) : Prop := (∃ a, x.kA = some a ∧ a.block = b) ∨ (∃ a, x.fA = some a ∧ a.block = b) ∨ (∃ a, x.mA = some a ∧ a.block = b) ∨ ∃ m ∈ x.meths, (∃ a, m.cA = some a ∧ a.block = b) ∨ ∃ a, m.hA = some a ∧ a.block = b
structure yC (lo : Nat) (w : World) (x : zf) : Prop where
 is : x.is w
 on : ∀ b, OnC x b → lo ≤ b ∧ b < w.heap.size
theorem Zk3 {lo : Nat} {w : World} {x : zf} (h : kE lo w x) : yC lo w x := by
 refine ⟨h.is, fun b hb => ?_⟩
 rcases hb with ⟨a, ha, rfl⟩ | ⟨a, ha, rfl⟩ | ⟨a, ha, rfl⟩ | ⟨m, hm, ⟨a, ha, rfl⟩ | ⟨a, ha, rfl⟩⟩
 · exact h.k a ha
 · exact h.f a ha
 · exact h.m a ha
 · exact (h.each m hm).code a ha
 · exact (h.each m hm).hand a ha
theorem ZU {w w' : World} {A : Option Addr} {xs : List Value} (h : Rds w A xs) (hs : w.heap.size ≤ w'.heap.size) (hb : ∀ a, A = some a → w'.heap[a.block]? = w.heap[a.block]?) : Rds w' A xs := by
 rcases h with rfl | ⟨b, o, rfl, hlt, hc⟩
 · exact .inl rfl
 · refine .inr ⟨b, o, rfl, by omega, fun j u hu => ?_⟩
   rw [← hc j u hu]
   unfold World.cell?
   rw [show w'.heap[b]? = w.heap[b]? from hb _ rfl]
theorem yC.same {lo : Nat} {w w' : World} {x : zf} (h : yC lo w x) (hs : w.heap.size ≤ w'.heap.size) (hb : ∀ b, OnC x b → w'.heap[b]? = w.heap[b]?) : yC lo w' x := by
 obtain ⟨⟨hk, hf, hm⟩, hon⟩ := h
 refine ⟨⟨⟨hk.len, hk.le, hk.max, ZU hk.rds hs (fun a ha => hb _ (.inl ⟨a, ha, rfl⟩)), hk.fit⟩, ⟨hf.len, hf.le, hf.max, ZU hf.rds hs (fun a ha => hb _ (.inr (.inl ⟨a, ha, rfl⟩)))⟩, ⟨hm.len, hm.le, hm.max, ZU hm.rds hs (fun a ha => hb _ (.inr (.inr (.inl ⟨a, ha, rfl⟩)))), fun y hy => ?_⟩⟩, fun b h1 => ⟨(hon b h1).1, by have := (hon b h1).2; omega⟩⟩
 have h2 := hm.each y hy
 exact ⟨h2.fit, ⟨h2.code.len, h2.code.le, h2.code.max, ZU h2.code.rds hs (fun a ha => hb _ (.inr (.inr (.inr ⟨y, hy, .inl ⟨a, ha, rfl⟩⟩)))), h2.code.fit⟩, ⟨h2.hand.len, h2.hand.le, h2.hand.max, ZU h2.hand.rds hs (fun a ha => hb _ (.inr (.inr (.inr ⟨y, hy, .inr ⟨a, ha, rfl⟩⟩)))), h2.hand.fit⟩⟩
theorem yC.mono {lo lo' : Nat} {w : World} {x : zf} (h : yC lo' w x) (hl : lo ≤ lo') : yC lo w x := ⟨h.is, fun b hb => ⟨Nat.le_trans hl (h.on b hb).1, (h.on b hb).2⟩⟩
theorem yC.below {lo : Nat} {w w' : World} {x : zf} (h : yC lo w x) (hb : Below w.heap.size w w') : yC lo w' x := h.same hb.size (fun b h1 => hb.block b (h.on b h1).2)
structure N1 (B : Nat) (w1 wr : World) (t g mb : Nat) (A : Option Addr) (cap : Nat) (cs L : List zf) : Prop where
 box : Bx wr t #[.pointer (some ⟨g, 0, none⟩), .slice A cs.length cap, .map (some mb)] 105
 map : wr.heap[mb]? = some (.map #[] 0)
 own : wr.ownsRow B 81 5 (.slice A cs.length cap) cs.length (cs.flatMap jB)
 bare : cs.map zR = L.map zR
 each : ∀ y ∈ cs, yC B wr y
 far : ∀ y ∈ cs, ∀ b, OnC y b → some b ≠ (Value.slice A cs.length cap).ownBlock
 tB : t < B
 mB : mb < B
 lm : w1.heap.size ≤ mb
 lt : w1.heap.size ≤ t
 ne : t ≠ mb
 sz : B ≤ wr.heap.size
 bel : Below w1.heap.size w1 wr
theorem N1.start (w1 : World) (g : Nat) : N1 (w1.heap.size + 2) w1 ((w1.alloc (.map #[] 0)).alloc (.cells #[.pointer (some ⟨g, 0, none⟩), .slice none 0 0, .map (some w1.heap.size)] 105)) (w1.heap.size + 1) g w1.heap.size none 0 [] [] := by
 have hs : (w1.alloc (.map #[] 0)).heap.size = w1.heap.size + 1 := by simp
 have h1 := Bx.new (w1.alloc (.map #[] 0)) #[.pointer (some ⟨g, 0, none⟩), .slice none 0 0, .map (some w1.heap.size)] 105
 rw [hs] at h1
 have h2 : ((w1.alloc (.map #[] 0)).alloc (.cells #[.pointer (some ⟨g, 0, none⟩), .slice none 0 0, .map (some w1.heap.size)] 105)).heap[w1.heap.size]? = some (.map #[] 0) := by
  rw [Below.heap_alloc _ _ _ (by simp)]
  exact heap_alloc_new w1 _
 exact ⟨h1, h2, World.ownsRow_nil _ _ _ _, rfl, by simp, by simp, by omega, by omega, by omega, by omega, by omega, by simp, ((Below.refl _ _).alloc (Nat.le_refl _) _).alloc (by simp) _⟩
theorem N1.ext {B : Nat} {w1 wr w' : World} {t g mb : Nat} {A : Option Addr} {cap : Nat} {cs L : List zf} (h : N1 B w1 wr t g mb A cap cs L) (hb : Below wr.heap.size wr w') : N1 B w1 w' t g mb A cap cs L :=
 ⟨h.box.after hb, (hb.block _ (by have := h.mB; have := h.sz; omega)).trans h.map, zh h.own (fun q hq => hb.block q (h.own.lt q hq).2), h.bare, fun y hy => (h.each y hy).below hb, h.far, h.tB, h.mB, h.lm, h.lt, h.ne, Nat.le_trans h.sz hb.size, h.bel.trans (hb.mono h.bel.size)⟩
theorem N1.push {B : Nat} {w1 W W2 : World} {t g mb : Nat} {A : Option Addr} {cap : Nat} {cs L : List zf} (h : N1 B w1 W t g mb A cap cs L) {x y : zf} (hy : yC B W y) (hyf : ∀ b, OnC y b → some b ≠ (Value.slice A cs.length cap).ownBlock) (hxy : zR y = zR x) (v : Value)
 (hF : W2.ownsRow B 81 5 v (cs.length + 1) ((cs ++ [y]).flatMap jB)) (hg : W.grownBy W2 (Value.slice A cs.length cap).ownBlock) (hat : v.ownBlock = (Value.slice A cs.length cap).ownBlock ∨ v.ownBlock = some W.heap.size) :
 ∃ A' cap', v = .slice A' (cs.length + 1) cap' ∧ Bx W2 t #[.pointer (some ⟨g, 0, none⟩), .slice A cs.length cap, .map (some mb)] 105 ∧ N1 B w1 (W2.setCell ⟨t, 1, none⟩ v) t g mb A' cap' (cs ++ [y]) (L ++ [x]) := by
 obtain ⟨A', cap', rfl, _, _, _, _⟩ := zS hF
 have hrow : ∀ k, k < B → some k ≠ (Value.slice A cs.length cap).ownBlock := fun k hk e => by have := (h.own.lt k e.symm).1; omega
 have htB := h.tB
 have hmB := h.mB
 have hsz := h.sz
 have hsz2 := hg.size
 have hbx : Bx W2 t #[.pointer (some ⟨g, 0, none⟩), .slice A cs.length cap, .map (some mb)] 105 := (hg.block t h.box.lt (hrow t htB)).trans h.box
 have hset : ∀ k, k ≠ t → (W2.setCell ⟨t, 1, none⟩ (.slice A' (cs.length + 1) cap')).heap[k]? = W2.heap[k]? := fun k hk => heap_setCell_other W2 ⟨t, 1, none⟩ k _ hk
 have hsz3 : (W2.setCell ⟨t, 1, none⟩ (.slice A' (cs.length + 1) cap')).heap.size = W2.heap.size := by simp
 have keep : ∀ z : zf, yC B W z → (∀ b, OnC z b → some b ≠ (Value.slice A cs.length cap).ownBlock) → yC B (W2.setCell ⟨t, 1, none⟩ (.slice A' (cs.length + 1) cap')) z := fun z hz hf =>
  hz.same (by omega) (fun b hb => (hset b (by have := (hz.on b hb).1; omega)).trans (hg.block b (hz.on b hb).2 (hf b hb)))
 refine ⟨A', cap', rfl, hbx, ?_, ?_, ?_, ?_, ?_, ?_, htB, hmB, h.lm, h.lt, h.ne, by omega, ?_⟩
 · have := hbx.set 1 (.slice A' (cs.length + 1) cap')
   rw [show (cs ++ [y]).length = cs.length + 1 from by simp]
   exact this
 · exact (hset mb (Ne.symm h.ne)).trans ((hg.block mb (by omega) (hrow mb hmB)).trans h.map)
 · rw [show (cs ++ [y]).length = cs.length + 1 from by simp]
   exact zh hF (fun q hq => hset q (by have := (hF.lt q hq).1; omega))
 · rw [List.map_append, List.map_append, h.bare, List.map_cons, List.map_cons, hxy]
 · intro z hz
   rcases List.mem_append.1 hz with hz | hz
   · exact keep z (h.each z hz) (h.far z hz)
   · simp at hz; subst hz; exact keep z hy hyf
 · intro z hz b hb
   rw [show (cs ++ [y]).length = cs.length + 1 from by simp]
   have hold : yC B W z ∧ some b ≠ (Value.slice A cs.length cap).ownBlock := by
    rcases List.mem_append.1 hz with hz | hz
    · exact ⟨h.each z hz, h.far z hz b hb⟩
    · simp at hz; subst hz; exact ⟨hy, hyf b hb⟩
   rcases hat with e | e
   · rw [e]; exact hold.2
   · rw [e]
     have := (hold.1.on b hb).2
     intro e2
     injection e2 with e2
     omega
 · exact (zV h.bel h.own (by have := h.lm; omega) h.bel.size hg).setCell (p := ⟨t, 1, none⟩) h.lt _
theorem N1.ta {B : Nat} {w1 wr : World} {t g mb : Nat} {A : Option Addr} {cap : Nat} {cs L : List zf} {h : Hr} (H : N1 B w1 wr t g mb A cap cs L) (hh : IsH w1.heap.size w1 g h) : Ta w1.heap.size wr t g mb 0 A cap h cs (fun _ => none) := by
 refine ⟨H.box, hh.below H.bel, H.bel.size, H.lm, Rds.qU H.own, ⟨.map [], ⟨#[], 0, H.map, ⟨by simp, MapKept.stamped_empty 0, by simp⟩, Nat.le_refl _, rfl⟩, Maps.isMap_empty, fun c => ⟨fun _ => rfl, fun i h => ?_⟩⟩, fun x hx => (H.each x hx).is, fun d x hx => ?_⟩
 · cases h
 · cases hx
end TabN
namespace TabO
open Go.RowKit Base BinM Stru DescM DescW DescX DescS DescG DescP DescQ HierS HierT HierM HierC HierD HierN HierV Kls KlsP KlsQ OpenK TabC TabM TabK TabP TabE TabB TabG TabH TabT TabU TabV TabX TabW TabF TabN
theorem zw4 {C L : List zf} (h : C.map zR = L.map zR) {k : zf} (hk : k ∈ C) : ∃ k' ∈ L, zR k = zR k' := by
 have h1 : zR k ∈ C.map zR := List.mem_map.2 ⟨k, hk, rfl⟩
 rw [h] at h1
 obtain ⟨k', h2, h3⟩ := List.mem_map.1 h1
 exact ⟨k', h2, h3.symm⟩
theorem gM {C L : List zf} (h : C.map zR = L.map zR) {j : Nat} (hj : j < C.length) (hl : j < L.length) : zR C[j] = zR L[j] := by
 have h1 := congrArg (fun l => l[j]?) h
 simp only [List.getElem?_map, List.getElem?_eq_getElem hj, List.getElem?_eq_getElem hl, Option.map_some] at h1
 injection h1
structure Alk (k k' : zf) : Prop where
 name : k.name = k'.name
 sup : k.sup = k'.sup
 consts : k.consts = k'.consts
 fields : k.fields = k'.fields
 meths : k.meths.map xw = k'.meths.map xw
theorem zw7 {k k' : zf} (h : zR k = zR k') : Alk k k' := by
 unfold zR at h
 injection h with h1 h2 h3 h4 h5 h6 h7 h8 h9 h10 h11 h12 h13 h14
 exact ⟨h1, h2, h12, h13, h14⟩
theorem Alk.few {k k' : zf} (h : Alk k k') (hf : k'.fields.length ≤ 16 ∧ k'.meths.length ≤ 32) : k.fields.length ≤ 16 ∧ k.meths.length ≤ 32 := by
 have := congrArg List.length h.meths
 simp only [List.length_map] at this
 rw [h.fields, this]
 exact hf
theorem Alk.lt {k k' : zf} (h : Alk k k') (hl : zf.lt k') : zf.lt k := by
 refine ⟨by rw [h.name]; exact hl.name, by rw [h.sup]; exact hl.sup, by rw [h.consts]; exact hl.consts, by rw [h.fields]; exact hl.fields, fun m hm => ?_⟩
 have h1 : xw m ∈ k.meths.map xw := List.mem_map.2 ⟨m, hm, rfl⟩
 rw [h.meths] at h1
 obtain ⟨m', h2, h3⟩ := List.mem_map.1 h1
 unfold xw ofP zO.pure at h3
 injection h3 with q1 q2 q3 q4 q5 q6 q7 q8 q9 q10 q11
 have hm' := hl.meths m' h2
 have e1 : m'.name = m.name := q1
 have e2 : m'.sig = m.sig := q2
 have e3 : m'.hand = m.hand := q11
 exact ⟨by rw [← e1]; exact hm'.name, by rw [← e2]; exact hm'.sig, by rw [← e3]; exact hm'.hand⟩
theorem zs7 : (Tryz.prog.info? 81).map (fun i => (i.zero, i.size, i.bytes)) = some (some (.agg #[.string ⟨#[]⟩, .string ⟨#[]⟩, .slice none 0 0, .slice none 0 0, .slice none 0 0]), 5, 104) := by kernel_rfl
theorem zo3 {B : Nat} {w1 w5 w6 w7 : World} {t g mb : Nat} {A1 : Option Addr} {cap : Nat} {cs L : List zf} {x y : zf} {gg cap7 : Nat} (H5 : N1 B w1 w5 t g mb A1 cap cs L) (hy : kE w5.drew.heap.size w6 y) (hxy : zR y = zR x) (hb6 : Below w5.drew.heap.size w5.drew w6) (o : Obj)
 (hown7 : w7.ownsRow B 81 5 (.slice (some ⟨gg, 0, none⟩) (cs.length + 1) cap7) (cs.length + 1) (cs.flatMap jB ++ jB y)) (hg7 : (w6.alloc o).grownBy w7 (Value.slice A1 cs.length cap).ownBlock) (hat7 : (Value.slice A1 cs.length cap).ownBlock = some gg ∨ gg = w6.heap.size + 1) :
 Bx w7 t #[.pointer (some ⟨g, 0, none⟩), .slice A1 cs.length cap, .map (some mb)] 105 ∧ N1 B w1 (w7.setCell ⟨t, 1, none⟩ (.slice (some ⟨gg, 0, none⟩) (cs.length + 1) cap7)) t g mb (some ⟨gg, 0, none⟩) cap7 (cs ++ [y]) (L ++ [x]) := by
 have hb56 : Below w5.heap.size w5 w6 := (Below.refl w5.heap.size w5).drew.trans hb6
 have hs5 : B ≤ w5.heap.size := H5.sz
 have H6 := (H5.ext hb56).ext ((Below.refl w6.heap.size w6).alloc (Nat.le_refl _) o)
 have ow : yC w5.heap.size w6 y := Zk3 hy
 have hy7 : yC B (w6.alloc o) y := (ow.mono hs5).below ((Below.refl w6.heap.size w6).alloc (Nat.le_refl _) o)
 obtain ⟨A', cap', hv, hbx, hN⟩ := H6.push hy7 (fun b hb e => by
  have h1 := (ow.on b hb).1
  have h2 := (H5.own.lt b e.symm).2
  omega) hxy (.slice (some ⟨gg, 0, none⟩) (cs.length + 1) cap7) (by
   rw [List.flatMap_append, List.flatMap_cons, List.flatMap_nil, List.append_nil]
   exact hown7) hg7 (by
   rcases hat7 with h | h
   · exact .inl h.symm
   · exact .inr (by rw [h]; simp [Value.ownBlock]))
 injection hv with h1 h2 h3
 subst h1
 subst h3
 exact ⟨hbx, hN⟩
theorem Zd6 {cs : List zf} {k : zf} (hk : k ∈ cs) : cs.find? (named k.name) ≠ none := by
 intro h
 rw [List.find?_eq_none] at h
 exact h k hk (by unfold named; simp)
theorem zt4 {h : Hr} {C L : List zf} (hb : C.map zR = L.map zR) {q : Nat} (hz : ∀ x ∈ C.take q, qL h C x = 0) : ∀ x ∈ L.take q, qL h L x = 0 := by
 intro x hx
 have hl : C.length = L.length := by have := congrArg List.length hb; simpa using this
 obtain ⟨i, hi, rfl⟩ := List.mem_iff_getElem.1 hx
 rw [List.length_take] at hi
 rw [List.getElem_take]
 have hiC : i < (C.take q).length := by rw [List.length_take]; omega
 have h1 := hz _ (List.getElem_mem hiC)
 rw [List.getElem_take] at h1
 rw [← vP hb (gM hb (by omega) (by omega))]
 exact h1
theorem zj4 {cs : List zf} {f f' : T → Option Zf} {q : Nat} (hq : q < cs.length) (h : ∀ k ∈ cs.take q, f k.name ≠ none) (hk : ∀ d, f d ≠ none → f' d ≠ none) (hn : cs.find? (named cs[q].name) ≠ none → f' cs[q].name ≠ none) : ∀ k ∈ cs.take (q + 1), f' k.name ≠ none := by
 intro k hk2
 rw [List.take_succ_eq_append_getElem hq, List.mem_append] at hk2
 rcases hk2 with hk2 | hk2
 · exact hk _ (h k hk2)
 · simp at hk2; subst hk2; exact hn (Zd6 (List.getElem_mem hq))
theorem zn3 {cs : List zf} {f : T → Option Zf} (h : ∀ k ∈ cs, f k.name ≠ none) : Total cs f := by
 intro d hd
 cases hf : cs.find? (named d) with
 | none => exact absurd hf hd
 | some k =>
   obtain ⟨h1, h2⟩ := jK hf
   rw [← h2]
   exact h k h1
def zx6 (L : List zf) (w : World) (e : Ending) (w' : World) : Prop :=
 Below w.heap.size w w' ∧ (((J6 L).2 = 0 ∧ ∃ (lo t g mb n : Nat) (A : Option Addr) (c : Nat) (C : List zf) (f : T → Option Zf), e = .returned (.tuple #[.pointer (some ⟨t, 0, none⟩), .string ⟨#[]⟩, .int .i64 0]) ∧ w.heap.size ≤ lo ∧ Ta lo w' t g mb n A c (mk (pairs L)) C f ∧ Total C f ∧ C.map zR = L.map zR ∧ (qg (pairs L)).2 = 0 ∧ ∀ x ∈ L, qY x = 0) ∨
  ((J6 L).2 ≠ 0 ∧ e = .returned (.tuple #[.pointer none, .string ⟨(J6 L).1.toArray⟩, .int .i64 (J6 L).2])))
theorem xR {L : List zf} {w w' : World} {c : T} {n : Int} (h : J6 L = (c, n)) (hn : n ≠ 0) (hb : Below w.heap.size w w') : zx6 L w (.returned (.tuple #[.pointer none, .string ⟨c.toArray⟩, .int .i64 n])) w' :=
 ⟨hb, .inr ⟨by rw [h]; exact hn, by rw [h]⟩⟩
set_option maxRecDepth 100000 in
set_option maxHeartbeats 16000000 in
theorem Vx (A : Option Addr) (l : List zf) (m c : Nat) (w : World) (hm : m = l.length) (hr : Rds w A (l.flatMap jB)) (his : ∀ x ∈ l, x.is w ∧ zf.lt x) (hL : InsA.Laid w) :
 Calls Tryz.prog 17 #[.slice A m c] w (zx6 l w) := by
 have HN := HierW.Vx A (l.map zl9) m c w (by simpa using hm) (by rw [XC]; exact hr) (by
  intro x hx
  obtain ⟨y, hy, rfl⟩ := List.mem_map.1 hx
  have := (his y hy).2.name
  show y.name.length ≤ _
  omega)
 rw [kZ] at HN
 have HN0 := zH HN
 have Hr := zH hr
 have His := zH his
 have HL := zH hL
 have hmm := @run_makeMap Tryz.prog
 obtain ⟨i0, hi0, hz0, hz1, hz2⟩ := info_parts zs7
 have I0 := zH hi0
 have I1 := zH hz0
 have I2 := zH hz1
 have I3 := zH hz2
 clear hi0 hz0 hz1 hz2 HN hr his hL
 subst hm
 go_enter Tryz.func17, Tryz.ntmps17
 go_wp2_with fail
 refine HN0.out.mono ?_
 rintro e w1 ⟨hb1, hor⟩
 have B1 := zH hb1
 clear hb1
 rcases hor with ⟨hz, g, rfl, hH⟩ | ⟨hne, rfl⟩
 · have HZ := zH hz
   have HH := zH hH
   have hp32 := zH (QG hz).1
   clear hz hH
   go_wp2_with fail
   clear hmm
   have M0 := zH (N1.start w1 g)
   have HLl := zH (show l.length ≤ 32 from by have := hp32.out; unfold pairs at this; simpa using this)
   have hl32 : l.length ≤ 32 := HLl.out
   go_loopw [33] (fun i wr => ∃ (j : Nat) (A1 : Option Addr) (cap : Nat) (cs : List zf), j ≤ l.length ∧ i = .int .i64 j ∧ cs.length = j ∧ N1 (w1.heap.size + 2) w1 wr (w1.heap.size + 1) g w1.heap.size A1 cap cs (l.take j) ∧ ∀ x ∈ l.take j, qY x = 0) (fun i _ => l.length - (intOf i).toNat)
   case atStart => exact ⟨0, none, 0, [], Nat.zero_le _, rfl, rfl, M0.out, by simp⟩
   case round =>
    obtain ⟨j, A1, cap, cs, hj, rfl, hcl, hN1, hz0⟩ := hrel
    have HN1 := zH hN1
    have HZ0 := zH hz0
    have hbw := B1.out.trans (hN1.bel.mono B1.out.size)
    have Hbw := zH hbw
    have hszb := hN1.sz
    have htb := hN1.tB
    have HCl := zH hcl
    have hcl2 : cs.length ≤ j := Nat.le_of_eq hcl
    clear hN1 hz0 hcl
    by_cases hlt : j < l.length
    · obtain ⟨b1, o1, hA, hb1, hc0, hc1, hc2, hc3, hc4⟩ := Yp (Hr.out.below hbw) hlt
      subst hA
      have hj1 : (j : Int) < (l.length : Int) := by omega
      have hj0 : (0 : Int) ≤ (j : Int) := by omega
      have HTk := zH (show l.take (j + 1) = l.take j ++ [l[j]] from by rw [List.take_succ_eq_append_getElem hlt])
      have hxis := (His.out _ (List.getElem_mem hlt)).1.below hbw
      have hxlt := (His.out _ (List.getElem_mem hlt)).2
      have Hwhy := zH (fun hne => za5 (L := l) HZ.out hlt HZ0.out hne)
      have Hnext := zH (fun h0 => yG (e := qY) hlt HZ0.out h0)
      clear hbw
      generalize l[j] = x at *
      have Hx := zH hxis
      have Hxl := zH hxlt
      have HLw := HL.out.below Hbw.out HL.out.1
      have HRt := zH (KlsX.ZG x (wr.alloc (.cells #[.string ⟨x.name.toArray⟩, .string ⟨x.sup.toArray⟩, .slice x.kA x.km x.kc, .slice x.fA x.fm x.fc, .slice x.mA x.mm x.mc] 81)) (HLw.below ((Below.refl wr.heap.size wr).alloc (Nat.le_refl _) _) HLw.1) (hxis.below ((Below.refl _ _).alloc (Nat.le_refl _) _)) hxlt)
      have HSh := zH (fun (h : qY x = 0) => And.intro (xk h) (xW h))
      have HClo := zH (fun (W : World) (hb : Below wr.heap.size wr W) (h : qY x = 0) => (Ug x W (Hx.out.below hb) (by have := (xW h).1; omega) (by have := (xk h).1; omega) (by have := (xk h).2; omega) (fun z hz => by have := (xW h).2 z hz; omega)).mono (R' := fun e w' => ∃ y : zf, e = .returned (.agg #[.string ⟨y.name.toArray⟩, .string ⟨y.sup.toArray⟩, .slice y.kA y.km y.kc, .slice y.fA y.fm y.fc, .slice y.mA y.mm y.mc]) ∧ kE W.heap.size w' y ∧ zR y = zR x ∧ Below W.heap.size W w') (fun e w' h => by
       obtain ⟨y, rfl, q1, q2, q3⟩ := h
       exact ⟨y, rfl, q1, Zf9 q2, q3⟩))
      clear hxis hxlt HLw
      have XB := zH (Bx.new wr #[.string ⟨x.name.toArray⟩, .string ⟨x.sup.toArray⟩, .slice x.kA x.km x.kc, .slice x.fA x.fm x.fc, .slice x.mA x.mm x.mc] 81)
      simp only [zf.V] at HRt
      generalize hE : qY x = E at *
      have HE := zH hE
      clear hE
      go_wp2_with fail
      refine HRt.out.mono ?_
      rintro e w5 ⟨rfl, hb5⟩
      have HN5 := zH ((HN1.out.ext ((Below.refl _ _).alloc (Nat.le_refl _) _)).ext hb5)
      have X5 := zH (XB.out.after hb5)
      have hb05 : Below wr.heap.size wr w5 := ((Below.refl _ _).alloc (Nat.le_refl _) _).trans (hb5.mono (by simp))
      have B05 := zH hb05
      have B5 := zH (Hbw.out.trans (hb05.mono Hbw.out.size))
      clear hb5
      by_cases h0 : E = 0
      · subst h0
        have d0 := X5.out.cell 0
        have d1 := X5.out.cell 1
        have d2 := X5.out.cell 2
        have d3 := X5.out.cell 3
        have d4 := X5.out.cell 4
        have t1 := HN5.out.box.cell 1
        have tf := HN5.out.box.free 1
        have tlt := HN5.out.box.lt
        have xlt := X5.out.lt
        clear hc0 hc1 hc2 hc3 hc4
        go_wp2_with fail
        go_region_law (first
         | (refine step_append_lies _ (by rfl) _ _ _ (by rfl) (w1.heap.size + 2) 81 i0 _ 5 104 Tryz.underlying45 I0.out I1.out I2.out I3.out rfl (by omega) (.slice A1 cs.length cap) cs.length (cs.flatMap jB) (by rfl) (N6.out.own.alloc _) ⟨w6.heap.size, 0, none⟩ 1 1 (jB y) (by rfl) (by rfl) (World.news_of_block (cs := #[.string ⟨y.name.toArray⟩, .string ⟨y.sup.toArray⟩, .slice y.kA y.km y.kc, .slice y.fA y.fm y.fc, .slice y.mA y.mm y.mc]) (t := 81) (fr := (0, 0)) (heap_alloc_new w6 _)) (by unfold jB; simp [Value.oneCell']) (by omega) (by unfold maxLen; omega) (by omega) (by simp; omega) (w6.heap.size + 1) (by simp) ?_; intro gg cap7 w7 hown7 hg7 hat7 hlt7; have hp := zo3 (x := x) HN5.out HY.out.1 HY.out.2.1 HY.out.2.2 _ hown7 hg7 hat7; have t17 := hp.1.cell 1; have tf7 := hp.1.free 1; have N7 := zH hp.2; clear hp hown7 hg7 hat7)
         | (go_simp; go_at_call 36; refine (HClo.out _ B05.out.drew trivial).mono ?_; rintro e w6 ⟨y, rfl, hy, hxy, hb6⟩; have hb56 : Below w5.heap.size w5 w6 := (Below.refl w5.heap.size w5).drew.trans hb6; have N6 := zH (HN5.out.ext hb56); have t16 := N6.out.box.cell 1; have tf6 := N6.out.box.free 1; have tlt6 := N6.out.box.lt; have hs6 := N6.out.sz; have HY := zH (And.intro hy (And.intro hxy hb6)); clear hy hxy hb6 hb56))
        all_goals
         go_wp2_with fail
         go_roundw
         case rel => exact ⟨j + 1, some ⟨gg, 0, none⟩, cap7, cs ++ [y], by omega, by go_num, by have := HCl.out; simp [this], by rw [HTk.out]; exact N7.out, Hnext.out trivial⟩
         case measure => simp [intOf]; omega
      · have d0 := X5.out.cell 0
        have xlt := X5.out.lt
        have Hne := zH h0
        have HW := zH (by have := Hwhy.out h0; exact this)
        clear hc0 hc1 hc2 hc3 hc4
        go_wp2_with fail
        go_quiet (fail)
        go_wp2_with fail
        go_ret3
        exact xR HW.out Hne.out (Stru.drawn B5.out _)
    · have htk : l.take j = l := List.take_of_length_le (by omega)
      rw [htk] at HN1 HZ0
      have hb := HN1.out.bare
      have HBare := zH hb
      have hpc : pairs cs = pairs l := K7 hb
      have hzc : (qg (pairs cs)).2 = 0 := by rw [hpc]; exact HZ.out
      have HTa0 := zH (HN1.out.ta HH.out)
      have HLn := zH (show cs.length = l.length from by have := congrArg List.length hb; simpa using this)
      have HAlk := zH (show ∀ k ∈ cs, ∃ k' ∈ l, Alk k k' from fun k hk => by obtain ⟨k', h1, h2⟩ := zw4 hb hk; exact ⟨k', h1, zw7 h2⟩)
      have HFew := zH (show ∀ k ∈ cs, k.fields.length ≤ 16 ∧ k.meths.length ≤ 32 from fun k hk => by obtain ⟨k', h1, h2⟩ := HAlk.out k hk; exact h2.few (xk (HZ0.out k' h1)))
      have HLt := zH (show ∀ k ∈ cs, zf.lt k from fun k hk => by obtain ⟨k', h1, h2⟩ := HAlk.out k hk; exact h2.lt (His.out k' h1).2)
      have HUp := zH (show ∀ d k, cs.find? (named d) = some k → (mk (pairs cs)).up d = some k.sup from fun d k hf => za7 hzc hf)
      have HWays := zH (show ∀ k ∈ cs, ∃ l', Zz (mk (pairs cs)).up k.name l' ∧ l'.length ≤ 41 from fun k hk => TabV.ways hzc hk)
      have hcl3 : cs.length ≤ 32 := by have := HLn.out; omega
      have t1 := HTa0.out.box.cell 1
      have htl := HTa0.out.box.lt
      have HB0 := zH (Nat.le_trans B1.out.size (Nat.le_refl _))
      clear hb hpc hzc htk hbw htb hcl2
      go_wp2_with fail
      clear t1 htl
      go_loopw [61] (fun i wx => ∃ (q n : Nat) (f : T → Option Zf), q ≤ cs.length ∧ i = .int .i64 q ∧ Ta w1.heap.size wx (w1.heap.size + 1) g w1.heap.size n A1 cap (mk (pairs l)) cs f ∧ n ≤ 41 * q ∧ (∀ k ∈ cs.take q, f k.name ≠ none) ∧ Below w.heap.size w wx) (fun i _ => cs.length - (intOf i).toNat)
      case atStart => exact ⟨0, 0, fun _ => none, Nat.zero_le _, rfl, HTa0.out, Nat.le_refl _, by simp, Hbw.out⟩
      case round =>
       clear HN1 HTa0 Hbw hszb hlt
       obtain ⟨q, n, f, hq, rfl, hTa, hn, hfk, hbw⟩ := hrel
       have HTa := zH hTa
       have HFk := zH hfk
       have Hbw := zH hbw
       have hlo := hTa.base
       clear hfk
       by_cases hlt : q < cs.length
       · obtain ⟨b1, o1, hA, hb1, hc0, hc1, hc2, hc3, hc4⟩ := Yp hTa.rds hlt
         subst hA
         have hq1 : (q : Int) < (cs.length : Int) := by omega
         have hq0 : (0 : Int) ≤ (q : Int) := by omega
         obtain ⟨l', hw, hl'⟩ := HWays.out _ (List.getElem_mem hlt)
         have HG := zH (GA HUp.out (by omega) HFew.out (fun k hk => (HLt.out k hk).sup) hw hl' (HLt.out _ (List.getElem_mem hlt)).name n f (wr.alloc (.cells #[.string ⟨cs[q].name.toArray⟩, .string ⟨cs[q].sup.toArray⟩, .slice cs[q].kA cs[q].km cs[q].kc, .slice cs[q].fA cs[q].fm cs[q].fc, .slice cs[q].mA cs[q].mm cs[q].mc] 81)) (hTa.ext ((Below.refl wr.heap.size wr).alloc (Nat.le_refl _) _)) (by omega))
         have HNx := zH (fun (f' : T → Option Zf) h1 h2 => zj4 (f' := f') hlt HFk.out h1 h2)
         have HA2 := zH (Hbw.out.alloc Hbw.out.size (.cells #[.string ⟨cs[q].name.toArray⟩, .string ⟨cs[q].sup.toArray⟩, .slice cs[q].kA cs[q].km cs[q].kc, .slice cs[q].fA cs[q].fm cs[q].fc, .slice cs[q].mA cs[q].mm cs[q].mc] 81))
         clear hw hTa hbw
         generalize cs[q] = x at *
         go_wp2_with fail
         refine HG.out.mono ?_
         rintro e w5 ⟨x', f', n', rfl, _, _, _, hTa', hn', hkp, hqn, hg⟩
         have HT' := zH hTa'
         have HF' := zH (HNx.out f' hkp hqn)
         have HB' := zH (HA2.out.trans (Um (lo := w.heap.size) hg B1.out.size HA2.out.size))
         clear hTa' hkp hqn hg hc0 hc1 hc2 hc3 hc4
         go_wp2_with fail
         go_roundw
         case rel => exact ⟨q + 1, n', f', by omega, by go_num, HT'.out, by omega, HF'.out, HB'.out⟩
         case measure => simp [intOf]; omega
       · have htk : cs.take q = cs := List.take_of_length_le (by omega)
         rw [htk] at HFk
         have HTot := zH (zn3 HFk.out)
         have t1 := hTa.box.cell 1
         have htl := hTa.box.lt
         have Z9 := zH (Below.refl wr.heap.size wr)
         clear hTa hbw htk
         go_wp2_with fail
         clear t1 htl
         have HT9 := zH (fun (W : World) (hb : Below wr.heap.size wr W) => HTa.out.ext hb)
         generalize wr = w9 at *
         go_loopw [75] (fun i wx => ∃ p : Nat, p ≤ cs.length ∧ i = .int .i64 p ∧ (∀ x ∈ cs.take p, qL (mk (pairs l)) cs x = 0) ∧ Below w9.heap.size w9 wx) (fun i _ => cs.length - (intOf i).toNat)
         case atStart => exact ⟨0, Nat.zero_le _, rfl, by simp, Z9.out⟩
         case round =>
          clear hlt hlo
          obtain ⟨p, hp, rfl, hpz, hbel⟩ := hrel
          have HPz := zH hpz
          have Hbel := zH hbel
          have hbw := Hbw.out.trans (hbel.mono Hbw.out.size)
          have HB5 := zH hbw
          clear hpz
          by_cases hlt : p < cs.length
          · have hTr := HT9.out wr hbel
            obtain ⟨b1, o1, hA, hb1, hc0, hc1, hc2, hc3, hc4⟩ := Yp hTr.rds hlt
            subst hA
            have hp1 : (p : Int) < (cs.length : Int) := by omega
            have hp0 : (0 : Int) ≤ (p : Int) := by omega
            have hpl : p < l.length := by have := HLn.out; omega
            have hget := gM HBare.out hlt hpl
            have hfa : qL (mk (pairs l)) cs cs[p] = qL (mk (pairs l)) l l[p] := vP HBare.out hget
            have hnm : cs[p].name = l[p].name := (zw7 hget).name
            have Hwhy := zH (show qL (mk (pairs l)) cs cs[p] ≠ 0 → J6 l = (cs[p].name, qL (mk (pairs l)) cs cs[p]) from fun hne => by
             rw [hfa, hnm]
             rw [hfa] at hne
             exact za4 HZ.out HZ0.out hpl (zt4 HBare.out HPz.out) hne)
            have Hnext := zH (fun h0 => yG (e := qL (mk (pairs l)) cs) hlt HPz.out h0)
            have HA2 := zH (HB5.out.alloc HB5.out.size (.cells #[.string ⟨cs[p].name.toArray⟩, .string ⟨cs[p].sup.toArray⟩, .slice cs[p].kA cs[p].km cs[p].kc, .slice cs[p].fA cs[p].fm cs[p].fc, .slice cs[p].mA cs[p].mm cs[p].mc] 81))
            have HZ2 := zH (Hbel.out.alloc Hbel.out.size (.cells #[.string ⟨cs[p].name.toArray⟩, .string ⟨cs[p].sup.toArray⟩, .slice cs[p].kA cs[p].km cs[p].kc, .slice cs[p].fA cs[p].fm cs[p].fc, .slice cs[p].mA cs[p].mm cs[p].mc] 81))
            have hT2 := hTr.ext ((Below.refl wr.heap.size wr).alloc (Nat.le_refl _) (.cells #[.string ⟨cs[p].name.toArray⟩, .string ⟨cs[p].sup.toArray⟩, .slice cs[p].kA cs[p].km cs[p].kc, .slice cs[p].fA cs[p].fm cs[p].fc, .slice cs[p].mA cs[p].mm cs[p].mc] 81))
            have HFi := zH (yu hT2 HTot.out cs[p] (hT2.each _ (List.getElem_mem hlt)) (HLt.out _ (List.getElem_mem hlt)))
            have XB := zH (Bx.new wr #[.string ⟨cs[p].name.toArray⟩, .string ⟨cs[p].sup.toArray⟩, .slice cs[p].kA cs[p].km cs[p].kc, .slice cs[p].fA cs[p].fm cs[p].fc, .slice cs[p].mA cs[p].mm cs[p].mc] 81)
            clear hTr hT2 hget hfa hnm hbw hbel
            generalize qL (mk (pairs l)) cs cs[p] = E at *
            simp only [zf.V] at HFi
            generalize cs[p] = x at *
            go_wp2_with fail
            refine HFi.out.mono ?_
            rintro e w5 ⟨rfl, hb5⟩
            have X5 := zH (XB.out.after hb5)
            have B5 := zH (HA2.out.trans (hb5.mono HA2.out.size))
            have Z5 := zH (HZ2.out.trans (hb5.mono HZ2.out.size))
            clear hb5 hc0 hc1 hc2 hc3 hc4
            by_cases h0 : E = 0
            · subst h0
              go_wp2_with fail
              go_roundw
              case rel => exact ⟨p + 1, by omega, by go_num, Hnext.out trivial, Z5.out⟩
              case measure => simp [intOf]; omega
            · have d0 := X5.out.cell 0
              have xlt := X5.out.lt
              have Hne := zH h0
              have HW := zH (by have := Hwhy.out h0; exact this)
              go_wp2_with fail
              go_quiet (fail)
              go_wp2_with fail
              go_ret3
              exact xR HW.out Hne.out (Stru.drawn B5.out _)
          · have htk : cs.take p = cs := List.take_of_length_le (by omega)
            rw [htk] at HPz
            have HF := zH (HT9.out wr hbel)
            clear htk hbel hbw
            go_wp2_with fail
            go_ret3
            refine ⟨HB5.out, .inl ⟨?_, w1.heap.size, w1.heap.size + 1, g, w1.heap.size, n, A1, cap, cs, f, rfl, B1.out.size, HF.out, HTot.out, HBare.out, HZ.out, HZ0.out⟩⟩
            rw [za2 HZ.out HZ0.out (by have := zt4 HBare.out (q := cs.length) (by rw [List.take_of_length_le (Nat.le_refl _)]; exact HPz.out); rw [HLn.out, List.take_of_length_le (Nat.le_refl _)] at this; exact this)]
 · have Hne := zH hne
   have HW := zH (kH hne)
   generalize qg (pairs l) = WW at *
   obtain ⟨nm, en⟩ := WW
   simp only at hne
   clear hmm
   go_wp2_with fail
   go_ret3
   exact xR HW.out Hne.out B1.out
end TabO
namespace TabY
open Go.RowKit Base BinM Stru DescM DescW DescX DescS DescG DescP DescQ HierS HierT HierM HierC HierD HierN HierV Kls KlsP KlsQ OpenK TabC TabM TabK TabP TabE TabB TabG TabH TabT TabU TabV TabX TabW TabF TabN TabO
theorem zs5 : (Tryz.prog.info? 125).map (fun i => (i.zero, i.size, i.bytes)) = some (some (.agg #[.string ⟨#[]⟩, .string ⟨#[]⟩]), 2, 32) := by kernel_rfl
def YW (f : Zi) : ZA := ⟨f.name, f.desc⟩
def zx5 (w : World) (base : Nat) (v : Value) (l : List ZA) : Prop := w.ownsRow base 125 2 v l.length (l.flatMap ZA.vals)
end TabY
namespace TabZ
open Go.RowKit Base BinM Stru DescM DescW DescX DescS DescG DescP DescQ HierS HierT HierM HierC HierD HierN HierV Kls KlsP KlsQ OpenK TabC TabM TabK TabP TabE TabB TabG TabH TabT TabU TabV TabX TabW TabF TabN TabO TabY
theorem vY (W : World) (C : Array Value) (ty : TypeId) (k : Nat) (hk : W.heap.size = k) : Bx (W.alloc (.cells C ty)) k C ty := by subst hk; exact Bx.new W C ty
theorem Zn {w : World} {g : Nat} {C : Array Value} {ty : TypeId} (h : Bx w g C ty) (o : Obj) : Bx (w.alloc o) g C ty := h.after ((Below.refl _ _).alloc (Nat.le_refl _) o)
theorem xE {w : World} {g : Nat} {C : Array Value} {ty : TypeId} (h : Bx w g C ty) : Rds w (some ⟨g, 0, none⟩) C.toList := by
 refine .inr ⟨g, 0, rfl, h.lt, fun j u hu => ?_⟩
 rw [Nat.zero_add, h.cell j]
 simpa using hu
def mK (s : Nat) : zO := ⟨[109], [40, 41, 86], 1, some ⟨s, 0, none⟩, 1, 1, none, 0, 0, [(34, 0)], []⟩
def aK (s f m : Nat) : zf := ⟨[65], [79, 98, 106, 101, 99, 116], none, 0, 0, some ⟨f, 0, none⟩, 1, 1, some ⟨m, 0, none⟩, 1, 1, [], [⟨[120], [73]⟩], [mK s]⟩
def bK (s f m : Nat) : zf := ⟨[66], [65], none, 0, 0, some ⟨f, 0, none⟩, 1, 1, some ⟨m, 0, none⟩, 1, 1, [], [⟨[121], [76, 65, 59]⟩], [mK s]⟩
def q1 (w : World) : World := (w).alloc (.cells #[.int .i64 34, .int .i64 0] 24)
def q2 (w : World) : World := (q1 w).alloc (.cells #[.string ⟨#[109]⟩, .string ⟨#[40, 41, 86]⟩, .int .i64 1, .slice (some ⟨w.heap.size, 0, none⟩) 1 1, .slice none 0 0] 85)
def q3 (w : World) : World := (q2 w).alloc (.cells #[.string ⟨#[120]⟩, .string ⟨#[73]⟩] 125)
def q4 (w : World) : World := (q3 w).alloc (.cells #[.string ⟨#[109]⟩, .string ⟨#[40, 41, 86]⟩, .int .i64 1, .slice (some ⟨w.heap.size, 0, none⟩) 1 1, .slice none 0 0] 85)
def q5 (w : World) : World := (q4 w).alloc (.cells #[.string ⟨#[65]⟩, .string ⟨#[79, 98, 106, 101, 99, 116]⟩, .slice none 0 0, .slice (some ⟨w.heap.size + 1 + 1, 0, none⟩) 1 1, .slice (some ⟨w.heap.size + 1 + 1 + 1, 0, none⟩) 1 1] 81)
def q6 (w : World) : World := (q5 w).alloc (.cells #[.string ⟨#[121]⟩, .string ⟨#[76, 65, 59]⟩] 125)
def q7 (w : World) : World := (q6 w).alloc (.cells #[.string ⟨#[109]⟩, .string ⟨#[40, 41, 86]⟩, .int .i64 1, .slice (some ⟨w.heap.size, 0, none⟩) 1 1, .slice none 0 0] 85)
def q8 (w : World) : World := (q7 w).alloc (.cells #[.string ⟨#[66]⟩, .string ⟨#[65]⟩, .slice none 0 0, .slice (some ⟨w.heap.size + 1 + 1 + 1 + 1 + 1, 0, none⟩) 1 1, .slice (some ⟨w.heap.size + 1 + 1 + 1 + 1 + 1 + 1, 0, none⟩) 1 1] 81)
def q9 (w : World) : World := (q8 w).alloc (.cells #[.string ⟨#[66]⟩, .string ⟨#[65]⟩, .slice none 0 0, .slice (some ⟨w.heap.size + 1 + 1 + 1 + 1 + 1, 0, none⟩) 1 1, .slice (some ⟨w.heap.size + 1 + 1 + 1 + 1 + 1 + 1, 0, none⟩) 1 1, .string ⟨#[65]⟩, .string ⟨#[79, 98, 106, 101, 99, 116]⟩, .slice none 0 0, .slice (some ⟨w.heap.size + 1 + 1, 0, none⟩) 1 1, .slice (some ⟨w.heap.size + 1 + 1 + 1, 0, none⟩) 1 1] 81)
def kl (w : World) : List zf := [(bK w.heap.size (w.heap.size + 1 + 1 + 1 + 1 + 1) (w.heap.size + 1 + 1 + 1 + 1 + 1 + 1)), (aK w.heap.size (w.heap.size + 1 + 1) (w.heap.size + 1 + 1 + 1))]
end TabZ
namespace TabI
open Go.RowKit Base BinM Stru DescM DescW DescX HierS HierT HierM HierC HierD HierN Kls KlsP KlsQ TabC TabM TabK TabP TabE TabB TabG TabH TabT TabU
theorem Zl3 (w : World) : noC.is w :=
 ⟨⟨rfl, Nat.le_refl _, by unfold maxLen; simp [noC], .inl rfl, by simp [noC]⟩, ⟨rfl, Nat.le_refl _, by unfold maxLen; simp [noC], .inl rfl⟩, ⟨rfl, Nat.le_refl _, by unfold maxLen; simp [noC], .inl rfl, by simp [noC]⟩⟩
def noM : zO := ⟨[], [], 0, none, 0, 0, none, 0, 0, [], []⟩
def fiv (w : World) (b : Nat) (v0 v1 v2 v3 v4 : Value) : World := ((((w.setCell ⟨b, 0, none⟩ v0).setCell ⟨b, 1, none⟩ v1).setCell ⟨b, 2, none⟩ v2).setCell ⟨b, 3, none⟩ v3).setCell ⟨b, 4, none⟩ v4
theorem zt3 {w : World} {b : Nat} {T : TypeId} {u0 u1 u2 u3 u4 : Value} (h : Bx w b #[u0, u1, u2, u3, u4] T) (v0 v1 v2 v3 v4 : Value) : Bx (fiv w b v0 v1 v2 v3 v4) b #[v0, v1, v2, v3, v4] T := ((((h.set 0 v0).set 1 v1).set 2 v2).set 3 v3).set 4 v4
theorem vN {lo : Nat} {a w : World} (h : Below lo a w) {b : Nat} (hb : lo ≤ b) (v0 v1 v2 v3 v4 : Value) : Below lo a (fiv w b v0 v1 v2 v3 v4) :=
 ((((h.setCell (p := ⟨b, 0, none⟩) hb v0).setCell (p := ⟨b, 1, none⟩) hb v1).setCell (p := ⟨b, 2, none⟩) hb v2).setCell (p := ⟨b, 3, none⟩) hb v3).setCell (p := ⟨b, 4, none⟩) hb v4
end TabI
namespace HierG
open Go.RowKit BinM Base Stru DescM DescW DescX HierS HierT HierM HierN
def pv (p : P2) : List Value := [.string ⟨p.1.toArray⟩, .string ⟨p.2.toArray⟩]
theorem Zh2 {w : World} {A : Option Addr} {l : List P2} {k : Nat} (h : Rds w A (l.flatMap pv)) (hk : k < l.length) :
 ∃ b o, A = some ⟨b, o, none⟩ ∧ b < w.heap.size ∧ w.cell? ⟨b, o + k * 2, none⟩ = some (.string ⟨l[k].1.toArray⟩) ∧ w.cell? ⟨b, o + k * 2 + 1, none⟩ = some (.string ⟨l[k].2.toArray⟩) := by
 obtain ⟨b, o, hA, hb, hc⟩ := QU (n := 2) (fun _ => rfl) (by omega) h hk
 exact ⟨b, o, hA, hb, hc 0 _ rfl, hc 1 _ rfl⟩
end HierG
end Go.Proofs.YtehainbhoflpnaaGreatDoor
