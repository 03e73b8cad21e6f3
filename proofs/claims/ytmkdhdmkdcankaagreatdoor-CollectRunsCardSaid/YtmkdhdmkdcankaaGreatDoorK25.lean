/- pieces -/
import Derived.Test.YtmkdhdmkdcankaaGreatDoorK23
import Derived.Test.YtmkdhdmkdcankaaGreatDoorK24
namespace Go.Proofs.YtmkdhdmkdcankaaGreatDoor
set_option maxRecDepth 100000
set_option maxHeartbeats 16000000
namespace TabN
open Go.RowKit Base BinM Stru DescM DescW DescX DescS DescG DescP DescQ HierS HierT HierM HierC HierD HierN Kls KlsP KlsQ OpenK TabC TabM TabK TabP TabE TabB TabG TabH TabT TabU TabV TabX TabW
def ceOf (x : za) : CE := ⟨x.name, x.sup, x.kA, x.km, x.kc, x.fA, x.fm, x.fc, x.mA, x.mm, x.mc⟩
theorem XK (L : List za) : (L.map ceOf).flatMap CE.vals = L.flatMap qF := by rw [List.flatMap_map]; rfl
theorem Kr (L : List za) : (L.map ceOf).map CE.p2 = pairs L := by rw [List.map_map]; rfl
def OnC (x : za) (b : Nat) : Prop := (∃ a, x.kA = some a ∧ a.block = b) ∨ (∃ a, x.fA = some a ∧ a.block = b) ∨ (∃ a, x.mA = some a ∧ a.block = b) ∨ ∃ m ∈ x.meths, (∃ a, m.cA = some a ∧ a.block = b) ∨ ∃ a, m.hA = some a ∧ a.block = b
structure jC (lo : Nat) (w : World) (x : za) : Prop where
 is : x.is w
 on : ∀ b, OnC x b → lo ≤ b ∧ b < w.heap.size
theorem own_of {lo : Nat} {w : World} {x : za} (h : Ux lo w x) : jC lo w x := by
 refine ⟨h.is, fun b hb => ?_⟩
 rcases hb with ⟨a, ha, rfl⟩ | ⟨a, ha, rfl⟩ | ⟨a, ha, rfl⟩ | ⟨m, hm, ⟨a, ha, rfl⟩ | ⟨a, ha, rfl⟩⟩
 · exact h.k a ha
 · exact h.f a ha
 · exact h.m a ha
 · exact (h.each m hm).code a ha
 · exact (h.each m hm).hand a ha
theorem qU {w w' : World} {A : Option Addr} {xs : List Value} (h : Rds w A xs) (hs : w.heap.size ≤ w'.heap.size) (hb : ∀ a, A = some a → w'.heap[a.block]? = w.heap[a.block]?) : Rds w' A xs := by
 rcases h with rfl | ⟨b, o, rfl, hlt, hc⟩
 · exact .inl rfl
 · refine .inr ⟨b, o, rfl, by omega, fun j u hu => ?_⟩
   rw [← hc j u hu]
   unfold World.cell?
   rw [show w'.heap[b]? = w.heap[b]? from hb _ rfl]
theorem jC.same {lo : Nat} {w w' : World} {x : za} (h : jC lo w x) (hs : w.heap.size ≤ w'.heap.size) (hb : ∀ b, OnC x b → w'.heap[b]? = w.heap[b]?) : jC lo w' x := by
 obtain ⟨⟨hk, hf, hm⟩, hon⟩ := h
 refine ⟨⟨⟨hk.len, hk.le, hk.max, qU hk.rds hs (fun a ha => hb _ (.inl ⟨a, ha, rfl⟩)), hk.fit⟩, ⟨hf.len, hf.le, hf.max, qU hf.rds hs (fun a ha => hb _ (.inr (.inl ⟨a, ha, rfl⟩)))⟩, ⟨hm.len, hm.le, hm.max, qU hm.rds hs (fun a ha => hb _ (.inr (.inr (.inl ⟨a, ha, rfl⟩)))), fun y hy => ?_⟩⟩, fun b h1 => ⟨(hon b h1).1, by have := (hon b h1).2; omega⟩⟩
 have h2 := hm.each y hy
 exact ⟨h2.fit, ⟨h2.code.len, h2.code.le, h2.code.max, qU h2.code.rds hs (fun a ha => hb _ (.inr (.inr (.inr ⟨y, hy, .inl ⟨a, ha, rfl⟩⟩)))), h2.code.fit⟩, ⟨h2.hand.len, h2.hand.le, h2.hand.max, qU h2.hand.rds hs (fun a ha => hb _ (.inr (.inr (.inr ⟨y, hy, .inr ⟨a, ha, rfl⟩⟩)))), h2.hand.fit⟩⟩
theorem jC.mono {lo lo' : Nat} {w : World} {x : za} (h : jC lo' w x) (hl : lo ≤ lo') : jC lo w x := ⟨h.is, fun b hb => ⟨Nat.le_trans hl (h.on b hb).1, (h.on b hb).2⟩⟩
theorem jC.below {lo : Nat} {w w' : World} {x : za} (h : jC lo w x) (hb : Below w.heap.size w w') : jC lo w' x := h.same hb.size (fun b h1 => hb.block b (h.on b h1).2)
structure N1 (B : Nat) (w1 wr : World) (t g mb : Nat) (A : Option Addr) (cap : Nat) (cs L : List za) : Prop where
 box : Bx wr t #[.pointer (some ⟨g, 0, none⟩), .slice A cs.length cap, .map (some mb)] 127
 map : wr.heap[mb]? = some (.map #[] 0)
 own : wr.ownsRow B 132 5 (.slice A cs.length cap) cs.length (cs.flatMap qF)
 bare : cs.map zy = L.map zy
 each : ∀ y ∈ cs, jC B wr y
 far : ∀ y ∈ cs, ∀ b, OnC y b → some b ≠ (Value.slice A cs.length cap).ownBlock
 tB : t < B
 mB : mb < B
 lm : w1.heap.size ≤ mb
 lt : w1.heap.size ≤ t
 ne : t ≠ mb
 sz : B ≤ wr.heap.size
 bel : Below w1.heap.size w1 wr
theorem N1.start (w1 : World) (g : Nat) : N1 (w1.heap.size + 2) w1 ((w1.alloc (.map #[] 0)).alloc (.cells #[.pointer (some ⟨g, 0, none⟩), .slice none 0 0, .map (some w1.heap.size)] 127)) (w1.heap.size + 1) g w1.heap.size none 0 [] [] := by
 have hs : (w1.alloc (.map #[] 0)).heap.size = w1.heap.size + 1 := by simp
 have h1 := Bx.new (w1.alloc (.map #[] 0)) #[.pointer (some ⟨g, 0, none⟩), .slice none 0 0, .map (some w1.heap.size)] 127
 rw [hs] at h1
 have h2 : ((w1.alloc (.map #[] 0)).alloc (.cells #[.pointer (some ⟨g, 0, none⟩), .slice none 0 0, .map (some w1.heap.size)] 127)).heap[w1.heap.size]? = some (.map #[] 0) := by
  rw [Below.heap_alloc _ _ _ (by simp)]
  exact heap_alloc_new w1 _
 exact ⟨h1, h2, World.ownsRow_nil _ _ _ _, rfl, by simp, by simp, by omega, by omega, by omega, by omega, by omega, by simp, ((Below.refl _ _).alloc (Nat.le_refl _) _).alloc (by simp) _⟩
theorem N1.ext {B : Nat} {w1 wr w' : World} {t g mb : Nat} {A : Option Addr} {cap : Nat} {cs L : List za} (h : N1 B w1 wr t g mb A cap cs L) (hb : Below wr.heap.size wr w') : N1 B w1 w' t g mb A cap cs L :=
 ⟨h.box.after hb, (hb.block _ (by have := h.mB; have := h.sz; omega)).trans h.map, ze h.own (fun q hq => hb.block q (h.own.lt q hq).2), h.bare, fun y hy => (h.each y hy).below hb, h.far, h.tB, h.mB, h.lm, h.lt, h.ne, Nat.le_trans h.sz hb.size, h.bel.trans (hb.mono h.bel.size)⟩
theorem N1.push {B : Nat} {w1 W W2 : World} {t g mb : Nat} {A : Option Addr} {cap : Nat} {cs L : List za} (h : N1 B w1 W t g mb A cap cs L) {x y : za} (hy : jC B W y) (hyf : ∀ b, OnC y b → some b ≠ (Value.slice A cs.length cap).ownBlock) (hxy : zy y = zy x) (v : Value)
 (hF : W2.ownsRow B 132 5 v (cs.length + 1) ((cs ++ [y]).flatMap qF)) (hg : W.grownBy W2 (Value.slice A cs.length cap).ownBlock) (hat : v.ownBlock = (Value.slice A cs.length cap).ownBlock ∨ v.ownBlock = some W.heap.size) :
 ∃ A' cap', v = .slice A' (cs.length + 1) cap' ∧ Bx W2 t #[.pointer (some ⟨g, 0, none⟩), .slice A cs.length cap, .map (some mb)] 127 ∧ N1 B w1 (W2.setCell ⟨t, 1, none⟩ v) t g mb A' cap' (cs ++ [y]) (L ++ [x]) := by
 obtain ⟨A', cap', rfl, _, _, _, _⟩ := zi hF
 have hrow : ∀ k, k < B → some k ≠ (Value.slice A cs.length cap).ownBlock := fun k hk e => by have := (h.own.lt k e.symm).1; omega
 have htB := h.tB
 have hmB := h.mB
 have hsz := h.sz
 have hsz2 := hg.size
 have hbx : Bx W2 t #[.pointer (some ⟨g, 0, none⟩), .slice A cs.length cap, .map (some mb)] 127 := (hg.block t h.box.lt (hrow t htB)).trans h.box
 have hset : ∀ k, k ≠ t → (W2.setCell ⟨t, 1, none⟩ (.slice A' (cs.length + 1) cap')).heap[k]? = W2.heap[k]? := fun k hk => heap_setCell_other W2 ⟨t, 1, none⟩ k _ hk
 have hsz3 : (W2.setCell ⟨t, 1, none⟩ (.slice A' (cs.length + 1) cap')).heap.size = W2.heap.size := by simp
 have keep : ∀ z : za, jC B W z → (∀ b, OnC z b → some b ≠ (Value.slice A cs.length cap).ownBlock) → jC B (W2.setCell ⟨t, 1, none⟩ (.slice A' (cs.length + 1) cap')) z := fun z hz hf =>
  hz.same (by omega) (fun b hb => (hset b (by have := (hz.on b hb).1; omega)).trans (hg.block b (hz.on b hb).2 (hf b hb)))
 refine ⟨A', cap', rfl, hbx, ?_, ?_, ?_, ?_, ?_, ?_, htB, hmB, h.lm, h.lt, h.ne, by omega, ?_⟩
 · have := hbx.set 1 (.slice A' (cs.length + 1) cap')
   rw [show (cs ++ [y]).length = cs.length + 1 from by simp]
   exact this
 · exact (hset mb (Ne.symm h.ne)).trans ((hg.block mb (by omega) (hrow mb hmB)).trans h.map)
 · rw [show (cs ++ [y]).length = cs.length + 1 from by simp]
   exact ze hF (fun q hq => hset q (by have := (hF.lt q hq).1; omega))
 · rw [List.map_append, List.map_append, h.bare, List.map_cons, List.map_cons, hxy]
 · intro z hz
   rcases List.mem_append.1 hz with hz | hz
   · exact keep z (h.each z hz) (h.far z hz)
   · simp at hz; subst hz; exact keep z hy hyf
 · intro z hz b hb
   rw [show (cs ++ [y]).length = cs.length + 1 from by simp]
   have hold : jC B W z ∧ some b ≠ (Value.slice A cs.length cap).ownBlock := by
    rcases List.mem_append.1 hz with hz | hz
    · exact ⟨h.each z hz, h.far z hz b hb⟩
    · simp at hz; subst hz; exact ⟨hy, hyf b hb⟩
   rcases hat with e | e
   · rw [e]; exact hold.2
   · rw [e]
     have := (hold.1.on b hb).2
     intro e2
     injection e2 with e2
     omega
 · exact (zC h.bel h.own (by have := h.lm; omega) h.bel.size hg).setCell (p := ⟨t, 1, none⟩) h.lt _
theorem N1.ta {B : Nat} {w1 wr : World} {t g mb : Nat} {A : Option Addr} {cap : Nat} {cs L : List za} {h : Hr} (H : N1 B w1 wr t g mb A cap cs L) (hh : IsH w1.heap.size w1 g h) : Ta w1.heap.size wr t g mb 0 A cap h cs (fun _ => none) := by
 refine ⟨H.box, hh.below H.bel, H.bel.size, H.lm, Rds.qp H.own, ⟨.map [], ⟨#[], 0, H.map, ⟨by simp, MapKept.stamped_empty 0, by simp⟩, Nat.le_refl _, rfl⟩, Maps.isMap_empty, fun c => ⟨fun _ => rfl, fun i h => ?_⟩⟩, fun x hx => (H.each x hx).is, fun d x hx => ?_⟩
 · cases h
 · cases hx
end TabN
namespace TabO
open Go.RowKit Base BinM Stru DescM DescW DescX DescS DescG DescP DescQ HierS HierT HierM HierC HierD HierN HierV Kls KlsP KlsQ OpenK TabC TabM TabK TabP TabE TabB TabG TabH TabT TabU TabV TabX TabW TabF TabN
theorem xA {C L : List za} (h : C.map zy = L.map zy) {k : za} (hk : k ∈ C) : ∃ k' ∈ L, zy k = zy k' := by
 have h1 : zy k ∈ C.map zy := List.mem_map.2 ⟨k, hk, rfl⟩
 rw [h] at h1
 obtain ⟨k', h2, h3⟩ := List.mem_map.1 h1
 exact ⟨k', h2, h3.symm⟩
theorem Gh {C L : List za} (h : C.map zy = L.map zy) {j : Nat} (hj : j < C.length) (hl : j < L.length) : zy C[j] = zy L[j] := by
 have h1 := congrArg (fun l => l[j]?) h
 simp only [List.getElem?_map, List.getElem?_eq_getElem hj, List.getElem?_eq_getElem hl, Option.map_some] at h1
 injection h1
structure Alk (k k' : za) : Prop where
 name : k.name = k'.name
 sup : k.sup = k'.sup
 consts : k.consts = k'.consts
 fields : k.fields = k'.fields
 meths : k.meths.map JY = k'.meths.map JY
theorem zd6 {k k' : za} (h : zy k = zy k') : Alk k k' := by
 unfold zy at h
 injection h with h1 h2 h3 h4 h5 h6 h7 h8 h9 h10 h11 h12 h13 h14
 exact ⟨h1, h2, h12, h13, h14⟩
theorem Alk.few {k k' : za} (h : Alk k k') (hf : k'.fields.length ≤ 16 ∧ k'.meths.length ≤ 32) : k.fields.length ≤ 16 ∧ k.meths.length ≤ 32 := by
 have := congrArg List.length h.meths
 simp only [List.length_map] at this
 rw [h.fields, this]
 exact hf
theorem Alk.lt {k k' : za} (h : Alk k k') (hl : za.lt k') : za.lt k := by
 refine ⟨by rw [h.name]; exact hl.name, by rw [h.sup]; exact hl.sup, by rw [h.consts]; exact hl.consts, by rw [h.fields]; exact hl.fields, fun m hm => ?_⟩
 have h1 : JY m ∈ k.meths.map JY := List.mem_map.2 ⟨m, hm, rfl⟩
 rw [h.meths] at h1
 obtain ⟨m', h2, h3⟩ := List.mem_map.1 h1
 unfold JY ofP zF.pure at h3
 injection h3 with q1 q2 q3 q4 q5 q6 q7 q8 q9 q10 q11
 have hm' := hl.meths m' h2
 have e1 : m'.name = m.name := q1
 have e2 : m'.sig = m.sig := q2
 have e3 : m'.hand = m.hand := q11
 exact ⟨by rw [← e1]; exact hm'.name, by rw [← e2]; exact hm'.sig, by rw [← e3]; exact hm'.hand⟩
theorem zi1 : (Tryz.prog.info? 132).map (fun i => (i.zero, i.size, i.bytes)) = some (some (.agg #[.string ⟨#[]⟩, .string ⟨#[]⟩, .slice none 0 0, .slice none 0 0, .slice none 0 0]), 5, 104) := by kernel_rfl
theorem push_all {B : Nat} {w1 w5 w6 w7 : World} {t g mb : Nat} {A1 : Option Addr} {cap : Nat} {cs L : List za} {x y : za} {gg cap7 : Nat} (H5 : N1 B w1 w5 t g mb A1 cap cs L) (hy : Ux w5.drew.heap.size w6 y) (hxy : zy y = zy x) (hb6 : Below w5.drew.heap.size w5.drew w6) (o : Obj)
 (hown7 : w7.ownsRow B 132 5 (.slice (some ⟨gg, 0, none⟩) (cs.length + 1) cap7) (cs.length + 1) (cs.flatMap qF ++ qF y)) (hg7 : (w6.alloc o).grownBy w7 (Value.slice A1 cs.length cap).ownBlock) (hat7 : (Value.slice A1 cs.length cap).ownBlock = some gg ∨ gg = w6.heap.size + 1) :
 Bx w7 t #[.pointer (some ⟨g, 0, none⟩), .slice A1 cs.length cap, .map (some mb)] 127 ∧ N1 B w1 (w7.setCell ⟨t, 1, none⟩ (.slice (some ⟨gg, 0, none⟩) (cs.length + 1) cap7)) t g mb (some ⟨gg, 0, none⟩) cap7 (cs ++ [y]) (L ++ [x]) := by
 have hb56 : Below w5.heap.size w5 w6 := (Below.refl w5.heap.size w5).drew.trans hb6
 have hs5 : B ≤ w5.heap.size := H5.sz
 have H6 := (H5.ext hb56).ext ((Below.refl w6.heap.size w6).alloc (Nat.le_refl _) o)
 have ow : jC w5.heap.size w6 y := own_of hy
 have hy7 : jC B (w6.alloc o) y := (ow.mono hs5).below ((Below.refl w6.heap.size w6).alloc (Nat.le_refl _) o)
 obtain ⟨A', cap', hv, hbx, hN⟩ := H6.push hy7 (fun b hb e => by
  have h1 := (ow.on b hb).1
  have h2 := (H5.own.lt b e.symm).2
  omega) hxy (.slice (some ⟨gg, 0, none⟩) (cs.length + 1) cap7) (by
   rw [List.flatMap_append, List.flatMap_cons, List.flatMap_nil, List.append_nil]
   exact hown7) hg7 (by
   rcases hat7 with h | h
   · exact .inl h.symm
   · exact .inr (by rw [h]; simp [Value.ownBlock]))
 injection hv with h1 h2 h3
 subst h1
 subst h3
 exact ⟨hbx, hN⟩
theorem find_in {cs : List za} {k : za} (hk : k ∈ cs) : cs.find? (named k.name) ≠ none := by
 intro h
 rw [List.find?_eq_none] at h
 exact h k hk (by unfold named; simp)
theorem fits_l {h : Hr} {C L : List za} (hb : C.map zy = L.map zy) {q : Nat} (hz : ∀ x ∈ C.take q, qw h C x = 0) : ∀ x ∈ L.take q, qw h L x = 0 := by
 intro x hx
 have hl : C.length = L.length := by have := congrArg List.length hb; simpa using this
 obtain ⟨i, hi, rfl⟩ := List.mem_iff_getElem.1 hx
 rw [List.length_take] at hi
 rw [List.getElem_take]
 have hiC : i < (C.take q).length := by rw [List.length_take]; omega
 have h1 := hz _ (List.getElem_mem hiC)
 rw [List.getElem_take] at h1
 rw [← vV hb (Gh hb (by omega) (by omega))]
 exact h1
theorem kept_next {cs : List za} {f f' : T → Option zO} {q : Nat} (hq : q < cs.length) (h : ∀ k ∈ cs.take q, f k.name ≠ none) (hk : ∀ d, f d ≠ none → f' d ≠ none) (hn : cs.find? (named cs[q].name) ≠ none → f' cs[q].name ≠ none) : ∀ k ∈ cs.take (q + 1), f' k.name ≠ none := by
 intro k hk2
 rw [List.take_succ_eq_append_getElem hq, List.mem_append] at hk2
 rcases hk2 with hk2 | hk2
 · exact hk _ (h k hk2)
 · simp at hk2; subst hk2; exact hn (find_in (List.getElem_mem hq))
theorem total_of {cs : List za} {f : T → Option zO} (h : ∀ k ∈ cs, f k.name ≠ none) : Total cs f := by
 intro d hd
 cases hf : cs.find? (named d) with
 | none => exact absurd hf hd
 | some k =>
   obtain ⟨h1, h2⟩ := jk hf
   rw [← h2]
   exact h k h1
def GivesN (L : List za) (w : World) (e : Ending) (w' : World) : Prop :=
 Below w.heap.size w w' ∧ (((jP L).2 = 0 ∧ ∃ (lo t g mb n : Nat) (A : Option Addr) (c : Nat) (C : List za) (f : T → Option zO), e = .returned (.tuple #[.pointer (some ⟨t, 0, none⟩), .string ⟨#[]⟩, .int .i64 0]) ∧ w.heap.size ≤ lo ∧ Ta lo w' t g mb n A c (mk (pairs L)) C f ∧ Total C f ∧ C.map zy = L.map zy ∧ (ZA (pairs L)).2 = 0 ∧ ∀ x ∈ L, qE x = 0) ∨
  ((jP L).2 ≠ 0 ∧ e = .returned (.tuple #[.pointer none, .string ⟨(jP L).1.toArray⟩, .int .i64 (jP L).2])))
theorem xW {L : List za} {w w' : World} {c : T} {n : Int} (h : jP L = (c, n)) (hn : n ≠ 0) (hb : Below w.heap.size w w') : GivesN L w (.returned (.tuple #[.pointer none, .string ⟨c.toArray⟩, .int .i64 n])) w' :=
 ⟨hb, .inr ⟨by rw [h]; exact hn, by rw [h]⟩⟩
theorem yE (A : Option Addr) (l : List za) (m c : Nat) (w : World) (hm : m = l.length) (hr : Rds w A (l.flatMap qF)) (his : ∀ x ∈ l, x.is w ∧ za.lt x) (hL : InsA.Laid w) :
 Calls Tryz.prog 31 #[.slice A m c] w (GivesN l w) := by
 have HN := HierW.yE A (l.map ceOf) m c w (by simpa using hm) (by rw [XK]; exact hr) (by
  intro x hx
  obtain ⟨y, hy, rfl⟩ := List.mem_map.1 hx
  have := (his y hy).2.name
  show y.name.length ≤ _
  omega)
 rw [Kr] at HN
 have HN0 := zH HN
 have Hr := zH hr
 have His := zH his
 have HL := zH hL
 have hmm := @run_makeMap Tryz.prog
 obtain ⟨i0, hi0, hz0, hz1, hz2⟩ := info_parts zi1
 have I0 := zH hi0
 have I1 := zH hz0
 have I2 := zH hz1
 have I3 := zH hz2
 clear hi0 hz0 hz1 hz2 HN hr his hL
 subst hm
 go_enter Tryz.func31, Tryz.ntmps31
 go_wp2_with fail
 refine HN0.out.mono ?_
 rintro e w1 ⟨hb1, hor⟩
 have B1 := zH hb1
 clear hb1
 rcases hor with ⟨hz, g, rfl, hH⟩ | ⟨hne, rfl⟩
 · have HZ := zH hz
   have HH := zH hH
   have hp32 := zH (Qs hz).1
   clear hz hH
   go_wp2_with fail
   clear hmm
   have M0 := zH (N1.start w1 g)
   have HLl := zH (show l.length ≤ 32 from by have := hp32.out; unfold pairs at this; simpa using this)
   have hl32 : l.length ≤ 32 := HLl.out
   go_loopw [33] (fun i wr => ∃ (j : Nat) (A1 : Option Addr) (cap : Nat) (cs : List za), j ≤ l.length ∧ i = .int .i64 j ∧ cs.length = j ∧ N1 (w1.heap.size + 2) w1 wr (w1.heap.size + 1) g w1.heap.size A1 cap cs (l.take j) ∧ ∀ x ∈ l.take j, qE x = 0) (fun i _ => l.length - (intOf i).toNat)
   case atStart => exact ⟨0, none, 0, [], Nat.zero_le _, rfl, rfl, M0.out, by simp⟩
   case round =>
    obtain ⟨j, A1, cap, cs, hj, rfl, hcl, hN1, hz0⟩ := hrel
    have HN1 := zH hN1
    have HZ0 := zH hz0
    have hbw := B1.out.trans (hN1.bel.mono B1.out.size)
    have Hbw := zH hbw
    have hszb := hN1.sz
    have htb := hN1.tB
    have HCl := zH hcl
    have hcl2 : cs.length ≤ j := Nat.le_of_eq hcl
    clear hN1 hz0 hcl
    by_cases hlt : j < l.length
    · obtain ⟨b1, o1, hA, hb1, hc0, hc1, hc2, hc3, hc4⟩ := Jw (Hr.out.below hbw) hlt
      subst hA
      have hj1 : (j : Int) < (l.length : Int) := by omega
      have hj0 : (0 : Int) ≤ (j : Int) := by omega
      have HTk := zH (show l.take (j + 1) = l.take j ++ [l[j]] from by rw [List.take_succ_eq_append_getElem hlt])
      have hxis := (His.out _ (List.getElem_mem hlt)).1.below hbw
      have hxlt := (His.out _ (List.getElem_mem hlt)).2
      have Hwhy := zH (fun hne => ze5 (L := l) HZ.out hlt HZ0.out hne)
      have Hnext := zH (fun h0 => yj (e := qE) hlt HZ0.out h0)
      clear hbw
      generalize l[j] = x at *
      have Hx := zH hxis
      have Hxl := zH hxlt
      have HLw := HL.out.below Hbw.out HL.out.1
      have HRt := zH (KlsX.Zg x (wr.alloc (.cells #[.string ⟨x.name.toArray⟩, .string ⟨x.sup.toArray⟩, .slice x.kA x.km x.kc, .slice x.fA x.fm x.fc, .slice x.mA x.mm x.mc] 132)) (HLw.below ((Below.refl wr.heap.size wr).alloc (Nat.le_refl _) _) HLw.1) (hxis.below ((Below.refl _ _).alloc (Nat.le_refl _) _)) hxlt)
      have HSh := zH (fun (h : qE x = 0) => And.intro (yP h) (Xc h))
      have HClo := zH (fun (W : World) (hb : Below wr.heap.size wr W) (h : qE x = 0) => (JX x W (Hx.out.below hb) (by have := (Xc h).1; omega) (by have := (yP h).1; omega) (by have := (yP h).2; omega) (fun z hz => by have := (Xc h).2 z hz; omega)).mono (R' := fun e w' => ∃ y : za, e = .returned (.agg #[.string ⟨y.name.toArray⟩, .string ⟨y.sup.toArray⟩, .slice y.kA y.km y.kc, .slice y.fA y.fm y.fc, .slice y.mA y.mm y.mc]) ∧ Ux W.heap.size w' y ∧ zy y = zy x ∧ Below W.heap.size W w') (fun e w' h => by
       obtain ⟨y, rfl, q1, q2, q3⟩ := h
       exact ⟨y, rfl, q1, zk0 q2, q3⟩))
      clear hxis hxlt HLw
      have XB := zH (Bx.new wr #[.string ⟨x.name.toArray⟩, .string ⟨x.sup.toArray⟩, .slice x.kA x.km x.kc, .slice x.fA x.fm x.fc, .slice x.mA x.mm x.mc] 132)
      simp only [za.V] at HRt
      generalize hE : qE x = E at *
      have HE := zH hE
      clear hE
      go_wp2_with fail
      refine HRt.out.mono ?_
      rintro e w5 ⟨rfl, hb5⟩
      have HN5 := zH ((HN1.out.ext ((Below.refl _ _).alloc (Nat.le_refl _) _)).ext hb5)
      have X5 := zH (XB.out.after hb5)
      have hb05 : Below wr.heap.size wr w5 := ((Below.refl _ _).alloc (Nat.le_refl _) _).trans (hb5.mono (by simp))
      have B05 := zH hb05
      have B5 := zH (Hbw.out.trans (hb05.mono Hbw.out.size))
      clear hb5
      by_cases h0 : E = 0
      · subst h0
        have d0 := X5.out.cell 0
        have d1 := X5.out.cell 1
        have d2 := X5.out.cell 2
        have d3 := X5.out.cell 3
        have d4 := X5.out.cell 4
        have t1 := HN5.out.box.cell 1
        have tf := HN5.out.box.free 1
        have tlt := HN5.out.box.lt
        have xlt := X5.out.lt
        clear hc0 hc1 hc2 hc3 hc4
        go_wp2_with fail
        go_region_law (first
         | (refine step_append_lies _ (by rfl) _ _ _ (by rfl) (w1.heap.size + 2) 132 i0 _ 5 104 Tryz.underlying74 I0.out I1.out I2.out I3.out rfl (by omega) (.slice A1 cs.length cap) cs.length (cs.flatMap qF) (by rfl) (N6.out.own.alloc _) ⟨w6.heap.size, 0, none⟩ 1 1 (qF y) (by rfl) (by rfl) (World.news_of_block (cs := #[.string ⟨y.name.toArray⟩, .string ⟨y.sup.toArray⟩, .slice y.kA y.km y.kc, .slice y.fA y.fm y.fc, .slice y.mA y.mm y.mc]) (t := 132) (fr := (0, 0)) (heap_alloc_new w6 _)) (by unfold qF; simp [Value.oneCell']) (by omega) (by unfold maxLen; omega) (by omega) (by simp; omega) (w6.heap.size + 1) (by simp) ?_; intro gg cap7 w7 hown7 hg7 hat7 hlt7; have hp := push_all (x := x) HN5.out HY.out.1 HY.out.2.1 HY.out.2.2 _ hown7 hg7 hat7; have t17 := hp.1.cell 1; have tf7 := hp.1.free 1; have N7 := zH hp.2; clear hp hown7 hg7 hat7)
         | (go_simp; go_at_call 63; refine (HClo.out _ B05.out.drew trivial).mono ?_; rintro e w6 ⟨y, rfl, hy, hxy, hb6⟩; have hb56 : Below w5.heap.size w5 w6 := (Below.refl w5.heap.size w5).drew.trans hb6; have N6 := zH (HN5.out.ext hb56); have t16 := N6.out.box.cell 1; have tf6 := N6.out.box.free 1; have tlt6 := N6.out.box.lt; have hs6 := N6.out.sz; have HY := zH (And.intro hy (And.intro hxy hb6)); clear hy hxy hb6 hb56))
        all_goals
         go_wp2_with fail
         go_roundw
         case rel => exact ⟨j + 1, some ⟨gg, 0, none⟩, cap7, cs ++ [y], by omega, by go_num, by have := HCl.out; simp [this], by rw [HTk.out]; exact N7.out, Hnext.out trivial⟩
         case measure => simp [intOf]; omega
      · have d0 := X5.out.cell 0
        have xlt := X5.out.lt
        have Hne := zH h0
        have HW := zH (by have := Hwhy.out h0; exact this)
        clear hc0 hc1 hc2 hc3 hc4
        go_wp2_with fail
        go_quiet (fail)
        go_wp2_with fail
        go_ret3
        exact xW HW.out Hne.out (Stru.drawn B5.out _)
    · have htk : l.take j = l := List.take_of_length_le (by omega)
      rw [htk] at HN1 HZ0
      have hb := HN1.out.bare
      have HBare := zH hb
      have hpc : pairs cs = pairs l := Kt hb
      have hzc : (ZA (pairs cs)).2 = 0 := by rw [hpc]; exact HZ.out
      have HTa0 := zH (HN1.out.ta HH.out)
      have HLn := zH (show cs.length = l.length from by have := congrArg List.length hb; simpa using this)
      have HAlk := zH (show ∀ k ∈ cs, ∃ k' ∈ l, Alk k k' from fun k hk => by obtain ⟨k', h1, h2⟩ := xA hb hk; exact ⟨k', h1, zd6 h2⟩)
      have HFew := zH (show ∀ k ∈ cs, k.fields.length ≤ 16 ∧ k.meths.length ≤ 32 from fun k hk => by obtain ⟨k', h1, h2⟩ := HAlk.out k hk; exact h2.few (yP (HZ0.out k' h1)))
      have HLt := zH (show ∀ k ∈ cs, za.lt k from fun k hk => by obtain ⟨k', h1, h2⟩ := HAlk.out k hk; exact h2.lt (His.out k' h1).2)
      have HUp := zH (show ∀ d k, cs.find? (named d) = some k → (mk (pairs cs)).up d = some k.sup from fun d k hf => ze7 hzc hf)
      have HWays := zH (show ∀ k ∈ cs, ∃ l', Zc (mk (pairs cs)).up k.name l' ∧ l'.length ≤ 41 from fun k hk => TabV.ways hzc hk)
      have hcl3 : cs.length ≤ 32 := by have := HLn.out; omega
      have t1 := HTa0.out.box.cell 1
      have htl := HTa0.out.box.lt
      have HB0 := zH (Nat.le_trans B1.out.size (Nat.le_refl _))
      clear hb hpc hzc htk hbw htb hcl2
      go_wp2_with fail
      clear t1 htl
      go_loopw [61] (fun i wx => ∃ (q n : Nat) (f : T → Option zO), q ≤ cs.length ∧ i = .int .i64 q ∧ Ta w1.heap.size wx (w1.heap.size + 1) g w1.heap.size n A1 cap (mk (pairs l)) cs f ∧ n ≤ 41 * q ∧ (∀ k ∈ cs.take q, f k.name ≠ none) ∧ Below w.heap.size w wx) (fun i _ => cs.length - (intOf i).toNat)
      case atStart => exact ⟨0, 0, fun _ => none, Nat.zero_le _, rfl, HTa0.out, Nat.le_refl _, by simp, Hbw.out⟩
      case round =>
       clear HN1 HTa0 Hbw hszb hlt
       obtain ⟨q, n, f, hq, rfl, hTa, hn, hfk, hbw⟩ := hrel
       have HTa := zH hTa
       have HFk := zH hfk
       have Hbw := zH hbw
       have hlo := hTa.base
       clear hfk
       by_cases hlt : q < cs.length
       · obtain ⟨b1, o1, hA, hb1, hc0, hc1, hc2, hc3, hc4⟩ := Jw hTa.rds hlt
         subst hA
         have hq1 : (q : Int) < (cs.length : Int) := by omega
         have hq0 : (0 : Int) ≤ (q : Int) := by omega
         obtain ⟨l', hw, hl'⟩ := HWays.out _ (List.getElem_mem hlt)
         have HG := zH (zc3 HUp.out (by omega) HFew.out (fun k hk => (HLt.out k hk).sup) hw hl' (HLt.out _ (List.getElem_mem hlt)).name n f (wr.alloc (.cells #[.string ⟨cs[q].name.toArray⟩, .string ⟨cs[q].sup.toArray⟩, .slice cs[q].kA cs[q].km cs[q].kc, .slice cs[q].fA cs[q].fm cs[q].fc, .slice cs[q].mA cs[q].mm cs[q].mc] 132)) (hTa.ext ((Below.refl wr.heap.size wr).alloc (Nat.le_refl _) _)) (by omega))
         have HNx := zH (fun (f' : T → Option zO) h1 h2 => kept_next (f' := f') hlt HFk.out h1 h2)
         have HA2 := zH (Hbw.out.alloc Hbw.out.size (.cells #[.string ⟨cs[q].name.toArray⟩, .string ⟨cs[q].sup.toArray⟩, .slice cs[q].kA cs[q].km cs[q].kc, .slice cs[q].fA cs[q].fm cs[q].fc, .slice cs[q].mA cs[q].mm cs[q].mc] 132))
         clear hw hTa hbw
         generalize cs[q] = x at *
         go_wp2_with fail
         refine HG.out.mono ?_
         rintro e w5 ⟨x', f', n', rfl, _, _, _, hTa', hn', hkp, hqn, hg⟩
         have HT' := zH hTa'
         have HF' := zH (HNx.out f' hkp hqn)
         have HB' := zH (HA2.out.trans (Uk (lo := w.heap.size) hg B1.out.size HA2.out.size))
         clear hTa' hkp hqn hg hc0 hc1 hc2 hc3 hc4
         go_wp2_with fail
         go_roundw
         case rel => exact ⟨q + 1, n', f', by omega, by go_num, HT'.out, by omega, HF'.out, HB'.out⟩
         case measure => simp [intOf]; omega
       · have htk : cs.take q = cs := List.take_of_length_le (by omega)
         rw [htk] at HFk
         have HTot := zH (total_of HFk.out)
         have t1 := hTa.box.cell 1
         have htl := hTa.box.lt
         have Z9 := zH (Below.refl wr.heap.size wr)
         clear hTa hbw htk
         go_wp2_with fail
         clear t1 htl
         have HT9 := zH (fun (W : World) (hb : Below wr.heap.size wr W) => HTa.out.ext hb)
         generalize wr = w9 at *
         go_loopw [75] (fun i wx => ∃ p : Nat, p ≤ cs.length ∧ i = .int .i64 p ∧ (∀ x ∈ cs.take p, qw (mk (pairs l)) cs x = 0) ∧ Below w9.heap.size w9 wx) (fun i _ => cs.length - (intOf i).toNat)
         case atStart => exact ⟨0, Nat.zero_le _, rfl, by simp, Z9.out⟩
         case round =>
          clear hlt hlo
          obtain ⟨p, hp, rfl, hpz, hbel⟩ := hrel
          have HPz := zH hpz
          have Hbel := zH hbel
          have hbw := Hbw.out.trans (hbel.mono Hbw.out.size)
          have HB5 := zH hbw
          clear hpz
          by_cases hlt : p < cs.length
          · have hTr := HT9.out wr hbel
            obtain ⟨b1, o1, hA, hb1, hc0, hc1, hc2, hc3, hc4⟩ := Jw hTr.rds hlt
            subst hA
            have hp1 : (p : Int) < (cs.length : Int) := by omega
            have hp0 : (0 : Int) ≤ (p : Int) := by omega
            have hpl : p < l.length := by have := HLn.out; omega
            have hget := Gh HBare.out hlt hpl
            have hfa : qw (mk (pairs l)) cs cs[p] = qw (mk (pairs l)) l l[p] := vV HBare.out hget
            have hnm : cs[p].name = l[p].name := (zd6 hget).name
            have Hwhy := zH (show qw (mk (pairs l)) cs cs[p] ≠ 0 → jP l = (cs[p].name, qw (mk (pairs l)) cs cs[p]) from fun hne => by
             rw [hfa, hnm]
             rw [hfa] at hne
             exact ze4 HZ.out HZ0.out hpl (fits_l HBare.out HPz.out) hne)
            have Hnext := zH (fun h0 => yj (e := qw (mk (pairs l)) cs) hlt HPz.out h0)
            have HA2 := zH (HB5.out.alloc HB5.out.size (.cells #[.string ⟨cs[p].name.toArray⟩, .string ⟨cs[p].sup.toArray⟩, .slice cs[p].kA cs[p].km cs[p].kc, .slice cs[p].fA cs[p].fm cs[p].fc, .slice cs[p].mA cs[p].mm cs[p].mc] 132))
            have HZ2 := zH (Hbel.out.alloc Hbel.out.size (.cells #[.string ⟨cs[p].name.toArray⟩, .string ⟨cs[p].sup.toArray⟩, .slice cs[p].kA cs[p].km cs[p].kc, .slice cs[p].fA cs[p].fm cs[p].fc, .slice cs[p].mA cs[p].mm cs[p].mc] 132))
            have hT2 := hTr.ext ((Below.refl wr.heap.size wr).alloc (Nat.le_refl _) (.cells #[.string ⟨cs[p].name.toArray⟩, .string ⟨cs[p].sup.toArray⟩, .slice cs[p].kA cs[p].km cs[p].kc, .slice cs[p].fA cs[p].fm cs[p].fc, .slice cs[p].mA cs[p].mm cs[p].mc] 132))
            have HFi := zH (fits_any hT2 HTot.out cs[p] (hT2.each _ (List.getElem_mem hlt)) (HLt.out _ (List.getElem_mem hlt)))
            have XB := zH (Bx.new wr #[.string ⟨cs[p].name.toArray⟩, .string ⟨cs[p].sup.toArray⟩, .slice cs[p].kA cs[p].km cs[p].kc, .slice cs[p].fA cs[p].fm cs[p].fc, .slice cs[p].mA cs[p].mm cs[p].mc] 132)
            clear hTr hT2 hget hfa hnm hbw hbel
            generalize qw (mk (pairs l)) cs cs[p] = E at *
            simp only [za.V] at HFi
            generalize cs[p] = x at *
            go_wp2_with fail
            refine HFi.out.mono ?_
            rintro e w5 ⟨rfl, hb5⟩
            have X5 := zH (XB.out.after hb5)
            have B5 := zH (HA2.out.trans (hb5.mono HA2.out.size))
            have Z5 := zH (HZ2.out.trans (hb5.mono HZ2.out.size))
            clear hb5 hc0 hc1 hc2 hc3 hc4
            by_cases h0 : E = 0
            · subst h0
              go_wp2_with fail
              go_roundw
              case rel => exact ⟨p + 1, by omega, by go_num, Hnext.out trivial, Z5.out⟩
              case measure => simp [intOf]; omega
            · have d0 := X5.out.cell 0
              have xlt := X5.out.lt
              have Hne := zH h0
              have HW := zH (by have := Hwhy.out h0; exact this)
              go_wp2_with fail
              go_quiet (fail)
              go_wp2_with fail
              go_ret3
              exact xW HW.out Hne.out (Stru.drawn B5.out _)
          · have htk : cs.take p = cs := List.take_of_length_le (by omega)
            rw [htk] at HPz
            have HF := zH (HT9.out wr hbel)
            clear htk hbel hbw
            go_wp2_with fail
            go_ret3
            refine ⟨HB5.out, .inl ⟨?_, w1.heap.size, w1.heap.size + 1, g, w1.heap.size, n, A1, cap, cs, f, rfl, B1.out.size, HF.out, HTot.out, HBare.out, HZ.out, HZ0.out⟩⟩
            rw [ze2 HZ.out HZ0.out (by have := fits_l HBare.out (q := cs.length) (by rw [List.take_of_length_le (Nat.le_refl _)]; exact HPz.out); rw [HLn.out, List.take_of_length_le (Nat.le_refl _)] at this; exact this)]
 · have Hne := zH hne
   have HW := zH (kP hne)
   generalize ZA (pairs l) = WW at *
   obtain ⟨nm, en⟩ := WW
   simp only at hne
   clear hmm
   go_wp2_with fail
   go_ret3
   exact xW HW.out Hne.out B1.out
end TabO
namespace TabY
open Go.RowKit Base BinM Stru DescM DescW DescX DescS DescG DescP DescQ HierS HierT HierM HierC HierD HierN HierV Kls KlsP KlsQ OpenK TabC TabM TabK TabP TabE TabB TabG TabH TabT TabU TabV TabX TabW TabF TabN TabO
theorem KT : (Tryz.prog.info? 141).map (fun i => (i.zero, i.size, i.bytes)) = some (some (.agg #[.string ⟨#[]⟩, .string ⟨#[]⟩]), 2, 32) := by kernel_rfl
theorem appFl {ops : Array Oper} {rest : List Oper} {o : Oper} {a : Act} {w : World} {Q : Exit → Act → World → Prop} (hgd : o.guard = none) (s x : Operand)
 (ho : o.op = .call { callee := .builtin .append, args := #[s, x], argTypes := #[129, 129] })
 (base : Nat) (v : Value) (p : List zU) (hs : a.eval s = v) (hown : w.ownsRow base 141 2 v p.length (p.flatMap zU.vals)) (g c : Nat) (y : zU) (hx : a.eval x = .slice (some ⟨g, 0, none⟩) 1 c)
 (hr : Rds w (some ⟨g, 0, none⟩) (zU.vals y)) (hlen : p.length ≤ 100000) (hbase : base ≤ w.heap.size)
 (h : ∀ v' w', w'.ownsRow base 141 2 v' (p.length + 1) ((p ++ [y]).flatMap zU.vals) → w.grownBy w' v.ownBlock → (v'.ownBlock = v.ownBlock ∨ v'.ownBlock = some w.heap.size) → wpList Tryz.prog ops Q rest (a.put o.dst v') w') : wpList Tryz.prog ops Q (o :: rest) a w := by
 obtain ⟨i0, hi, hz, hs1, hb1⟩ := info_parts KT
 refine wpList_plain hgd fun K hK => ?_
 obtain ⟨v', w', hrun, h2, h3, _, h5⟩ := run_append_own_at (P := Tryz.prog) w base 129 o.type 141 i0 _ 2 32 Tryz.underlying129 hi hz hs1 hb1 rfl (by omega) v p.length (p.flatMap zU.vals) hown ⟨g, 0, none⟩ 1 c (zU.vals y) rfl
  (by intro j u hu
      rcases hr with h0 | ⟨b, o', hA, _, hc⟩
      · rw [h0] at hu; simp at hu
      · injection hA with hA
        rw [hA, Addr.add_mid]
        exact hc j u hu)
  (by intro u hu; unfold zU.vals at hu; simp at hu; rcases hu with rfl | rfl <;> rfl) (by unfold maxLen; omega) (by omega) hbase
 unfold Oper.wp execOp
 simp only [ho, resolve, invoke, builtin, Sem.run_bind, Sem.run_pure, Result.andThen_ok, List.map_toArray, List.map_cons, List.map_nil, hs, hx, hrun]
 refine hK _ _ (h v' w' ?_ h3 h5)
 rw [List.flatMap_append]
 simpa using h2
def ZJ (f : zY) : zU := ⟨f.name, f.desc⟩
def kI (w : World) (base : Nat) (v : Value) (l : List zU) : Prop := w.ownsRow base 141 2 v l.length (l.flatMap zU.vals)
theorem zb0 {lo : Nat} {w : World} {t g mb n : Nat} {A : Option Addr} {c : Nat} {h : Hr} {L : List za} {f : T → Option zO} (H : Ta lo w t g mb n A c h L f) (ht : Total L f) (q : T) (hq : q.length ≤ 140737488351232) (hfew : ∀ k ∈ L, k.fields.length ≤ 16 ∧ k.meths.length ≤ 32) :
 Calls Tryz.prog 133 #[.pointer (some ⟨t, 0, none⟩), .string ⟨q.toArray⟩] w fun e w' => ∃ v, e = .returned v ∧ kI w' w.heap.size v ((hav L q).1.map ZJ) ∧ Below w.heap.size w w' := by
 have HH := zH (QM H ht q hq)
 have hl5 := (QL hfew q).1
 clear H ht hfew
 go_enter Tryz.func133, Tryz.ntmps133
 go_wp2_with fail
 refine HH.out.mono ?_
 rintro e w1 ⟨⟨x0, x1, x2, x3, x4, x5, xf, xm⟩, rfl, his, hxf, _, hb1⟩
 simp only [zO.V]
 simp only at hxf
 subst hxf
 have hlen : x1 = (hav L q).1.length := his.flen
 subst hlen
 have Hrd := zH (his.frds.below hb1)
 simp only at Hrd
 have HB1 := zH hb1
 have hf := zc8 x0 (hav L q).1.length x2 x3 x4 x5 w1
 clear his hb1
 generalize hEq : (hav L q).1 = l at *
 have HEq := zH hEq
 clear hEq
 go_wp2_with fail
 clear hf
 have Z1 := zH (Below.refl w1.heap.size w1)
 go_loopw [5, 13] (fun v i wr => ∃ k : Nat, k ≤ l.length ∧ i = .int .i64 k ∧ kI wr w1.heap.size v ((l.take k).map ZJ) ∧ Below w1.heap.size w1 wr) (fun _ i _ => l.length - (intOf i).toNat)
 case atStart => exact ⟨0, Nat.zero_le _, rfl, World.ownsRow_nil _ _ _ _, Z1.out⟩
 case round =>
  obtain ⟨k, hk, rfl, hown, hbw⟩ := hrel
  have Hown := zH hown
  have Hbw := zH hbw
  have hsz := hbw.size
  by_cases hlt : k < l.length
  · obtain ⟨b, o, rfl, hb, hc0, hc1, hc2⟩ := zc9 (Hrd.out.below hbw) hlt
    have hk1 : (k : Int) < (l.length : Int) := by omega
    have hk0 : (0 : Int) ≤ (k : Int) := by omega
    have HT := zH (show (l.take (k + 1)).map ZJ = (l.take k).map ZJ ++ [ZJ l[k]] from by rw [List.take_succ_eq_append_getElem hlt, List.map_append]; rfl)
    have hpl : ((l.take k).map ZJ).length ≤ 6000 := by simp; omega
    clear hown hbw
    generalize (l.take k).map ZJ = ps at *
    generalize l[k] = y at *
    obtain ⟨y0, y1, y2⟩ := y
    simp only at hc0 hc1 hc2
    have HO2 := zH ((Hown.out.alloc (.cells #[.string ⟨y0.toArray⟩, .string ⟨y1.toArray⟩, .string ⟨y2.toArray⟩] 255)).alloc (.cells #[.string ⟨y0.toArray⟩, .string ⟨y1.toArray⟩] 141))
    have HB2 := zH ((Hbw.out.alloc hsz (.cells #[.string ⟨y0.toArray⟩, .string ⟨y1.toArray⟩, .string ⟨y2.toArray⟩] 255)).alloc (by simp; omega) (.cells #[.string ⟨y0.toArray⟩, .string ⟨y1.toArray⟩] 141))
    go_wp2_with (at_builtin
                 have hrd := zg2 wr #[.string ⟨y0.toArray⟩, .string ⟨y1.toArray⟩, .string ⟨y2.toArray⟩] #[.string ⟨y0.toArray⟩, .string ⟨y1.toArray⟩] 255 141
                 refine appFl rfl (.tmp 17) (.tmp 20) rfl w1.heap.size _ ps rfl HO2.out (wr.heap.size + 1) 1 ⟨y0, y1⟩ rfl hrd (by omega) (by simp; omega) ?_
                 intro v2 w2 hF2 hg2 hat2
                 have HB4 := zH (zC HB2.out HO2.out (Nat.le_refl _) HB2.out.size hg2)
                 have HF2 := zH (show kI w2 w1.heap.size v2 (ps ++ [⟨y0, y1⟩]) from by
                  unfold kI
                  rw [show (ps ++ [(⟨y0, y1⟩ : zU)]).length = ps.length + 1 from by simp]
                  exact hF2)
                 clear hrd hF2 hg2 hat2)
    go_roundw
    case rel => exact ⟨k + 1, by omega, by go_num, by rw [HT.out]; exact HF2.out, HB4.out⟩
    case measure => simp [intOf]; omega
  · have hkm : l.take k = l := List.take_of_length_le (by omega)
    rw [hkm] at Hown
    clear hown hbw hkm
    go_wp2_with fail
    go_ret
    exact ⟨_, rfl, by rw [HEq.out]; exact zR Hown.out HB1.out.size, HB1.out.trans (Hbw.out.mono HB1.out.size)⟩
end TabY
namespace TabZ
open Go.RowKit Base BinM Stru DescM DescW DescX DescS DescG DescP DescQ HierS HierT HierM HierC HierD HierN HierV Kls KlsP KlsQ OpenK TabC TabM TabK TabP TabE TabB TabG TabH TabT TabU TabV TabX TabW TabF TabN TabO TabY
theorem bx_al {w : World} {g : Nat} {C : Array Value} {ty : TypeId} (h : Bx w g C ty) (o : Obj) : Bx (w.alloc o) g C ty := h.after ((Below.refl _ _).alloc (Nat.le_refl _) o)
theorem ZG {w : World} {g : Nat} {C : Array Value} {ty : TypeId} (h : Bx w g C ty) : Rds w (some ⟨g, 0, none⟩) C.toList := by
 refine .inr ⟨g, 0, rfl, h.lt, fun j u hu => ?_⟩
 rw [Nat.zero_add, h.cell j]
 simpa using hu
theorem few_of {C L : List za} (hb : C.map zy = L.map zy) (hz : ∀ x ∈ L, qE x = 0) : ∀ k ∈ C, k.fields.length ≤ 16 ∧ k.meths.length ≤ 32 := fun k hk => by
 obtain ⟨k', h1, h2⟩ := xA hb hk
 exact (zd6 h2).few (yP (hz k' h1))
def q1 (w : World) : World := (w).alloc (.cells #[.int .i64 34, .int .i64 0] 228)
def q2 (w : World) : World := (q1 w).alloc (.cells #[.string ⟨#[109]⟩, .string ⟨#[40, 41, 86]⟩, .int .i64 1, .slice (some ⟨w.heap.size, 0, none⟩) 1 1, .slice none 0 0] 158)
def q3 (w : World) : World := (q2 w).alloc (.cells #[.string ⟨#[120]⟩, .string ⟨#[73]⟩] 141)
def q4 (w : World) : World := (q3 w).alloc (.cells #[.string ⟨#[109]⟩, .string ⟨#[40, 41, 86]⟩, .int .i64 1, .slice (some ⟨w.heap.size, 0, none⟩) 1 1, .slice none 0 0] 158)
def q5 (w : World) : World := (q4 w).alloc (.cells #[.string ⟨#[65]⟩, .string ⟨#[79, 98, 106, 101, 99, 116]⟩, .slice none 0 0, .slice (some ⟨w.heap.size + 1 + 1, 0, none⟩) 1 1, .slice (some ⟨w.heap.size + 1 + 1 + 1, 0, none⟩) 1 1] 132)
def q6 (w : World) : World := (q5 w).alloc (.cells #[.string ⟨#[121]⟩, .string ⟨#[76, 65, 59]⟩] 141)
def q7 (w : World) : World := (q6 w).alloc (.cells #[.string ⟨#[109]⟩, .string ⟨#[40, 41, 86]⟩, .int .i64 1, .slice (some ⟨w.heap.size, 0, none⟩) 1 1, .slice none 0 0] 158)
def q8 (w : World) : World := (q7 w).alloc (.cells #[.string ⟨#[66]⟩, .string ⟨#[65]⟩, .slice none 0 0, .slice (some ⟨w.heap.size + 1 + 1 + 1 + 1 + 1, 0, none⟩) 1 1, .slice (some ⟨w.heap.size + 1 + 1 + 1 + 1 + 1 + 1, 0, none⟩) 1 1] 132)
def q9 (w : World) : World := (q8 w).alloc (.cells #[.string ⟨#[66]⟩, .string ⟨#[65]⟩, .slice none 0 0, .slice (some ⟨w.heap.size + 1 + 1 + 1 + 1 + 1, 0, none⟩) 1 1, .slice (some ⟨w.heap.size + 1 + 1 + 1 + 1 + 1 + 1, 0, none⟩) 1 1, .string ⟨#[65]⟩, .string ⟨#[79, 98, 106, 101, 99, 116]⟩, .slice none 0 0, .slice (some ⟨w.heap.size + 1 + 1, 0, none⟩) 1 1, .slice (some ⟨w.heap.size + 1 + 1 + 1, 0, none⟩) 1 1] 132)
end TabZ
end Go.Proofs.YtmkdhdmkdcankaaGreatDoor
