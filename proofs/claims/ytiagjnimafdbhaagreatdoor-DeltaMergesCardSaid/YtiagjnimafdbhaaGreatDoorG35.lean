/-
  Which classes a method's code speaks of: the pure part, and the program's and the document's Deps.
-/
import Derived.Test.YtiagjnimafdbhaaGreatDoorG30
import Derived.Test.YtiagjnimafdbhaaGreatDoorG32
import Derived.Test.YtiagjnimafdbhaaGreatDoorG34
import Derived.Test.YtiagjnimafdbhaaGreatDoorG33
import Derived.Test.YtiagjnimafdbhaaGreatDoorG13
import Derived.Deep.RegionHeld3
import Derived.StillTailTactics
namespace Go.Proofs.YtiagjnimafdbhaaGreatDoor
namespace TabDp
open Go.RowKit Base BinM Stru DescM DescW DescX DescS DescG DescP DescQ HierS HierT HierM HierC HierD HierN HierR HierU InsC InsM Kls KlsP KlsQ TabC TabM TabK TabP TabE TabB TabG TabH TabT TabU TabI TabR TabV TabCl TabHc InsA InsD InsX InsU InsV InsT PoolN PoolR PoolX OpenK

/-- a class that can be: code that uses a constant has one there -/
theorem used_in {x : ClsT} (h : clsE x = 0) {z : MthT} (hz : z ∈ x.meths) : ∀ y ∈ z.code, usedB y = true → 0 ≤ y.2 ∧ y.2.toNat < x.consts.length := by
  unfold clsE at h
  split at h
  · cases h
  · split at h
    · rename_i h2; exact (h2 h).elim
    · split at h
      · rename_i h3; exact (h3 h).elim
      · unfold mthsE at h
        split at h
        · cases h
        · have hM := TabT.firstI_zero h
          obtain ⟨i, hi, rfl⟩ := List.getElem_of_mem hz
          have h6 := hM i hi
          unfold mthE at h6
          split at h6
          · cases h6
          · split at h6
            · cases h6
            · split at h6
              · cases h6
              · split at h6
                · cases h6
                · unfold codeE at h6
                  split at h6
                  · rename_i h7; exact (h7 h6).elim
                  · rename_i h7
                    have h7' : (InsD.checkI x.meths[i].code x.consts x.meths[i].locals).2 = 0 := Classical.byContradiction h7
                    unfold InsD.checkI at h7'
                    split at h7'
                    · cases h7'
                    · split at h7'
                      · cases h7'
                      · rename_i h8
                        intro y hy hu
                        obtain ⟨k, hk, rfl⟩ := List.getElem_of_mem hy
                        rw [List.find?_eq_none] at h8
                        have h9 := h8 k (List.mem_range.2 hk)
                        rw [List.getD_eq_getElem?_getD, List.getElem?_eq_getElem hk] at h9
                        simp only [Option.getD_some, Bool.not_eq_true, Bool.not_eq_false'] at h9
                        generalize x.meths[i].code[k] = y at *
                        unfold usedB at hu
                        simp only [Bool.and_eq_true, decide_eq_true_eq] at hu
                        unfold canB at h9
                        rw [if_neg (by omega), if_neg (by omega), if_neg (by omega), if_neg (by omega)] at h9
                        cases hc : x.consts[y.2.toNat]? with
                        | none => rw [hc] at h9; cases h9
                        | some c =>
                          rw [hc] at h9
                          simp only [Bool.and_eq_true, decide_eq_true_eq] at h9
                          exact ⟨h9.1, (List.getElem?_eq_some_iff.1 hc).1⟩
/-- names, and behind them the others -/
def addL (l ns : List T) : List T := ns.foldl addT l
def cstAt (ks : List Cst) (i : Int) : Cst := ks.getD i.toNat ⟨0, 0, [], [], []⟩
def depC (ks : List Cst) (is : List Int) : List T := is.foldl (fun l i => addL l (namesC (cstAt ks i))) []
def depH (l : List T) (hs : List HndT) : List T := hs.foldl (fun l h => addT l h.cls) l
def depsM (ks : List Cst) (m : MthT) : List T := depH (depC ks (upsI (usesL m.code))) m.hand
theorem addT_len (l : List T) (x : T) : (addT l x).length ≤ l.length + 1 := by
  unfold addT
  split <;> simp
theorem addL_len : ∀ (ns l : List T), (addL l ns).length ≤ l.length + ns.length
  | [], l => by simp [addL]
  | x :: ns, l => by
    have h1 := addL_len ns (addT l x)
    have h2 := addT_len l x
    unfold addL at h1 ⊢
    rw [List.foldl_cons, List.length_cons]
    omega
theorem addL_take {l ns : List T} {k : Nat} (h : k < ns.length) : addL l (ns.take (k + 1)) = addT (addL l (ns.take k)) ns[k] := by
  rw [List.take_succ_eq_append_getElem h]
  unfold addL
  rw [List.foldl_append]
  rfl
theorem depC_take {ks : List Cst} {is : List Int} {k : Nat} (h : k < is.length) : depC ks (is.take (k + 1)) = addL (depC ks (is.take k)) (namesC (cstAt ks is[k])) := by
  rw [List.take_succ_eq_append_getElem h]
  unfold depC
  rw [List.foldl_append]
  rfl
theorem depH_take {l : List T} {hs : List HndT} {k : Nat} (h : k < hs.length) : depH l (hs.take (k + 1)) = addT (depH l (hs.take k)) hs[k].cls := by
  rw [List.take_succ_eq_append_getElem h]
  unfold depH
  rw [List.foldl_append]
  rfl
theorem addL_one (l : List T) (x : T) : addL l [x] = addT l x := rfl
theorem split_few (u : T) : (splitT u).2.1.length ≤ 6 := by
  rcases Decidable.em ((splitT u).2.2 = 0) with h | h
  · exact (PoolQ.split_ok h).2.1
  · unfold splitT at h ⊢
    split
    · split
      · split
        · rename_i h1 _ _ _ h2 h3
          rw [if_pos h1, h2] at h
          simp only [h3, if_true] at h
          exact absurd trivial h
        · simp
      · simp
    · simp
theorem names_len (c : Cst) : (namesC c).length ≤ 8 := by
  unfold namesC
  split
  · split
    · have := PoolO.one_len [] c.s; simp at this ⊢; omega
    · split
      · have := PoolO.one_len [c.s] c.u; simp at this ⊢; omega
      · split
        · rename_i hr _ _ h5
          have h1 := PoolO.all_len ((splitT c.u).2.1 ++ [(splitT c.u).1]) [c.s]
          have h2 := split_few c.u
          simp at h1 ⊢
          omega
        · simp
  · simp
theorem depC_len (ks : List Cst) : ∀ (is : List Int) (l : List T), (is.foldl (fun l i => addL l (namesC (cstAt ks i))) l).length ≤ l.length + 8 * is.length
  | [], l => by simp
  | i :: is, l => by
    have h1 := depC_len ks is (addL l (namesC (cstAt ks i)))
    have h2 := addL_len (namesC (cstAt ks i)) l
    have h3 := names_len (cstAt ks i)
    rw [List.foldl_cons, List.length_cons]
    omega
theorem depH_len : ∀ (hs : List HndT) (l : List T), (depH l hs).length ≤ l.length + hs.length
  | [], l => by simp [depH]
  | h :: hs, l => by
    have h1 := depH_len hs (addT l h.cls)
    have h2 := addT_len l h.cls
    unfold depH at h1 ⊢
    rw [List.foldl_cons, List.length_cons]
    omega

theorem own_ext {w w' : World} {base : Nat} {v : Value} {p : List T} (h : OwnT w base v p) (hb : Below w.heap.size w w') : OwnT w' base v p :=
  TabM.own_same h (fun k hk => hb.block k (h.lt k hk).2)
/-- names in the caller's row, which may have grown -/
def GivesW (w : World) (base : Nat) (l : List T) (e : Ending) (w' : World) : Prop := ∃ v, e = .returned v ∧ OwnT w' base v l ∧ Below base w w'
def RelW (w : World) (base : Nat) (B : Option Addr) (names ns : List T) (v i : Value) (wr : World) : Prop :=
  ∃ k : Nat, k ≤ ns.length ∧ i = .int .i64 k ∧ OwnT wr base v (addL names (ns.take k)) ∧ Below base w wr ∧ ∀ a, B = some a → wr.heap[a.block]? = w.heap[a.block]? ∧ v.ownBlock ≠ some a.block

set_option maxRecDepth 100000 in
set_option maxHeartbeats 4000000 in
theorem addNew_any (base : Nat) (v : Value) (names : List T) (B : Option Addr) (c : Nat) (ns : List T) (w : World) (h : OwnT w base v names) (hbase : base ≤ w.heap.size) (hnl : names.length ≤ 100000) (hn : ns.length ≤ 1000) (hr : Rds w B (ns.map sv)) (hvb : ∀ a, B = some a → v.ownBlock ≠ some a.block) :
    Calls Tryz.prog 104 #[v, .slice B ns.length c] w (GivesW w base (addL names ns)) := by
  have H := Lib.hid h
  have Hr := Lib.hid hr
  have Hvb := Lib.hid hvb
  clear h hr hvb
  go_enter Tryz.func104, Tryz.ntmps104
  go_wp2_with fail
  go_loopw [0, 6, 9] (fun v _ i wr => RelW w base B names ns v i wr) (fun _ _ i _ => ns.length - (intOf i).toNat)
  case atStart => exact ⟨0, Nat.zero_le _, rfl, H.out, Below.refl _ _, fun a ha => ⟨rfl, Hvb.out a ha⟩⟩
  case round =>
    obtain ⟨k, hk, rfl, hown, hbel, hblk⟩ := hrel
    have Hbel := Lib.hid hbel
    have hsz := hbel.size
    have Hblk := Lib.hid hblk
    by_cases hlt : k < ns.length
    · obtain ⟨b, o, rfl, hb, hc⟩ := Hr.out.at_ (k := k) (by simp; omega)
      have hw := hblk _ rfl
      have hcell : wr.cell? ⟨b, o + k, none⟩ = some (.string ⟨ns[k].toArray⟩) := by
        rw [List.getElem_map] at hc
        exact (World.cell?_of_block (a := ⟨b, o + k, none⟩) hw.1).trans hc
      have ht := addL_take (l := names) hlt
      have hal : (addL names (ns.take k)).length ≤ 101000 := by
        have h1 := addL_len (ns.take k) names
        have h2 : (ns.take k).length ≤ k := by simp; omega
        omega
      have hki : (k : Int) < (ns.length : Int) := by omega
      generalize ns[k] = x at *
      generalize hpp : addL names (ns.take k) = p at *
      obtain ⟨A, d, rfl, hd1, hd2, hr2, _⟩ := OwnT.slice hown
      have Hown := Lib.hid hown
      have HC := Lib.hid (contains_l A p.length d p x wr rfl (by omega) hr2)
      have hadd : addT p x = if p.contains x then p else p ++ [x] := rfl
      rw [hadd] at ht
      have Ht := Lib.hid ht
      have Hpl := Lib.hid hal
      have Hpw := Lib.hid hw
      clear hadd ht hpp hown hr2 hbel hblk hw hc hal
      generalize hcn : p.contains x = cn at *
      clear hcn
      cases cn
      · have Hn := Lib.hid (show addL names (ns.take (k + 1)) = p ++ [x] from Ht.out)
        go_wp2_with fail
        refine HC.out.mono ?_
        rintro e w' ⟨rfl, rfl⟩
        go_wp2_with (at_builtin
                     refine PoolO.appS_at rfl (.tmp 17) (.tmp 19) rfl base _ p rfl (PoolO.ownS_kept Hown.out ((Below.refl wr.heap.size wr).alloc (Nat.le_refl _) _)) wr.heap.size 1 x rfl (by rw [cell_of_row _ _ 0 _ 9 (0, 0) (heap_alloc_new wr _)]; rfl) (by have := Hpl.out; omega) (by simp; omega) ?_
                     intro v2 w2 hown2 hg2 hloc
                     have Hb2 := Lib.hid (below_own (Hbel.out.alloc (by omega) _) (PoolO.ownS_kept Hown.out ((Below.refl wr.heap.size wr).alloc (Nat.le_refl _) _)) (Nat.le_refl _) (by simp; omega) hg2)
                     have Hblk2 : Hid (w2.heap[b]? = w.heap[b]?) := Lib.hid (((hg2.block b (by simp; omega) (fun e => Hpw.out.2 e.symm)).trans (Below.heap_alloc wr _ b (by omega))).trans Hpw.out.1)
                     have Hvg3 : Hid (v2.ownBlock ≠ some b) := Lib.hid (by
                       rcases hloc with e | e
                       · rw [e]; exact Hpw.out.2
                       · rw [e]; intro h; injection h with h; simp at h; omega)
                     have Hown2 := Lib.hid hown2
                     clear hown2 hg2 hloc)
        go_roundw
        case rel => exact ⟨k + 1, by omega, by go_num, by rw [Hn.out]; exact Hown2.out, Hb2.out, fun a ha => by cases ha; exact ⟨Hblk2.out, Hvg3.out⟩⟩
        case measure => simp [intOf]; omega
      · have Hn := Lib.hid (show addL names (ns.take (k + 1)) = p from Ht.out)
        go_wp2_with fail
        refine HC.out.mono ?_
        rintro e w' ⟨rfl, rfl⟩
        go_wp2_with fail
        go_roundw
        case rel => exact ⟨k + 1, by omega, by go_num, by rw [Hn.out]; exact Hown.out, Hbel.out, Hblk.out⟩
        case measure => simp [intOf]; omega
    · have e : ns.take k = ns := List.take_of_length_le (by omega)
      rw [e] at hown
      have Hown := Lib.hid hown
      clear hown hbel hblk e
      go_wp2_with fail
      go_ret
      exact ⟨_, rfl, Hown.out, Hbel.out⟩

/-- what a class and its own method are good for -/
structure GoodM (k : ClsT) (m : MthT) : Prop where
  code : m.code.length ≤ 512
  hand : m.hand.length ≤ 8
  used : ∀ y ∈ m.code, usedB y = true → 0 ≤ y.2 ∧ y.2.toNat < k.consts.length
  lt : ∀ z ∈ k.consts, CstT.lt z
theorem good_of {L : List ClsT} (hz : ∀ x ∈ L, clsE x = 0) (hl : ∀ x ∈ L, ClsT.lt x) (q nm : T) : GoodM (ownC (keptC q L) nm) (ownP (keptC q L) nm).1 := by
  rcases findP_cases (nameM nm) (keptC q L).meths with h1 | ⟨j, hj, h1⟩
  · rw [own_no_ h1, ownC_no (own_no_ h1)]
    exact ⟨by simp [noM], by simp [noM], by simp [noM], by simp [noC]⟩
  · rw [own_yes hj h1, ownC_yes (own_yes hj h1)]
    rcases kept_in q L with h2 | h2
    · rw [h2] at hj; simp [noC] at hj
    · have h3 := cls_short (hz _ h2)
      have h4 := h3.2 _ (List.getElem_mem hj)
      exact ⟨h4.1, h4.2, used_in (hz _ h2) (List.getElem_mem hj), (hl _ h2).consts⟩
theorem ownC_is {k : ClsT} {w : World} (h : k.is w) (nm : T) : (ownC k nm).is w := by
  unfold ownC
  split
  · exact h
  · exact noC_is w
theorem ups_in {l : List InsT} {x : Int} (h : x ∈ upsI (usesL l)) : ∃ y ∈ l, usedB y = true ∧ y.2 = x := by
  rw [ups_mem] at h
  unfold usesL at h
  obtain ⟨y, hy, rfl⟩ := List.mem_map.1 h
  rw [List.mem_filter] at hy
  exact ⟨y, hy.1, hy.2, rfl⟩
theorem cst_at {ks : List Cst} {n : Nat} (h : n < ks.length) : cstAt ks (n : Int) = ks[n] := by
  unfold cstAt
  rw [Int.toNat_natCast, List.getD_eq_getElem?_getD, List.getElem?_eq_getElem h]
  rfl

set_option maxRecDepth 100000 in
set_option maxHeartbeats 8000000 in
theorem deps_any {lo : Nat} {w : World} {t g mb n : Nat} {A : Option Addr} {c : Nat} {h : Hr} {L : List ClsT} {f : T → Option HavT} (H : Ta lo w t g mb n A c h L f) (hml : L.length ≤ 100000) (hL : InsA.Laid w) (q nm : T) (hG : GoodM (ownC (keptC q L) nm) (ownP (keptC q L) nm).1) :
    Calls Tryz.prog 47 #[.pointer (some ⟨t, 0, none⟩), .string ⟨q.toArray⟩, .string ⟨nm.toArray⟩] w fun e w' => ∃ v, e = .returned v ∧ OwnT w' w.heap.size v (depsM (ownC (keptC q L) nm).consts (ownP (keptC q L) nm).1) ∧ Below w.heap.size w w' := by
  have HO := Lib.hid (own_any t _ _ A L c q nm w H.box hml H.rds H.each)
  have HG := Lib.hid hG
  have HK := Lib.hid (ownC_is (kept_is H.each q) nm)
  have HM := Lib.hid (own_is (kept_is H.each q) nm)
  have HL := Lib.hid hL
  clear H hG hL
  generalize ownC (keptC q L) nm = k at *
  generalize (ownP (keptC q L) nm).2 = ok at *
  generalize (ownP (keptC q L) nm).1 = m at *
  obtain ⟨kn, ks, kA, km, kc, fA, fm, fc, mA, mm, mc, kcs, kfs, kms⟩ := k
  obtain ⟨x0, x1, x2, cA, cm, cc, hA, hm, hcc, code, hand⟩ := m
  simp only [clsV, mthV] at HO
  have hcl := HG.out.code
  have hhl := HG.out.hand
  simp only at hcl hhl
  go_enter Tryz.func47, Tryz.ntmps47
  go_wp2_with fail
  refine HO.out.mono ?_
  rintro e w1 ⟨rfl, hb1⟩
  have hA1 : Below w1.heap.size w1 (w1.alloc (.cells #[.string ⟨kn.toArray⟩, .string ⟨ks.toArray⟩, .slice kA km kc, .slice fA fm fc, .slice mA mm mc] 43)) := (Below.refl _ _).alloc (Nat.le_refl _) _
  have hA2 : Below w1.heap.size w1 ((w1.alloc (.cells #[.string ⟨kn.toArray⟩, .string ⟨ks.toArray⟩, .slice kA km kc, .slice fA fm fc, .slice mA mm mc] 43)).alloc (.cells #[.string ⟨x0.toArray⟩, .string ⟨x1.toArray⟩, .int .i64 x2, .slice cA cm cc, .slice hA hm hcc] 55)) := hA1.alloc (by simp) _
  have B2 := Lib.hid (hb1.trans (hA2.mono hb1.size))
  have hs1 : (w1.alloc (.cells #[.string ⟨kn.toArray⟩, .string ⟨ks.toArray⟩, .slice kA km kc, .slice fA fm fc, .slice mA mm mc] 43)).heap.size = w1.heap.size + 1 := by simp
  have C2 := Lib.hid ((Bx.new w1 #[.string ⟨kn.toArray⟩, .string ⟨ks.toArray⟩, .slice kA km kc, .slice fA fm fc, .slice mA mm mc] 43).after ((Below.refl _ _).alloc (Nat.le_refl _) (.cells #[.string ⟨x0.toArray⟩, .string ⟨x1.toArray⟩, .int .i64 x2, .slice cA cm cc, .slice hA hm hcc] 55)))
  have M0 := Bx.new (w1.alloc (.cells #[.string ⟨kn.toArray⟩, .string ⟨ks.toArray⟩, .slice kA km kc, .slice fA fm fc, .slice mA mm mc] 43)) #[.string ⟨x0.toArray⟩, .string ⟨x1.toArray⟩, .int .i64 x2, .slice cA cm cc, .slice hA hm hcc] 55
  rw [hs1] at M0
  have M2 := Lib.hid M0
  clear hb1 hA1 hA2 hs1 M0
  have HU := Lib.hid (uses_any cA cm cc code _ (HL.out.below B2.out HL.out.1) (HM.out.code.below B2.out) (by have h1 := HM.out.code.len; simp only at h1; omega))
  go_wp2_with fail
  refine HU.out.mono ?_
  rintro e w3 ⟨v3, rfl, ho3, hb3⟩
  obtain ⟨A3, c3, rfl, _, _, r3, _⟩ := OwnJ.slice ho3
  rw [rise_eq] at *
  have hul : (upsI (usesL code)).length ≤ 512 := by
    have h1 := ups_len (usesL code)
    have h2 := uses_len code
    omega
  have R3 := Lib.hid r3
  have B3 := Lib.hid (B2.out.trans (hb3.mono B2.out.size))
  have C3 := Lib.hid (C2.out.after hb3)
  have M3 := Lib.hid (M2.out.after hb3)
  have Z3 := Lib.hid (Below.refl w3.heap.size w3)
  have HUs := Lib.hid (fun x (hx : x ∈ upsI (usesL code)) => show 0 ≤ x ∧ x.toNat < kcs.length from by
    obtain ⟨y, hy, hu, rfl⟩ := ups_in hx
    exact HG.out.used y hy hu)
  have HF := Lib.hid (show depsM kcs ⟨x0, x1, x2, cA, cm, cc, hA, hm, hcc, code, hand⟩ = depH (depC kcs (upsI (usesL code))) hand from rfl)
  generalize upsI (usesL code) = us at *
  clear ho3 hb3 r3 HU
  go_wp2_with fail
  go_loopw [10, 12, 27] (fun v _ i wr => ∃ j : Nat, j ≤ us.length ∧ i = .int .i64 j ∧ OwnT wr w3.heap.size v (depC kcs (us.take j)) ∧ Below w3.heap.size w3 wr) (fun _ _ i _ => us.length - (intOf i).toNat)
  case atStart => exact ⟨0, Nat.zero_le _, rfl, World.ownsRow_nil _ _ _ _, Z3.out⟩
  case round =>
    obtain ⟨j, hj, rfl, hown, hbw⟩ := hrel
    have Hbw := Lib.hid hbw
    have hsz := hbw.size
    have HO := Lib.hid hown
    have hlen2 : (depC kcs (us.take j)).length ≤ 8 * 512 := by
      have h9 := depC_len kcs (us.take j) []
      rw [List.length_take] at h9
      have h8 : (depC kcs (us.take j)).length ≤ 0 + 8 * min j us.length := h9
      omega
    by_cases hlt : j < us.length
    · obtain ⟨b9, o9, hA9, hb9, hc9⟩ := (R3.out.below hbw).at_ (k := j) (by simp; omega)
      subst hA9
      rw [List.getElem_map] at hc9
      have hj1 : (j : Int) < (us.length : Int) := by omega
      have hx := HUs.out us[j] (List.getElem_mem hlt)
      have HT := Lib.hid (depC_take (ks := kcs) hlt)
      have k2 := (C3.out.after hbw).cell 2
      generalize us[j] = x at *
      obtain ⟨y, rfl⟩ : ∃ y : Nat, x = (y : Int) := ⟨x.toNat, by omega⟩
      have hy : y < kcs.length := by have := hx.2; simpa using this
      have hyk : (y : Int) < (km : Int) := by have hkm : km = kcs.length := HK.out.consts.len; omega
      have hcy := cst_at hy
      rw [hcy] at HT
      obtain ⟨bk, ok2, hkA, hbk, d0, d1, d2, d3, d4⟩ := csts_at (HK.out.consts.below (B3.out.trans (hbw.mono B3.out.size))).rds hy
      have hlk := HG.out.lt _ (List.getElem_mem hy)
      simp only at hkA hlk
      subst hkA
      generalize kcs[y] = z at *
      obtain ⟨zk, zn, zs, zt, zu⟩ := z
      obtain ⟨z1, z2, z3⟩ := hlk
      simp only at d0 d1 d2 d3 d4 z1 z2 z3
      have HN := Lib.hid (names_any zk zn zs zt zu wr (by omega) (by omega) (by omega))
      have hnl := names_len ⟨zk, zn, zs, zt, zu⟩
      clear hown hcy hx
      generalize depC kcs (us.take j) = p at *
      generalize namesC ⟨zk, zn, zs, zt, zu⟩ = ns at *
      go_wp2_with fail
      refine HN.out.mono ?_
      rintro e w4 ⟨A4, c4, rfl, hlc, ⟨hcx, hbl4⟩, r4, hb4⟩
      have O4 := Lib.hid (own_ext HO.out hb4)
      have B4 := Lib.hid (Hbw.out.trans (hb4.mono hsz))
      have HA := Lib.hid (addNew_any w3.heap.size _ p A4 c4 ns w4 O4.out B4.out.size (by omega) (by omega) r4 (fun a ha e => by have h1 := (World.ownsRow.lt HO.out _ e).2; have h2 := hbl4 a ha; omega))
      clear hb4 r4 hlc hcx hbl4
      go_wp2_with fail
      refine HA.out.mono ?_
      rintro e w5 ⟨v5, rfl, ho5, hb5⟩
      have O5 := Lib.hid ho5
      have B5 := Lib.hid (B4.out.trans hb5)
      clear ho5 hb5
      go_wp2_with fail
      go_roundw
      case rel => exact ⟨j + 1, by omega, by go_num, by rw [HT.out]; exact O5.out, B5.out⟩
      case measure => simp [intOf]; omega
    · have hjm : us.take j = us := List.take_of_length_le (by omega)
      rw [hjm] at hown hlen2
      have O5 := Lib.hid hown
      have GB := Lib.hid (B3.out.trans (hbw.mono B3.out.size))
      have m4 := (M3.out.after hbw).cell 4
      have Z5 := Lib.hid (Below.refl wr.heap.size wr)
      have Hsz := Lib.hid hsz
      obtain ⟨wo, rfl⟩ : ∃ wo : World, wo = wr := ⟨_, rfl⟩
      generalize hdp : depC kcs us = p0 at *
      clear hown hbw hjm hdp HO hsz
      have hmm1 : hm ≤ hand.length := Nat.le_of_eq HM.out.hand.len
      have hmm2 : hand.length ≤ hm := Nat.le_of_eq HM.out.hand.len.symm
      go_wp2_with fail
      go_loopw [10, 14, 43] (fun v _ i wr => ∃ j : Nat, j ≤ hand.length ∧ i = .int .i64 j ∧ OwnT wr w3.heap.size v (depH p0 (hand.take j)) ∧ Below w3.heap.size w3 wr) (fun _ _ i _ => hand.length - (intOf i).toNat)
      case atStart => exact ⟨0, Nat.zero_le _, rfl, O5.out, Hbw.out⟩
      case round =>
        obtain ⟨i, hi, rfl, hown, hbv⟩ := hrel
        have Hbv := Lib.hid hbv
        have hsv := hbv.size
        have HOv := Lib.hid hown
        have hlen3 : (depH p0 (hand.take i)).length ≤ 8 * 512 + 8 := by
          have h9 := depH_len (hand.take i) p0
          rw [List.length_take] at h9
          omega
        by_cases hlt2 : i < hand.length
        · obtain ⟨bh, oh, hhA, hbh, d0, d1, d2, d3⟩ := hnd_at (HM.out.hand.below (B3.out.trans (hbv.mono B3.out.size))).rds hlt2
          have hi1 : (i : Int) < (hm : Int) := by omega
          have HT := Lib.hid (depH_take (l := p0) hlt2)
          simp only at hhA
          subst hhA
          generalize hand[i] = z at *
          obtain ⟨z0, z1, z2, z3⟩ := z
          simp only at d0 d1 d2 d3 HT
          generalize depH p0 (hand.take i) = p at *
          have hal : Below wr.heap.size wr ((wr.alloc (.cells #[.int .i64 z0, .int .i64 z1, .int .i64 z2, .string ⟨z3.toArray⟩] 122)).alloc (.cells #[.string ⟨z3.toArray⟩] 9)) := ((Below.refl _ _).alloc (Nat.le_refl _) _).alloc (by simp) _
          have Ba := Lib.hid (Hbv.out.trans (hal.mono hsv))
          have hra := rds_new (wr.alloc (.cells #[.int .i64 z0, .int .i64 z1, .int .i64 z2, .string ⟨z3.toArray⟩] 122)) #[sv z3] 9
          have hsa : (wr.alloc (.cells #[.int .i64 z0, .int .i64 z1, .int .i64 z2, .string ⟨z3.toArray⟩] 122)).heap.size = wr.heap.size + 1 := by simp
          rw [hsa] at hra
          have HA := Lib.hid (addNew_any w3.heap.size _ p (some ⟨wr.heap.size + 1, 0, none⟩) 1 [z3] _ (own_ext HOv.out hal) Ba.out.size (by omega) (by simp) hra (fun a ha e => by cases ha; have h1 := (World.ownsRow.lt HOv.out _ e).2; simp at h1; omega))
          rw [addL_one] at HA
          clear hown hbv hal hra hsa
          go_wp2_with fail
          refine HA.out.mono ?_
          rintro e w5 ⟨v5, rfl, ho5, hb5⟩
          have O6 := Lib.hid ho5
          have B6 := Lib.hid (Ba.out.trans hb5)
          clear ho5 hb5
          go_wp2_with fail
          go_roundw
          case rel => exact ⟨i + 1, by omega, by go_num, by rw [HT.out]; exact O6.out, B6.out⟩
          case measure => simp [intOf]; omega
        · have him : hand.take i = hand := List.take_of_length_le (by omega)
          rw [him] at hown
          have HE := Lib.hid (own_mono hown B3.out.size)
          have GE := Lib.hid (B3.out.trans (hbv.mono B3.out.size))
          clear hown hbv him
          go_wp2_with fail
          go_ret
          exact ⟨_, rfl, by rw [HF.out]; exact HE.out, GE.out⟩


theorem deps_len {k : ClsT} {m : MthT} (h : GoodM k m) : (depsM k.consts m).length ≤ 4200 := by
  have h1 := depH_len m.hand (depC k.consts (upsI (usesL m.code)))
  have h2 : (depC k.consts (upsI (usesL m.code))).length ≤ 0 + 8 * (upsI (usesL m.code)).length := depC_len k.consts (upsI (usesL m.code)) []
  have h3 := ups_len (usesL m.code)
  have h4 := uses_len m.code
  have h5 := h.code
  have h6 := h.hand
  unfold depsM
  omega
end TabDp
end Go.Proofs.YtiagjnimafdbhaaGreatDoor
