/-
  What the calls of a hierarchy return: meet, Join, loops.
  What the calls of a hierarchy return: Join, loops; and what there is of none.
-/
import Derived.Test.YtgnajafkdbiiaaaGreatDoorHierD
import Derived.Laws.EntriesVeiled
namespace Go.Proofs.YtgnajafkdbiiaaaGreatDoor
namespace HierJ
open Go.RowKit BinM Base DescM DescW DescX HierS HierT HierM HierC HierD
open BinName (ret_bool)

theorem ret_i {a b : Int} (h : a = b) : Ending.returned (.int .i64 a) = .returned (.int .i64 b) := by rw [h]
/-- the first place at which it is so -/
def findT (p : T → Bool) : List T → Int
  | [] => -1
  | x :: r => if p x = true then 0 else if findT p r = -1 then -1 else findT p r + 1
theorem findT_none {p : T → Bool} : ∀ {l : List T}, (∀ x ∈ l, p x = false) → findT p l = -1
  | [], _ => rfl
  | x :: r, h => by
    unfold findT
    rw [if_neg (by rw [h x (by simp)]; simp), if_pos (findT_none (fun y hy => h y (by simp [hy])))]
theorem findT_at {p : T → Bool} : ∀ {l : List T} {j : Nat} (hj : j < l.length), (∀ x ∈ l.take j, p x = false) → p l[j] = true → findT p l = (j : Int)
  | [], _, hj, _, _ => by simp at hj
  | x :: r, 0, _, _, e => by
    have e : p x = true := e
    unfold findT
    rw [if_pos e]; rfl
  | x :: r, j + 1, hj, h, e => by
    have ih := findT_at (l := r) (j := j) (by simpa using hj) (fun y hy => h y (by simp [hy])) e
    unfold findT
    rw [if_neg (by rw [h x (by simp)]; simp), if_neg (by rw [ih]; omega), ih]
    omega
theorem none_next {p : T → Bool} {l : List T} {j : Nat} (hj : j < l.length) (h : ∀ x ∈ l.take j, p x = false) (h2 : p l[j] = false) : ∀ x ∈ l.take (j + 1), p x = false := by
  intro x hx
  rw [List.take_succ_eq_append_getElem hj, List.mem_append] at hx
  rcases hx with hx | hx
  · exact h x hx
  · simp at hx; subst hx; exact h2
theorem findT_some {p : T → Bool} : ∀ {l : List T} {m : T}, l.find? p = some m → ∃ j : Nat, findT p l = (j : Int) ∧ ∃ hj : j < l.length, l[j] = m
  | [], _, h => by simp at h
  | x :: r, m, h => by
    unfold findT
    by_cases hx : p x = true
    · rw [List.find?_cons_of_pos hx] at h
      cases h
      exact ⟨0, by rw [if_pos hx]; rfl, by simp, rfl⟩
    · rw [List.find?_cons_of_neg hx] at h
      obtain ⟨j, e, hj, ej⟩ := findT_some h
      refine ⟨j + 1, ?_, by simpa using hj, ej⟩
      rw [if_neg hx, e, if_neg (by omega)]
      omega

set_option maxRecDepth 100000 in
theorem cloM_any (B g : Nat) (h : Hr) (o c : T) (gh go : Nat) (w : World) (H : IsH B w g h) (hB : B ≤ w.heap.size) (hg : GoodH h) (hl : o.length ≤ 140737488355328) (c1 : w.cell? ⟨gh, 0, none⟩ = some (.pointer (some ⟨g, 0, none⟩))) (c2 : w.cell? ⟨go, 0, none⟩ = some (.string ⟨o.toArray⟩)) :
    Calls Tryz.prog 282 #[.string ⟨c.toArray⟩, .pointer (some ⟨gh, 0, none⟩), .pointer (some ⟨go, 0, none⟩)] w fun e w' => e = .returned (.bool (h.under o c)) ∧ Below w.heap.size w w' := by
  have HU := Lib.hid (under_any B g h o c w H hB hg hl)
  clear H hB hg hl
  go_enter Tryz.func282, Tryz.ntmps282
  go_wp2_with fail
  refine HU.out.mono ?_
  rintro e w' ⟨rfl, hb⟩
  go_wp2_with fail
  go_ret
  exact ⟨rfl, hb⟩

set_option maxRecDepth 100000 in
set_option maxHeartbeats 2000000 in
theorem indexT_any (B g : Nat) (h : Hr) (o : T) (gh go : Nat) (A : Option Addr) (l : List T) (m c : Nat) (w : World) (H : IsH B w g h) (hB : B ≤ w.heap.size) (hg : GoodH h) (hl : o.length ≤ 140737488355328) (c1 : w.cell? ⟨gh, 0, none⟩ = some (.pointer (some ⟨g, 0, none⟩))) (c2 : w.cell? ⟨go, 0, none⟩ = some (.string ⟨o.toArray⟩))
    (hm : m = l.length) (hmx : m ≤ maxLen) (hr : Rds w A (l.map sv)) :
    Calls Tryz.prog 281 #[.slice A m c, .func (.func 282) #[] #[.pointer (some ⟨gh, 0, none⟩), .pointer (some ⟨go, 0, none⟩)]] w fun e w' => e = .returned (.int .i64 (findT (fun x => h.under o x) l)) ∧ Below w.heap.size w w' := by
  have eg : ∀ args w, (callFunc 282 args).run Tryz.prog w = .ok (.enter 282 args) w := enters_of Tryz.func282 (by kernel_rfl) rfl
  have hml : l.length ≤ m := Nat.le_of_eq hm.symm
  have hml2 : m ≤ l.length := Nat.le_of_eq hm
  have hgl1 := World.block_lt_of_cell? w ⟨gh, 0, none⟩ c1
  have hgl2 := World.block_lt_of_cell? w ⟨go, 0, none⟩ c2
  have Hclo := Lib.hid (fun (wr : World) (hb : Below w.heap.size w wr) (x : T) => cloM_any w.heap.size g h o x gh go wr ((H.mono hB).below hb) hb.size hg hl ((hb.cell (p := ⟨gh, 0, none⟩) hgl1).trans c1) ((hb.cell (p := ⟨go, 0, none⟩) hgl2).trans c2))
  have Hr := Lib.hid hr
  unfold maxLen at hmx
  clear H hB hg hl c1 c2 hr hm hgl1 hgl2
  generalize hP : (fun x => h.under o x) = P at *
  have HP : ∀ x, h.under o x = P x := fun x => by rw [← hP]
  simp only [HP] at Hclo
  clear HP hP
  go_enter Tryz.func281, Tryz.ntmps281
  go_wp2_with fail
  go_loopw [5, 8] (fun _ i wr => ∃ j : Nat, j ≤ m ∧ i = .int .i64 j ∧ (∀ x ∈ l.take j, P x = false) ∧ Below w.heap.size w wr) (fun _ i _ => m - (intOf i).toNat)
  case atStart => exact ⟨0, Nat.zero_le _, rfl, by simp, Below.refl _ _⟩
  case round =>
    obtain ⟨j, hj, rfl, hno, hbel⟩ := hrel
    have Hno := Lib.hid hno
    have Hbel := Lib.hid hbel
    have hsz := hbel.size
    clear hno
    by_cases hlt : j < m
    · have hja : j < l.length := by omega
      obtain ⟨b1, o1, rfl, hb1, hc0⟩ := (Hr.out.below hbel).at_ (k := j) (by simpa using hja)
      rw [List.getElem_map] at hc0
      have hj1 : (j : Int) < (m : Int) := by omega
      have hj0 : (0 : Int) ≤ (j : Int) := by omega
      have Hat := Lib.hid (fun he => findT_at hja Hno.out he)
      have Hnext := Lib.hid (fun he => none_next hja Hno.out he)
      have Hc := Lib.hid (Hclo.out _ hbel l[j])
      clear hbel
      generalize l[j] = x at *
      generalize hPx : P x = D at *
      clear hPx
      unfold sv at hc0
      go_wp2_with fail
      refine Hc.out.mono ?_
      rintro e w3 ⟨rfl, hb3⟩
      have B3 := Lib.hid (Hbel.out.trans (hb3.mono hsz))
      clear hb3
      cases D
      · have Hq := Lib.hid (Hnext.out rfl)
        go_wp2_with fail
        go_roundw
        case rel => exact ⟨j + 1, by omega, by go_num, Hq.out, B3.out⟩
        case measure => simp [intOf]; omega
      · have Hq := Lib.hid (Hat.out rfl)
        go_wp2_with fail
        go_ret
        exact ⟨ret_i Hq.out.symm, B3.out⟩
    · have hjm : j = m := by omega
      have Hq := Lib.hid (findT_none (p := P) (l := l) (by have := Hno.out; rw [List.take_of_length_le (by omega)] at this; exact this))
      clear hbel
      go_wp2_with fail
      go_ret
      exact ⟨ret_i Hq.out.symm, Hbel.out⟩

theorem known_class {h : Hr} {a : T} (hk : h.kon a = true) (hc : (classT a).2 = true) : (classT a).1 ∈ h.names := by
  obtain ⟨h1, h2⟩ := class_right hc
  cases a with
  | nil => cases h2
  | cons x t =>
    simp only [List.head?_cons, Option.some.injEq] at h2
    subst h2
    unfold Hr.kon Hr.known at hk
    have hb : brk (76 :: t) = 0 := by simp [brk]
    rw [hb, List.drop_zero, h1, hc] at hk
    simp at hk
    exact has_iff.1 hk
theorem sub_kon {h : Hr} {a b : T} (hs : h.sub a b = true) : h.kon a = true := by
  unfold Hr.sub at hs
  simp only [Bool.and_eq_true] at hs
  exact hs.1.1

set_option maxRecDepth 100000 in
set_option maxHeartbeats 4000000 in
theorem meet_any (B g : Nat) (h : Hr) (a b : T) (w : World) (H : IsH B w g h) (hB : B ≤ w.heap.size) (hg : GoodH h) (ha : a.length ≤ 140737488355328) (hb : b.length ≤ 140737488355328) (ka : h.kon a = true) (kb : h.kon b = true) :
    Calls Tryz.prog 275 #[.pointer (some ⟨g, 0, none⟩), .string ⟨a.toArray⟩, .string ⟨b.toArray⟩] w fun e w' => e = .returned (.string ⟨(h.meet a b).toArray⟩) ∧ Below w.heap.size w w' := by
  have HCa := Lib.hid (fun w => class_t a _ w ha rfl)
  have HCb := Lib.hid (fun w => class_t b _ w hb rfl)
  have hm : h.meet a b = if (classT a).2 && (classT b).2 then ((h.chain (classT a).1).find? fun c => h.under (classT b).1 c).getD [] else objN := rfl
  have hla : (classT a).1.length ≤ 140737488355328 := by unfold classT; split; simp; omega; simp
  have hlb : (classT b).1.length ≤ 140737488355328 := by unfold classT; split; simp; omega; simp
  have hka := fun hc => known_class ka hc
  have hkb := fun hc => known_class kb hc
  clear ka kb ha hb
  generalize h.meet a b = M at *
  generalize classT a = CA at *
  generalize classT b = CB at *
  obtain ⟨ca, oa⟩ := CA
  obtain ⟨cb, ob⟩ := CB
  simp only at HCa HCb hm hla hlb hka hkb
  have hcut : (oa && ob) = true ∨ (oa && ob) = false := by cases oa <;> cases ob <;> simp
  rcases hcut with hboth | hnot
  · simp only [Bool.and_eq_true] at hboth
    obtain ⟨rfl, rfl⟩ := hboth
    have ha := hka rfl
    have hb := hkb rfl
    have hoa : objN ∈ h.chain ca := way_top (chain_way hg ha) (fun _ _ _ hu => up_in hu) hg.top ha
    have hob : objN ∈ h.chain cb := way_top (chain_way hg hb) (fun _ _ _ hu => up_in hu) hg.top hb
    obtain ⟨M', hM'⟩ := meet_some hoa hob
    have hf : (h.chain ca).find? (fun c => h.under cb c) = some M' := hM'
    simp only [Bool.and_self, if_true, hf, Option.getD_some] at hm
    subst hm
    obtain ⟨j, hfj, hj, hjm⟩ := findT_some hf
    have hlen := chain_len hg ca
    have hfew := H.few
    have HJ := Lib.hid hfj
    have HM := Lib.hid hjm
    have Hch := Lib.hid (fun (wr : World) (hbel : Below w.heap.size w wr) => chain_any w.heap.size g h ca wr ((H.mono hB).below hbel) hbel.size hg hla)
    have Hix := Lib.hid (fun (wr : World) (hbel : Below w.heap.size w wr) A l m c c1 c2 hm hmx hr => indexT_any w.heap.size g h cb w.heap.size (w.heap.size + 1) A l m c wr ((H.mono hB).below hbel) hbel.size hg hlb c1 c2 hm hmx hr)
    have h0 := Lib.hid (Below.refl w.heap.size w)
    clear hfj hjm hf hM' ha hb hoa hob hka hkb hla hlb H hB hg
    go_enter Tryz.func275, Tryz.ntmps275
    go_wp2_with fail
    refine (HCa.out _).mono ?_; rintro e w' ⟨rfl, rfl⟩
    go_wp2_with fail
    refine (HCb.out _).mono ?_; rintro e w' ⟨rfl, rfl⟩
    go_wp2_with fail
    refine (Hch.out _ ((h0.out.alloc (Nat.le_refl _) _).alloc (by simp) _)).mono ?_
    rintro e w1 ⟨v, rfl, hown, hb1⟩
    obtain ⟨A, c, rfl, hc1, hc2, hr, _⟩ := hown.slice
    have Hr := Lib.hid hr
    have B1 := Lib.hid (((h0.out.alloc (Nat.le_refl _) (.cells #[.pointer (some ⟨g, 0, none⟩)] 32)).alloc (by simp) (.cells #[.string ⟨cb.toArray⟩] 9)).trans (hb1.mono (by simp; omega)))
    have k1 := (hb1.cell (p := ⟨w.heap.size, 0, none⟩) (by simp; omega)).trans (show _ = some (.pointer (some ⟨g, 0, none⟩)) by go_simp)
    have k2 := (hb1.cell (p := ⟨w.heap.size + 1, 0, none⟩) (by simp)).trans (show _ = some (.string ⟨cb.toArray⟩) by go_simp)
    have K1 := Lib.hid k1
    have K2 := Lib.hid k2
    have hsz := hb1.size
    simp at hsz
    clear hown hr hb1 k1 k2
    go_wp2_with fail
    refine (Hix.out _ B1.out A (h.chain ca) _ c K1.out K2.out rfl (by unfold maxLen; omega) Hr.out).mono ?_
    rw [HJ.out]
    rintro e w2 ⟨rfl, hb2⟩
    obtain ⟨b1, o1, rfl, hbl, hcj⟩ := (Hr.out.below hb2).at_ (k := j) (by simpa using hj)
    rw [List.getElem_map, HM.out] at hcj
    unfold sv at hcj
    have B2 := Lib.hid (B1.out.trans (hb2.mono (by omega)))
    have hj2 : (j : Int) < ((h.chain ca).length : Int) := by omega
    clear hb2
    go_wp2_with fail
    go_ret
    exact ⟨rfl, B2.out⟩
  · have hm' : M = objN := by rw [hm, hnot]; rfl
    subst hm'
    have h0 := Lib.hid (Below.refl w.heap.size w)
    clear hm hla hlb hka hkb H hB hg
    cases oa
    · go_enter Tryz.func275, Tryz.ntmps275
      go_wp2_with fail
      refine (HCa.out _).mono ?_; rintro e w' ⟨rfl, rfl⟩
      go_wp2_with fail
      refine (HCb.out _).mono ?_; rintro e w' ⟨rfl, rfl⟩
      go_wp2_with fail
      go_ret
      exact ⟨rfl, (h0.out.alloc (Nat.le_refl _) _).alloc (by simp) _⟩
    · cases ob
      · go_enter Tryz.func275, Tryz.ntmps275
        go_wp2_with fail
        refine (HCa.out _).mono ?_; rintro e w' ⟨rfl, rfl⟩
        go_wp2_with fail
        refine (HCb.out _).mono ?_; rintro e w' ⟨rfl, rfl⟩
        go_wp2_with fail
        go_ret
        exact ⟨rfl, (h0.out.alloc (Nat.le_refl _) _).alloc (by simp) _⟩
      · cases hnot
end HierJ
end Go.Proofs.YtgnajafkdbiiaaaGreatDoor

namespace Go.Proofs.YtgnajafkdbiiaaaGreatDoor
namespace HierK
open Go.RowKit BinM Base DescM DescW DescX HierS HierT HierM HierC HierD HierJ
open BinName (ret_bool)

theorem retJ {J : T × Bool} {t : T} {b : Bool} (h : J = (t, b)) : Ending.returned (.tuple #[.string ⟨t.toArray⟩, .bool b]) = .returned (.tuple #[.string ⟨J.1.toArray⟩, .bool J.2]) := by subst h; rfl
theorem meet_len {h : Hr} (hl : ∀ c ∈ h.names, c.length ≤ 140737488355000) (hg : GoodH h) (a b : T) : (h.meet a b).length ≤ 140737488355000 := by
  unfold Hr.meet
  split
  · cases hf : (h.chain (classT a).1).find? (fun c => h.under (classT b).1 c) with
    | none => simp
    | some m => exact hl _ (chain_in hg (List.mem_of_find?_eq_some hf))
  · decide

set_option maxRecDepth 100000 in
set_option maxHeartbeats 4000000 in
theorem join_any (B g : Nat) (h : Hr) (a b : T) (w : World) (H : IsH B w g h) (hB : B ≤ w.heap.size) (hg : GoodH h) (ha : a.length ≤ 140737488355328) (hb : b.length ≤ 140737488355328) :
    Calls Tryz.prog 262 #[.pointer (some ⟨g, 0, none⟩), .string ⟨a.toArray⟩, .string ⟨b.toArray⟩] w fun e w' => e = .returned (.tuple #[.string ⟨(h.join a b).1.toArray⟩, .bool (h.join a b).2]) ∧ Below w.heap.size w w' := by
  have HO := Lib.hid (of_obj w)
  have HS := Lib.hid (fun (wr : World) (hbel : Below w.heap.size w wr) (x y : T) (hx : x.length ≤ 140737488355328) (hy : y.length ≤ 140737488355328) => (sub_any w.heap.size g h x y wr ((H.mono hB).below hbel) hbel.size hg hx hy).mono (R' := fun e w' => e = .returned (.bool (h.sub x y)) ∧ Below w.heap.size w w') fun e w' ⟨h1, h2⟩ => ⟨h1, hbel.trans (h2.mono hbel.size)⟩)
  have HM := Lib.hid (fun (wr : World) (hbel : Below w.heap.size w wr) ka kb => (meet_any w.heap.size g h a b wr ((H.mono hB).below hbel) hbel.size hg ha hb ka kb).mono (R' := fun e w' => e = .returned (.string ⟨(h.meet a b).toArray⟩) ∧ Below w.heap.size w w') fun e w' ⟨h1, h2⟩ => ⟨h1, hbel.trans (h2.mono hbel.size)⟩)
  have h0 := Lib.hid (Below.refl w.heap.size w)
  have Ha := Lib.hid ha
  have Hb := Lib.hid hb
  have Hol := Lib.hid (show (ofT objN).length ≤ 140737488355328 by decide)
  have HOf := Lib.hid (fun wr => of_any (h.meet a b) wr (by have := meet_len H.long hg a b; omega))
  have hj : h.join a b = if h.sub a b then (b, true) else if h.sub b a then (a, true) else if h.sub a (ofT objN) && h.sub b (ofT objN) then (ofT (h.meet a b), true) else ([], false) := rfl
  have hka := fun hs => sub_kon (h := h) (a := a) (b := ofT objN) hs
  have hkb := fun hs => sub_kon (h := h) (a := b) (b := ofT objN) hs
  have Hka := Lib.hid hka
  have Hkb := Lib.hid hkb
  generalize hs1 : h.sub a b = s1 at *
  generalize hs2 : h.sub b a = s2 at *
  generalize hs3 : h.sub a (ofT objN) = s3 at *
  generalize hs4 : h.sub b (ofT objN) = s4 at *
  have HS1 := Lib.hid (fun wr hbel => (HS.out wr hbel a b Ha.out Hb.out))
  have HS2 := Lib.hid (fun wr hbel => (HS.out wr hbel b a Hb.out Ha.out))
  have HS3 := Lib.hid (fun wr hbel => (HS.out wr hbel a (ofT objN) Ha.out Hol.out))
  have HS4 := Lib.hid (fun wr hbel => (HS.out wr hbel b (ofT objN) Hb.out Hol.out))
  rw [hs1] at HS1; rw [hs2] at HS2; rw [hs3] at HS3; rw [hs4] at HS4
  clear hs1 hs2 hs3 hs4 hka hkb ha hb H hB hg
  generalize h.join a b = J at *
  generalize h.meet a b = M at *
  cases s1
  · cases s2
    · cases s3
      · have Hfin := Lib.hid (show J = ([], false) from hj)
        clear hj
        go_enter Tryz.func262, Tryz.ntmps262
        go_wp2_with fail
        refine HO.out.mono ?_; rintro e w' ⟨rfl, rfl⟩
        go_wp2_with fail
        refine (HS1.out _ h0.out).mono ?_; rintro e w1 ⟨rfl, hb1⟩
        go_wp2_with fail
        refine (HS2.out _ hb1).mono ?_; rintro e w2 ⟨rfl, hb2⟩
        go_wp2_with fail
        refine (HS3.out _ hb2).mono ?_; rintro e w3 ⟨rfl, hb3⟩
        go_wp2_with fail
        go_ret2
        exact ⟨retJ Hfin.out, hb3⟩
      · cases s4
        · have Hfin := Lib.hid (show J = ([], false) from hj)
          clear hj
          go_enter Tryz.func262, Tryz.ntmps262
          go_wp2_with fail
          refine HO.out.mono ?_; rintro e w' ⟨rfl, rfl⟩
          go_wp2_with fail
          refine (HS1.out _ h0.out).mono ?_; rintro e w1 ⟨rfl, hb1⟩
          go_wp2_with fail
          refine (HS2.out _ hb1).mono ?_; rintro e w2 ⟨rfl, hb2⟩
          go_wp2_with fail
          refine (HS3.out _ hb2).mono ?_; rintro e w3 ⟨rfl, hb3⟩
          go_wp2_with fail
          refine (HS4.out _ hb3).mono ?_; rintro e w4 ⟨rfl, hb4⟩
          go_wp2_with fail
          go_ret2
          exact ⟨retJ Hfin.out, hb4⟩
        · have Hfin := Lib.hid (show J = (ofT M, true) from hj)
          clear hj
          go_enter Tryz.func262, Tryz.ntmps262
          go_wp2_with fail
          refine HO.out.mono ?_; rintro e w' ⟨rfl, rfl⟩
          go_wp2_with fail
          refine (HS1.out _ h0.out).mono ?_; rintro e w1 ⟨rfl, hb1⟩
          go_wp2_with fail
          refine (HS2.out _ hb1).mono ?_; rintro e w2 ⟨rfl, hb2⟩
          go_wp2_with fail
          refine (HS3.out _ hb2).mono ?_; rintro e w3 ⟨rfl, hb3⟩
          go_wp2_with fail
          refine (HS4.out _ hb3).mono ?_; rintro e w4 ⟨rfl, hb4⟩
          go_wp2_with fail
          refine (HM.out _ hb4 (Hka.out trivial) (Hkb.out trivial)).mono ?_; rintro e w5 ⟨rfl, hb5⟩
          go_wp2_with fail
          refine (HOf.out _).mono ?_; rintro e w' ⟨rfl, rfl⟩
          go_wp2_with fail
          go_ret2
          exact ⟨retJ Hfin.out, hb5⟩
    · have Hfin := Lib.hid (show J = (a, true) from hj)
      clear hj
      go_enter Tryz.func262, Tryz.ntmps262
      go_wp2_with fail
      refine HO.out.mono ?_; rintro e w' ⟨rfl, rfl⟩
      go_wp2_with fail
      refine (HS1.out _ h0.out).mono ?_; rintro e w1 ⟨rfl, hb1⟩
      go_wp2_with fail
      refine (HS2.out _ hb1).mono ?_; rintro e w2 ⟨rfl, hb2⟩
      go_wp2_with fail
      go_ret2
      exact ⟨retJ Hfin.out, hb2⟩
  · have Hfin := Lib.hid (show J = (b, true) from hj)
    clear hj
    go_enter Tryz.func262, Tryz.ntmps262
    go_wp2_with fail
    refine HO.out.mono ?_; rintro e w' ⟨rfl, rfl⟩
    go_wp2_with fail
    refine (HS1.out _ h0.out).mono ?_; rintro e w1 ⟨rfl, hb1⟩
    go_wp2_with fail
    go_ret2
    exact ⟨retJ Hfin.out, hb1⟩

set_option maxRecDepth 100000 in
theorem join_nil (a b : ByteArray) (w : World) :
    Calls Tryz.prog 262 #[.pointer none, .string a, .string b] w fun e w' => e = .returned (.tuple #[.string ⟨#[]⟩, .bool false]) ∧ w = w' := by
  have HO := Lib.hid (of_obj w)
  have HS := Lib.hid (fun a b => sub_nil a b w)
  go_enter Tryz.func262, Tryz.ntmps262
  go_wp2_with fail
  refine HO.out.mono ?_; rintro e w' ⟨rfl, rfl⟩
  go_wp2_with fail
  refine (HS.out _ _).mono ?_; rintro e w' ⟨rfl, rfl⟩
  go_wp2_with fail
  refine (HS.out _ _).mono ?_; rintro e w' ⟨rfl, rfl⟩
  go_wp2_with fail
  refine (HS.out _ _).mono ?_; rintro e w' ⟨rfl, rfl⟩
  go_wp2_with fail
  go_ret2
  exact ⟨rfl, rfl⟩
theorem chain_nil (c : ByteArray) (w : World) :
    Calls Tryz.prog 261 #[.pointer none, .string c] w fun e w' => e = .returned (.slice none 0 0) ∧ w = w' := by
  have HK := Lib.hid (has_nil c w)
  go_enter Tryz.func261, Tryz.ntmps261
  go_wp2_with (go_at_call 79; refine HK.out.mono ?_; rintro e w' ⟨rfl, rfl⟩)
  go_ret
  exact ⟨rfl, rfl⟩

/-- where one stands -/
def curT (o : T × Bool) : Option T := if o.2 then some o.1 else none
theorem cur_super (h : Hr) (c : T) : curT (superT h c) = h.up c := by
  unfold superT curT
  cases h.up c <;> rfl
set_option maxRecDepth 100000 in
set_option maxHeartbeats 2000000 in
theorem loops_any (B g : Nat) (h : Hr) (c : T) (w : World) (H : IsH B w g h) (hc : c.length ≤ 140737488355328) :
    Calls Tryz.prog 130 #[.pointer (some ⟨g, 0, none⟩), .string ⟨c.toArray⟩] w fun e w' => e = .returned (.bool (loopF h.up h.names.length (h.up c) c)) ∧ w = w' := by
  have HS := Lib.hid (fun c o (hl : c.length ≤ 140737488355328) ho => super_t B g h c o w H hl ho)
  have Hlong := Lib.hid H.long
  obtain ⟨A, n, cap, mb, h1, h2, h3, h4, h5, _⟩ := H.cells
  have hfew := H.few
  have c0 : w.cell? ⟨g, 0, none⟩ = some (.slice A n cap) := cell_of_row _ _ _ _ _ (0, 0) h1
  have hn41 : n ≤ 41 := by omega
  have hnl : n ≤ h.names.length := by omega
  have hnl2 : h.names.length ≤ n := by omega
  generalize hS : superT h c = S at *
  have HS1 := Lib.hid (HS.out c S hc hS)
  have Hst := Lib.hid (show loopF h.up h.names.length (h.up c) c = loopF h.up (h.names.length - 0) (curT S) c by rw [← hS, cur_super]; rfl)
  have Hst1 := Lib.hid (show S.2 = true → S.1 ∈ h.names by
    intro h
    rw [← hS] at h ⊢
    unfold superT at h ⊢
    cases hu : Hr.up _ c with
    | none => rw [hu] at h; cases h
    | some d => exact up_in hu)
  clear h1 h2 h3 h4 h5 H hS hc
  go_enter Tryz.func130, Tryz.ntmps130
  go_wp2_with (go_at_call 178; refine HS1.out.mono ?_; rintro e w' ⟨rfl, rfl⟩)
  go_loop [5, 6, 18] (fun u ok i => ∃ (k : Nat) (o : T × Bool), k ≤ n ∧ i = .int .i64 k ∧ u = .string ⟨o.1.toArray⟩ ∧ ok = .bool o.2 ∧ (o.2 = true → o.1 ∈ h.names) ∧ loopF h.up h.names.length (h.up c) c = loopF h.up (h.names.length - k) (curT o) c) (fun _ _ i => n - (intOf i).toNat)
  case atStart => exact ⟨0, S, Nat.zero_le _, rfl, rfl, rfl, Hst1.out, Hst.out⟩
  case round =>
    obtain ⟨k, o, hk, rfl, rfl, rfl, hin, hst⟩ := hrel
    obtain ⟨u, ok⟩ := o
    simp only at hin
    by_cases hlt : k < n
    · obtain ⟨m, hm⟩ : ∃ m, h.names.length - k = m + 1 := ⟨h.names.length - k - 1, by omega⟩
      have hm2 : m = h.names.length - (k + 1) := by omega
      rw [hm] at hst
      cases ok
      · have Hfin := Lib.hid (show loopF h.up h.names.length (h.up c) c = false from hst)
        clear hst hm hin
        go_wp2_with fail
        go_ret
        exact ⟨ret_bool (by rw [Hfin.out]), rfl⟩
      · cases hE : u == c
        · have hst2 : loopF h.up h.names.length (h.up c) c = loopF h.up (h.names.length - (k + 1)) (h.up u) c := by
            rw [hst, ← hm2]
            show (u == c || loopF h.up m (h.up u) c) = _
            rw [hE]; rfl
          generalize hS2 : superT h u = S2 at *
          have Hul := Lib.hid (Hlong.out u (hin rfl))
          have HS2 := Lib.hid (HS.out u S2 (Nat.le_trans Hul.out (by omega)) hS2)
          have Hst2 := Lib.hid (show loopF h.up h.names.length (h.up c) c = loopF h.up (h.names.length - (k + 1)) (curT S2) c by rw [hst2, ← hS2, cur_super])
          have Hin2 := Lib.hid (show S2.2 = true → S2.1 ∈ h.names by
            intro h
            rw [← hS2] at h ⊢
            unfold superT at h ⊢
            cases hu : Hr.up _ u with
            | none => rw [hu] at h; cases h
            | some d => exact up_in hu)
          clear hst hst2 hm hm2 hin hS2
          go_wp2_with (go_at_call 178; refine HS2.out.mono ?_; rintro e w' ⟨rfl, rfl⟩)
          go_round
          case rel => exact ⟨k + 1, S2, by omega, by go_num, rfl, rfl, Hin2.out, Hst2.out⟩
          case measure => simp [intOf]; omega
        · have Hfin := Lib.hid (show loopF h.up h.names.length (h.up c) c = true by
            rw [hst]
            show (u == c || loopF h.up m (h.up u) c) = _
            rw [hE]; rfl)
          clear hst hm hin
          go_wp2_with fail
          go_ret
          exact ⟨ret_bool (by rw [Hfin.out]), rfl⟩
    · have Hfin := Lib.hid (show loopF h.up h.names.length (h.up c) c = false by
        rw [hst, show h.names.length - k = 0 by omega]; rfl)
      clear hst hin
      go_wp2_with fail
      go_ret
      exact ⟨ret_bool (by rw [Hfin.out]), rfl⟩
end HierK
end Go.Proofs.YtgnajafkdbiiaaaGreatDoor
