/- pieces -/
import Derived.Test.YtmkdhdmkdcankaaGreatDoorK32
import Derived.Laws.MakeOwn
namespace Go.Proofs.YtmkdhdmkdcankaaGreatDoor
set_option maxRecDepth 100000
namespace HpQ
open Go.RowKit Base BinM HpM HpA HpS HpB HpG HpP HpT HpZ HpR
theorem zd7 (ts : List Th) : ∀ k, (adr k ts).Pairwise (· < ·) := by
 induction ts with
 | nil => intro k; simp [adr]
 | cons t r ih =>
   intro k
   simp only [adr, List.pairwise_cons]
   refine ⟨fun x hx => ?_, ih _⟩
   have := (QO r _ x hx).1
   omega
section
variable {w w' : World} {r : Nat} {AL : Option Addr} {cL most : Nat} {ms : List ThM}
theorem zd2 {p : List ThM} {m : ThM} {q : List ThM} (h : (p ++ m :: q).map ThM.at_ = adr 0 (things (p ++ m :: q))) : m.at_ = (((raw (things p)).length + 1 : Nat) : Int) := by
 have e : things (p ++ m :: q) = things p ++ m.t :: things q := by simp [things]
 rw [e, Qa, List.map_append, List.map_cons] at h
 have hl : ∀ (k : Nat) (ts : List Th), (adr k ts).length = ts.length := by
  intro k ts
  induction ts generalizing k with
  | nil => rfl
  | cons t r ih => simp [adr, ih]
 obtain ⟨_, h2⟩ := List.append_inj h (by rw [hl]; simp [things])
 simp only [adr, List.cons.injEq] at h2
 rw [h2.1]
 omega
theorem U9 {p : List ThM} {m : ThM} {q : List ThM} (H : RfX w r AL cL most (p ++ m :: q)) (hn : (p ++ m :: q).length ≤ 4096) :
 Calls Tryz.prog 45 #[.pointer (some ⟨r, 0, none⟩), .int .i64 m.at_] w fun e w' => e = .returned (.int .i64 (p.length : Int)) ∧ w = w' := by
 have hlt : p.length < (p ++ m :: q).length := by simp
 have hpw := zd7 (things (p ++ m :: q)) 0
 rw [← H.ats, List.map_append, List.map_cons, List.pairwise_append] at hpw
 have h := xk H hn m.at_ (i := p.length) (by omega) (fun u hu => by
  rw [List.take_left] at hu
  have := hpw.2.2 u.at_ (List.mem_map.2 ⟨u, hu, rfl⟩) m.at_ (by simp)
  omega) (fun h => by simp)
 rw [if_pos hlt] at h
 exact h
theorem QN (H : RfX w r AL cL most ms) (hn : ms.length ≤ 4096) (x : Int) (hx : x ∉ adr 0 (things ms)) :
 Calls Tryz.prog 45 #[.pointer (some ⟨r, 0, none⟩), .int .i64 x] w fun e w' => e = .returned (.int .i64 (-1)) ∧ w = w' := by
 have h := xk H hn x (i := ms.length) (Nat.le_refl _) (fun u hu e => by
  rw [List.take_length] at hu
  exact hx (by rw [← H.ats, ← e]; exact List.mem_map.2 ⟨u, hu, rfl⟩)) (fun h => absurd h (Nat.lt_irrefl _))
 rw [if_neg (Nat.lt_irrefl _)] at h
 exact h
theorem rget_no (H : RfX w r AL cL most ms) (hn : ms.length ≤ 4096) (x i : Int) (hx : x ∉ adr 0 (things ms)) :
 Calls Tryz.prog 47 #[.pointer (some ⟨r, 0, none⟩), .int .i64 x, .int .i64 i] w fun e w' => e = .returned (.tuple #[.int .i64 0, .int .i64 3]) ∧ w = w' := by
 have HB := zH (QN H hn x hx)
 clear H hx
 go_enter Tryz.func47, Tryz.ntmps47
 go_wp2_with (go_at_call 45; refine HB.out.mono ?_; rintro e w' ⟨rfl, rfl⟩)
 go_ret2
 exact ⟨rfl, rfl⟩
def Ut (n : Int) (w : World) (e : Ending) (w' : World) : Prop :=
 Below w.heap.size w w' ∧ ((16 ≤ n ∧ n ≤ 4096 ∧ ∃ r, e = .returned (.tuple #[.pointer (some ⟨r, 0, none⟩), .int .i64 0]) ∧ w.heap.size ≤ r ∧ RfX w' r none 0 n.toNat []) ∨
  (¬ (16 ≤ n ∧ n ≤ 4096) ∧ e = .returned (.tuple #[.pointer none, .int .i64 2])))
theorem rnew_any (n : Int) (w : World) : Calls Tryz.prog 38 #[.int .i64 n] w (Ut n w) := by
 by_cases h1 : n < 16
 · go_enter Tryz.func38, Tryz.ntmps38
   go_wp2
   go_ret2
   exact ⟨Below.refl _ _, .inr ⟨by omega, rfl⟩⟩
 · by_cases h2 : 4096 < n
   · go_enter Tryz.func38, Tryz.ntmps38
     go_wp2
     go_ret2
     exact ⟨Below.refl _ _, .inr ⟨by omega, rfl⟩⟩
   · have HN := zH (show ((n.toNat : Nat) : Int) = n by omega)
     go_enter Tryz.func38, Tryz.ntmps38
     go_wp2
     go_ret2
     refine ⟨(Below.refl _ _).alloc (Nat.le_refl _) _, .inl ⟨by omega, by omega, _, rfl, Nat.le_refl _, ⟨?_, World.ownsRow_nil _ _ _ _, ?_, ?_, ?_, ?_, rfl⟩⟩⟩
     · rw [HN.out]
       exact Bx.new _ _ _
     · intro m hm; cases hm
     · intro a ha; cases ha
     · intro m hm; cases hm
     · exact List.Pairwise.nil
end
end HpQ
namespace HpF
open Go.RowKit Base BinM HpM HpA HpS HpB HpG HpP HpT HpZ HpR HpQ HpE
theorem own_setN {w : World} {base : Nat} {e : TypeId} {size n c b : Nat} {xs : List Value} (h : w.ownsRow base e size (.slice (some ⟨b, 0, none⟩) n c) n xs) (k : Nat) (u : Value) :
 (w.setCell ⟨b, k, none⟩ u).ownsRow base e size (.slice (some ⟨b, 0, none⟩) n c) n (xs.set k u) := by
 obtain ⟨r1, r2⟩ := h
 rcases r2 with ⟨r2, _⟩ | ⟨b', cap, cur, r2, r3, r4, r5, r6, r7, r8⟩
 · cases r2
 · injection r2 with r2 r2' r2''
   injection r2 with r2
   injection r2 with r2
   subst r2
   subst r2''
   refine ⟨by rw [List.length_set]; exact r1, .inr ⟨b, c, cur.setIfInBounds k u, rfl, r3, heap_setCell_same w b k cur e u r4, r5, r6, by rw [Array.size_setIfInBounds]; exact r7, ?_⟩⟩
   rw [Array.toList_setIfInBounds, ← r8, List.take_set]
theorem uQ {w : World} {base c b : Nat} {l : List Int} (h : zT w base (.slice (some ⟨b, 0, none⟩) l.length c) l) (k : Nat) (x : Int) :
 zT (w.setCell ⟨b, k, none⟩ (.int .i64 x)) base (.slice (some ⟨b, 0, none⟩) (l.set k x).length c) (l.set k x) := by
 have h' := own_setN h k (.int .i64 x)
 unfold zT
 rw [List.length_set, List.map_set]
 exact h'
def NextR (w w' : World) (F : Nat → Prop) (r most : Nat) (ms : List ThM) : Prop :=
 ∃ AL cL, RfX w' r AL cL most ms ∧ Turned F w w' ∧ ∀ k, Z6 r AL ms k → F k ∨ w.heap.size ≤ k
def Xz (m : ThM) (i : Nat) (v : Int) : ThM := ⟨m.at_, m.A, m.c, jT m.t i v⟩
theorem Q7 (p : List ThM) (m : ThM) (q : List ThM) : things (p ++ m :: q) = things p ++ m.t :: things q := by simp [things]
theorem Y1 (p : List ThM) (m : ThM) (q : List ThM) (i : Nat) (v : Int) : things (p ++ Xz m i v :: q) = things p ++ jT m.t i v :: things q := by simp [things, Xz]
section
variable {w w' : World} {r : Nat} {AL : Option Addr} {cL most : Nat} {ms : List ThM}
theorem GR {p : List ThM} {m m' : ThM} {q : List ThM} (h : m'.A = m.A) (k : Nat) (hk : Z6 r AL (p ++ m' :: q) k) : Z6 r AL (p ++ m :: q) k := by
 rcases hk with hk | hk | ⟨u, hu, a, ha⟩
 · exact .inl hk
 · exact .inr (.inl hk)
 · rw [List.mem_append, List.mem_cons] at hu
   rcases hu with hu | rfl | hu
   · exact .inr (.inr ⟨u, by simp [hu], a, ha⟩)
   · exact .inr (.inr ⟨m, by simp, a, by rw [← h]; exact ha.1, ha.2⟩)
   · exact .inr (.inr ⟨u, by simp [hu], a, ha⟩)
theorem pair_mid {p : List ThM} {m m' : ThM} {q : List ThM} (h : m'.A = m.A) (hp : (p ++ m :: q).Pairwise (fun m m' => ∀ a b, m.A = some a → m'.A = some b → a.block ≠ b.block)) :
 (p ++ m' :: q).Pairwise (fun m m' => ∀ a b, m.A = some a → m'.A = some b → a.block ≠ b.block) := by
 rw [List.pairwise_append, List.pairwise_cons] at hp ⊢
 obtain ⟨h1, ⟨h2, h3⟩, h4⟩ := hp
 refine ⟨h1, ⟨fun u hu a b ha hb => h2 u hu a b (by rw [← h]; exact ha) hb, h3⟩, fun u hu v hv => ?_⟩
 rw [List.mem_cons] at hv
 rcases hv with rfl | hv
 · intro a b ha hb
   exact h4 u hu m (by simp) a b ha (by rw [← h]; exact hb)
 · exact h4 u hu v (by simp [hv])
theorem rsetW {p : List ThM} {m : ThM} {q : List ThM} (H : RfX w r AL cL most (p ++ m :: q)) {b : Nat} (e : m.A = some ⟨b, 0, none⟩) (i : Nat) (v : Int) :
 RfX (w.setCell ⟨b, i, none⟩ (.int .i64 v)) r AL cL most (p ++ Xz m i v :: q) ∧ Turned (Z6 r AL (p ++ m :: q)) w (w.setCell ⟨b, i, none⟩ (.int .i64 v)) := by
 obtain ⟨h1, h2, h3, h4, h5, h6, h7⟩ := H
 have hb := h5 m (by simp) _ e
 have hT : thV (Xz m i v) = thV m := by simp [thV, Xz, jT]
 have hfl : (p ++ Xz m i v :: q).flatMap thV = (p ++ m :: q).flatMap thV := by simp [hT]
 have hlen : (p ++ Xz m i v :: q).length = (p ++ m :: q).length := by simp
 have hother : ∀ u, u ∈ p ∨ u ∈ q → ∀ a, u.A = some a → a.block ≠ b := by
  intro u hu a ha
  rw [List.pairwise_append, List.pairwise_cons] at h6
  rcases hu with hu | hu
  · exact h6.2.2 u hu m (by simp) a _ ha e
  · exact fun hab => h6.2.1.1 u hu _ a e ha hab.symm
 refine ⟨⟨?_, ?_, ?_, h4, ?_, pair_mid (m := m) rfl h6, ?_⟩, Turned.Yd w (.inr (.inr ⟨m, by simp, _, e, rfl⟩)) _⟩
 · rw [hlen]
   exact h1.beside i _ (Ne.symm hb.1)
 · rw [hlen, hfl]
   refine ze h2 (fun k hk => heap_setCell_other w _ k _ ?_)
   obtain ⟨a, q1, q2⟩ := zK hk
   intro hkb
   exact hb.2 a q1 (by rw [q2]; exact hkb.symm)
 · intro u hu
   rw [List.mem_append, List.mem_cons] at hu
   have old : u ∈ p ∨ u ∈ q → zT (w.setCell ⟨b, i, none⟩ (.int .i64 v)) 0 (.slice u.A u.t.W.length u.c) u.t.W := fun hu => by
    refine ze (h3 u (by rcases hu with hu | hu <;> simp [hu])) (fun k hk => heap_setCell_other w _ k _ ?_)
    obtain ⟨a, q1, q2⟩ := zK hk
    rw [← q2]
    exact hother u hu a q1
   rcases hu with hu | rfl | hu
   · exact old (.inl hu)
   · have h := h3 m (by simp)
     rw [e] at h
     show zT _ 0 (.slice m.A (m.t.W.set i v).length m.c) (m.t.W.set i v)
     rw [e]
     exact uQ h i v
   · exact old (.inr hu)
 · intro u hu a ha
   rw [List.mem_append, List.mem_cons] at hu
   rcases hu with hu | rfl | hu
   · exact h5 u (by simp [hu]) a ha
   · exact h5 m (by simp) a ha
   · exact h5 u (by simp [hu]) a ha
 · rw [Y1, kC, ← Q7, ← h7]
   simp [Xz]
theorem rset_no (H : RfX w r AL cL most ms) (hn : ms.length ≤ 4096) (x i v : Int) (hx : x ∉ adr 0 (things ms)) :
 Calls Tryz.prog 42 #[.pointer (some ⟨r, 0, none⟩), .int .i64 x, .int .i64 i, .int .i64 v] w fun e w' => e = .returned (.int .i64 3) ∧ w = w' := by
 have HB := zH (QN H hn x hx)
 clear H hx
 go_enter Tryz.func42, Tryz.ntmps42
 go_wp2_with (go_at_call 45; refine HB.out.mono ?_; rintro e w' ⟨rfl, rfl⟩)
 go_ret
 exact ⟨rfl, rfl⟩
def GivesRSet (w : World) (F : Nat → Prop) (r most : Nat) (p : List ThM) (m : ThM) (q : List ThM) (i v : Int) (e : Ending) (w' : World) : Prop :=
 (¬ (0 ≤ i ∧ i < (m.t.W.length : Int)) ∧ e = .returned (.int .i64 3) ∧ w = w') ∨
 (0 ≤ i ∧ i < (m.t.W.length : Int) ∧ e = .returned (.int .i64 0) ∧ NextR w w' F r most (p ++ Xz m i.toNat v :: q))
theorem uE {p : List ThM} {m : ThM} {q : List ThM} (H : RfX w r AL cL most (p ++ m :: q)) (hn : (p ++ m :: q).length ≤ 4096) (hW : m.t.W.length ≤ 4096) (i v : Int) :
 Calls Tryz.prog 42 #[.pointer (some ⟨r, 0, none⟩), .int .i64 m.at_, .int .i64 i, .int .i64 v] w (GivesRSet w (Z6 r AL (p ++ m :: q)) r most p m q i v) := by
 have HB := zH (U9 H hn)
 have HH := zH H
 have c1 := H.box.cell 1
 obtain ⟨b, o, rfl, _, _, k2, _⟩ := H.cells rfl
 have hpl : (p.length : Int) < ((p ++ m :: q).length : Int) := by simp; omega
 have hpl2 : (p.length : Int) ≤ 4096 := by omega
 have hrow := H.each m (by simp)
 clear H
 by_cases h0 : i < 0
 · clear hrow
   generalize (p ++ m :: q).length = L at *
   go_enter Tryz.func42, Tryz.ntmps42
   go_wp2_with (go_at_call 45; refine HB.out.mono ?_; rintro e w' ⟨rfl, rfl⟩)
   go_ret
   exact .inl ⟨by omega, rfl, rfl⟩
 · by_cases h1 : (m.t.W.length : Int) ≤ i
   · clear hrow
     generalize (p ++ m :: q).length = L at *
     go_enter Tryz.func42, Tryz.ntmps42
     go_wp2_with (go_at_call 45; refine HB.out.mono ?_; rintro e w' ⟨rfl, rfl⟩)
     go_ret
     exact .inl ⟨by omega, rfl, rfl⟩
   · obtain ⟨k, rfl⟩ : ∃ k : Nat, i = (k : Int) := ⟨i.toNat, by omega⟩
     have hk : k < m.t.W.length := by omega
     obtain ⟨bw, hbw, _⟩ := qH hrow (by omega)
     have HS := zH (rsetW HH.out hbw k v)
     rw [hbw] at k2 hrow
     have hc := Zq hrow (List.getElem?_eq_getElem hk)
     have hf := Qk hrow k
     clear hrow
     go_enter Tryz.func42, Tryz.ntmps42
     go_wp2_with (go_at_call 45; refine HB.out.mono ?_; rintro e w' ⟨rfl, rfl⟩)
     go_ret
     refine .inr ⟨by omega, by omega, rfl, ?_⟩
     rw [Int.toNat_natCast]
     exact ⟨_, _, HS.out.1, HS.out.2, fun j h => .inl (GR (m := m) (m' := Xz m k v) rfl j h)⟩
end
end HpF
namespace HpI
open Go.RowKit Base BinM HpM HpA HpS HpB HpG HpP HpT HpZ HpR HpQ HpE HpF
theorem infoT : (Tryz.prog.info? 60).map (fun i => (i.zero, i.size, i.bytes)) = some (some (.agg #[.int .i64 0, .int .i64 0, .slice none 0 0, .int .i64 0]), 4, 48) := by kernel_rfl
section
variable {w w1 : World} {r : Nat} {AL : Option Addr} {cL most : Nat} {ms : List ThM}
theorem Xm (ms : List ThM) (m : ThM) : things (ms ++ [m]) = things ms ++ [m.t] := by simp [things]
theorem rgrew (H : RfX w r AL cL most ms) (hg : w.grownBy w1 (Value.slice AL ms.length cL).ownBlock) : Bx w1 r #[.int .i64 most, .slice AL ms.length cL] 63 :=
 (hg.block r H.box.lt (fun e => by obtain ⟨a, h1, h2⟩ := zK e.symm; exact H.rl a h1 h2)).trans H.box
theorem rpush (H : RfX w r AL cL most ms) {m : ThM} (hW : zT w 0 (.slice m.A m.t.W.length m.c) m.t.W) (hfar : ∀ a, m.A = some a → ¬ Z6 r AL ms a.block) (hat : m.at_ = (((raw (things ms)).length + 1 : Nat) : Int))
 (hg : w.grownBy w1 (Value.slice AL ms.length cL).ownBlock) {b c : Nat} (hown : w1.ownsRow 0 60 4 (.slice (some ⟨b, 0, none⟩) (ms.length + 1) c) (ms.length + 1) (ms.flatMap thV ++ thV m)) (hb : (Value.slice AL ms.length cL).ownBlock = some b ∨ w.heap.size ≤ b) :
 RfX (w1.setCell ⟨r, 1, none⟩ (.slice (some ⟨b, 0, none⟩) (ms.length + 1) c)) r (some ⟨b, 0, none⟩) c most (ms ++ [m]) ∧ Turned (Z6 r AL ms) w (w1.setCell ⟨r, 1, none⟩ (.slice (some ⟨b, 0, none⟩) (ms.length + 1) c)) ∧
  ∀ k, Z6 r (some ⟨b, 0, none⟩) (ms ++ [m]) k → Z6 r AL ms k ∨ w.heap.size ≤ k ∨ ∃ a, m.A = some a ∧ a.block = k := by
 have hbx := rgrew H hg
 have hbf : ∀ k, k < w.heap.size → (∀ a, AL = some a → a.block ≠ k) → b ≠ k := by
  intro k hk hn
  rcases hb with h | h
  · obtain ⟨a, q1, q2⟩ := zK h
    exact fun e => hn a q1 (by omega)
  · omega
 have hbr : b ≠ r := hbf r H.box.lt H.rl
 have hwb : ∀ u ∈ ms, ∀ a, u.A = some a → b ≠ a.block := fun u hu a ha => hbf _ (H.lt (.inr (.inr ⟨u, hu, a, ha, rfl⟩))) (fun a' ha' e => (H.rw_ u hu a ha).2 a' ha' e.symm)
 have hmb : ∀ a, m.A = some a → b ≠ a.block := fun a ha => hbf _ (QI hW ha).1 (fun a' ha' e => hfar a ha (.inr (.inl ⟨a', ha', e⟩)))
 have hkeep : ∀ k, k < w.heap.size → (∀ a, AL = some a → a.block ≠ k) → k ≠ r → (w1.setCell ⟨r, 1, none⟩ (.slice (some ⟨b, 0, none⟩) (ms.length + 1) c)).heap[k]? = w.heap[k]? := fun k hk hn hr =>
  (heap_setCell_other w1 ⟨r, 1, none⟩ k _ hr).trans (hg.block k hk (fun e => by obtain ⟨a, q1, q2⟩ := zK e.symm; exact hn a q1 q2))
 refine ⟨⟨?_, ?_, ?_, ?_, ?_, ?_, ?_⟩, ?_, ?_⟩
 · rw [List.length_append]
   exact hbx.set 1 _
 · rw [List.length_append, List.flatMap_append]
   simp only [List.length_singleton, List.flatMap_cons, List.flatMap_nil, List.append_nil]
   refine ze hown (fun k hk => heap_setCell_other w1 _ k _ ?_)
   injection hk with hk
   subst hk
   exact hbr
 · intro u hu
   rw [List.mem_append, List.mem_singleton] at hu
   rcases hu with hu | rfl
   · refine ze (H.each u hu) (fun k hk => ?_)
     obtain ⟨a, q1, rfl⟩ := zK hk
     exact hkeep _ (QI (H.each u hu) q1).1 (fun a' ha' e => (H.rw_ u hu a q1).2 a' ha' e.symm) (H.rw_ u hu a q1).1
   · refine ze hW (fun k hk => ?_)
     obtain ⟨a, q1, rfl⟩ := zK hk
     exact hkeep _ (QI hW q1).1 (fun a' ha' e => hfar a q1 (.inr (.inl ⟨a', ha', e⟩))) (fun e => hfar a q1 (.inl e))
 · intro a ha
   injection ha with ha
   subst ha
   exact hbr
 · intro u hu a ha
   rw [List.mem_append, List.mem_singleton] at hu
   rcases hu with hu | rfl
   · refine ⟨(H.rw_ u hu a ha).1, fun a' ha' => ?_⟩
     injection ha' with ha'
     subst ha'
     exact Ne.symm (hwb u hu a ha)
   · refine ⟨fun e => hfar a ha (.inl e), fun a' ha' => ?_⟩
     injection ha' with ha'
     subst ha'
     exact Ne.symm (hmb a ha)
 · rw [List.pairwise_append]
   refine ⟨H.ww, by simp, fun u hu v hv a a' ha ha' => ?_⟩
   rw [List.mem_singleton] at hv
   subst hv
   exact fun e => hfar a' ha' (.inr (.inr ⟨u, hu, a, ha, e⟩))
 · rw [Xm, y7, ← H.ats, ← hat]
   simp
 · exact (Turned.J6 hg (fun k hk => by obtain ⟨a, q1, q2⟩ := zK hk; exact .inr (.inl ⟨a, q1, q2⟩))).trans (Turned.Yd (F := Z6 r AL ms) w1 (.inl rfl) _) (fun j h => .inl h)
 · rintro k (h | ⟨a, h1, h2⟩ | ⟨u, hu, a, h1, h2⟩)
   · exact .inl (.inl h)
   · injection h1 with h1
     subst h1
     have h2' : b = k := h2
     rcases hb with h | h
     · obtain ⟨a', q1, q2⟩ := zK h
       exact .inl (.inr (.inl ⟨a', q1, by omega⟩))
     · exact .inr (.inl (by omega))
   · rw [List.mem_append, List.mem_singleton] at hu
     rcases hu with hu | rfl
     · exact .inl (.inr (.inr ⟨u, hu, a, h1, h2⟩))
     · exact .inr (.inr ⟨a, h1, h2⟩)
def Zj (w : World) (F : Nat → Prop) (r most : Nat) (ms : List ThM) (E : Int) (t : Th) (e : Ending) (w' : World) : Prop :=
 (E ≠ 0 ∧ e = .returned (.tuple #[.int .i64 0, .int .i64 E]) ∧ Below w.heap.size w w') ∨
 (E = 0 ∧ e = .returned (.tuple #[.int .i64 (((raw (things ms)).length + 1 : Nat) : Int), .int .i64 0]) ∧ ∃ m : ThM, m.t = t ∧ NextR w w' F r most (ms ++ [m]))
set_option maxHeartbeats 8000000 in
theorem YJ (H : RfX w r AL cL most ms) (hb : (raw (things ms)).length ≤ most) (hm : most ≤ 4096) (hn : ms.length ≤ 4000) (id : Int) {A : Option Addr} {c : Nat} (W : List Int) (hr : Rds w A (W.map (Value.int .i64))) (hW : W.length ≤ 100000) :
 Calls Tryz.prog 58 #[.pointer (some ⟨r, 0, none⟩), .int .i64 id, .slice A W.length c] w (Zj w (Z6 r AL ms) r most ms (Zr most (raw (things ms)).length id (W.length : Int)) ⟨id.toNat, W, 0⟩) := by
 by_cases h1 : id < 0
 · have hE := zH (show Zr most (raw (things ms)).length id (W.length : Int) = 2 by unfold Zr; rw [if_pos (by omega)])
   clear H hr
   go_enter Tryz.func58, Tryz.ntmps58
   go_wp2
   go_ret2
   exact .inl ⟨by rw [hE.out]; omega, by rw [hE.out]; rfl, Below.refl _ _⟩
 · by_cases h2 : 65535 < id
   · have hE := zH (show Zr most (raw (things ms)).length id (W.length : Int) = 2 by unfold Zr; rw [if_pos (by omega)])
     clear H hr
     go_enter Tryz.func58, Tryz.ntmps58
     go_wp2
     go_ret2
     exact .inl ⟨by rw [hE.out]; omega, by rw [hE.out]; rfl, Below.refl _ _⟩
   · have c0 := H.box.cell 0
     have HH := zH H
     have HR := zH hr
     have HU := zH (fun q => (rused_any (w := w.drewN q) (H.drew q) (by omega) (by omega)).mono (R' := fun e w' => e = .returned (.int .i64 ((raw (things ms)).length : Int)) ∧ w' = w.drewN q) (fun _ _ h => ⟨h.1, h.2.symm⟩))
     have hlt := H.box.lt
     clear H hr
     have hu0 : (raw (things ms)).length ≤ 4096 := by omega
     by_cases h3 : (most : Int) - ((raw (things ms)).length : Int) < (W.length : Int) + 1
     · have hE := zH (show Zr most (raw (things ms)).length id (W.length : Int) = 17 by unfold Zr; rw [if_neg (by omega), if_pos (by omega)])
       generalize (raw (things ms)).length = U at *
       generalize W.length = wl at *
       go_enter Tryz.func58, Tryz.ntmps58
       go_wp2_with fail
       go_quiet ((go_at_call 91; exact Calls.quiet_of_same (HU.out _)))
       go_wp2_with fail
       go_ret2
       exact .inl ⟨by rw [hE.out]; omega, by rw [hE.out]; rfl, zf _ _⟩
     · have hE := zH (fun (_ : True) => show Zr most (raw (things ms)).length id (W.length : Int) = 0 by unfold Zr; rw [if_neg (by omega), if_neg (by omega)])
       obtain ⟨d, rfl⟩ : ∃ d : Nat, id = (d : Int) := ⟨id.toNat, by omega⟩
       rw [Int.toNat_natCast]
       obtain ⟨i0, hi, hz, hz1, hz2⟩ := info_parts Qv
       have I0 := zH hi
       have I1 := zH hz
       have I2 := zH hz1
       have I3 := zH hz2
       obtain ⟨j0, gi, gz, gz1, gz2⟩ := info_parts infoT
       have J0 := zH gi
       have J1 := zH gz
       have J2 := zH gz1
       have J3 := zH gz2
       clear hi hz hz1 hz2 gi gz gz1 gz2
       generalize hUe : (raw (things ms)).length = U at *
       have HUe := zH hUe
       clear hUe
       go_enter Tryz.func58, Tryz.ntmps58
       go_wp2_with fail
       go_quiet ((go_at_call 91; exact Calls.quiet_of_same (HU.out _)))
       go_wp2_with (first
                     | (go_at_call 91; refine (HU.out nq).mono ?_; rintro e w' ⟨rfl, rfl⟩)
                     | (at_builtin
                        have hB := G1
                        have hB' := HP1
                        refine wpList_append_lies _ rfl (.tmp 37) (.tmp 42) 61 rfl 0 60 j0 _ 4 48 Tryz.underlying61 J0.out J1.out J2.out J3.out rfl (by omega) (.slice AL ms.length cL) ms.length (ms.flatMap thV) rfl HP1.out.1.row ⟨w1.heap.size, 0, none⟩ 1 1 [.int .i64 ((U : Int) + 1), .int .i64 (d : Int), .slice A1 W.length c1, .int .i64 0] rfl rfl (World.news_of_block (cs := #[.int .i64 ((U : Int) + 1), .int .i64 (d : Int), .slice A1 W.length c1, .int .i64 0]) (t := 60) (fr := (0, 0)) (alloc_at _ _ rfl)) (by simp [Value.oneCell']) (by omega) (by unfold maxLen; omega) (by omega) (Nat.zero_le _) _ rfl ?_
                        intro b5 c5 w5 hown5 hg5 hat5 hlt5
                        have hbx := rgrew HP1.out.1 hg5
                        have d1 := hbx.cell 1
                        have e1 := hbx.free 1
                        have P5 := zH (rpush (m := ⟨(U : Int) + 1, A1, c1, ⟨d, W, 0⟩⟩) HP1.out.1 HP1.out.2.1 HP1.out.2.2 (by rw [HUe.out]; rfl) hg5 hown5 (by rcases hat5 with h | h; exact .inl h; exact .inr (Nat.le_of_eq h.symm)))
                        clear hbx hown5 hg5 hat5 hB hB')
                     | (at_builtin
                        refine zJ rfl (.tmp 30) (.tmp 31) 27 rfl w.heap.size 2 i0 _ 8 Tryz.underlying27 I0.out I1.out I2.out I3.out rfl (.slice none 0 0) 0 [] rfl (World.ownsRow_nil _ _ _ _) A W.length c (W.map (Value.int .i64)) rfl (by simp) (Rds.drewN HR.out nq) (oneI W) (by unfold maxLen; omega) (by omega) (Nat.le_refl _) ?_
                        intro v1 w1 hown1 hg1
                        rw [Nat.zero_add, List.nil_append] at hown1
                        obtain ⟨A1, c1, rfl, _, _, hA1, _⟩ := zi hown1
                        have hb1 : Below w.heap.size w w1 := (zf w nq).grown hg1 (Nat.le_refl _) (fun k hk => by cases hk)
                        have G1 := zH hb1
                        have H1 := HH.out.beside hb1
                        have c1c := H1.box.cell 1
                        have hlt1 := H1.box.lt
                        have hal : Below w1.heap.size w1 (w1.alloc (.cells #[.int .i64 ((U : Int) + 1), .int .i64 (d : Int), .slice A1 W.length c1, .int .i64 0] 60)) := (Below.refl _ _).alloc (Nat.le_refl _) _
                        have HP1 := zH (And.intro (H1.beside hal) (And.intro (show zT (w1.alloc (.cells #[.int .i64 ((U : Int) + 1), .int .i64 (d : Int), .slice A1 W.length c1, .int .i64 0] 60)) 0 (.slice A1 W.length c1) W from zR (World.ownsRow.alloc hown1 _) (Nat.zero_le _)) (show ∀ a, A1 = some a → ¬ Z6 r AL ms a.block from fun a ha hf => by have := (hA1 a ha).1; have := HH.out.lt hf; omega)))
                        have hA1' := zH hA1
                        clear hown1 hg1 hb1 H1 hal hA1))
       go_ret2
       have T1 := (Turned.of_below (F := Z6 r AL ms) G1.out).trans (G := Z6 r AL ms) (Turned.of_below ((Below.refl w1.heap.size w1).alloc (Nat.le_refl _) (.cells #[.int .i64 ((U : Int) + 1), .int .i64 (d : Int), .slice A1 W.length c1, .int .i64 0] 60))) (fun j h => .inl h)
       refine .inr ⟨hE.out trivial, by rw [HUe.out]; rfl, ⟨(U : Int) + 1, A1, c1, ⟨d, W, 0⟩⟩, rfl, some ⟨b5, 0, none⟩, c5, P5.out.1, T1.trans P5.out.2.1 (fun j h => .inl h), fun k hk => ?_⟩
       rcases P5.out.2.2 k hk with h | h | ⟨a, h1, h2⟩
       · exact .inl h
       · exact .inr (Nat.le_trans T1.size h)
       · exact .inr (by rw [← h2]; exact (hA1'.out a h1).1)
end
end HpI
end Go.Proofs.YtmkdhdmkdcankaaGreatDoor
