/- pieces -/
import Derived.Test.YtmkdhdmkdcankaaGreatDoorK8
import Derived.Deep.RegionLaw
import Derived.Deep.LoopGhost
import Derived.Lib.Walk
import Derived.Lib.SlicesSearch
import Derived.Deep.QuietTactic
import Derived.BigQuiet
namespace Go.Proofs.YtmkdhdmkdcankaaGreatDoor
set_option maxRecDepth 1000000
set_option maxHeartbeats 4000000
namespace HpA
open Go.RowKit Base BinM HpM
structure Th where
 id : Nat
 W : List Int
 s : Int
def Th.row (t : Th) : List Int := ((t.id : Int) * 65536 + (t.W.length : Int)) :: t.W
def raw (ts : List Th) : List Int := ts.flatMap Th.row
def adr : Nat → List Th → List Int
 | _, [] => []
 | k, t :: r => (((k + 1 : Nat) : Int)) :: adr (k + (1 + t.W.length)) r
theorem Q8 (a b : List Th) : raw (a ++ b) = raw a ++ raw b := by simp [raw]
theorem XM (t : Th) : raw [t] = t.row := by simp [raw]
theorem Zd (t : Th) : t.row.length = 1 + t.W.length := by simp [Th.row]; omega
theorem Qa (a b : List Th) : ∀ k, adr k (a ++ b) = adr k a ++ adr (k + (raw a).length) b := by
 induction a with
 | nil => intro k; simp [adr, raw]
 | cons t r ih =>
   intro k
   have : (raw (t :: r)).length = 1 + t.W.length + (raw r).length := by simp [raw, Zd]
   simp only [List.cons_append, adr, ih, this]
   congr 3
   omega
theorem QO (ts : List Th) : ∀ k, ∀ x ∈ adr k ts, ((k : Nat) : Int) + 1 ≤ x ∧ x ≤ ((k + (raw ts).length : Nat) : Int) := by
 induction ts with
 | nil => intro k x hx; simp [adr] at hx
 | cons t r ih =>
   intro k x hx
   have hl : (raw (t :: r)).length = 1 + t.W.length + (raw r).length := by simp [raw, Zd]
   simp only [adr, List.mem_cons] at hx
   rcases hx with rfl | hx
   · omega
   · have := ih _ x hx
     omega
theorem Um (ts : List Th) : ∀ k, (adr k ts).Pairwise (· ≤ ·) := by
 induction ts with
 | nil => intro k; simp [adr]
 | cons t r ih =>
   intro k
   simp only [adr, List.pairwise_cons]
   refine ⟨fun x hx => ?_, ih _⟩
   have := (QO r _ x hx).1
   omega
theorem Za {ts : List Th} {x : Int} : ∀ {k : Nat}, x ∈ adr k ts → ∃ p t r, ts = p ++ t :: r ∧ x = ((k + (raw p).length + 1 : Nat) : Int) := by
 induction ts with
 | nil => intro k hx; simp [adr] at hx
 | cons t r ih =>
   intro k hx
   simp only [adr, List.mem_cons] at hx
   rcases hx with rfl | hx
   · exact ⟨[], t, r, rfl, by simp [raw]⟩
   · obtain ⟨p, u, q, rfl, rfl⟩ := ih hx
     refine ⟨t :: p, u, q, rfl, ?_⟩
     have hl : (raw (t :: p)).length = 1 + t.W.length + (raw p).length := by simp [raw, Zd]
     rw [hl]
     omega
theorem adr_mem (p : List Th) (t : Th) (r : List Th) (k : Nat) : ((k + (raw p).length + 1 : Nat) : Int) ∈ adr k (p ++ t :: r) := by
 rw [Qa]
 simp [adr]
theorem qJ (ts : List Th) : ∀ k, (adr k ts).length ≤ (raw ts).length := by
 induction ts with
 | nil => intro k; simp [adr]
 | cons t r ih =>
   intro k
   have hl : (raw (t :: r)).length = 1 + t.W.length + (raw r).length := by simp [raw, Zd]
   have := ih (k + (1 + t.W.length))
   simp only [adr, List.length_cons]
   omega
def GivesNew (n : Int) (w : World) (e : Ending) (w' : World) : Prop :=
 Below w.heap.size w w' ∧ ((16 ≤ n ∧ n ≤ 4096 ∧ ∃ g mb, e = .returned (.tuple #[.pointer (some ⟨g, 0, none⟩), .int .i64 0]) ∧ w.heap.size ≤ g ∧ w.heap.size ≤ mb ∧ HpX w' g mb none 0 none 0 n.toNat [] [] 0 (fun _ => none)) ∨
  (¬ (16 ≤ n ∧ n ≤ 4096) ∧ e = .returned (.tuple #[.pointer none, .int .i64 2])))
theorem yE (n : Int) (w : World) : Calls Tryz.prog 37 #[.int .i64 n] w (GivesNew n w) := by
 have hmm := @run_makeMap Tryz.prog
 by_cases h1 : n < 16
 · go_enter Tryz.func37, Tryz.ntmps37
   go_wp2
   go_ret2
   exact ⟨Below.refl _ _, .inr ⟨by omega, rfl⟩⟩
 · by_cases h2 : 4096 < n
   · go_enter Tryz.func37, Tryz.ntmps37
     go_wp2
     go_ret2
     exact ⟨Below.refl _ _, .inr ⟨by omega, rfl⟩⟩
   · have hn : ((n.toNat : Nat) : Int) = n := by omega
     have HN := zH hn
     have hM := (YR w).block (w' := (w.alloc (.map #[] 0)).alloc (.cells #[.int .i64 n, .slice none 0 0, .slice none 0 0, .map (some w.heap.size)] 113)) (((Below.refl _ _).alloc (Nat.le_refl (w.alloc (.map #[] 0)).heap.size) _).block _ (by simp))
     have HM := zH hM
     clear hn hM
     go_enter Tryz.func37, Tryz.ntmps37
     go_wp2
     go_ret2
     refine ⟨((Below.refl _ _).alloc (Nat.le_refl _) _).alloc (by simp) _, .inl ⟨by omega, by omega, _, w.heap.size, rfl, by simp, Nat.le_refl _, ⟨?_, World.ownsRow_nil _ _ _ _, World.ownsRow_nil _ _ _ _, HM.out, ?_, ?_, ?_, ?_⟩⟩⟩
     · rw [HN.out]
       have h := Bx.new (w.alloc (.map #[] 0)) #[.int .i64 n, .slice none 0 0, .slice none 0 0, .map (some w.heap.size)] 113
       rw [show (w.alloc (.map #[] 0)).heap.size = w.heap.size + 1 by simp] at h
       exact h
     · intro a ha; cases ha
     · intro a ha; cases ha
     · intro a b ha; cases ha
     · simp
theorem GZ (n : Nat) (w : World) (hn : n ≤ 9223372036854775807) : Calls Tryz.prog 129 #[.int .i64 (n : Int)] w fun e w' => e = .returned (.int .i64 (((n + 7) / 8 : Nat) : Int)) ∧ w = w' := by
 by_cases h : n % 8 ≤ 1
 · have h8 : ((n : Int) % 8) ≤ 1 := by omega
   have h1 : (((n + 7) / 8 : Nat) : Int) = (n : Int) / 8 + (n : Int) % 8 := by omega
   rw [h1]
   clear h h1
   go_enter Tryz.func129, Tryz.ntmps129
   go_wp2
   go_ret
   refine ⟨?_, rfl⟩
   first
    | rfl
    | (show Ending.returned (.int .i64 ((n : Int) / 8 + min ((n : Int) % 8) 1)) = _
       rw [show min ((n : Int) % 8) 1 = (n : Int) % 8 by omega])
 · have h8 : ¬ ((n : Int) % 8) ≤ 1 := by omega
   have h1 : (((n + 7) / 8 : Nat) : Int) = (n : Int) / 8 + 1 := by omega
   rw [h1]
   clear h h1
   go_enter Tryz.func129, Tryz.ntmps129
   go_wp2
   go_ret
   refine ⟨?_, rfl⟩
   first
    | rfl
    | (show Ending.returned (.int .i64 ((n : Int) / 8 + min ((n : Int) % 8) 1)) = _
       rw [show min ((n : Int) % 8) 1 = 1 by omega])
theorem alloc_at (W : World) (o : Obj) {k : Nat} (h : W.heap.size = k) : (W.alloc o).heap[k]? = some o := by subst h; exact heap_alloc_new W o
def Zr (most used : Nat) (id size : Int) : Int := if ¬ (0 ≤ id ∧ id < 65536) then 2 else if (most : Int) - (used : Int) ≤ size then 17 else 0
def Gs (w : World) (F : Nat → Prop) (g mb most : Nat) (ws al : List Int) (n : Nat) (f : Int → Option Int) (id size : Int) (e : Ending) (w' : World) : Prop :=
 (Zr most ws.length id size ≠ 0 ∧ e = .returned (.tuple #[.int .i64 0, .int .i64 (Zr most ws.length id size)]) ∧ Below w.heap.size w w') ∨
 (Zr most ws.length id size = 0 ∧ e = .returned (.tuple #[.int .i64 ((ws.length + 1 : Nat) : Int), .int .i64 0]) ∧
  Y0 w w' F g mb most (ws ++ (id * 65536 + size) :: List.replicate size.toNat 0) (al ++ [((ws.length + 1 : Nat) : Int)]) n f)
theorem JV {w w' : World} {F : Nat → Prop} {g mb most : Nat} {ws al : List Int} {n : Nat} {f : Int → Option Int} {id size E : Int} (h : Zr most ws.length id size = E) (hE : E ≠ 0) (hb : Below w.heap.size w w') :
 Gs w F g mb most ws al n f id size (.returned (.tuple #[.int .i64 0, .int .i64 E])) w' := by
 subst h
 exact .inl ⟨hE, rfl, hb⟩
theorem kE {w : World} {g mb : Nat} {Aw : Option Addr} {cw : Nat} {Aa : Option Addr} {ca most : Nat} {ws al : List Int} {n : Nat} {f : Int → Option Int} (H : HpX w g mb Aw cw Aa ca most ws al n f) (hm : most ≤ 4096) (hws : ws.length ≤ most) (hal : al.length ≤ 4096) (id size : Int) (hs0 : 0 ≤ size) (hs1 : size ≤ 4611686018427387904) :
 Calls Tryz.prog 128 #[.pointer (some ⟨g, 0, none⟩), .int .i64 id, .int .i64 size] w (Gs w (zQ g mb Aw Aa) g mb most ws al n f id size) := by
 obtain ⟨i0, hi, hz, hz1, hz2⟩ := info_parts Qv
 have I0 := zH hi
 have I1 := zH hz
 have I2 := zH hz1
 have I3 := zH hz2
 clear hi hz hz1 hz2
 by_cases h1 : id < 0
 · have hE := zH (show Zr most ws.length id size = 2 by unfold Zr; rw [if_pos (by omega)])
   clear H
   go_enter Tryz.func128, Tryz.ntmps128
   go_wp2
   go_ret2
   exact JV hE.out (by omega) (Below.refl _ _)
 · by_cases h2 : 65536 ≤ id
   · have hE := zH (show Zr most ws.length id size = 2 by unfold Zr; rw [if_pos (by omega)])
     clear H
     go_enter Tryz.func128, Tryz.ntmps128
     go_wp2
     go_ret2
     exact JV hE.out (by omega) (Below.refl _ _)
   · have c0 := H.box.cell 0
     have c1 := H.box.cell 1
     have hlt := H.box.lt
     have HH := zH H
     have hwl : (ws.length : Int) ≤ 4096 := by omega
     have hml : (most : Int) ≤ 4096 := by omega
     by_cases h3 : (most : Int) - (ws.length : Int) ≤ size
     · have hE := zH (show Zr most ws.length id size = 17 by unfold Zr; rw [if_neg (by omega), if_pos h3])
       clear H
       go_enter Tryz.func128, Tryz.ntmps128
       go_wp2_with fail
       go_region
       go_wp2_with fail
       go_ret2
       exact JV hE.out (by omega) (Below.refl _ _).drew
     · have hE := zH (show Zr most ws.length id size = 0 by unfold Zr; rw [if_neg (by omega), if_neg h3])
       obtain ⟨k, rfl⟩ : ∃ k : Nat, size = (k : Int) := ⟨size.toNat, by omega⟩
       clear H
       go_enter Tryz.func128, Tryz.ntmps128
       go_wp2_with fail
       go_region
       have H1 := HH.out.beside (((Below.refl w.heap.size w).drew).alloc (Nat.le_refl _) (.cells #[.int .i64 (id * 65536 + (k : Int))] 2))
       have HH1 := zH H1
       clear H1
       have hL5 : (ws ++ [id * 65536 + (k : Int)]).length = ws.length + 1 := by simp
       have hL7 : (ws ++ [id * 65536 + (k : Int)] ++ List.replicate k 0).length = ws.length + 1 + k := by simp; omega
       have hL8 : (al ++ [(ws.length : Int) + 1]).length = al.length + 1 := by simp
       have L5 := zH hL5
       have L7 := zH hL7
       have L8 := zH hL8
       clear hL5 hL7 hL8
       have hw0 : w.heap.size ≤ (w.drew.alloc (.cells #[.int .i64 (id * 65536 + (k : Int))] 2)).heap.size := by simp
       have Hw0 := zH hw0
       clear hw0
       go_wp2_with (first
                     | (at_builtin
                        have H8 := P7.out.1.beside ((Below.refl _ _).alloc (Nat.le_refl _) (.cells #[.int .i64 ((ws.length : Int) + 1)] 2))
                        refine wpList_append_lies _ rfl (.tmp 58) (.tmp 60) 27 rfl 0 2 i0 _ 1 8 Tryz.underlying27 I0.out I1.out I2.out I3.out rfl (by omega) (.slice Aa al.length ca) al.length (al.map (Value.int .i64)) rfl H8.adr ⟨_, 0, none⟩ 1 1 [.int .i64 ((ws.length : Int) + 1)] rfl rfl (World.news_of_block (cs := #[.int .i64 ((ws.length : Int) + 1)]) (t := 2) (fr := (0, 0)) (alloc_at _ _ (by simp))) (by simp [Value.oneCell']) (by omega) (by unfold maxLen; omega) (by omega) (Nat.zero_le _) _ rfl ?_
                        intro b8 c8 w8 hown8 hg8 hat8 hlt8
                        have hbx := H8.grewA hg8
                        have d2 := hbx.cell 2
                        have e2 := hbx.free 2
                        have p8 := H8.putA (al' := al ++ [(ws.length : Int) + 1]) (b := b8) (c := c8) hg8 (by unfold zT; rw [L8.out, List.map_append]; exact hown8) (by rcases hat8 with h | h; exact .inl h; exact .inr (Nat.le_of_eq h.symm))
                        rw [L8.out] at p8
                        have P8 := zH p8
                        clear hbx hown8 hg8 hat8 p8 H8)
                     | (at_builtin
                        have hB := P5
                        obtain ⟨v7, w7, hrun, hown7, hg7, hat7⟩ := JG (P := Tryz.prog) 0 27 3 27 2 i0 (.int .i64 0) .i64 .i64 8 Tryz.underlying27 Tryz.underlying3 I0.out I1.out I2.out I3.out rfl rfl _ _ _ P5.out.1.row k (by rw [L5.out]; unfold maxLen; omega) (by rw [L5.out]; omega) (Nat.zero_le _)
                        obtain ⟨b7, c7, rfl, _, hlt7⟩ := hown7.form (by rw [L5.out]; omega)
                        rw [L5.out] at hrun hown7 hg7 hat7
                        refine Lib.wpList_append_run _ rfl _ _ _ _ rfl _ _ rfl rfl _ _ hrun ?_
                        have hbx := P5.out.1.grewW (by rw [L5.out]; exact hg7)
                        have d1' := hbx.cell 1
                        have e1' := hbx.free 1
                        have p7 := P5.out.1.putW (ws' := ws ++ [id * 65536 + (k : Int)] ++ List.replicate k 0) (b := b7) (c := c7) (by rw [L5.out]; exact hg7) (by unfold zT; rw [L7.out, List.map_append, List.map_replicate]; exact hown7) (by rw [L5.out]; rcases hat7 with h | h; exact .inl h.symm; injection h with h; exact .inr (by show _ ≤ b7; rw [show b7 = _ from h]; exact Nat.le_refl _))
                        rw [L7.out] at p7
                        have P7 := zH p7
                        have d2' := p7.1.box.cell 2
                        have hlt' := p7.1.box.lt
                        clear hbx hown7 hg7 hat7 p7 hrun)
                     | (at_builtin
                        have hB := Hw0
                        refine wpList_append_lies _ rfl (.tmp 31) (.tmp 36) 27 rfl 0 2 i0 _ 1 8 Tryz.underlying27 I0.out I1.out I2.out I3.out rfl (by omega) (.slice Aw ws.length cw) ws.length (ws.map (Value.int .i64)) rfl HH1.out.row ⟨w.heap.size, 0, none⟩ 1 1 [.int .i64 (id * 65536 + (k : Int))] rfl rfl (World.news_of_block (cs := #[.int .i64 (id * 65536 + (k : Int))]) (t := 2) (fr := (0, 0)) (heap_alloc_new w.drew _)) (by simp [Value.oneCell']) (by omega) (by unfold maxLen; omega) (by omega) (Nat.zero_le _) (w.heap.size + 1) (by simp) ?_
                        intro b5 c5 w5 hown5 hg5 hat5 hlt5
                        have hbx := HH1.out.grewW hg5
                        have d1 := hbx.cell 1
                        have e1 := hbx.free 1
                        have p5 := HH1.out.putW (ws' := ws ++ [id * 65536 + (k : Int)]) (b := b5) (c := c5) hg5 (by unfold zT; rw [List.length_append, List.map_append]; exact hown5) (by rcases hat5 with h | h; exact .inl h; exact .inr (by simp; omega))
                        rw [L5.out] at p5
                        have P5 := zH p5
                        clear hbx hown5 hg5 hat5 p5 Hw0))
       go_ret2
       have T5 := (Turned.of_below (F := zQ g mb Aw Aa) ((Below.refl w.heap.size w).drew.alloc (Nat.le_refl _) (.cells #[.int .i64 (id * 65536 + (k : Int))] 2))).trans P5.out.2.1 (fun j h => .inl h)
       have S5 : ∀ j, zQ g mb (some ⟨b5, 0, none⟩) Aa j → zQ g mb Aw Aa j ∨ w.heap.size ≤ j := fun j h => (P5.out.2.2 j h).imp (fun h => h) (fun h => by simp at h; omega)
       have T7 := T5.trans P7.out.2.1 S5
       have S7 : ∀ j, zQ g mb (some ⟨b7, 0, none⟩) Aa j → zQ g mb Aw Aa j ∨ w.heap.size ≤ j := fun j h => (P7.out.2.2 j h).elim (S5 j) (fun h => .inr (Nat.le_trans T5.size h))
       have T7' := T7.trans (Turned.of_below (F := zQ g mb Aw Aa) ((Below.refl _ _).alloc (Nat.le_refl _) (.cells #[.int .i64 ((ws.length : Int) + 1)] 2))) (fun j h => .inl h)
       have S8 : ∀ j, zQ g mb (some ⟨b7, 0, none⟩) (some ⟨b8, 0, none⟩) j → zQ g mb Aw Aa j ∨ w.heap.size ≤ j := fun j h => (P8.out.2.2 j h).elim (S7 j) (fun h => .inr (Nat.le_trans T7'.size h))
       refine .inr ⟨hE.out, rfl, some ⟨b7, 0, none⟩, c7, some ⟨b8, 0, none⟩, c8, ?_, T7'.trans P8.out.2.1 S7, S8⟩
       have h := P8.out.1
       rw [List.append_assoc] at h
       exact h
end HpA
namespace HpS
open Go.RowKit Base BinM HpM HpA
theorem nan1 (x : Int) (w : World) : Calls Tryz.prog 176 #[.int .i64 x] w fun e w' => e = .returned (.bool false) ∧ w' = w := by
 go_enter Tryz.func176, Tryz.ntmps176
 go_wp2
 go_ret
 exact ⟨by simp, rfl⟩
theorem nan2 (x : Int) (w : World) : Calls Tryz.prog 136 #[.int .i64 x] w fun e w' => e = .returned (.bool false) ∧ w' = w := by
 go_enter Tryz.func136, Tryz.ntmps136
 go_wp2
 go_ret
 exact ⟨by simp, rfl⟩
theorem JN (x y : Int) (w : World) : Calls Tryz.prog 135 #[.int .i64 x, .int .i64 y] w fun e w' => e = .returned (.bool (decide (x < y))) ∧ w' = w := by
 go_enter Tryz.func135, Tryz.ntmps135
 go_wp2_with (go_at_call 176; refine (nan1 _ _).mono ?_; rintro e w' ⟨rfl, rfl⟩)
 go_ret
 exact ⟨rfl, rfl⟩
theorem ZP {w : World} {A : Option Addr} {zs : List Int} (h : Rds w A (zs.map (Value.int .i64))) {k : Nat} (hk : k < zs.length) : ∃ b o, A = some ⟨b, o, none⟩ ∧ b < w.heap.size ∧ w.cell? ⟨b, o + k, none⟩ = some (.int .i64 (zs.getD k 0)) := by
 obtain ⟨b, o, h1, h2, h3⟩ := h.at_ (k := k) (by simpa using hk)
 refine ⟨b, o, h1, h2, ?_⟩
 rw [h3, List.getElem_map, List.getD_eq_getElem?_getD, List.getElem?_eq_getElem hk]
 rfl
theorem uz (A : Option Addr) (n c : Nat) (zs : List Int) (x : Int) (w : World) (hn0 : n = zs.length) (hbig : n ≤ 100000) (hr : Rds w A (zs.map (Value.int .i64))) (hs : zs.Pairwise (· ≤ ·)) :
 Calls Tryz.prog 92 #[.slice A n c, .int .i64 x] w fun e w' => (∃ i : Int, e = .returned (.tuple #[.int .i64 i, .bool (decide (x ∈ zs))])) ∧ ∃ q, w' = w.drewN q := by
 have S : Hid (∀ a b, a ≤ b → b < n → zs.getD a 0 ≤ zs.getD b 0) := zH (Lib.sorted_at zs n (by omega) (by rw [hn0, List.take_length]; exact hs))
 have HR := zH hr
 have HE : Hid (∀ lo, lo ≤ n → (∀ t, t < lo → zs.getD t 0 < x) → (∀ t, lo ≤ t → t < n → x ≤ zs.getD t 0) → decide (x ∈ zs) = decide (lo < n ∧ zs.getD lo 0 = x)) := zH (fun lo h0 h1 h2 => by
  obtain ⟨_, e2⟩ := Lib.search_end zs n lo x (by omega) h0 h1 h2 S.out
  rw [hn0, List.take_length] at e2
  rw [hn0, ← e2]
  simp)
 have HN := zH hn0
 clear hs hr hn0
 go_enter Tryz.func92, Tryz.ntmps92
 go_wp2
 go_loopg [7, 8] n (fun g s7 s8 wr => ∃ lo hi q : Nat, s7 = .int .i64 lo ∧ s8 = .int .i64 hi ∧ lo ≤ hi ∧ hi ≤ n ∧ hi - lo ≤ g ∧ wr = w.drewN q ∧ (∀ t, t < lo → zs.getD t 0 < x) ∧ (∀ t, hi ≤ t → t < n → x ≤ zs.getD t 0))
 case atStart => exact ⟨0, n, 0, rfl, rfl, Nat.zero_le _, Nat.le_refl _, by omega, rfl, fun t ht => absurd ht (Nat.not_lt_zero _), fun t h1 h2 => by omega⟩
 case round =>
  obtain ⟨lo, hi, q, rfl, rfl, hlh, hin, hg, rfl, h1, h2⟩ := hrel
  have I := zH (And.intro h1 h2)
  clear h1 h2
  by_cases hlt : lo < hi
  · obtain ⟨b, off, rfl, _, cm⟩ := ZP HR.out (k := (lo + hi) / 2) (by have := HN.out; omega)
    generalize hy : zs.getD ((lo + hi) / 2) 0 = y at cm
    have Y := zH hy
    clear hy
    by_cases hyx : y < x
    · go_wp2_with (first | (go_at_call 135; refine (JN _ _ _).mono ?_; rintro e w' ⟨rfl, rfl⟩) | (go_at_call 136; refine (nan2 _ _).mono ?_; rintro e w' ⟨rfl, rfl⟩))
      go_roundg (hi - ((lo + hi) / 2 + 1))
      case measure => omega
      case rel =>
       refine ⟨(lo + hi) / 2 + 1, hi, _, by rw [show ((lo : Int) + (hi : Int)) / 2 + 1 = (((lo + hi) / 2 + 1 : Nat) : Int) by omega], rfl, by omega, hin, Nat.le_refl _, rfl, fun t ht => ?_, I.out.2⟩
       have := S.out t ((lo + hi) / 2) (by omega) (by omega)
       rw [Y.out] at this
       omega
    · go_wp2_with (first | (go_at_call 135; refine (JN _ _ _).mono ?_; rintro e w' ⟨rfl, rfl⟩) | (go_at_call 136; refine (nan2 _ _).mono ?_; rintro e w' ⟨rfl, rfl⟩))
      go_roundg ((lo + hi) / 2 - lo)
      case measure => omega
      case rel =>
       refine ⟨lo, (lo + hi) / 2, _, rfl, by rw [show ((lo : Int) + (hi : Int)) / 2 = (((lo + hi) / 2 : Nat) : Int) by omega], by omega, by omega, Nat.le_refl _, rfl, I.out.1, fun t ht htn => ?_⟩
       have := S.out ((lo + hi) / 2) t ht htn
       rw [Y.out] at this
       omega
  · have : hi = lo := by omega
    subst this
    have E := zH (HE.out hi hin I.out.1 I.out.2)
    by_cases hn : hi < n
    · obtain ⟨b, off, rfl, _, cl⟩ := ZP HR.out (k := hi) (by have := HN.out; omega)
      generalize hy : zs.getD hi 0 = y at cl E
      by_cases hyx : y = x
      · have E' := zH (E.out.trans (decide_eq_true ⟨hn, hyx⟩))
        go_wp2_with (first | (go_at_call 135; refine (JN _ _ _).mono ?_; rintro e w' ⟨rfl, rfl⟩) | (go_at_call 136; refine (nan2 _ _).mono ?_; rintro e w' ⟨rfl, rfl⟩))
        go_ret2
        exact ⟨⟨(hi : Int), by rw [E'.out]; first | rfl | simp [*]⟩, _, rfl⟩
      · have E' := zH (E.out.trans (decide_eq_false (fun h => hyx h.2)))
        go_wp2_with (first | (go_at_call 135; refine (JN _ _ _).mono ?_; rintro e w' ⟨rfl, rfl⟩) | (go_at_call 136; refine (nan2 _ _).mono ?_; rintro e w' ⟨rfl, rfl⟩))
        go_ret2
        exact ⟨⟨(hi : Int), by rw [E'.out]; first | rfl | simp [*]⟩, _, rfl⟩
    · have E' := zH (E.out.trans (decide_eq_false (fun h => hn h.1)))
      go_wp2_with (first | (go_at_call 135; refine (JN _ _ _).mono ?_; rintro e w' ⟨rfl, rfl⟩) | (go_at_call 136; refine (nan2 _ _).mono ?_; rintro e w' ⟨rfl, rfl⟩))
      go_ret2
      exact ⟨⟨(hi : Int), by rw [E'.out]; first | rfl | simp [*]⟩, _, rfl⟩
theorem Vf (A : Option Addr) (n c : Nat) (l : List Int) (w : World) (hn : n = l.length) (hbig : n ≤ 100000) (hr : Rds w A (l.map (Value.int .i64))) :
 Calls Tryz.prog 52 #[.slice A n c] w fun e w' => ∃ v, e = .returned v ∧ zT w' w.heap.size v l ∧ Below w.heap.size w w' := by
 subst hn
 cases A with
 | none =>
   have hl : l = [] := by
    rcases hr with h | ⟨b, o, h, _⟩
    · simpa using h
    · cases h
   subst hl
   clear hr
   have q22 : ∀ (w : World) (a : Option Addr) (n c n' c' : Nat), (binOp .eql 27 (.slice a n c) (.slice none n' c')).run Tryz.prog w = .ok (.bool a.isNone) w := fun w a n c n' c' => Lib.run_eql_slice_nil w _ _ a n c n' c' Tryz.underlying27
   go_enter Tryz.func52, Tryz.ntmps52
   go_wp2
   go_ret
   exact ⟨_, rfl, World.ownsRow_nil _ _ _ _, Below.refl _ _⟩
 | some ad =>
   obtain ⟨i0, hi, hz, hz1, hz2⟩ := info_parts Qv
   have I0 := zH hi
   have I1 := zH hz
   have I2 := zH hz1
   have I3 := zH hz2
   have HR := zH hr
   clear hi hz hz1 hz2 hr
   have q22 : ∀ (w : World) (a : Option Addr) (n c n' c' : Nat), (binOp .eql 27 (.slice a n c) (.slice none n' c')).run Tryz.prog w = .ok (.bool a.isNone) w := fun w a n c n' c' => Lib.run_eql_slice_nil w _ _ a n c n' c' Tryz.underlying27
   go_enter Tryz.func52, Tryz.ntmps52
   go_wp2_with (at_builtin
                refine zJ rfl _ _ 27 rfl w.heap.size 2 i0 _ 8 Tryz.underlying27 I0.out I1.out I2.out I3.out rfl _ 0 [] rfl (World.ownsRow_made w #[] 0 (Nat.le_refl _) (Nat.zero_le _) rfl) (some ad) l.length c (l.map (Value.int .i64)) rfl (by simp) (HR.out.below ((Below.refl _ _).alloc (Nat.le_refl _) _)) (oneI l) (by unfold maxLen; omega) (by omega) (by simp) ?_
                intro v1 w1 hown1 hg1
                have O1 := zH hown1
                have G1 := zH hg1
                clear hown1 hg1)
   go_ret
   refine ⟨v1, rfl, by have h := O1.out; rw [Nat.zero_add, List.nil_append] at h; exact h, ((Below.refl _ w).alloc (Nat.le_refl _) _).grown G1.out (by simp) (by intro k hk; injection hk with hk; rw [← hk]; exact Nat.le_refl _)⟩
theorem j6 (A B : Option Addr) (n m c d : Nat) (k l : List Int) (w : World) (hn : n = k.length) (hm : m = l.length) (hbig : n ≤ 100000) (hbig' : m ≤ 100000) (hr : Rds w A (k.map (Value.int .i64))) (hs : Rds w B (l.map (Value.int .i64))) :
 Calls Tryz.prog 15 #[.slice A n c, .slice B m d] w fun e w' => e = .returned (.bool (decide (k = l))) ∧ ∃ q, w' = w.drewN q := by
 subst hn
 subst hm
 by_cases hlen : k.length = l.length
 · have hle : ((k.length : Int) == (l.length : Int)) = true := by rw [hlen]; simp
   have HR := zH hr
   have HS := zH hs
   have HL := zH hlen
   clear hr hs
   go_enter Tryz.func15, Tryz.ntmps15
   go_wp2
   go_loopw [5] (fun i wr => ∃ j q : Nat, j ≤ k.length ∧ i = .int .i64 j ∧ wr = w.drewN q ∧ k.take j = l.take j) (fun i _ => k.length - (intOf i).toNat)
   case atStart => exact ⟨0, 0, Nat.zero_le _, rfl, rfl, by simp⟩
   case round =>
    obtain ⟨j, q, hj, rfl, rfl, hpre⟩ := hrel
    have HP := zH hpre
    clear hpre
    by_cases hlt : j < k.length
    · have hlt2 : j < l.length := by have := HL.out; omega
      obtain ⟨b, o, rfl, _, c1⟩ := ZP HR.out hlt
      obtain ⟨b', o', rfl, _, c2⟩ := ZP HS.out hlt2
      have hx : k.getD j 0 = k[j] := by rw [List.getD_eq_getElem?_getD, List.getElem?_eq_getElem hlt]; rfl
      have hy : l.getD j 0 = l[j] := by rw [List.getD_eq_getElem?_getD, List.getElem?_eq_getElem hlt2]; rfl
      rw [hx] at c1
      rw [hy] at c2
      have hj1 : (j : Int) < (k.length : Int) := by omega
      have hj2 : (j : Int) < (l.length : Int) := by omega
      have HX : Hid (k[j] = l[j] → k.take (j + 1) = l.take (j + 1)) := zH (fun h => by
       rw [List.take_succ_eq_append_getElem hlt, List.take_succ_eq_append_getElem hlt2, HP.out, h])
      have HY : Hid (k[j] ≠ l[j] → k ≠ l) := zH (fun h e => h (by subst e; rfl))
      generalize k[j] = x at *
      generalize l[j] = y at *
      clear hx hy
      by_cases hxy : x = y
      · have hq : (x == y) = true := by rw [hxy]; simp
        have HZ := zH (HX.out hxy)
        go_wp2_with fail
        go_region
        go_wp2_with fail
        go_roundw
        case rel => exact ⟨j + 1, _, by omega, by go_num, rfl, HZ.out⟩
        case measure => simp [intOf]; omega
      · have hq : (x == y) = false := by simpa using hxy
        have HZ := zH (HY.out hxy)
        go_wp2_with fail
        go_region
        go_wp2_with fail
        go_ret
        exact ⟨by rw [decide_eq_false HZ.out]; rfl, _, rfl⟩
    · have hj1 : ¬ (j : Int) < (k.length : Int) := by omega
      have hkl : k = l := by
       have h := HP.out
       rw [List.take_of_length_le (by omega), List.take_of_length_le (by have := HL.out; omega)] at h
       exact h
      have HZ := zH hkl
      clear hkl
      go_wp2_with fail
      go_ret
      exact ⟨by rw [decide_eq_true HZ.out]; rfl, _, rfl⟩
 · have hle : ((k.length : Int) == (l.length : Int)) = false := by simp; omega
   have HZ := zH (show k ≠ l from fun e => hlen (by rw [e]))
   clear hr hs
   go_enter Tryz.func15, Tryz.ntmps15
   go_wp2
   go_ret
   exact ⟨by rw [decide_eq_false HZ.out]; rfl, 0, rfl⟩
end HpS
end Go.Proofs.YtmkdhdmkdcankaaGreatDoor
