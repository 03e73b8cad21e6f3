/- pieces -/
import Derived.Test.YtmkdhdmkdcankaaGreatDoorK29
namespace Go.Proofs.YtmkdhdmkdcankaaGreatDoor
set_option maxRecDepth 100000
set_option maxHeartbeats 4000000
namespace HpT
open Go.RowKit Base BinM HpM HpA HpS HpB HpG HpP
section
variable {w : World} {g mb : Nat} {Aw : Option Addr} {cw : Nat} {Aa : Option Addr} {ca most : Nat} {ws al : List Int} {n : Nat} {f : Int → Option Int}
theorem Qk {base b m c : Nat} {l : List Int} (h : zT w base (.slice (some ⟨b, 0, none⟩) m c) l) (k : Nat) : w.frozen? ⟨b, k, none⟩ = false := by
 rcases h.2 with ⟨h1, _⟩ | ⟨g, cap, cur, h1, _, h3, _⟩
 · cases h1
 · injection h1 with h1
   injection h1 with h1
   injection h1 with h1
   subst h1
   exact frozen_of_row w _ k _ _ h3
theorem setW (H : HpX w g mb Aw cw Aa ca most ws al n f) {b : Nat} (e : Aw = some ⟨b, 0, none⟩) {k : Nat} (_ : k < ws.length) (x : Int) :
 HpX (w.setCell ⟨b, k, none⟩ (.int .i64 x)) g mb Aw cw Aa ca most (ws.set k x) al n f ∧ Turned (zQ g mb Aw Aa) w (w.setCell ⟨b, k, none⟩ (.int .i64 x)) := by
 subst e
 obtain ⟨h1, h2, h3, h4, h5, h6, h7, h8⟩ := H
 have hb := h5 _ rfl
 refine ⟨⟨?_, ?_, ze h3 (fun j hj => heap_setCell_other w _ j _ ?_), h4.block (heap_setCell_other w _ mb _ (Ne.symm hb.2)), h5, h6, h7, h8⟩, Turned.Yd w (.inr (.inr (.inl ⟨_, rfl, rfl⟩))) _⟩
 · rw [List.length_set]
   exact h1.beside k _ (Ne.symm hb.1)
 · obtain ⟨r1, r2⟩ := h2
   rcases r2 with ⟨r2, _⟩ | ⟨b', cap, cur, r2, r3, r4, r5, r6, r7, r8⟩
   · cases r2
   · injection r2 with r2 r2' r2''
     injection r2 with r2
     injection r2 with r2
     subst r2
     subst r2''
     unfold zT
     refine ⟨by simp, .inr ⟨b, cw, cur.setIfInBounds k (.int .i64 x), by rw [List.length_set], r3, heap_setCell_same w b k cur 2 (.int .i64 x) r4, by rw [List.length_set]; exact r5, r6, by rw [Array.size_setIfInBounds]; exact r7, ?_⟩⟩
     rw [List.length_set, Array.toList_setIfInBounds, List.map_set, ← r8, List.take_set]
 · obtain ⟨a, q1, q2⟩ := zK hj
   intro e
   exact h7 _ a rfl q1 (by rw [q2]; exact e.symm)
def XY (w : World) (F : Nat → Prop) (g mb most : Nat) (ts : List Th) (n : Nat) (f : Int → Option Int) (E : Int) (t : Th) (e : Ending) (w' : World) : Prop :=
 (E ≠ 0 ∧ e = .returned (.tuple #[.int .i64 0, .int .i64 E]) ∧ Below w.heap.size w w') ∨
 (E = 0 ∧ e = .returned (.tuple #[.int .i64 (((raw ts).length + 1 : Nat) : Int), .int .i64 0]) ∧ Y0 w w' F g mb most (raw (ts ++ [t])) (adr 0 (ts ++ [t])) n f ∧ Fits most (ts ++ [t]))
theorem y7 (ts : List Th) (t : Th) : adr 0 (ts ++ [t]) = adr 0 ts ++ [(((raw ts).length + 1 : Nat) : Int)] := by
 rw [Qa]; simp [adr]
theorem YN (ts : List Th) (t : Th) : raw (ts ++ [t]) = raw ts ++ ((t.id : Int) * 65536 + (t.W.length : Int)) :: t.W := by
 rw [Q8, XM]; rfl
theorem xZ {ts : List Th} (F : Fits most ts) {t : Th} (h1 : t.id < 65536) (h2 : (raw ts).length + 1 + t.W.length ≤ most) (h3 : ∀ x ∈ t.W, zo x) : Fits most (ts ++ [t]) := by
 refine ⟨F.top, ?_, fun u hu => ?_, fun u hu => ?_⟩
 · rw [YN]; simp; omega
 · rw [List.mem_append] at hu
   rcases hu with hu | hu
   · exact F.ids u hu
   · simp at hu; subst hu; exact h1
 · rw [List.mem_append] at hu
   rcases hu with hu | hu
   · exact F.fit u hu
   · simp at hu; subst hu; exact h3
theorem Xh {most used : Nat} {id size : Int} (h : Zr most used id size = 0) : 0 ≤ id ∧ id < 65536 ∧ size < (most : Int) - (used : Int) := by
 unfold Zr at h
 split at h
 · omega
 · split at h <;> omega
def ZC (most used : Nat) (id size : Int) : Int := if size < 0 ∨ 4096 < size then 2 else Zr most used id size
theorem yu {ts : List Th} (H : HpX w g mb Aw cw Aa ca most (raw ts) (adr 0 ts) n f) (F : Fits most ts) (id size : Int) :
 Calls Tryz.prog 72 #[.pointer (some ⟨g, 0, none⟩), .int .i64 id, .int .i64 size] w (XY w (zQ g mb Aw Aa) g mb most ts n f (ZC most (raw ts).length id size) ⟨id.toNat, List.replicate size.toNat 0, 0⟩) := by
 by_cases h0 : size < 0
 · have hE := zH (show ZC most (raw ts).length id size = 2 by unfold ZC; rw [if_pos (.inl h0)])
   clear H F
   go_enter Tryz.func72, Tryz.ntmps72
   go_wp2
   go_ret2
   exact .inl ⟨by rw [hE.out]; omega, by rw [hE.out]; rfl, Below.refl _ _⟩
 · by_cases h1 : 4096 < size
   · have hE := zH (show ZC most (raw ts).length id size = 2 by unfold ZC; rw [if_pos (.inr h1)])
     clear H F
     go_enter Tryz.func72, Tryz.ntmps72
     go_wp2
     go_ret2
     exact .inl ⟨by rw [hE.out]; omega, by rw [hE.out]; rfl, Below.refl _ _⟩
   · have hE := zH (show ZC most (raw ts).length id size = Zr most (raw ts).length id size by unfold ZC; rw [if_neg (by omega)])
     have HA := zH (kE H F.top F.len (by have := qJ ts 0; have := F.len; have := F.top; omega) id size (by omega) (by omega))
     have HF := zH F
     clear H F
     go_enter Tryz.func72, Tryz.ntmps72
     go_wp2_with fail
     refine HA.out.mono ?_
     rintro e w' (⟨k1, rfl, k2⟩ | ⟨k1, rfl, k2⟩)
     · have K1 := zH k1
       have K2 := zH k2
       clear k1 k2
       go_wp2_with fail
       go_ret2
       exact .inl ⟨by rw [hE.out]; exact K1.out, by rw [hE.out]; rfl, K2.out⟩
     · have K1 := zH k1
       have K2 := zH k2
       clear k1 k2
       go_wp2_with fail
       go_ret2
       obtain ⟨z1, z2, z3⟩ := Xh K1.out
       refine .inr ⟨by rw [hE.out]; exact K1.out, rfl, ?_, xZ HF.out (by show id.toNat < 65536; omega) (by have := HF.out.len; simp; omega) (fun x hx => by rw [List.eq_of_mem_replicate hx]; unfold zo; omega)⟩
       rw [y7, YN]
       have h := K2.out
       have e1 : ((id.toNat : Nat) : Int) = id := by omega
       have e2 : ((List.replicate size.toNat (0 : Int)).length : Int) = size := by simp; omega
       show Y0 w w' _ g mb most (raw ts ++ (((id.toNat : Nat) : Int) * 65536 + ((List.replicate size.toNat (0 : Int)).length : Int)) :: List.replicate size.toNat 0) _ n f
       rw [e1, e2]
       exact h
theorem shl_sg (c k : Nat) (hc : c < 256) : wrap64 (wrap64 (c : Int) * 2 ^ (k * 8)) = sg (c * 256 ^ k) := by
 have e : wrap64 (c : Int) = (c : Int) := by unfold wrap64; omega
 rw [e]
 unfold sg
 have e2 : ((c * 256 ^ k : Nat) : Int) = (c : Int) * 2 ^ (k * 8) := by
  rw [Int.natCast_mul, show (256 : Nat) = 2 ^ 8 by decide, ← Nat.pow_mul, Nat.mul_comm 8 k]
  simp
 rw [e2]
 exact (IntWalk.i64_left _).symm
theorem Jh {l : List UInt8} (j : Nat) (_h : j < l.length) (h' : j < (ByteArray.mk l.toArray).size) : (ByteArray.mk l.toArray)[j]'h' = l[j]'_h := rfl
theorem set_far (p : List Int) (a b : Int) (V : List Int) (i : Nat) (x : Int) : (p ++ a :: b :: V).set (p.length + 1 + (1 + i)) x = p ++ a :: b :: V.set i x := by
 rw [List.set_append_right _ _ (by omega), show p.length + 1 + (1 + i) - p.length = i + 1 + 1 by omega]
 rfl
theorem get_far (p : List Int) (a b : Int) (V : List Int) (i : Nat) : (p ++ a :: b :: V)[p.length + 1 + (1 + i)]? = V[i]? := by
 rw [List.getElem?_append_right (by omega), show p.length + 1 + (1 + i) - p.length = i + 1 + 1 by omega]
 rfl
theorem jQ {ts : List Th} (H : HpX w g mb Aw cw Aa ca most (raw ts) (adr 0 ts) n f) (F : Fits most ts) (id : Int) (s : List UInt8) (hs : s.length ≤ 140737488355328) :
 Calls Tryz.prog 76 #[.pointer (some ⟨g, 0, none⟩), .int .i64 id, .string ⟨s.toArray⟩] w (XY w (zQ g mb Aw Aa) g mb most ts n f (Zr most (raw ts).length id (1 + (((s.length + 7) / 8 : Nat) : Int))) ⟨id.toNat, (s.length : Int) :: pack s, 0⟩) := by
 have HA := zH (kE H F.top F.len (by have := qJ ts 0; have := F.len; have := F.top; omega) id (1 + (((s.length + 7) / 8 : Nat) : Int)) (by omega) (by omega))
 have HP := zH (GZ s.length w (by omega))
 have HF := zH F
 clear H F
 have hss : (⟨s.toArray⟩ : ByteArray).size = s.length := by show s.toArray.size = _; simp
 generalize hK : (s.length + 7) / 8 = K at *
 have HK := zH hK
 have hKb : K ≤ 17592186044417 := by omega
 clear hK
 go_enter Tryz.func76, Tryz.ntmps76
 go_wp2_with (go_at_call 129; refine HP.out.mono ?_; rintro e w' ⟨rfl, rfl⟩)
 refine HA.out.mono ?_
 rintro e w1 (⟨k1, rfl, k2⟩ | ⟨k1, rfl, k2⟩)
 · generalize Zr most (raw ts).length id (1 + (K : Int)) = E at *
   have K1 := zH k1
   have K2 := zH k2
   clear k2
   have hne : (E == 0) = false := by simpa using k1
   clear k1
   go_wp2_with fail
   go_ret2
   exact .inl ⟨K1.out, rfl, K2.out⟩
 · have K1 := zH k1
   have K2 := zH k2
   clear k2
   obtain ⟨z1, z2, z3⟩ := Xh k1
   clear k1
   obtain ⟨A1, c1, B1, d1, h1, T1, S1⟩ := K2.out
   have hrep : List.replicate (1 + (K : Int)).toNat (0 : Int) = 0 :: List.replicate K 0 := by rw [show (1 + (K : Int)).toNat = K + 1 by omega, List.replicate_succ]
   rw [hrep] at h1
   have hlen : (raw ts ++ (id * 65536 + (1 + (K : Int))) :: 0 :: List.replicate K 0).length = (raw ts).length + 1 + 1 + K := by simp; omega
   obtain ⟨b, rfl, hb⟩ := qH h1.row (by rw [hlen]; omega)
   obtain ⟨q1, q2⟩ := zg5 h1.row
   have d := h1.box.cell 1
   have fr := Qk h1.row
   rw [hlen] at d q1
   have hsm : (raw ts).length + 1 + 1 + K ≤ 4096 := by have := HF.out.len; have := HF.out.top; omega
   have hcl : w1.cell? ⟨b, (raw ts).length + 1, none⟩ = some (.int .i64 0) := Zq h1.row (by rw [List.getElem?_append_right (by omega), show (raw ts).length + 1 - (raw ts).length = 0 + 1 by omega]; rfl)
   have P2 := setW h1 rfl (k := (raw ts).length + 1) (by rw [hlen]; omega) (s.length : Int)
   have hset : (raw ts ++ (id * 65536 + (1 + (K : Int))) :: 0 :: List.replicate K 0).set ((raw ts).length + 1) (s.length : Int) = raw ts ++ (id * 65536 + (1 + (K : Int))) :: (s.length : Int) :: qz K (s.take 0) := by
    rw [List.set_append_right _ _ (by omega), show (raw ts).length + 1 - (raw ts).length = 0 + 1 by omega, List.take_zero, packK_nil]
    rfl
   rw [hset] at P2
   have HP2 := zH P2
   have H1 := zH h1
   have HT1 := zH T1
   have HS1 := zH S1
   have HL := zH hlen
   have hf0 := fr ((raw ts).length + 1)
   clear P2 hset h1 T1 S1 K2 hrep hlen fr
   have hsub : (raw ts).length + 1 + 1 + K - ((raw ts).length + 1) = 1 + K := by omega
   go_wp2_with fail
   clear d hf0 hcl
   go_loopw [39] (fun i wr => ∃ j : Nat, j ≤ s.length ∧ i = .int .i64 j ∧ HpX wr g mb (some ⟨b, 0, none⟩) c1 B1 d1 most (raw ts ++ (id * 65536 + (1 + (K : Int))) :: (s.length : Int) :: qz K (s.take j)) (adr 0 ts ++ [(((raw ts).length + 1 : Nat) : Int)]) n f ∧ Turned (zQ g mb (some ⟨b, 0, none⟩) B1) w1 wr) (fun i _ => s.length - (intOf i).toNat)
   case atStart => exact ⟨0, Nat.zero_le _, rfl, HP2.out.1, HP2.out.2⟩
   case round =>
    obtain ⟨j, hj, rfl, hX, hT⟩ := hrel
    have HX := zH hX
    have HT := zH hT
    clear hX hT
    by_cases hlt : j < s.length
    · have hJ : j / 8 < K := by have := HK.out; omega
      obtain ⟨old, ho, hstep⟩ := vG K s j hlt hJ
      have hc := Zq HX.out.row ((get_far (raw ts) _ _ _ (j / 8)).trans ho)
      have hfr := Qk HX.out.row ((raw ts).length + 1 + (1 + j / 8))
      have HS := zH hstep
      clear hstep ho
      have hj1 : (j : Int) < (s.length : Int) := by omega
      have hat := fun h' => Jh j hlt h'
      go_wp2_with fail
      go_region
      go_wp2_with fail
      go_roundw
      case rel =>
       have hv : wrap64 (wrap64 (s[j].toNat : Int) * 2 ^ (j % 8 * 8)) = sg (s[j].toNat * 256 ^ (j % 8)) := shl_sg _ _ s[j].toNat_lt
       rw [hv]
       have h := setW HX.out rfl (k := (raw ts).length + 1 + (1 + j / 8)) (by simp [qM]; omega) (bits .or .i64 old (sg (s[j].toNat * 256 ^ (j % 8))))
       rw [set_far, ← HS.out] at h
       exact ⟨j + 1, by omega, by go_num, h.1.aside (fun _ _ => rfl), HT.out.trans (Turned.trans h.2 (Turned.of_below (F := zQ g mb (some ⟨b, 0, none⟩) B1) (Below.refl _ _).drew) (fun j h => .inl h)) (fun j h => .inl h)⟩
      case measure => simp [intOf]; omega
    · have hj1 : ¬ (j : Int) < (s.length : Int) := by omega
      have hjj : j = s.length := by omega
      subst hjj
      have hX := HX.out
      rw [List.take_length] at hX
      have HX' := zH hX
      clear hX
      go_wp2_with fail
      go_ret2
      refine .inr ⟨K1.out, rfl, ?_, xZ HF.out (by show id.toNat < 65536; omega) ?_ ?_⟩
      · rw [y7, YN]
        have e1 : ((id.toNat : Nat) : Int) = id := by omega
        have e2 : (((s.length : Int) :: pack s).length : Int) = 1 + (K : Int) := by rw [List.length_cons, JK, HK.out]; omega
        show Y0 w wr _ g mb most (raw ts ++ (((id.toNat : Nat) : Int) * 65536 + (((s.length : Int) :: pack s).length : Int)) :: (s.length : Int) :: pack s) _ n f
        rw [e1, e2]
        unfold pack
        rw [HK.out]
        exact ⟨_, _, _, _, HX'.out, HT1.out.trans HT.out HS1.out, HS1.out⟩
      · rw [List.length_cons, JK, HK.out]
        omega
      · intro x hx
        rw [List.mem_cons] at hx
        rcases hx with rfl | hx
        · unfold zo; omega
        · exact packK_fit _ _ x hx
end
end HpT
namespace HpZ
open Go.RowKit Base BinM HpM HpA HpS HpB HpG HpP HpT
section
variable {w : World} {g mb : Nat} {Aw : Option Addr} {cw : Nat} {Aa : Option Addr} {ca most : Nat} {ws al : List Int} {n : Nat} {f : Int → Option Int}
def qP (most used : Nat) (id k : Int) : Int := if k < 0 ∨ 4095 < k then 2 else Zr most used id (1 + k)
theorem array_any {ts : List Th} (H : HpX w g mb Aw cw Aa ca most (raw ts) (adr 0 ts) n f) (F : Fits most ts) (id k : Int) :
 Calls Tryz.prog 74 #[.pointer (some ⟨g, 0, none⟩), .int .i64 id, .int .i64 k] w (XY w (zQ g mb Aw Aa) g mb most ts n f (qP most (raw ts).length id k) ⟨id.toNat, k :: List.replicate k.toNat 0, 0⟩) := by
 by_cases h0 : k < 0
 · have hE := zH (show qP most (raw ts).length id k = 2 by unfold qP; rw [if_pos (.inl h0)])
   clear H F
   go_enter Tryz.func74, Tryz.ntmps74
   go_wp2
   go_ret2
   exact .inl ⟨by rw [hE.out]; omega, by rw [hE.out]; rfl, Below.refl _ _⟩
 · by_cases h1 : 4095 < k
   · have hE := zH (show qP most (raw ts).length id k = 2 by unfold qP; rw [if_pos (.inr h1)])
     clear H F
     go_enter Tryz.func74, Tryz.ntmps74
     go_wp2
     go_ret2
     exact .inl ⟨by rw [hE.out]; omega, by rw [hE.out]; rfl, Below.refl _ _⟩
   · have hE := zH (show qP most (raw ts).length id k = Zr most (raw ts).length id (1 + k) by unfold qP; rw [if_neg (by omega)])
     obtain ⟨K, rfl⟩ : ∃ K : Nat, k = (K : Int) := ⟨k.toNat, by omega⟩
     have HA := zH (kE H F.top F.len (by have := qJ ts 0; have := F.len; have := F.top; omega) id (1 + (K : Int)) (by omega) (by omega))
     have HF := zH F
     clear H F
     go_enter Tryz.func74, Tryz.ntmps74
     go_wp2_with fail
     refine HA.out.mono ?_
     rintro e w1 (⟨k1, rfl, k2⟩ | ⟨k1, rfl, k2⟩)
     · generalize Zr most (raw ts).length id (1 + (K : Int)) = E at *
       have K1 := zH k1
       have K2 := zH k2
       clear k2
       have hne : (E == 0) = false := by simpa using k1
       clear k1
       go_wp2_with fail
       go_ret2
       exact .inl ⟨by rw [hE.out]; exact K1.out, by rw [hE.out]; rfl, K2.out⟩
     · have K1 := zH k1
       have K2 := zH k2
       clear k2
       obtain ⟨z1, z2, z3⟩ := Xh k1
       clear k1
       obtain ⟨A1, c1, B1, d1, h1', T1, S1⟩ := K2.out
       have hrep : List.replicate (1 + (K : Int)).toNat (0 : Int) = 0 :: List.replicate K 0 := by rw [show (1 + (K : Int)).toNat = K + 1 by omega, List.replicate_succ]
       rw [hrep] at h1'
       have hlen : (raw ts ++ (id * 65536 + (1 + (K : Int))) :: 0 :: List.replicate K 0).length = (raw ts).length + 1 + 1 + K := by simp; omega
       obtain ⟨b, rfl, hb⟩ := qH h1'.row (by rw [hlen]; omega)
       have d := h1'.box.cell 1
       have fr := Qk h1'.row ((raw ts).length + 1)
       rw [hlen] at d
       have hsm : (raw ts).length + 1 + 1 + K ≤ 4096 := by have := HF.out.len; have := HF.out.top; omega
       have hcl : w1.cell? ⟨b, (raw ts).length + 1, none⟩ = some (.int .i64 0) := Zq h1'.row (by rw [List.getElem?_append_right (by omega), show (raw ts).length + 1 - (raw ts).length = 0 + 1 by omega]; rfl)
       have P2 := setW h1' rfl (k := (raw ts).length + 1) (by rw [hlen]; omega) (K : Int)
       have hset : (raw ts ++ (id * 65536 + (1 + (K : Int))) :: 0 :: List.replicate K 0).set ((raw ts).length + 1) (K : Int) = raw ts ++ (id * 65536 + (1 + (K : Int))) :: (K : Int) :: List.replicate K 0 := by
        rw [List.set_append_right _ _ (by omega), show (raw ts).length + 1 - (raw ts).length = 0 + 1 by omega]
        rfl
       rw [hset] at P2
       have HP2 := zH P2
       have HT1 := zH T1
       have HS1 := zH S1
       have HE := zH (hE.out.trans K1.out)
       clear P2 hset h1' T1 S1 K2 hrep hlen
       go_wp2_with fail
       go_ret2
       refine .inr ⟨HE.out, rfl, ?_, xZ HF.out (by show id.toNat < 65536; omega) (by simp; omega) (fun x hx => ?_)⟩
       · rw [y7, YN]
         have e1 : ((id.toNat : Nat) : Int) = id := by omega
         have e2 : (((K : Int) :: List.replicate (K : Int).toNat (0 : Int)).length : Int) = 1 + (K : Int) := by simp; omega
         show Y0 w _ _ g mb most (raw ts ++ (((id.toNat : Nat) : Int) * 65536 + (((K : Int) :: List.replicate (K : Int).toNat (0 : Int)).length : Int)) :: (K : Int) :: List.replicate (K : Int).toNat 0) _ n f
         rw [e1, e2, Int.toNat_natCast]
         exact ⟨_, _, _, _, HP2.out.1, HT1.out.trans HP2.out.2 HS1.out, HS1.out⟩
       · rw [List.mem_cons] at hx
         rcases hx with rfl | hx
         · unfold zo; omega
         · rw [List.eq_of_mem_replicate hx]; unfold zo; omega
def jT (t : Th) (i : Nat) (v : Int) : Th := ⟨t.id, t.W.set i v, t.s⟩
theorem raw_set (p : List Th) (t : Th) (r : List Th) (i : Nat) (v : Int) (hi : i < t.W.length) : (raw (p ++ t :: r)).set ((raw p).length + 1 + i) v = raw (p ++ jT t i v :: r) := by
 rw [yx, yx]
 unfold jT
 simp only [List.length_set]
 rw [List.append_assoc, List.append_assoc, List.set_append_right _ _ (by omega), show (raw p).length + 1 + i - (raw p).length = i + 1 by omega, List.cons_append, List.set_cons_succ, List.set_append_left _ _ hi]
 rfl
theorem kC (p : List Th) (t : Th) (r : List Th) (i : Nat) (v : Int) : adr 0 (p ++ jT t i v :: r) = adr 0 (p ++ t :: r) := by
 rw [Qa, Qa]
 simp [adr, jT]
theorem U8 {p : List Th} {t : Th} {r : List Th} (F : Fits most (p ++ t :: r)) (i : Nat) {v : Int} (hv : zo v) : Fits most (p ++ jT t i v :: r) := by
 refine ⟨F.top, ?_, fun u hu => ?_, fun u hu => ?_⟩
 · have := F.len
   rw [Z7] at this ⊢
   simpa [jT] using this
 · simp only [List.mem_append, List.mem_cons] at hu
   rcases hu with hu | rfl | hu
   · exact F.ids u (by simp [hu])
   · exact F.ids t (by simp)
   · exact F.ids u (by simp [hu])
 · simp only [List.mem_append, List.mem_cons] at hu
   rcases hu with hu | rfl | hu
   · exact F.fit u (by simp [hu])
   · intro x hx
     rcases List.mem_or_eq_of_mem_set hx with h | rfl
     · exact F.fit t (by simp) x h
     · exact hv
   · exact F.fit u (by simp [hu])
theorem set_no {ts : List Th} (H : HpX w g mb Aw cw Aa ca most (raw ts) (adr 0 ts) n f) (F : Fits most ts) (x i v : Int) (hx : x ∉ adr 0 ts) :
 Calls Tryz.prog 41 #[.pointer (some ⟨g, 0, none⟩), .int .i64 x, .int .i64 i, .int .i64 v] w fun e w' => e = .returned (.int .i64 3) ∧ ∃ q, w' = w.drewN q := by
 have HB := zH (Xf H F x hx)
 clear H F hx
 go_enter Tryz.func41, Tryz.ntmps41
 go_wp2_with (go_at_call 60; refine HB.out.mono ?_; rintro e w' ⟨rfl, q, rfl⟩)
 go_ret
 exact ⟨rfl, q, rfl⟩
def GivesSet (w : World) (F : Nat → Prop) (g mb most : Nat) (p : List Th) (t : Th) (r : List Th) (n : Nat) (f : Int → Option Int) (i v : Int) (e : Ending) (w' : World) : Prop :=
 (¬ (0 ≤ i ∧ i < (t.W.length : Int)) ∧ e = .returned (.int .i64 3) ∧ Below w.heap.size w w') ∨
 (0 ≤ i ∧ i < (t.W.length : Int) ∧ e = .returned (.int .i64 0) ∧ Y0 w w' F g mb most (raw (p ++ jT t i.toNat v :: r)) (adr 0 (p ++ jT t i.toNat v :: r)) n f)
theorem below_drewN (w : World) (q : Nat) : Below w.heap.size w (w.drewN q) := ⟨rfl, rfl, rfl, Nat.le_refl _, fun _ _ => rfl⟩
theorem zf4 {p : List Th} {t : Th} {r : List Th} (H : HpX w g mb Aw cw Aa ca most (raw (p ++ t :: r)) (adr 0 (p ++ t :: r)) n f) (F : Fits most (p ++ t :: r)) (i v : Int) :
 Calls Tryz.prog 41 #[.pointer (some ⟨g, 0, none⟩), .int .i64 (((raw p).length + 1 : Nat) : Int), .int .i64 i, .int .i64 v] w (GivesSet w (zQ g mb Aw Aa) g mb most p t r n f i v) := by
 have HB := zH (jw H F)
 have hl := Z7 p t r
 have hb := F.len
 have ht := F.top
 have hwl : t.W.length ≤ 4096 := by omega
 have HH := zH H
 clear H F hb ht
 by_cases h0 : i < 0
 · clear HH hl
   generalize hP : (raw p).length = P at *
   go_enter Tryz.func41, Tryz.ntmps41
   go_wp2_with (go_at_call 60; refine HB.out.mono ?_; rintro e w' ⟨⟨B, c, rfl, _⟩, q, rfl⟩)
   go_ret
   exact .inl ⟨by omega, rfl, below_drewN _ _⟩
 · by_cases h1 : (t.W.length : Int) ≤ i
   · clear HH hl
     generalize hP : (raw p).length = P at *
     go_enter Tryz.func41, Tryz.ntmps41
     go_wp2_with (go_at_call 60; refine HB.out.mono ?_; rintro e w' ⟨⟨B, c, rfl, _⟩, q, rfl⟩)
     go_ret
     exact .inl ⟨by omega, rfl, below_drewN _ _⟩
   · obtain ⟨k, rfl⟩ : ∃ k : Nat, i = (k : Int) := ⟨i.toNat, by omega⟩
     have hk : k < t.W.length := by omega
     obtain ⟨b, rfl, hb⟩ := qH HH.out.row (by omega)
     have hc := word HH.out rfl (List.getElem?_eq_getElem hk)
     have hf := Qk HH.out.row ((raw p).length + 1 + k)
     have HS := zH (fun q => setW (w := w.drewN q) (HH.out.aside (fun _ _ => rfl)) rfl (k := (raw p).length + 1 + k) (by omega) v)
     clear hl
     go_enter Tryz.func41, Tryz.ntmps41
     go_wp2_with (go_at_call 60; refine HB.out.mono ?_; rintro e w' ⟨⟨B, c, rfl, _, _, hB⟩, q, rfl⟩; obtain ⟨b', hb', rfl⟩ := hB (by omega); injection hb' with hb'; injection hb' with hb'; subst hb'; clear hB)
     go_ret
     have h := HS.out q
     rw [raw_set p t r k v hk] at h
     refine .inr ⟨by omega, by omega, rfl, ?_⟩
     rw [Int.toNat_natCast, kC]
     exact ⟨_, _, _, _, h.1, (Turned.of_below (below_drewN w q)).trans h.2 (fun j h => .inl h), fun j h => .inl h⟩
end
end HpZ
end Go.Proofs.YtmkdhdmkdcankaaGreatDoor
