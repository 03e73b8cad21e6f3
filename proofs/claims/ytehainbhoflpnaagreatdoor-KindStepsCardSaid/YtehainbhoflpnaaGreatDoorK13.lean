/- pieces -/
import Derived.Test.YtehainbhoflpnaaGreatDoorK12
import Derived.Laws.EntriesVeiled
namespace Go.Proofs.YtehainbhoflpnaaGreatDoor
namespace HierJ
open Go.RowKit BinM Base DescM DescW DescX HierS HierT HierM HierC HierD
open BinName (ze)
theorem zJ {a b : Int} (h : a = b) : Ending.returned (.int .i64 a) = .returned (.int .i64 b) := by rw [h]
theorem qz {p : T → Bool} {l : List T} {j : Nat} (hj : j < l.length) (h : ∀ x ∈ l.take j, p x = false) (h2 : p l[j] = false) : ∀ x ∈ l.take (j + 1), p x = false := by
 intro x hx
 rw [List.take_succ_eq_append_getElem hj, List.mem_append] at hx
 rcases hx with hx | hx
 · exact h x hx
 · simp at hx; subst hx; exact h2
theorem Vd {h : Hr} {a b : T} (hs : h.sub a b = true) : h.kon a = true := by
 unfold Hr.sub at hs
 simp only [Bool.and_eq_true] at hs
 exact hs.1.1
end HierJ
namespace HierK
open Go.RowKit BinM Base DescM DescW DescX HierS HierT HierM HierC HierD HierJ
open BinName (ze)
theorem Zj5 {J : T × Bool} {t : T} {b : Bool} (h : J = (t, b)) : Ending.returned (.tuple #[.string ⟨t.toArray⟩, .bool b]) = .returned (.tuple #[.string ⟨J.1.toArray⟩, .bool J.2]) := by subst h; rfl
def KX (o : T × Bool) : Option T := if o.2 then some o.1 else none
theorem xV (h : Hr) (c : T) : KX (qy h c) = h.up c := by
 unfold qy KX
 cases h.up c <;> rfl
set_option maxRecDepth 100000 in
set_option maxHeartbeats 2000000 in
theorem zj0 (B g : Nat) (h : Hr) (c : T) (w : World) (H : IsH B w g h) (hc : c.length ≤ 140737488355328) :
 Calls Tryz.prog 75 #[.pointer (some ⟨g, 0, none⟩), .string ⟨c.toArray⟩] w fun e w' => e = .returned (.bool (Zm h.up h.names.length (h.up c) c)) ∧ w = w' := by
 have HS := zH (fun c o (hl : c.length ≤ 140737488355328) ho => Va B g h c o w H hl ho)
 have Hlong := zH H.long
 obtain ⟨A, n, cap, mb, h1, h2, h3, h4, h5, _⟩ := H.cells
 have hfew := H.few
 have c0 : w.cell? ⟨g, 0, none⟩ = some (.slice A n cap) := cell_of_row _ _ _ _ _ (0, 0) h1
 have hn41 : n ≤ 41 := by omega
 have hnl : n ≤ h.names.length := by omega
 have hnl2 : h.names.length ≤ n := by omega
 generalize hS : qy h c = S at *
 have HS1 := zH (HS.out c S hc hS)
 have Hst := zH (show Zm h.up h.names.length (h.up c) c = Zm h.up (h.names.length - 0) (KX S) c by rw [← hS, xV]; rfl)
 have Hst1 := zH (show S.2 = true → S.1 ∈ h.names by
  intro h
  rw [← hS] at h ⊢
  unfold qy at h ⊢
  cases hu : Hr.up _ c with
  | none => rw [hu] at h; cases h
  | some d => exact kI hu)
 clear h1 h2 h3 h4 h5 H hS hc
 go_enter Tryz.func75, Tryz.ntmps75
 go_wp2_with (go_at_call 126; refine HS1.out.mono ?_; rintro e w' ⟨rfl, rfl⟩)
 go_loop [5, 6, 18] (fun u ok i => ∃ (k : Nat) (o : T × Bool), k ≤ n ∧ i = .int .i64 k ∧ u = .string ⟨o.1.toArray⟩ ∧ ok = .bool o.2 ∧ (o.2 = true → o.1 ∈ h.names) ∧ Zm h.up h.names.length (h.up c) c = Zm h.up (h.names.length - k) (KX o) c) (fun _ _ i => n - (intOf i).toNat)
 case atStart => exact ⟨0, S, Nat.zero_le _, rfl, rfl, rfl, Hst1.out, Hst.out⟩
 case round =>
  obtain ⟨k, o, hk, rfl, rfl, rfl, hin, hst⟩ := hrel
  obtain ⟨u, ok⟩ := o
  simp only at hin
  by_cases hlt : k < n
  · obtain ⟨m, hm⟩ : ∃ m, h.names.length - k = m + 1 := ⟨h.names.length - k - 1, by omega⟩
    have hm2 : m = h.names.length - (k + 1) := by omega
    rw [hm] at hst
    cases ok
    · have Hfin := zH (show Zm h.up h.names.length (h.up c) c = false from hst)
      clear hst hm hin
      go_wp2_with fail
      go_ret
      exact ⟨ze (by rw [Hfin.out]), rfl⟩
    · cases hE : u == c
      · have hst2 : Zm h.up h.names.length (h.up c) c = Zm h.up (h.names.length - (k + 1)) (h.up u) c := by
         rw [hst, ← hm2]
         show (u == c || Zm h.up m (h.up u) c) = _
         rw [hE]; rfl
        generalize hS2 : qy h u = S2 at *
        have Hul := zH (Hlong.out u (hin rfl))
        have HS2 := zH (HS.out u S2 (Nat.le_trans Hul.out (by omega)) hS2)
        have Hst2 := zH (show Zm h.up h.names.length (h.up c) c = Zm h.up (h.names.length - (k + 1)) (KX S2) c by rw [hst2, ← hS2, xV])
        have Hin2 := zH (show S2.2 = true → S2.1 ∈ h.names by
         intro h
         rw [← hS2] at h ⊢
         unfold qy at h ⊢
         cases hu : Hr.up _ u with
         | none => rw [hu] at h; cases h
         | some d => exact kI hu)
        clear hst hst2 hm hm2 hin hS2
        go_wp2_with (go_at_call 126; refine HS2.out.mono ?_; rintro e w' ⟨rfl, rfl⟩)
        go_round
        case rel => exact ⟨k + 1, S2, by omega, by go_num, rfl, rfl, Hin2.out, Hst2.out⟩
        case measure => simp [intOf]; omega
      · have Hfin := zH (show Zm h.up h.names.length (h.up c) c = true by
         rw [hst]
         show (u == c || Zm h.up m (h.up u) c) = _
         rw [hE]; rfl)
        clear hst hm hin
        go_wp2_with fail
        go_ret
        exact ⟨ze (by rw [Hfin.out]), rfl⟩
  · have Hfin := zH (show Zm h.up h.names.length (h.up c) c = false by
     rw [hst, show h.names.length - k = 0 by omega]; rfl)
    clear hst hin
    go_wp2_with fail
    go_ret
    exact ⟨ze (by rw [Hfin.out]), rfl⟩
end HierK
end Go.Proofs.YtehainbhoflpnaaGreatDoor
