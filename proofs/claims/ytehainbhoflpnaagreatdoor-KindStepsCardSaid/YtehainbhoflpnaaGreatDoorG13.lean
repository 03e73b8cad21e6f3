/-
  What the calls of a hierarchy return: meet, Join, loops.
  What the calls of a hierarchy return: Join, loops; and what there is of none.
-/
import Derived.Test.YtehainbhoflpnaaGreatDoorG12
import Derived.Laws.EntriesVeiled
namespace Go.Proofs.YtehainbhoflpnaaGreatDoor
namespace HierJ
open Go.RowKit BinM Base DescM DescW DescX HierS HierT HierM HierC HierD
open BinName (ret_bool)

theorem ret_i {a b : Int} (h : a = b) : Ending.returned (.int .i64 a) = .returned (.int .i64 b) := by rw [h]
theorem none_next {p : T → Bool} {l : List T} {j : Nat} (hj : j < l.length) (h : ∀ x ∈ l.take j, p x = false) (h2 : p l[j] = false) : ∀ x ∈ l.take (j + 1), p x = false := by
  intro x hx
  rw [List.take_succ_eq_append_getElem hj, List.mem_append] at hx
  rcases hx with hx | hx
  · exact h x hx
  · simp at hx; subst hx; exact h2
theorem sub_kon {h : Hr} {a b : T} (hs : h.sub a b = true) : h.kon a = true := by
  unfold Hr.sub at hs
  simp only [Bool.and_eq_true] at hs
  exact hs.1.1

end HierJ
end Go.Proofs.YtehainbhoflpnaaGreatDoor

namespace Go.Proofs.YtehainbhoflpnaaGreatDoor
namespace HierK
open Go.RowKit BinM Base DescM DescW DescX HierS HierT HierM HierC HierD HierJ
open BinName (ret_bool)

theorem retJ {J : T × Bool} {t : T} {b : Bool} (h : J = (t, b)) : Ending.returned (.tuple #[.string ⟨t.toArray⟩, .bool b]) = .returned (.tuple #[.string ⟨J.1.toArray⟩, .bool J.2]) := by subst h; rfl
/-- where one stands -/
def curT (o : T × Bool) : Option T := if o.2 then some o.1 else none
theorem cur_super (h : Hr) (c : T) : curT (superT h c) = h.up c := by
  unfold superT curT
  cases h.up c <;> rfl
set_option maxRecDepth 100000 in
set_option maxHeartbeats 2000000 in
theorem loops_any (B g : Nat) (h : Hr) (c : T) (w : World) (H : IsH B w g h) (hc : c.length ≤ 140737488355328) :
    Calls Tryz.prog 75 #[.pointer (some ⟨g, 0, none⟩), .string ⟨c.toArray⟩] w fun e w' => e = .returned (.bool (loopF h.up h.names.length (h.up c) c)) ∧ w = w' := by
  have HS := Lib.hid (fun c o (hl : c.length ≤ 140737488355328) ho => super_t B g h c o w H hl ho)
  have Hlong := Lib.hid H.long
  obtain ⟨A, n, cap, mb, h1, h2, h3, h4, h5, _⟩ := H.cells
  have hfew := H.few
  have c0 : w.cell? ⟨g, 0, none⟩ = some (.slice A n cap) := cell_of_row _ _ _ _ _ (0, 0) h1
  have hn41 : n ≤ 41 := by omega
  have hnl : n ≤ h.names.length := by omega
  have hnl2 : h.names.length ≤ n := by omega
  generalize hS : superT h c = S at *
  have HS1 := Lib.hid (HS.out c S hc hS)
  have Hst := Lib.hid (show loopF h.up h.names.length (h.up c) c = loopF h.up (h.names.length - 0) (curT S) c by rw [← hS, cur_super]; rfl)
  have Hst1 := Lib.hid (show S.2 = true → S.1 ∈ h.names by
    intro h
    rw [← hS] at h ⊢
    unfold superT at h ⊢
    cases hu : Hr.up _ c with
    | none => rw [hu] at h; cases h
    | some d => exact up_in hu)
  clear h1 h2 h3 h4 h5 H hS hc
  go_enter Tryz.func75, Tryz.ntmps75
  go_wp2_with (go_at_call 126; refine HS1.out.mono ?_; rintro e w' ⟨rfl, rfl⟩)
  go_loop [5, 6, 18] (fun u ok i => ∃ (k : Nat) (o : T × Bool), k ≤ n ∧ i = .int .i64 k ∧ u = .string ⟨o.1.toArray⟩ ∧ ok = .bool o.2 ∧ (o.2 = true → o.1 ∈ h.names) ∧ loopF h.up h.names.length (h.up c) c = loopF h.up (h.names.length - k) (curT o) c) (fun _ _ i => n - (intOf i).toNat)
  case atStart => exact ⟨0, S, Nat.zero_le _, rfl, rfl, rfl, Hst1.out, Hst.out⟩
  case round =>
    obtain ⟨k, o, hk, rfl, rfl, rfl, hin, hst⟩ := hrel
    obtain ⟨u, ok⟩ := o
    simp only at hin
    by_cases hlt : k < n
    · obtain ⟨m, hm⟩ : ∃ m, h.names.length - k = m + 1 := ⟨h.names.length - k - 1, by omega⟩
      have hm2 : m = h.names.length - (k + 1) := by omega
      rw [hm] at hst
      cases ok
      · have Hfin := Lib.hid (show loopF h.up h.names.length (h.up c) c = false from hst)
        clear hst hm hin
        go_wp2_with fail
        go_ret
        exact ⟨ret_bool (by rw [Hfin.out]), rfl⟩
      · cases hE : u == c
        · have hst2 : loopF h.up h.names.length (h.up c) c = loopF h.up (h.names.length - (k + 1)) (h.up u) c := by
            rw [hst, ← hm2]
            show (u == c || loopF h.up m (h.up u) c) = _
            rw [hE]; rfl
          generalize hS2 : superT h u = S2 at *
          have Hul := Lib.hid (Hlong.out u (hin rfl))
          have HS2 := Lib.hid (HS.out u S2 (Nat.le_trans Hul.out (by omega)) hS2)
          have Hst2 := Lib.hid (show loopF h.up h.names.length (h.up c) c = loopF h.up (h.names.length - (k + 1)) (curT S2) c by rw [hst2, ← hS2, cur_super])
          have Hin2 := Lib.hid (show S2.2 = true → S2.1 ∈ h.names by
            intro h
            rw [← hS2] at h ⊢
            unfold superT at h ⊢
            cases hu : Hr.up _ u with
            | none => rw [hu] at h; cases h
            | some d => exact up_in hu)
          clear hst hst2 hm hm2 hin hS2
          go_wp2_with (go_at_call 126; refine HS2.out.mono ?_; rintro e w' ⟨rfl, rfl⟩)
          go_round
          case rel => exact ⟨k + 1, S2, by omega, by go_num, rfl, rfl, Hin2.out, Hst2.out⟩
          case measure => simp [intOf]; omega
        · have Hfin := Lib.hid (show loopF h.up h.names.length (h.up c) c = true by
            rw [hst]
            show (u == c || loopF h.up m (h.up u) c) = _
            rw [hE]; rfl)
          clear hst hm hin
          go_wp2_with fail
          go_ret
          exact ⟨ret_bool (by rw [Hfin.out]), rfl⟩
    · have Hfin := Lib.hid (show loopF h.up h.names.length (h.up c) c = false by
        rw [hst, show h.names.length - k = 0 by omega]; rfl)
      clear hst hin
      go_wp2_with fail
      go_ret
      exact ⟨ret_bool (by rw [Hfin.out]), rfl⟩
end HierK
end Go.Proofs.YtehainbhoflpnaaGreatDoor
