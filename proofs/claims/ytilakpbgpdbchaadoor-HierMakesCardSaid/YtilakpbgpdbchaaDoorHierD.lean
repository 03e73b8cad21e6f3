/-
  What the calls of a hierarchy return: Known, Sub.
-/
import Derived.Test.YtilakpbgpdbchaaDoorHierC
namespace Go.Proofs.YtilakpbgpdbchaaDoor
namespace HierD
open Go.RowKit BinM Base DescM DescW DescX HierS HierT HierM HierC
open BinName (ret_bool)

theorem class_t (l : T) (o : T × Bool) (w : World) (hl : l.length ≤ 140737488355328) (ho : classT l = o) :
    Calls Tryd.prog 44 #[.string ⟨l.toArray⟩] w fun e w' => e = .returned (.tuple #[.string ⟨o.1.toArray⟩, .bool o.2]) ∧ w = w' := by
  subst ho
  exact class_any l w hl
theorem of_obj (w : World) :
    Calls Tryd.prog 42 #[.string ⟨#[79, 98, 106, 101, 99, 116]⟩] w fun e w' => e = .returned (.string ⟨(ofT objN).toArray⟩) ∧ w = w' := of_any objN w (by decide)

set_option maxRecDepth 100000 in
set_option maxHeartbeats 1000000 in
theorem known_any (B g : Nat) (h : Hr) (d : T) (w : World) (H : IsH B w g h) (hl : d.length ≤ 140737488355328) :
    Calls Tryd.prog 24 #[.pointer (some ⟨g, 0, none⟩), .string ⟨d.toArray⟩] w fun e w' => e = .returned (.bool (h.known d)) ∧ w = w' := by
  have HR0 := Lib.hid (right_any d w hl)
  cases hR : rightB d
  · have Hfin := Lib.hid (show h.known d = false by unfold Hr.known; rw [hR]; rfl)
    rw [hR] at HR0
    clear hR hl H
    go_enter Tryd.func24, Tryd.ntmps24
    go_wp2_with (go_at_call 45; refine HR0.out.mono ?_; rintro e w' ⟨rfl, rfl⟩)
    go_ret
    exact ⟨ret_bool (by rw [Hfin.out]), rfl⟩
  · rw [hR] at HR0
    have hdl : (d.drop (brk d)).length ≤ 140737488355328 := by rw [List.length_drop]; omega
    have HC := Lib.hid (class_t (d.drop (brk d)) _ w hdl rfl)
    have Hfin := Lib.hid (show h.known d = (!(classT (d.drop (brk d))).2 || h.has (classT (d.drop (brk d))).1) by unfold Hr.known; rw [hR]; rfl)
    have HH := Lib.hid (fun c => has_any B g h c w H)
    have HT := Lib.hid (Tryd.strings_TrimLeft_one ⟨d.toArray⟩ 91 (by decide) w)
    clear hR hl H hdl
    generalize classT (d.drop (brk d)) = C at *
    obtain ⟨c, ok⟩ := C
    simp only at Hfin HC
    have HD := Lib.hid (trim_brk d)
    go_enter Tryd.func24, Tryd.ntmps24
    go_wp2_with (go_at_call 45; refine HR0.out.mono ?_; rintro e w' ⟨rfl, rfl⟩)
    refine HT.out.mono ?_
    rintro e w' ⟨rfl, rfl⟩
    simp only [HD.out]
    cases ok
    · go_wp2_with (go_at_call 44; refine HC.out.mono ?_; rintro e w' ⟨rfl, rfl⟩)
      go_ret
      exact ⟨ret_bool (by rw [Hfin.out]; rfl), rfl⟩
    · go_wp2_with (first | (go_at_call 44; refine HC.out.mono ?_; rintro e w' ⟨rfl, rfl⟩) | (go_at_call 15; refine (HH.out c).mono ?_; rintro e w' ⟨rfl, rfl⟩))
      go_ret
      exact ⟨ret_bool (by rw [Hfin.out]; rfl), rfl⟩
theorem known_nil (d : ByteArray) (w : World) :
    Calls Tryd.prog 24 #[.pointer none, .string d] w fun e w' => e = .returned (.bool false) ∧ w = w' := by
  go_enter Tryd.func24, Tryd.ntmps24
  go_wp2
  go_ret
  exact ⟨rfl, rfl⟩
theorem kon_any (B g : Nat) (h : Hr) (d : T) (w : World) (H : IsH B w g h) (hl : d.length ≤ 140737488355328) :
    Calls Tryd.prog 41 #[.pointer (some ⟨g, 0, none⟩), .string ⟨d.toArray⟩] w fun e w' => e = .returned (.bool (h.kon d)) ∧ w = w' := by
  have HK := Lib.hid (known_any B g h d w H hl)
  cases hK : h.known d
  · rw [hK] at HK
    cases hN : d == [78]
    all_goals
      have Hfin := Lib.hid (show h.kon d = _ by unfold Hr.kon; rw [hK, hN])
      clear hK hl H
      go_enter Tryd.func41, Tryd.ntmps41
      go_wp2_with (go_at_call 24; refine HK.out.mono ?_; rintro e w' ⟨rfl, rfl⟩)
      go_ret
      exact ⟨ret_bool (by rw [Hfin.out]; rfl), rfl⟩
  · rw [hK] at HK
    have Hfin := Lib.hid (show h.kon d = true by unfold Hr.kon; rw [hK]; rfl)
    clear hK hl H
    go_enter Tryd.func41, Tryd.ntmps41
    go_wp2_with (go_at_call 24; refine HK.out.mono ?_; rintro e w' ⟨rfl, rfl⟩)
    go_ret
    exact ⟨ret_bool (by rw [Hfin.out]), rfl⟩
theorem kon_nil (d : ByteArray) (w : World) :
    Calls Tryd.prog 41 #[.pointer none, .string d] w fun e w' => e = .returned (.bool false) ∧ w = w' := by
  have HK := Lib.hid (known_nil d w)
  go_enter Tryd.func41, Tryd.ntmps41
  go_wp2_with (go_at_call 24; refine HK.out.mono ?_; rintro e w' ⟨rfl, rfl⟩)
  go_ret
  exact ⟨rfl, rfl⟩
theorem sub_nil (a b : ByteArray) (w : World) :
    Calls Tryd.prog 23 #[.pointer none, .string a, .string b] w fun e w' => e = .returned (.bool false) ∧ w = w' := by
  have HK := Lib.hid (kon_nil a w)
  go_enter Tryd.func23, Tryd.ntmps23
  go_wp2_with (go_at_call 41; refine HK.out.mono ?_; rintro e w' ⟨rfl, rfl⟩)
  go_ret
  exact ⟨rfl, rfl⟩

set_option maxRecDepth 100000 in
set_option maxHeartbeats 4000000 in
theorem sub_any (B g : Nat) (h : Hr) (a b : T) (w : World) (H : IsH B w g h) (hB : B ≤ w.heap.size) (hg : GoodH h) (ha : a.length ≤ 140737488355328) (hb : b.length ≤ 140737488355328) :
    Calls Tryd.prog 23 #[.pointer (some ⟨g, 0, none⟩), .string ⟨a.toArray⟩, .string ⟨b.toArray⟩] w fun e w' => e = .returned (.bool (h.sub a b)) ∧ Below w.heap.size w w' := by
  have HKa := Lib.hid (kon_any B g h a w H ha)
  have HKb := Lib.hid (kon_any B g h b w H hb)
  have h0 := Lib.hid (Below.refl w.heap.size w)
  cases hA : h.kon a
  · rw [hA] at HKa
    have Hfin := Lib.hid (show h.sub a b = false by unfold Hr.sub; rw [hA]; rfl)
    clear hA ha hb H hB hg
    go_enter Tryd.func23, Tryd.ntmps23
    go_wp2_with (go_at_call 41; refine HKa.out.mono ?_; rintro e w' ⟨rfl, rfl⟩)
    go_ret
    exact ⟨ret_bool (by rw [Hfin.out]), h0.out⟩
  · rw [hA] at HKa
    cases hBb : h.kon b
    · rw [hBb] at HKb
      have Hfin := Lib.hid (show h.sub a b = false by unfold Hr.sub; rw [hA, hBb]; rfl)
      clear hA hBb ha hb H hB hg
      go_enter Tryd.func23, Tryd.ntmps23
      go_wp2_with fail
      refine HKa.out.mono ?_; rintro e w' ⟨rfl, rfl⟩
      go_wp2_with fail
      refine HKb.out.mono ?_; rintro e w' ⟨rfl, rfl⟩
      go_wp2_with fail
      go_ret
      exact ⟨ret_bool (by rw [Hfin.out]), h0.out⟩
    · rw [hBb] at HKb
      have Hsub := Lib.hid (show h.sub a b = (a == b || h.step a b) by unfold Hr.sub; rw [hA, hBb]; rfl)
      cases hE : a == b
      · have Hsub2 := Lib.hid (show h.sub a b = h.step a b by rw [Hsub.out, hE]; rfl)
        have HRa := Lib.hid (ref_any a w ha)
        have HRb := Lib.hid (ref_any b w hb)
        have HCa := Lib.hid (class_t a _ w ha rfl)
        have HCb := Lib.hid (class_t b _ w hb rfl)
        have HU := Lib.hid (fun hl => under_any B g h (classT a).1 (classT b).1 w H hB hg hl)
        have HUl := Lib.hid (show (classT a).1.length ≤ 140737488355328 by unfold classT; split; simp; omega; simp)
        have HO := Lib.hid (of_obj w)
        clear hA hBb ha hb H hB hg
        cases hN : a == [78]
        · cases hO : b == ofT objN
          · have Hst := Lib.hid (show h.step a b = h.cls a b by unfold Hr.step; rw [hN, hO]; rfl)
            have Hcl := Lib.hid (show h.cls a b = ((classT a).2 && (classT b).2 && h.under (classT a).1 (classT b).1) from rfl)
            generalize classT a = CA at *
            generalize classT b = CB at *
            obtain ⟨ca, oa⟩ := CA
            obtain ⟨cb, ob⟩ := CB
            simp only at HCa HCb HU HUl Hcl
            cases oa
            · have Hfin := Lib.hid (show h.sub a b = false by rw [Hsub2.out, Hst.out, Hcl.out]; rfl)
              go_enter Tryd.func23, Tryd.ntmps23
              go_wp2_with fail
              refine HKa.out.mono ?_; rintro e w' ⟨rfl, rfl⟩
              go_wp2_with fail
              refine HKb.out.mono ?_; rintro e w' ⟨rfl, rfl⟩
              go_wp2_with fail
              refine HO.out.mono ?_; rintro e w' ⟨rfl, rfl⟩
              go_wp2_with fail
              refine HCa.out.mono ?_; rintro e w' ⟨rfl, rfl⟩
              go_wp2_with fail
              refine HCb.out.mono ?_; rintro e w' ⟨rfl, rfl⟩
              go_wp2_with fail
              go_ret
              exact ⟨ret_bool (by rw [Hfin.out]), h0.out⟩
            · cases ob
              · have Hfin := Lib.hid (show h.sub a b = false by rw [Hsub2.out, Hst.out, Hcl.out]; rfl)
                go_enter Tryd.func23, Tryd.ntmps23
                go_wp2_with fail
                refine HKa.out.mono ?_; rintro e w' ⟨rfl, rfl⟩
                go_wp2_with fail
                refine HKb.out.mono ?_; rintro e w' ⟨rfl, rfl⟩
                go_wp2_with fail
                refine HO.out.mono ?_; rintro e w' ⟨rfl, rfl⟩
                go_wp2_with fail
                refine HCa.out.mono ?_; rintro e w' ⟨rfl, rfl⟩
                go_wp2_with fail
                refine HCb.out.mono ?_; rintro e w' ⟨rfl, rfl⟩
                go_wp2_with fail
                go_ret
                exact ⟨ret_bool (by rw [Hfin.out]), h0.out⟩
              · have Hfin := Lib.hid (show h.sub a b = h.under ca cb by rw [Hsub2.out, Hst.out, Hcl.out]; rfl)
                go_enter Tryd.func23, Tryd.ntmps23
                go_wp2_with fail
                refine HKa.out.mono ?_; rintro e w' ⟨rfl, rfl⟩
                go_wp2_with fail
                refine HKb.out.mono ?_; rintro e w' ⟨rfl, rfl⟩
                go_wp2_with fail
                refine HO.out.mono ?_; rintro e w' ⟨rfl, rfl⟩
                go_wp2_with fail
                refine HCa.out.mono ?_; rintro e w' ⟨rfl, rfl⟩
                go_wp2_with fail
                refine HCb.out.mono ?_; rintro e w' ⟨rfl, rfl⟩
                go_wp2_with fail
                refine (HU.out HUl.out).mono ?_; rintro e w' ⟨rfl, hb2⟩
                go_wp2_with fail
                go_ret
                exact ⟨ret_bool (by rw [Hfin.out]), hb2⟩
          · have Hst := Lib.hid (show h.step a b = (refB a && refB b) by unfold Hr.step; rw [hN, hO]; rfl)
            generalize refB b = rb at *
            cases hRa : refB a
            all_goals
              rw [hRa] at HRa
              have Hfin := Lib.hid (show h.sub a b = _ by rw [Hsub2.out, Hst.out, hRa])
              clear hRa
              go_enter Tryd.func23, Tryd.ntmps23
              go_wp2_with fail
              refine HKa.out.mono ?_; rintro e w' ⟨rfl, rfl⟩
              go_wp2_with fail
              refine HKb.out.mono ?_; rintro e w' ⟨rfl, rfl⟩
              go_wp2_with fail
              refine HO.out.mono ?_; rintro e w' ⟨rfl, rfl⟩
              go_wp2_with fail
              refine HRa.out.mono ?_; rintro e w' ⟨rfl, rfl⟩
              go_wp2_with (go_at_call 43; refine HRb.out.mono ?_; rintro e w' ⟨rfl, rfl⟩)
              go_ret
              exact ⟨ret_bool (by rw [Hfin.out]; rfl), h0.out⟩
        · have Hst := Lib.hid (show h.step a b = (refB a && refB b) by unfold Hr.step; rw [hN]; rfl)
          generalize refB b = rb at *
          cases hRa : refB a
          all_goals
            rw [hRa] at HRa
            have Hfin := Lib.hid (show h.sub a b = _ by rw [Hsub2.out, Hst.out, hRa])
            clear hRa
            go_enter Tryd.func23, Tryd.ntmps23
            go_wp2_with fail
            refine HKa.out.mono ?_; rintro e w' ⟨rfl, rfl⟩
            go_wp2_with fail
            refine HKb.out.mono ?_; rintro e w' ⟨rfl, rfl⟩
            go_wp2_with fail
            refine HRa.out.mono ?_; rintro e w' ⟨rfl, rfl⟩
            go_wp2_with (go_at_call 43; refine HRb.out.mono ?_; rintro e w' ⟨rfl, rfl⟩)
            go_ret
            exact ⟨ret_bool (by rw [Hfin.out]; rfl), h0.out⟩
      · have Hfin := Lib.hid (show h.sub a b = true by rw [Hsub.out, hE]; rfl)
        clear hA hBb ha hb H hB hg
        go_enter Tryd.func23, Tryd.ntmps23
        go_wp2_with fail
        refine HKa.out.mono ?_; rintro e w' ⟨rfl, rfl⟩
        go_wp2_with fail
        refine HKb.out.mono ?_; rintro e w' ⟨rfl, rfl⟩
        go_wp2_with fail
        go_ret
        exact ⟨ret_bool (by rw [Hfin.out]), h0.out⟩
end HierD
end Go.Proofs.YtilakpbgpdbchaaDoor
