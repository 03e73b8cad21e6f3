/-
  Law 12's do: whatever the act, a heap and the document's heap answer alike, and stay alike.
-/
import Derived.Test.YtfmodaelpldpfaaHpD
import Derived.Deep.RegionWith
import Derived.Deep.RegionHeld3
namespace Go.Proofs.Ytfmodaelpldpfaa
namespace HpH
open Go.RowKit Base BinM HpM HpA HpS HpB HpG HpP HpT HpY HpZ HpR HpQ HpE HpF HpI HpJ HpL HpO HpU HpW HpD

abbrev actC (y : OpenA.ActT) : Array Value := #[.int .i64 y.kind, .int .i64 y.id, .int .i64 y.n, .string ⟨y.s.toArray⟩, .int .i64 y.at_, .int .i64 y.v, .bool y.which]

set_option maxRecDepth 100000 in
set_option maxHeartbeats 8000000 in
theorem do_any {w0 w : World} {g r most N : Nat} (S : SimE w0 w g r most N) (hN : N ≤ 900) (y : OpenA.ActT) (hy : OpenA.actOk y) (x : Int) :
    Calls Try.prog 11 #[.pointer (some ⟨g, 0, none⟩), .pointer (some ⟨r, 0, none⟩), .agg (actC y), .int .i64 x] w fun e w' => e = .returned (.bool true) ∧ SimE w0 w' g r most (N + 1) := by
  obtain ⟨kd, y1, y2, y3, y4, y5, y6⟩ := y
  unfold actC
  obtain ⟨_, hid, hnn, hsl, _, hvv⟩ := hy
  simp only at hid hnn hsl hvv ⊢
  have hal : Below w.heap.size w (w.alloc (.cells #[.int .i64 kd, .int .i64 y1, .int .i64 y2, .string ⟨y3.toArray⟩, .int .i64 y4, .int .i64 y5, .bool y6] 32)) := (Below.refl _ _).alloc (Nat.le_refl _) _
  have HX := Lib.hid (Bx.new w #[.int .i64 kd, .int .i64 y1, .int .i64 y2, .string ⟨y3.toArray⟩, .int .i64 y4, .int .i64 y5, .bool y6] 32)
  have HSE := Lib.hid (S.beside hal)
  obtain ⟨mb, Aw, cw, Aa, ca, AL, cL, ms, n, f, S, hms, hn⟩ := S
  have HSA := Lib.hid (S.beside hal)
  have HFar := Lib.hid (show ¬ feet g mb Aw Aa w.heap.size from fun h => Nat.lt_irrefl _ (S.hp.lt h))
  have HRar := Lib.hid (show ¬ rfeet r AL ms w.heap.size from fun h => Nat.lt_irrefl _ (S.rf.lt h))
  have Hv := Lib.hid hvv
  clear S hal hvv hid hnn
  by_cases h0 : kd = 0
  · subst h0
    have HT := Lib.hid (both (ms := ms) (K := N) hms hn rfl HSA.out HX.out HFar.out (thing_any HSA.out.hp HSA.out.fits y1 y2) (fun w1 h1 => rthing_any h1 HSA.out.fits.len HSA.out.fits.top (by omega) y1 y2))
    unfold twoT at HT
    generalize thingE most (raw (things ms)).length y1 y2 = E at HT
    generalize (if E = 0 then (((raw (things ms)).length + 1 : Nat) : Int) else 0) = Z at HT
    go_enter Try.func11, Try.ntmps11
    go_wp2_with fail
    refine HT.out.mono ?_
    rintro e w1 ⟨rfl, hx1, hR⟩
    have q1 := hx1.cell 1
    have q2 := hx1.cell 2
    have HR1 := Lib.hid hR
    clear hR hx1
    go_wp2_with fail
    refine HR1.out.mono ?_
    rintro e w2 ⟨rfl, hS⟩
    have HS2 := Lib.hid hS
    clear hS
    go_wp2_with fail
    go_ret
    exact ⟨rfl, HS2.out⟩
  · have h0' : (kd == 0) = false := by simpa using h0
    by_cases h1 : kd = 1
    · subst h1
      have HT := Lib.hid (both (ms := ms) (K := N) hms hn rfl HSA.out HX.out HFar.out (thing_any HSA.out.hp HSA.out.fits y1 y2) (fun w1 h1 => rthing_any h1 HSA.out.fits.len HSA.out.fits.top (by omega) y1 y2))
      unfold twoT at HT
      generalize thingE most (raw (things ms)).length y1 y2 = E at HT
      generalize (if E = 0 then (((raw (things ms)).length + 1 : Nat) : Int) else 0) = Z at HT
      go_enter Try.func11, Try.ntmps11
      go_wp2_with fail
      refine HT.out.mono ?_
      rintro e w1 ⟨rfl, hx1, hR⟩
      have q1 := hx1.cell 1
      have q2 := hx1.cell 2
      have HR1 := Lib.hid hR
      clear hR hx1
      go_wp2_with fail
      refine HR1.out.mono ?_
      rintro e w2 ⟨rfl, hS⟩
      have HS2 := Lib.hid hS
      clear hS
      go_wp2_with fail
      go_ret
      exact ⟨rfl, HS2.out⟩
    · have h1' : (kd == 1) = false := by simpa using h1
      by_cases h2 : kd = 2
      · subst h2
        have HT := Lib.hid (both (ms := ms) (K := N) hms hn rfl HSA.out HX.out HFar.out (array_any HSA.out.hp HSA.out.fits y1 y2) (fun w1 h1 => rarray_any h1 HSA.out.fits.len HSA.out.fits.top (by omega) y1 y2))
        unfold twoT at HT
        generalize arrayE most (raw (things ms)).length y1 y2 = E at HT
        generalize (if E = 0 then (((raw (things ms)).length + 1 : Nat) : Int) else 0) = Z at HT
        go_enter Try.func11, Try.ntmps11
        go_wp2_with fail
        refine HT.out.mono ?_
        rintro e w1 ⟨rfl, hx1, hR⟩
        have q1 := hx1.cell 1
        have q2 := hx1.cell 2
        have HR1 := Lib.hid hR
        clear hR hx1
        go_wp2_with fail
        refine HR1.out.mono ?_
        rintro e w2 ⟨rfl, hS⟩
        have HS2 := Lib.hid hS
        clear hS
        go_wp2_with fail
        go_ret
        exact ⟨rfl, HS2.out⟩
      · have h2' : (kd == 2) = false := by simpa using h2
        by_cases h3 : kd = 3
        · subst h3
          have HT := Lib.hid (both (ms := ms) (K := N) hms hn rfl HSA.out HX.out HFar.out (text_any HSA.out.hp HSA.out.fits y1 y3 (by omega)) (fun w1 h1 => rtext_any h1 HSA.out.fits.len HSA.out.fits.top (by omega) y1 y3 (by omega)))
          unfold twoT at HT
          generalize addE most (raw (things ms)).length y1 (1 + (((y3.length + 7) / 8 : Nat) : Int)) = E at HT
          generalize (if E = 0 then (((raw (things ms)).length + 1 : Nat) : Int) else 0) = Z at HT
          go_enter Try.func11, Try.ntmps11
          go_wp2_with fail
          refine HT.out.mono ?_
          rintro e w1 ⟨rfl, hx1, hR⟩
          have q1 := hx1.cell 1
          have q3 := hx1.cell 3
          have HR1 := Lib.hid hR
          clear hR hx1
          go_wp2_with fail
          refine HR1.out.mono ?_
          rintro e w2 ⟨rfl, hS⟩
          have HS2 := Lib.hid hS
          clear hS
          go_wp2_with fail
          go_ret
          exact ⟨rfl, HS2.out⟩
        · have h3' : (kd == 3) = false := by simpa using h3
          by_cases h4 : kd = 4
          · subst h4
            have hxd : Bx (w.alloc (.cells #[.int .i64 4, .int .i64 y1, .int .i64 y2, .string ⟨y3.toArray⟩, .int .i64 y4, .int .i64 y5, .bool y6] 32)).drew w.heap.size _ 32 := HX.out
            obtain ⟨E, hT⟩ := both_set hms hn (by omega) (HSA.out.beside (Below.refl _ _).drew) hxd HFar.out HRar.out x y2 y5 Hv.out
            have HT := Lib.hid hT
            clear hT hxd
            go_enter Try.func11, Try.ntmps11
            go_wp2_with fail
            have k2 := HX.out.cell 2
            have k5 := HX.out.cell 5
            go_region_held3 (fun w' => w'.cell? ⟨w.heap.size, 2, none⟩ = some (.int .i64 y2) ∧ w'.cell? ⟨w.heap.size, 5, none⟩ = some (.int .i64 y5))
              (first | exact ⟨k2, k5⟩ | exact ⟨q2, q5⟩ | exact ⟨p2, p5⟩ | go_keep)
              (first
                | (have hG := HR1
                   clear hG
                   go_at_call 35
                   refine HR1.out.mono ?_
                   rintro e w2 ⟨rfl, hS, hx2⟩
                   have p2 := hx2.cell 2
                   have p5 := hx2.cell 5
                   have HS2 := Lib.hid hS
                   clear hS hx2)
                | (go_at_call 22
                   refine HT.out.mono ?_
                   rintro e w1 ⟨rfl, hx1, hR⟩
                   have q2 := hx1.cell 2
                   have q5 := hx1.cell 5
                   have HR1 := Lib.hid hR
                   clear hR hx1))
            all_goals
              go_wp2_with fail
              go_ret
              exact ⟨rfl, HS2.out⟩
          · have h4' : (kd == 4) = false := by simpa using h4
            by_cases h5 : kd = 5
            · subst h5
              have hxd : Bx (w.alloc (.cells #[.int .i64 5, .int .i64 y1, .int .i64 y2, .string ⟨y3.toArray⟩, .int .i64 y4, .int .i64 y5, .bool y6] 32)).drew w.heap.size _ 32 := HX.out
              obtain ⟨E, hT⟩ := both_set hms hn (by omega) (HSA.out.beside (Below.refl _ _).drew) hxd HFar.out HRar.out x y2 y5 Hv.out
              have HT := Lib.hid hT
              clear hT hxd
              go_enter Try.func11, Try.ntmps11
              go_wp2_with fail
              have k2 := HX.out.cell 2
              have k5 := HX.out.cell 5
              go_region_held3 (fun w' => w'.cell? ⟨w.heap.size, 2, none⟩ = some (.int .i64 y2) ∧ w'.cell? ⟨w.heap.size, 5, none⟩ = some (.int .i64 y5))
                (first | exact ⟨k2, k5⟩ | exact ⟨q2, q5⟩ | exact ⟨p2, p5⟩ | go_keep)
                (first
                  | (have hG := HR1
                     clear hG
                     go_at_call 35
                     refine HR1.out.mono ?_
                     rintro e w2 ⟨rfl, hS, hx2⟩
                     have p2 := hx2.cell 2
                     have p5 := hx2.cell 5
                     have HS2 := Lib.hid hS
                     clear hS hx2)
                  | (go_at_call 22
                     refine HT.out.mono ?_
                     rintro e w1 ⟨rfl, hx1, hR⟩
                     have q2 := hx1.cell 2
                     have q5 := hx1.cell 5
                     have HR1 := Lib.hid hR
                     clear hR hx1))
              all_goals
                go_wp2_with fail
                go_ret
                exact ⟨rfl, HS2.out⟩
            · have h5' : (kd == 5) = false := by simpa using h5
              by_cases h6 : kd = 6
              · subst h6
                have hxd : Bx (w.alloc (.cells #[.int .i64 6, .int .i64 y1, .int .i64 y2, .string ⟨y3.toArray⟩, .int .i64 y4, .int .i64 y5, .bool y6] 32)).drew w.heap.size _ 32 := HX.out
                obtain ⟨E, hT⟩ := both_send hms hn (by omega) (HSA.out.beside (Below.refl _ _).drew) hxd HFar.out HRar.out x y5 Hv.out
                have HT := Lib.hid hT
                clear hT hxd
                go_enter Try.func11, Try.ntmps11
                go_wp2_with fail
                have k5 := HX.out.cell 5
                go_region_held3 (fun w' => w'.cell? ⟨w.heap.size, 5, none⟩ = some (.int .i64 y5))
                  (first | exact k5 | exact q5 | exact p5 | go_keep)
                  (first
                    | (have hG := HR1
                       clear hG
                       go_at_call 36
                       refine HR1.out.mono ?_
                       rintro e w2 ⟨rfl, hS, hx2⟩
                       have p5 := hx2.cell 5
                       have HS2 := Lib.hid hS
                       clear hS hx2)
                    | (go_at_call 31
                       refine HT.out.mono ?_
                       rintro e w1 ⟨rfl, hx1, hR⟩
                       have q5 := hx1.cell 5
                       have HR1 := Lib.hid hR
                       clear hR hx1))
                all_goals
                  go_wp2_with fail
                  go_ret
                  exact ⟨rfl, HS2.out⟩
              · have h6' : (kd == 6) = false := by simpa using h6
                have HF := Lib.hid HSE.out.more
                go_enter Try.func11, Try.ntmps11
                go_wp2_with fail
                go_ret
                exact ⟨rfl, HF.out⟩

end HpH
end Go.Proofs.Ytfmodaelpldpfaa
