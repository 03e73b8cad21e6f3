/-
  KlassRights: what the law returns, walked in the order of its text.
-/
import Derived.Test.YthkkcecfenohjaaGreatDoorKlsN
import Derived.Test.YthkkcecfenohjaaGreatDoorKlsF
import Derived.Test.YthkkcecfenohjaaGreatDoorKlsX
namespace Go.Proofs.YthkkcecfenohjaaGreatDoor
namespace WKlassRights
open Go.RowKit Base BinM Stru PoolM PoolA PoolJ InsJ Kls KlsN KlsP KlsQ KlsX

theorem _root_.Go.Proofs.YthkkcecfenohjaaGreatDoor.Kls.Box5.drew {w : World} {g : Nat} {a b c d e : Value} (h : Box5 w g a b c d e) : Box5 w.drew g a b c d e := h
set_option maxRecDepth 100000 in
set_option maxHeartbeats 8000000 in
theorem walk (x0 : ClsT) (a1 : ByteArray) (w : World) (hl : InsA.Laid w) (w0 : x0.is w) (b0 : OpenK.ClsT.lt x0) (_ : a1.size ≤ 140737488351232) :
    Calls Tryz.prog 3 #[x0.V, .string a1] w fun e w' => e = .returned (.bool true) ∧ Below w.heap.size w w' := by
  obtain ⟨q, rfl⟩ : ∃ q : List UInt8, a1 = ⟨q.toArray⟩ := ⟨a1.data.toList, by simp⟩
  have hs := fun (W : World) (hb : Below w.heap.size w W) => small_any x0 W (w0.below hb)
  have hr := fun (W : World) (hb : Below w.heap.size w W) => right_any x0 W (hl.below hb hl.1) (w0.below hb) b0
  have hrr := fun (W : World) (hb : Below w.heap.size w W) => refRight_any x0 W (w0.below hb) b0
  have hf := fun (W : World) (hb : Below w.heap.size w W) => atF_any x0 q W (w0.below hb)
  have hrf := fun (W : World) (hb : Below w.heap.size w W) => refAtF_any x0 q W (w0.below hb)
  have hm := fun (W : World) (hb : Below w.heap.size w W) => atM_any x0 q W (w0.below hb)
  have hrm := fun (W : World) (hb : Below w.heap.size w W) => refAtM_any x0 q W (w0.below hb)
  generalize clsE x0 = D at *
  generalize findP (nameF q) x0.fields = E at *
  generalize findP (nameM q) x0.meths = G at *
  clear w0 hl b0
  obtain ⟨n, s, kA, km, kc, fA, fm, fc, mA, mm, mc, ks, fs, ms⟩ := x0
  simp only [ClsT.V] at hs hr hrr hf hrf hm hrm ⊢
  have Hs := Lib.hid hs
  have Hr := Lib.hid hr
  have Hrr := Lib.hid hrr
  have Hf := Lib.hid hf
  have Hrf := Lib.hid hrf
  have Hm := Lib.hid hm
  have Hrm := Lib.hid hrm
  clear hs hr hrr hf hrf hm hrm
  have HB := Lib.hid ((Below.refl w.heap.size w).alloc (Nat.le_refl _) (.cells #[.string ⟨n.toArray⟩, .string ⟨s.toArray⟩, .slice kA km kc, .slice fA fm fc, .slice mA mm mc] 26))
  have E1 := Lib.hid (Box5.new w (.string ⟨n.toArray⟩) (.string ⟨s.toArray⟩) (.slice kA km kc) (.slice fA fm fc) (.slice mA mm mc) 26)
  go_enter Tryz.func3, Tryz.ntmps3
  go_wp2_with fail
  refine Calls.mono (Hs.out _ HB.out) ?_
  rintro e w3 ⟨r, rfl, -, hb3⟩
  have B3 := Lib.hid (HB.out.trans (hb3.mono HB.out.size))
  have C3 := Lib.hid (E1.out.after hb3)
  clear hb3
  cases r
  · go_wp2_with fail
    refine (known_any _).mono ?_
    rintro e w9 ⟨rfl, hb9⟩
    have B9 := Lib.hid (B3.out.trans (hb9.mono B3.out.size))
    clear hb9
    go_wp2_with fail
    go_ret
    exact ⟨rfl, B9.out⟩
  · obtain ⟨c0, c1, c2, c3, c4⟩ := C3.out
    go_wp2_with fail
    go_region_held3 (fun w' => w'.cell? ⟨w.heap.size, 0, none⟩ = some (.string ⟨n.toArray⟩) ∧ w'.cell? ⟨w.heap.size, 1, none⟩ = some (.string ⟨s.toArray⟩) ∧ w'.cell? ⟨w.heap.size, 2, none⟩ = some (.slice kA km kc) ∧ w'.cell? ⟨w.heap.size, 3, none⟩ = some (.slice fA fm fc) ∧ w'.cell? ⟨w.heap.size, 4, none⟩ = some (.slice mA mm mc))
      (first | exact ⟨c0, c1, c2, c3, c4⟩ | go_keep)
      (first
        | (go_at_call 12; refine Calls.mono (known_any _) ?_; rintro e w14 ⟨rfl, hb⟩
           have B14 := Lib.hid (B13.out.trans (hb.mono B13.out.size))
           have C14 := Lib.hid (C13.out.after hb)
           clear hb c0 c1 c2 c3 c4
           obtain ⟨c0, c1, c2, c3, c4⟩ := C14.out)
        | (go_at_call 17; refine Calls.mono (Hm.out _ B22.out) ?_; rintro e w13 ⟨rfl, hb⟩
           have B13 := Lib.hid (B22.out.trans (hb.mono B22.out.size))
           have C13 := Lib.hid (C22.out.after hb)
           clear hb c0 c1 c2 c3 c4
           obtain ⟨c0, c1, c2, c3, c4⟩ := C13.out)
        | (go_at_call 18; refine Calls.mono (Hrm.out _ B12.out) ?_; rintro e w13 ⟨rfl, hb⟩
           have B13 := Lib.hid (B12.out.trans (hb.mono B12.out.size))
           have C13 := Lib.hid (C12.out.after hb)
           clear hb c0 c1 c2 c3 c4
           obtain ⟨c0, c1, c2, c3, c4⟩ := C13.out)
        | (go_at_call 17; refine Calls.mono (Hm.out _ B11.out) ?_; rintro e w12 ⟨rfl, hb⟩
           have B12 := Lib.hid (B11.out.trans (hb.mono B11.out.size))
           have C12 := Lib.hid (C11.out.after hb)
           clear hb c0 c1 c2 c3 c4
           obtain ⟨c0, c1, c2, c3, c4⟩ := C12.out)
        | (go_at_call 18; refine Calls.mono (Hrm.out _ B11.out) ?_; rintro e w22 ⟨rfl, hb⟩
           have B22 := Lib.hid (B11.out.trans (hb.mono B11.out.size))
           have C22 := Lib.hid (C11.out.after hb)
           clear hb c0 c1 c2 c3 c4
           obtain ⟨c0, c1, c2, c3, c4⟩ := C22.out)
        | (go_at_call 15; refine Calls.mono (Hf.out _ B20.out) ?_; rintro e w11 ⟨rfl, hb⟩
           have B11 := Lib.hid (B20.out.trans (hb.mono B20.out.size))
           have C11 := Lib.hid (C20.out.after hb)
           clear hb c0 c1 c2 c3 c4
           obtain ⟨c0, c1, c2, c3, c4⟩ := C11.out)
        | (go_at_call 16; refine Calls.mono (Hrf.out _ B10.out) ?_; rintro e w11 ⟨rfl, hb⟩
           have B11 := Lib.hid (B10.out.trans (hb.mono B10.out.size))
           have C11 := Lib.hid (C10.out.after hb)
           clear hb c0 c1 c2 c3 c4
           obtain ⟨c0, c1, c2, c3, c4⟩ := C11.out)
        | (go_at_call 15; refine Calls.mono (Hf.out _ B9.out) ?_; rintro e w10 ⟨rfl, hb⟩
           have B10 := Lib.hid (B9.out.trans (hb.mono B9.out.size))
           have C10 := Lib.hid (C9.out.after hb)
           clear hb c0 c1 c2 c3 c4
           obtain ⟨c0, c1, c2, c3, c4⟩ := C10.out)
        | (go_at_call 16; refine Calls.mono (Hrf.out _ B9.out) ?_; rintro e w20 ⟨rfl, hb⟩
           have B20 := Lib.hid (B9.out.trans (hb.mono B9.out.size))
           have C20 := Lib.hid (C9.out.after hb)
           clear hb c0 c1 c2 c3 c4
           obtain ⟨c0, c1, c2, c3, c4⟩ := C20.out)
        | (go_at_call 13; refine Calls.mono (Hr.out _ B8.out) ?_; rintro e w9 ⟨rfl, hb⟩
           have B9 := Lib.hid (B8.out.trans (hb.mono B8.out.size))
           have C9 := Lib.hid (C8.out.after hb)
           clear hb c0 c1 c2 c3 c4
           obtain ⟨c0, c1, c2, c3, c4⟩ := C9.out)
        | (go_at_call 14; refine Calls.mono (Hrr.out _ B7.out) ?_; rintro e w9 ⟨rfl, hb⟩
           have B9 := Lib.hid (B7.out.trans (hb.mono B7.out.size))
           have C9 := Lib.hid (C7.out.after hb)
           clear hb c0 c1 c2 c3 c4
           obtain ⟨c0, c1, c2, c3, c4⟩ := C9.out)
        | (go_at_call 13; refine Calls.mono (Hr.out _ B3.out.drew) ?_; rintro e w7 ⟨rfl, hb⟩
           have B7 := Lib.hid (B3.out.drew.trans (hb.mono B3.out.size))
           have C7 := Lib.hid (C3.out.drew.after hb)
           clear hb c0 c1 c2 c3 c4
           obtain ⟨c0, c1, c2, c3, c4⟩ := C7.out)
        | (go_at_call 14; refine Calls.mono (Hrr.out _ B3.out.drew) ?_; rintro e w8 ⟨rfl, hb⟩
           have B8 := Lib.hid (B3.out.drew.trans (hb.mono B3.out.size))
           have C8 := Lib.hid (C3.out.drew.after hb)
           clear hb c0 c1 c2 c3 c4
           obtain ⟨c0, c1, c2, c3, c4⟩ := C8.out))
    all_goals
      go_wp2_with fail
      go_ret
      exact ⟨rfl, B14.out⟩

end WKlassRights
end Go.Proofs.YthkkcecfenohjaaGreatDoor
