/-
  The fixed calls of the statements of layer 7.
-/
import Derived.Test.YtilakpbgpdbchaaDoorHierW
namespace Go.Proofs.YtilakpbgpdbchaaDoor
namespace HierX
open Go.RowKit BinM Base Stru DescM DescW DescX HierS HierT HierM HierC HierD HierK HierN HierV HierW
open BinName (ret_bool)

def aN : T := [65]
def bN : T := [66]
def cN : T := [67]
def kp : List P2 := [(aN, objN), (bN, aN), (cN, aN)]
theorem why_k : whyT kp = ([], 0) := by kernel_rfl
theorem join_bc : (mk kp).join [76, 66, 59] [76, 67, 59] = ([76, 65, 59], true) := by kernel_rfl
theorem join_in : (mk kp).join [73] [78] = ([], false) := by kernel_rfl
theorem sub_bo : (mk kp).sub [76, 66, 59] [76, 79, 98, 106, 101, 99, 116, 59] = true := by kernel_rfl

set_option maxRecDepth 100000 in
set_option maxHeartbeats 2000000 in
theorem known_any (w : World) : Calls Tryd.prog 8 #[] w fun e w' => e = .returned (.bool true) ∧ Below w.heap.size w w' := by
  have h0 := Lib.hid (Below.refl w.heap.size w)
  have hg := (why_good (l := kp) (by rw [why_k])).1
  have HG := Lib.hid hg
  have HN := Lib.hid (new_any (some ⟨w.heap.size, 0, none⟩) (kp.map bare) 3 3 (w.alloc (.cells #[.string ⟨#[65]⟩, .string ⟨#[79, 98, 106, 101, 99, 116]⟩, .slice none 0 0, .slice none 0 0, .slice none 0 0, .string ⟨#[66]⟩, .string ⟨#[65]⟩, .slice none 0 0, .slice none 0 0, .slice none 0 0, .string ⟨#[67]⟩, .string ⟨#[65]⟩, .slice none 0 0, .slice none 0 0, .slice none 0 0] 60)) rfl (rds_new _ _ _) (by decide))
  rw [bare_p2] at HN
  clear hg
  go_enter Tryd.func8, Tryd.ntmps8
  go_wp2_with fail
  refine HN.out.mono ?_
  rintro e w1 ⟨hb1, hor⟩
  rcases hor with ⟨_, g, rfl, hH⟩ | ⟨hne, _⟩
  · have B1 := Lib.hid ((h0.out.alloc (Nat.le_refl _) _).trans (hb1.mono (by simp)))
    have HH := Lib.hid (fun (wr : World) (hb : Below w1.heap.size w1 wr) => hH.below hb)
    have HJ1 := Lib.hid (join_any w1.heap.size g (mk kp) [76, 66, 59] [76, 67, 59] w1 hH (Nat.le_refl _) HG.out (by decide) (by decide))
    rw [join_bc] at HJ1
    clear hb1 hH
    go_wp2_with fail
    refine HJ1.out.mono ?_
    rintro e w2 ⟨rfl, hb2⟩
    have B2 := Lib.hid hb2
    have HJ2 := Lib.hid (join_any w1.heap.size g (mk kp) [73] [78] w2 (HH.out _ hb2) hb2.size HG.out (by decide) (by decide))
    rw [join_in] at HJ2
    clear hb2
    go_wp2_with fail
    refine HJ2.out.mono ?_
    rintro e w3 ⟨rfl, hb3⟩
    have B3 := Lib.hid (B2.out.trans (hb3.mono B2.out.size))
    have HS := Lib.hid (sub_any w1.heap.size g (mk kp) [76, 66, 59] [76, 79, 98, 106, 101, 99, 116, 59] w3 (HH.out _ B3.out) B3.out.size HG.out (by decide) (by decide))
    rw [sub_bo] at HS
    clear hb3
    go_wp2_with fail
    refine HS.out.mono ?_
    rintro e w4 ⟨rfl, hb4⟩
    have B4 := Lib.hid (B1.out.trans ((B3.out.trans (hb4.mono B3.out.size)).mono B1.out.size))
    clear hb4
    go_wp2_with fail
    go_ret
    exact ⟨rfl, B4.out⟩
  · rw [why_k] at hne
    exact absurd rfl hne
end HierX
end Go.Proofs.YtilakpbgpdbchaaDoor
