/-
  Law 20's small.
-/
import Derived.Test.YtiagjnimafdbhaaGreatDoorG24
import Derived.Test.YtiagjnimafdbhaaGreatDoorG41
namespace Go.Proofs.YtiagjnimafdbhaaGreatDoor
namespace DlS
open Go.RowKit Base BinM Stru DescM DescW DescX DescS DescG DescP DescQ HierS HierT HierM HierC HierD HierN HierV Kls KlsP KlsQ OpenK TabC TabM TabK TabP TabE TabB TabG TabH TabT TabU TabV TabX TabW TabF TabN TabO TabY

end DlS
end Go.Proofs.YtiagjnimafdbhaaGreatDoor
/-
  The known of law 20: two tables of one class, and what is not the same in them.
-/
namespace Go.Proofs.YtiagjnimafdbhaaGreatDoor
namespace DlK
open Go.RowKit Base BinM Stru DescM DescW DescX HierS HierT HierM HierC HierD HierN Kls KlsP KlsQ OpenK TabC TabM TabK TabP TabE TabB TabG TabH TabT TabU TabI TabV TabW TabN TabO TabY TabCs TabCl TabHc TabDp TabEq TabCg DlA DlB DlC
open TabZ (bx_al bx_at rds_bx few_of)

def mD (s : Nat) : MthT := ⟨[109], [40, 41, 73], 1, some ⟨s, 0, none⟩, 3, 3, none, 0, 0, [(6, 0), (26, 0), (33, 0)], []⟩
def cD : Cst := ⟨4, 0, [65], [120], [73]⟩
def aD (s k f m : Nat) : ClsT := ⟨[65], [79, 98, 106, 101, 99, 116], some ⟨k, 0, none⟩, 1, 1, some ⟨f, 0, none⟩, 1, 1, some ⟨m, 0, none⟩, 1, 1, [cD], [⟨[120], [73]⟩], [mD s]⟩
def bD (s k f m : Nat) : ClsT := ⟨[65], [79, 98, 106, 101, 99, 116], some ⟨k, 0, none⟩, 1, 1, some ⟨f, 0, none⟩, 2, 2, some ⟨m, 0, none⟩, 1, 1, [cD], [⟨[120], [73]⟩, ⟨[121], [73]⟩], [mD s]⟩
set_option maxRecDepth 100000 in
theorem why_a (s k f m : Nat) : whyC [aD s k f m] = ([], 0) := by kernel_rfl
set_option maxRecDepth 100000 in
theorem why_bD (s k f m : Nat) : whyC [bD s k f m] = ([], 0) := by kernel_rfl
set_option maxRecDepth 100000 in
theorem ch_ab (s k f m f' : Nat) : chL (mk (pairs [aD s k f m])).names (mk (pairs [bD s k f' m])).has [aD s k f m] [bD s k f' m] = [[65]] := by kernel_rfl
set_option maxRecDepth 100000 in
theorem lay_ab (s k f m f' : Nat) : layL (mk (pairs [aD s k f m])).names (mk (pairs [bD s k f' m])).has [aD s k f m] [bD s k f' m] = [[65]] := by kernel_rfl
set_option maxRecDepth 100000 in
theorem held_ab (s k f m f' : Nat) : heldL [aD s k f m] [bD s k f' m] [[65]] [aD s k f m] = [([65], [109])] := by kernel_rfl
set_option maxRecDepth 100000 in
theorem same_ab (s k f m f' : Nat) : sameB (aD s k f m) [109] (bD s k f' m) [109] = true := by kernel_rfl

set_option maxRecDepth 100000 in
theorem names_k (s k f m : Nat) : (mk (pairs [aD s k f m])).names.all (fun q => decide (q.length ≤ 100)) = true := by kernel_rfl
theorem names_short (s k f m : Nat) : ∀ q ∈ (mk (pairs [aD s k f m])).names, q.length ≤ 140737488351232 := fun q hq => by
  have h := List.all_eq_true.1 (names_k s k f m) q hq
  have := of_decide_eq_true h
  omega
theorem pure_of {x y : ClsT} (h : TabV.bareC x = TabV.bareC y) : x.meths.map MthT.pure = y.meths.map MthT.pure := by
  have h1 := congrArg (fun z : ClsT => z.meths.map MthT.pure) h
  simp only [TabV.bareC, List.map_map] at h1
  exact h1
theorem short_of {C L : List ClsT} (hb : C.map TabV.bareC = L.map TabV.bareC) (hr : ∀ x ∈ L, clsE x = 0) : Short C := fun k hk => by
  obtain ⟨k', h1, h2⟩ := bare_mem hb hk
  have e3 : k.consts = k'.consts := by
    have e := congrArg ClsT.consts h2
    exact e
  have e4 : k.fields = k'.fields := by
    have e := congrArg ClsT.fields h2
    exact e
  have e5 := pure_of h2
  have hs := cls_short (hr k' h1)
  have hf := cls_few (hr k' h1)
  have hlen : k.meths.length = k'.meths.length := by have := congrArg List.length e5; simpa using this
  refine ⟨by rw [e3]; omega, by rw [e4]; omega, by omega, fun z hz => ?_⟩
  have hm : z.pure ∈ k'.meths.map MthT.pure := by rw [← e5]; exact List.mem_map_of_mem hz
  obtain ⟨z', hz', ez⟩ := List.mem_map.1 hm
  have hs2 := hs.2 z' hz'
  have e6 : z'.code = z.code := congrArg MthP.code ez
  have e7 : z'.hand = z.hand := congrArg MthP.hand ez
  rw [← e6, ← e7]
  omega
def q1 (w : World) : World := w.alloc (.cells #[.int .i64 6, .int .i64 0, .int .i64 26, .int .i64 0, .int .i64 33, .int .i64 0] 57)
def q2 (w : World) : World := (q1 w).alloc (.cells #[.string ⟨#[109]⟩, .string ⟨#[40, 41, 73]⟩, .int .i64 1, .slice (some ⟨w.heap.size, 0, none⟩) 3 3, .slice none 0 0] 55)
def q3 (w : World) : World := (q2 w).alloc (.cells #[.int .i64 4, .int .i64 0, .string ⟨#[65]⟩, .string ⟨#[120]⟩, .string ⟨#[73]⟩] 59)
def q4 (w : World) : World := (q3 w).alloc (.cells #[.string ⟨#[120]⟩, .string ⟨#[73]⟩] 61)
def q5 (w : World) : World := (q4 w).alloc (.cells #[.string ⟨#[109]⟩, .string ⟨#[40, 41, 73]⟩, .int .i64 1, .slice (some ⟨w.heap.size, 0, none⟩) 3 3, .slice none 0 0] 55)
def q6 (w : World) : World := (q5 w).alloc (.cells #[.string ⟨#[65]⟩, .string ⟨#[79, 98, 106, 101, 99, 116]⟩, .slice (some ⟨w.heap.size + 1 + 1, 0, none⟩) 1 1, .slice (some ⟨w.heap.size + 1 + 1 + 1, 0, none⟩) 1 1, .slice (some ⟨w.heap.size + 1 + 1 + 1 + 1, 0, none⟩) 1 1] 43)
def q7 (w : World) : World := (q6 w).alloc (.cells #[.string ⟨#[65]⟩, .string ⟨#[79, 98, 106, 101, 99, 116]⟩, .slice (some ⟨w.heap.size + 1 + 1, 0, none⟩) 1 1, .slice (some ⟨w.heap.size + 1 + 1 + 1 + 1 + 1 + 1 + 1, 0, none⟩) 2 2, .slice (some ⟨w.heap.size + 1 + 1 + 1 + 1, 0, none⟩) 1 1] 43)
def q8 (w : World) : World := (q7 w).alloc (.cells #[.string ⟨#[120]⟩, .string ⟨#[73]⟩, .string ⟨#[121]⟩, .string ⟨#[73]⟩] 61)
def q9 (w : World) : World := (q8 w).alloc (.cells #[.string ⟨#[65]⟩, .string ⟨#[79, 98, 106, 101, 99, 116]⟩, .slice (some ⟨w.heap.size + 1 + 1, 0, none⟩) 1 1, .slice (some ⟨w.heap.size + 1 + 1 + 1, 0, none⟩) 1 1, .slice (some ⟨w.heap.size + 1 + 1 + 1 + 1, 0, none⟩) 1 1] 43)
theorem q1_size (w : World) : (q1 w).heap.size = w.heap.size + 1 := by unfold q1; simp
theorem q2_size (w : World) : (q2 w).heap.size = w.heap.size + 1 + 1 := by unfold q2; simp [q1_size]
theorem q3_size (w : World) : (q3 w).heap.size = w.heap.size + 1 + 1 + 1 := by unfold q3; simp [q2_size]
theorem q4_size (w : World) : (q4 w).heap.size = w.heap.size + 1 + 1 + 1 + 1 := by unfold q4; simp [q3_size]
theorem q5_size (w : World) : (q5 w).heap.size = w.heap.size + 1 + 1 + 1 + 1 + 1 := by unfold q5; simp [q4_size]
theorem q6_size (w : World) : (q6 w).heap.size = w.heap.size + 1 + 1 + 1 + 1 + 1 + 1 := by unfold q6; simp [q5_size]
theorem q7_size (w : World) : (q7 w).heap.size = w.heap.size + 1 + 1 + 1 + 1 + 1 + 1 + 1 := by unfold q7; simp [q6_size]
theorem q8_size (w : World) : (q8 w).heap.size = w.heap.size + 1 + 1 + 1 + 1 + 1 + 1 + 1 + 1 := by unfold q8; simp [q7_size]
theorem q9_size (w : World) : (q9 w).heap.size = w.heap.size + 1 + 1 + 1 + 1 + 1 + 1 + 1 + 1 + 1 := by unfold q9; simp [q8_size]
theorem q9_below (w : World) : Below w.heap.size w (q9 w) := by
  have h0 := Below.refl w.heap.size w
  have h1 : Below w.heap.size w (q1 w) := h0.alloc h0.size _
  have h2 : Below w.heap.size w (q2 w) := h1.alloc h1.size _
  have h3 : Below w.heap.size w (q3 w) := h2.alloc h2.size _
  have h4 : Below w.heap.size w (q4 w) := h3.alloc h3.size _
  have h5 : Below w.heap.size w (q5 w) := h4.alloc h4.size _
  have h6 : Below w.heap.size w (q6 w) := h5.alloc h5.size _
  have h7 : Below w.heap.size w (q7 w) := h6.alloc h6.size _
  have h8 : Below w.heap.size w (q8 w) := h7.alloc h7.size _
  have h9 : Below w.heap.size w (q9 w) := h8.alloc h8.size _
  exact h9
theorem q9_at0 (w : World) : Bx (q9 w) (w.heap.size) #[.int .i64 6, .int .i64 0, .int .i64 26, .int .i64 0, .int .i64 33, .int .i64 0] 57 := bx_al (bx_al (bx_al (bx_al (bx_al (bx_al (bx_al (bx_al (bx_at w #[.int .i64 6, .int .i64 0, .int .i64 26, .int .i64 0, .int .i64 33, .int .i64 0] 57 (w.heap.size) (rfl)) _) _) _) _) _) _) _) _
theorem q9_at2 (w : World) : Bx (q9 w) (w.heap.size + 1 + 1) #[.int .i64 4, .int .i64 0, .string ⟨#[65]⟩, .string ⟨#[120]⟩, .string ⟨#[73]⟩] 59 := bx_al (bx_al (bx_al (bx_al (bx_al (bx_al (bx_at (q2 w) #[.int .i64 4, .int .i64 0, .string ⟨#[65]⟩, .string ⟨#[120]⟩, .string ⟨#[73]⟩] 59 (w.heap.size + 1 + 1) (q2_size w)) _) _) _) _) _) _
theorem q9_at3 (w : World) : Bx (q9 w) (w.heap.size + 1 + 1 + 1) #[.string ⟨#[120]⟩, .string ⟨#[73]⟩] 61 := bx_al (bx_al (bx_al (bx_al (bx_al (bx_at (q3 w) #[.string ⟨#[120]⟩, .string ⟨#[73]⟩] 61 (w.heap.size + 1 + 1 + 1) (q3_size w)) _) _) _) _) _
theorem q9_at4 (w : World) : Bx (q9 w) (w.heap.size + 1 + 1 + 1 + 1) #[.string ⟨#[109]⟩, .string ⟨#[40, 41, 73]⟩, .int .i64 1, .slice (some ⟨w.heap.size, 0, none⟩) 3 3, .slice none 0 0] 55 := bx_al (bx_al (bx_al (bx_al (bx_at (q4 w) #[.string ⟨#[109]⟩, .string ⟨#[40, 41, 73]⟩, .int .i64 1, .slice (some ⟨w.heap.size, 0, none⟩) 3 3, .slice none 0 0] 55 (w.heap.size + 1 + 1 + 1 + 1) (q4_size w)) _) _) _) _
theorem q9_at5 (w : World) : Bx (q9 w) (w.heap.size + 1 + 1 + 1 + 1 + 1) #[.string ⟨#[65]⟩, .string ⟨#[79, 98, 106, 101, 99, 116]⟩, .slice (some ⟨w.heap.size + 1 + 1, 0, none⟩) 1 1, .slice (some ⟨w.heap.size + 1 + 1 + 1, 0, none⟩) 1 1, .slice (some ⟨w.heap.size + 1 + 1 + 1 + 1, 0, none⟩) 1 1] 43 := bx_al (bx_al (bx_al (bx_at (q5 w) #[.string ⟨#[65]⟩, .string ⟨#[79, 98, 106, 101, 99, 116]⟩, .slice (some ⟨w.heap.size + 1 + 1, 0, none⟩) 1 1, .slice (some ⟨w.heap.size + 1 + 1 + 1, 0, none⟩) 1 1, .slice (some ⟨w.heap.size + 1 + 1 + 1 + 1, 0, none⟩) 1 1] 43 (w.heap.size + 1 + 1 + 1 + 1 + 1) (q5_size w)) _) _) _
theorem q9_at6 (w : World) : Bx (q9 w) (w.heap.size + 1 + 1 + 1 + 1 + 1 + 1) #[.string ⟨#[65]⟩, .string ⟨#[79, 98, 106, 101, 99, 116]⟩, .slice (some ⟨w.heap.size + 1 + 1, 0, none⟩) 1 1, .slice (some ⟨w.heap.size + 1 + 1 + 1 + 1 + 1 + 1 + 1, 0, none⟩) 2 2, .slice (some ⟨w.heap.size + 1 + 1 + 1 + 1, 0, none⟩) 1 1] 43 := bx_al (bx_al (bx_at (q6 w) #[.string ⟨#[65]⟩, .string ⟨#[79, 98, 106, 101, 99, 116]⟩, .slice (some ⟨w.heap.size + 1 + 1, 0, none⟩) 1 1, .slice (some ⟨w.heap.size + 1 + 1 + 1 + 1 + 1 + 1 + 1, 0, none⟩) 2 2, .slice (some ⟨w.heap.size + 1 + 1 + 1 + 1, 0, none⟩) 1 1] 43 (w.heap.size + 1 + 1 + 1 + 1 + 1 + 1) (q6_size w)) _) _
theorem q9_at7 (w : World) : Bx (q9 w) (w.heap.size + 1 + 1 + 1 + 1 + 1 + 1 + 1) #[.string ⟨#[120]⟩, .string ⟨#[73]⟩, .string ⟨#[121]⟩, .string ⟨#[73]⟩] 61 := bx_al (bx_at (q7 w) #[.string ⟨#[120]⟩, .string ⟨#[73]⟩, .string ⟨#[121]⟩, .string ⟨#[73]⟩] 61 (w.heap.size + 1 + 1 + 1 + 1 + 1 + 1 + 1) (q7_size w)) _
theorem q9_at8 (w : World) : Bx (q9 w) (w.heap.size + 1 + 1 + 1 + 1 + 1 + 1 + 1 + 1) #[.string ⟨#[65]⟩, .string ⟨#[79, 98, 106, 101, 99, 116]⟩, .slice (some ⟨w.heap.size + 1 + 1, 0, none⟩) 1 1, .slice (some ⟨w.heap.size + 1 + 1 + 1, 0, none⟩) 1 1, .slice (some ⟨w.heap.size + 1 + 1 + 1 + 1, 0, none⟩) 1 1] 43 := bx_at (q8 w) #[.string ⟨#[65]⟩, .string ⟨#[79, 98, 106, 101, 99, 116]⟩, .slice (some ⟨w.heap.size + 1 + 1, 0, none⟩) 1 1, .slice (some ⟨w.heap.size + 1 + 1 + 1, 0, none⟩) 1 1, .slice (some ⟨w.heap.size + 1 + 1 + 1 + 1, 0, none⟩) 1 1] 43 (w.heap.size + 1 + 1 + 1 + 1 + 1 + 1 + 1 + 1) (q8_size w)
theorem mD_is {W : World} {s : Nat} (hs : Bx W s #[.int .i64 6, .int .i64 0, .int .i64 26, .int .i64 0, .int .i64 33, .int .i64 0] 57) : (mD s).is W :=
  ⟨by show fitI 1; unfold fitI; omega, ⟨rfl, Nat.le_refl _, by show 3 ≤ maxLen; unfold maxLen; omega, rds_bx hs, by
    intro x hx
    simp only [mD, List.mem_cons, List.not_mem_nil, or_false] at hx
    rcases hx with rfl | rfl | rfl <;> (refine ⟨?_, ?_⟩ <;> (unfold fitI; simp))⟩, ⟨rfl, Nat.le_refl _, by unfold maxLen; simp [mD], .inl rfl, by simp [mD]⟩⟩
theorem cD_is {W : World} {k : Nat} (hs : Bx W k #[.int .i64 4, .int .i64 0, .string ⟨#[65]⟩, .string ⟨#[120]⟩, .string ⟨#[73]⟩] 59) : IsCsts W (some ⟨k, 0, none⟩) 1 1 [cD] :=
  ⟨rfl, Nat.le_refl _, by unfold maxLen; omega, rds_bx hs, by
    intro x hx
    simp only [List.mem_singleton] at hx
    subst hx
    simp only [cD]
    refine ⟨?_, ?_⟩ <;> (unfold fitI; simp)⟩
theorem mD_in {W : World} {s m : Nat} (hs : Bx W s #[.int .i64 6, .int .i64 0, .int .i64 26, .int .i64 0, .int .i64 33, .int .i64 0] 57) (hm : Bx W m #[.string ⟨#[109]⟩, .string ⟨#[40, 41, 73]⟩, .int .i64 1, .slice (some ⟨s, 0, none⟩) 3 3, .slice none 0 0] 55) : IsMths W (some ⟨m, 0, none⟩) 1 1 [mD s] :=
  ⟨rfl, Nat.le_refl _, by unfold maxLen; omega, rds_bx hm, by
    intro x hx
    simp only [List.mem_singleton] at hx
    subst hx
    exact mD_is hs⟩
theorem aD_is {W : World} {s k f m : Nat} (hs : Bx W s #[.int .i64 6, .int .i64 0, .int .i64 26, .int .i64 0, .int .i64 33, .int .i64 0] 57) (hk : Bx W k #[.int .i64 4, .int .i64 0, .string ⟨#[65]⟩, .string ⟨#[120]⟩, .string ⟨#[73]⟩] 59) (hf : Bx W f #[.string ⟨#[120]⟩, .string ⟨#[73]⟩] 61) (hm : Bx W m #[.string ⟨#[109]⟩, .string ⟨#[40, 41, 73]⟩, .int .i64 1, .slice (some ⟨s, 0, none⟩) 3 3, .slice none 0 0] 55) : (aD s k f m).is W :=
  ⟨cD_is hk, ⟨rfl, Nat.le_refl _, by show 1 ≤ maxLen; unfold maxLen; omega, rds_bx hf⟩, mD_in hs hm⟩
theorem bD_is {W : World} {s k f m : Nat} (hs : Bx W s #[.int .i64 6, .int .i64 0, .int .i64 26, .int .i64 0, .int .i64 33, .int .i64 0] 57) (hk : Bx W k #[.int .i64 4, .int .i64 0, .string ⟨#[65]⟩, .string ⟨#[120]⟩, .string ⟨#[73]⟩] 59) (hf : Bx W f #[.string ⟨#[120]⟩, .string ⟨#[73]⟩, .string ⟨#[121]⟩, .string ⟨#[73]⟩] 61) (hm : Bx W m #[.string ⟨#[109]⟩, .string ⟨#[40, 41, 73]⟩, .int .i64 1, .slice (some ⟨s, 0, none⟩) 3 3, .slice none 0 0] 55) : (bD s k f m).is W :=
  ⟨cD_is hk, ⟨rfl, Nat.le_refl _, by show 2 ≤ maxLen; unfold maxLen; omega, rds_bx hf⟩, mD_in hs hm⟩
theorem mD_lt (s : Nat) : MthT.lt (mD s) := ⟨by simp [mD], by simp [mD], by simp [mD]⟩
theorem aD_lt (s k f m : Nat) : ClsT.lt (aD s k f m) := ⟨by simp [aD], by simp [aD], by simp [aD, cD, CstT.lt], by simp [aD, FldT.lt], by simp [aD]; exact mD_lt s⟩
theorem bD_lt (s k f m : Nat) : ClsT.lt (bD s k f m) := ⟨by simp [bD], by simp [bD], by simp [bD, cD, CstT.lt], by simp [bD, FldT.lt], by simp [bD]; exact mD_lt s⟩

theorem findP_cons {α : Type} (p : α → Bool) (x : α) (r : List α) : findP p (x :: r) = if p x = true then 0 else if findP p r = -1 then -1 else findP p r + 1 := rfl
theorem findP_map {α β : Type} (p : β → Bool) (f : α → β) : ∀ l : List α, findP p (l.map f) = findP (fun x => p (f x)) l
  | [] => rfl
  | x :: r => by
    show findP p (f x :: r.map f) = _
    rw [findP_cons, findP_cons, findP_map p f r]
/-- whether a class of that name has a field of its own of that name -/
def ownN (L : List ClsT) (nm d : T) : Bool := decide (0 ≤ findP (nameF nm) (keptC d L).fields)
theorem ownC_alike {x y : ClsT} (h : TabV.bareC x = TabV.bareC y) (nm : T) : (ownC x nm).consts = (ownC y nm).consts ∧ (ownP x nm).1.pure = (ownP y nm).1.pure := by
  have hp := pure_of h
  have hf0 : ∀ l : List MthT, findP (nameM nm) l = findP (fun p : MthP => p.name == nm) (l.map MthT.pure) := fun l => (findP_map (fun p : MthP => p.name == nm) MthT.pure l).symm
  have hf : findP (nameM nm) y.meths = findP (nameM nm) x.meths := by rw [hf0, hf0, hp]
  have hl : x.meths.length = y.meths.length := by have := congrArg List.length hp; simpa using this
  have h1 : (ownP x nm).2 = (ownP y nm).2 ∧ (ownP x nm).1.pure = (ownP y nm).1.pure := by
    rcases findP_cases (nameM nm) x.meths with h1 | ⟨j, hj, h1⟩
    · rw [own_no_ h1, own_no_ (hf.trans h1)]; exact ⟨rfl, rfl⟩
    · have hj2 : j < y.meths.length := by omega
      rw [own_yes hj h1, own_yes hj2 (hf.trans h1)]
      refine ⟨rfl, ?_⟩
      have h2 := congrArg (fun l : List MthP => l[j]?) hp
      simp [hj, hj2] at h2
      exact h2
  refine ⟨?_, h1.2⟩
  unfold ownC
  rw [h1.1]
  split
  · have e := congrArg ClsT.consts h
    exact e
  · rfl
theorem kept_alike {C L : List ClsT} (hb : C.map TabV.bareC = L.map TabV.bareC) (q : T) : TabV.bareC (keptC q C) = TabV.bareC (keptC q L) := by
  rw [← DlC.kept_bare, ← DlC.kept_bare, hb]
theorem good_alike {C L : List ClsT} (hb : C.map TabV.bareC = L.map TabV.bareC) (hz : ∀ x ∈ L, clsE x = 0) (hl : ∀ x ∈ L, ClsT.lt x) (q nm : T) : GoodM (ownC (keptC q C) nm) (ownP (keptC q C) nm).1 := by
  have hg := good_of hz hl q nm
  have h1 := ownC_alike (kept_alike hb q) nm
  have e6 := congrArg MthP.code h1.2
  have e7 := congrArg MthP.hand h1.2
  simp only [MthT.pure] at e6 e7
  exact ⟨by rw [e6]; exact hg.code, by rw [e7]; exact hg.hand, by rw [e6, h1.1]; exact hg.used, by rw [h1.1]; exact hg.lt⟩
theorem chL_alike {C L D M : List ClsT} (h1 : C.map TabV.bareC = L.map TabV.bareC) (h2 : D.map TabV.bareC = M.map TabV.bareC) (ns : List T) (has : T → Bool) : chL ns has C D = chL ns has L M := by
  unfold chL chg
  rw [hav_alike h1, hav_alike h2]
theorem layL_alike {C L D M : List ClsT} (h1 : C.map TabV.bareC = L.map TabV.bareC) (h2 : D.map TabV.bareC = M.map TabV.bareC) (ns : List T) (has : T → Bool) : layL ns has C D = layL ns has L M := by
  unfold layL layF
  rw [hav_alike h1, hav_alike h2]
theorem own1 {w : World} {base : Nat} {v : Value} {k : T × T} (h : OwnKy w base v [k]) : ∃ b o c, v = .slice (some ⟨b, o, none⟩) 1 c ∧ b < w.heap.size ∧ w.cell? ⟨b, o, none⟩ = some (.string ⟨k.1.toArray⟩) ∧ w.cell? ⟨b, o + 1, none⟩ = some (.string ⟨k.2.toArray⟩) := by
  obtain ⟨A, c, rfl, _, _, _, _⟩ := own_slice h
  rcases Rds.ownN h with h1 | ⟨b, o, rfl, hb, hc⟩
  · cases h1
  · exact ⟨b, o, c, rfl, hb, hc 0 _ rfl, hc 1 _ rfl⟩
theorem ownT1 {w : World} {base : Nat} {v : Value} {k : T} (h : OwnT w base v [k]) : ∃ b o c, v = .slice (some ⟨b, o, none⟩) 1 c ∧ b < w.heap.size ∧ w.cell? ⟨b, o, none⟩ = some (.string ⟨k.toArray⟩) := by
  obtain ⟨A, c, rfl, _, _, _, _⟩ := own_slice h
  rcases Rds.ownN h with h1 | ⟨b, o, rfl, hb, hc⟩
  · cases h1
  · exact ⟨b, o, c, rfl, hb, hc 0 _ rfl⟩
set_option maxRecDepth 100000 in
set_option maxHeartbeats 8000000 in
theorem known_any (w : World) (hL : InsA.Laid w) : Calls Tryz.prog 6 #[] w fun e w' => e = .returned (.bool true) ∧ Below w.heap.size w w' := by
  have hB9 := q9_below w
  have hL9 := hL.below hB9 hL.1
  have HN1 := Lib.hid (TabO.new_any (some ⟨w.heap.size + 1 + 1 + 1 + 1 + 1 + 1 + 1 + 1, 0, none⟩) [aD w.heap.size (w.heap.size + 1 + 1) (w.heap.size + 1 + 1 + 1) (w.heap.size + 1 + 1 + 1 + 1)] 1 1 (q9 w) rfl (rds_bx (q9_at8 w)) (by
    intro x hx
    simp only [List.mem_singleton] at hx
    subst hx
    exact ⟨aD_is (q9_at0 w) (q9_at2 w) (q9_at3 w) (q9_at4 w), aD_lt _ _ _ _⟩) hL9)
  have HB9 := Lib.hid hB9
  have HL9 := Lib.hid hL9
  clear hL hB9 hL9
  have X0 := Lib.hid (q9_at0 w)
  have X2 := Lib.hid (q9_at2 w)
  have X3 := Lib.hid (q9_at3 w)
  have X4 := Lib.hid (q9_at4 w)
  have X5 := Lib.hid (q9_at5 w)
  have X6 := Lib.hid (q9_at6 w)
  have X7 := Lib.hid (q9_at7 w)
  go_enter Tryz.func6, Tryz.ntmps6
  go_wp2_with fail
  refine HN1.out.mono ?_
  rintro e w1 ⟨hb1, hor⟩
  have B1 := Lib.hid (HB9.out.trans (hb1.mono HB9.out.size))
  have y0 := X0.out.after hb1
  have y2 := X2.out.after hb1
  have y3 := X3.out.after hb1
  have y4 := X4.out.after hb1
  have y5 := X5.out.after hb1
  have y6 := X6.out.after hb1
  have y7 := X7.out.after hb1
  have L1 := HL9.out.below hb1 HL9.out.1
  have z0 := bx_al y0 (.cells #[.string ⟨#[65]⟩, .string ⟨#[79, 98, 106, 101, 99, 116]⟩, .slice (some ⟨w.heap.size + 1 + 1, 0, none⟩) 1 1, .slice (some ⟨w.heap.size + 1 + 1 + 1 + 1 + 1 + 1 + 1, 0, none⟩) 2 2, .slice (some ⟨w.heap.size + 1 + 1 + 1 + 1, 0, none⟩) 1 1] 43)
  have z2 := bx_al y2 (.cells #[.string ⟨#[65]⟩, .string ⟨#[79, 98, 106, 101, 99, 116]⟩, .slice (some ⟨w.heap.size + 1 + 1, 0, none⟩) 1 1, .slice (some ⟨w.heap.size + 1 + 1 + 1 + 1 + 1 + 1 + 1, 0, none⟩) 2 2, .slice (some ⟨w.heap.size + 1 + 1 + 1 + 1, 0, none⟩) 1 1] 43)
  have z3 := bx_al y3 (.cells #[.string ⟨#[65]⟩, .string ⟨#[79, 98, 106, 101, 99, 116]⟩, .slice (some ⟨w.heap.size + 1 + 1, 0, none⟩) 1 1, .slice (some ⟨w.heap.size + 1 + 1 + 1 + 1 + 1 + 1 + 1, 0, none⟩) 2 2, .slice (some ⟨w.heap.size + 1 + 1 + 1 + 1, 0, none⟩) 1 1] 43)
  have z4 := bx_al y4 (.cells #[.string ⟨#[65]⟩, .string ⟨#[79, 98, 106, 101, 99, 116]⟩, .slice (some ⟨w.heap.size + 1 + 1, 0, none⟩) 1 1, .slice (some ⟨w.heap.size + 1 + 1 + 1 + 1 + 1 + 1 + 1, 0, none⟩) 2 2, .slice (some ⟨w.heap.size + 1 + 1 + 1 + 1, 0, none⟩) 1 1] 43)
  have z5 := bx_al y5 (.cells #[.string ⟨#[65]⟩, .string ⟨#[79, 98, 106, 101, 99, 116]⟩, .slice (some ⟨w.heap.size + 1 + 1, 0, none⟩) 1 1, .slice (some ⟨w.heap.size + 1 + 1 + 1 + 1 + 1 + 1 + 1, 0, none⟩) 2 2, .slice (some ⟨w.heap.size + 1 + 1 + 1 + 1, 0, none⟩) 1 1] 43)
  have z6 := bx_al y6 (.cells #[.string ⟨#[65]⟩, .string ⟨#[79, 98, 106, 101, 99, 116]⟩, .slice (some ⟨w.heap.size + 1 + 1, 0, none⟩) 1 1, .slice (some ⟨w.heap.size + 1 + 1 + 1 + 1 + 1 + 1 + 1, 0, none⟩) 2 2, .slice (some ⟨w.heap.size + 1 + 1 + 1 + 1, 0, none⟩) 1 1] 43)
  have z7 := bx_al y7 (.cells #[.string ⟨#[65]⟩, .string ⟨#[79, 98, 106, 101, 99, 116]⟩, .slice (some ⟨w.heap.size + 1 + 1, 0, none⟩) 1 1, .slice (some ⟨w.heap.size + 1 + 1 + 1 + 1 + 1 + 1 + 1, 0, none⟩) 2 2, .slice (some ⟨w.heap.size + 1 + 1 + 1 + 1, 0, none⟩) 1 1] 43)
  have z8 := bx_at w1 #[.string ⟨#[65]⟩, .string ⟨#[79, 98, 106, 101, 99, 116]⟩, .slice (some ⟨w.heap.size + 1 + 1, 0, none⟩) 1 1, .slice (some ⟨w.heap.size + 1 + 1 + 1 + 1 + 1 + 1 + 1, 0, none⟩) 2 2, .slice (some ⟨w.heap.size + 1 + 1 + 1 + 1, 0, none⟩) 1 1] 43 w1.heap.size rfl
  have hbz := (Below.refl w1.heap.size w1).alloc (Nat.le_refl _) (.cells #[.string ⟨#[65]⟩, .string ⟨#[79, 98, 106, 101, 99, 116]⟩, .slice (some ⟨w.heap.size + 1 + 1, 0, none⟩) 1 1, .slice (some ⟨w.heap.size + 1 + 1 + 1 + 1 + 1 + 1 + 1, 0, none⟩) 2 2, .slice (some ⟨w.heap.size + 1 + 1 + 1 + 1, 0, none⟩) 1 1] 43)
  have HZ := Lib.hid (And.intro z0 (And.intro z2 (And.intro z3 (And.intro z4 (And.intro z5 (And.intro z6 z7))))))
  have HBz := Lib.hid hbz
  have HLz := Lib.hid (L1.below hbz L1.1)
  have HN2 := Lib.hid (TabO.new_any (some ⟨w1.heap.size, 0, none⟩) [bD w.heap.size (w.heap.size + 1 + 1) (w.heap.size + 1 + 1 + 1 + 1 + 1 + 1 + 1) (w.heap.size + 1 + 1 + 1 + 1)] 1 1 (w1.alloc (.cells #[.string ⟨#[65]⟩, .string ⟨#[79, 98, 106, 101, 99, 116]⟩, .slice (some ⟨w.heap.size + 1 + 1, 0, none⟩) 1 1, .slice (some ⟨w.heap.size + 1 + 1 + 1 + 1 + 1 + 1 + 1, 0, none⟩) 2 2, .slice (some ⟨w.heap.size + 1 + 1 + 1 + 1, 0, none⟩) 1 1] 43)) rfl (rds_bx z8) (by
    intro x hx
    simp only [List.mem_singleton] at hx
    subst hx
    exact ⟨bD_is z0 z2 z7 z4, bD_lt _ _ _ _⟩) HLz.out)
  have c0 := y6.cell 0
  have c1 := y6.cell 1
  have c2 := y6.cell 2
  have c3 := y6.cell 3
  have c4 := y6.cell 4
  clear z0 z2 z3 z4 z5 z6 z7 z8 hbz L1 y0 y2 y3 y4 y5 y6 y7 X0 X2 X3 X4 X5 X6 X7
  have e6 : w.heap.size + 1 + 1 + 1 + 1 + 1 + 1 < w1.heap.size := by have := hb1.size; rw [q9_size] at this; omega
  rcases hor with ⟨_, lo, t, g, mb, n, A, c, C, f, rfl, hlo, hTa, hTot, hbare, _, hz⟩ | ⟨hne, _⟩
  · have HT1 := Lib.hid (And.intro hTa (And.intro hTot (And.intro hbare hz)))
    have HO1 := Lib.hid hlo
    clear hTa hTot hbare hz hlo hb1
    go_wp2_with fail
    refine HN2.out.mono ?_
    rintro e w2 ⟨hb2, hor⟩
    have B2 := Lib.hid (HBz.out.trans (hb2.mono HBz.out.size))
    rcases hor with ⟨_, lo2, t2, g2, mb2, n2, A2, k2, C2, f2, rfl, hlo2, hTa2, hTot2, hbare2, _, hz2⟩ | ⟨hne, _⟩
    · have HC := Lib.hid HT1.out.2.2.1
      have HC2 := Lib.hid hbare2
      have T1 := HT1.out.1.ext B2.out
      have l1 : C.length = 1 := by have := congrArg List.length HC.out; simpa using this
      have l2 : C2.length = 1 := by have := congrArg List.length hbare2; simpa using this
      have ht1 := HT1.out.2.1
      have hf1 := few_of HC.out HT1.out.2.2.2
      have hs1 := short_of HC.out HT1.out.2.2.2
      have hf2 := few_of hbare2 hz2
      have hs2 := short_of hbare2 hz2
      have hg1 := good_alike HC.out HT1.out.2.2.2 (by intro x hx; simp only [List.mem_singleton] at hx; subst hx; exact aD_lt _ _ _ _)
      have hnm := names_short w.heap.size (w.heap.size + 1 + 1) (w.heap.size + 1 + 1 + 1) (w.heap.size + 1 + 1 + 1 + 1)
      have L2 := HLz.out.below hb2 HLz.out.1
      have HD := Lib.hid (held_any T1 ht1 hf1 (by omega) hs1 hTa2 hTot2 hf2 (by omega) hs2 hnm L2 hg1)
      have HY := Lib.hid (fun W (hb : Below w2.heap.size w2 W) => layouts_any (T1.ext hb) ht1 hf1 (hTa2.ext hb) hTot2 hf2 hnm)
      have hLy : layL (mk (pairs [aD w.heap.size (w.heap.size + 1 + 1) (w.heap.size + 1 + 1 + 1) (w.heap.size + 1 + 1 + 1 + 1)])).names (mk (pairs [bD w.heap.size (w.heap.size + 1 + 1) (w.heap.size + 1 + 1 + 1 + 1 + 1 + 1 + 1) (w.heap.size + 1 + 1 + 1 + 1)])).has C C2 = [[65]] := by
        rw [layL_alike HC.out hbare2]
        exact lay_ab w.heap.size (w.heap.size + 1 + 1) (w.heap.size + 1 + 1 + 1) (w.heap.size + 1 + 1 + 1 + 1) (w.heap.size + 1 + 1 + 1 + 1 + 1 + 1 + 1)
      rw [hLy] at HY
      have HLw := Lib.hid L2
      have HZ2 := Lib.hid (And.intro (HZ.out.1.after hb2) (And.intro (HZ.out.2.1.after hb2) (And.intro (HZ.out.2.2.1.after hb2) (And.intro (HZ.out.2.2.2.1.after hb2) (And.intro (HZ.out.2.2.2.2.1.after hb2) (And.intro (HZ.out.2.2.2.2.2.1.after hb2) (HZ.out.2.2.2.2.2.2.after hb2)))))))
      have E2 := Lib.hid (B1.out.trans (B2.out.mono B1.out.size))
      clear hb2 hTa2 hTot2 hbare2 hz2 T1 ht1 hf1 hs1 hf2 hs2 hg1 hnm L2 hLy l1 l2 hlo2 c0 c1 c2 c3 c4 HN2 HN1 HT1 HB9 HL9 HZ HBz HLz e6
      go_wp2_with fail
      refine HD.out.mono ?_
      rintro e w3 ⟨v3, D3, rfl, hd3, ho3, hb3⟩
      rw [chL_alike HC.out HC2.out, held_same HC.out HC2.out (hd3.trans HC.out), ch_ab w.heap.size (w.heap.size + 1 + 1) (w.heap.size + 1 + 1 + 1) (w.heap.size + 1 + 1 + 1 + 1) (w.heap.size + 1 + 1 + 1 + 1 + 1 + 1 + 1), held_ab w.heap.size (w.heap.size + 1 + 1) (w.heap.size + 1 + 1 + 1) (w.heap.size + 1 + 1 + 1 + 1) (w.heap.size + 1 + 1 + 1 + 1 + 1 + 1 + 1)] at ho3
      obtain ⟨p3, o3, k3, rfl, hl3, d0, d1⟩ := own1 ho3
      have G3 := Lib.hid hb3
      have K3 := Lib.hid (And.intro hl3 (And.intro d0 d1))
      clear ho3 hb3 hl3 d0 d1 hd3
      go_wp2_with fail
      refine (HY.out _ G3.out).mono ?_
      rintro e w4 ⟨v4, rfl, ho4, hb4⟩
      obtain ⟨p4, o4, k4, rfl, hl4, d4⟩ := ownT1 ho4
      have hl3 := K3.out.1
      have d0 := (hb4.cell (p := ⟨p3, o3, none⟩) hl3).trans K3.out.2.1
      have d1 := (hb4.cell (p := ⟨p3, o3 + 1, none⟩) hl3).trans K3.out.2.2
      have G4 := Lib.hid (G3.out.trans (hb4.mono G3.out.size))
      have E4 := Lib.hid (E2.out.trans (G4.out.mono E2.out.size))
      have x5 := HZ2.out.2.2.2.2.1.after G4.out
      have x6 := HZ2.out.2.2.2.2.2.1.after G4.out
      have a0 := x5.cell 0
      have a1 := x5.cell 1
      have a2 := x5.cell 2
      have a3 := x5.cell 3
      have a4 := x5.cell 4
      have c0 := x6.cell 0
      have c1 := x6.cell 1
      have c2 := x6.cell 2
      have c3 := x6.cell 3
      have c4 := x6.cell 4
      have HS := Lib.hid (same_any (aD w.heap.size (w.heap.size + 1 + 1) (w.heap.size + 1 + 1 + 1) (w.heap.size + 1 + 1 + 1 + 1)) [109] (bD w.heap.size (w.heap.size + 1 + 1) (w.heap.size + 1 + 1 + 1 + 1 + 1 + 1 + 1) (w.heap.size + 1 + 1 + 1 + 1)) [109] w4 (aD_is (HZ2.out.1.after G4.out) (HZ2.out.2.1.after G4.out) (HZ2.out.2.2.1.after G4.out) (HZ2.out.2.2.2.1.after G4.out)) (bD_is (HZ2.out.1.after G4.out) (HZ2.out.2.1.after G4.out) (HZ2.out.2.2.2.2.2.2.after G4.out) (HZ2.out.2.2.2.1.after G4.out)) (HLw.out.below G4.out HLw.out.1) (by intro z hz; simp only [aD, List.mem_singleton] at hz; subst hz; simp [mD]) (by intro z hz; simp only [bD, List.mem_singleton] at hz; subst hz; simp [mD]))
      rw [same_ab w.heap.size (w.heap.size + 1 + 1) (w.heap.size + 1 + 1 + 1) (w.heap.size + 1 + 1 + 1 + 1) (w.heap.size + 1 + 1 + 1 + 1 + 1 + 1 + 1)] at HS
      clear ho4 hb4 x5 x6
      go_wp2_with fail
      refine HS.out.mono ?_
      rintro e w5 ⟨rfl, hb5⟩
      have E5 := Lib.hid (E4.out.trans (hb5.mono E4.out.size))
      clear hb5
      go_wp2_with fail
      go_ret
      exact ⟨rfl, E5.out⟩
    · exact absurd (by rw [why_bD]) hne
  · exact absurd (by rw [why_a]) hne
end DlK
end Go.Proofs.YtiagjnimafdbhaaGreatDoor
