/-
  The base of law 9: four classes, laid in memory; both tables of them.
-/
import Derived.Test.YtdebambmcjcopaaGreatDoorTabL
import Derived.Test.YtdebambmcjcopaaGreatDoorTabO
import Derived.Test.YtdebambmcjcopaaGreatDoorOpenC
namespace Go.Proofs.YtdebambmcjcopaaGreatDoor
namespace KndB
open Go.RowKit Base BinM Stru DescM DescW DescX DescS DescG DescP DescQ HierS HierT HierM HierC HierD HierN HierV HierR HierU HierY Kls KlsP KlsQ OpenK TabC TabM TabK TabP TabE TabB TabG TabH TabT TabU TabV TabX TabW TabF TabN TabO TabY TabR TabQ TabL TabZ

def p1 (w : World) : World := (w).alloc (.cells #[.int .i64 34, .int .i64 0] 40)
def p2 (w : World) : World := ((p1 w)).alloc (.cells #[.string ⟨#[114, 117, 110]⟩, .string ⟨#[40, 41, 86]⟩, .int .i64 1, .slice (some ⟨w.heap.size, 0, none⟩) 1 1, .slice none 0 0] 25)
def p3 (w : World) : World := ((p2 w)).alloc (.cells #[.int .i64 6, .int .i64 1, .int .i64 33, .int .i64 0] 40)
def p4 (w : World) : World := ((p3 w)).alloc (.cells #[.string ⟨#[109]⟩, .string ⟨#[40, 73, 41, 73]⟩, .int .i64 2, .slice (some ⟨w.heap.size + 1 + 1, 0, none⟩) 2 2, .slice none 0 0] 25)
def p5 (w : World) : World := ((p4 w)).alloc (.cells #[.string ⟨#[120]⟩, .string ⟨#[73]⟩, .string ⟨#[121]⟩, .string ⟨#[76, 65, 59]⟩] 101)
def p6 (w : World) : World := ((p5 w)).alloc (.cells #[.string ⟨#[109]⟩, .string ⟨#[40, 73, 41, 73]⟩, .int .i64 2, .slice (some ⟨w.heap.size + 1 + 1, 0, none⟩) 2 2, .slice none 0 0] 25)
def p7 (w : World) : World := ((p6 w)).alloc (.cells #[.string ⟨#[114, 117, 110]⟩, .string ⟨#[40, 41, 86]⟩, .int .i64 1, .slice (some ⟨w.heap.size, 0, none⟩) 1 1, .slice none 0 0] 25)
def p8 (w : World) : World := ((p7 w)).alloc (.cells #[.string ⟨#[65]⟩, .string ⟨#[79, 98, 106, 101, 99, 116]⟩, .slice none 0 0, .slice (some ⟨w.heap.size + 1 + 1 + 1 + 1, 0, none⟩) 2 2, .slice (some ⟨w.heap.size + 1 + 1 + 1 + 1 + 1, 0, none⟩) 1 1, .string ⟨#[66]⟩, .string ⟨#[65]⟩, .slice none 0 0, .slice none 0 0, .slice (some ⟨w.heap.size + 1 + 1 + 1 + 1 + 1 + 1, 0, none⟩) 1 1, .string ⟨#[67]⟩, .string ⟨#[65]⟩, .slice none 0 0, .slice none 0 0, .slice none 0 0, .string ⟨#[69]⟩, .string ⟨#[69, 120, 99]⟩, .slice none 0 0, .slice none 0 0, .slice none 0 0] 92)
theorem p1_size (w : World) : (p1 w).heap.size = w.heap.size + 1 := by unfold p1; simp
theorem p2_size (w : World) : (p2 w).heap.size = w.heap.size + 1 + 1 := by unfold p2; simp [p1_size]
theorem p3_size (w : World) : (p3 w).heap.size = w.heap.size + 1 + 1 + 1 := by unfold p3; simp [p2_size]
theorem p4_size (w : World) : (p4 w).heap.size = w.heap.size + 1 + 1 + 1 + 1 := by unfold p4; simp [p3_size]
theorem p5_size (w : World) : (p5 w).heap.size = w.heap.size + 1 + 1 + 1 + 1 + 1 := by unfold p5; simp [p4_size]
theorem p6_size (w : World) : (p6 w).heap.size = w.heap.size + 1 + 1 + 1 + 1 + 1 + 1 := by unfold p6; simp [p5_size]
theorem p7_size (w : World) : (p7 w).heap.size = w.heap.size + 1 + 1 + 1 + 1 + 1 + 1 + 1 := by unfold p7; simp [p6_size]
theorem p8_size (w : World) : (p8 w).heap.size = w.heap.size + 1 + 1 + 1 + 1 + 1 + 1 + 1 + 1 := by unfold p8; simp [p7_size]
theorem p8_below (w : World) : Below w.heap.size w (p8 w) := by
  have h0 := Below.refl w.heap.size w
  have h1 : Below w.heap.size w (p1 w) := h0.alloc (by omega) _
  have h2 : Below w.heap.size w (p2 w) := h1.alloc (by rw [p1_size]; omega) _
  have h3 : Below w.heap.size w (p3 w) := h2.alloc (by rw [p2_size]; omega) _
  have h4 : Below w.heap.size w (p4 w) := h3.alloc (by rw [p3_size]; omega) _
  have h5 : Below w.heap.size w (p5 w) := h4.alloc (by rw [p4_size]; omega) _
  have h6 : Below w.heap.size w (p6 w) := h5.alloc (by rw [p5_size]; omega) _
  have h7 : Below w.heap.size w (p7 w) := h6.alloc (by rw [p6_size]; omega) _
  have h8 : Below w.heap.size w (p8 w) := h7.alloc (by rw [p7_size]; omega) _
  exact h8
theorem p8_at0 (w : World) : Bx (p8 w) (w.heap.size) #[.int .i64 34, .int .i64 0] 40 := bx_al (bx_al (bx_al (bx_al (bx_al (bx_al (bx_al (bx_at w #[.int .i64 34, .int .i64 0] 40 (w.heap.size) (rfl)) _) _) _) _) _) _) _
theorem p8_at1 (w : World) : Bx (p8 w) (w.heap.size + 1) #[.string ⟨#[114, 117, 110]⟩, .string ⟨#[40, 41, 86]⟩, .int .i64 1, .slice (some ⟨w.heap.size, 0, none⟩) 1 1, .slice none 0 0] 25 := bx_al (bx_al (bx_al (bx_al (bx_al (bx_al (bx_at (p1 w) #[.string ⟨#[114, 117, 110]⟩, .string ⟨#[40, 41, 86]⟩, .int .i64 1, .slice (some ⟨w.heap.size, 0, none⟩) 1 1, .slice none 0 0] 25 (w.heap.size + 1) (p1_size w)) _) _) _) _) _) _
theorem p8_at2 (w : World) : Bx (p8 w) (w.heap.size + 1 + 1) #[.int .i64 6, .int .i64 1, .int .i64 33, .int .i64 0] 40 := bx_al (bx_al (bx_al (bx_al (bx_al (bx_at (p2 w) #[.int .i64 6, .int .i64 1, .int .i64 33, .int .i64 0] 40 (w.heap.size + 1 + 1) (p2_size w)) _) _) _) _) _
theorem p8_at3 (w : World) : Bx (p8 w) (w.heap.size + 1 + 1 + 1) #[.string ⟨#[109]⟩, .string ⟨#[40, 73, 41, 73]⟩, .int .i64 2, .slice (some ⟨w.heap.size + 1 + 1, 0, none⟩) 2 2, .slice none 0 0] 25 := bx_al (bx_al (bx_al (bx_al (bx_at (p3 w) #[.string ⟨#[109]⟩, .string ⟨#[40, 73, 41, 73]⟩, .int .i64 2, .slice (some ⟨w.heap.size + 1 + 1, 0, none⟩) 2 2, .slice none 0 0] 25 (w.heap.size + 1 + 1 + 1) (p3_size w)) _) _) _) _
theorem p8_at4 (w : World) : Bx (p8 w) (w.heap.size + 1 + 1 + 1 + 1) #[.string ⟨#[120]⟩, .string ⟨#[73]⟩, .string ⟨#[121]⟩, .string ⟨#[76, 65, 59]⟩] 101 := bx_al (bx_al (bx_al (bx_at (p4 w) #[.string ⟨#[120]⟩, .string ⟨#[73]⟩, .string ⟨#[121]⟩, .string ⟨#[76, 65, 59]⟩] 101 (w.heap.size + 1 + 1 + 1 + 1) (p4_size w)) _) _) _
theorem p8_at5 (w : World) : Bx (p8 w) (w.heap.size + 1 + 1 + 1 + 1 + 1) #[.string ⟨#[109]⟩, .string ⟨#[40, 73, 41, 73]⟩, .int .i64 2, .slice (some ⟨w.heap.size + 1 + 1, 0, none⟩) 2 2, .slice none 0 0] 25 := bx_al (bx_al (bx_at (p5 w) #[.string ⟨#[109]⟩, .string ⟨#[40, 73, 41, 73]⟩, .int .i64 2, .slice (some ⟨w.heap.size + 1 + 1, 0, none⟩) 2 2, .slice none 0 0] 25 (w.heap.size + 1 + 1 + 1 + 1 + 1) (p5_size w)) _) _
theorem p8_at6 (w : World) : Bx (p8 w) (w.heap.size + 1 + 1 + 1 + 1 + 1 + 1) #[.string ⟨#[114, 117, 110]⟩, .string ⟨#[40, 41, 86]⟩, .int .i64 1, .slice (some ⟨w.heap.size, 0, none⟩) 1 1, .slice none 0 0] 25 := bx_al (bx_at (p6 w) #[.string ⟨#[114, 117, 110]⟩, .string ⟨#[40, 41, 86]⟩, .int .i64 1, .slice (some ⟨w.heap.size, 0, none⟩) 1 1, .slice none 0 0] 25 (w.heap.size + 1 + 1 + 1 + 1 + 1 + 1) (p6_size w)) _
theorem p8_at7 (w : World) : Bx (p8 w) (w.heap.size + 1 + 1 + 1 + 1 + 1 + 1 + 1) #[.string ⟨#[65]⟩, .string ⟨#[79, 98, 106, 101, 99, 116]⟩, .slice none 0 0, .slice (some ⟨w.heap.size + 1 + 1 + 1 + 1, 0, none⟩) 2 2, .slice (some ⟨w.heap.size + 1 + 1 + 1 + 1 + 1, 0, none⟩) 1 1, .string ⟨#[66]⟩, .string ⟨#[65]⟩, .slice none 0 0, .slice none 0 0, .slice (some ⟨w.heap.size + 1 + 1 + 1 + 1 + 1 + 1, 0, none⟩) 1 1, .string ⟨#[67]⟩, .string ⟨#[65]⟩, .slice none 0 0, .slice none 0 0, .slice none 0 0, .string ⟨#[69]⟩, .string ⟨#[69, 120, 99]⟩, .slice none 0 0, .slice none 0 0, .slice none 0 0] 92 := bx_at (p7 w) #[.string ⟨#[65]⟩, .string ⟨#[79, 98, 106, 101, 99, 116]⟩, .slice none 0 0, .slice (some ⟨w.heap.size + 1 + 1 + 1 + 1, 0, none⟩) 2 2, .slice (some ⟨w.heap.size + 1 + 1 + 1 + 1 + 1, 0, none⟩) 1 1, .string ⟨#[66]⟩, .string ⟨#[65]⟩, .slice none 0 0, .slice none 0 0, .slice (some ⟨w.heap.size + 1 + 1 + 1 + 1 + 1 + 1, 0, none⟩) 1 1, .string ⟨#[67]⟩, .string ⟨#[65]⟩, .slice none 0 0, .slice none 0 0, .slice none 0 0, .string ⟨#[69]⟩, .string ⟨#[69, 120, 99]⟩, .slice none 0 0, .slice none 0 0, .slice none 0 0] 92 (w.heap.size + 1 + 1 + 1 + 1 + 1 + 1 + 1) (p7_size w)
def runM (s : Nat) : MthT := ⟨[114, 117, 110], [40, 41, 86], 1, some ⟨s, 0, none⟩, 1, 1, none, 0, 0, [(34, 0)], []⟩
def mM (s : Nat) : MthT := ⟨[109], [40, 73, 41, 73], 2, some ⟨s, 0, none⟩, 2, 2, none, 0, 0, [(6, 1), (33, 0)], []⟩
def clA (s f m : Nat) : ClsT := ⟨[65], [79, 98, 106, 101, 99, 116], none, 0, 0, some ⟨f, 0, none⟩, 2, 2, some ⟨m, 0, none⟩, 1, 1, [], [⟨[120], [73]⟩, ⟨[121], [76, 65, 59]⟩], [mM s]⟩
def clB (s m : Nat) : ClsT := ⟨[66], [65], none, 0, 0, none, 0, 0, some ⟨m, 0, none⟩, 1, 1, [], [], [runM s]⟩
def clC : ClsT := ⟨[67], [65], none, 0, 0, none, 0, 0, none, 0, 0, [], [], []⟩
def clE : ClsT := ⟨[69], [69, 120, 99], none, 0, 0, none, 0, 0, none, 0, 0, [], [], []⟩
def BL (s0 s1 f m0 m1 : Nat) : List ClsT := [clA s1 f m0, clB s0 m1, clC, clE]
theorem code_is {W : World} {s : Nat} {c : List InsT} {n : Nat} (hn : n = c.length) (hm : n ≤ 100) (hf : ∀ x ∈ c, fitI x.1 ∧ fitI x.2) (hs : Rds W (some ⟨s, 0, none⟩) (c.flatMap insV)) : IsCode W (some ⟨s, 0, none⟩) n n c := ⟨hn, Nat.le_refl _, by unfold maxLen; omega, hs, hf⟩
theorem nohnd {W : World} : IsHnds W none 0 0 [] := ⟨rfl, Nat.le_refl _, by unfold maxLen; omega, .inl rfl, by simp⟩
theorem nocst {W : World} : IsCsts W none 0 0 [] := ⟨rfl, Nat.le_refl _, by unfold maxLen; omega, .inl rfl, by simp⟩
theorem nofld {W : World} : IsFlds W none 0 0 [] := ⟨rfl, Nat.le_refl _, by unfold maxLen; omega, .inl rfl⟩
theorem nomth {W : World} : IsMths W none 0 0 [] := ⟨rfl, Nat.le_refl _, by unfold maxLen; omega, .inl rfl, by simp⟩
theorem fit_lit {l : List InsT} (h : ∀ x ∈ l, 0 ≤ x.1 ∧ x.1 ≤ 100 ∧ 0 ≤ x.2 ∧ x.2 ≤ 100) : ∀ x ∈ l, fitI x.1 ∧ fitI x.2 := fun x hx => by
  obtain ⟨a, b, c, d⟩ := h x hx
  unfold fitI
  omega
theorem runM_is {W : World} {s : Nat} (hs : Bx W s #[.int .i64 34, .int .i64 0] 40) : (runM s).is W :=
  ⟨by show fitI 1; unfold fitI; omega, code_is rfl (by simp [runM]) (fit_lit (by simp [runM])) (rds_bx hs), nohnd⟩
theorem mM_is {W : World} {s : Nat} (hs : Bx W s #[.int .i64 6, .int .i64 1, .int .i64 33, .int .i64 0] 40) : (mM s).is W :=
  ⟨by show fitI 2; unfold fitI; omega, code_is rfl (by simp [mM]) (fit_lit (by simp [mM])) (rds_bx hs), nohnd⟩
theorem runM_lt (s : Nat) : MthT.lt (runM s) := ⟨by simp [runM], by simp [runM], by simp [runM]⟩
theorem mM_lt (s : Nat) : MthT.lt (mM s) := ⟨by simp [mM], by simp [mM], by simp [mM]⟩
theorem BL_is (w : World) : ∀ x ∈ BL (w.heap.size) (w.heap.size + 1 + 1) (w.heap.size + 1 + 1 + 1 + 1) (w.heap.size + 1 + 1 + 1 + 1 + 1) (w.heap.size + 1 + 1 + 1 + 1 + 1 + 1), x.is (p8 w) ∧ ClsT.lt x := by
  intro x hx
  simp only [BL, List.mem_cons, List.not_mem_nil, or_false] at hx
  rcases hx with rfl | rfl | rfl | rfl
  · refine ⟨⟨nocst, ⟨rfl, Nat.le_refl _, by show 2 ≤ maxLen; unfold maxLen; omega, rds_bx (p8_at4 w)⟩, ⟨rfl, Nat.le_refl _, by show 1 ≤ maxLen; unfold maxLen; omega, rds_bx (p8_at5 w), ?_⟩⟩, ⟨by simp [clA], by simp [clA], by simp [clA], by simp [clA, FldT.lt], ?_⟩⟩
    · intro y hy
      simp only [clA, List.mem_singleton] at hy
      subst hy
      exact mM_is (p8_at2 w)
    · intro y hy
      simp only [clA, List.mem_singleton] at hy
      subst hy
      exact mM_lt _
  · refine ⟨⟨nocst, nofld, ⟨rfl, Nat.le_refl _, by show 1 ≤ maxLen; unfold maxLen; omega, rds_bx (p8_at6 w), ?_⟩⟩, ⟨by simp [clB], by simp [clB], by simp [clB], by simp [clB], ?_⟩⟩
    · intro y hy
      simp only [clB, List.mem_singleton] at hy
      subst hy
      exact runM_is (p8_at0 w)
    · intro y hy
      simp only [clB, List.mem_singleton] at hy
      subst hy
      exact runM_lt _
  · exact ⟨⟨nocst, nofld, nomth⟩, ⟨by simp [clC], by simp [clC], by simp [clC], by simp [clC], by simp [clC]⟩⟩
  · exact ⟨⟨nocst, nofld, nomth⟩, ⟨by simp [clE], by simp [clE], by simp [clE], by simp [clE], by simp [clE]⟩⟩
set_option maxRecDepth 100000 in
theorem why_b (s0 s1 f m0 m1 : Nat) : whyC (BL s0 s1 f m0 m1) = ([], 0) := by kernel_rfl

/-- the base, in new memory -/
theorem base_any (w : World) : Calls Tryz.prog 27 #[] w fun e w' => ∃ s0 s1 f m0 m1 g : Nat, e = .returned (.slice (some ⟨g, 0, none⟩) 4 4) ∧ Rds w' (some ⟨g, 0, none⟩) ((BL s0 s1 f m0 m1).flatMap valsC) ∧ (∀ x ∈ BL s0 s1 f m0 m1, x.is w' ∧ ClsT.lt x) ∧ Below w.heap.size w w' := by
  have HB := Lib.hid (p8_below w)
  have HI := Lib.hid (BL_is w)
  have HR := Lib.hid (rds_bx (p8_at7 w))
  go_enter Tryz.func27, Tryz.ntmps27
  go_wp2_with fail
  go_ret
  exact ⟨_, _, _, _, _, _, rfl, HR.out, HI.out, HB.out⟩

/-- both tables of the base -/
def Bases (w : World) (t r : Nat) : Prop := (∃ (lo g mb n : Nat) (A : Option Addr) (c : Nat) (C : List ClsT) (f : T → Option HavT) (s0 s1 ff m0 m1 : Nat), Ta lo w t g mb n A c (mk (pairs (BL s0 s1 ff m0 m1))) C f ∧ Total C f ∧ C.map bareC = (BL s0 s1 ff m0 m1).map bareC ∧ (whyT (pairs (BL s0 s1 ff m0 m1))).2 = 0 ∧ ∀ x ∈ BL s0 s1 ff m0 m1, clsE x = 0) ∧
  ∃ (lo g : Nat) (A : Option Addr) (c : Nat) (s0 s1 ff m0 m1 : Nat), RT lo w r g A c (pairs (BL s0 s1 ff m0 m1)) (BL s0 s1 ff m0 m1)
theorem Bases.ext {w w' : World} {t r : Nat} (h : Bases w t r) (hb : Below w.heap.size w w') : Bases w' t r := by
  obtain ⟨⟨lo, g, mb, n, A, c, C, f, s0, s1, ff, m0, m1, h1, h2⟩, lo', g', A', c', t0, t1, tf, n0, n1, h3⟩ := h
  exact ⟨⟨lo, g, mb, n, A, c, C, f, s0, s1, ff, m0, m1, h1.ext hb, h2⟩, lo', g', A', c', t0, t1, tf, n0, n1, h3.ext hb⟩

set_option maxRecDepth 100000 in
set_option maxHeartbeats 4000000 in
theorem open_any (w : World) (hL : InsA.Laid w) : Calls Tryz.prog 15 #[] w fun e w' => ∃ t r : Nat, e = .returned (.tuple #[.pointer (some ⟨t, 0, none⟩), .pointer (some ⟨r, 0, none⟩), .bool true]) ∧ Bases w' t r ∧ Below w.heap.size w w' := by
  have HB := Lib.hid (base_any)
  have HL := Lib.hid hL
  clear hL
  go_enter Tryz.func15, Tryz.ntmps15
  go_wp2_with fail
  refine (HB.out _).mono ?_
  rintro e w1 ⟨s0, s1, ff, m0, m1, g1, rfl, r1, i1, hb1⟩
  have B1 := Lib.hid hb1
  have HN := Lib.hid (TabO.new_any _ _ 4 4 w1 rfl r1 i1 (HL.out.below hb1 HL.out.1))
  clear r1 i1 hb1
  go_wp2_with fail
  refine HN.out.mono ?_
  rintro e w2 ⟨hb2, hor⟩
  have B2 := Lib.hid (B1.out.trans (hb2.mono B1.out.size))
  rcases hor with ⟨_, lo, t, g, mb, n, A, c, C, f, rfl, _, hTa, hTot, hbare, hwhy, hz⟩ | ⟨hne, _⟩
  · have HT := Lib.hid (And.intro hTa (And.intro hTot (And.intro hbare (And.intro hwhy hz))))
    clear hTa hTot hbare hwhy hz hb2 HN
    go_wp2_with fail
    refine (HB.out _).mono ?_
    rintro e w3 ⟨t0, t1, tf, n0, n1, g3, rfl, r3, i3, hb3⟩
    have B3 := Lib.hid (B2.out.trans (hb3.mono B2.out.size))
    have K3 := Lib.hid hb3
    have HN := Lib.hid (newR_any _ _ 4 4 w3 rfl r3 i3)
    clear r3 i3 hb3
    go_wp2_with fail
    refine HN.out.mono ?_
    rintro e w4 ⟨hb4, hor⟩
    have B4 := Lib.hid (B3.out.trans (hb4.mono B3.out.size))
    rcases hor with ⟨_, lo', r, g', A', c', rfl, hRT⟩ | ⟨hne, _⟩
    · have HF : Hid (Bases w4 t r) := Lib.hid ⟨⟨lo, g, mb, n, A, c, C, f, s0, s1, ff, m0, m1, (HT.out.1.ext K3.out).ext hb4, HT.out.2⟩, lo', g', A', c', t0, t1, tf, n0, n1, hRT⟩
      clear hRT hb4 HN HT
      go_wp2_with fail
      go_ret3
      exact ⟨t, r, rfl, HF.out, B4.out⟩
    · exact absurd (by rw [why_b]) hne
  · exact absurd (by rw [why_b]) hne
end KndB
end Go.Proofs.YtdebambmcjcopaaGreatDoor
