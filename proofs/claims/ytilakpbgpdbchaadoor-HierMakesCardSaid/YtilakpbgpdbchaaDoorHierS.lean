/-
  Classes above each other: plain facts on ways up, no program is loaded here.
-/
import Derived.Test.YtilakpbgpdbchaaDoorBinM
namespace Go.Proofs.YtilakpbgpdbchaaDoor
namespace HierS

abbrev T := List UInt8

/-- from a class up to one that has none above it -/
inductive WayUp (up : T → Option T) : T → List T → Prop
  | top {c : T} : up c = none → WayUp up c [c]
  | step {c d : T} {l : List T} : up c = some d → WayUp up d l → WayUp up c (c :: l)

section
variable {up : T → Option T}

theorem WayUp.head {c : T} {l : List T} (h : WayUp up c l) : ∃ t, l = c :: t := by
  cases h
  · exact ⟨_, rfl⟩
  · exact ⟨_, rfl⟩
theorem WayUp.self {c : T} {l : List T} (h : WayUp up c l) : c ∈ l := by
  obtain ⟨t, rfl⟩ := h.head; simp
theorem WayUp.det {c : T} {l : List T} (h : WayUp up c l) : ∀ {m : List T}, WayUp up c m → l = m := by
  induction h with
  | top h => intro m hm; cases hm with
    | top => rfl
    | step h2 => rw [h] at h2; cases h2
  | step h _ ih => intro m hm; cases hm with
    | top h2 => rw [h] at h2; cases h2
    | step h2 h3 => rw [h] at h2; cases h2; rw [ih h3]
/-- what stands on the way up has the rest as its own way -/
theorem WayUp.rest {c : T} {l : List T} (h : WayUp up c l) : ∀ {p s : List T} {d : T}, l = p ++ d :: s → WayUp up d (d :: s) := by
  induction h with
  | @top c h =>
    intro p s d e
    cases p with
    | nil => simp at e; obtain ⟨rfl, rfl⟩ := e; exact .top h
    | cons a p => simp at e
  | @step c d' l h h2 ih =>
    intro p s d e
    cases p with
    | nil => simp at e; obtain ⟨rfl, rfl⟩ := e; exact .step h h2
    | cons a p => simp at e; exact ih e.2
theorem WayUp.split {c d : T} {l : List T} (h : WayUp up c l) (hd : d ∈ l) : ∃ p s, l = p ++ d :: s ∧ WayUp up d (d :: s) := by
  obtain ⟨p, s, e⟩ := List.append_of_mem hd
  exact ⟨p, s, e, h.rest e⟩
theorem WayUp.trans {x y z : T} {l m : List T} (h : WayUp up x l) (hy : y ∈ l) (h2 : WayUp up y m) (hz : z ∈ m) : z ∈ l := by
  obtain ⟨p, s, e, h3⟩ := h.split hy
  rw [h2.det h3] at hz
  rw [e]; exact List.mem_append_right _ hz
theorem WayUp.anti {x y : T} {l m : List T} (h : WayUp up x l) (hy : y ∈ l) (h2 : WayUp up y m) (hx : x ∈ m) : x = y := by
  obtain ⟨p, s, e, h3⟩ := h.split hy
  obtain ⟨p', s', e', h4⟩ := h2.split hx
  have e1 := h2.det h3
  have e2 := h.det h4
  have l1 : l.length = p.length + m.length := by rw [e, e1]; simp
  have l2 : m.length = p'.length + l.length := by rw [e', e2]; simp
  have : p = [] := List.length_eq_zero_iff.1 (by omega)
  subst this
  rw [e2] at e
  simp at e
  exact e.1
/-- the first one of a way that stands on another one -/
def meetT (l m : List T) : Option T := l.find? fun c => m.contains c
theorem meet_parts {l m : List T} {a : T} (h : meetT l m = some a) : ∃ p s, l = p ++ a :: s ∧ a ∈ m ∧ ∀ b ∈ p, b ∉ m := by
  unfold meetT at h
  rw [List.find?_eq_some_iff_append] at h
  obtain ⟨ha, p, s, e, hp⟩ := h
  refine ⟨p, s, e, by simpa using ha, fun b hb hm => ?_⟩
  have := hp b hb
  simp at this
  exact this hm
theorem meet_least {x : T} {l m : List T} {a z : T} (h : WayUp up x l) (hm : meetT l m = some a) (hz : z ∈ l) (hz2 : z ∈ m) : ∃ s, WayUp up a s ∧ z ∈ s := by
  obtain ⟨p, s, e, _, hp⟩ := meet_parts hm
  refine ⟨a :: s, h.rest e, ?_⟩
  rw [e] at hz
  rcases List.mem_append.1 hz with h1 | h1
  · exact absurd hz2 (hp z h1)
  · exact h1
theorem meet_comm {x y : T} {l m : List T} {a b : T} (h : WayUp up x l) (h2 : WayUp up y m) (ha : meetT l m = some a) (hb : meetT m l = some b) : a = b := by
  obtain ⟨p, s, e, ha2, hp⟩ := meet_parts ha
  obtain ⟨p', s', e', hb2, hp'⟩ := meet_parts hb
  obtain ⟨s1, w1, m1⟩ := meet_least (z := b) h ha hb2 (by rw [e']; simp)
  obtain ⟨s2, w2, m2⟩ := meet_least (z := a) h2 hb ha2 (by rw [e]; simp)
  exact w1.anti m1 w2 m2
theorem meet_mem {l m : List T} {a : T} (h : meetT l m = some a) : a ∈ l ∧ a ∈ m := by
  obtain ⟨p, s, e, ha, _⟩ := meet_parts h
  exact ⟨by rw [e]; simp, ha⟩
theorem meet_some {l m : List T} {z : T} (h : z ∈ l) (h2 : z ∈ m) : ∃ a, meetT l m = some a := by
  cases hm : meetT l m with
  | some a => exact ⟨a, rfl⟩
  | none =>
    unfold meetT at hm
    rw [List.find?_eq_none] at hm
    have := hm z h
    simp at this
    exact absurd h2 this

/-- so many steps up -/
def iter (up : T → Option T) : Nat → Option T → Option T
  | 0, o => o
  | _ + 1, none => none
  | k + 1, some c => iter up k (up c)
theorem iter_none : ∀ k, iter up k none = none
  | 0 => rfl
  | _ + 1 => rfl
theorem iter_succ : ∀ (k : Nat) (o : Option T) (c : T), iter up k o = some c → iter up (k + 1) o = up c
  | 0, o, c, h => by
    change o = some c at h
    subst h; rfl
  | k + 1, none, c, h => by cases h
  | k + 1, some u, c, h => by
    change iter up k (up u) = some c at h
    exact iter_succ k (up u) c h
/-- does one come, within so many steps, to a class? -/
def loopF (up : T → Option T) : Nat → Option T → T → Bool
  | 0, _, _ => false
  | _ + 1, none, _ => false
  | k + 1, some u, c => u == c || loopF up k (up u) c
theorem loop_true : ∀ (N k : Nat) (o : Option T) (c : T), iter up k o = some c → k < N → loopF up N o c = true
  | 0, k, _, _, _, h => absurd h (by omega)
  | N + 1, k, none, c, h, _ => by rw [iter_none] at h; cases h
  | N + 1, 0, some u, c, h, _ => by
    change some u = some c at h
    cases h; simp [loopF]
  | N + 1, k + 1, some u, c, h, hk => by
    change iter up k (up u) = some c at h
    have := loop_true N k (up u) c h (by omega)
    simp [loopF, this]
theorem nodup_le : ∀ (v names : List T), v.Nodup → (∀ x ∈ v, x ∈ names) → v.length ≤ names.length
  | [], _, _, _ => by simp
  | a :: t, names, hn, hs => by
    rw [List.nodup_cons] at hn
    have h := nodup_le t (names.erase a) hn.2 (fun x hx => (List.mem_erase_of_ne (by rintro rfl; exact hn.1 hx)).2 (hs x (by simp [hx])))
    have h2 := List.length_erase_of_mem (hs a (by simp))
    have h3 : 0 < names.length := List.length_pos_of_mem (hs a (by simp))
    simp only [List.length_cons]
    omega
theorem way_aux (names : List T) (hup : ∀ c ∈ names, ∀ d, up c = some d → d ∈ names) (hl : ∀ c ∈ names, loopF up names.length (up c) c = false) :
    ∀ (n : Nat) (v : List T) (c : T), v.Nodup → (∀ x ∈ v, x ∈ names) → c ∈ names → c ∉ v → (∀ e ∈ v, ∃ k, k + 1 ≤ v.length ∧ iter up k (up e) = some c) → n + v.length = names.length → ∃ l, WayUp up c l ∧ l.length ≤ n
  | 0, v, c, hv, hs, hc, hcv, _, hn => by
    have := nodup_le (c :: v) names (List.nodup_cons.2 ⟨hcv, hv⟩) (by intro x hx; rcases List.mem_cons.1 hx with rfl | hx; exact hc; exact hs x hx)
    simp at this; omega
  | n + 1, v, c, hv, hs, hc, hcv, he, hn => by
    cases hu : up c with
    | none => exact ⟨[c], .top hu, by simp⟩
    | some d =>
      have hd := hup c hc d hu
      by_cases h1 : d = c
      · subst h1
        have := loop_true (up := up) names.length 0 (up d) d hu (by omega)
        rw [hl d hd] at this; cases this
      · by_cases h2 : d ∈ v
        · obtain ⟨k, hk, hi⟩ := he d h2
          have := loop_true (up := up) names.length (k + 1) (up d) d (by rw [iter_succ k _ c hi]; exact hu) (by omega)
          rw [hl d hd] at this; cases this
        · obtain ⟨l, hw, hlen⟩ := way_aux names hup hl n (c :: v) d (List.nodup_cons.2 ⟨hcv, hv⟩) (by intro x hx; rcases List.mem_cons.1 hx with rfl | hx; exact hc; exact hs x hx) hd
            (by intro h; rcases List.mem_cons.1 h with h | h; exact h1 h; exact h2 h)
            (by intro e he'
                rcases List.mem_cons.1 he' with rfl | h
                · exact ⟨0, by simp, hu⟩
                · obtain ⟨k, hk, hi⟩ := he e h
                  exact ⟨k + 1, by simp; omega, by rw [iter_succ k _ c hi]; exact hu⟩) (by simp; omega)
          exact ⟨c :: l, .step hu hw, by simp; omega⟩
/-- if no class is above itself, each has its way up -/
theorem way_of (names : List T) (hup : ∀ c ∈ names, ∀ d, up c = some d → d ∈ names) (hl : ∀ c ∈ names, loopF up names.length (up c) c = false) {c : T} (hc : c ∈ names) : ∃ l, WayUp up c l ∧ l.length ≤ names.length :=
  way_aux names hup hl names.length [] c List.nodup_nil (by simp) hc (by simp) (by simp) (by simp)

/-- the way up, of at most so many -/
def climb (up : T → Option T) : Nat → Option T → List T
  | 0, _ => []
  | _ + 1, none => []
  | f + 1, some c => c :: climb up f (up c)
theorem climb_way {c : T} {l : List T} (h : WayUp up c l) : ∀ f, l.length ≤ f → climb up f (some c) = l := by
  induction h with
  | @top c h =>
    intro f hf
    cases f with
    | zero => simp at hf
    | succ f => simp only [climb, h]; cases f <;> rfl
  | @step c d l h _ ih =>
    intro f hf
    cases f with
    | zero => simp at hf
    | succ f => simp only [climb, h]; rw [ih f (by simpa using hf)]
theorem way_in {c : T} {l names : List T} (h : WayUp up c l) (hup : ∀ c ∈ names, ∀ d, up c = some d → d ∈ names) (hc : c ∈ names) : ∀ d ∈ l, d ∈ names := by
  induction h with
  | top _ => intro d hd; simp at hd; subst hd; exact hc
  | @step c d l h _ ih => intro e he; rcases List.mem_cons.1 he with rfl | he; exact hc; exact ih (hup _ hc _ h) e he
/-- if just one has none above it, each way ends there -/
theorem way_top {c o : T} {l names : List T} (h : WayUp up c l) (hup : ∀ c ∈ names, ∀ d, up c = some d → d ∈ names) (ho : ∀ c ∈ names, up c = none → c = o) (hc : c ∈ names) : o ∈ l := by
  induction h with
  | top h => simp [ho _ hc h]
  | @step c d l h _ ih => exact List.mem_cons_of_mem _ (ih (hup _ hc _ h))
end
end HierS
end Go.Proofs.YtilakpbgpdbchaaDoor
