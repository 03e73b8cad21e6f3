/-
  How a type is written in a source, by the program and by the document: what each call returns, for every text.
-/
import Derived.Test.YthkkcecfenohjaaGreatDoorDescR
import Derived.Outline
namespace Go.Proofs.YthkkcecfenohjaaGreatDoor
namespace DescS
open Go.RowKit BinM DescM DescW DescX DescR

/-- how a type is written -/
def showT : List UInt8 → List UInt8
  | [] => [63]
  | c :: t =>
    if c :: t = [73] then [105, 110, 116] else if c :: t = [66] then [98, 111, 111, 108] else if c :: t = [83] then [115, 116, 114]
    else if c :: t = [86] then [117, 110, 105, 116] else if c :: t = [78] then [110, 117, 108, 108]
    else if rightB (c :: t) = false then [63] else if c = 76 then t.take (t.length - 1) else showT t ++ [91, 93]

theorem showT_len : ∀ l : List UInt8, (showT l).length ≤ 2 * l.length + 4
  | [] => by simp [showT]
  | c :: t => by
    have ih := showT_len t
    unfold showT
    split
    · simp
    · split
      · simp
      · split
        · simp
        · split
          · simp
          · split
            · simp
            · split
              · simp
              · split
                · rw [List.length_take, List.length_cons]; omega
                · rw [List.length_append, List.length_cons]; simp; omega

/-- a text that is none of the five short ones -/
structure Long (l : List UInt8) : Prop where
  a : (l == [73]) = false
  b : (l == [66]) = false
  c : (l == [83]) = false
  d : (l == [86]) = false
  e : (l == [78]) = false

theorem long_or (l : List UInt8) : l = [73] ∨ l = [66] ∨ l = [83] ∨ l = [86] ∨ l = [78] ∨ Long l := by
  by_cases h1 : l = [73]
  · exact .inl h1
  · by_cases h2 : l = [66]
    · exact .inr (.inl h2)
    · by_cases h3 : l = [83]
      · exact .inr (.inr (.inl h3))
      · by_cases h4 : l = [86]
        · exact .inr (.inr (.inr (.inl h4)))
        · by_cases h5 : l = [78]
          · exact .inr (.inr (.inr (.inr (.inl h5))))
          · exact .inr (.inr (.inr (.inr (.inr ⟨by simpa using h1, by simpa using h2, by simpa using h3, by simpa using h4, by simpa using h5⟩))))

theorem show_long {l : List UInt8} (h : Long l) : showT l = if rightB l = false then [63] else if l.head? = some 76 then (l.drop 1).take (l.length - 2) else showT (l.drop 1) ++ [91, 93] := by
  cases l with
  | nil => rfl
  | cons c t =>
    have h1 : ¬ c :: t = [73] := by have := h.a; simpa using this
    have h2 : ¬ c :: t = [66] := by have := h.b; simpa using this
    have h3 : ¬ c :: t = [83] := by have := h.c; simpa using this
    have h4 : ¬ c :: t = [86] := by have := h.d; simpa using this
    have h5 : ¬ c :: t = [78] := by have := h.e; simpa using this
    rw [showT, if_neg h1, if_neg h2, if_neg h3, if_neg h4, if_neg h5]
    simp only [List.head?_cons, Option.some.injEq, List.drop_one, List.tail_cons, List.length_cons]
    rw [show t.length + 1 - 2 = t.length - 1 by omega]





end DescS
end Go.Proofs.YthkkcecfenohjaaGreatDoor
