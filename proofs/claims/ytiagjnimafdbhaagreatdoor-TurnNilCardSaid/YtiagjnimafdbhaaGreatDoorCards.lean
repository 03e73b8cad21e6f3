/-
  DERIVED. GIVEN WITH THE SEED: THE CARDS: each row of YtiagjnimafdbhaaGreatDoorRows.lean that lists a variable, with what it lists TIED to the program's text (the seventh form; the later family's looks); each row that meets fmt, with fmt's text TOLD by the authors' own Lean function (tested against real Go, not proved from fmt's source: count such statements apart). THE CARD IS WHAT COUNTS. Prove the row's statement (the work); the ties are given (YtiagjnimafdbhaaGreatDoorTie.lean); close each card by the builder's one call (the guide's Derived/Test/ToyasCard.lean, 'card_holds'). Laid BY PROGRAM, IN A SANDBOX (cutbox-door.mjs). By AI agents, Wed Nov 11 2026. No macro, syntax, notation, axiom, sorry.
-/
import Derived.Test.YtiagjnimafdbhaaGreatDoorRows
import GoSem.ClaimSeven
namespace Go.Proofs.YtiagjnimafdbhaaGreatDoor
namespace Rows

/-- THE TIED CARD OF 'hornbooklaw20.DeltaMerges'. -/
def deltaMergesCard : Claim7 := { stood := { row := deltaMergesRow, standIns := [], harness := (true, "1760d3a8dd9585b34ce5e56e325e8289e7803c189586adb2ce23a4fca37e0890"), looks := false }, kinds := [], alts := [], laidByText := true, laidKinds := [.data, .data, .pinned], laidTests := true, laidLooks := .later }
def DeltaMergesCardSaid : Prop := Claim7.holds Tryz.pinned (.plain (OpenSpec.ofChange deltaMergesSpec)) deltaMergesCard

/-- THE TIED CARD OF 'hornbooklaw21.TurnNil'. -/
def turnNilCard : Claim7 := { stood := { row := turnNilRow, standIns := [], harness := (true, "1760d3a8dd9585b34ce5e56e325e8289e7803c189586adb2ce23a4fca37e0890"), looks := false }, kinds := [], alts := [], laidByText := true, laidKinds := [.data, .data, .pinned], laidTests := true, laidLooks := .later }
def TurnNilCardSaid : Prop := Claim7.holds Tryz.pinned (.plain (OpenSpec.ofChange turnNilSpec)) turnNilCard

/-- THE SECOND FORM's CARD OF 'hornbooklaw20.DeltaMerges'. -/
def deltaMergesUptoCard : Claim7 := { stood := { row := deltaMergesUptoRow, standIns := [], harness := (true, "1760d3a8dd9585b34ce5e56e325e8289e7803c189586adb2ce23a4fca37e0890"), looks := false }, kinds := [], alts := [], laidByText := true, laidKinds := [.data, .data, .pinned], laidTests := true, laidLooks := .later }
def DeltaMergesUptoCardSaid : Prop := Claim7.holds Tryz.pinned (.plain (OpenSpec.upto deltaMergesSpec)) deltaMergesUptoCard

/-- THE SECOND FORM's CARD OF 'hornbooklaw21.TurnNil'. -/
def turnNilUptoCard : Claim7 := { stood := { row := turnNilUptoRow, standIns := [], harness := (true, "1760d3a8dd9585b34ce5e56e325e8289e7803c189586adb2ce23a4fca37e0890"), looks := false }, kinds := [], alts := [], laidByText := true, laidKinds := [.data, .data, .pinned], laidTests := true, laidLooks := .later }
def TurnNilUptoCardSaid : Prop := Claim7.holds Tryz.pinned (.plain (OpenSpec.upto turnNilSpec)) turnNilUptoCard
end Rows
end Go.Proofs.YtiagjnimafdbhaaGreatDoor
