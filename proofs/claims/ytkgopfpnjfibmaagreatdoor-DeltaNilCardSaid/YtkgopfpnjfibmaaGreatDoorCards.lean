/-
  DERIVED. GIVEN WITH THE SEED: THE CARDS: each row of YtkgopfpnjfibmaaGreatDoorRows.lean that lists a variable, with what it lists TIED to the program's text (the seventh form; the later family's looks); each row that meets fmt, with fmt's text TOLD by the authors' own Lean function (tested against real Go, not proved from fmt's source: count such statements apart). THE CARD IS WHAT COUNTS. Prove the row's statement (the work); the ties are given (YtkgopfpnjfibmaaGreatDoorTie.lean); close each card by the builder's one call (the guide's Derived/Test/ToyasCard.lean, 'card_holds'). Laid BY PROGRAM, IN A SANDBOX (cutbox-door.mjs). By AI agents, Wed Nov 11 2026. No macro, syntax, notation, axiom, sorry.
-/
import Derived.Test.YtkgopfpnjfibmaaGreatDoorRows
import GoSem.ClaimSeven
namespace Go.Proofs.YtkgopfpnjfibmaaGreatDoor
namespace Rows

/-- THE TIED CARD OF 'hornbooklaw09.KindSteps'. -/
def kindStepsCard : Claim7 := { stood := { row := kindStepsRow, standIns := [], harness := (true, "f4393183d525782d72ecbdc30eb147d323450428c6e2fd915a0a1d87770cfde2"), looks := false }, kinds := [], alts := [], laidByText := true, laidKinds := [.data, .data, .pinned], laidTests := true, laidLooks := .later }
def KindStepsCardSaid : Prop := Claim7.holds Tryz.pinned (.plain (OpenSpec.ofChange kindStepsSpec)) kindStepsCard

/-- THE TIED CARD OF 'hornbooklaw10.VerifyNil'. -/
def verifyNilCard : Claim7 := { stood := { row := verifyNilRow, standIns := [], harness := (true, "f4393183d525782d72ecbdc30eb147d323450428c6e2fd915a0a1d87770cfde2"), looks := false }, kinds := [], alts := [], laidByText := true, laidKinds := [.data, .data, .pinned], laidTests := true, laidLooks := .later }
def VerifyNilCardSaid : Prop := Claim7.holds Tryz.pinned (.plain (OpenSpec.ofChange verifyNilSpec)) verifyNilCard

/-- THE TIED CARD OF 'hornbooklaw11.LinkNil'. -/
def linkNilCard : Claim7 := { stood := { row := linkNilRow, standIns := [], harness := (true, "f4393183d525782d72ecbdc30eb147d323450428c6e2fd915a0a1d87770cfde2"), looks := false }, kinds := [], alts := [], laidByText := true, laidKinds := [.data, .data, .pinned], laidTests := true, laidLooks := .later }
def LinkNilCardSaid : Prop := Claim7.holds Tryz.pinned (.plain (OpenSpec.ofChange linkNilSpec)) linkNilCard

/-- THE TIED CARD OF 'hornbooklaw15.FrameTurns'. -/
def frameTurnsCard : Claim7 := { stood := { row := frameTurnsRow, standIns := [], harness := (true, "f4393183d525782d72ecbdc30eb147d323450428c6e2fd915a0a1d87770cfde2"), looks := false }, kinds := [], alts := [], laidByText := true, laidKinds := [.data, .data, .pinned], laidTests := true, laidLooks := .later }
def FrameTurnsCardSaid : Prop := Claim7.holds Tryz.pinned (.plain (OpenSpec.ofChange frameTurnsSpec)) frameTurnsCard

/-- THE TIED CARD OF 'hornbooklaw15.FrameNil'. -/
def frameNilCard : Claim7 := { stood := { row := frameNilRow, standIns := [], harness := (true, "f4393183d525782d72ecbdc30eb147d323450428c6e2fd915a0a1d87770cfde2"), looks := false }, kinds := [], alts := [], laidByText := true, laidKinds := [.data, .data, .pinned], laidTests := true, laidLooks := .later }
def FrameNilCardSaid : Prop := Claim7.holds Tryz.pinned (.plain (OpenSpec.ofChange frameNilSpec)) frameNilCard

/-- THE TIED CARD OF 'hornbooklaw20.DeltaMerges'. -/
def deltaMergesCard : Claim7 := { stood := { row := deltaMergesRow, standIns := [], harness := (true, "f4393183d525782d72ecbdc30eb147d323450428c6e2fd915a0a1d87770cfde2"), looks := false }, kinds := [], alts := [], laidByText := true, laidKinds := [.data, .data, .pinned], laidTests := true, laidLooks := .later }
def DeltaMergesCardSaid : Prop := Claim7.holds Tryz.pinned (.plain (OpenSpec.ofChange deltaMergesSpec)) deltaMergesCard

/-- THE TIED CARD OF 'hornbooklaw20.DeltaNil'. -/
def deltaNilCard : Claim7 := { stood := { row := deltaNilRow, standIns := [], harness := (true, "f4393183d525782d72ecbdc30eb147d323450428c6e2fd915a0a1d87770cfde2"), looks := false }, kinds := [], alts := [], laidByText := true, laidKinds := [.data, .data, .pinned], laidTests := true, laidLooks := .later }
def DeltaNilCardSaid : Prop := Claim7.holds Tryz.pinned (.plain (OpenSpec.ofChange deltaNilSpec)) deltaNilCard

/-- THE SECOND FORM's CARD OF 'hornbooklaw09.KindSteps'. -/
def kindStepsUptoCard : Claim7 := { stood := { row := kindStepsUptoRow, standIns := [], harness := (true, "f4393183d525782d72ecbdc30eb147d323450428c6e2fd915a0a1d87770cfde2"), looks := false }, kinds := [], alts := [], laidByText := true, laidKinds := [.data, .data, .pinned], laidTests := true, laidLooks := .later }
def KindStepsUptoCardSaid : Prop := Claim7.holds Tryz.pinned (.plain (OpenSpec.upto kindStepsSpec)) kindStepsUptoCard

/-- THE SECOND FORM's CARD OF 'hornbooklaw10.VerifyNil'. -/
def verifyNilUptoCard : Claim7 := { stood := { row := verifyNilUptoRow, standIns := [], harness := (true, "f4393183d525782d72ecbdc30eb147d323450428c6e2fd915a0a1d87770cfde2"), looks := false }, kinds := [], alts := [], laidByText := true, laidKinds := [.data, .data, .pinned], laidTests := true, laidLooks := .later }
def VerifyNilUptoCardSaid : Prop := Claim7.holds Tryz.pinned (.plain (OpenSpec.upto verifyNilSpec)) verifyNilUptoCard

/-- THE SECOND FORM's CARD OF 'hornbooklaw11.LinkNil'. -/
def linkNilUptoCard : Claim7 := { stood := { row := linkNilUptoRow, standIns := [], harness := (true, "f4393183d525782d72ecbdc30eb147d323450428c6e2fd915a0a1d87770cfde2"), looks := false }, kinds := [], alts := [], laidByText := true, laidKinds := [.data, .data, .pinned], laidTests := true, laidLooks := .later }
def LinkNilUptoCardSaid : Prop := Claim7.holds Tryz.pinned (.plain (OpenSpec.upto linkNilSpec)) linkNilUptoCard

/-- THE SECOND FORM's CARD OF 'hornbooklaw15.FrameTurns'. -/
def frameTurnsUptoCard : Claim7 := { stood := { row := frameTurnsUptoRow, standIns := [], harness := (true, "f4393183d525782d72ecbdc30eb147d323450428c6e2fd915a0a1d87770cfde2"), looks := false }, kinds := [], alts := [], laidByText := true, laidKinds := [.data, .data, .pinned], laidTests := true, laidLooks := .later }
def FrameTurnsUptoCardSaid : Prop := Claim7.holds Tryz.pinned (.plain (OpenSpec.upto frameTurnsSpec)) frameTurnsUptoCard

/-- THE SECOND FORM's CARD OF 'hornbooklaw15.FrameNil'. -/
def frameNilUptoCard : Claim7 := { stood := { row := frameNilUptoRow, standIns := [], harness := (true, "f4393183d525782d72ecbdc30eb147d323450428c6e2fd915a0a1d87770cfde2"), looks := false }, kinds := [], alts := [], laidByText := true, laidKinds := [.data, .data, .pinned], laidTests := true, laidLooks := .later }
def FrameNilUptoCardSaid : Prop := Claim7.holds Tryz.pinned (.plain (OpenSpec.upto frameNilSpec)) frameNilUptoCard

/-- THE SECOND FORM's CARD OF 'hornbooklaw20.DeltaMerges'. -/
def deltaMergesUptoCard : Claim7 := { stood := { row := deltaMergesUptoRow, standIns := [], harness := (true, "f4393183d525782d72ecbdc30eb147d323450428c6e2fd915a0a1d87770cfde2"), looks := false }, kinds := [], alts := [], laidByText := true, laidKinds := [.data, .data, .pinned], laidTests := true, laidLooks := .later }
def DeltaMergesUptoCardSaid : Prop := Claim7.holds Tryz.pinned (.plain (OpenSpec.upto deltaMergesSpec)) deltaMergesUptoCard

/-- THE SECOND FORM's CARD OF 'hornbooklaw20.DeltaNil'. -/
def deltaNilUptoCard : Claim7 := { stood := { row := deltaNilUptoRow, standIns := [], harness := (true, "f4393183d525782d72ecbdc30eb147d323450428c6e2fd915a0a1d87770cfde2"), looks := false }, kinds := [], alts := [], laidByText := true, laidKinds := [.data, .data, .pinned], laidTests := true, laidLooks := .later }
def DeltaNilUptoCardSaid : Prop := Claim7.holds Tryz.pinned (.plain (OpenSpec.upto deltaNilSpec)) deltaNilUptoCard
end Rows
end Go.Proofs.YtkgopfpnjfibmaaGreatDoor
