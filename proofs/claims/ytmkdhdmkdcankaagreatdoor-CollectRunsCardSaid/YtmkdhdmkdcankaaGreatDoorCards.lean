/-
  DERIVED. GIVEN WITH THE SEED: THE CARDS: each row of YtmkdhdmkdcankaaGreatDoorRows.lean that lists a variable, with what it lists TIED to the program's text (the seventh form; the later family's looks); each row that meets fmt, with fmt's text TOLD by the authors' own Lean function (tested against real Go, not proved from fmt's source: count such statements apart). THE CARD IS WHAT COUNTS. Prove the row's statement (the work); the ties are given (YtmkdhdmkdcankaaGreatDoorTie.lean); close each card by the builder's one call (the guide's Derived/Test/ToyasCard.lean, 'card_holds'). Laid BY PROGRAM, IN A SANDBOX (cutbox-door.mjs). By AI agents, Wed Nov 11 2026. No macro, syntax, notation, axiom, sorry.
-/
import Derived.Test.YtmkdhdmkdcankaaGreatDoorRows
import GoSem.ClaimSeven
namespace Go.Proofs.YtmkdhdmkdcankaaGreatDoor
namespace Rows

/-- THE TIED CARD OF 'hornbooklaw13.CollectReaches'. -/
def collectReachesCard : Claim7 := { stood := { row := collectReachesRow, standIns := [], harness := (true, "b1ad30e88462935b0c46331b226f9defb1352ad41647853911583eef13303678"), looks := false }, kinds := [], alts := [], laidByText := true, laidKinds := [.data, .data, .pinned], laidTests := true, laidLooks := .later }
def CollectReachesCardSaid : Prop := Claim7.holds Tryz.pinned (.plain (OpenSpec.ofChange collectReachesSpec)) collectReachesCard

/-- THE TIED CARD OF 'hornbooklaw13.CollectRuns'. -/
def collectRunsCard : Claim7 := { stood := { row := collectRunsRow, standIns := [], harness := (true, "b1ad30e88462935b0c46331b226f9defb1352ad41647853911583eef13303678"), looks := false }, kinds := [], alts := [], laidByText := true, laidKinds := [.data, .data, .pinned], laidTests := true, laidLooks := .later }
def CollectRunsCardSaid : Prop := Claim7.holds Tryz.pinned (.plain (OpenSpec.ofChange collectRunsSpec)) collectRunsCard

/-- THE TIED CARD OF 'hornbooklaw13.CollectKeeps'. -/
def collectKeepsCard : Claim7 := { stood := { row := collectKeepsRow, standIns := [], harness := (true, "b1ad30e88462935b0c46331b226f9defb1352ad41647853911583eef13303678"), looks := false }, kinds := [], alts := [], laidByText := true, laidKinds := [.data, .data, .pinned], laidTests := true, laidLooks := .later }
def CollectKeepsCardSaid : Prop := Claim7.holds Tryz.pinned (.plain (OpenSpec.ofChange collectKeepsSpec)) collectKeepsCard

/-- THE TIED CARD OF 'hornbooklaw13.CollectMore'. -/
def collectMoreCard : Claim7 := { stood := { row := collectMoreRow, standIns := [], harness := (true, "b1ad30e88462935b0c46331b226f9defb1352ad41647853911583eef13303678"), looks := false }, kinds := [], alts := [], laidByText := true, laidKinds := [.data, .data, .pinned], laidTests := true, laidLooks := .later }
def CollectMoreCardSaid : Prop := Claim7.holds Tryz.pinned (.plain (OpenSpec.ofChange collectMoreSpec)) collectMoreCard

/-- THE TIED CARD OF 'hornbooklaw13.CollectNil'. -/
def collectNilCard : Claim7 := { stood := { row := collectNilRow, standIns := [], harness := (true, "b1ad30e88462935b0c46331b226f9defb1352ad41647853911583eef13303678"), looks := false }, kinds := [], alts := [], laidByText := true, laidKinds := [.data, .data, .pinned], laidTests := true, laidLooks := .later }
def CollectNilCardSaid : Prop := Claim7.holds Tryz.pinned (.plain (OpenSpec.ofChange collectNilSpec)) collectNilCard

/-- THE SECOND FORM's CARD OF 'hornbooklaw13.CollectReaches'. -/
def collectReachesUptoCard : Claim7 := { stood := { row := collectReachesUptoRow, standIns := [], harness := (true, "b1ad30e88462935b0c46331b226f9defb1352ad41647853911583eef13303678"), looks := false }, kinds := [], alts := [], laidByText := true, laidKinds := [.data, .data, .pinned], laidTests := true, laidLooks := .later }
def CollectReachesUptoCardSaid : Prop := Claim7.holds Tryz.pinned (.plain (OpenSpec.upto collectReachesSpec)) collectReachesUptoCard

/-- THE SECOND FORM's CARD OF 'hornbooklaw13.CollectRuns'. -/
def collectRunsUptoCard : Claim7 := { stood := { row := collectRunsUptoRow, standIns := [], harness := (true, "b1ad30e88462935b0c46331b226f9defb1352ad41647853911583eef13303678"), looks := false }, kinds := [], alts := [], laidByText := true, laidKinds := [.data, .data, .pinned], laidTests := true, laidLooks := .later }
def CollectRunsUptoCardSaid : Prop := Claim7.holds Tryz.pinned (.plain (OpenSpec.upto collectRunsSpec)) collectRunsUptoCard

/-- THE SECOND FORM's CARD OF 'hornbooklaw13.CollectKeeps'. -/
def collectKeepsUptoCard : Claim7 := { stood := { row := collectKeepsUptoRow, standIns := [], harness := (true, "b1ad30e88462935b0c46331b226f9defb1352ad41647853911583eef13303678"), looks := false }, kinds := [], alts := [], laidByText := true, laidKinds := [.data, .data, .pinned], laidTests := true, laidLooks := .later }
def CollectKeepsUptoCardSaid : Prop := Claim7.holds Tryz.pinned (.plain (OpenSpec.upto collectKeepsSpec)) collectKeepsUptoCard

/-- THE SECOND FORM's CARD OF 'hornbooklaw13.CollectMore'. -/
def collectMoreUptoCard : Claim7 := { stood := { row := collectMoreUptoRow, standIns := [], harness := (true, "b1ad30e88462935b0c46331b226f9defb1352ad41647853911583eef13303678"), looks := false }, kinds := [], alts := [], laidByText := true, laidKinds := [.data, .data, .pinned], laidTests := true, laidLooks := .later }
def CollectMoreUptoCardSaid : Prop := Claim7.holds Tryz.pinned (.plain (OpenSpec.upto collectMoreSpec)) collectMoreUptoCard

/-- THE SECOND FORM's CARD OF 'hornbooklaw13.CollectNil'. -/
def collectNilUptoCard : Claim7 := { stood := { row := collectNilUptoRow, standIns := [], harness := (true, "b1ad30e88462935b0c46331b226f9defb1352ad41647853911583eef13303678"), looks := false }, kinds := [], alts := [], laidByText := true, laidKinds := [.data, .data, .pinned], laidTests := true, laidLooks := .later }
def CollectNilUptoCardSaid : Prop := Claim7.holds Tryz.pinned (.plain (OpenSpec.upto collectNilSpec)) collectNilUptoCard
end Rows
end Go.Proofs.YtmkdhdmkdcankaaGreatDoor
