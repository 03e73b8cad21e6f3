/-
  DERIVED. GIVEN WITH THE SEED: THE CARDS: each row of YtdebambmcjcopaaGreatDoorRows.lean that lists a variable, with what it lists TIED to the program's text (the seventh form; the later family's looks); each row that meets fmt, with fmt's text TOLD by the authors' own Lean function (tested against real Go, not proved from fmt's source: count such statements apart). THE CARD IS WHAT COUNTS. Prove the row's statement (the work); the ties are given (YtdebambmcjcopaaGreatDoorTie.lean); close each card by the builder's one call (the guide's Derived/Test/ToyasCard.lean, 'card_holds'). Laid BY PROGRAM, IN A SANDBOX (cutbox-door.mjs). By AI agents, Wed Nov 11 2026. No macro, syntax, notation, axiom, sorry.
-/
import Derived.Test.YtdebambmcjcopaaGreatDoorRows
import GoSem.ClaimSeven
namespace Go.Proofs.YtdebambmcjcopaaGreatDoor
namespace Rows

/-- THE TIED CARD OF 'hornbooklaw09.KindStarts'. -/
def kindStartsCard : Claim7 := { stood := { row := kindStartsRow, standIns := [], harness := (true, "39c2e4c5c68aa6081f2b1042a4d4a9618533e8341bde1bebc6ad1e6a897f22ca"), looks := false }, kinds := [], alts := [], laidByText := true, laidKinds := [.data, .data, .pinned], laidTests := true, laidLooks := .later }
def KindStartsCardSaid : Prop := Claim7.holds Tryz.pinned (.plain (OpenSpec.ofChange kindStartsSpec)) kindStartsCard

/-- THE TIED CARD OF 'hornbooklaw09.KindNil'. -/
def kindNilCard : Claim7 := { stood := { row := kindNilRow, standIns := [], harness := (true, "39c2e4c5c68aa6081f2b1042a4d4a9618533e8341bde1bebc6ad1e6a897f22ca"), looks := false }, kinds := [], alts := [], laidByText := true, laidKinds := [.data, .data, .pinned], laidTests := true, laidLooks := .later }
def KindNilCardSaid : Prop := Claim7.holds Tryz.pinned (.plain (OpenSpec.ofChange kindNilSpec)) kindNilCard

/-- THE SECOND FORM's CARD OF 'hornbooklaw09.KindStarts'. -/
def kindStartsUptoCard : Claim7 := { stood := { row := kindStartsUptoRow, standIns := [], harness := (true, "39c2e4c5c68aa6081f2b1042a4d4a9618533e8341bde1bebc6ad1e6a897f22ca"), looks := false }, kinds := [], alts := [], laidByText := true, laidKinds := [.data, .data, .pinned], laidTests := true, laidLooks := .later }
def KindStartsUptoCardSaid : Prop := Claim7.holds Tryz.pinned (.plain (OpenSpec.upto kindStartsSpec)) kindStartsUptoCard

/-- THE SECOND FORM's CARD OF 'hornbooklaw09.KindNil'. -/
def kindNilUptoCard : Claim7 := { stood := { row := kindNilUptoRow, standIns := [], harness := (true, "39c2e4c5c68aa6081f2b1042a4d4a9618533e8341bde1bebc6ad1e6a897f22ca"), looks := false }, kinds := [], alts := [], laidByText := true, laidKinds := [.data, .data, .pinned], laidTests := true, laidLooks := .later }
def KindNilUptoCardSaid : Prop := Claim7.holds Tryz.pinned (.plain (OpenSpec.upto kindNilSpec)) kindNilUptoCard
end Rows
end Go.Proofs.YtdebambmcjcopaaGreatDoor
