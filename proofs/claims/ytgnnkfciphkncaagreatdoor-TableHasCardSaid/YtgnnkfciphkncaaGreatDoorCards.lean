/-
  DERIVED. GIVEN WITH THE SEED: THE CARDS: each row of YtgnnkfciphkncaaGreatDoorRows.lean that lists a variable, with what it lists TIED to the program's text (the seventh form; the later family's looks); each row that meets fmt, with fmt's text TOLD by the authors' own Lean function (tested against real Go, not proved from fmt's source: count such statements apart). THE CARD IS WHAT COUNTS. Prove the row's statement (the work); the ties are given (YtgnnkfciphkncaaGreatDoorTie.lean); close each card by the builder's one call (the guide's Derived/Test/ToyasCard.lean, 'card_holds'). Laid BY PROGRAM, IN A SANDBOX (cutbox-door.mjs). By AI agents, Wed Nov 11 2026. No macro, syntax, notation, axiom, sorry.
-/
import Derived.Test.YtgnnkfciphkncaaGreatDoorRows
import GoSem.ClaimSeven
namespace Go.Proofs.YtgnnkfciphkncaaGreatDoor
namespace Rows

/-- THE TIED CARD OF 'hornbooklaw08.TableHas'. -/
def tableHasCard : Claim7 := { stood := { row := tableHasRow, standIns := [], harness := (true, "406cbcca34065cabde66b28f54ca7c461c560fa44a2526a4aa408f7866f37954"), looks := false }, kinds := [], alts := [], laidByText := true, laidKinds := [.data, .data, .pinned], laidTests := true, laidLooks := .later }
def TableHasCardSaid : Prop := Claim7.holds Tryz.pinned (.plain (OpenSpec.ofChange tableHasSpec)) tableHasCard

/-- THE SECOND FORM's CARD OF 'hornbooklaw08.TableHas'. -/
def tableHasUptoCard : Claim7 := { stood := { row := tableHasUptoRow, standIns := [], harness := (true, "406cbcca34065cabde66b28f54ca7c461c560fa44a2526a4aa408f7866f37954"), looks := false }, kinds := [], alts := [], laidByText := true, laidKinds := [.data, .data, .pinned], laidTests := true, laidLooks := .later }
def TableHasUptoCardSaid : Prop := Claim7.holds Tryz.pinned (.plain (OpenSpec.upto tableHasSpec)) tableHasUptoCard
end Rows
end Go.Proofs.YtgnnkfciphkncaaGreatDoor
