/-
  DERIVED. GIVEN WITH THE SEED: THE CARDS: each row of YtblikehnfdhcpaaGreatDoorRows.lean that lists a variable, with what it lists TIED to the program's text (the seventh form; the later family's looks); each row that meets fmt, with fmt's text TOLD by the authors' own Lean function (tested against real Go, not proved from fmt's source: count such statements apart). THE CARD IS WHAT COUNTS. Prove the row's statement (the work); the ties are given (YtblikehnfdhcpaaGreatDoorTie.lean); close each card by the builder's one call (the guide's Derived/Test/ToyasCard.lean, 'card_holds'). Laid BY PROGRAM, IN A SANDBOX (cutbox-door.mjs). By AI agents, Wed Nov 11 2026. No macro, syntax, notation, axiom, sorry.
-/
import Derived.Test.YtblikehnfdhcpaaGreatDoorRows
import GoSem.ClaimSeven
namespace Go.Proofs.YtblikehnfdhcpaaGreatDoor
namespace Rows

/-- THE TIED CARD OF 'hornbooklaw08.TableDeps'. -/
def tableDepsCard : Claim7 := { stood := { row := tableDepsRow, standIns := [], harness := (true, "bab4b7fe05d19b60cd09ff205b5efdc9eaf5591ea4c19fa52cfe6b354910697f"), looks := false }, kinds := [], alts := [], laidByText := true, laidKinds := [.data, .data, .pinned], laidTests := true, laidLooks := .later }
def TableDepsCardSaid : Prop := Claim7.holds Tryz.pinned (.plain (OpenSpec.ofChange tableDepsSpec)) tableDepsCard

/-- THE TIED CARD OF 'hornbooklaw08.TableChanged'. -/
def tableChangedCard : Claim7 := { stood := { row := tableChangedRow, standIns := [], harness := (true, "bab4b7fe05d19b60cd09ff205b5efdc9eaf5591ea4c19fa52cfe6b354910697f"), looks := false }, kinds := [], alts := [], laidByText := true, laidKinds := [.data, .data, .pinned], laidTests := true, laidLooks := .later }
def TableChangedCardSaid : Prop := Claim7.holds Tryz.pinned (.plain (OpenSpec.ofChange tableChangedSpec)) tableChangedCard

/-- THE SECOND FORM's CARD OF 'hornbooklaw08.TableDeps'. -/
def tableDepsUptoCard : Claim7 := { stood := { row := tableDepsUptoRow, standIns := [], harness := (true, "bab4b7fe05d19b60cd09ff205b5efdc9eaf5591ea4c19fa52cfe6b354910697f"), looks := false }, kinds := [], alts := [], laidByText := true, laidKinds := [.data, .data, .pinned], laidTests := true, laidLooks := .later }
def TableDepsUptoCardSaid : Prop := Claim7.holds Tryz.pinned (.plain (OpenSpec.upto tableDepsSpec)) tableDepsUptoCard

/-- THE SECOND FORM's CARD OF 'hornbooklaw08.TableChanged'. -/
def tableChangedUptoCard : Claim7 := { stood := { row := tableChangedUptoRow, standIns := [], harness := (true, "bab4b7fe05d19b60cd09ff205b5efdc9eaf5591ea4c19fa52cfe6b354910697f"), looks := false }, kinds := [], alts := [], laidByText := true, laidKinds := [.data, .data, .pinned], laidTests := true, laidLooks := .later }
def TableChangedUptoCardSaid : Prop := Claim7.holds Tryz.pinned (.plain (OpenSpec.upto tableChangedSpec)) tableChangedUptoCard
end Rows
end Go.Proofs.YtblikehnfdhcpaaGreatDoor
