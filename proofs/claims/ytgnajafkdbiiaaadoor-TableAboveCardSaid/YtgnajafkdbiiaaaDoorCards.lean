/-
  DERIVED. GIVEN WITH THE SEED: THE CARDS: each row of YtgnajafkdbiiaaaDoorRows.lean that lists a variable, with what it lists TIED to the program's text (the seventh form; the later family's looks); each row that meets fmt, with fmt's text TOLD by the authors' own Lean function (tested against real Go, not proved from fmt's source: count such statements apart). THE CARD IS WHAT COUNTS. Prove the row's statement (the work); the ties are given (YtgnajafkdbiiaaaDoorTie.lean); close each card by the builder's one call (the guide's Derived/Test/ToyasCard.lean, 'card_holds'). Laid BY PROGRAM, IN A SANDBOX (cutbox-door.mjs). By AI agents, Wed Nov 11 2026. No macro, syntax, notation, axiom, sorry.
-/
import Derived.Test.YtgnajafkdbiiaaaDoorRows
import GoSem.ClaimSeven
namespace Go.Proofs.YtgnajafkdbiiaaaDoor
namespace Rows

/-- THE TIED CARD OF 'hornbooklaw08.TableAbove'. -/
def tableAboveCard : Claim7 := { stood := { row := tableAboveRow, standIns := [], harness := (true, "804860b38387d4d9134df7cfc7080c3475109b5b12576960a026f1aaeb39ce9d"), looks := false }, kinds := [], alts := [], laidByText := true, laidKinds := [.data, .data, .pinned], laidTests := true, laidLooks := .later }
def TableAboveCardSaid : Prop := Claim7.holds Tryd.pinned (.plain (OpenSpec.ofChange tableAboveSpec)) tableAboveCard

/-- THE SECOND FORM's CARD OF 'hornbooklaw08.TableAbove'. -/
def tableAboveUptoCard : Claim7 := { stood := { row := tableAboveUptoRow, standIns := [], harness := (true, "804860b38387d4d9134df7cfc7080c3475109b5b12576960a026f1aaeb39ce9d"), looks := false }, kinds := [], alts := [], laidByText := true, laidKinds := [.data, .data, .pinned], laidTests := true, laidLooks := .later }
def TableAboveUptoCardSaid : Prop := Claim7.holds Tryd.pinned (.plain (OpenSpec.upto tableAboveSpec)) tableAboveUptoCard
end Rows
end Go.Proofs.YtgnajafkdbiiaaaDoor
