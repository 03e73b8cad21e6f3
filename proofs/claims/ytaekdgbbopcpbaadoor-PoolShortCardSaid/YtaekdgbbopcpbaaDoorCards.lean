/-
  DERIVED. GIVEN WITH THE SEED: THE CARDS: each row of YtaekdgbbopcpbaaDoorRows.lean that lists a variable, with what it lists TIED to the program's text (the seventh form; the later family's looks); each row that meets fmt, with fmt's text TOLD by the authors' own Lean function (tested against real Go, not proved from fmt's source: count such statements apart). THE CARD IS WHAT COUNTS. Prove the row's statement (the work); the ties are given (YtaekdgbbopcpbaaDoorTie.lean); close each card by the builder's one call (the guide's Derived/Test/ToyasCard.lean, 'card_holds'). Laid BY PROGRAM, IN A SANDBOX (cutbox-door.mjs). By AI agents, Wed Nov 11 2026. No macro, syntax, notation, axiom, sorry.
-/
import Derived.Test.YtaekdgbbopcpbaaDoorRows
import GoSem.ClaimSeven
namespace Go.Proofs.YtaekdgbbopcpbaaDoor
namespace Rows

/-- THE TIED CARD OF 'hornbooklaw03.PoolOnes'. -/
def poolOnesCard : Claim7 := { stood := { row := poolOnesRow, standIns := [], harness := (true, "1ae359fe0ffa9a1d852213d160eab298d3b10bbb5e99437192f462fbaee1d809"), looks := false }, kinds := [], alts := [], laidByText := true, laidKinds := [.data, .pinned], laidTests := true, laidLooks := .later }
def PoolOnesCardSaid : Prop := Claim7.holds Tryd.pinned (.plain (OpenSpec.ofChange poolOnesSpec)) poolOnesCard

/-- THE TIED CARD OF 'hornbooklaw03.PoolLists'. -/
def poolListsCard : Claim7 := { stood := { row := poolListsRow, standIns := [], harness := (true, "1ae359fe0ffa9a1d852213d160eab298d3b10bbb5e99437192f462fbaee1d809"), looks := false }, kinds := [], alts := [], laidByText := true, laidKinds := [.data, .pinned], laidTests := true, laidLooks := .later }
def PoolListsCardSaid : Prop := Claim7.holds Tryd.pinned (.plain (OpenSpec.ofChange poolListsSpec)) poolListsCard

/-- THE TIED CARD OF 'hornbooklaw03.PoolAdds'. -/
def poolAddsCard : Claim7 := { stood := { row := poolAddsRow, standIns := [], harness := (true, "1ae359fe0ffa9a1d852213d160eab298d3b10bbb5e99437192f462fbaee1d809"), looks := false }, kinds := [], alts := [], laidByText := true, laidKinds := [.data, .pinned], laidTests := true, laidLooks := .later }
def PoolAddsCardSaid : Prop := Claim7.holds Tryd.pinned (.plain (OpenSpec.ofChange poolAddsSpec)) poolAddsCard

/-- THE TIED CARD OF 'hornbooklaw03.PoolShort'. -/
def poolShortCard : Claim7 := { stood := { row := poolShortRow, standIns := [], harness := (true, "1ae359fe0ffa9a1d852213d160eab298d3b10bbb5e99437192f462fbaee1d809"), looks := false }, kinds := [], alts := [], laidByText := true, laidKinds := [.data, .pinned], laidTests := true, laidLooks := .later }
def PoolShortCardSaid : Prop := Claim7.holds Tryd.pinned (.plain (OpenSpec.ofChange poolShortSpec)) poolShortCard

/-- THE TIED CARD OF 'hornbooklaw04.InsNames'. -/
def insNamesCard : Claim7 := { stood := { row := insNamesRow, standIns := [], harness := (true, "1ae359fe0ffa9a1d852213d160eab298d3b10bbb5e99437192f462fbaee1d809"), looks := false }, kinds := [], alts := [], laidByText := true, laidKinds := [.data], laidTests := true, laidLooks := .later }
def InsNamesCardSaid : Prop := Claim7.holds Tryd.pinned (.plain (OpenSpec.ofChange insNamesSpec)) insNamesCard

/-- THE TIED CARD OF 'hornbooklaw04.InsChecks'. -/
def insChecksCard : Claim7 := { stood := { row := insChecksRow, standIns := [], harness := (true, "1ae359fe0ffa9a1d852213d160eab298d3b10bbb5e99437192f462fbaee1d809"), looks := false }, kinds := [], alts := [], laidByText := true, laidKinds := [.data], laidTests := true, laidLooks := .later }
def InsChecksCardSaid : Prop := Claim7.holds Tryd.pinned (.plain (OpenSpec.ofChange insChecksSpec)) insChecksCard

/-- THE TIED CARD OF 'hornbooklaw04.InsFlows'. -/
def insFlowsCard : Claim7 := { stood := { row := insFlowsRow, standIns := [], harness := (true, "1ae359fe0ffa9a1d852213d160eab298d3b10bbb5e99437192f462fbaee1d809"), looks := false }, kinds := [], alts := [], laidByText := true, laidKinds := [.data], laidTests := true, laidLooks := .later }
def InsFlowsCardSaid : Prop := Claim7.holds Tryd.pinned (.plain (OpenSpec.ofChange insFlowsSpec)) insFlowsCard

/-- THE TIED CARD OF 'hornbooklaw04.InsBytes'. -/
def insBytesCard : Claim7 := { stood := { row := insBytesRow, standIns := [], harness := (true, "1ae359fe0ffa9a1d852213d160eab298d3b10bbb5e99437192f462fbaee1d809"), looks := false }, kinds := [], alts := [], laidByText := true, laidKinds := [.data], laidTests := true, laidLooks := .later }
def InsBytesCardSaid : Prop := Claim7.holds Tryd.pinned (.plain (OpenSpec.ofChange insBytesSpec)) insBytesCard

/-- THE SECOND FORM's CARD OF 'hornbooklaw03.PoolOnes'. -/
def poolOnesUptoCard : Claim7 := { stood := { row := poolOnesUptoRow, standIns := [], harness := (true, "1ae359fe0ffa9a1d852213d160eab298d3b10bbb5e99437192f462fbaee1d809"), looks := false }, kinds := [], alts := [], laidByText := true, laidKinds := [.data, .pinned], laidTests := true, laidLooks := .later }
def PoolOnesUptoCardSaid : Prop := Claim7.holds Tryd.pinned (.plain (OpenSpec.upto poolOnesSpec)) poolOnesUptoCard

/-- THE SECOND FORM's CARD OF 'hornbooklaw03.PoolLists'. -/
def poolListsUptoCard : Claim7 := { stood := { row := poolListsUptoRow, standIns := [], harness := (true, "1ae359fe0ffa9a1d852213d160eab298d3b10bbb5e99437192f462fbaee1d809"), looks := false }, kinds := [], alts := [], laidByText := true, laidKinds := [.data, .pinned], laidTests := true, laidLooks := .later }
def PoolListsUptoCardSaid : Prop := Claim7.holds Tryd.pinned (.plain (OpenSpec.upto poolListsSpec)) poolListsUptoCard

/-- THE SECOND FORM's CARD OF 'hornbooklaw03.PoolAdds'. -/
def poolAddsUptoCard : Claim7 := { stood := { row := poolAddsUptoRow, standIns := [], harness := (true, "1ae359fe0ffa9a1d852213d160eab298d3b10bbb5e99437192f462fbaee1d809"), looks := false }, kinds := [], alts := [], laidByText := true, laidKinds := [.data, .pinned], laidTests := true, laidLooks := .later }
def PoolAddsUptoCardSaid : Prop := Claim7.holds Tryd.pinned (.plain (OpenSpec.upto poolAddsSpec)) poolAddsUptoCard

/-- THE SECOND FORM's CARD OF 'hornbooklaw03.PoolShort'. -/
def poolShortUptoCard : Claim7 := { stood := { row := poolShortUptoRow, standIns := [], harness := (true, "1ae359fe0ffa9a1d852213d160eab298d3b10bbb5e99437192f462fbaee1d809"), looks := false }, kinds := [], alts := [], laidByText := true, laidKinds := [.data, .pinned], laidTests := true, laidLooks := .later }
def PoolShortUptoCardSaid : Prop := Claim7.holds Tryd.pinned (.plain (OpenSpec.upto poolShortSpec)) poolShortUptoCard

/-- THE SECOND FORM's CARD OF 'hornbooklaw04.InsNames'. -/
def insNamesUptoCard : Claim7 := { stood := { row := insNamesUptoRow, standIns := [], harness := (true, "1ae359fe0ffa9a1d852213d160eab298d3b10bbb5e99437192f462fbaee1d809"), looks := false }, kinds := [], alts := [], laidByText := true, laidKinds := [.data], laidTests := true, laidLooks := .later }
def InsNamesUptoCardSaid : Prop := Claim7.holds Tryd.pinned (.plain (OpenSpec.upto insNamesSpec)) insNamesUptoCard

/-- THE SECOND FORM's CARD OF 'hornbooklaw04.InsChecks'. -/
def insChecksUptoCard : Claim7 := { stood := { row := insChecksUptoRow, standIns := [], harness := (true, "1ae359fe0ffa9a1d852213d160eab298d3b10bbb5e99437192f462fbaee1d809"), looks := false }, kinds := [], alts := [], laidByText := true, laidKinds := [.data], laidTests := true, laidLooks := .later }
def InsChecksUptoCardSaid : Prop := Claim7.holds Tryd.pinned (.plain (OpenSpec.upto insChecksSpec)) insChecksUptoCard

/-- THE SECOND FORM's CARD OF 'hornbooklaw04.InsFlows'. -/
def insFlowsUptoCard : Claim7 := { stood := { row := insFlowsUptoRow, standIns := [], harness := (true, "1ae359fe0ffa9a1d852213d160eab298d3b10bbb5e99437192f462fbaee1d809"), looks := false }, kinds := [], alts := [], laidByText := true, laidKinds := [.data], laidTests := true, laidLooks := .later }
def InsFlowsUptoCardSaid : Prop := Claim7.holds Tryd.pinned (.plain (OpenSpec.upto insFlowsSpec)) insFlowsUptoCard

/-- THE SECOND FORM's CARD OF 'hornbooklaw04.InsBytes'. -/
def insBytesUptoCard : Claim7 := { stood := { row := insBytesUptoRow, standIns := [], harness := (true, "1ae359fe0ffa9a1d852213d160eab298d3b10bbb5e99437192f462fbaee1d809"), looks := false }, kinds := [], alts := [], laidByText := true, laidKinds := [.data], laidTests := true, laidLooks := .later }
def InsBytesUptoCardSaid : Prop := Claim7.holds Tryd.pinned (.plain (OpenSpec.upto insBytesSpec)) insBytesUptoCard
end Rows
end Go.Proofs.YtaekdgbbopcpbaaDoor
