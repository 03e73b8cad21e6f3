/-
  DERIVED. GIVEN WITH THE SEED: THE CARDS: each row of YtgnajafkdbiiaaaGreatDoorRows.lean that lists a variable, with what it lists TIED to the program's text (the seventh form; the later family's looks); each row that meets fmt, with fmt's text TOLD by the authors' own Lean function (tested against real Go, not proved from fmt's source: count such statements apart). THE CARD IS WHAT COUNTS. Prove the row's statement (the work); the ties are given (YtgnajafkdbiiaaaGreatDoorTie.lean); close each card by the builder's one call (the guide's Derived/Test/ToyasCard.lean, 'card_holds'). Laid BY PROGRAM, IN A SANDBOX (cutbox-door.mjs). By AI agents, Wed Nov 11 2026. No macro, syntax, notation, axiom, sorry.
-/
import Derived.Test.YtgnajafkdbiiaaaGreatDoorRows
import GoSem.ClaimSeven
namespace Go.Proofs.YtgnajafkdbiiaaaGreatDoor
namespace Rows

/-- THE TIED CARD OF 'hornbooklaw08.TableMakes'. -/
def tableMakesCard : Claim7 := { stood := { row := tableMakesRow, standIns := [], harness := (true, "020921bc51e41c69bbe89020f5551c93d4dc5c7b16482f11f8b741fc412a0ac2"), looks := false }, kinds := [], alts := [], laidByText := true, laidKinds := [.data, .data, .pinned], laidTests := true, laidLooks := .later }
def TableMakesCardSaid : Prop := Claim7.holds Tryz.pinned (.plain (OpenSpec.ofChange tableMakesSpec)) tableMakesCard

/-- THE TIED CARD OF 'hornbooklaw08.TableHas'. -/
def tableHasCard : Claim7 := { stood := { row := tableHasRow, standIns := [], harness := (true, "020921bc51e41c69bbe89020f5551c93d4dc5c7b16482f11f8b741fc412a0ac2"), looks := false }, kinds := [], alts := [], laidByText := true, laidKinds := [.data, .data, .pinned], laidTests := true, laidLooks := .later }
def TableHasCardSaid : Prop := Claim7.holds Tryz.pinned (.plain (OpenSpec.ofChange tableHasSpec)) tableHasCard

/-- THE TIED CARD OF 'hornbooklaw08.TableDeps'. -/
def tableDepsCard : Claim7 := { stood := { row := tableDepsRow, standIns := [], harness := (true, "020921bc51e41c69bbe89020f5551c93d4dc5c7b16482f11f8b741fc412a0ac2"), looks := false }, kinds := [], alts := [], laidByText := true, laidKinds := [.data, .data, .pinned], laidTests := true, laidLooks := .later }
def TableDepsCardSaid : Prop := Claim7.holds Tryz.pinned (.plain (OpenSpec.ofChange tableDepsSpec)) tableDepsCard

/-- THE TIED CARD OF 'hornbooklaw08.TableChanged'. -/
def tableChangedCard : Claim7 := { stood := { row := tableChangedRow, standIns := [], harness := (true, "020921bc51e41c69bbe89020f5551c93d4dc5c7b16482f11f8b741fc412a0ac2"), looks := false }, kinds := [], alts := [], laidByText := true, laidKinds := [.data, .data, .pinned], laidTests := true, laidLooks := .later }
def TableChangedCardSaid : Prop := Claim7.holds Tryz.pinned (.plain (OpenSpec.ofChange tableChangedSpec)) tableChangedCard

/-- THE TIED CARD OF 'hornbooklaw08.TableNil'. -/
def tableNilCard : Claim7 := { stood := { row := tableNilRow, standIns := [], harness := (true, "020921bc51e41c69bbe89020f5551c93d4dc5c7b16482f11f8b741fc412a0ac2"), looks := false }, kinds := [], alts := [], laidByText := true, laidKinds := [.data, .data, .pinned], laidTests := true, laidLooks := .later }
def TableNilCardSaid : Prop := Claim7.holds Tryz.pinned (.plain (OpenSpec.ofChange tableNilSpec)) tableNilCard

/-- THE TIED CARD OF 'hornbooklaw09.KindStarts'. -/
def kindStartsCard : Claim7 := { stood := { row := kindStartsRow, standIns := [], harness := (true, "020921bc51e41c69bbe89020f5551c93d4dc5c7b16482f11f8b741fc412a0ac2"), looks := false }, kinds := [], alts := [], laidByText := true, laidKinds := [.data, .data, .pinned], laidTests := true, laidLooks := .later }
def KindStartsCardSaid : Prop := Claim7.holds Tryz.pinned (.plain (OpenSpec.ofChange kindStartsSpec)) kindStartsCard

/-- THE TIED CARD OF 'hornbooklaw09.KindSteps'. -/
def kindStepsCard : Claim7 := { stood := { row := kindStepsRow, standIns := [], harness := (true, "020921bc51e41c69bbe89020f5551c93d4dc5c7b16482f11f8b741fc412a0ac2"), looks := false }, kinds := [], alts := [], laidByText := true, laidKinds := [.data, .data, .pinned], laidTests := true, laidLooks := .later }
def KindStepsCardSaid : Prop := Claim7.holds Tryz.pinned (.plain (OpenSpec.ofChange kindStepsSpec)) kindStepsCard

/-- THE TIED CARD OF 'hornbooklaw09.KindNil'. -/
def kindNilCard : Claim7 := { stood := { row := kindNilRow, standIns := [], harness := (true, "020921bc51e41c69bbe89020f5551c93d4dc5c7b16482f11f8b741fc412a0ac2"), looks := false }, kinds := [], alts := [], laidByText := true, laidKinds := [.data, .data, .pinned], laidTests := true, laidLooks := .later }
def KindNilCardSaid : Prop := Claim7.holds Tryz.pinned (.plain (OpenSpec.ofChange kindNilSpec)) kindNilCard

/-- THE TIED CARD OF 'hornbooklaw10.VerifyNil'. -/
def verifyNilCard : Claim7 := { stood := { row := verifyNilRow, standIns := [], harness := (true, "020921bc51e41c69bbe89020f5551c93d4dc5c7b16482f11f8b741fc412a0ac2"), looks := false }, kinds := [], alts := [], laidByText := true, laidKinds := [.data, .data, .pinned], laidTests := true, laidLooks := .later }
def VerifyNilCardSaid : Prop := Claim7.holds Tryz.pinned (.plain (OpenSpec.ofChange verifyNilSpec)) verifyNilCard

/-- THE SECOND FORM's CARD OF 'hornbooklaw08.TableMakes'. -/
def tableMakesUptoCard : Claim7 := { stood := { row := tableMakesUptoRow, standIns := [], harness := (true, "020921bc51e41c69bbe89020f5551c93d4dc5c7b16482f11f8b741fc412a0ac2"), looks := false }, kinds := [], alts := [], laidByText := true, laidKinds := [.data, .data, .pinned], laidTests := true, laidLooks := .later }
def TableMakesUptoCardSaid : Prop := Claim7.holds Tryz.pinned (.plain (OpenSpec.upto tableMakesSpec)) tableMakesUptoCard

/-- THE SECOND FORM's CARD OF 'hornbooklaw08.TableHas'. -/
def tableHasUptoCard : Claim7 := { stood := { row := tableHasUptoRow, standIns := [], harness := (true, "020921bc51e41c69bbe89020f5551c93d4dc5c7b16482f11f8b741fc412a0ac2"), looks := false }, kinds := [], alts := [], laidByText := true, laidKinds := [.data, .data, .pinned], laidTests := true, laidLooks := .later }
def TableHasUptoCardSaid : Prop := Claim7.holds Tryz.pinned (.plain (OpenSpec.upto tableHasSpec)) tableHasUptoCard

/-- THE SECOND FORM's CARD OF 'hornbooklaw08.TableDeps'. -/
def tableDepsUptoCard : Claim7 := { stood := { row := tableDepsUptoRow, standIns := [], harness := (true, "020921bc51e41c69bbe89020f5551c93d4dc5c7b16482f11f8b741fc412a0ac2"), looks := false }, kinds := [], alts := [], laidByText := true, laidKinds := [.data, .data, .pinned], laidTests := true, laidLooks := .later }
def TableDepsUptoCardSaid : Prop := Claim7.holds Tryz.pinned (.plain (OpenSpec.upto tableDepsSpec)) tableDepsUptoCard

/-- THE SECOND FORM's CARD OF 'hornbooklaw08.TableChanged'. -/
def tableChangedUptoCard : Claim7 := { stood := { row := tableChangedUptoRow, standIns := [], harness := (true, "020921bc51e41c69bbe89020f5551c93d4dc5c7b16482f11f8b741fc412a0ac2"), looks := false }, kinds := [], alts := [], laidByText := true, laidKinds := [.data, .data, .pinned], laidTests := true, laidLooks := .later }
def TableChangedUptoCardSaid : Prop := Claim7.holds Tryz.pinned (.plain (OpenSpec.upto tableChangedSpec)) tableChangedUptoCard

/-- THE SECOND FORM's CARD OF 'hornbooklaw08.TableNil'. -/
def tableNilUptoCard : Claim7 := { stood := { row := tableNilUptoRow, standIns := [], harness := (true, "020921bc51e41c69bbe89020f5551c93d4dc5c7b16482f11f8b741fc412a0ac2"), looks := false }, kinds := [], alts := [], laidByText := true, laidKinds := [.data, .data, .pinned], laidTests := true, laidLooks := .later }
def TableNilUptoCardSaid : Prop := Claim7.holds Tryz.pinned (.plain (OpenSpec.upto tableNilSpec)) tableNilUptoCard

/-- THE SECOND FORM's CARD OF 'hornbooklaw09.KindStarts'. -/
def kindStartsUptoCard : Claim7 := { stood := { row := kindStartsUptoRow, standIns := [], harness := (true, "020921bc51e41c69bbe89020f5551c93d4dc5c7b16482f11f8b741fc412a0ac2"), looks := false }, kinds := [], alts := [], laidByText := true, laidKinds := [.data, .data, .pinned], laidTests := true, laidLooks := .later }
def KindStartsUptoCardSaid : Prop := Claim7.holds Tryz.pinned (.plain (OpenSpec.upto kindStartsSpec)) kindStartsUptoCard

/-- THE SECOND FORM's CARD OF 'hornbooklaw09.KindSteps'. -/
def kindStepsUptoCard : Claim7 := { stood := { row := kindStepsUptoRow, standIns := [], harness := (true, "020921bc51e41c69bbe89020f5551c93d4dc5c7b16482f11f8b741fc412a0ac2"), looks := false }, kinds := [], alts := [], laidByText := true, laidKinds := [.data, .data, .pinned], laidTests := true, laidLooks := .later }
def KindStepsUptoCardSaid : Prop := Claim7.holds Tryz.pinned (.plain (OpenSpec.upto kindStepsSpec)) kindStepsUptoCard

/-- THE SECOND FORM's CARD OF 'hornbooklaw09.KindNil'. -/
def kindNilUptoCard : Claim7 := { stood := { row := kindNilUptoRow, standIns := [], harness := (true, "020921bc51e41c69bbe89020f5551c93d4dc5c7b16482f11f8b741fc412a0ac2"), looks := false }, kinds := [], alts := [], laidByText := true, laidKinds := [.data, .data, .pinned], laidTests := true, laidLooks := .later }
def KindNilUptoCardSaid : Prop := Claim7.holds Tryz.pinned (.plain (OpenSpec.upto kindNilSpec)) kindNilUptoCard

/-- THE SECOND FORM's CARD OF 'hornbooklaw10.VerifyNil'. -/
def verifyNilUptoCard : Claim7 := { stood := { row := verifyNilUptoRow, standIns := [], harness := (true, "020921bc51e41c69bbe89020f5551c93d4dc5c7b16482f11f8b741fc412a0ac2"), looks := false }, kinds := [], alts := [], laidByText := true, laidKinds := [.data, .data, .pinned], laidTests := true, laidLooks := .later }
def VerifyNilUptoCardSaid : Prop := Claim7.holds Tryz.pinned (.plain (OpenSpec.upto verifyNilSpec)) verifyNilUptoCard
end Rows
end Go.Proofs.YtgnajafkdbiiaaaGreatDoor
