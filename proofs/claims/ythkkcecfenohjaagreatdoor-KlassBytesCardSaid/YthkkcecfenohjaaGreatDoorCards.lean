/-
  DERIVED. GIVEN WITH THE SEED: THE CARDS: each row of YthkkcecfenohjaaGreatDoorRows.lean that lists a variable, with what it lists TIED to the program's text (the seventh form; the later family's looks); each row that meets fmt, with fmt's text TOLD by the authors' own Lean function (tested against real Go, not proved from fmt's source: count such statements apart). THE CARD IS WHAT COUNTS. Prove the row's statement (the work); the ties are given (YthkkcecfenohjaaGreatDoorTie.lean); close each card by the builder's one call (the guide's Derived/Test/ToyasCard.lean, 'card_holds'). Laid BY PROGRAM, IN A SANDBOX (cutbox-door.mjs). By AI agents, Wed Nov 11 2026. No macro, syntax, notation, axiom, sorry.
-/
import Derived.Test.YthkkcecfenohjaaGreatDoorRows
import GoSem.ClaimSeven
namespace Go.Proofs.YthkkcecfenohjaaGreatDoor
namespace Rows

/-- THE TIED CARD OF 'hornbooklaw05.KlassRights'. -/
def klassRightsCard : Claim7 := { stood := { row := klassRightsRow, standIns := [], harness := (true, "8ec8a470e62f1af48e0c92c166b1d6adb9dba01b5005e520ee1205661c515438"), looks := false }, kinds := [], alts := [], laidByText := true, laidKinds := [.data, .data, .pinned], laidTests := true, laidLooks := .later }
def KlassRightsCardSaid : Prop := Claim7.holds Tryz.pinned (.plain (OpenSpec.ofChange klassRightsSpec)) klassRightsCard

/-- THE TIED CARD OF 'hornbooklaw05.KlassBytes'. -/
def klassBytesCard : Claim7 := { stood := { row := klassBytesRow, standIns := [], harness := (true, "8ec8a470e62f1af48e0c92c166b1d6adb9dba01b5005e520ee1205661c515438"), looks := false }, kinds := [], alts := [], laidByText := true, laidKinds := [.data, .data, .pinned], laidTests := true, laidLooks := .later }
def KlassBytesCardSaid : Prop := Claim7.holds Tryz.pinned (.plain (OpenSpec.ofChange klassBytesSpec)) klassBytesCard

/-- THE TIED CARD OF 'hornbooklaw05.KlassCanons'. -/
def klassCanonsCard : Claim7 := { stood := { row := klassCanonsRow, standIns := [], harness := (true, "8ec8a470e62f1af48e0c92c166b1d6adb9dba01b5005e520ee1205661c515438"), looks := false }, kinds := [], alts := [], laidByText := true, laidKinds := [.data, .data, .pinned], laidTests := true, laidLooks := .later }
def KlassCanonsCardSaid : Prop := Claim7.holds Tryz.pinned (.plain (OpenSpec.ofChange klassCanonsSpec)) klassCanonsCard

/-- THE TIED CARD OF 'hornbooklaw05.KlassSame'. -/
def klassSameCard : Claim7 := { stood := { row := klassSameRow, standIns := [], harness := (true, "8ec8a470e62f1af48e0c92c166b1d6adb9dba01b5005e520ee1205661c515438"), looks := false }, kinds := [], alts := [], laidByText := true, laidKinds := [.data, .data, .pinned], laidTests := true, laidLooks := .later }
def KlassSameCardSaid : Prop := Claim7.holds Tryz.pinned (.plain (OpenSpec.ofChange klassSameSpec)) klassSameCard

/-- THE TIED CARD OF 'hornbooklaw06.PackRights'. -/
def packRightsCard : Claim7 := { stood := { row := packRightsRow, standIns := [], harness := (true, "8ec8a470e62f1af48e0c92c166b1d6adb9dba01b5005e520ee1205661c515438"), looks := false }, kinds := [], alts := [], laidByText := true, laidKinds := [.data, .data, .pinned], laidTests := true, laidLooks := .later }
def PackRightsCardSaid : Prop := Claim7.holds Tryz.pinned (.plain (OpenSpec.ofChange packRightsSpec)) packRightsCard

/-- THE TIED CARD OF 'hornbooklaw06.PackBytes'. -/
def packBytesCard : Claim7 := { stood := { row := packBytesRow, standIns := [], harness := (true, "8ec8a470e62f1af48e0c92c166b1d6adb9dba01b5005e520ee1205661c515438"), looks := false }, kinds := [], alts := [], laidByText := true, laidKinds := [.data, .data, .pinned], laidTests := true, laidLooks := .later }
def PackBytesCardSaid : Prop := Claim7.holds Tryz.pinned (.plain (OpenSpec.ofChange packBytesSpec)) packBytesCard

/-- THE TIED CARD OF 'hornbooklaw06.PackSame'. -/
def packSameCard : Claim7 := { stood := { row := packSameRow, standIns := [], harness := (true, "8ec8a470e62f1af48e0c92c166b1d6adb9dba01b5005e520ee1205661c515438"), looks := false }, kinds := [], alts := [], laidByText := true, laidKinds := [.data, .data, .pinned], laidTests := true, laidLooks := .later }
def PackSameCardSaid : Prop := Claim7.holds Tryz.pinned (.plain (OpenSpec.ofChange packSameSpec)) packSameCard

/-- THE TIED CARD OF 'hornbooklaw06.PackShort'. -/
def packShortCard : Claim7 := { stood := { row := packShortRow, standIns := [], harness := (true, "8ec8a470e62f1af48e0c92c166b1d6adb9dba01b5005e520ee1205661c515438"), looks := false }, kinds := [], alts := [], laidByText := true, laidKinds := [.data, .data, .pinned], laidTests := true, laidLooks := .later }
def PackShortCardSaid : Prop := Claim7.holds Tryz.pinned (.plain (OpenSpec.ofChange packShortSpec)) packShortCard

/-- THE SECOND FORM's CARD OF 'hornbooklaw05.KlassRights'. -/
def klassRightsUptoCard : Claim7 := { stood := { row := klassRightsUptoRow, standIns := [], harness := (true, "8ec8a470e62f1af48e0c92c166b1d6adb9dba01b5005e520ee1205661c515438"), looks := false }, kinds := [], alts := [], laidByText := true, laidKinds := [.data, .data, .pinned], laidTests := true, laidLooks := .later }
def KlassRightsUptoCardSaid : Prop := Claim7.holds Tryz.pinned (.plain (OpenSpec.upto klassRightsSpec)) klassRightsUptoCard

/-- THE SECOND FORM's CARD OF 'hornbooklaw05.KlassBytes'. -/
def klassBytesUptoCard : Claim7 := { stood := { row := klassBytesUptoRow, standIns := [], harness := (true, "8ec8a470e62f1af48e0c92c166b1d6adb9dba01b5005e520ee1205661c515438"), looks := false }, kinds := [], alts := [], laidByText := true, laidKinds := [.data, .data, .pinned], laidTests := true, laidLooks := .later }
def KlassBytesUptoCardSaid : Prop := Claim7.holds Tryz.pinned (.plain (OpenSpec.upto klassBytesSpec)) klassBytesUptoCard

/-- THE SECOND FORM's CARD OF 'hornbooklaw05.KlassCanons'. -/
def klassCanonsUptoCard : Claim7 := { stood := { row := klassCanonsUptoRow, standIns := [], harness := (true, "8ec8a470e62f1af48e0c92c166b1d6adb9dba01b5005e520ee1205661c515438"), looks := false }, kinds := [], alts := [], laidByText := true, laidKinds := [.data, .data, .pinned], laidTests := true, laidLooks := .later }
def KlassCanonsUptoCardSaid : Prop := Claim7.holds Tryz.pinned (.plain (OpenSpec.upto klassCanonsSpec)) klassCanonsUptoCard

/-- THE SECOND FORM's CARD OF 'hornbooklaw05.KlassSame'. -/
def klassSameUptoCard : Claim7 := { stood := { row := klassSameUptoRow, standIns := [], harness := (true, "8ec8a470e62f1af48e0c92c166b1d6adb9dba01b5005e520ee1205661c515438"), looks := false }, kinds := [], alts := [], laidByText := true, laidKinds := [.data, .data, .pinned], laidTests := true, laidLooks := .later }
def KlassSameUptoCardSaid : Prop := Claim7.holds Tryz.pinned (.plain (OpenSpec.upto klassSameSpec)) klassSameUptoCard

/-- THE SECOND FORM's CARD OF 'hornbooklaw06.PackRights'. -/
def packRightsUptoCard : Claim7 := { stood := { row := packRightsUptoRow, standIns := [], harness := (true, "8ec8a470e62f1af48e0c92c166b1d6adb9dba01b5005e520ee1205661c515438"), looks := false }, kinds := [], alts := [], laidByText := true, laidKinds := [.data, .data, .pinned], laidTests := true, laidLooks := .later }
def PackRightsUptoCardSaid : Prop := Claim7.holds Tryz.pinned (.plain (OpenSpec.upto packRightsSpec)) packRightsUptoCard

/-- THE SECOND FORM's CARD OF 'hornbooklaw06.PackBytes'. -/
def packBytesUptoCard : Claim7 := { stood := { row := packBytesUptoRow, standIns := [], harness := (true, "8ec8a470e62f1af48e0c92c166b1d6adb9dba01b5005e520ee1205661c515438"), looks := false }, kinds := [], alts := [], laidByText := true, laidKinds := [.data, .data, .pinned], laidTests := true, laidLooks := .later }
def PackBytesUptoCardSaid : Prop := Claim7.holds Tryz.pinned (.plain (OpenSpec.upto packBytesSpec)) packBytesUptoCard

/-- THE SECOND FORM's CARD OF 'hornbooklaw06.PackSame'. -/
def packSameUptoCard : Claim7 := { stood := { row := packSameUptoRow, standIns := [], harness := (true, "8ec8a470e62f1af48e0c92c166b1d6adb9dba01b5005e520ee1205661c515438"), looks := false }, kinds := [], alts := [], laidByText := true, laidKinds := [.data, .data, .pinned], laidTests := true, laidLooks := .later }
def PackSameUptoCardSaid : Prop := Claim7.holds Tryz.pinned (.plain (OpenSpec.upto packSameSpec)) packSameUptoCard

/-- THE SECOND FORM's CARD OF 'hornbooklaw06.PackShort'. -/
def packShortUptoCard : Claim7 := { stood := { row := packShortUptoRow, standIns := [], harness := (true, "8ec8a470e62f1af48e0c92c166b1d6adb9dba01b5005e520ee1205661c515438"), looks := false }, kinds := [], alts := [], laidByText := true, laidKinds := [.data, .data, .pinned], laidTests := true, laidLooks := .later }
def PackShortUptoCardSaid : Prop := Claim7.holds Tryz.pinned (.plain (OpenSpec.upto packShortSpec)) packShortUptoCard
end Rows
end Go.Proofs.YthkkcecfenohjaaGreatDoor
