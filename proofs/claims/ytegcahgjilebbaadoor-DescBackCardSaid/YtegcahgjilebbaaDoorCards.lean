/-
  DERIVED. GIVEN WITH THE SEED: THE CARDS: each row of YtegcahgjilebbaaDoorRows.lean that lists a variable, with what it lists TIED to the program's text (the seventh form; the later family's looks); each row that meets fmt, with fmt's text TOLD by the authors' own Lean function (tested against real Go, not proved from fmt's source: count such statements apart). THE CARD IS WHAT COUNTS. Prove the row's statement (the work); the ties are given (YtegcahgjilebbaaDoorTie.lean); close each card by the builder's one call (the guide's Derived/Test/ToyasCard.lean, 'card_holds'). Laid BY PROGRAM, IN A SANDBOX (cutbox-door.mjs). By AI agents, Wed Nov 11 2026. No macro, syntax, notation, axiom, sorry.
-/
import Derived.Test.YtegcahgjilebbaaDoorRows
import GoSem.ClaimSeven
namespace Go.Proofs.YtegcahgjilebbaaDoor
namespace Rows

/-- THE TIED CARD OF 'hornbooklaw02.DescRights'. -/
def descRightsCard : Claim7 := { stood := { row := descRightsRow, standIns := [], harness := (true, "6a0d9f4ae7a197aced26cde73e148fb80fc66b636519dbfdecf4e65a99c3f290"), looks := false }, kinds := [], alts := [], laidByText := true, laidKinds := [.data, .pinned], laidTests := true, laidLooks := .later }
def DescRightsCardSaid : Prop := Claim7.holds Tryd.pinned (.plain (OpenSpec.ofChange descRightsSpec)) descRightsCard

/-- THE TIED CARD OF 'hornbooklaw02.DescArrays'. -/
def descArraysCard : Claim7 := { stood := { row := descArraysRow, standIns := [], harness := (true, "6a0d9f4ae7a197aced26cde73e148fb80fc66b636519dbfdecf4e65a99c3f290"), looks := false }, kinds := [], alts := [], laidByText := true, laidKinds := [.data, .pinned], laidTests := true, laidLooks := .later }
def DescArraysCardSaid : Prop := Claim7.holds Tryd.pinned (.plain (OpenSpec.ofChange descArraysSpec)) descArraysCard

/-- THE TIED CARD OF 'hornbooklaw02.DescSigs'. -/
def descSigsCard : Claim7 := { stood := { row := descSigsRow, standIns := [], harness := (true, "6a0d9f4ae7a197aced26cde73e148fb80fc66b636519dbfdecf4e65a99c3f290"), looks := false }, kinds := [], alts := [], laidByText := true, laidKinds := [.data, .pinned], laidTests := true, laidLooks := .later }
def DescSigsCardSaid : Prop := Claim7.holds Tryd.pinned (.plain (OpenSpec.ofChange descSigsSpec)) descSigsCard

/-- THE TIED CARD OF 'hornbooklaw02.DescBack'. -/
def descBackCard : Claim7 := { stood := { row := descBackRow, standIns := [], harness := (true, "6a0d9f4ae7a197aced26cde73e148fb80fc66b636519dbfdecf4e65a99c3f290"), looks := false }, kinds := [], alts := [], laidByText := true, laidKinds := [.data, .pinned], laidTests := true, laidLooks := .later }
def DescBackCardSaid : Prop := Claim7.holds Tryd.pinned (.plain (OpenSpec.ofChange descBackSpec)) descBackCard

/-- THE TIED CARD OF 'hornbooklaw02.DescShown'. -/
def descShownCard : Claim7 := { stood := { row := descShownRow, standIns := [], harness := (true, "6a0d9f4ae7a197aced26cde73e148fb80fc66b636519dbfdecf4e65a99c3f290"), looks := false }, kinds := [], alts := [], laidByText := true, laidKinds := [.data, .pinned], laidTests := true, laidLooks := .later }
def DescShownCardSaid : Prop := Claim7.holds Tryd.pinned (.plain (OpenSpec.ofChange descShownSpec)) descShownCard

/-- THE SECOND FORM's CARD OF 'hornbooklaw02.DescRights'. -/
def descRightsUptoCard : Claim7 := { stood := { row := descRightsUptoRow, standIns := [], harness := (true, "6a0d9f4ae7a197aced26cde73e148fb80fc66b636519dbfdecf4e65a99c3f290"), looks := false }, kinds := [], alts := [], laidByText := true, laidKinds := [.data, .pinned], laidTests := true, laidLooks := .later }
def DescRightsUptoCardSaid : Prop := Claim7.holds Tryd.pinned (.plain (OpenSpec.upto descRightsSpec)) descRightsUptoCard

/-- THE SECOND FORM's CARD OF 'hornbooklaw02.DescArrays'. -/
def descArraysUptoCard : Claim7 := { stood := { row := descArraysUptoRow, standIns := [], harness := (true, "6a0d9f4ae7a197aced26cde73e148fb80fc66b636519dbfdecf4e65a99c3f290"), looks := false }, kinds := [], alts := [], laidByText := true, laidKinds := [.data, .pinned], laidTests := true, laidLooks := .later }
def DescArraysUptoCardSaid : Prop := Claim7.holds Tryd.pinned (.plain (OpenSpec.upto descArraysSpec)) descArraysUptoCard

/-- THE SECOND FORM's CARD OF 'hornbooklaw02.DescSigs'. -/
def descSigsUptoCard : Claim7 := { stood := { row := descSigsUptoRow, standIns := [], harness := (true, "6a0d9f4ae7a197aced26cde73e148fb80fc66b636519dbfdecf4e65a99c3f290"), looks := false }, kinds := [], alts := [], laidByText := true, laidKinds := [.data, .pinned], laidTests := true, laidLooks := .later }
def DescSigsUptoCardSaid : Prop := Claim7.holds Tryd.pinned (.plain (OpenSpec.upto descSigsSpec)) descSigsUptoCard

/-- THE SECOND FORM's CARD OF 'hornbooklaw02.DescBack'. -/
def descBackUptoCard : Claim7 := { stood := { row := descBackUptoRow, standIns := [], harness := (true, "6a0d9f4ae7a197aced26cde73e148fb80fc66b636519dbfdecf4e65a99c3f290"), looks := false }, kinds := [], alts := [], laidByText := true, laidKinds := [.data, .pinned], laidTests := true, laidLooks := .later }
def DescBackUptoCardSaid : Prop := Claim7.holds Tryd.pinned (.plain (OpenSpec.upto descBackSpec)) descBackUptoCard

/-- THE SECOND FORM's CARD OF 'hornbooklaw02.DescShown'. -/
def descShownUptoCard : Claim7 := { stood := { row := descShownUptoRow, standIns := [], harness := (true, "6a0d9f4ae7a197aced26cde73e148fb80fc66b636519dbfdecf4e65a99c3f290"), looks := false }, kinds := [], alts := [], laidByText := true, laidKinds := [.data, .pinned], laidTests := true, laidLooks := .later }
def DescShownUptoCardSaid : Prop := Claim7.holds Tryd.pinned (.plain (OpenSpec.upto descShownSpec)) descShownUptoCard
end Rows
end Go.Proofs.YtegcahgjilebbaaDoor
