/-
  DERIVED. GIVEN WITH THE SEED: THE CARDS: each row of YtehainbhoflpnaaGreatDoorRows.lean that lists a variable, with what it lists TIED to the program's text (the seventh form; the later family's looks); each row that meets fmt, with fmt's text TOLD by the authors' own Lean function (tested against real Go, not proved from fmt's source: count such statements apart). THE CARD IS WHAT COUNTS. Prove the row's statement (the work); the ties are given (YtehainbhoflpnaaGreatDoorTie.lean); close each card by the builder's one call (the guide's Derived/Test/ToyasCard.lean, 'card_holds'). Laid BY PROGRAM, IN A SANDBOX (cutbox-door.mjs). By AI agents, Wed Nov 11 2026. No macro, syntax, notation, axiom, sorry.
-/
import Derived.Test.YtehainbhoflpnaaGreatDoorRows
import GoSem.ClaimSeven
namespace Go.Proofs.YtehainbhoflpnaaGreatDoor
namespace Rows

/-- THE TIED CARD OF 'hornbooklaw09.KindSteps'. -/
def kindStepsCard : Claim7 := { stood := { row := kindStepsRow, standIns := [], harness := (true, "96c51b8960e0a82b3e2ccadd048d78b4fdb2ec7765a23b25b9793e9ba30d24a3"), looks := false }, kinds := [], alts := [], laidByText := true, laidKinds := [.data, .data, .pinned], laidTests := true, laidLooks := .later }
def KindStepsCardSaid : Prop := Claim7.holds Tryz.pinned (.plain (OpenSpec.ofChange kindStepsSpec)) kindStepsCard

/-- THE TIED CARD OF 'hornbooklaw21.TurnChecks'. -/
def turnChecksCard : Claim7 := { stood := { row := turnChecksRow, standIns := [], harness := (true, "96c51b8960e0a82b3e2ccadd048d78b4fdb2ec7765a23b25b9793e9ba30d24a3"), looks := false }, kinds := [], alts := [], laidByText := true, laidKinds := [.data, .data, .pinned], laidTests := true, laidLooks := .later }
def TurnChecksCardSaid : Prop := Claim7.holds Tryz.pinned (.plain (OpenSpec.ofChange turnChecksSpec)) turnChecksCard

/-- THE SECOND FORM's CARD OF 'hornbooklaw09.KindSteps'. -/
def kindStepsUptoCard : Claim7 := { stood := { row := kindStepsUptoRow, standIns := [], harness := (true, "96c51b8960e0a82b3e2ccadd048d78b4fdb2ec7765a23b25b9793e9ba30d24a3"), looks := false }, kinds := [], alts := [], laidByText := true, laidKinds := [.data, .data, .pinned], laidTests := true, laidLooks := .later }
def KindStepsUptoCardSaid : Prop := Claim7.holds Tryz.pinned (.plain (OpenSpec.upto kindStepsSpec)) kindStepsUptoCard

/-- THE SECOND FORM's CARD OF 'hornbooklaw21.TurnChecks'. -/
def turnChecksUptoCard : Claim7 := { stood := { row := turnChecksUptoRow, standIns := [], harness := (true, "96c51b8960e0a82b3e2ccadd048d78b4fdb2ec7765a23b25b9793e9ba30d24a3"), looks := false }, kinds := [], alts := [], laidByText := true, laidKinds := [.data, .data, .pinned], laidTests := true, laidLooks := .later }
def TurnChecksUptoCardSaid : Prop := Claim7.holds Tryz.pinned (.plain (OpenSpec.upto turnChecksSpec)) turnChecksUptoCard
end Rows
end Go.Proofs.YtehainbhoflpnaaGreatDoor
