/-
  DERIVED. GIVEN WITH THE SEED: THE CARDS: each row of YtecpanppnljkhaaDoorRows.lean that lists a variable, with what it lists TIED to the program's text (the seventh form; the later family's looks); each row that meets fmt, with fmt's text TOLD by the authors' own Lean function (tested against real Go, not proved from fmt's source: count such statements apart). THE CARD IS WHAT COUNTS. Prove the row's statement (the work); the ties are given (YtecpanppnljkhaaDoorTie.lean); close each card by the builder's one call (the guide's Derived/Test/ToyasCard.lean, 'card_holds'). Laid BY PROGRAM, IN A SANDBOX (cutbox-door.mjs). By AI agents, Wed Nov 11 2026. No macro, syntax, notation, axiom, sorry.
-/
import Derived.Test.YtecpanppnljkhaaDoorRows
import GoSem.ClaimSeven
namespace Go.Proofs.YtecpanppnljkhaaDoor
namespace Rows

/-- THE TIED CARD OF 'sheafworkslaw04.PrimWoven'. -/
def primWovenCard : Claim7 := { stood := { row := primWovenRow, standIns := [], harness := (true, "165e170aa6ce182620764f5d03f9346384cc021ccbd43512c2f1c96f23b5a8e5"), looks := false }, kinds := [], alts := [], laidByText := true, laidKinds := [.data], laidTests := true, laidLooks := .later }
def PrimWovenCardSaid : Prop := Claim7.holds Tryd.pinned (.plain (OpenSpec.ofChange primWovenSpec)) primWovenCard

/-- THE TIED CARD OF 'sheafworkslaw05.ScanShapes'. -/
def scanShapesCard : Claim7 := { stood := { row := scanShapesRow, standIns := [], harness := (true, "165e170aa6ce182620764f5d03f9346384cc021ccbd43512c2f1c96f23b5a8e5"), looks := false }, kinds := [], alts := [], laidByText := true, laidKinds := [.data], laidTests := true, laidLooks := .later }
def ScanShapesCardSaid : Prop := Claim7.holds Tryd.pinned (.plain (OpenSpec.ofChange scanShapesSpec)) scanShapesCard

/-- THE TIED CARD OF 'sheafworkslaw05.ScanBlocks'. -/
def scanBlocksCard : Claim7 := { stood := { row := scanBlocksRow, standIns := [], harness := (true, "165e170aa6ce182620764f5d03f9346384cc021ccbd43512c2f1c96f23b5a8e5"), looks := false }, kinds := [], alts := [], laidByText := true, laidKinds := [.data], laidTests := true, laidLooks := .later }
def ScanBlocksCardSaid : Prop := Claim7.holds Tryd.pinned (.plain (OpenSpec.ofChange scanBlocksSpec)) scanBlocksCard

/-- THE TIED CARD OF 'sheafworkslaw05.ScanParts'. -/
def scanPartsCard : Claim7 := { stood := { row := scanPartsRow, standIns := [], harness := (true, "165e170aa6ce182620764f5d03f9346384cc021ccbd43512c2f1c96f23b5a8e5"), looks := false }, kinds := [], alts := [], laidByText := true, laidKinds := [.data], laidTests := true, laidLooks := .later }
def ScanPartsCardSaid : Prop := Claim7.holds Tryd.pinned (.plain (OpenSpec.ofChange scanPartsSpec)) scanPartsCard

/-- THE TIED CARD OF 'sheafworkslaw05.ScanFlagged'. -/
def scanFlaggedCard : Claim7 := { stood := { row := scanFlaggedRow, standIns := [], harness := (true, "165e170aa6ce182620764f5d03f9346384cc021ccbd43512c2f1c96f23b5a8e5"), looks := false }, kinds := [], alts := [], laidByText := true, laidKinds := [.data], laidTests := true, laidLooks := .later }
def ScanFlaggedCardSaid : Prop := Claim7.holds Tryd.pinned (.plain (OpenSpec.ofChange scanFlaggedSpec)) scanFlaggedCard

/-- THE TIED CARD OF 'sheafworkslaw05.ScanKnown'. -/
def scanKnownCard : Claim7 := { stood := { row := scanKnownRow, standIns := [], harness := (true, "165e170aa6ce182620764f5d03f9346384cc021ccbd43512c2f1c96f23b5a8e5"), looks := false }, kinds := [], alts := [], laidByText := true, laidKinds := [.data], laidTests := true, laidLooks := .later }
def ScanKnownCardSaid : Prop := Claim7.holds Tryd.pinned (.plain (OpenSpec.ofChange scanKnownSpec)) scanKnownCard

/-- THE SECOND FORM's CARD OF 'sheafworkslaw04.PrimWoven'. -/
def primWovenUptoCard : Claim7 := { stood := { row := primWovenUptoRow, standIns := [], harness := (true, "165e170aa6ce182620764f5d03f9346384cc021ccbd43512c2f1c96f23b5a8e5"), looks := false }, kinds := [], alts := [], laidByText := true, laidKinds := [.data], laidTests := true, laidLooks := .later }
def PrimWovenUptoCardSaid : Prop := Claim7.holds Tryd.pinned (.plain (OpenSpec.upto primWovenSpec)) primWovenUptoCard

/-- THE SECOND FORM's CARD OF 'sheafworkslaw05.ScanShapes'. -/
def scanShapesUptoCard : Claim7 := { stood := { row := scanShapesUptoRow, standIns := [], harness := (true, "165e170aa6ce182620764f5d03f9346384cc021ccbd43512c2f1c96f23b5a8e5"), looks := false }, kinds := [], alts := [], laidByText := true, laidKinds := [.data], laidTests := true, laidLooks := .later }
def ScanShapesUptoCardSaid : Prop := Claim7.holds Tryd.pinned (.plain (OpenSpec.upto scanShapesSpec)) scanShapesUptoCard

/-- THE SECOND FORM's CARD OF 'sheafworkslaw05.ScanBlocks'. -/
def scanBlocksUptoCard : Claim7 := { stood := { row := scanBlocksUptoRow, standIns := [], harness := (true, "165e170aa6ce182620764f5d03f9346384cc021ccbd43512c2f1c96f23b5a8e5"), looks := false }, kinds := [], alts := [], laidByText := true, laidKinds := [.data], laidTests := true, laidLooks := .later }
def ScanBlocksUptoCardSaid : Prop := Claim7.holds Tryd.pinned (.plain (OpenSpec.upto scanBlocksSpec)) scanBlocksUptoCard

/-- THE SECOND FORM's CARD OF 'sheafworkslaw05.ScanParts'. -/
def scanPartsUptoCard : Claim7 := { stood := { row := scanPartsUptoRow, standIns := [], harness := (true, "165e170aa6ce182620764f5d03f9346384cc021ccbd43512c2f1c96f23b5a8e5"), looks := false }, kinds := [], alts := [], laidByText := true, laidKinds := [.data], laidTests := true, laidLooks := .later }
def ScanPartsUptoCardSaid : Prop := Claim7.holds Tryd.pinned (.plain (OpenSpec.upto scanPartsSpec)) scanPartsUptoCard

/-- THE SECOND FORM's CARD OF 'sheafworkslaw05.ScanFlagged'. -/
def scanFlaggedUptoCard : Claim7 := { stood := { row := scanFlaggedUptoRow, standIns := [], harness := (true, "165e170aa6ce182620764f5d03f9346384cc021ccbd43512c2f1c96f23b5a8e5"), looks := false }, kinds := [], alts := [], laidByText := true, laidKinds := [.data], laidTests := true, laidLooks := .later }
def ScanFlaggedUptoCardSaid : Prop := Claim7.holds Tryd.pinned (.plain (OpenSpec.upto scanFlaggedSpec)) scanFlaggedUptoCard

/-- THE SECOND FORM's CARD OF 'sheafworkslaw05.ScanKnown'. -/
def scanKnownUptoCard : Claim7 := { stood := { row := scanKnownUptoRow, standIns := [], harness := (true, "165e170aa6ce182620764f5d03f9346384cc021ccbd43512c2f1c96f23b5a8e5"), looks := false }, kinds := [], alts := [], laidByText := true, laidKinds := [.data], laidTests := true, laidLooks := .later }
def ScanKnownUptoCardSaid : Prop := Claim7.holds Tryd.pinned (.plain (OpenSpec.upto scanKnownSpec)) scanKnownUptoCard
end Rows
end Go.Proofs.YtecpanppnljkhaaDoor
