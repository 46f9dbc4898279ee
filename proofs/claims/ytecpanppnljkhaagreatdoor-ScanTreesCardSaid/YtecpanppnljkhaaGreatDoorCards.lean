/-
  DERIVED. GIVEN WITH THE SEED: THE CARDS: each row of YtecpanppnljkhaaGreatDoorRows.lean that lists a variable, with what it lists TIED to the program's text (the seventh form; the later family's looks); each row that meets fmt, with fmt's text TOLD by the authors' own Lean function (tested against real Go, not proved from fmt's source: count such statements apart). THE CARD IS WHAT COUNTS. Prove the row's statement (the work); the ties are given (YtecpanppnljkhaaGreatDoorTie.lean); close each card by the builder's one call (the guide's Derived/Test/ToyasCard.lean, 'card_holds'). Laid BY PROGRAM, IN A SANDBOX (cutbox-door.mjs). By AI agents, Wed Nov 11 2026. No macro, syntax, notation, axiom, sorry.
-/
import Derived.Test.YtecpanppnljkhaaGreatDoorRows
import GoSem.ClaimSeven
namespace Go.Proofs.YtecpanppnljkhaaGreatDoor
namespace Rows

/-- THE TIED CARD OF 'sheafworkslaw05.ScanFolds'. -/
def scanFoldsCard : Claim7 := { stood := { row := scanFoldsRow, standIns := [], harness := (true, "39db146c1ea4f99e319f61b0ca8fb22d700a93142eae72cffab67917881868a7"), looks := false }, kinds := [], alts := [], laidByText := true, laidKinds := [.data], laidTests := true, laidLooks := .later }
def ScanFoldsCardSaid : Prop := Claim7.holds Tryz.pinned (.plain (OpenSpec.ofChange scanFoldsSpec)) scanFoldsCard

/-- THE TIED CARD OF 'sheafworkslaw05.ScanTrees'. -/
def scanTreesCard : Claim7 := { stood := { row := scanTreesRow, standIns := [], harness := (true, "39db146c1ea4f99e319f61b0ca8fb22d700a93142eae72cffab67917881868a7"), looks := false }, kinds := [], alts := [], laidByText := true, laidKinds := [.data], laidTests := true, laidLooks := .later }
def ScanTreesCardSaid : Prop := Claim7.holds Tryz.pinned (.plain (OpenSpec.ofChange scanTreesSpec)) scanTreesCard

/-- THE TIED CARD OF 'sheafworkslaw05.ScanDowns'. -/
def scanDownsCard : Claim7 := { stood := { row := scanDownsRow, standIns := [], harness := (true, "39db146c1ea4f99e319f61b0ca8fb22d700a93142eae72cffab67917881868a7"), looks := false }, kinds := [], alts := [], laidByText := true, laidKinds := [.data], laidTests := true, laidLooks := .later }
def ScanDownsCardSaid : Prop := Claim7.holds Tryz.pinned (.plain (OpenSpec.ofChange scanDownsSpec)) scanDownsCard

/-- THE TIED CARD OF 'sheafworkslaw05.ScanFlags'. -/
def scanFlagsCard : Claim7 := { stood := { row := scanFlagsRow, standIns := [], harness := (true, "39db146c1ea4f99e319f61b0ca8fb22d700a93142eae72cffab67917881868a7"), looks := false }, kinds := [], alts := [], laidByText := true, laidKinds := [.data], laidTests := true, laidLooks := .later }
def ScanFlagsCardSaid : Prop := Claim7.holds Tryz.pinned (.plain (OpenSpec.ofChange scanFlagsSpec)) scanFlagsCard

/-- THE SECOND FORM's CARD OF 'sheafworkslaw05.ScanFolds'. -/
def scanFoldsUptoCard : Claim7 := { stood := { row := scanFoldsUptoRow, standIns := [], harness := (true, "39db146c1ea4f99e319f61b0ca8fb22d700a93142eae72cffab67917881868a7"), looks := false }, kinds := [], alts := [], laidByText := true, laidKinds := [.data], laidTests := true, laidLooks := .later }
def ScanFoldsUptoCardSaid : Prop := Claim7.holds Tryz.pinned (.plain (OpenSpec.upto scanFoldsSpec)) scanFoldsUptoCard

/-- THE SECOND FORM's CARD OF 'sheafworkslaw05.ScanTrees'. -/
def scanTreesUptoCard : Claim7 := { stood := { row := scanTreesUptoRow, standIns := [], harness := (true, "39db146c1ea4f99e319f61b0ca8fb22d700a93142eae72cffab67917881868a7"), looks := false }, kinds := [], alts := [], laidByText := true, laidKinds := [.data], laidTests := true, laidLooks := .later }
def ScanTreesUptoCardSaid : Prop := Claim7.holds Tryz.pinned (.plain (OpenSpec.upto scanTreesSpec)) scanTreesUptoCard

/-- THE SECOND FORM's CARD OF 'sheafworkslaw05.ScanDowns'. -/
def scanDownsUptoCard : Claim7 := { stood := { row := scanDownsUptoRow, standIns := [], harness := (true, "39db146c1ea4f99e319f61b0ca8fb22d700a93142eae72cffab67917881868a7"), looks := false }, kinds := [], alts := [], laidByText := true, laidKinds := [.data], laidTests := true, laidLooks := .later }
def ScanDownsUptoCardSaid : Prop := Claim7.holds Tryz.pinned (.plain (OpenSpec.upto scanDownsSpec)) scanDownsUptoCard

/-- THE SECOND FORM's CARD OF 'sheafworkslaw05.ScanFlags'. -/
def scanFlagsUptoCard : Claim7 := { stood := { row := scanFlagsUptoRow, standIns := [], harness := (true, "39db146c1ea4f99e319f61b0ca8fb22d700a93142eae72cffab67917881868a7"), looks := false }, kinds := [], alts := [], laidByText := true, laidKinds := [.data], laidTests := true, laidLooks := .later }
def ScanFlagsUptoCardSaid : Prop := Claim7.holds Tryz.pinned (.plain (OpenSpec.upto scanFlagsSpec)) scanFlagsUptoCard
end Rows
end Go.Proofs.YtecpanppnljkhaaGreatDoor
