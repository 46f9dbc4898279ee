/-
  NARROWER THAN 'FOR EVERY INPUT', by the rows' own cells (each row's printed sentence says how): PrimWoven: laid · ScanShapes: laid · ScanBlocks: laid · ScanParts: laid · ScanFlagged: laid · ScanKnown: laid.
  DERIVED. THE GIVEN ROWS OF THIS SEAT. 6 by the template 'for every input the law returns true; each argument reads behind the call as it read before'; 0 by the template 'total and deterministic' (their statements: YtecpanppnljkhaaDoorTotals.lean).
  GIVEN WITH THE SEED: the statements are not yours to turn. If you find one false, say at which input.
  Laid BY PROGRAM, IN A SANDBOX (cutbox-rows.mjs): the forced cells as the released guide's own fill.sh prints them over the translation a9530e19970e1758… (all of the seat's roots in one cut). By AI agents, Wed Nov 11 2026. No macro, syntax, notation, axiom, sorry.
-/
import Derived.Test.YtecpanppnljkhaaDoorChecked
import GoSem.Claim
import GoSem.ClaimJoined
import GoSem.ClaimMapViews
import Derived.JoinedTies
import Derived.KernelRfl
namespace Go.Proofs.YtecpanppnljkhaaDoor
/- THE CELL 'sum', in the pinned program and in every row, IS THE sha256 OF THE DUMP (.gsa) THAT YtecpanppnljkhaaDoorProg.lean LOADS. Nothing in Lean hashes anything: it is a label: what it is worth is what the hold of that sum in a sandbox is worth. -/
noncomputable def Tryd.pinned : Pinned := { name := "ytecpanppnljkhaadoor", sum := "a9530e19970e175813367d76f0d86a0b1f0718285c8490350a6e0eb5de5fc8e1", checked := Tryd.checked }
namespace Rows
def none {H : Type} : Left H := { results := [], args := [] }

/- WHAT THE LISTED PACKAGE-LEVEL VARIABLES READ AS WHEN THE CALL BEGINS. Each datum BY PROGRAM (the guide's laid-datum.mjs) off the statement by which the dump's own 'gosem.cut.vars' lays the variable. In a bare row this is a premise. The card (YtecpanppnljkhaaDoorCards.lean) ties it to the program's text. -/
def laid_sheafworks_word_facts {H : Type} : DataW H := .agg [.agg [.lit (.string [43]), .agg [.lit (.bool true), .lit (.bool true), .lit (.bool false)], .lit (.int .i64 0)], .agg [.lit (.string [45]), .agg [.lit (.bool false), .lit (.bool false), .lit (.bool false)], .lit (.int .i64 0)], .agg [.lit (.string [42]), .agg [.lit (.bool true), .lit (.bool true), .lit (.bool false)], .lit (.int .i64 1)], .agg [.lit (.string [47]), .agg [.lit (.bool false), .lit (.bool false), .lit (.bool false)], .lit (.int .i64 0)], .agg [.lit (.string [37]), .agg [.lit (.bool false), .lit (.bool false), .lit (.bool false)], .lit (.int .i64 0)], .agg [.lit (.string [60]), .agg [.lit (.bool false), .lit (.bool false), .lit (.bool false)], .lit (.int .i64 0)], .agg [.lit (.string [61]), .agg [.lit (.bool false), .lit (.bool true), .lit (.bool false)], .lit (.int .i64 0)], .agg [.lit (.string [109, 105, 110]), .agg [.lit (.bool true), .lit (.bool true), .lit (.bool true)], .lit (.int .i64 2147483647)], .agg [.lit (.string [109, 97, 120]), .agg [.lit (.bool true), .lit (.bool true), .lit (.bool true)], .lit (.int .i64 (-2147483648))], .agg [.lit (.string [38]), .agg [.lit (.bool true), .lit (.bool true), .lit (.bool true)], .lit (.int .i64 (-1))], .agg [.lit (.string [124]), .agg [.lit (.bool true), .lit (.bool true), .lit (.bool true)], .lit (.int .i64 0)], .agg [.lit (.string [94]), .agg [.lit (.bool true), .lit (.bool true), .lit (.bool false)], .lit (.int .i64 0)]]

/-- 'sheafworkslaw04.PrimWoven': WHATEVER THE INPUT: true; the input reads as it did. -/
def primWovenSpec : ChangeSpec := { name := "primWoven", fn := fun _ => fun
  | [d1, d2] => { results := [.lit (.bool true)], args := [d1, d2] }
  | _ => none }
def primWovenRow : OpenClaim := { program := "ytecpanppnljkhaadoor", sum := "a9530e19970e175813367d76f0d86a0b1f0718285c8490350a6e0eb5de5fc8e1", func := "sheafworks/sheafworkslaw04.PrimWoven", spec := "primWoven", unfollowed := true, recurses := true, named := ["sheafworks/word.facts"], apart := false, laid := [("sheafworks/word.facts", laid_sheafworks_word_facts)] }
def PrimWovenSaid : Prop := primWovenRow.holds Tryd.pinned (OpenSpec.ofChange primWovenSpec)

/-- ITS FALSE NEIGHBOUR: 'it returns false'. Refute it at one input. -/
def primWovenWrong : ChangeSpec := { name := "primWoven", fn := fun _ => fun
  | [d1, d2] => { results := [.lit (.bool false)], args := [d1, d2] }
  | _ => none }
def PrimWovenWrongFalsely : Prop := primWovenRow.holds Tryd.pinned (OpenSpec.ofChange primWovenWrong)

/-- 'sheafworkslaw05.ScanShapes': WHATEVER THE INPUT: true; the input reads as it did. -/
def scanShapesSpec : ChangeSpec := { name := "scanShapes", fn := fun _ => fun
  | [d1, d2, d3, d4] => { results := [.lit (.bool true)], args := [d1, d2, d3, d4] }
  | _ => none }
def scanShapesRow : OpenClaim := { program := "ytecpanppnljkhaadoor", sum := "a9530e19970e175813367d76f0d86a0b1f0718285c8490350a6e0eb5de5fc8e1", func := "sheafworks/sheafworkslaw05.ScanShapes", spec := "scanShapes", unfollowed := true, recurses := true, named := ["sheafworks/word.facts"], apart := false, laid := [("sheafworks/word.facts", laid_sheafworks_word_facts)] }
def ScanShapesSaid : Prop := scanShapesRow.holds Tryd.pinned (OpenSpec.ofChange scanShapesSpec)

/-- ITS FALSE NEIGHBOUR: 'it returns false'. Refute it at one input. -/
def scanShapesWrong : ChangeSpec := { name := "scanShapes", fn := fun _ => fun
  | [d1, d2, d3, d4] => { results := [.lit (.bool false)], args := [d1, d2, d3, d4] }
  | _ => none }
def ScanShapesWrongFalsely : Prop := scanShapesRow.holds Tryd.pinned (OpenSpec.ofChange scanShapesWrong)

/-- 'sheafworkslaw05.ScanBlocks': WHATEVER THE INPUT: true; the input reads as it did. -/
def scanBlocksSpec : ChangeSpec := { name := "scanBlocks", fn := fun _ => fun
  | [d1, d2, d3] => { results := [.lit (.bool true)], args := [d1, d2, d3] }
  | _ => none }
def scanBlocksRow : OpenClaim := { program := "ytecpanppnljkhaadoor", sum := "a9530e19970e175813367d76f0d86a0b1f0718285c8490350a6e0eb5de5fc8e1", func := "sheafworks/sheafworkslaw05.ScanBlocks", spec := "scanBlocks", unfollowed := true, recurses := true, named := ["sheafworks/word.facts"], apart := false, laid := [("sheafworks/word.facts", laid_sheafworks_word_facts)] }
def ScanBlocksSaid : Prop := scanBlocksRow.holds Tryd.pinned (OpenSpec.ofChange scanBlocksSpec)

/-- ITS FALSE NEIGHBOUR: 'it returns false'. Refute it at one input. -/
def scanBlocksWrong : ChangeSpec := { name := "scanBlocks", fn := fun _ => fun
  | [d1, d2, d3] => { results := [.lit (.bool false)], args := [d1, d2, d3] }
  | _ => none }
def ScanBlocksWrongFalsely : Prop := scanBlocksRow.holds Tryd.pinned (OpenSpec.ofChange scanBlocksWrong)

/-- 'sheafworkslaw05.ScanParts': WHATEVER THE INPUT: true; the input reads as it did. -/
def scanPartsSpec : ChangeSpec := { name := "scanParts", fn := fun _ => fun
  | [d1, d2, d3, d4] => { results := [.lit (.bool true)], args := [d1, d2, d3, d4] }
  | _ => none }
def scanPartsRow : OpenClaim := { program := "ytecpanppnljkhaadoor", sum := "a9530e19970e175813367d76f0d86a0b1f0718285c8490350a6e0eb5de5fc8e1", func := "sheafworks/sheafworkslaw05.ScanParts", spec := "scanParts", unfollowed := true, recurses := true, named := ["sheafworks/word.facts"], apart := false, laid := [("sheafworks/word.facts", laid_sheafworks_word_facts)] }
def ScanPartsSaid : Prop := scanPartsRow.holds Tryd.pinned (OpenSpec.ofChange scanPartsSpec)

/-- ITS FALSE NEIGHBOUR: 'it returns false'. Refute it at one input. -/
def scanPartsWrong : ChangeSpec := { name := "scanParts", fn := fun _ => fun
  | [d1, d2, d3, d4] => { results := [.lit (.bool false)], args := [d1, d2, d3, d4] }
  | _ => none }
def ScanPartsWrongFalsely : Prop := scanPartsRow.holds Tryd.pinned (OpenSpec.ofChange scanPartsWrong)

/-- 'sheafworkslaw05.ScanFlagged': WHATEVER THE INPUT: true; the input reads as it did. -/
def scanFlaggedSpec : ChangeSpec := { name := "scanFlagged", fn := fun _ => fun
  | [d1, d2, d3, d4] => { results := [.lit (.bool true)], args := [d1, d2, d3, d4] }
  | _ => none }
def scanFlaggedRow : OpenClaim := { program := "ytecpanppnljkhaadoor", sum := "a9530e19970e175813367d76f0d86a0b1f0718285c8490350a6e0eb5de5fc8e1", func := "sheafworks/sheafworkslaw05.ScanFlagged", spec := "scanFlagged", unfollowed := true, recurses := true, named := ["sheafworks/word.facts"], apart := false, laid := [("sheafworks/word.facts", laid_sheafworks_word_facts)] }
def ScanFlaggedSaid : Prop := scanFlaggedRow.holds Tryd.pinned (OpenSpec.ofChange scanFlaggedSpec)

/-- ITS FALSE NEIGHBOUR: 'it returns false'. Refute it at one input. -/
def scanFlaggedWrong : ChangeSpec := { name := "scanFlagged", fn := fun _ => fun
  | [d1, d2, d3, d4] => { results := [.lit (.bool false)], args := [d1, d2, d3, d4] }
  | _ => none }
def ScanFlaggedWrongFalsely : Prop := scanFlaggedRow.holds Tryd.pinned (OpenSpec.ofChange scanFlaggedWrong)

/-- 'sheafworkslaw05.ScanKnown': WHATEVER THE INPUT: true; the input reads as it did. -/
def scanKnownSpec : ChangeSpec := { name := "scanKnown", fn := fun _ => fun
  | [] => { results := [.lit (.bool true)], args := [] }
  | _ => none }
def scanKnownRow : OpenClaim := { program := "ytecpanppnljkhaadoor", sum := "a9530e19970e175813367d76f0d86a0b1f0718285c8490350a6e0eb5de5fc8e1", func := "sheafworks/sheafworkslaw05.ScanKnown", spec := "scanKnown", unfollowed := true, recurses := true, named := ["sheafworks/word.facts"], apart := false, laid := [("sheafworks/word.facts", laid_sheafworks_word_facts)] }
def ScanKnownSaid : Prop := scanKnownRow.holds Tryd.pinned (OpenSpec.ofChange scanKnownSpec)

/-- ITS FALSE NEIGHBOUR: 'it returns false'. Refute it at one input. -/
def scanKnownWrong : ChangeSpec := { name := "scanKnown", fn := fun _ => fun
  | [] => { results := [.lit (.bool false)], args := [] }
  | _ => none }
def ScanKnownWrongFalsely : Prop := scanKnownRow.holds Tryd.pinned (OpenSpec.ofChange scanKnownWrong)

/- THE SECOND FORM. 'bulk': how many values and letters a reading holds, each counted each time it is reached (what is shared counts as often as it is met; a slice's spare places count too). A statement '..UptoSaid' is the law's where the arguments, and the package variables that the reading takes, are together of bulk at most 1048576: NARROWER than '..Said'. Prove '..Said' where nothing that the law and all that it calls make is longer than what came in: it says more and counts as full. Else prove '..UptoSaid'. A law counts once. -/
mutual
def uptoBulk {H : Type} : DataW H → Nat
  | .lit (.string bytes) => bytes.length + 1
  | .lit _ => 1
  | .nil => 1
  | .ptr d => uptoBulk d + 1
  | .slice elems spare => uptoBulkAll elems + uptoBulkAll spare + 1
  | .agg parts => uptoBulkAll parts + 1
  | .iface _ d => uptoBulk d + 1
  | .map entries => uptoBulkEntries entries + 1
  | .held _ => 1
def uptoBulkAll {H : Type} : List (DataW H) → Nat
  | [] => 0
  | d :: r => uptoBulk d + uptoBulkAll r
def uptoBulkEntries {H : Type} : List (Lit × DataW H) → Nat
  | [] => 0
  | x :: r => uptoBulkEntry x + uptoBulkEntries r
def uptoBulkEntry {H : Type} : Lit × DataW H → Nat
  | (.string bytes, d) => bytes.length + uptoBulk d + 1
  | (_, d) => uptoBulk d + 1
 end
def uptoSmall : (H : Type) → List (DataW H) → Bool := fun _ ds => decide (uptoBulkAll ds ≤ 1048576)
def OpenSpec.upto (s : _root_.Go.ChangeSpec) : _root_.Go.OpenSpec := { _root_.Go.OpenSpec.ofChange s with cond := some uptoSmall }

/-- 'sheafworkslaw04.PrimWoven', WHERE WHAT IT READS IS OF BULK AT MOST 1048576: true; the input reads as it did. -/
def primWovenUptoRow : OpenClaim := { program := "ytecpanppnljkhaadoor", sum := "a9530e19970e175813367d76f0d86a0b1f0718285c8490350a6e0eb5de5fc8e1", func := "sheafworks/sheafworkslaw04.PrimWoven", spec := "primWoven", unfollowed := true, recurses := true, named := ["sheafworks/word.facts"], apart := false, laid := [("sheafworks/word.facts", laid_sheafworks_word_facts)], narrowed := true }
def PrimWovenUptoSaid : Prop := primWovenUptoRow.holds Tryd.pinned (OpenSpec.upto primWovenSpec)

/-- 'sheafworkslaw05.ScanShapes', WHERE WHAT IT READS IS OF BULK AT MOST 1048576: true; the input reads as it did. -/
def scanShapesUptoRow : OpenClaim := { program := "ytecpanppnljkhaadoor", sum := "a9530e19970e175813367d76f0d86a0b1f0718285c8490350a6e0eb5de5fc8e1", func := "sheafworks/sheafworkslaw05.ScanShapes", spec := "scanShapes", unfollowed := true, recurses := true, named := ["sheafworks/word.facts"], apart := false, laid := [("sheafworks/word.facts", laid_sheafworks_word_facts)], narrowed := true }
def ScanShapesUptoSaid : Prop := scanShapesUptoRow.holds Tryd.pinned (OpenSpec.upto scanShapesSpec)

/-- 'sheafworkslaw05.ScanBlocks', WHERE WHAT IT READS IS OF BULK AT MOST 1048576: true; the input reads as it did. -/
def scanBlocksUptoRow : OpenClaim := { program := "ytecpanppnljkhaadoor", sum := "a9530e19970e175813367d76f0d86a0b1f0718285c8490350a6e0eb5de5fc8e1", func := "sheafworks/sheafworkslaw05.ScanBlocks", spec := "scanBlocks", unfollowed := true, recurses := true, named := ["sheafworks/word.facts"], apart := false, laid := [("sheafworks/word.facts", laid_sheafworks_word_facts)], narrowed := true }
def ScanBlocksUptoSaid : Prop := scanBlocksUptoRow.holds Tryd.pinned (OpenSpec.upto scanBlocksSpec)

/-- 'sheafworkslaw05.ScanParts', WHERE WHAT IT READS IS OF BULK AT MOST 1048576: true; the input reads as it did. -/
def scanPartsUptoRow : OpenClaim := { program := "ytecpanppnljkhaadoor", sum := "a9530e19970e175813367d76f0d86a0b1f0718285c8490350a6e0eb5de5fc8e1", func := "sheafworks/sheafworkslaw05.ScanParts", spec := "scanParts", unfollowed := true, recurses := true, named := ["sheafworks/word.facts"], apart := false, laid := [("sheafworks/word.facts", laid_sheafworks_word_facts)], narrowed := true }
def ScanPartsUptoSaid : Prop := scanPartsUptoRow.holds Tryd.pinned (OpenSpec.upto scanPartsSpec)

/-- 'sheafworkslaw05.ScanFlagged', WHERE WHAT IT READS IS OF BULK AT MOST 1048576: true; the input reads as it did. -/
def scanFlaggedUptoRow : OpenClaim := { program := "ytecpanppnljkhaadoor", sum := "a9530e19970e175813367d76f0d86a0b1f0718285c8490350a6e0eb5de5fc8e1", func := "sheafworks/sheafworkslaw05.ScanFlagged", spec := "scanFlagged", unfollowed := true, recurses := true, named := ["sheafworks/word.facts"], apart := false, laid := [("sheafworks/word.facts", laid_sheafworks_word_facts)], narrowed := true }
def ScanFlaggedUptoSaid : Prop := scanFlaggedUptoRow.holds Tryd.pinned (OpenSpec.upto scanFlaggedSpec)

/-- 'sheafworkslaw05.ScanKnown', WHERE WHAT IT READS IS OF BULK AT MOST 1048576: true; the input reads as it did. -/
def scanKnownUptoRow : OpenClaim := { program := "ytecpanppnljkhaadoor", sum := "a9530e19970e175813367d76f0d86a0b1f0718285c8490350a6e0eb5de5fc8e1", func := "sheafworks/sheafworkslaw05.ScanKnown", spec := "scanKnown", unfollowed := true, recurses := true, named := ["sheafworks/word.facts"], apart := false, laid := [("sheafworks/word.facts", laid_sheafworks_word_facts)], narrowed := true }
def ScanKnownUptoSaid : Prop := scanKnownUptoRow.holds Tryd.pinned (OpenSpec.upto scanKnownSpec)

end Rows
end Go.Proofs.YtecpanppnljkhaaDoor
