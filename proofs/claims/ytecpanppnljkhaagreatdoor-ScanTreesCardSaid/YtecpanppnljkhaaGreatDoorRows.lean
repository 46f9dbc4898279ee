/-
  NARROWER THAN 'FOR EVERY INPUT', by the rows' own cells (each row's printed sentence says how): ScanFolds: laid · ScanTrees: laid · ScanDowns: laid · ScanFlags: laid.
  DERIVED. THE GIVEN ROWS OF THIS SEAT. 4 by the template 'for every input the law returns true; each argument reads behind the call as it read before'; 0 by the template 'total and deterministic' (their statements: YtecpanppnljkhaaGreatDoorTotals.lean).
  GIVEN WITH THE SEED: the statements are not yours to turn. If you find one false, say at which input.
  Laid BY PROGRAM, IN A SANDBOX (cutbox-rows.mjs): the forced cells as the released guide's own fill.sh prints them over the translation 288c5abcd2701d10… (all of the seat's roots in one cut). By AI agents, Wed Nov 11 2026. No macro, syntax, notation, axiom, sorry.
-/
import Derived.Test.YtecpanppnljkhaaGreatDoorChecked
import GoSem.Claim
import GoSem.ClaimJoined
import GoSem.ClaimMapViews
import Derived.JoinedTies
import Derived.KernelRfl
namespace Go.Proofs.YtecpanppnljkhaaGreatDoor
/- THE CELL 'sum', in the pinned program and in every row, IS THE sha256 OF THE DUMP (.gsa) THAT YtecpanppnljkhaaGreatDoorProg.lean LOADS. Nothing in Lean hashes anything: it is a label: what it is worth is what the hold of that sum in a sandbox is worth. -/
noncomputable def Tryz.pinned : Pinned := { name := "ytecpanppnljkhaagreatdoor", sum := "288c5abcd2701d10eb320acacd9afc48bfdf7214e54268d488c0b85b0dfe7984", checked := Tryz.checked }
namespace Rows
def none {H : Type} : Left H := { results := [], args := [] }

/- WHAT THE LISTED PACKAGE-LEVEL VARIABLES READ AS WHEN THE CALL BEGINS. Each datum BY PROGRAM (the guide's laid-datum.mjs) off the statement by which the dump's own 'gosem.cut.vars' lays the variable. In a bare row this is a premise. The card (YtecpanppnljkhaaGreatDoorCards.lean) ties it to the program's text. -/
def laid_sheafworks_word_facts {H : Type} : DataW H := .agg [.agg [.lit (.string [43]), .agg [.lit (.bool true), .lit (.bool true), .lit (.bool false)], .lit (.int .i64 0)], .agg [.lit (.string [45]), .agg [.lit (.bool false), .lit (.bool false), .lit (.bool false)], .lit (.int .i64 0)], .agg [.lit (.string [42]), .agg [.lit (.bool true), .lit (.bool true), .lit (.bool false)], .lit (.int .i64 1)], .agg [.lit (.string [47]), .agg [.lit (.bool false), .lit (.bool false), .lit (.bool false)], .lit (.int .i64 0)], .agg [.lit (.string [37]), .agg [.lit (.bool false), .lit (.bool false), .lit (.bool false)], .lit (.int .i64 0)], .agg [.lit (.string [60]), .agg [.lit (.bool false), .lit (.bool false), .lit (.bool false)], .lit (.int .i64 0)], .agg [.lit (.string [61]), .agg [.lit (.bool false), .lit (.bool true), .lit (.bool false)], .lit (.int .i64 0)], .agg [.lit (.string [109, 105, 110]), .agg [.lit (.bool true), .lit (.bool true), .lit (.bool true)], .lit (.int .i64 2147483647)], .agg [.lit (.string [109, 97, 120]), .agg [.lit (.bool true), .lit (.bool true), .lit (.bool true)], .lit (.int .i64 (-2147483648))], .agg [.lit (.string [38]), .agg [.lit (.bool true), .lit (.bool true), .lit (.bool true)], .lit (.int .i64 (-1))], .agg [.lit (.string [124]), .agg [.lit (.bool true), .lit (.bool true), .lit (.bool true)], .lit (.int .i64 0)], .agg [.lit (.string [94]), .agg [.lit (.bool true), .lit (.bool true), .lit (.bool false)], .lit (.int .i64 0)]]

/-- 'sheafworkslaw05.ScanFolds': WHATEVER THE INPUT: true; the input reads as it did. -/
def scanFoldsSpec : ChangeSpec := { name := "scanFolds", fn := fun _ => fun
  | [d1, d2, d3] => { results := [.lit (.bool true)], args := [d1, d2, d3] }
  | _ => none }
def scanFoldsRow : OpenClaim := { program := "ytecpanppnljkhaagreatdoor", sum := "288c5abcd2701d10eb320acacd9afc48bfdf7214e54268d488c0b85b0dfe7984", func := "sheafworks/sheafworkslaw05.ScanFolds", spec := "scanFolds", unfollowed := true, recurses := true, named := ["sheafworks/word.facts"], apart := false, laid := [("sheafworks/word.facts", laid_sheafworks_word_facts)] }
def ScanFoldsSaid : Prop := scanFoldsRow.holds Tryz.pinned (OpenSpec.ofChange scanFoldsSpec)

/-- ITS FALSE NEIGHBOUR: 'it returns false'. Refute it at one input. -/
def scanFoldsWrong : ChangeSpec := { name := "scanFolds", fn := fun _ => fun
  | [d1, d2, d3] => { results := [.lit (.bool false)], args := [d1, d2, d3] }
  | _ => none }
def ScanFoldsWrongFalsely : Prop := scanFoldsRow.holds Tryz.pinned (OpenSpec.ofChange scanFoldsWrong)

/-- 'sheafworkslaw05.ScanTrees': WHATEVER THE INPUT: true; the input reads as it did. -/
def scanTreesSpec : ChangeSpec := { name := "scanTrees", fn := fun _ => fun
  | [d1, d2, d3, d4] => { results := [.lit (.bool true)], args := [d1, d2, d3, d4] }
  | _ => none }
def scanTreesRow : OpenClaim := { program := "ytecpanppnljkhaagreatdoor", sum := "288c5abcd2701d10eb320acacd9afc48bfdf7214e54268d488c0b85b0dfe7984", func := "sheafworks/sheafworkslaw05.ScanTrees", spec := "scanTrees", unfollowed := true, recurses := true, named := ["sheafworks/word.facts"], apart := false, laid := [("sheafworks/word.facts", laid_sheafworks_word_facts)] }
def ScanTreesSaid : Prop := scanTreesRow.holds Tryz.pinned (OpenSpec.ofChange scanTreesSpec)

/-- ITS FALSE NEIGHBOUR: 'it returns false'. Refute it at one input. -/
def scanTreesWrong : ChangeSpec := { name := "scanTrees", fn := fun _ => fun
  | [d1, d2, d3, d4] => { results := [.lit (.bool false)], args := [d1, d2, d3, d4] }
  | _ => none }
def ScanTreesWrongFalsely : Prop := scanTreesRow.holds Tryz.pinned (OpenSpec.ofChange scanTreesWrong)

/-- 'sheafworkslaw05.ScanDowns': WHATEVER THE INPUT: true; the input reads as it did. -/
def scanDownsSpec : ChangeSpec := { name := "scanDowns", fn := fun _ => fun
  | [d1, d2, d3] => { results := [.lit (.bool true)], args := [d1, d2, d3] }
  | _ => none }
def scanDownsRow : OpenClaim := { program := "ytecpanppnljkhaagreatdoor", sum := "288c5abcd2701d10eb320acacd9afc48bfdf7214e54268d488c0b85b0dfe7984", func := "sheafworks/sheafworkslaw05.ScanDowns", spec := "scanDowns", unfollowed := true, recurses := true, named := ["sheafworks/word.facts"], apart := false, laid := [("sheafworks/word.facts", laid_sheafworks_word_facts)] }
def ScanDownsSaid : Prop := scanDownsRow.holds Tryz.pinned (OpenSpec.ofChange scanDownsSpec)

/-- ITS FALSE NEIGHBOUR: 'it returns false'. Refute it at one input. -/
def scanDownsWrong : ChangeSpec := { name := "scanDowns", fn := fun _ => fun
  | [d1, d2, d3] => { results := [.lit (.bool false)], args := [d1, d2, d3] }
  | _ => none }
def ScanDownsWrongFalsely : Prop := scanDownsRow.holds Tryz.pinned (OpenSpec.ofChange scanDownsWrong)

/-- 'sheafworkslaw05.ScanFlags': WHATEVER THE INPUT: true; the input reads as it did. -/
def scanFlagsSpec : ChangeSpec := { name := "scanFlags", fn := fun _ => fun
  | [d1, d2, d3, d4] => { results := [.lit (.bool true)], args := [d1, d2, d3, d4] }
  | _ => none }
def scanFlagsRow : OpenClaim := { program := "ytecpanppnljkhaagreatdoor", sum := "288c5abcd2701d10eb320acacd9afc48bfdf7214e54268d488c0b85b0dfe7984", func := "sheafworks/sheafworkslaw05.ScanFlags", spec := "scanFlags", unfollowed := true, recurses := true, named := ["sheafworks/word.facts"], apart := false, laid := [("sheafworks/word.facts", laid_sheafworks_word_facts)] }
def ScanFlagsSaid : Prop := scanFlagsRow.holds Tryz.pinned (OpenSpec.ofChange scanFlagsSpec)

/-- ITS FALSE NEIGHBOUR: 'it returns false'. Refute it at one input. -/
def scanFlagsWrong : ChangeSpec := { name := "scanFlags", fn := fun _ => fun
  | [d1, d2, d3, d4] => { results := [.lit (.bool false)], args := [d1, d2, d3, d4] }
  | _ => none }
def ScanFlagsWrongFalsely : Prop := scanFlagsRow.holds Tryz.pinned (OpenSpec.ofChange scanFlagsWrong)

/- THE SECOND FORM. 'bulk': how many values and letters a reading holds, each counted each time it is reached (what is shared counts as often as it is met; a slice's spare places count too). A statement '..UptoSaid' is the law's where the arguments, and the package variables that the reading takes, are together of bulk at most 1048576: NARROWER than '..Said'. Prove '..Said' where nothing that the law and all that it calls make is longer than what came in: it says more and counts as full. Else prove '..UptoSaid'. A law counts once. -/
mutual
def uptoBulk {H : Type} : DataW H → Nat
  | .lit (.string bytes) => bytes.length + 1
  | .lit _ => 1
  | .nil => 1
  | .ptr d => uptoBulk d + 1
  | .slice elems spare => uptoBulkAll elems + uptoBulkAll spare + 1
  | .agg parts => uptoBulkAll parts + 1
  | .iface _ d => uptoBulk d + 1
  | .map entries => uptoBulkEntries entries + 1
  | .held _ => 1
def uptoBulkAll {H : Type} : List (DataW H) → Nat
  | [] => 0
  | d :: r => uptoBulk d + uptoBulkAll r
def uptoBulkEntries {H : Type} : List (Lit × DataW H) → Nat
  | [] => 0
  | x :: r => uptoBulkEntry x + uptoBulkEntries r
def uptoBulkEntry {H : Type} : Lit × DataW H → Nat
  | (.string bytes, d) => bytes.length + uptoBulk d + 1
  | (_, d) => uptoBulk d + 1
 end
def uptoSmall : (H : Type) → List (DataW H) → Bool := fun _ ds => decide (uptoBulkAll ds ≤ 1048576)
def OpenSpec.upto (s : _root_.Go.ChangeSpec) : _root_.Go.OpenSpec := { _root_.Go.OpenSpec.ofChange s with cond := some uptoSmall }

/-- 'sheafworkslaw05.ScanFolds', WHERE WHAT IT READS IS OF BULK AT MOST 1048576: true; the input reads as it did. -/
def scanFoldsUptoRow : OpenClaim := { program := "ytecpanppnljkhaagreatdoor", sum := "288c5abcd2701d10eb320acacd9afc48bfdf7214e54268d488c0b85b0dfe7984", func := "sheafworks/sheafworkslaw05.ScanFolds", spec := "scanFolds", unfollowed := true, recurses := true, named := ["sheafworks/word.facts"], apart := false, laid := [("sheafworks/word.facts", laid_sheafworks_word_facts)], narrowed := true }
def ScanFoldsUptoSaid : Prop := scanFoldsUptoRow.holds Tryz.pinned (OpenSpec.upto scanFoldsSpec)

/-- 'sheafworkslaw05.ScanTrees', WHERE WHAT IT READS IS OF BULK AT MOST 1048576: true; the input reads as it did. -/
def scanTreesUptoRow : OpenClaim := { program := "ytecpanppnljkhaagreatdoor", sum := "288c5abcd2701d10eb320acacd9afc48bfdf7214e54268d488c0b85b0dfe7984", func := "sheafworks/sheafworkslaw05.ScanTrees", spec := "scanTrees", unfollowed := true, recurses := true, named := ["sheafworks/word.facts"], apart := false, laid := [("sheafworks/word.facts", laid_sheafworks_word_facts)], narrowed := true }
def ScanTreesUptoSaid : Prop := scanTreesUptoRow.holds Tryz.pinned (OpenSpec.upto scanTreesSpec)

/-- 'sheafworkslaw05.ScanDowns', WHERE WHAT IT READS IS OF BULK AT MOST 1048576: true; the input reads as it did. -/
def scanDownsUptoRow : OpenClaim := { program := "ytecpanppnljkhaagreatdoor", sum := "288c5abcd2701d10eb320acacd9afc48bfdf7214e54268d488c0b85b0dfe7984", func := "sheafworks/sheafworkslaw05.ScanDowns", spec := "scanDowns", unfollowed := true, recurses := true, named := ["sheafworks/word.facts"], apart := false, laid := [("sheafworks/word.facts", laid_sheafworks_word_facts)], narrowed := true }
def ScanDownsUptoSaid : Prop := scanDownsUptoRow.holds Tryz.pinned (OpenSpec.upto scanDownsSpec)

/-- 'sheafworkslaw05.ScanFlags', WHERE WHAT IT READS IS OF BULK AT MOST 1048576: true; the input reads as it did. -/
def scanFlagsUptoRow : OpenClaim := { program := "ytecpanppnljkhaagreatdoor", sum := "288c5abcd2701d10eb320acacd9afc48bfdf7214e54268d488c0b85b0dfe7984", func := "sheafworks/sheafworkslaw05.ScanFlags", spec := "scanFlags", unfollowed := true, recurses := true, named := ["sheafworks/word.facts"], apart := false, laid := [("sheafworks/word.facts", laid_sheafworks_word_facts)], narrowed := true }
def ScanFlagsUptoSaid : Prop := scanFlagsUptoRow.holds Tryz.pinned (OpenSpec.upto scanFlagsSpec)

end Rows
end Go.Proofs.YtecpanppnljkhaaGreatDoor
