/- Walks of the specification: Words, Lists, alike, counts, Sum, fits, Copy, Upto. -/
import Derived.Test.YtecpanppnljkhaaDoorDf
import Derived.Laws.AppendOwnNone
import Derived.Deep.QuietTactic
import Derived.BigQuiet
namespace Go.Proofs.YtecpanppnljkhaaDoor
set_option linter.unusedVariables false
open Go.RowKit Go.Shelf

/-! ### counts, Sum -/
theorem tot_pos {l : List Int} (h : posB l = true) (h1 : 1048576 < l.sum) : totE l = 9 := by unfold totE; rw [if_pos h, if_pos h1]
theorem tot_fine {l : List Int} (h : posB l = true) (h1 : ¬ 1048576 < l.sum) : totE l = 0 := by unfold totE; rw [if_pos h, if_neg h1]
end Go.Proofs.YtecpanppnljkhaaDoor
