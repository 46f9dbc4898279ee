/- Walks and mathematics of rank, part 10. -/
import Derived.Test.YtgicfgpemcagcaaG09
/- Walks of scan: check, checked's parts. -/
namespace Go.Proofs.Ytgicfgpemcagcaa
set_option linter.unusedVariables false
set_option maxRecDepth 100000
open Go.RowKit
end Go.Proofs.Ytgicfgpemcagcaa
/- Walks of scan: what joins words; an operation; checked. -/
namespace Go.Proofs.Ytgicfgpemcagcaa
set_option linter.unusedVariables false
set_option maxRecDepth 100000
open Go.RowKit
end Go.Proofs.Ytgicfgpemcagcaa
/- Walks of scan: checked. -/
namespace Go.Proofs.Ytgicfgpemcagcaa
set_option linter.unusedVariables false
set_option maxRecDepth 100000
open Go.RowKit
/-- The error of an operation, and of lists. -/
def cE (op : Int) (L : List (List Int)) : Int := if neE op = 0 then lsE L else neE op
theorem cE_ne {op : Int} (L : List (List Int)) (h : neE op ≠ 0) : cE op L = neE op := by unfold cE; rw [if_neg h]
theorem cE_ls {op : Int} (L : List (List Int)) (h : neE op = 0) : cE op L = lsE L := by unfold cE; rw [if_pos h]
theorem cE_ok {op : Int} {L : List (List Int)} (h : cE op L = 0) : neE op = 0 ∧ lsE L = 0 := by
  unfold cE at h
  by_cases h0 : neE op = 0
  · rw [if_pos h0] at h; exact ⟨h0, h⟩
  · rw [if_neg h0] at h; exact absurd h h0
end Go.Proofs.Ytgicfgpemcagcaa
