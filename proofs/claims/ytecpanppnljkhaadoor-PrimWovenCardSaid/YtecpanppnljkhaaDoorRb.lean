/- Walks of the specification: Fill, Bin, Pick, Off, Pack, Gather. -/
import Derived.Test.YtecpanppnljkhaaDoorRa
import Derived.Test.YtecpanppnljkhaaDoorQa
import Derived.Test.YtecpanppnljkhaaDoorCg
namespace Go.Proofs.YtecpanppnljkhaaDoor
set_option linter.unusedVariables false
open Go.RowKit Go.Shelf

theorem retL_of {w W : World} {A : Option Addr} {c : Nat} {zs L : List Int} (e : zs = L) (hc : L.length ≤ c) (h : Sl W A L) (hB : Below w.heap.size w W) : RetL w zs 0 (.returned (.tuple #[.slice A L.length c, .int .i64 0])) W := by
  subst e
  exact ⟨_, _, rfl, hc, h, hB⟩
theorem fil_cases (n : Int) (l : List Int) : filE n l = if shortB l = true then (if wordsB l = true ∧ isWb n = true then 0 else 2) else 3 := by
  simp [filE, lsE, shortB, wordsB]
theorem ls1_cases (l : List Int) : lsE [l] = if shortB l = true then (if wordsB l = true then 0 else 2) else 3 := by
  simp [lsE, shortB, wordsB]
theorem fil_ok {n : Int} {l : List Int} (h : lsE [l] = 0) (hn : isWb n = true) : filE n l = 0 := by
  rw [ls1_cases] at h; rw [fil_cases]
  cases h1 : shortB l <;> cases h2 : wordsB l <;> simp_all
theorem fil_no {n : Int} {l : List Int} (h : lsE [l] = 0) (hn : isWb n = false) : filE n l = 2 := by
  rw [ls1_cases] at h; rw [fil_cases]
  cases h1 : shortB l <;> cases h2 : wordsB l <;> simp_all
theorem fil_ls {n : Int} {l : List Int} (h : lsE [l] ≠ 0) : filE n l = lsE [l] := by
  rw [ls1_cases] at h ⊢; rw [fil_cases]
  cases h1 : shortB l <;> cases h2 : wordsB l <;> simp_all
end Go.Proofs.YtecpanppnljkhaaDoor
