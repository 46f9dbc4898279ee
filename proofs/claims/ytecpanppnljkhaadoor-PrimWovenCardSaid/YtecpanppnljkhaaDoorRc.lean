/- Walks of the specification: Bin. -/
import Derived.Test.YtecpanppnljkhaaDoorRb
import Derived.Deep.RegionHeld3
import Derived.Test.YtecpanppnljkhaaDoorQa
import Derived.Test.YtecpanppnljkhaaDoorCg
namespace Go.Proofs.YtecpanppnljkhaaDoor
set_option linter.unusedVariables false
open Go.RowKit Go.Shelf

theorem keepR {w wr W W' : World} {p1 p2 : Addr} {v1 v2 : Value} (h1 : p1.block < wr.heap.size) (h2 : p2.block < wr.heap.size)
    (h : W.cell? p1 = some v1 ∧ W.cell? p2 = some v2 ∧ Below w.heap.size w W ∧ Below wr.heap.size wr W) (hb : Below W.heap.size W W') :
    W'.cell? p1 = some v1 ∧ W'.cell? p2 = some v2 ∧ Below w.heap.size w W' ∧ Below wr.heap.size wr W' := by
  obtain ⟨a1, a2, a3, a4⟩ := h
  have hs := a4.size
  exact ⟨(hb.cell (by omega)).trans a1, (hb.cell (by omega)).trans a2, below_step a3 hb, below_step a4 hb⟩
end Go.Proofs.YtecpanppnljkhaaDoor
