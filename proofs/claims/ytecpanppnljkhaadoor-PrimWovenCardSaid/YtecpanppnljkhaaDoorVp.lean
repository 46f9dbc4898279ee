/- An argument that is an array of two integers, by value. -/
import Derived.Test.YtecpanppnljkhaaDoorRows
import Derived.Test.YtecpanppnljkhaaDoorBa
import Derived.ProofKit
import Derived.OpenShut
namespace Go.Proofs.YtecpanppnljkhaaDoor
set_option maxRecDepth 100000
open Go.ChangeShapes Go.WideShapes Go.ChangeAt Go.RowKit
theorem c2i : Tryd.prog.cellsOf 23 = 2 := by kernel_rfl
theorem c3' : Tryd.prog.cellsOf 3 = 1 := by kernel_rfl
section
variable {H : Type} {enc : TypeId × Value → H} {w : World} {base : Nat} {sp : Nat → Bool} {held : Bool}
theorem open_arr2 {r : Reach} {b0 : Nat} {v : Value} {d : DataW H} {ps : List MemPlace} (hv : Value.okWide Tryd.prog w r b0 23 v) (h : DataW.Trod enc Tryd.prog w base sp held 23 v d ps) :
    ∃ x0 x1 : Int, v = .agg #[.int .i64 x0, .int .i64 x1] ∧ d = .agg [.lit (.int .i64 x0), .lit (.int .i64 x1)] ∧ ps = [] ∧ (Lit.int .i64 x0).wf = true ∧ (Lit.int .i64 x1).wf = true := by
  have hv' : ∃ cs, v = .agg cs ∧ cs.size = Tryd.prog.cellsOf 23 ∧ Row.okWide Tryd.prog w r b0 23 cs := by
    unfold Value.okWide at hv; rw [Tryd.underlying23] at hv; exact hv
  obtain ⟨cs, rfl, hsz, _⟩ := hv'
  rw [c2i] at hsz
  obtain ⟨fuel, hf⟩ := h
  obtain ⟨xs, m, rfl, hx, hl, hn, hel⟩ := DataW.trod_array Tryd.underlying23 hf
  obtain ⟨l⟩ := cs
  match l, hsz with
  | [v0, v1], _ =>
  match xs, hn, hx with
  | [y0, y1], _, hx =>
    have e0 := hel 0 (by decide)
    have e1 := hel 1 (by decide)
    rw [c3'] at e0 e1
    replace e0 : DataW.trod enc Tryd.prog w base sp held m 3 [v0] = some y0 := e0
    replace e1 : DataW.trod enc Tryd.prog w base sp held m 3 [v1] = some y1 := e1
    obtain ⟨n0, a0, rfl, w0⟩ := DataW.trod_int Tryd.underlying3 e0
    obtain ⟨n1, a1, rfl, w1⟩ := DataW.trod_int Tryd.underlying3 e1
    simp at a0 a1 hx
    subst a0 a1
    exact ⟨n0, n1, rfl, hx.1, hx.2, w0, w1⟩
theorem shut_arr2 {x0 x1 : Int} (w0 : (Lit.int .i64 x0).wf = true) (w1 : (Lit.int .i64 x1).wf = true) : DataW.Trod enc Tryd.prog w base sp held 23 (.agg #[.int .i64 x0, .int .i64 x1]) (.agg [.lit (.int .i64 x0), .lit (.int .i64 x1)]) [] :=
  ⟨2, by simp [DataW.trod, Value.cells, Tryd.underlying23, Tryd.underlying3, c2i, c3', w0, w1, List.range_succ]⟩
end
end Go.Proofs.YtecpanppnljkhaaDoor
