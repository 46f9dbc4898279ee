/- Arguments that are arrays of two and of three integers, by value. -/
import Derived.Test.YthbgingclpponaaDoorRows
import Derived.Test.YthbgingclpponaaDoorWa
import Derived.ProofKit
import Derived.OpenShut
namespace Go.Proofs.YthbgingclpponaaDoor
open Go.ChangeShapes Go.WideShapes Go.ChangeAt Go.RowKit
theorem c43 : Tryd.prog.cellsOf 43 = 2 := by kernel_rfl
theorem c39 : Tryd.prog.cellsOf 39 = 3 := by kernel_rfl
theorem c3' : Tryd.prog.cellsOf 3 = 1 := by kernel_rfl
section
variable {H : Type} {enc : TypeId × Value → H} {w : World} {base : Nat} {sp : Nat → Bool} {held : Bool}
theorem open_arr2 {r : Reach} {b0 : Nat} {v : Value} {d : DataW H} {ps : List MemPlace} (hv : Value.okWide Tryd.prog w r b0 43 v) (h : DataW.Trod enc Tryd.prog w base sp held 43 v d ps) :
    ∃ x0 x1 : Int, v = .agg #[.int .i64 x0, .int .i64 x1] ∧ d = .agg [.lit (.int .i64 x0), .lit (.int .i64 x1)] ∧ ps = [] ∧ (Lit.int .i64 x0).wf = true ∧ (Lit.int .i64 x1).wf = true := by
  have hv' : ∃ cs, v = .agg cs ∧ cs.size = Tryd.prog.cellsOf 43 ∧ Row.okWide Tryd.prog w r b0 43 cs := by
    unfold Value.okWide at hv; rw [Tryd.underlying43] at hv; exact hv
  obtain ⟨cs, rfl, hsz, _⟩ := hv'
  rw [c43] at hsz
  obtain ⟨fuel, hf⟩ := h
  obtain ⟨xs, m, rfl, hx, hl, hn, hel⟩ := DataW.trod_array Tryd.underlying43 hf
  obtain ⟨l⟩ := cs
  match l, hsz with
  | [v0, v1], _ =>
  match xs, hn, hx with
  | [y0, y1], _, hx =>
    have e0 := hel 0 (by decide)
    have e1 := hel 1 (by decide)
    rw [c3'] at e0 e1
    replace e0 : DataW.trod enc Tryd.prog w base sp held m 3 [v0] = some y0 := e0
    replace e1 : DataW.trod enc Tryd.prog w base sp held m 3 [v1] = some y1 := e1
    obtain ⟨n0, a0, rfl, w0⟩ := DataW.trod_int Tryd.underlying3 e0
    obtain ⟨n1, a1, rfl, w1⟩ := DataW.trod_int Tryd.underlying3 e1
    simp at a0 a1 hx
    subst a0 a1
    exact ⟨n0, n1, rfl, hx.1, hx.2, w0, w1⟩
theorem open_arr3 {r : Reach} {b0 : Nat} {v : Value} {d : DataW H} {ps : List MemPlace} (hv : Value.okWide Tryd.prog w r b0 39 v) (h : DataW.Trod enc Tryd.prog w base sp held 39 v d ps) :
    ∃ x0 x1 x2 : Int, v = .agg #[.int .i64 x0, .int .i64 x1, .int .i64 x2] ∧ d = .agg [.lit (.int .i64 x0), .lit (.int .i64 x1), .lit (.int .i64 x2)] ∧ ps = [] ∧ (Lit.int .i64 x0).wf = true ∧ (Lit.int .i64 x1).wf = true ∧ (Lit.int .i64 x2).wf = true := by
  have hv' : ∃ cs, v = .agg cs ∧ cs.size = Tryd.prog.cellsOf 39 ∧ Row.okWide Tryd.prog w r b0 39 cs := by
    unfold Value.okWide at hv; rw [Tryd.underlying39] at hv; exact hv
  obtain ⟨cs, rfl, hsz, _⟩ := hv'
  rw [c39] at hsz
  obtain ⟨fuel, hf⟩ := h
  obtain ⟨xs, m, rfl, hx, hl, hn, hel⟩ := DataW.trod_array Tryd.underlying39 hf
  obtain ⟨l⟩ := cs
  match l, hsz with
  | [v0, v1, v2], _ =>
  match xs, hn, hx with
  | [y0, y1, y2], _, hx =>
    have e0 := hel 0 (by decide)
    have e1 := hel 1 (by decide)
    have e2 := hel 2 (by decide)
    rw [c3'] at e0 e1 e2
    replace e0 : DataW.trod enc Tryd.prog w base sp held m 3 [v0] = some y0 := e0
    replace e1 : DataW.trod enc Tryd.prog w base sp held m 3 [v1] = some y1 := e1
    replace e2 : DataW.trod enc Tryd.prog w base sp held m 3 [v2] = some y2 := e2
    obtain ⟨n0, a0, rfl, w0⟩ := DataW.trod_int Tryd.underlying3 e0
    obtain ⟨n1, a1, rfl, w1⟩ := DataW.trod_int Tryd.underlying3 e1
    obtain ⟨n2, a2, rfl, w2⟩ := DataW.trod_int Tryd.underlying3 e2
    simp at a0 a1 a2 hx
    subst a0 a1 a2
    exact ⟨n0, n1, n2, rfl, hx.1, hx.2, w0, w1, w2⟩
theorem shut_arr2 {x0 x1 : Int} (w0 : (Lit.int .i64 x0).wf = true) (w1 : (Lit.int .i64 x1).wf = true) : DataW.Trod enc Tryd.prog w base sp held 43 (.agg #[.int .i64 x0, .int .i64 x1]) (.agg [.lit (.int .i64 x0), .lit (.int .i64 x1)]) [] :=
  ⟨2, by simp [DataW.trod, Value.cells, Tryd.underlying43, Tryd.underlying3, c43, c3', w0, w1, List.range_succ]⟩
theorem shut_arr3 {x0 x1 x2 : Int} (w0 : (Lit.int .i64 x0).wf = true) (w1 : (Lit.int .i64 x1).wf = true) (w2 : (Lit.int .i64 x2).wf = true) : DataW.Trod enc Tryd.prog w base sp held 39 (.agg #[.int .i64 x0, .int .i64 x1, .int .i64 x2]) (.agg [.lit (.int .i64 x0), .lit (.int .i64 x1), .lit (.int .i64 x2)]) [] :=
  ⟨2, by simp [DataW.trod, Value.cells, Tryd.underlying39, Tryd.underlying3, c39, c3', w0, w1, w2, List.range_succ]⟩
end
end Go.Proofs.YthbgingclpponaaDoor
