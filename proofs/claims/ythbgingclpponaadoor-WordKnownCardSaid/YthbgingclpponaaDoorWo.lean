/- What the row's condition on the listed variables gives the walks: the tables' cells. -/
import Derived.Test.YthbgingclpponaaDoorRows
import Derived.Test.YthbgingclpponaaDoorWe
import Derived.ProofKit
import Derived.LaidMore
import Derived.OpenShut
import Derived.Stop.Joined
namespace Go.Proofs.YthbgingclpponaaDoor
open Go.ChangeShapes Go.WideShapes Go.ChangeAt Go.RowKit
set_option linter.unusedVariables false
def factD (k : Nat) : DataW Unit := .agg [.lit (.string (nameL (k : Nat))), .agg [.lit (.bool (aB k)), .lit (.bool (cB k)), .lit (.bool (iB k))], .lit (.int .i64 (nt k))]
theorem facts_data : (Rows.laid_sheafworks_word_facts : DataW Unit) = .agg ((List.range 12).map factD) := by kernel_rfl
theorem fact_read {enc : TypeId × Value → Unit} {W : World} {base : Nat} {sp : Nat → Bool} {held : Bool} {fuel : Nat} {cs : List Value} {y : DataW Unit × List MemPlace} {k : Nat}
    (h : DataW.trod enc Tryd.prog W base sp held fuel 49 cs = some y) (hy : y.1 = factD k) :
    cs[0]? = some (.string ⟨(nameL (k : Nat)).toArray⟩) ∧ cs[1]? = some (.bool (aB k)) ∧ cs[2]? = some (.bool (cB k)) ∧ cs[3]? = some (.bool (iB k)) ∧ cs[4]? = some (.int .i64 (nt k)) := by
  obtain ⟨xs, n, rfl, rfl, hl, hlen, hf⟩ := DataW.trod_struct Tryd.underlying49 h
  have c49 : Tryd.prog.cellsOf 49 = 5 := by kernel_rfl
  have c9 : Tryd.prog.cellsOf 9 = 1 := by kernel_rfl
  have c26 : Tryd.prog.cellsOf 26 = 3 := by kernel_rfl
  have c3 : Tryd.prog.cellsOf 3 = 1 := by kernel_rfl
  have c4 : Tryd.prog.cellsOf 4 = 1 := by kernel_rfl
  rw [c49] at hl
  match cs, hl with
  | [v0, v1, v2, v3, v4], _ =>
  match xs, hlen, hy with
  | [x0, x1, x2], _, hy =>
    have f0 : DataW.trod enc Tryd.prog W base sp held n 9 (List.take (Tryd.prog.cellsOf 9) [v0, v1, v2, v3, v4]) = some x0 := hf 0 _ rfl
    have f1 : DataW.trod enc Tryd.prog W base sp held n 26 (List.take (Tryd.prog.cellsOf 26) [v1, v2, v3, v4]) = some x1 := hf 1 _ rfl
    have f2 : DataW.trod enc Tryd.prog W base sp held n 3 (List.take (Tryd.prog.cellsOf 3) [v4]) = some x2 := hf 2 _ rfl
    rw [c9] at f0; rw [c26] at f1; rw [c3] at f2
    replace f0 : DataW.trod enc Tryd.prog W base sp held n 9 [v0] = some x0 := f0
    replace f1 : DataW.trod enc Tryd.prog W base sp held n 26 [v1, v2, v3] = some x1 := f1
    replace f2 : DataW.trod enc Tryd.prog W base sp held n 3 [v4] = some x2 := f2
    simp only [factD, List.map_cons, List.map_nil, DataW.agg.injEq, List.cons.injEq] at hy
    obtain ⟨s, e0, rfl, _⟩ := DataW.trod_string Tryd.underlying9 f0
    obtain ⟨m, e2, rfl, _⟩ := DataW.trod_int Tryd.underlying3 f2
    obtain ⟨zs, n2, rfl, rfl, hl2, hlen2, hg⟩ := DataW.trod_struct Tryd.underlying26 f1
    match zs, hlen2, hy with
    | [z0, z1, z2], _, hy =>
      have g0 : DataW.trod enc Tryd.prog W base sp held n2 4 (List.take (Tryd.prog.cellsOf 4) [v1, v2, v3]) = some z0 := hg 0 _ rfl
      have g1 : DataW.trod enc Tryd.prog W base sp held n2 4 (List.take (Tryd.prog.cellsOf 4) [v2, v3]) = some z1 := hg 1 _ rfl
      have g2 : DataW.trod enc Tryd.prog W base sp held n2 4 (List.take (Tryd.prog.cellsOf 4) [v3]) = some z2 := hg 2 _ rfl
      rw [c4] at g0 g1 g2
      replace g0 : DataW.trod enc Tryd.prog W base sp held n2 4 [v1] = some z0 := g0
      replace g1 : DataW.trod enc Tryd.prog W base sp held n2 4 [v2] = some z1 := g1
      replace g2 : DataW.trod enc Tryd.prog W base sp held n2 4 [v3] = some z2 := g2
      obtain ⟨b0, d0, rfl⟩ := DataW.trod_bool Tryd.underlying4 g0
      obtain ⟨b1, d1, rfl⟩ := DataW.trod_bool Tryd.underlying4 g1
      obtain ⟨b2, d2, rfl⟩ := DataW.trod_bool Tryd.underlying4 g2
      simp at e0 e2 d0 d1 d2 hy
      obtain ⟨h1, ⟨h2, h3, h4⟩, h5⟩ := hy
      subst e0 e2 d0 d1 d2 h2 h3 h4 h5
      refine ⟨?_, rfl, rfl, rfl, rfl⟩
      simp [← h1]
theorem of_laid {W : World} (h : laidMetH Tryd.prog [("math/bits.deBruijn32tab", Rows.laid_math_bits_deBruijn32tab), ("math/bits.deBruijn64tab", Rows.laid_math_bits_deBruijn64tab), ("internal/strconv.uint64pow10", Rows.laid_internal_strconv_uint64pow10), ("sheafworks/word.facts", Rows.laid_sheafworks_word_facts)] W) : Inv W := by
  rw [MakeChecks.laidMetH_plain _ _ _ (by kernel_rfl)] at h
  obtain ⟨ps, ⟨g0, t0, cs0, f0, p0, q0, hg0, ht0, hv0, hd0, ⟨g1, t1, cs1, f1, p1, q1, hg1, ht1, hv1, hd1, ⟨g2, t2, cs2, f2, p2, q2, hg2, ht2, hv2, hd2, ⟨g3, t3, cs3, f3, p3, q3, hg3, ht3, hv3, hd3, _, _⟩, _⟩, _⟩, _⟩, _, _⟩ := h
  obtain rfl := Option.some.inj ((show Tryd.prog.globalNamed "internal/strconv.uint64pow10" = some 1 by kernel_rfl).symm.trans hg2)
  obtain rfl := Option.some.inj ((show Tryd.prog.globalNamed "sheafworks/word.facts" = some 0 by kernel_rfl).symm.trans hg3)
  obtain rfl := Option.some.inj ((show Tryd.prog.globalNamed "math/bits.deBruijn64tab" = some 3 by kernel_rfl).symm.trans hg1)
  obtain rfl := Option.some.inj ((show (Tryd.prog.globals[1]?).map (·.type) = some 77 by kernel_rfl).symm.trans ht2)
  obtain rfl := Option.some.inj ((show (Tryd.prog.globals[0]?).map (·.type) = some 50 by kernel_rfl).symm.trans ht3)
  obtain rfl := Option.some.inj ((show (Tryd.prog.globals[3]?).map (·.type) = some 82 by kernel_rfl).symm.trans ht1)
  have c49 : Tryd.prog.cellsOf 49 = 5 := by kernel_rfl
  obtain ⟨xs, m, rfl, hx, hl, hn, hel⟩ := DataW.trod_array Tryd.underlying50 hd3
  have hxs : xs.map (·.1) = (List.range 12).map factD := by
    have := congrArg Prod.fst hx
    rw [facts_data] at this
    simpa using this.symm
  have key : ∀ k : Nat, k < 12 → cs3[k * 5 + 0]? = some (.string ⟨(nameL (k : Nat)).toArray⟩) ∧ cs3[k * 5 + 1]? = some (.bool (aB k)) ∧ cs3[k * 5 + 2]? = some (.bool (cB k)) ∧ cs3[k * 5 + 3]? = some (.bool (iB k)) ∧ cs3[k * 5 + 4]? = some (.int .i64 (nt k)) := by
    intro k hk
    have hk2 := hel k hk
    have hk3 : k < xs.length := by omega
    rw [List.getElem?_eq_getElem hk3] at hk2
    have hk4 : (xs[k]).1 = factD k := by
      have := congrArg (·[k]?) hxs
      simp [hk3, hk] at this
      exact this
    rw [c49] at hk2
    have r := fact_read hk2 hk4
    simp only [List.getElem?_take, List.getElem?_drop] at r
    simpa using r
  have cell : ∀ i, W.cell? ⟨0, i, none⟩ = cs3[i]? := fun i => World.var?_cell hg3 hv3 i
  refine ⟨?_, fun k hk => (cell _).trans (key k hk).1, fun k hk => (cell _).trans (key k hk).2.1, fun k hk => (cell _).trans (key k hk).2.2.1, fun k hk => (cell _).trans (key k hk).2.2.2.1, fun k hk => (cell _).trans (key k hk).2.2.2.2, ?_⟩
  · obtain ⟨ys, _, _, _, hl1, _, _⟩ := DataW.trod_array Tryd.underlying82 hd1
    have c82 : Tryd.prog.cellsOf 82 = 64 := by kernel_rfl
    have h3 := World.var?_cell hg1 hv1 0
    rw [c82] at hl1
    have h4 : 0 < cs1.size := by rw [← Array.length_toList, hl1]; decide
    rw [Array.getElem?_eq_getElem h4] at h3
    apply Classical.byContradiction
    intro hlt
    have h5 : W.heap[3]? = none := by simp; omega
    simp [World.cell?, h5] at h3
  · have := Lib.cells_of_tab (P := Tryd.prog) (k := .u64) (zs := Lib.pow10Tab) Tryd.underlying77 Tryd.underlying61 (by kernel_rfl) (by kernel_rfl) hd2
    unfold Lib.TabIs
    rw [hv2, ← this]
end Go.Proofs.YthbgingclpponaaDoor
