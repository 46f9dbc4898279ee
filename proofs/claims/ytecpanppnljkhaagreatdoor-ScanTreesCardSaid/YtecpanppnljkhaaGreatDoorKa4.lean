/- The row's condition, arguments, results. -/
import Derived.Test.YtecpanppnljkhaaGreatDoorRows
import Derived.Test.YtecpanppnljkhaaGreatDoorWe
import Derived.ProofKit
import Derived.LaidMore
import Derived.OpenShut
import Derived.Stop.Joined
import Derived.Test.YtecpanppnljkhaaGreatDoorBa
namespace Go.Proofs.YtecpanppnljkhaaGreatDoor
open Go.ChangeShapes Go.WideShapes Go.ChangeAt Go.RowKit
set_option linter.unusedVariables false
set_option maxRecDepth 100000
def factOf (k i : Nat) : DataW Unit := match (Rows.laid_sheafworks_word_facts : DataW Unit) with
  | .agg xs => (match xs[k]? with
    | some (.agg ys) => ys.getD i (.lit (.bool false))
    | _ => .lit (.bool false))
  | _ => .lit (.bool false)
def factD (k : Nat) : DataW Unit := .agg [factOf k 0, .agg [.lit (.bool (aB k)), .lit (.bool (cB k)), .lit (.bool (iB k))], DataW.lit (.int .i64 (nt k))]
theorem facts_data : (Rows.laid_sheafworks_word_facts : DataW Unit) = .agg ((List.range 12).map factD) := by kernel_rfl
theorem fact_read {enc : TypeId × Value → Unit} {W : World} {base : Nat} {sp : Nat → Bool} {held : Bool} {fuel : Nat} {cs : List Value} {y : DataW Unit × List MemPlace} {k : Nat}
    (h : DataW.trod enc Tryz.prog W base sp held fuel 126 cs = some y) (hy : y.1 = factD k) :
    cs[1]? = some (.bool (aB k)) ∧ cs[2]? = some (.bool (cB k)) ∧ cs[3]? = some (.bool (iB k)) ∧ cs[4]? = some (.int .i64 (nt k)) := by
  obtain ⟨xs, n, rfl, rfl, hl, hlen, hf⟩ := DataW.trod_struct Tryz.underlying126 h
  have c49 : Tryz.prog.cellsOf 126 = 5 := by kernel_rfl
  have c26 : Tryz.prog.cellsOf 94 = 3 := by kernel_rfl
  have c4 : Tryz.prog.cellsOf 4 = 1 := by kernel_rfl
  have c3 : Tryz.prog.cellsOf 3 = 1 := by kernel_rfl
  rw [c49] at hl
  match cs, hl with
  | [v0, v1, v2, v3, v4], _ =>
  match xs, hlen, hy with
  | [x0, x1, x2], _, hy =>
    have f1 : DataW.trod enc Tryz.prog W base sp held n 94 (List.take (Tryz.prog.cellsOf 94) [v1, v2, v3, v4]) = some x1 := hf 1 _ rfl
    have f2 : DataW.trod enc Tryz.prog W base sp held n 3 (List.take (Tryz.prog.cellsOf 3) [v4]) = some x2 := hf 2 _ rfl
    rw [c26] at f1
    rw [c3] at f2
    replace f2 : DataW.trod enc Tryz.prog W base sp held n 3 [v4] = some x2 := f2
    replace f1 : DataW.trod enc Tryz.prog W base sp held n 94 [v1, v2, v3] = some x1 := f1
    simp only [factD, List.map_cons, List.map_nil, DataW.agg.injEq, List.cons.injEq] at hy
    obtain ⟨m, e2, rfl, _⟩ := DataW.trod_int Tryz.underlying3 f2
    obtain ⟨zs, n2, rfl, rfl, hl2, hlen2, hg⟩ := DataW.trod_struct Tryz.underlying94 f1
    match zs, hlen2, hy with
    | [z0, z1, z2], _, hy =>
      have g0 : DataW.trod enc Tryz.prog W base sp held n2 4 (List.take (Tryz.prog.cellsOf 4) [v1, v2, v3]) = some z0 := hg 0 _ rfl
      have g1 : DataW.trod enc Tryz.prog W base sp held n2 4 (List.take (Tryz.prog.cellsOf 4) [v2, v3]) = some z1 := hg 1 _ rfl
      have g2 : DataW.trod enc Tryz.prog W base sp held n2 4 (List.take (Tryz.prog.cellsOf 4) [v3]) = some z2 := hg 2 _ rfl
      rw [c4] at g0 g1 g2
      replace g0 : DataW.trod enc Tryz.prog W base sp held n2 4 [v1] = some z0 := g0
      replace g1 : DataW.trod enc Tryz.prog W base sp held n2 4 [v2] = some z1 := g1
      replace g2 : DataW.trod enc Tryz.prog W base sp held n2 4 [v3] = some z2 := g2
      obtain ⟨b0, d0, rfl⟩ := DataW.trod_bool Tryz.underlying4 g0
      obtain ⟨b1, d1, rfl⟩ := DataW.trod_bool Tryz.underlying4 g1
      obtain ⟨b2, d2, rfl⟩ := DataW.trod_bool Tryz.underlying4 g2
      simp at e2 d0 d1 d2 hy
      obtain ⟨h1, ⟨h2, h3, h4⟩, h5⟩ := hy
      subst e2 d0 d1 d2 h2 h3 h4 h5
      exact ⟨rfl, rfl, rfl, rfl⟩
theorem of_laid {W : World} (h : laidMetH Tryz.prog [("sheafworks/word.facts", Rows.laid_sheafworks_word_facts)] W) : Inv W := by
  rw [MakeChecks.laidMetH_plain _ _ _ (by kernel_rfl)] at h
  obtain ⟨ps, ⟨g3, t3, cs3, f3, p3, q3, hg3, ht3, hv3, hd3, _, _⟩, _, _⟩ := h
  obtain rfl := Option.some.inj ((show Tryz.prog.globalNamed "sheafworks/word.facts" = some 0 by kernel_rfl).symm.trans hg3)
  obtain rfl := Option.some.inj ((show (Tryz.prog.globals[0]?).map (·.type) = some 127 by kernel_rfl).symm.trans ht3)
  have c49 : Tryz.prog.cellsOf 126 = 5 := by kernel_rfl
  obtain ⟨xs, m, rfl, hx, hl, hn, hel⟩ := DataW.trod_array Tryz.underlying127 hd3
  have hxs : xs.map (·.1) = (List.range 12).map factD := by
    have := congrArg Prod.fst hx
    rw [facts_data] at this
    simpa using this.symm
  have key : ∀ k : Nat, k < 12 → cs3[k * 5 + 1]? = some (.bool (aB k)) ∧ cs3[k * 5 + 2]? = some (.bool (cB k)) ∧ cs3[k * 5 + 3]? = some (.bool (iB k)) ∧ cs3[k * 5 + 4]? = some (.int .i64 (nt k)) := by
    intro k hk
    have hk2 := hel k hk
    have hk3 : k < xs.length := by omega
    rw [List.getElem?_eq_getElem hk3] at hk2
    have hk4 : (xs[k]).1 = factD k := by
      have := congrArg (·[k]?) hxs
      simp [hk3, hk] at this
      exact this
    rw [c49] at hk2
    have r := fact_read hk2 hk4
    simp only [List.getElem?_take, List.getElem?_drop] at r
    simpa using r
  have cell : ∀ i, W.cell? ⟨0, i, none⟩ = cs3[i]? := fun i => World.var?_cell hg3 hv3 i
  refine ⟨?_, fun k hk => (cell _).trans (key k hk).1, fun k hk => (cell _).trans (key k hk).2.1, fun k hk => (cell _).trans (key k hk).2.2.1, fun k hk => (cell _).trans (key k hk).2.2.2⟩
  have h3 := (cell 1).trans (key 0 (by decide)).1
  apply Classical.byContradiction
  intro hlt
  have h5 : W.heap[0]? = none := Array.getElem?_eq_none (by omega)
  simp [World.cell?, h5] at h3
end Go.Proofs.YtecpanppnljkhaaGreatDoor

namespace Go.Proofs.YtecpanppnljkhaaGreatDoor
open Go.ChangeShapes Go.WideShapes Go.ChangeAt Go.RowKit
set_option linter.unusedVariables false
set_option maxRecDepth 100000

theorem Tryz.own : ownKnob Tryz.prog.godebug = none := by kernel_rfl
theorem Tryz.laidOut : laidOutB Tryz.prog = true := by kernel_rfl
theorem cells3 : Tryz.prog.cellsOf 3 = 1 := by kernel_rfl
theorem open_sl {H : Type} {enc : TypeId × Value → H} {W : World} {r : Reach} {b0 : Nat} {v : Value} {d : DataW H} {p : List MemPlace} (hval : Value.okWide Tryz.prog W r b0 22 v)
    (h : DataW.Trod enc Tryz.prog W 0 (fun _ => true) true 22 v d p) (hlt : ∀ x ∈ p, x.block < W.heap.size) :
    ∃ (A : Option Addr) (c : Nat) (zs : List Int), v = .slice A zs.length c ∧ zs.length ≤ c ∧ c ≤ 9223372036854775807 ∧ Sl W A zs ∧ ∀ j, j < zs.length → -9223372036854775808 ≤ nth zs j ∧ nth zs j ≤ 9223372036854775807 := by
  obtain ⟨a0, len, cap, rfl⟩ := okWide_slice Tryz.underlying22 hval
  obtain ⟨fuel, hf⟩ := h
  rcases open_ints Tryz.underlying22 Tryz.underlying3 cells3 hf with ⟨hcs, hx⟩ | ⟨a, len', cap', zs, hcs, _, hl, hm, hz, hx, hcell, hwz⟩
  · simp [Value.cells] at hcs
    obtain ⟨rfl, rfl, rfl⟩ := hcs
    exact ⟨none, 0, [], rfl, Nat.le_refl _, by omega, Sl.nil _ _, fun j hj => absurd hj (by simp)⟩
  · simp [Value.cells] at hcs
    obtain ⟨rfl, rfl, rfl⟩ := hcs
    simp only [Prod.mk.injEq] at hx
    obtain ⟨rfl, rfl⟩ := hx
    simp only [if_true] at hz
    have hlen : (zs.take len).length = len := by rw [List.length_take]; omega
    have hn : ∀ j, j < len → nth (zs.take len) j = zs.getD j 0 := fun j hj => by
      unfold nth
      rw [List.getD_eq_getElem?_getD, List.getElem?_take, if_pos hj, List.getD_eq_getElem?_getD]
    refine ⟨some a, cap, zs.take len, by rw [hlen], by rw [hlen]; exact hl, by simpa [maxLen] using hm, fun h0 => ?_, fun j hj => ?_⟩
    · rw [hlen] at h0
      have c0 := hcell 0 (by omega)
      have hs := World.cell?_spot c0
      obtain ⟨b, off, spot⟩ := a
      have hsp : spot = none := by simpa [Addr.add] using hs
      subst hsp
      refine ⟨b, off, rfl, hlt (.cell b off) (MemPlace.mem_row.2 ⟨0, by omega, by simp⟩), fun j hj => ?_⟩
      rw [hlen] at hj
      have := hcell j (by omega)
      rw [hn j hj]
      have he : (⟨b, off, none⟩ : Addr).add j = ⟨b, off + j, none⟩ := by unfold Addr.add; split <;> simp_all
      rwa [he] at this
    · rw [hlen] at hj
      rw [hn j hj]
      have hw := hwz (zs.getD j 0) (by
        rw [List.getD_eq_getElem?_getD, List.getElem?_eq_getElem (by omega : j < zs.length)]
        exact List.getElem_mem _)
      simp [Lit.wf, IntKind.min, IntKind.max, IntKind.signed, IntKind.bits] at hw
      simp
      omega
end Go.Proofs.YtecpanppnljkhaaGreatDoor
