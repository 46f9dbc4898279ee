/- Arguments that are a flagged word by value, or a slice of flagged words. -/
import Derived.Test.YtecpanppnljkhaaGreatDoorZf
import Derived.Deep.Slices
import Derived.Deep.Fields
import Derived.ChangeSame
namespace Go.Proofs.YtecpanppnljkhaaGreatDoor
set_option maxRecDepth 100000
set_option linter.unusedVariables false
open Go.ChangeShapes Go.WideShapes Go.ChangeAt Go.RowKit Go.Deep
theorem c2f : Tryz.prog.cellsOf 41 = 2 := by kernel_rfl
theorem c4b : Tryz.prog.cellsOf 4 = 1 := by kernel_rfl
theorem c3f : Tryz.prog.cellsOf 3 = 1 := by kernel_rfl
section
variable {H : Type} {enc : TypeId × Value → H} {w : World} {base : Nat} {sp : Nat → Bool} {held : Bool}
theorem trod_flag {m : Nat} {v0 v1 : Value} {y : DataW H × List MemPlace} (h : DataW.trod enc Tryz.prog w base sp held m 41 [v0, v1] = some y) :
    ∃ (b : Bool) (n : Int), v0 = .bool b ∧ v1 = .int .i64 n ∧ y = (.agg [.lit (.bool b), .lit (.int .i64 n)], []) ∧ (Lit.int .i64 n).wf = true := by
  obtain ⟨y0, y1, n, rfl, _, h0, h1⟩ := trod_struct2 Tryz.underlying41 h
  replace h0 : DataW.trod enc Tryz.prog w base sp held n 4 (([v0, v1].drop 0).take (Tryz.prog.cellsOf 4)) = some y0 := h0
  replace h1 : DataW.trod enc Tryz.prog w base sp held n 3 (([v0, v1].drop 1).take (Tryz.prog.cellsOf 3)) = some y1 := h1
  rw [c4b] at h0
  rw [c3f] at h1
  obtain ⟨b, e0, rfl⟩ := DataW.trod_bool Tryz.underlying4 h0
  obtain ⟨k, e1, rfl, wk⟩ := DataW.trod_int Tryz.underlying3 h1
  simp at e0 e1
  exact ⟨b, k, e0, e1, rfl, wk⟩
theorem open_flag {r : Reach} {b0 : Nat} {v : Value} {d : DataW H} {ps : List MemPlace} (hv : Value.okWide Tryz.prog w r b0 41 v) (h : DataW.Trod enc Tryz.prog w base sp held 41 v d ps) :
    ∃ (p : Bool) (x : Int), v = .agg #[.bool p, .int .i64 x] ∧ d = .agg [.lit (.bool p), .lit (.int .i64 x)] ∧ ps = [] ∧ (Lit.int .i64 x).wf = true := by
  obtain ⟨cs, rfl, hsz⟩ := okWide_struct Tryz.underlying41 hv
  rw [c2f] at hsz
  obtain ⟨fuel, hf⟩ := h
  obtain ⟨l⟩ := cs
  match l, hsz with
  | [v0, v1], _ =>
    obtain ⟨b, n, rfl, rfl, e, wn⟩ := trod_flag (y := (d, ps)) hf
    simp only [Prod.mk.injEq] at e
    exact ⟨b, n, rfl, e.1, e.2, wn⟩
theorem shut_flag {p : Bool} {x : Int} (w0 : (Lit.int .i64 x).wf = true) : DataW.Trod enc Tryz.prog w base sp held 41 (.agg #[.bool p, .int .i64 x]) (.agg [.lit (.bool p), .lit (.int .i64 x)]) [] :=
  ⟨2, by simp [DataW.trod, Value.cells, Tryz.underlying41, Tryz.underlying3, Tryz.underlying4, c2f, c4b, c3f, w0]⟩
end
theorem open_slf {H : Type} {enc : TypeId × Value → H} {W : World} {r : Reach} {b0 : Nat} {v : Value} {d : DataW H} {p : List MemPlace} (hval : Value.okWide Tryz.prog W r b0 42 v)
    (h : DataW.Trod enc Tryz.prog W 0 (fun _ => true) true 42 v d p) (hlt : ∀ x ∈ p, x.block < W.heap.size) :
    ∃ (A : Option Addr) (c : Nat) (zs : List (Bool × Int)), v = .slice A zs.length c ∧ zs.length ≤ c ∧ c ≤ 9223372036854775807 ∧ SlF W A zs ∧ True := by
  obtain ⟨a0, len, cap, rfl⟩ := okWide_slice Tryz.underlying42 hval
  obtain ⟨fuel, hf⟩ := h
  rcases open_slice Tryz.underlying42 hf with ⟨hcs, hx⟩ | ⟨a, len', cap', m, n, D, Pl, hcs, hb, hl, hm, hmm, hx, hi⟩
  · simp [Value.cells] at hcs
    obtain ⟨rfl, rfl, rfl⟩ := hcs
    exact ⟨none, 0, [], rfl, Nat.le_refl _, by omega, SlF.nil _ _, trivial⟩
  · simp [Value.cells] at hcs
    obtain ⟨rfl, rfl, rfl⟩ := hcs
    simp only [Prod.mk.injEq] at hx
    obtain ⟨rfl, rfl⟩ := hx
    simp only [if_true] at hmm
    subst hmm
    rw [c2f] at hlt hi
    have hz : ∀ i, ∃ z : Bool × Int, i < len → W.cell? (a.add (i * 2)) = some (.bool z.1) ∧ W.cell? (a.add (i * 2 + 1)) = some (.int .i64 z.2) := fun i => by
      by_cases hil : i < len
      · obtain ⟨cs', hc, ht⟩ := hi i (by omega)
        obtain ⟨_, hn2, hat⟩ := World.cells?_some hc
        match cs', hn2 with
        | [v0, v1], _ =>
          obtain ⟨b, k, rfl, rfl, _, _⟩ := trod_flag ht
          refine ⟨(b, k), fun _ => ⟨?_, ?_⟩⟩
          · have := hat 0 (by decide); rw [add_add] at this; simpa using this
          · have := hat 1 (by decide); rw [add_add] at this; simpa using this
      · exact ⟨(false, 0), fun h => absurd h hil⟩
    obtain ⟨f, hff⟩ : ∃ f : Nat → Bool × Int, ∀ i, i < len → W.cell? (a.add (i * 2)) = some (.bool (f i).1) ∧ W.cell? (a.add (i * 2 + 1)) = some (.int .i64 (f i).2) := ⟨fun i => (hz i).choose, fun i h => (hz i).choose_spec h⟩
    have hlen : (mkB f len).length = len := mkB_length _ _
    refine ⟨some a, m, mkB f len, by rw [hlen], by rw [hlen]; exact hl, by simpa [maxLen] using hm, fun h0 => ?_, trivial⟩
    rw [hlen] at h0
    have c0 := (hff 0 h0).1
    have hs := World.cell?_spot c0
    obtain ⟨b, off, spot⟩ := a
    have hsp : spot = none := by simpa [Addr.add] using hs
    subst hsp
    have he : ∀ j, (⟨b, off, none⟩ : Addr).add j = ⟨b, off + j, none⟩ := fun j => by unfold Addr.add; split <;> simp_all
    refine ⟨b, off, rfl, hlt (.cell b off) (List.mem_append_left _ (MemPlace.mem_row.2 ⟨0, by omega, by simp⟩)), fun j hj => ?_⟩
    rw [hlen] at hj
    rw [fth_mkB _ _ _ hj]
    have h1 := hff j hj
    rw [he, he] at h1
    exact h1
end Go.Proofs.YtecpanppnljkhaaGreatDoor
