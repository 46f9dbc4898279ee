/- Memory words of scan's walks: lists of lists, slices cut, boxes. -/
import Derived.Test.YtecpanppnljkhaaGreatDoorWf
import Derived.Test.YtecpanppnljkhaaGreatDoorBa
import Derived.RangeFuncBox
import Derived.RangeFuncWrites
import Derived.WalkMore
import Derived.Laws.OwnMore
import Derived.Laws.MakeOwn
import Derived.Deep.CutRange
import Derived.Deep.QuietTactic
import Derived.BigQuiet
import Derived.Deep.RegionHeld3
import Derived.Maps.AppendAt
namespace Go.Proofs.YtecpanppnljkhaaGreatDoor
set_option linter.unusedVariables false
set_option maxRecDepth 100000
open Go.RowKit
theorem int_info : (Tryz.prog.info? 3).map (fun i => (i.zero, i.size, i.bytes)) = some (some (.int .i64 0), 1, 8) := by kernel_rfl
theorem Blk.not_row {W : World} {base B : Nat} {t : TypeId} {cs : Array Value} {v : Value} {zs : List Int} (h : Blk W B t cs) (ht : t ≠ 3) (hrow : OwnI W base v zs) : some B ≠ v.ownBlock := fun e => by
  rcases hrow.2 with ⟨rfl, _⟩ | ⟨g, cap, cur, rfl, _, hgb, _⟩
  · cases e
  · obtain rfl : B = g := by simpa [Value.ownBlock] using e
    rw [show W.heap[B]? = _ from h] at hgb
    cases hgb
    exact ht rfl
theorem Blk.low_row {W : World} {base g : Nat} {v : Value} {zs : List Int} (h : OwnI W base v zs) (hg : g < base) : some g ≠ v.ownBlock := fun e => by
  have := (h.lt g e.symm).1
  omega
theorem OwnI.lower {W : World} {base n : Nat} {v : Value} {zs : List Int} (h : OwnI W base v zs) (hn : n ≤ base) : OwnI W n v zs := by
  refine ⟨h.1, ?_⟩
  rcases h.2 with h0 | ⟨g, cap, cur, e, h1, h2⟩
  · exact .inl h0
  · exact .inr ⟨g, cap, cur, e, Nat.le_trans hn h1, h2⟩
theorem ownsRow_succ {w : World} {base n : Nat} {v : Value} {xs : List Value} (h : w.ownsRow base 3 1 v (n + 1) xs) : ∃ g cap, v = .slice (some ⟨g, 0, none⟩) (n + 1) cap := by
  obtain ⟨g, cap, e, _⟩ := h.form (by omega)
  exact ⟨g, cap, e⟩
theorem OwnI.form3 {w : World} {base : Nat} {v : Value} {zs : List Int} (h : OwnI w base v zs) : ∃ A c, v = .slice A zs.length c ∧ zs.length ≤ c ∧ c ≤ 9223372036854775807 ∧ (A = none → zs.length = 0 ∧ c = 0) ∧ Sl w A zs := by
  obtain ⟨A, c, rfl, h1, h2⟩ := h.form
  rcases h.2 with ⟨h0, h3⟩ | ⟨g, cap, cur, e, _, _, _, h4, _⟩
  · injection h0 with h4 h5 h6
    exact ⟨A, c, rfl, h1, by omega, fun _ => ⟨h5, h6⟩, h2⟩
  · injection e with h5 h6 h7
    subst h5; subst h7
    exact ⟨_, _, rfl, h1, by unfold maxLen at h4; exact h4, (fun h => by cases h), h2⟩
theorem grownBy_set (W : World) (p : Addr) (v : Value) : W.grownBy (W.setCell p v) (some p.block) :=
  ⟨rfl, rfl, rfl, (KeepsWalks.setCell W _ v).size, fun k _ hk => Below.heap_setCell _ _ _ k (fun e => hk (by rw [e]))⟩
/-- 'Returned this value', and only draws were made. -/
def Drew (w : World) (v : Value) (e : Ending) (w' : World) : Prop := e = .returned v ∧ ∃ m, w' = w.drewN m
theorem Drew.of {w : World} {u v : Value} (h : u = v) (m : Nat) : Drew w v (.returned u) (w.drewN m) := ⟨by rw [h], m, rfl⟩
/-- The slice value at A holds lists, in blocks that are there. -/
def Sll (w : World) (A : Option Addr) (L : List (List Int)) : Prop :=
  0 < L.length → ∃ b off, A = some ⟨b, off, none⟩ ∧ b < w.heap.size ∧ ∀ j, j < L.length → ∃ A' c', w.cell? ⟨b, off + j, none⟩ = some (.slice A' (nthL L j).length c') ∧ (nthL L j).length ≤ c' ∧ Sl w A' (nthL L j)
theorem below_drewN' (w : World) (m : Nat) : Below w.heap.size w (w.drewN m) := below_drewN (Below.refl _ _) m
/-- 'Returned this value, and nothing of old is turned'. -/
theorem Drew.retV {w : World} {v : Value} {e : Ending} {w' : World} (h : Drew w v e w') : RetV w v e w' := by
  obtain ⟨h1, m, rfl⟩ := h
  exact ⟨h1, below_drewN' w m⟩
theorem Sll.drewN {w : World} {A : Option Addr} {L : List (List Int)} (h : Sll w A L) (m : Nat) : Sll (w.drewN m) A L := h
theorem Sll.below {w w' : World} {A : Option Addr} {L : List (List Int)} (h : Sll w A L) (hb : Below w.heap.size w w') : Sll w' A L := fun hl => by
  obtain ⟨b, off, e, hlt, hc⟩ := h hl
  refine ⟨b, off, e, Nat.lt_of_lt_of_le hlt hb.size, fun j hj => ?_⟩
  obtain ⟨A', c', h1, h2, h3⟩ := hc j hj
  exact ⟨A', c', (hb.cell (p := ⟨b, off + j, none⟩) hlt).trans h1, h2, h3.step hb⟩
def AllShort (L : List (List Int)) : Prop := ∀ j, j < L.length → (nthL L j).length ≤ 9223372036854775807
theorem sll1 {w : World} {g : Nat} {A1 : Option Addr} {c1 : Nat} {l1 : List Int} (hb : Blk w g 22 #[.slice A1 l1.length c1]) (h1 : Sl w A1 l1) (hc1 : l1.length ≤ c1) : Sll w (some ⟨g, 0, none⟩) [l1] := fun _ =>
  ⟨g, 0, rfl, hb.lt, fun j hj => by
    match j, hj with
    | 0, _ => exact ⟨A1, c1, (hb.cell 0), hc1, h1⟩⟩
theorem sll2 {w : World} {g : Nat} {A1 A2 : Option Addr} {c1 c2 : Nat} {l1 l2 : List Int} (hb : Blk w g 22 #[.slice A1 l1.length c1, .slice A2 l2.length c2]) (h1 : Sl w A1 l1) (h2 : Sl w A2 l2) (hc1 : l1.length ≤ c1) (hc2 : l2.length ≤ c2) : Sll w (some ⟨g, 0, none⟩) [l1, l2] := fun _ =>
  ⟨g, 0, rfl, hb.lt, fun j hj => by
    match j, hj with
    | 0, _ => exact ⟨A1, c1, (hb.cell 0), hc1, h1⟩
    | 1, _ => exact ⟨A2, c2, (hb.cell 1), hc2, h2⟩⟩
theorem allShort_of {L : List (List Int)} (h : ∀ l ∈ L, l.length ≤ 9223372036854775807) : AllShort L := fun j hj => h _ (nthL_mem L j hj)
def Ok (l : List Int) : Prop := l.length ≤ 9223372036854775807
theorem slice_to (A : Option Addr) (c p : Nat) (ys : List Int) (w : World) (h : Sl w A ys) (hp : p ≤ ys.length) (hc : ys.length ≤ c) :
    ∃ B, (∀ W, (Instr.sliceAt 22 (.slice A ys.length c) none (some (.int .i64 (p : Int))) none).run Tryz.prog W = .ok (.slice B p c) W) ∧ Sl w B (ys.take p) := by
  obtain ⟨i0, hi, hz0, hz1, hz2⟩ := info_parts int_info
  have he : Tryz.prog.elem 22 = 3 := by kernel_rfl
  have hrun : ∀ W, (Instr.slice 22 (.slice A ys.length c) none (some (.int .i64 (p : Int))) none).run Tryz.prog W = .ok (sliced A 0 p c 1) W := fun W => by
    rw [run_slice_h W 22 A ys.length c (by rw [he]; exact Tryz.underlying22) .i64 (p : Int) (by omega) (by omega), he]
    simp [sizeOf, typeInfo, hi, hz1, Result.andThen]
  unfold sliced at hrun
  refine ⟨_, fun W => (run_sliceAt_slice W 22 _ _ _ _ (by kernel_rfl)).trans (hrun W), ?_⟩
  intro hl
  rw [List.length_take] at hl
  obtain ⟨b, off, rfl, hb, hcl⟩ := h (by omega)
  refine ⟨b, off, ?_, hb, fun j hj => ?_⟩
  · rw [if_neg (by omega)]; simp [Addr.add]
  · rw [List.length_take] at hj
    rw [nth_take ys p j (by omega)]
    exact hcl j (by omega)
theorem slice_from (A : Option Addr) (c lo : Nat) (ys : List Int) (w : World) (h : Sl w A ys) (hlo : lo ≤ ys.length) (hc : ys.length ≤ c) :
    ∃ B, (∀ W, (Instr.sliceAt 22 (.slice A ys.length c) (some (.int .i64 (lo : Int))) none none).run Tryz.prog W = .ok (.slice B (ys.length - lo) (c - lo)) W) ∧ Sl w B (ys.drop lo) := by
  obtain ⟨i0, hi, hz0, hz1, hz2⟩ := info_parts int_info
  have he : Tryz.prog.elem 22 = 3 := by kernel_rfl
  have hrun : ∀ W, (Instr.slice 22 (.slice A ys.length c) (some (.int .i64 (lo : Int))) none none).run Tryz.prog W = .ok (sliced A lo ys.length c 1) W := fun W => by
    rw [run_slice_l W 22 A ys.length c (by rw [he]; exact Tryz.underlying22) .i64 (lo : Int) (by omega) (by omega), he]
    simp [sizeOf, typeInfo, hi, hz1, Result.andThen]
  unfold sliced at hrun
  refine ⟨_, fun W => (run_sliceAt_slice W 22 _ _ _ _ (by kernel_rfl)).trans (hrun W), ?_⟩
  intro hl
  rw [List.length_drop] at hl
  obtain ⟨b, off, rfl, hb, hcl⟩ := h (by omega)
  refine ⟨b, off + lo, ?_, hb, fun j hj => ?_⟩
  · rw [if_neg (by omega)]
    simp only [Option.map_some, Nat.mul_one]
    unfold Addr.add
    by_cases h0 : lo = 0
    · subst h0; simp
    · simp [h0]
  · rw [List.length_drop] at hj
    rw [nth_drop, Nat.add_assoc]
    exact hcl (lo + j) (by omega)

theorem add_plain (b off n : Nat) : ((⟨b, off, none⟩ : Addr).add n) = ⟨b, off + n, none⟩ := by
  unfold Addr.add
  by_cases h0 : n = 0
  · subst h0; simp
  · simp [h0]
theorem sl_at_off {w : World} {b off lo : Nat} {ys zs : List Int} (h : Sl w (some ⟨b, off, none⟩) ys) (hz : ∀ j, j < zs.length → lo + j < ys.length ∧ nth zs j = nth ys (lo + j)) : Sl w (some ⟨b, off + lo, none⟩) zs := fun hl => by
  obtain ⟨h0, _⟩ := hz 0 hl
  obtain ⟨b', o', e, hb, hc⟩ := h (by omega)
  obtain ⟨rfl, rfl⟩ : b = b' ∧ off = o' := by injection e with e; injection e with e1 e2 e3; exact ⟨e1, e2⟩
  refine ⟨b, off + lo, rfl, hb, fun j hj => ?_⟩
  obtain ⟨h1, h2⟩ := hz j hj
  rw [h2, Nat.add_assoc]; exact hc _ h1
theorem slice_from3 (b off c lo : Nat) (ys : List Int) (w : World) (h : Sl w (some ⟨b, off, none⟩) ys) (hlo : lo ≤ ys.length) (hc : ys.length ≤ c) :
    ∃ o', (∀ W, (Instr.sliceAt 22 (.slice (some ⟨b, off, none⟩) ys.length c) (some (.int .i64 (lo : Int))) none none).run Tryz.prog W = .ok (.slice (some ⟨b, o', none⟩) (ys.length - lo) (c - lo)) W) ∧ Sl w (some ⟨b, o', none⟩) (ys.drop lo) := by
  obtain ⟨i0, hi, hz0, hz1, hz2⟩ := info_parts int_info
  have he : Tryz.prog.elem 22 = 3 := by kernel_rfl
  have hrun : ∀ W, (Instr.slice 22 (.slice (some ⟨b, off, none⟩) ys.length c) (some (.int .i64 (lo : Int))) none none).run Tryz.prog W = .ok (sliced (some ⟨b, off, none⟩) lo ys.length c 1) W := fun W => by
    rw [run_slice_l W 22 (some ⟨b, off, none⟩) ys.length c (by rw [he]; exact Tryz.underlying22) .i64 (lo : Int) (by omega) (by omega), he]
    simp [sizeOf, typeInfo, hi, hz1, Result.andThen]
  unfold sliced at hrun
  simp only [Option.map_some, Nat.mul_one, add_plain] at hrun
  by_cases hcl : c = lo
  · refine ⟨off, fun W => (run_sliceAt_slice W 22 _ _ _ _ (by kernel_rfl)).trans ((hrun W).trans (by rw [if_pos hcl])), ?_⟩
    intro hl; rw [List.length_drop] at hl; omega
  · refine ⟨off + lo, fun W => (run_sliceAt_slice W 22 _ _ _ _ (by kernel_rfl)).trans ((hrun W).trans (by rw [if_neg hcl])), ?_⟩
    refine sl_at_off h fun j hj => ?_
    rw [List.length_drop] at hj
    exact ⟨by omega, by rw [nth_drop]⟩
theorem slice_to3 (b off c p : Nat) (ys : List Int) (w : World) (h : Sl w (some ⟨b, off, none⟩) ys) (hp : p ≤ ys.length) (hc : ys.length ≤ c) :
    ∃ o', (∀ W, (Instr.sliceAt 22 (.slice (some ⟨b, off, none⟩) ys.length c) none (some (.int .i64 (p : Int))) none).run Tryz.prog W = .ok (.slice (some ⟨b, o', none⟩) p c) W) ∧ Sl w (some ⟨b, o', none⟩) (ys.take p) := by
  obtain ⟨i0, hi, hz0, hz1, hz2⟩ := info_parts int_info
  have he : Tryz.prog.elem 22 = 3 := by kernel_rfl
  have hrun : ∀ W, (Instr.slice 22 (.slice (some ⟨b, off, none⟩) ys.length c) none (some (.int .i64 (p : Int))) none).run Tryz.prog W = .ok (sliced (some ⟨b, off, none⟩) 0 p c 1) W := fun W => by
    rw [run_slice_h W 22 (some ⟨b, off, none⟩) ys.length c (by rw [he]; exact Tryz.underlying22) .i64 (p : Int) (by omega) (by omega), he]
    simp [sizeOf, typeInfo, hi, hz1, Result.andThen]
  unfold sliced at hrun
  simp only [Option.map_some, Nat.mul_one, add_plain, Nat.add_zero, Nat.sub_zero, ite_self] at hrun
  refine ⟨off, fun W => (run_sliceAt_slice W 22 _ _ _ _ (by kernel_rfl)).trans (hrun W), ?_⟩
  have := sl_at_off (lo := 0) (zs := ys.take p) h fun j hj => by
    rw [List.length_take] at hj
    exact ⟨by omega, by rw [nth_take _ _ _ (by omega), Nat.zero_add]⟩
  simpa using this
theorem sl_info : (Tryz.prog.info? 22).map (fun i => (i.zero, i.size, i.bytes)) = some (some (.slice none 0 0), 1, 24) := by kernel_rfl
theorem retL_none' {w w1 : World} {e : Int} {l : List Int} (he : e ≠ 0) (hB : Below w.heap.size w w1) : RetL w (orL e l) e (.returned (.tuple #[.slice none 0 0, .int .i64 e])) w1 := by
  rw [orL_err _ he]
  exact ⟨none, 0, rfl, Nat.le_refl _, Sl.nil _ _, hB⟩
/-- Where a cut slice begins. -/
def sgA (A : Option Addr) (lo hi : Nat) : Option Addr := if hi = lo then A else A.map (·.add lo)
theorem slice_lhm (A : Option Addr) (n c lo hi : Nat) (hlo : lo ≤ hi) (hhi : hi ≤ n) (hc : n ≤ c) (W : World) :
    (Instr.sliceAt 22 (.slice A n c) (some (.int .i64 (lo : Int))) (some (.int .i64 (hi : Int))) (some (.int .i64 (hi : Int)))).run Tryz.prog W = .ok (.slice (sgA A lo hi) (hi - lo) (hi - lo)) W := by
  obtain ⟨i0, hi0, hz0, hz1, hz2⟩ := info_parts int_info
  have he : Tryz.prog.elem 22 = 3 := by kernel_rfl
  have hrun : (Instr.slice 22 (.slice A n c) (some (.int .i64 (lo : Int))) (some (.int .i64 (hi : Int))) (some (.int .i64 (hi : Int)))).run Tryz.prog W = .ok (sliced A lo hi hi 1) W := by
    rw [run_slice_lhm W 22 A n c (by rw [he]; exact Tryz.underlying22) .i64 .i64 .i64 (lo : Int) (hi : Int) (hi : Int) (by omega) (by omega) (by omega) (by omega), he]
    simp [sizeOf, typeInfo, hi0, hz1, Result.andThen]
  refine (run_sliceAt_slice W 22 _ _ _ _ (by kernel_rfl)).trans (hrun.trans ?_)
  unfold sliced sgA
  simp
theorem sl_sg {w : World} {A : Option Addr} {ys : List Int} {lo hi : Nat} (h : Sl w A ys) (hlo : lo ≤ hi) (hhi : hi ≤ ys.length) : Sl w (sgA A lo hi) ((ys.drop lo).take (hi - lo)) := by
  intro hl
  rw [List.length_take, List.length_drop] at hl
  obtain ⟨b, off, rfl, hb, hcl⟩ := h (by omega)
  refine ⟨b, off + lo, ?_, hb, fun j hj => ?_⟩
  · unfold sgA
    rw [if_neg (by omega)]
    simp only [Option.map_some]
    unfold Addr.add
    by_cases h0 : lo = 0
    · subst h0; simp
    · simp [h0]
  · rw [List.length_take, List.length_drop] at hj
    rw [nth_take _ _ _ (by omega), nth_drop, Nat.add_assoc]
    exact hcl (lo + j) (by omega)
theorem any_at {α : Type} (L : List α) (p : α → Bool) (f : Nat → α) (hf : ∀ k (h : k < L.length), f k = L[k]) (k : Nat) (hk : k < L.length) (h : p (f k) = true) : L.any p = true := by
  rw [List.any_eq_true]
  exact ⟨L[k], List.getElem_mem hk, by rw [← hf k hk]; exact h⟩
theorem any_no {α : Type} (L : List α) (p : α → Bool) (f : Nat → α) (hf : ∀ k (h : k < L.length), f k = L[k]) (h : ∀ k, k < L.length → p (f k) = false) : L.any p = false := by
  rw [List.any_eq_false]
  intro x hx
  obtain ⟨j, hj, rfl⟩ := List.getElem_of_mem hx
  rw [← hf j hj, h j hj]; simp
/-- 'Returned a place, or -1'. -/
def Idx (b : Bool) (w : World) (e : Ending) (w' : World) : Prop := ∃ i : Int, e = .returned (.int .i64 i) ∧ decide (0 ≤ i) = b ∧ w = w'
theorem idx_at {b : Bool} {w : World} {k : Nat} (h : b = true) : Idx b w (.returned (.int .i64 (k : Int))) w := ⟨_, rfl, by subst h; simp, rfl⟩
theorem idx_no {b : Bool} {w : World} (h : b = false) : Idx b w (.returned (.int .i64 (-1))) w := ⟨_, rfl, by subst h; simp, rfl⟩
end Go.Proofs.YtecpanppnljkhaaGreatDoor
