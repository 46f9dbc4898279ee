/- Walks and mathematics of rank, part 9. -/
import Derived.Test.YtgicfgpemcagcaaG08
import Derived.Maps.OwnIn
import Derived.Maps.OwnOps
import Derived.Maps.Views
import Derived.Laws.MakeOwn
import Derived.Test.YtgicfgpemcagcaaG04
import Derived.Test.YtgicfgpemcagcaaG01
import Derived.RangeFuncBox
import Derived.RangeFuncWrites
import Derived.WalkMore
import Derived.Laws.OwnMore
import Derived.Deep.CutRange
import Derived.Deep.QuietTactic
import Derived.BigQuiet
import Derived.Deep.RegionHeld3
import Derived.Maps.AppendAt
/- Merge: its mathematics; slices of what came in; an add that fits; what comes next of set flags. -/
namespace Go.Proofs.Ytgicfgpemcagcaa
set_option linter.unusedVariables false
open Go.RowKit Go.Shelf

attribute [local go_sem] Oper.semAt_some
theorem cnt_back {f : List Int} {q x : Nat} (hc : cnt f q = cnt f x) (h0 : q = 0 ∨ nth f (q - 1) ≠ 0) : q ≤ x := by
  rcases Nat.lt_or_ge x q with h | h
  · rcases h0 with rfl | h0
    · omega
    · obtain ⟨p, rfl⟩ : ∃ p, q = p + 1 := ⟨q - 1, by omega⟩
      simp only [Nat.add_sub_cancel] at h0
      have h1 := (cnt_mono f (show x ≤ p by omega)).1
      simp [cnt, h0] at hc
      omega
  · exact h
theorem mer_next {f a b : List Int} {q : Nat} (x : Nat) (hqx : q ≤ x) (hc : cnt f q = cnt f x) (hb : x - cnt f x ≤ b.length) : merK f a b x = merK f a b q ++ (b.drop (q - cnt f q)).take (x - q) := by
  induction x with
  | zero => obtain rfl : q = 0 := by omega
            simp
  | succ k ih =>
    by_cases e : q = k + 1
    · subst e; simp
    · have h1 := cnt_mono f (show q ≤ k by omega)
      have h2 := cnt_le f q
      have h3 := cnt_mono f (show k ≤ k + 1 by omega)
      have hk : cnt f k = cnt f q := by omega
      have hu : nth f k = 0 := by
        apply Classical.byContradiction
        intro hne
        have : cnt f (k + 1) = cnt f k + 1 := by simp [cnt, hne]
        omega
      have := ih (by omega) (by omega) (by omega)
      simp only [merK, hu, ne_eq, not_true_eq_false, if_false]
      rw [this, List.append_assoc, show k + 1 - q = (k - q) + 1 by omega, take_snoc _ _ (by rw [List.length_drop]; omega), nth_drop, show q - cnt f q + (k - q) = k - cnt f k by omega]
theorem cnt_set {f : List Int} {x : Nat} (h : nth f x ≠ 0) : cnt f (x + 1) = cnt f x + 1 := by simp [cnt, h]
theorem mer_set {f a b : List Int} {x : Nat} (h : nth f x ≠ 0) : merK f a b (x + 1) = merK f a b x ++ [nth a (cnt f x)] := by simp [merK, h]
theorem mer_ls {f a b : List Int} (h : lsE [f, a, b] ≠ 0) : merE f a b = lsE [f, a, b] := by unfold merE; rw [if_neg h]
theorem mer_ok {f a b : List Int} (h : lsE [f, a, b] = 0) (h1 : f.length = a.length + b.length) (h2 : a.length = cnt f f.length) : merE f a b = 0 := by
  unfold merE; rw [if_pos h, if_pos ⟨h2, by omega⟩]
theorem mer_no {f a b : List Int} (h : lsE [f, a, b] = 0) (h1 : ¬ (f.length = a.length + b.length ∧ a.length = cnt f f.length)) : merE f a b = 6 := by
  have := cnt_le f f.length
  unfold merE; rw [if_pos h, if_neg (by omega)]

theorem slice_to (A : Option Addr) (c p : Nat) (ys : List Int) (w : World) (h : Sl w A ys) (hp : p ≤ ys.length) (hc : ys.length ≤ c) :
    ∃ B, (∀ W, (Instr.sliceAt 22 (.slice A ys.length c) none (some (.int .i64 (p : Int))) none).run Try.prog W = .ok (.slice B p c) W) ∧ Sl w B (ys.take p) := by
  obtain ⟨i0, hi, hz0, hz1, hz2⟩ := info_parts int_info
  have he : Try.prog.elem 22 = 3 := by kernel_rfl
  have hrun : ∀ W, (Instr.slice 22 (.slice A ys.length c) none (some (.int .i64 (p : Int))) none).run Try.prog W = .ok (sliced A 0 p c 1) W := fun W => by
    rw [run_slice_h W 22 A ys.length c (by rw [he]; exact Try.underlying22) .i64 (p : Int) (by omega) (by omega), he]
    simp [sizeOf, typeInfo, hi, hz1, Result.andThen]
  unfold sliced at hrun
  refine ⟨_, fun W => (run_sliceAt_slice W 22 _ _ _ _ (by kernel_rfl)).trans (hrun W), ?_⟩
  intro hl
  rw [List.length_take] at hl
  obtain ⟨b, off, rfl, hb, hcl⟩ := h (by omega)
  refine ⟨b, off, ?_, hb, fun j hj => ?_⟩
  · rw [if_neg (by omega)]; simp [Addr.add]
  · rw [List.length_take] at hj
    rw [nth_take ys p j (by omega)]
    exact hcl j (by omega)
theorem slice_from (A : Option Addr) (c lo : Nat) (ys : List Int) (w : World) (h : Sl w A ys) (hlo : lo ≤ ys.length) (hc : ys.length ≤ c) :
    ∃ B, (∀ W, (Instr.sliceAt 22 (.slice A ys.length c) (some (.int .i64 (lo : Int))) none none).run Try.prog W = .ok (.slice B (ys.length - lo) (c - lo)) W) ∧ Sl w B (ys.drop lo) := by
  obtain ⟨i0, hi, hz0, hz1, hz2⟩ := info_parts int_info
  have he : Try.prog.elem 22 = 3 := by kernel_rfl
  have hrun : ∀ W, (Instr.slice 22 (.slice A ys.length c) (some (.int .i64 (lo : Int))) none none).run Try.prog W = .ok (sliced A lo ys.length c 1) W := fun W => by
    rw [run_slice_l W 22 A ys.length c (by rw [he]; exact Try.underlying22) .i64 (lo : Int) (by omega) (by omega), he]
    simp [sizeOf, typeInfo, hi, hz1, Result.andThen]
  unfold sliced at hrun
  refine ⟨_, fun W => (run_sliceAt_slice W 22 _ _ _ _ (by kernel_rfl)).trans (hrun W), ?_⟩
  intro hl
  rw [List.length_drop] at hl
  obtain ⟨b, off, rfl, hb, hcl⟩ := h (by omega)
  refine ⟨b, off + lo, ?_, hb, fun j hj => ?_⟩
  · rw [if_neg (by omega)]
    simp only [Option.map_some, Nat.mul_one]
    unfold Addr.add
    by_cases h0 : lo = 0
    · subst h0; simp
    · simp [h0]
  · rw [List.length_drop] at hj
    rw [nth_drop, Nat.add_assoc]
    exact hcl (lo + j) (by omega)

end Go.Proofs.Ytgicfgpemcagcaa
/- Walks of prim: Put. -/
namespace Go.Proofs.Ytgicfgpemcagcaa
set_option linter.unusedVariables false
set_option maxRecDepth 100000
open Go.RowKit Go.Shelf

/-- Block b is a map of at most n entries that holds f. -/
def MapB (W : World) (b n : Nat) (f : Int → Bool) : Prop :=
  ∃ D : DataW Unit, Maps.IsMap D ∧ W.ownsMap Try.prog 3 (plainElem Try.prog 4) b n D ∧ ∀ x, D.atKey (.int .i64 x) (.lit (.bool false)) = .lit (.bool (f x))
theorem MapB.made (w : World) : MapB (w.alloc (.map #[] 0)) w.heap.size 0 (fun _ => false) := ⟨.map [], Maps.isMap_empty, World.ownsMap_made _ _ _ _, fun _ => rfl⟩
theorem MapB.kept {w w' : World} {b n : Nat} {f : Int → Bool} {row : Option Nat} (h : MapB w b n f) (hg : w.grownBy w' row) (hne : some b ≠ row) : MapB w' b n f := by
  obtain ⟨D, h1, h2, h3⟩ := h
  exact ⟨D, h1, h2.kept hg hne, h3⟩
theorem MapB.alloc {w : World} {b n : Nat} {f : Int → Bool} (h : MapB w b n f) (o : Obj) : MapB (w.alloc o) b n f := h.kept (World.grownBy_alloc w o none) (by simp)
theorem MapB.drew {w : World} {b n : Nat} {f : Int → Bool} (h : MapB w b n f) : MapB w.drew b n f := h
theorem Full.drew {w : World} {g : Nat} {zs : List Int} (h : Full w g zs) : Full w.drew g zs := h
theorem MapB.lt {w : World} {b n : Nat} {f : Int → Bool} (h : MapB w b n f) : b < w.heap.size := by obtain ⟨D, h1, h2, h3⟩ := h; exact h2.lt
theorem int_law : Maps.Keyed Try.prog 3 := Maps.int_keyed Try.underlying3
theorem zero4 (w : World) : (zeroValue 4).run Try.prog w = .ok (.bool false) w := by kernel_rfl
theorem plainElem_bool_inv {H : Type} {P : Program} {e : TypeId} (he : P.underlying e = some .bool) {v : Value} {z : DataW H × List MemPlace} (h : plainElem P e v = some z) : ∃ x, v = .bool x ∧ z = (.lit (.bool x), []) := by
  unfold plainElem at h
  rw [he] at h
  cases v with
  | bool x => exact ⟨x, rfl, by simpa using h.symm⟩
  | _ => simp at h
theorem MapB.look {w : World} {b n : Nat} {f : Int → Bool} (h : MapB w b n f) (key : Int) (hk : (Lit.int .i64 key).wf = true) :
    (Instr.lookup 47 (.map (some b)) (.int .i64 key) false).run Try.prog w = .ok (.bool (f key)) w := by
  obtain ⟨D, h1, h2, h3⟩ := h
  obtain ⟨v, ps, hrun, hv⟩ := h2.lookup int_law Try.underlying47 (zero4 w) (plainElem_bool Try.underlying4 false) (Maps.keyOf_int_mk Try.underlying3 hk)
  obtain ⟨x, rfl, hz⟩ := plainElem_bool_inv Try.underlying4 hv
  simp only [Prod.mk.injEq] at hz
  rw [h3] at hz
  have := hz.1
  injection this with this
  injection this with this
  rw [this]
  exact hrun
theorem MapB.put {w : World} {b n : Nat} {f : Int → Bool} (h : MapB w b n f) (hn : n < maxLen) (key : Int) (hk : (Lit.int .i64 key).wf = true) :
    ∃ w', (Instr.mapUpdate 47 (.map (some b)) (.int .i64 key) (.bool true)).run Try.prog w = .ok () w' ∧ MapB w' b (n + 1) (fun y => if y = key then true else f y) ∧ w.grownBy w' (some b) := by
  obtain ⟨D, h1, h2, h3⟩ := h
  obtain ⟨w', hrun, ho, hg⟩ := h2.update int_law Try.underlying47 hn (Maps.keyOf_int_mk Try.underlying3 hk) (plainElem_bool Try.underlying4 true)
  refine ⟨w', hrun, ⟨_, h1.put _ _, ho, fun y => ?_⟩, hg⟩
  by_cases e : y = key
  · subst e
    simp only [if_true]
    exact Maps.atKey_put_same h1 (show WideAt.IsKeyLit (Lit.int .i64 y) from trivial) _ _
  · simp only [if_neg e]
    rw [Maps.atKey_put_other (by simpa using e)]
    exact h3 y
theorem run_makeMap_hint {P : Program} (t k e : TypeId) (kd : IntKind) (n : Int) (ht : P.underlying t = some (.map k e)) (w : World) :
    (Instr.makeMap t (some (.int kd n))).run P w = .ok (.map (some w.heap.size)) (w.alloc (.map #[] 0)) := by
  simp [Instr.makeMap, run_underlying ht]; rfl
def hadB (p : List Int) (k : Nat) (y : Int) : Bool := (p.take k).contains y
theorem hadB_succ (p : List Int) (k : Nat) (h : k < p.length) : (fun y => if y = nth p k then true else hadB p k y) = hadB p (k + 1) := by
  funext y
  unfold hadB
  rw [take_snoc p k h]
  by_cases e : y = nth p k
  · simp [e]
  · rw [if_neg e, Bool.eq_iff_iff]; simp [e]
theorem ordB_succ (p : List Int) (m n : Nat) : ordB p m (n + 1) = (ordB p m n && (plB (nth p n) m && !(hadB p n (nth p n)))) := rfl
theorem put_ev {a p : List Int} (h : evE [a, p] ≠ 0) : putE a p = evE [a, p] := by unfold putE; rw [if_neg h]
theorem put_trap {a p : List Int} (h : evE [a, p] = 0) (h1 : ordB p a.length p.length = false) : putE a p = 14 := by unfold putE; rw [if_pos h, h1]; rfl
theorem put_ok {a p : List Int} (h : evE [a, p] = 0) (h1 : ordB p a.length p.length = true) : putE a p = 0 := by unfold putE; rw [if_pos h, h1]; rfl
theorem word_wf {x : Int} (h : isW x) : (Lit.int .i64 x).wf = true := by
  unfold isW at h
  simp [Lit.wf, IntKind.min, IntKind.max, IntKind.signed, IntKind.bits]
  omega
end Go.Proofs.Ytgicfgpemcagcaa
/- Memory words of scan's walks: lists of lists, slices cut, boxes. -/
namespace Go.Proofs.Ytgicfgpemcagcaa
set_option linter.unusedVariables false
set_option maxRecDepth 100000
open Go.RowKit
theorem add_plain (b off n : Nat) : ((⟨b, off, none⟩ : Addr).add n) = ⟨b, off + n, none⟩ := by
  unfold Addr.add
  by_cases h0 : n = 0
  · subst h0; simp
  · simp [h0]
theorem sl_at_off {w : World} {b off lo : Nat} {ys zs : List Int} (h : Sl w (some ⟨b, off, none⟩) ys) (hz : ∀ j, j < zs.length → lo + j < ys.length ∧ nth zs j = nth ys (lo + j)) : Sl w (some ⟨b, off + lo, none⟩) zs := fun hl => by
  obtain ⟨h0, _⟩ := hz 0 hl
  obtain ⟨b', o', e, hb, hc⟩ := h (by omega)
  obtain ⟨rfl, rfl⟩ : b = b' ∧ off = o' := by injection e with e; injection e with e1 e2 e3; exact ⟨e1, e2⟩
  refine ⟨b, off + lo, rfl, hb, fun j hj => ?_⟩
  obtain ⟨h1, h2⟩ := hz j hj
  rw [h2, Nat.add_assoc]; exact hc _ h1
theorem slice_from3 (b off c lo : Nat) (ys : List Int) (w : World) (h : Sl w (some ⟨b, off, none⟩) ys) (hlo : lo ≤ ys.length) (hc : ys.length ≤ c) :
    ∃ o', (∀ W, (Instr.sliceAt 22 (.slice (some ⟨b, off, none⟩) ys.length c) (some (.int .i64 (lo : Int))) none none).run Try.prog W = .ok (.slice (some ⟨b, o', none⟩) (ys.length - lo) (c - lo)) W) ∧ Sl w (some ⟨b, o', none⟩) (ys.drop lo) := by
  obtain ⟨i0, hi, hz0, hz1, hz2⟩ := info_parts int_info
  have he : Try.prog.elem 22 = 3 := by kernel_rfl
  have hrun : ∀ W, (Instr.slice 22 (.slice (some ⟨b, off, none⟩) ys.length c) (some (.int .i64 (lo : Int))) none none).run Try.prog W = .ok (sliced (some ⟨b, off, none⟩) lo ys.length c 1) W := fun W => by
    rw [run_slice_l W 22 (some ⟨b, off, none⟩) ys.length c (by rw [he]; exact Try.underlying22) .i64 (lo : Int) (by omega) (by omega), he]
    simp [sizeOf, typeInfo, hi, hz1, Result.andThen]
  unfold sliced at hrun
  simp only [Option.map_some, Nat.mul_one, add_plain] at hrun
  by_cases hcl : c = lo
  · refine ⟨off, fun W => (run_sliceAt_slice W 22 _ _ _ _ (by kernel_rfl)).trans ((hrun W).trans (by rw [if_pos hcl])), ?_⟩
    intro hl; rw [List.length_drop] at hl; omega
  · refine ⟨off + lo, fun W => (run_sliceAt_slice W 22 _ _ _ _ (by kernel_rfl)).trans ((hrun W).trans (by rw [if_neg hcl])), ?_⟩
    refine sl_at_off h fun j hj => ?_
    rw [List.length_drop] at hj
    exact ⟨by omega, by rw [nth_drop]⟩
theorem slice_to3 (b off c p : Nat) (ys : List Int) (w : World) (h : Sl w (some ⟨b, off, none⟩) ys) (hp : p ≤ ys.length) (hc : ys.length ≤ c) :
    ∃ o', (∀ W, (Instr.sliceAt 22 (.slice (some ⟨b, off, none⟩) ys.length c) none (some (.int .i64 (p : Int))) none).run Try.prog W = .ok (.slice (some ⟨b, o', none⟩) p c) W) ∧ Sl w (some ⟨b, o', none⟩) (ys.take p) := by
  obtain ⟨i0, hi, hz0, hz1, hz2⟩ := info_parts int_info
  have he : Try.prog.elem 22 = 3 := by kernel_rfl
  have hrun : ∀ W, (Instr.slice 22 (.slice (some ⟨b, off, none⟩) ys.length c) none (some (.int .i64 (p : Int))) none).run Try.prog W = .ok (sliced (some ⟨b, off, none⟩) 0 p c 1) W := fun W => by
    rw [run_slice_h W 22 (some ⟨b, off, none⟩) ys.length c (by rw [he]; exact Try.underlying22) .i64 (p : Int) (by omega) (by omega), he]
    simp [sizeOf, typeInfo, hi, hz1, Result.andThen]
  unfold sliced at hrun
  simp only [Option.map_some, Nat.mul_one, add_plain, Nat.add_zero, Nat.sub_zero, ite_self] at hrun
  refine ⟨off, fun W => (run_sliceAt_slice W 22 _ _ _ _ (by kernel_rfl)).trans (hrun W), ?_⟩
  have := sl_at_off (lo := 0) (zs := ys.take p) h fun j hj => by
    rw [List.length_take] at hj
    exact ⟨by omega, by rw [nth_take _ _ _ (by omega), Nat.zero_add]⟩
  simpa using this
theorem sl_info : (Try.prog.info? 22).map (fun i => (i.zero, i.size, i.bytes)) = some (some (.slice none 0 0), 1, 24) := by kernel_rfl
theorem retL_none' {w w1 : World} {e : Int} {l : List Int} (he : e ≠ 0) (hB : Below w.heap.size w w1) : RetL w (orL e l) e (.returned (.tuple #[.slice none 0 0, .int .i64 e])) w1 := by
  rw [orL_err _ he]
  exact ⟨none, 0, rfl, Nat.le_refl _, Sl.nil _ _, hB⟩
/-- Where a cut slice begins. -/
def sgA (A : Option Addr) (lo hi : Nat) : Option Addr := if hi = lo then A else A.map (·.add lo)
theorem slice_lhm (A : Option Addr) (n c lo hi : Nat) (hlo : lo ≤ hi) (hhi : hi ≤ n) (hc : n ≤ c) (W : World) :
    (Instr.sliceAt 22 (.slice A n c) (some (.int .i64 (lo : Int))) (some (.int .i64 (hi : Int))) (some (.int .i64 (hi : Int)))).run Try.prog W = .ok (.slice (sgA A lo hi) (hi - lo) (hi - lo)) W := by
  obtain ⟨i0, hi0, hz0, hz1, hz2⟩ := info_parts int_info
  have he : Try.prog.elem 22 = 3 := by kernel_rfl
  have hrun : (Instr.slice 22 (.slice A n c) (some (.int .i64 (lo : Int))) (some (.int .i64 (hi : Int))) (some (.int .i64 (hi : Int)))).run Try.prog W = .ok (sliced A lo hi hi 1) W := by
    rw [run_slice_lhm W 22 A n c (by rw [he]; exact Try.underlying22) .i64 .i64 .i64 (lo : Int) (hi : Int) (hi : Int) (by omega) (by omega) (by omega) (by omega), he]
    simp [sizeOf, typeInfo, hi0, hz1, Result.andThen]
  refine (run_sliceAt_slice W 22 _ _ _ _ (by kernel_rfl)).trans (hrun.trans ?_)
  unfold sliced sgA
  simp
theorem sl_sg {w : World} {A : Option Addr} {ys : List Int} {lo hi : Nat} (h : Sl w A ys) (hlo : lo ≤ hi) (hhi : hi ≤ ys.length) : Sl w (sgA A lo hi) ((ys.drop lo).take (hi - lo)) := by
  intro hl
  rw [List.length_take, List.length_drop] at hl
  obtain ⟨b, off, rfl, hb, hcl⟩ := h (by omega)
  refine ⟨b, off + lo, ?_, hb, fun j hj => ?_⟩
  · unfold sgA
    rw [if_neg (by omega)]
    simp only [Option.map_some]
    unfold Addr.add
    by_cases h0 : lo = 0
    · subst h0; simp
    · simp [h0]
  · rw [List.length_take, List.length_drop] at hj
    rw [nth_take _ _ _ (by omega), nth_drop, Nat.add_assoc]
    exact hcl (lo + j) (by omega)
theorem any_at {α : Type} (L : List α) (p : α → Bool) (f : Nat → α) (hf : ∀ k (h : k < L.length), f k = L[k]) (k : Nat) (hk : k < L.length) (h : p (f k) = true) : L.any p = true := by
  rw [List.any_eq_true]
  exact ⟨L[k], List.getElem_mem hk, by rw [← hf k hk]; exact h⟩
theorem any_no {α : Type} (L : List α) (p : α → Bool) (f : Nat → α) (hf : ∀ k (h : k < L.length), f k = L[k]) (h : ∀ k, k < L.length → p (f k) = false) : L.any p = false := by
  rw [List.any_eq_false]
  intro x hx
  obtain ⟨j, hj, rfl⟩ := List.getElem_of_mem hx
  rw [← hf j hj, h j hj]; simp
/-- 'Returned a place, or -1'. -/
def Idx (b : Bool) (w : World) (e : Ending) (w' : World) : Prop := ∃ i : Int, e = .returned (.int .i64 i) ∧ decide (0 ≤ i) = b ∧ w = w'
theorem idx_at {b : Bool} {w : World} {k : Nat} (h : b = true) : Idx b w (.returned (.int .i64 (k : Int))) w := ⟨_, rfl, by subst h; simp, rfl⟩
theorem idx_no {b : Bool} {w : World} (h : b = false) : Idx b w (.returned (.int .i64 (-1))) w := ⟨_, rfl, by subst h; simp, rfl⟩
end Go.Proofs.Ytgicfgpemcagcaa
