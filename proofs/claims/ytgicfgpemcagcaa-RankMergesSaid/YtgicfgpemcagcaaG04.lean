/- Walks and mathematics of rank, part 4. -/
import Derived.Test.YtgicfgpemcagcaaG03
import Derived.Test.YtgicfgpemcagcaaG01
import Derived.RangeFuncBox
import Derived.RangeFuncWrites
import Derived.WalkMore
import Derived.Laws.OwnMore
/- Walks, part f: Neutral, of both sides. -/
namespace Go.Proofs.Ytgicfgpemcagcaa
set_option linter.unusedVariables false
open Go.RowKit
end Go.Proofs.Ytgicfgpemcagcaa
/- Walks of prim: all, at both its types. -/
namespace Go.Proofs.Ytgicfgpemcagcaa
set_option linter.unusedVariables false
open Go.RowKit

/-- 'Returned this value', and only draws were made. -/
def Drew (w : World) (v : Value) (e : Ending) (w' : World) : Prop := e = .returned v ∧ ∃ m, w' = w.drewN m
theorem Drew.of {w : World} {u v : Value} (h : u = v) (m : Nat) : Drew w v (.returned u) (w.drewN m) := ⟨by rw [h], m, rfl⟩
/-- The slice value at A holds lists, in blocks that are there. -/
def Sll (w : World) (A : Option Addr) (L : List (List Int)) : Prop :=
  0 < L.length → ∃ b off, A = some ⟨b, off, none⟩ ∧ b < w.heap.size ∧ ∀ j, j < L.length → ∃ A' c', w.cell? ⟨b, off + j, none⟩ = some (.slice A' (nthL L j).length c') ∧ (nthL L j).length ≤ c' ∧ Sl w A' (nthL L j)

end Go.Proofs.Ytgicfgpemcagcaa
/- Walks of prim: a list in the making: add, result. -/
namespace Go.Proofs.Ytgicfgpemcagcaa
set_option linter.unusedVariables false
open Go.RowKit

theorem int_info : (Try.prog.info? 3).map (fun i => (i.zero, i.size, i.bytes)) = some (some (.int .i64 0), 1, 8) := by kernel_rfl
theorem Blk.not_row {W : World} {base B : Nat} {t : TypeId} {cs : Array Value} {v : Value} {zs : List Int} (h : Blk W B t cs) (ht : t ≠ 3) (hrow : OwnI W base v zs) : some B ≠ v.ownBlock := fun e => by
  rcases hrow.2 with ⟨rfl, _⟩ | ⟨g, cap, cur, rfl, _, hgb, _⟩
  · cases e
  · obtain rfl : B = g := by simpa [Value.ownBlock] using e
    rw [show W.heap[B]? = _ from h] at hgb
    cases hgb
    exact ht rfl
theorem Blk.low_row {W : World} {base g : Nat} {v : Value} {zs : List Int} (h : OwnI W base v zs) (hg : g < base) : some g ≠ v.ownBlock := fun e => by
  have := (h.lt g e.symm).1
  omega
theorem OwnI.lower {W : World} {base n : Nat} {v : Value} {zs : List Int} (h : OwnI W base v zs) (hn : n ≤ base) : OwnI W n v zs := by
  refine ⟨h.1, ?_⟩
  rcases h.2 with h0 | ⟨g, cap, cur, e, h1, h2⟩
  · exact .inl h0
  · exact .inr ⟨g, cap, cur, e, Nat.le_trans hn h1, h2⟩
theorem ownsRow_succ {w : World} {base n : Nat} {v : Value} {xs : List Value} (h : w.ownsRow base 3 1 v (n + 1) xs) : ∃ g cap, v = .slice (some ⟨g, 0, none⟩) (n + 1) cap := by
  obtain ⟨g, cap, e, _⟩ := h.form (by omega)
  exact ⟨g, cap, e⟩
theorem OwnI.form3 {w : World} {base : Nat} {v : Value} {zs : List Int} (h : OwnI w base v zs) : ∃ A c, v = .slice A zs.length c ∧ zs.length ≤ c ∧ c ≤ 9223372036854775807 ∧ (A = none → zs.length = 0 ∧ c = 0) ∧ Sl w A zs := by
  obtain ⟨A, c, rfl, h1, h2⟩ := h.form
  rcases h.2 with ⟨h0, h3⟩ | ⟨g, cap, cur, e, _, _, _, h4, _⟩
  · injection h0 with h4 h5 h6
    exact ⟨A, c, rfl, h1, by omega, fun _ => ⟨h5, h6⟩, h2⟩
  · injection e with h5 h6 h7
    subst h5; subst h7
    exact ⟨_, _, rfl, h1, by unfold maxLen at h4; exact h4, (fun h => by cases h), h2⟩
theorem grownBy_set (W : World) (p : Addr) (v : Value) : W.grownBy (W.setCell p v) (some p.block) :=
  ⟨rfl, rfl, rfl, (KeepsWalks.setCell W _ v).size, fun k _ hk => Below.heap_setCell _ _ _ k (fun e => hk (by rw [e]))⟩
/-- Behind a call that writes more words into a list in the making, which stands at the cell i of block g. -/
structure Added (W w1 : World) (base g i : Nat) (t : TypeId) (cs : Array Value) (v v' : Value) (zs xs : List Int) : Prop where
  box : Blk w1 g t (cs.setIfInBounds i v')
  own : OwnI w1 base v' (zs ++ xs)
  others : KeepsOthers W w1
  below : ∀ n, n ≤ base → n ≤ g → n ≤ W.heap.size → Below n W w1
  keep : ∀ b t' cs', Blk W b t' cs' → b ≠ g → some b ≠ v.ownBlock → Blk w1 b t' cs'
theorem added_of {W w1 : World} {base g i : Nat} {t : TypeId} {cs : Array Value} {v v' : Value} {zs xs : List Int} {tmp : Obj} (hv : Blk W g t cs) (ht : t ≠ 3) (hrow : OwnI W base v zs) (hb : base ≤ W.heap.size)
    (hown' : OwnI w1 base v' (zs ++ xs)) (hgrow : (W.alloc tmp).grownBy w1 v.ownBlock) : Added W (w1.setCell ⟨g, i, none⟩ v') base g i t cs v v' zs xs := by
  have hv1 : Blk w1 g t cs := (hv.alloc tmp).grown hgrow (hv.not_row ht hrow)
  refine ⟨hv1.set_ i v', hown'.kept (grownBy_set w1 ⟨g, i, none⟩ v') (.inr (hv1.not_row ht hown').symm), ?_, fun n hn hg hw => ?_, fun b t' cs' h hne hnr => ?_⟩
  · refine ((KeepsOthers.alloc W tmp).trans (KeepsOthers.of_grownBy hgrow fun j o ej hj => ?_)).trans (KeepsOthers.setCell _ _ _)
    rcases (hrow.alloc tmp).2 with ⟨rfl, _⟩ | ⟨g, cap, cur, rfl, _, hgb, _⟩
    · simp [Value.ownBlock] at ej
    · obtain rfl : g = j := by simpa [Value.ownBlock] using ej
      rw [hgb] at hj; cases hj; rfl
  · refine (((Below.refl n W).alloc hw tmp).grown hgrow (by simp; omega) fun j ej => ?_).setCell (p := ⟨g, i, none⟩) hg v'
    exact Nat.le_trans hn (hrow.lt j ej).1
  · exact ((h.alloc tmp).grown hgrow hnr).far (p := ⟨g, i, none⟩) hne v'
def Add (w : World) (base g i : Nat) (t : TypeId) (cs : Array Value) (v : Value) (zs xs : List Int) (e : Ending) (w' : World) : Prop := (∃ u, e = .returned u) ∧ ∃ v', Added w w' base g i t cs v v' zs xs

end Go.Proofs.Ytgicfgpemcagcaa
