/- Walks of the specification: a slice appended; Upto, Copy; Iota, Cat. -/
import Derived.Test.YtecpanppnljkhaaDoorRc
import Derived.Test.YtecpanppnljkhaaDoorCh
import Derived.Laws.AppendOwnNone
namespace Go.Proofs.YtecpanppnljkhaaDoor
set_option linter.unusedVariables false
open Go.RowKit Go.Shelf
theorem Sl.news {w : World} {ad : Addr} {zs : List Int} (h : Sl w (some ad) zs) : ∀ j u, (zs.map (Value.int .i64))[j]? = some u → w.cell? (ad.add j) = some u := by
  intro j u hj
  have hjl : j < zs.length := by
    have := (List.getElem?_eq_some_iff.1 hj).1
    simpa using this
  obtain ⟨b, o, e, hb, hc⟩ := h.at_ hjl
  cases e
  rw [List.getElem?_map, List.getElem?_eq_getElem hjl] at hj
  simp at hj
  subst hj
  rw [nth_eq zs j hjl] at hc
  have he : (⟨b, o, none⟩ : Addr).add j = ⟨b, o + j, none⟩ := by unfold Addr.add; split <;> simp_all
  rw [he]; exact hc
theorem OwnI.app {w : World} {base n m : Nat} {v : Value} {zs ys : List Int} (h : w.ownsRow base 3 1 v (n + m) (zs.map (Value.int .i64) ++ ys.map (Value.int .i64))) (hn : zs.length = n) (hm : ys.length = m) : OwnI w base v (zs ++ ys) := by
  unfold OwnI
  rw [List.length_append, List.map_append, hn, hm]
  exact h
theorem below_app {w wr w1 : World} {base : Nat} {v : Value} {zs : List Int} (hB : Below base w wr) (hb : base ≤ wr.heap.size) (h : OwnI wr base v zs) (hg : wr.grownBy w1 v.ownBlock) : Below base w w1 :=
  hB.grown hg hb (fun k e => (h.lt k e).1)
theorem Sl.nil_of {w : World} {zs : List Int} (h : Sl w none zs) : zs = [] := by
  apply Classical.byContradiction
  intro hne
  obtain ⟨b, o, e, _⟩ := h (List.length_pos_iff.2 hne)
  cases e
end Go.Proofs.YtecpanppnljkhaaDoor
