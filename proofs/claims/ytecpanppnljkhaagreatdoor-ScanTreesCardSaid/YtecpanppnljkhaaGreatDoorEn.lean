/- The tree of a list: its mathematics, and how it lies in memory. -/
import Derived.Test.YtecpanppnljkhaaGreatDoorEm
import Derived.Test.YtecpanppnljkhaaGreatDoorEl
import Derived.Test.YtecpanppnljkhaaGreatDoorRw
namespace Go.Proofs.YtecpanppnljkhaaGreatDoor
set_option linter.unusedVariables false
open Go.RowKit Go.Shelf
/-- Neighbours joined. -/
def prs (f : Int → Int → Int) : List Int → List Int
  | x :: y :: r => f x y :: prs f r
  | _ => []
theorem prs_length (f : Int → Int → Int) : ∀ l : List Int, (prs f l).length = l.length / 2
  | [] => rfl
  | [x] => by simp [prs]
  | x :: y :: r => by simp only [prs, List.length_cons, prs_length f r]; omega
theorem nth_cons_succ (x : Int) (l : List Int) (k : Nat) : nth (x :: l) (k + 1) = nth l k := rfl
theorem prs_nth (f : Int → Int → Int) : ∀ (l : List Int) (k : Nat), 2 * k + 1 < l.length → nth (prs f l) k = f (nth l (2 * k)) (nth l (2 * k + 1))
  | [], k, h => by simp at h
  | [x], k, h => by simp at h
  | x :: y :: r, 0, _ => rfl
  | x :: y :: r, k + 1, h => by
    rw [prs, nth_cons_succ, prs_nth f r k (by simp at h; omega), show 2 * (k + 1) = 2 * k + 1 + 1 by omega, nth_cons_succ, nth_cons_succ, nth_cons_succ, nth_cons_succ]
theorem prs_take (f : Int → Int → Int) (l : List Int) (k : Nat) (h : 2 * k + 1 < l.length) : (prs f l).take (k + 1) = (prs f l).take k ++ [f (nth l (2 * k)) (nth l (2 * k + 1))] := by
  have hk : k < (prs f l).length := by rw [prs_length]; omega
  rw [List.take_add_one, List.getElem?_eq_getElem hk, Option.toList_some, ← nth_eq _ k hk, prs_nth f l k h]
/-- The levels above a list. -/
def lvK (f : Int → Int → Int) (a : List Int) : Nat → List Int
  | 0 => a
  | k + 1 => prs f (lvK f a k)
theorem lv_length (f : Int → Int → Int) {a : List Int} {d : Nat} (h : a.length = 2 ^ d) : ∀ k, k ≤ d → (lvK f a k).length = 2 ^ (d - k)
  | 0, _ => h
  | k + 1, hk => by
    rw [lvK, prs_length, lv_length f h k (by omega), show d - k = (d - (k + 1)) + 1 by omega, Nat.pow_succ]; omega
theorem lv_nil (f : Int → Int → Int) {a : List Int} {d : Nat} (h : a.length = 2 ^ d) : ∀ k, d < k → lvK f a k = []
  | 0, hk => by omega
  | k + 1, hk => by
    rcases Nat.lt_or_ge d k with h1 | h1
    · rw [lvK, lv_nil f h k h1]; rfl
    · obtain rfl : d = k := by omega
      apply List.eq_nil_of_length_eq_zero
      rw [lvK, prs_length, lv_length f h d (Nat.le_refl _)]; simp
/-- The levels where level k + 1 has c words so far. -/
def curL (f : Int → Int → Int) (a : List Int) (k c : Nat) (j : Nat) : List Int := if j ≤ k then lvK f a j else if j = k + 1 then (lvK f a (k + 1)).take c else []
theorem curL_start (f : Int → Int → Int) (a : List Int) (j : Nat) : curL f a 0 0 j = if j = 0 then a else [] := by
  unfold curL
  by_cases h : j = 0
  · subst h; rfl
  · rw [if_neg (by omega), if_neg h]; split <;> simp
theorem curL_more (f : Int → Int → Int) (a : List Int) (k c : Nat) (h : 2 * c + 1 < (lvK f a k).length) : curL f a k (c + 1) = upd (curL f a k c) (k + 1) (curL f a k c (k + 1) ++ [f (nth (lvK f a k) (2 * c)) (nth (lvK f a k) (2 * c + 1))]) := by
  funext j
  unfold upd curL
  by_cases h1 : j = k + 1
  · subst h1
    rw [if_neg (by omega), if_pos rfl, if_pos rfl, if_neg (by omega), if_pos rfl]
    exact prs_take f _ c h
  · simp only [if_neg h1]
theorem curL_next (f : Int → Int → Int) (a : List Int) (k c : Nat) (h : (lvK f a (k + 1)).length ≤ c) : curL f a k c = curL f a (k + 1) 0 := by
  funext j
  unfold curL
  by_cases h1 : j ≤ k
  · rw [if_pos h1, if_pos (by omega)]
  · rw [if_neg h1]
    by_cases h2 : j = k + 1
    · subst h2; rw [if_pos rfl, if_pos (by omega), List.take_of_length_le h]
    · rw [if_neg h2, if_neg (by omega)]; split <;> simp
theorem curL_end (f : Int → Int → Int) {a : List Int} {d : Nat} (h : a.length = 2 ^ d) : curL f a d 0 = lvK f a := by
  funext j
  unfold curL
  by_cases h1 : j ≤ d
  · rw [if_pos h1]
  · rw [if_neg h1, lv_nil f h j (by omega)]; split <;> simp
theorem curL_at (f : Int → Int → Int) (a : List Int) (k c : Nat) : curL f a k c k = lvK f a k := by unfold curL; rw [if_pos (Nat.le_refl _)]
theorem curL_len (f : Int → Int → Int) {a : List Int} {d : Nat} (h : a.length = 2 ^ d) (hd : d ≤ 20) (k c : Nat) (hk : k < d) : (curL f a k c (k + 1)).length ≤ 1048576 := by
  unfold curL
  rw [if_neg (by omega), if_pos rfl, List.length_take, lv_length f h (k + 1) (by omega)]
  have : 2 ^ (d - (k + 1)) ≤ 2 ^ 20 := Nat.pow_le_pow_right (by omega) (by omega)
  omega
/-- A tree in memory: an array of levels, each of them a row of the call's own. -/
structure TreeAt (w : World) (base g : Nat) (vs : Nat → Value) (LV : Nat → List Int) : Prop where
  blk : Blk w g 109 ((List.range 21).map vs).toArray
  rows : Rws w base 21 (fun _ => 3) vs (fun j => (LV j).map (Value.int .i64))
section
variable {w w' : World} {base g : Nat} {vs : Nat → Value} {LV : Nat → List Int}
theorem TreeAt.cell (h : TreeAt w base g vs LV) {j : Nat} (hj : j < 21) : w.cell? ⟨g, j, none⟩ = some (vs j) := by
  rw [h.blk.cell j]; simp [hj]
theorem TreeAt.own (h : TreeAt w base g vs LV) {j : Nat} (hj : j < 21) : OwnI w base (vs j) (LV j) := h.rows.ints hj rfl rfl
theorem TreeAt.alloc (h : TreeAt w base g vs LV) (o : Obj) : TreeAt (w.alloc o) base g vs LV := ⟨h.blk.alloc o, h.rows.alloc o⟩
theorem TreeAt.drew (h : TreeAt w base g vs LV) : TreeAt w.drew base g vs LV := ⟨h.blk, h.rows.drew⟩
theorem TreeAt.below {B : Nat} (h : TreeAt w base g vs LV) (hb : Below B w w') (hB : w.heap.size ≤ B) : TreeAt w' base g vs LV := ⟨h.blk.below hb (Nat.lt_of_lt_of_le h.blk.lt hB), h.rows.below hb hB⟩
theorem rws_aside {n : Nat} {e : Nat → TypeId} {xs : Nat → List Value} {B : Nat} {row : Option Nat} (h : Rws w base n e vs xs) (hg : w.grownBy w' row) (hr : Aside B w row) : Rws w' base n e vs xs :=
  ⟨fun i hi => own_aside (h.own i hi) hg hr, h.pt⟩
theorem TreeAt.aside {B : Nat} {row : Option Nat} (h : TreeAt w base g vs LV) (hg : w.grownBy w' row) (hr : Aside B w row) : TreeAt w' base g vs LV := ⟨h.blk.aside hg hr, rws_aside h.rows hg hr⟩
theorem map_range_set {α : Type} (f : Nat → α) (n i : Nat) (x : α) : ((List.range n).map f).set i x = (List.range n).map (upd f i x) := by
  apply List.ext_getElem?
  intro j
  rw [List.getElem?_set, List.getElem?_map, List.getElem?_map]
  unfold upd
  by_cases h : i = j
  · subst h
    by_cases h2 : i < n
    · simp [h2]
    · simp [h2]
  · rw [if_neg h]
    by_cases h2 : j < n
    · simp [h2, Ne.symm h]
    · simp [h2]
/-- A row of the tree grows, and its header is stored. -/
theorem TreeAt.grow (h : TreeAt w base g vs LV) (ht : 109 ≠ 3) {i : Nat} (hi : i < 21) {v' : Value} {ys : List Int} (hown : OwnI w' base v' ys) (hg : w.grownBy w' (vs i).ownBlock)
    (hd : v'.ownBlock = (vs i).ownBlock ∨ v'.ownBlock = some w.heap.size) : TreeAt (w'.setCell ⟨g, i, none⟩ v') base g (upd vs i v') (upd LV i ys) := by
  have hn : ∀ j, j < 21 → some g ≠ (vs j).ownBlock := fun j hj => h.blk.not_row ht (h.own hj)
  have hb := h.blk.grown hg (hn i hi)
  have hr := h.rows.app (i := i) hi (ys := ys.map (Value.int .i64)) (by have := hown; unfold OwnI at this; rw [List.length_map]; exact this) hg hd
  refine ⟨?_, ?_⟩
  · have := hb.set_ i v'
    rw [List.setIfInBounds_toArray, map_range_set] at this
    exact this
  · refine ((hr.kept (grownBy_set w' ⟨g, i, none⟩ v') fun j hj => .inr fun e => ?_)).congr (fun _ _ => rfl) (fun _ _ => rfl) (fun j _ => by unfold upd; split <;> rfl)
    by_cases e1 : j = i
    · subst e1
      rw [upd_same] at e
      rcases hd with hd | hd
      · exact hn j hj (by rw [← hd]; exact e.symm)
      · rw [hd] at e
        have h1 := h.blk.lt
        injection e with e
        simp at e; omega
    · rw [upd_ne _ _ e1] at e
      exact hn j hj e.symm
end
end Go.Proofs.YtecpanppnljkhaaGreatDoor
