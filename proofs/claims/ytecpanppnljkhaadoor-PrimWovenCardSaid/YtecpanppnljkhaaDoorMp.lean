/- PrimMerged: what is packed by a list of flags and by its opposite, merged, is the list. -/
import Derived.Test.YtecpanppnljkhaaDoorMl
namespace Go.Proofs.YtecpanppnljkhaaDoor
set_option linter.unusedVariables false
open Go.RowKit
def wlL (zs : List Int) (n : Nat) : List Int := mk (fun k => wrap32 (nth zs k)) (min zs.length n)
def flL (zs : List Int) (n : Nat) : List Int := mk (fun k => nth zs (k % zs.length) % 3 - 1) n
def opL (f : List Int) : List Int := mk (fun k => if nth f k = 0 then 1 else 0) f.length
def Opp (f g : List Int) : Prop := g.length = f.length ∧ ∀ k, k < f.length → (nth g k = 0 ↔ nth f k ≠ 0)
theorem Opp.symm {f g : List Int} (h : Opp f g) : Opp g f := ⟨h.1.symm, fun k hk => by
  have := h.2 k (by rw [← h.1]; exact hk)
  constructor
  · intro e e2; exact (this.1 e2) e
  · intro e; exact Classical.byContradiction fun e2 => e (this.2 e2)⟩
theorem opp_op (f : List Int) : Opp f (opL f) := ⟨by simp [opL, mk_length], fun k hk => by
  unfold opL; rw [nth_mk _ _ _ hk]; by_cases h : nth f k = 0 <;> simp [h]⟩
theorem Opp.cnt {f g : List Int} (h : Opp f g) (n : Nat) (hn : n ≤ f.length) : cnt g n = n - Go.Proofs.YtecpanppnljkhaaDoor.cnt f n := by
  induction n with
  | zero => rfl
  | succ n ih =>
    have h1 := ih (by omega)
    have h2 := h.2 n (by omega)
    have h3 := cnt_le f n
    by_cases e : nth f n = 0
    · have e2 : nth g n ≠ 0 := fun x => (h2.1 x) e
      simp only [Go.Proofs.YtecpanppnljkhaaDoor.cnt, e, e2, ne_eq, not_true_eq_false, not_false_eq_true, if_true, if_false, h1]; omega
    · have e2 : nth g n = 0 := h2.2 e
      simp only [Go.Proofs.YtecpanppnljkhaaDoor.cnt, e, e2, ne_eq, not_true_eq_false, not_false_eq_true, if_true, if_false, h1]; omega
theorem pacK_cnt (f a : List Int) (n : Nat) : (pacK f a n).length = cnt f n := by
  induction n with
  | zero => rfl
  | succ n ih => simp only [pacK, cnt]; split <;> simp [ih]
theorem nth_left {xs ys : List Int} (k : Nat) (h : k < xs.length) : nth (xs ++ ys) k = nth xs k := by
  unfold nth; rw [List.getD_eq_getElem?_getD, List.getD_eq_getElem?_getD, List.getElem?_append_left h]
theorem nth_end (xs : List Int) (y : Int) : nth (xs ++ [y]) xs.length = y := by
  unfold nth; rw [List.getD_eq_getElem?_getD]; simp
theorem pacK_nth (f a : List Int) (k n : Nat) (hk : k < n) (h : nth f k ≠ 0) : nth (pacK f a n) (cnt f k) = nth a k := by
  induction n with
  | zero => omega
  | succ n ih =>
    simp only [pacK]
    by_cases e : k = n
    · subst e
      rw [if_pos h, ← pacK_cnt f a k, nth_end]
    · have h1 := ih (by omega)
      have hlt : cnt f k < (pacK f a n).length := by
        rw [pacK_cnt]
        have h2 : cnt f (k + 1) = cnt f k + 1 := by simp [cnt, h]
        have := (cnt_mono f (show k + 1 ≤ n by omega)).1
        omega
      split
      · rw [nth_left _ hlt]; exact h1
      · exact h1
theorem merK_take (f g a : List Int) (h : Opp f g) (hl : a.length = f.length) (k : Nat) (hk : k ≤ f.length) : merK f (pacL f a) (pacL g a) k = a.take k := by
  induction k with
  | zero => simp [merK]
  | succ k ih =>
    have h1 := ih (by omega)
    have ht : a.take (k + 1) = a.take k ++ [nth a k] := take_snoc a k (by omega)
    by_cases e : nth f k = 0
    · have e2 : nth g k ≠ 0 := fun x => (h.2 k (by omega)).1 x e
      simp only [merK, e, ne_eq, not_true_eq_false, if_false]
      rw [h1, ht, show nth (pacL g a) (k - cnt f k) = nth a k by
        rw [← h.cnt k (by omega)]
        exact pacK_nth g a k g.length (by rw [h.1]; omega) e2]
    · simp only [merK, e, ne_eq, not_false_eq_true, if_true]
      rw [h1, ht, show nth (pacL f a) (cnt f k) = nth a k from pacK_nth f a k f.length (by omega) e]
theorem pacL_len {f g a : List Int} (h : Opp f g) : (pacL f a).length = cnt f f.length ∧ (pacL g a).length = f.length - cnt f f.length := by
  constructor
  · exact pacK_cnt f a f.length
  · unfold pacL; rw [pacK_cnt, h.1]; exact h.cnt f.length (Nat.le_refl _)
theorem ls_of (L : List (List Int)) (h1 : ∀ l ∈ L, l.length ≤ 1048576) (h2 : ∀ l ∈ L, ∀ x ∈ l, isW x) : lsE L = 0 := by
  unfold lsE
  rw [if_pos (by rw [List.all_eq_true]; intro l hl; simpa [shortB] using h1 l hl), if_pos (by
    rw [List.all_eq_true]; intro l hl; unfold wordsB; rw [List.all_eq_true]; intro x hx; exact isWb_of x (h2 l hl x hx))]
theorem pac_mem (f a : List Int) (n : Nat) (hn : n ≤ a.length) : ∀ x ∈ pacK f a n, x ∈ a := by
  induction n with
  | zero => intro x hx; simp [pacK] at hx
  | succ n ih =>
    intro x hx
    simp only [pacK] at hx
    split at hx
    · rcases List.mem_append.1 hx with h | h
      · exact ih (by omega) x h
      · simp at h; subst h; exact nth_mem a n (by omega)
    · exact ih (by omega) x hx
theorem mk_all (f : Nat → Int) (n : Nat) (h : ∀ k, isW (f k)) : ∀ x ∈ mk f n, isW x := by
  intro x hx; unfold mk at hx; obtain ⟨k, _, rfl⟩ := List.mem_map.1 hx; exact h k
theorem wl_all (zs : List Int) (n : Nat) : ∀ x ∈ wlL zs n, isW x := mk_all _ _ fun k => wrap32_word _
theorem fl_all (zs : List Int) (n : Nat) : ∀ x ∈ flL zs n, isW x := mk_all _ _ fun k => by unfold isW; omega
theorem op_all (f : List Int) : ∀ x ∈ opL f, isW x := mk_all _ _ fun k => by unfold isW; split <;> omega
theorem wl_len (zs : List Int) (n : Nat) : (wlL zs n).length ≤ n := by unfold wlL; rw [mk_length]; omega
theorem fl_len (zs : List Int) (n : Nat) : (flL zs n).length = n := by unfold flL; rw [mk_length]
/-- Two lists of flags, each the other's opposite, and a list of as many words. -/
structure Merged (a f g : List Int) : Prop where
  opp : Opp f g
  len : a.length = f.length
  few : a.length ≤ 200
  wa : ∀ x ∈ a, isW x
  wf : ∀ x ∈ f, isW x
  wg : ∀ x ∈ g, isW x
theorem Merged.symm {a f g : List Int} (h : Merged a f g) : Merged a g f := ⟨h.opp.symm, by rw [h.len, h.opp.1], h.few, h.wa, h.wg, h.wf⟩
theorem Merged.pac {a f g : List Int} (h : Merged a f g) : pacE f a = 0 := by
  have hl := h.len; have hf := h.few
  have h1 : lsE [f, a] = 0 := ls_of _ (by simp; omega) (by intro l hl; simp at hl; rcases hl with rfl | rfl; exact h.wf; exact h.wa)
  unfold pacE evE
  rw [if_pos h1, if_pos (by simp [evenB, hl])]
theorem Merged.mer {a f g : List Int} (h : Merged a f g) : merE f (pacL f a) (pacL g a) = 0 ∧ merL f (pacL f a) (pacL g a) = a := by
  have hl := h.len; have hf := h.few
  obtain ⟨p1, p2⟩ := pacL_len (a := a) h.opp
  have hc := cnt_le f f.length
  have h1 : lsE [f, pacL f a, pacL g a] = 0 := ls_of _ (by simp; omega) (by
    intro l hl'; simp at hl'
    rcases hl' with rfl | rfl | rfl
    · exact h.wf
    · intro x hx; exact h.wa x (pac_mem f a f.length (by omega) x hx)
    · intro x hx; exact h.wa x (pac_mem g a g.length (by rw [h.opp.1]; omega) x hx))
  refine ⟨?_, ?_⟩
  · unfold merE; rw [if_pos h1, if_pos ⟨p1, p2⟩]
  · unfold merL; rw [merK_take f g a h.opp hl f.length (Nat.le_refl _), ← hl, List.take_length]
theorem Merged.sum {a f g : List Int} (h : Merged a f g) : (pacL f a).length + (pacL g a).length = a.length := by
  obtain ⟨p1, p2⟩ := pacL_len (a := a) h.opp
  have hc := cnt_le f f.length; have := h.len; omega
theorem merged_of (z0 z1 : List Int) : Merged (wlL z0 200) (flL z1 (wlL z0 200).length) (opL (flL z1 (wlL z0 200).length)) :=
  ⟨opp_op _, (fl_len _ _).symm, wl_len _ _, wl_all _ _, fl_all _ _, op_all _⟩
end Go.Proofs.YtecpanppnljkhaaDoor
