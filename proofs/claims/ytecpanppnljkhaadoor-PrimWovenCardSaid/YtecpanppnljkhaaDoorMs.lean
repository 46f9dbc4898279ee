/- PrimPlaced: putting and gathering by an order undo each other. -/
import Derived.Test.YtecpanppnljkhaaDoorMr
import Derived.Test.YtecpanppnljkhaaDoorDh
namespace Go.Proofs.YtecpanppnljkhaaDoor
set_option linter.unusedVariables false
open Go.RowKit
/-- An order of n places. -/
structure Ord (p : List Int) (n : Nat) : Prop where
  len : p.length = n
  bnd : ∀ k, k < n → 0 ≤ nth p k ∧ nth p k < n
  inj : ∀ i j, i < n → j < n → nth p i = nth p j → i = j
  onto : ∀ j, j < n → ∃ k, k < n ∧ nth p k = (j : Int)
theorem mem_up (n : Nat) (x : Int) : x ∈ upL n ↔ 0 ≤ x ∧ x < n := by
  unfold upL mk
  rw [List.mem_map]
  constructor
  · rintro ⟨k, hk, rfl⟩
    have := List.mem_range.1 hk
    omega
  · rintro ⟨h1, h2⟩
    exact ⟨x.toNat, List.mem_range.2 (by omega), by omega⟩
theorem nodup_up (n : Nat) : (upL n).Nodup := by
  unfold upL mk
  exact List.Pairwise.map _ (fun a b h e => h (by omega)) List.nodup_range
theorem ord_of {p : List Int} {n : Nat} (h : p.Perm (upL n)) : Ord p n := by
  have hl : p.length = n := by rw [h.length_eq, up_len]
  have hn : p.Nodup := h.nodup_iff.2 (nodup_up n)
  refine ⟨hl, fun k hk => ?_, fun i j hi hj e => ?_, fun j hj => ?_⟩
  · exact (mem_up n _).1 (h.mem_iff.1 (nth_mem p k (by omega)))
  · rw [nth_eq p i (by omega), nth_eq p j (by omega)] at e
    have h2 := List.pairwise_iff_getElem.1 hn
    apply Classical.byContradiction
    intro hne
    rcases Nat.lt_or_gt_of_ne hne with h3 | h3
    · exact h2 i j (by omega) (by omega) h3 e
    · exact h2 j i (by omega) (by omega) h3 e.symm
  · have := h.mem_iff.2 ((mem_up n (j : Int)).2 (by omega))
    obtain ⟨k, hk, e⟩ := List.getElem_of_mem this
    exact ⟨k, by omega, by rw [nth_eq p k hk, e]⟩
theorem Ord.ord {p : List Int} {n : Nat} (h : Ord p n) : ordB p n n = true := by
  have key : ∀ m, m ≤ n → ordB p n m = true := by
    intro m
    induction m with
    | zero => intro _; rfl
    | succ m ih =>
      intro hm
      rw [ordB_succ, ih (by omega)]
      have hb := h.bnd m (by omega)
      have h1 : plB (nth p m) n = true := by unfold plB; simpa using hb
      have h2 : hadB p m (nth p m) = false := by
        unfold hadB
        rw [← Bool.not_eq_true]
        intro hc
        have hc2 := List.contains_iff_mem.1 hc
        obtain ⟨i, hi, e⟩ := List.getElem_of_mem hc2
        have hlen := h.len
        have hi2 : i < m := by rw [List.length_take] at hi; omega
        rw [List.getElem_take] at e
        have := h.inj i m (by omega) (by omega) (by rw [nth_eq p i (by omega)]; exact e)
        omega
      rw [h1, h2]; rfl
  exact key n (Nat.le_refl _)
theorem nth_set (l : List Int) (i j : Nat) (x : Int) (hi : i < l.length) : nth (l.set i x) j = if i = j then x else nth l j := by
  unfold nth
  rw [List.getD_eq_getElem?_getD, List.getElem?_set]
  by_cases e : i = j
  · subst e; simp [hi]
  · simp [e]
theorem put_read {p a : List Int} {n : Nat} (h : Ord p n) (ha : a.length = n) (k m : Nat) (hk : k < m) (hm : m ≤ n) : nth (putK a p m) (nth p k).toNat = nth a k := by
  induction m with
  | zero => omega
  | succ m ih =>
    have hb := h.bnd m (by omega)
    have hb2 := h.bnd k (by omega)
    simp only [putK]
    rw [nth_set _ _ _ _ (by rw [putK_length]; omega)]
    by_cases e : k = m
    · subst e; rw [if_pos rfl]
    · rw [if_neg (fun e2 => e (h.inj k m (by omega) (by omega) (by omega))), ih (by omega) (by omega)]
theorem putL_read {p a : List Int} {n : Nat} (h : Ord p n) (ha : a.length = n) (k : Nat) (hk : k < n) : nth (putL a p) (nth p k).toNat = nth a k := by
  unfold putL; rw [h.len]; exact put_read h ha k n hk (Nat.le_refl _)
theorem putL_len (a p : List Int) : (putL a p).length = a.length := putK_length a p p.length
theorem gatL_len (a p : List Int) : (gatL a p).length = p.length := by unfold gatL; rw [mk_length]
theorem gatL_nth (a p : List Int) (k : Nat) (hk : k < p.length) : nth (gatL a p) k = nth a (nth p k).toNat := by unfold gatL; rw [nth_mk _ _ _ hk]
theorem gat_put {p a : List Int} {n : Nat} (h : Ord p n) (ha : a.length = n) : gatL (putL a p) p = a := by
  apply eq_of_nth (by rw [gatL_len, h.len, ha])
  intro j hj
  rw [gatL_len] at hj
  rw [gatL_nth _ _ _ hj, putL_read h ha j (by rw [← h.len]; exact hj)]
theorem put_gat {p a : List Int} {n : Nat} (h : Ord p n) (ha : a.length = n) : putL (gatL a p) p = a := by
  have hg : (gatL a p).length = n := by rw [gatL_len, h.len]
  apply eq_of_nth (by rw [putL_len, hg, ha])
  intro j hj
  rw [putL_len, hg] at hj
  obtain ⟨k, hk, e⟩ := h.onto j hj
  have := putL_read h hg k hk
  rw [gatL_nth _ _ _ (by rw [h.len]; exact hk), e, Int.toNat_natCast] at this
  exact this
theorem gat_gat {p a ix : List Int} {n : Nat} (h : Ord p n) (hx : ∀ x ∈ ix, 0 ≤ x ∧ x < n) : gatL (gatL a p) ix = gatL a (gatL p ix) := by
  apply eq_of_nth (by rw [gatL_len, gatL_len, gatL_len])
  intro j hj
  rw [gatL_len] at hj
  have hb := hx _ (nth_mem ix j hj)
  have hl := h.len
  rw [gatL_nth (gatL a p) ix _ hj, gatL_nth a p _ (by omega), gatL_nth a (gatL p ix) _ (by rw [gatL_len]; exact hj), gatL_nth p ix _ hj]
theorem gat_inv {p a : List Int} {n : Nat} (h : Ord p n) (ha : a.length = n) : gatL a (putL (upL n) p) = putL a p := by
  have hu := up_len n
  apply eq_of_nth (by rw [gatL_len, putL_len, putL_len, hu, ha])
  intro j hj
  rw [gatL_len, putL_len, hu] at hj
  obtain ⟨k, hk, e⟩ := h.onto j hj
  have h1 := putL_read h hu k hk
  have h2 := putL_read h ha k hk
  rw [e, Int.toNat_natCast] at h1 h2
  rw [gatL_nth _ _ _ (by rw [putL_len, hu]; exact hj), h1, h2]
  unfold upL; rw [nth_mk _ _ _ hk, Int.toNat_natCast]
theorem all_nth {l : List Int} {P : Int → Prop} (h : ∀ j, j < l.length → P (nth l j)) : ∀ x ∈ l, P x := by
  intro x hx
  obtain ⟨j, hj, e⟩ := List.getElem_of_mem hx
  rw [← e, ← nth_eq l j hj]; exact h j hj
theorem put_mem {p a : List Int} {n : Nat} (h : Ord p n) (ha : a.length = n) (P : Int → Prop) (hP : ∀ x ∈ a, P x) : ∀ x ∈ putL a p, P x := all_nth fun j hj => by
  rw [putL_len] at hj
  obtain ⟨k, hk, e⟩ := h.onto j (by omega)
  have := putL_read h ha k hk
  rw [e, Int.toNat_natCast] at this
  rw [this]; exact hP _ (nth_mem a k (by omega))
theorem gat_mem {p a : List Int} {n : Nat} (hp : ∀ x ∈ p, 0 ≤ x ∧ x < n) (ha : a.length = n) (P : Int → Prop) (hP : ∀ x ∈ a, P x) : ∀ x ∈ gatL a p, P x := all_nth fun j hj => by
  rw [gatL_len] at hj
  rw [gatL_nth _ _ _ hj]
  have := hp _ (nth_mem p j hj)
  exact hP _ (nth_mem a _ (by omega))
theorem Ord.mem {p : List Int} {n : Nat} (h : Ord p n) : ∀ x ∈ p, 0 ≤ x ∧ x < n := all_nth fun j hj => h.bnd j (by have := h.len; omega)
theorem putE_0 {p a : List Int} {n : Nat} (h : Ord p n) (ha : a.length = n) (hn : n ≤ 1000) (hw : ∀ x ∈ a, isW x) : putE a p = 0 := by
  have hl := h.len
  have h3 : lsE [a, p] = 0 := ls_of _ (by simp; omega) (by
    intro l hl; simp at hl
    rcases hl with rfl | rfl
    · exact hw
    · intro x hx; have := h.mem x hx; unfold isW; omega)
  have h4 : evE [a, p] = 0 := by
    unfold evE
    rw [if_pos h3, if_pos (by simp [evenB, hl, ha])]
  exact put_ok h4 (by rw [ha, hl]; exact h.ord)
theorem gatE_0 {p a : List Int} {n : Nat} (hp : ∀ x ∈ p, 0 ≤ x ∧ x < n) (hl : p.length ≤ 1000) (ha : a.length = n) (hn : n ≤ 1000) (hw : ∀ x ∈ a, isW x) : gatE a p = 0 := by
  have h1 : lsE [a, p] = 0 := ls_of _ (by simp; omega) (by
    intro l hl'; simp at hl'
    rcases hl' with rfl | rfl
    · exact hw
    · intro x hx; have := hp x hx; unfold isW; omega)
  unfold gatE
  rw [if_pos h1]
  apply fe_none
  intro k hk
  have := hp _ (nth_mem _ k hk)
  rw [if_pos (by unfold plB; rw [ha]; simpa using this)]
end Go.Proofs.YtecpanppnljkhaaDoor
