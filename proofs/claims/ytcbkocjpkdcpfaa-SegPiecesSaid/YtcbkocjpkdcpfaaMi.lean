/- Pieces and nests: the mathematics. -/
import Derived.Test.YtcbkocjpkdcpfaaMh
import Derived.Test.YtcbkocjpkdcpfaaMg
namespace Go.Proofs.Ytcbkocjpkdcpfaa
set_option linter.unusedVariables false

theorem nsL_length (zs ys : List Int) : (nsL zs ys).length = zs.length := by simp [nsL]
theorem nth_nsL (zs ys : List Int) (k : Nat) (h : k < zs.length) : nth (nsL zs ys) k = nsK zs ys k := by
  rw [nth_eq _ _ (by rw [nsL_length]; exact h)]; simp [nsL]
theorem psum_nsL (zs ys : List Int) (j : Nat) (hj : j ≤ zs.length) : psum (nsL zs ys) j = psum ys (psum zs j).toNat := by
  induction j with
  | zero => rw [psum_zero, psum_zero]; exact (psum_zero ys).symm
  | succ j ih =>
    rw [psum_succ _ j (by rw [nsL_length]; omega), ih (by omega), nth_nsL zs ys j (by omega)]
    unfold nsK sg
    omega
theorem list_ext {a b : List Int} (hl : a.length = b.length) (h : ∀ k, k < a.length → nth a k = nth b k) : a = b := by
  apply List.ext_getElem hl
  intro i h1 h2
  have := h i h1
  rwa [nth_eq a i h1, nth_eq b i h2] at this
/-- What nests: fine lengths, as many as the others sum. -/
structure Nests (zs ys : List Int) : Prop where
  outer : Fine zs
  inner : Fine ys
  sum : zs.sum = (ys.length : Int)
section
variable {zs ys : List Int}
theorem Nests.le (h : Nests zs ys) (k : Nat) (hk : k ≤ zs.length) : (psum zs k).toNat ≤ ys.length := by
  have h1 := psum_mono zs zs.length (Nat.le_refl _) h.outer.pos k zs.length hk (Nat.le_refl _)
  rw [psum_all, h.sum] at h1
  omega
theorem Nests.err (h : Nests zs ys) : nsE zs ys = 0 := by
  unfold nsE
  rw [if_neg (by rw [(ck_fine h.outer).1]; simp), if_neg (by rw [(ck_fine h.inner).1]; simp), if_neg (by rw [h.sum]; simp)]
theorem Nests.total (h : Nests zs ys) : (nsL zs ys).sum = ys.sum := by
  rw [← psum_all, nsL_length, psum_nsL zs ys zs.length (Nat.le_refl _), psum_all, h.sum, Int.toNat_natCast, psum_all]
theorem Nests.fine (h : Nests zs ys) : Fine (nsL zs ys) := by
  refine ⟨by rw [nsL_length]; exact h.outer.len, fun j hj => ?_, by rw [h.total]; exact h.inner.sum⟩
  rw [nsL_length] at hj
  rw [nth_nsL zs ys j hj]
  have a := h.outer.psum j (by omega)
  have b := (h.outer.nth j hj).1
  have c := psum_succ zs j hj
  have := psum_mono ys ys.length (Nat.le_refl _) h.inner.pos (psum zs j).toNat (psum zs (j + 1)).toNat (by omega) (h.le (j + 1) (by omega))
  unfold nsK sg
  omega
end
theorem ns_assoc {cs zs ys : List Int} (h : Nests cs zs) : nsL (nsL cs zs) ys = nsL cs (nsL zs ys) := by
  refine list_ext (by simp only [nsL_length]) fun k hk => ?_
  simp only [nsL_length] at hk
  rw [nth_nsL _ _ _ (by rw [nsL_length]; exact hk), nth_nsL _ _ _ hk]
  unfold nsK sg
  rw [psum_nsL cs zs k (by omega), psum_nsL cs zs (k + 1) (by omega), psum_nsL zs ys _ (h.le k (by omega)), psum_nsL zs ys _ (h.le (k + 1) (by omega))]

/-! ### pieces -/
theorem ch_lo {n m j : Nat} (hm : 1 ≤ m) (h : j < chN n m) : j * m < n := by
  unfold chN at h
  have := (Nat.le_div_iff_mul_le (by omega : 0 < m)).1 (show j + 1 ≤ (n + m - 1) / m from h)
  rw [Nat.succ_mul] at this
  omega
theorem ch_hi (n m : Nat) (hm : 1 ≤ m) : n ≤ chN n m * m := by
  have := (Nat.div_lt_iff_lt_mul (by omega : 0 < m)).1 (show (n + m - 1) / m < chN n m + 1 from Nat.lt_succ_self _)
  rw [Nat.succ_mul] at this
  omega
theorem chK_sum (n m j : Nat) (hm : 1 ≤ m) (hj : j ≤ chN n m) : (chK n m j).sum = min (n : Int) ((j * m : Nat) : Int) := by
  induction j with
  | zero => simp [chK]; omega
  | succ j ih =>
    have h := ch_lo hm (show j < chN n m by omega)
    rw [chK_succ, List.sum_append, ih (by omega), List.sum_singleton, Nat.succ_mul]
    have e : (j : Int) * (m : Int) = ((j * m : Nat) : Int) := by simp
    rw [e]
    omega
theorem chL_sum (n m : Nat) (hm : 1 ≤ m) : (chL n m).sum = (n : Int) := by
  have := ch_hi n m hm
  unfold chL
  rw [chK_sum n m _ hm (Nat.le_refl _)]
  omega
theorem nth_chL (n m k : Nat) (hm : 1 ≤ m) (hk : k < chN n m) : 1 ≤ nth (chL n m) k ∧ nth (chL n m) k ≤ (m : Int) ∧ (k + 1 < chN n m → nth (chL n m) k = (m : Int)) := by
  have h1 := ch_lo hm hk
  rw [nth_eq _ _ (by rw [chL_length]; exact hk)]
  have e : (k : Int) * (m : Int) = ((k * m : Nat) : Int) := by simp
  simp only [chL, chK, List.getElem_map, List.getElem_range, e]
  refine ⟨by omega, by omega, fun h => ?_⟩
  have h2 := ch_lo hm h
  rw [Nat.succ_mul] at h2
  omega
theorem spPK_sum {zs : List Int} (hz : Fine zs) {m : Nat} (hm : 1 ≤ m) (k : Nat) (hk : k ≤ zs.length) : (spPK zs m k).sum = psum zs k := by
  induction k with
  | zero => rw [psum_zero]; rfl
  | succ k ih =>
    have := (hz.nth k (by omega)).1
    rw [spPK_succ, List.sum_append, ih (by omega), chL_sum _ _ hm, psum_succ zs k (by omega)]
    omega
theorem spOK_sum {zs : List Int} (hz : Fine zs) {m : Nat} (hm : 1 ≤ m) (k : Nat) : (spOK zs m k).sum = ((spPK zs m k).length : Int) := by
  induction k with
  | zero => rfl
  | succ k ih => rw [spOK_succ, spPK_succ, List.sum_append, List.length_append, chL_length, ih, List.sum_singleton]; simp
theorem spPK_le {zs : List Int} (hz : Fine zs) {m : Nat} (hm : 1 ≤ m) (k : Nat) (hk : k ≤ zs.length) : ((spPK zs m k).length : Int) ≤ psum zs k := by
  induction k with
  | zero => rw [psum_zero]; exact Int.le_refl _
  | succ k ih =>
    have h0 := (hz.nth k (by omega)).1
    have h1 := chN_le (nth zs k).toNat m hm
    have h2 := ih (by omega)
    rw [spPK_succ, List.length_append, chL_length, psum_succ zs k (by omega)]
    omega
theorem sp_split {zs : List Int} (hz : Fine zs) {m : Nat} (hm : 1 ≤ m) (k : Nat) : ∀ d, ∃ R, spPK zs m (k + d) = spPK zs m k ++ R := by
  intro d
  induction d with
  | zero => exact ⟨[], by simp⟩
  | succ d ih =>
    obtain ⟨R, h⟩ := ih
    exact ⟨R ++ chL (nth zs (k + d)).toNat m, by rw [show k + (d + 1) = k + d + 1 from rfl, spPK_succ, h, List.append_assoc]⟩
theorem sp_pre {zs : List Int} (hz : Fine zs) {m : Nat} (hm : 1 ≤ m) (k : Nat) (hk : k ≤ zs.length) : ∃ R, spP zs m = spPK zs m k ++ R := by
  obtain ⟨R, h⟩ := sp_split hz hm k (zs.length - k)
  rw [show k + (zs.length - k) = zs.length by omega] at h
  exact ⟨R, h⟩
theorem psum_spO {zs : List Int} (hz : Fine zs) {m : Nat} (hm : 1 ≤ m) (k : Nat) (hk : k ≤ zs.length) : psum (spO zs m) k = ((spPK zs m k).length : Int) := by
  rw [← spOK_sum hz hm k]
  unfold psum spO spOK
  rw [← List.map_take, List.take_range, Nat.min_eq_left hk]
theorem psum_spP {zs : List Int} (hz : Fine zs) {m : Nat} (hm : 1 ≤ m) (k : Nat) (hk : k ≤ zs.length) : psum (spP zs m) (spPK zs m k).length = psum zs k := by
  obtain ⟨R, h⟩ := sp_pre hz hm k hk
  rw [← spPK_sum hz hm k hk]
  unfold psum
  rw [h, List.take_left]
theorem nth_spP {zs : List Int} (hz : Fine zs) {m : Nat} (hm : 1 ≤ m) (i k : Nat) (hi : i < zs.length) (hk : k < chN (nth zs i).toNat m) : nth (spP zs m) ((spPK zs m i).length + k) = nth (chL (nth zs i).toNat m) k := by
  obtain ⟨R, h⟩ := sp_pre hz hm (i + 1) (by omega)
  rw [h, spPK_succ]
  unfold nth
  rw [List.getD_eq_getElem?_getD, List.append_assoc, List.getElem?_append_right (by omega), Nat.add_sub_cancel_left, List.getElem?_append_left (by rw [chL_length]; exact hk)]
  simp
theorem spP_pos {zs : List Int} (hz : Fine zs) {m : Nat} (hm : 1 ≤ m) (x : Int) (hx : x ∈ spP zs m) : 1 ≤ x ∧ x ≤ (m : Int) := by
  unfold spP at hx
  obtain ⟨k, _, hk⟩ := List.mem_flatMap.1 hx
  obtain ⟨j, hj, rfl⟩ := List.getElem_of_mem hk
  have hj' := hj
  rw [chL_length] at hj'
  have := nth_chL (nth zs k).toNat m j hm hj'
  rw [nth_eq _ _ hj] at this
  exact ⟨this.1, this.2.1⟩
theorem spP_len {zs : List Int} (hz : Fine zs) {m : Nat} (hm : 1 ≤ m) : ((spP zs m).length : Int) ≤ zs.sum := by
  have := spPK_le hz hm zs.length (Nat.le_refl _)
  rwa [psum_all] at this
theorem spP_sum {zs : List Int} (hz : Fine zs) {m : Nat} (hm : 1 ≤ m) : (spP zs m).sum = zs.sum := by
  have := spPK_sum hz hm zs.length (Nat.le_refl _)
  rwa [psum_all] at this
theorem sp_nests {zs : List Int} (hz : Fine zs) {m : Nat} (hm : 1 ≤ m) : Nests (spO zs m) (spP zs m) := by
  have hs := hz.sum
  have hl := spP_len hz hm
  have hlen := hz.len
  have hsum : (spO zs m).sum = ((spP zs m).length : Int) := spOK_sum hz hm zs.length
  have hol : (spO zs m).length = zs.length := by simp [spO]
  refine ⟨⟨by omega, fun j hj => ?_, by omega⟩, ⟨by omega, fun j hj => ?_, by rw [spP_sum hz hm]; exact hs⟩, hsum⟩
  · rw [nth_eq _ _ hj]; simp [spO]
  · have := (spP_pos hz hm _ (nth_mem _ j hj)).1; omega
theorem sp_back {zs : List Int} (hz : Fine zs) {m : Nat} (hm : 1 ≤ m) : nsL (spO zs m) (spP zs m) = zs := by
  have hol : (spO zs m).length = zs.length := by simp [spO]
  refine list_ext (by rw [nsL_length]; exact hol) fun k hk => ?_
  rw [nsL_length, hol] at hk
  rw [nth_nsL _ _ _ (by rw [hol]; exact hk)]
  unfold nsK sg
  rw [psum_spO hz hm k (by omega), psum_spO hz hm (k + 1) (by omega), Int.toNat_natCast, Int.toNat_natCast, psum_spP hz hm k (by omega), psum_spP hz hm (k + 1) (by omega), psum_succ zs k hk]
  omega
theorem sp_err {zs : List Int} (hz : Fine zs) {m : Nat} (hm : 1 ≤ m) {x : Int} (hx : x = (m : Int)) (hm2 : m ≤ 1048576) : spE zs x = 0 := by
  unfold spE
  rw [if_neg (by rw [(ck_fine hz).1]; simp), if_pos (by omega)]
theorem gr_inv (many n : Int) (h : 0 ≤ many) (k : Nat) : (grK many n k).1.sum + (grK many n k).2 = many ∧ (grK many n k).1.length ≤ k ∧ ∀ x ∈ (grK many n k).1, 0 ≤ x := by
  induction k with
  | zero => simp [grK]
  | succ k ih =>
    obtain ⟨h1, h2, h3⟩ := ih
    rw [grK_succ]; unfold grS
    have hb := grT_bnd n k
    by_cases h0 : 0 < (grK many n k).2
    · rw [if_pos h0]
      refine ⟨by simp only [List.sum_append]; simp; omega, by simp; omega, fun x hx => ?_⟩
      rcases List.mem_append.1 hx with hx | hx
      · exact h3 x hx
      · rw [List.mem_singleton.1 hx]; omega
    · rw [if_neg h0]; exact ⟨h1, by omega, h3⟩
theorem gr_fine (many n : Int) (h : 0 ≤ many) (h2 : many ≤ 750) : Fine (grK many n 1000).1 ∧ (grK many n 1000).1.sum = many := by
  obtain ⟨a, b, c⟩ := gr_inv many n h 1000
  have e := gr_end many n h h2
  exact ⟨⟨by omega, fun j hj => c _ (nth_mem _ j hj), by omega⟩, by omega⟩
end Go.Proofs.Ytcbkocjpkdcpfaa
