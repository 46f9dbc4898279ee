/- The mathematics of lengths: checks, sums, where segments begin. -/
namespace Go.Proofs.Ytcbkocjpkdcpfaa

/-- The element at a place; 0 beyond the end. Not reducible: the walk leaves it as it stands. -/
def nth (zs : List Int) (k : Nat) : Int := zs.getD k 0
theorem nth_eq (zs : List Int) (k : Nat) (h : k < zs.length) : nth zs k = zs[k] := by
  unfold nth; rw [List.getD_eq_getElem?_getD, List.getElem?_eq_getElem h]; rfl
theorem take_snoc (zs : List Int) (k : Nat) (h : k < zs.length) : zs.take (k + 1) = zs.take k ++ [nth zs k] := by
  rw [List.take_succ_eq_append_getElem h, nth_eq zs k h]
theorem nth_mem (zs : List Int) (k : Nat) (h : k < zs.length) : nth zs k ∈ zs := by rw [nth_eq zs k h]; exact List.getElem_mem h

/-- The sum of the first k. -/
def psum (zs : List Int) (k : Nat) : Int := (zs.take k).sum
theorem psum_zero (zs : List Int) : psum zs 0 = 0 := by simp [psum]
theorem psum_succ (zs : List Int) (k : Nat) (h : k < zs.length) : psum zs (k + 1) = psum zs k + nth zs k := by
  unfold psum; rw [take_snoc zs k h, List.sum_append]; simp
theorem psum_all (zs : List Int) : psum zs zs.length = zs.sum := by simp [psum]

def isNeg (zs : List Int) : Bool := zs.any fun z => decide (z < 0)
/-- None of the first k is below 0. -/
def PosTo (zs : List Int) (k : Nat) : Prop := ∀ j, j < k → 0 ≤ nth zs j
theorem isNeg_of (zs : List Int) (k : Nat) (h : k < zs.length) (hn : nth zs k < 0) : isNeg zs = true := by
  unfold isNeg; rw [List.any_eq_true]; exact ⟨_, nth_mem zs k h, by simpa using hn⟩
theorem isNeg_none (zs : List Int) (h : PosTo zs zs.length) : isNeg zs = false := by
  unfold isNeg; rw [List.any_eq_false]
  intro x hx
  obtain ⟨j, hj, rfl⟩ := List.getElem_of_mem hx
  have := h j hj
  rw [nth_eq zs j hj] at this
  simpa using this
theorem posTo_of (zs : List Int) (h : isNeg zs = false) : PosTo zs zs.length := by
  intro j hj
  unfold isNeg at h; rw [List.any_eq_false] at h
  have := h _ (nth_mem zs j hj)
  simpa using this
theorem PosTo.le {zs : List Int} {k m : Nat} (h : PosTo zs k) (hm : m ≤ k) : PosTo zs m := fun j hj => h j (by omega)
theorem psum_mono (zs : List Int) (n : Nat) (hn : n ≤ zs.length) (h : PosTo zs n) (a b : Nat) (hab : a ≤ b) (hb : b ≤ n) : psum zs a ≤ psum zs b := by
  induction b with
  | zero => obtain rfl : a = 0 := by omega
            exact Int.le_refl _
  | succ b ih =>
    by_cases e : a = b + 1
    · subst e; exact Int.le_refl _
    · have := ih (by omega) (by omega)
      rw [psum_succ zs b (by omega)]
      have := h b (by omega)
      omega
theorem psum_nonneg (zs : List Int) (k : Nat) (hk : k ≤ zs.length) (h : PosTo zs k) : 0 ≤ psum zs k := by
  have := psum_mono zs k hk h 0 k (by omega) (by omega)
  rwa [psum_zero] at this

/-- The error and the sum of numbers (VecMost is 2^20). -/
def sumE (zs : List Int) : Int := if isNeg zs then 2 else if 1048576 < zs.sum then 9 else 0
def sumN (zs : List Int) : Int := if isNeg zs then 0 else if 1048576 < zs.sum then 0 else zs.sum
theorem sumE_neg {zs : List Int} (h : isNeg zs = true) : sumE zs = 2 ∧ sumN zs = 0 := by simp [sumE, sumN, h]
theorem sumE_full {zs : List Int} (h : isNeg zs = false) (hs : 1048576 < zs.sum) : sumE zs = 9 ∧ sumN zs = 0 := by simp [sumE, sumN, h, hs]
theorem sumE_ok {zs : List Int} (h : isNeg zs = false) (hs : zs.sum ≤ 1048576) : sumE zs = 0 ∧ sumN zs = zs.sum := by
  have : ¬ 1048576 < zs.sum := by omega
  simp [sumE, sumN, h, this]

def ckE (zs : List Int) : Int := if 1048576 < zs.length then 3 else sumE zs
def ckN (zs : List Int) : Int := if 1048576 < zs.length then 0 else sumN zs
theorem ck_long {zs : List Int} (h : 1048576 < zs.length) : ckE zs = 3 ∧ ckN zs = 0 := by simp [ckE, ckN, h]
theorem ck_short {zs : List Int} (h : zs.length ≤ 1048576) : ckE zs = sumE zs ∧ ckN zs = sumN zs := by
  have : ¬ 1048576 < zs.length := by omega
  simp [ckE, ckN, this]
/-- What a check that passes says. -/
theorem ck_ok {zs : List Int} (h : ckE zs = 0) : zs.length ≤ 1048576 ∧ isNeg zs = false ∧ zs.sum ≤ 1048576 ∧ 0 ≤ zs.sum ∧ ckN zs = zs.sum := by
  unfold ckE at h
  split at h
  · simp at h
  · rename_i hl
    unfold sumE at h
    split at h
    · simp at h
    · rename_i hn
      split at h
      · simp at h
      · rename_i hs
        have hn' : isNeg zs = false := by simpa using hn
        have hp := posTo_of zs hn'
        have h0 := psum_nonneg zs zs.length (Nat.le_refl _) hp
        rw [psum_all] at h0
        refine ⟨by omega, hn', by omega, h0, ?_⟩
        rw [(ck_short (by omega)).2, (sumE_ok hn' (by omega)).2]
theorem ck_err {zs : List Int} (h : ckE zs ≠ 0) : ckN zs = 0 := by
  unfold ckN; unfold ckE at h
  split
  · rfl
  · rename_i hl
    rw [if_neg hl] at h
    unfold sumE at h; unfold sumN
    split
    · rfl
    · rename_i hn
      rw [if_neg hn] at h
      split
      · rfl
      · rename_i hs
        rw [if_neg hs] at h
        exact absurd rfl h
theorem ckE_cases (zs : List Int) : ckE zs = 0 ∨ ckE zs = 2 ∨ ckE zs = 3 ∨ ckE zs = 9 := by
  unfold ckE sumE; split
  · simp
  · split
    · simp
    · split <;> simp
/-- Where the first k segments begin. -/
def stK (zs : List Int) (k : Nat) : List Int := (List.range k).map (psum zs)
def stL (zs : List Int) : List Int := stK zs zs.length
theorem stK_zero (zs : List Int) : stK zs 0 = [] := rfl
theorem stK_succ (zs : List Int) (k : Nat) : stK zs (k + 1) = stK zs k ++ [psum zs k] := by simp [stK, List.range_succ]
theorem stK_length (zs : List Int) (k : Nat) : (stK zs k).length = k := by simp [stK]
theorem stL_length (zs : List Int) : (stL zs).length = zs.length := stK_length _ _
theorem nth_stL (zs : List Int) (k : Nat) (h : k < zs.length) : nth (stL zs) k = psum zs k := by
  rw [nth_eq _ _ (by rw [stL_length]; exact h)]; simp [stL, stK]
end Go.Proofs.Ytcbkocjpkdcpfaa
