/- The mathematics of pieces. -/
import Derived.Test.YtcbkocjpkdcpfaaMa
namespace Go.Proofs.Ytcbkocjpkdcpfaa

/-- How many pieces of at most m a segment of n has. -/
def chN (n m : Nat) : Nat := (n + m - 1) / m
/-- Its first j pieces. -/
def chK (n m j : Nat) : List Int := (List.range j).map fun i : Nat => min ((n : Int) - (i : Int) * (m : Int)) (m : Int)
def chL (n m : Nat) : List Int := chK n m (chN n m)
theorem chK_zero (n m : Nat) : chK n m 0 = [] := rfl
theorem chK_succ (n m j : Nat) : chK n m (j + 1) = chK n m j ++ [min ((n : Int) - (j : Int) * (m : Int)) (m : Int)] := by simp [chK, List.range_succ]
theorem chK_length (n m j : Nat) : (chK n m j).length = j := by simp [chK]
theorem chL_length (n m : Nat) : (chL n m).length = chN n m := chK_length _ _ _
theorem chN_eq {n m j : Nat} (hm : 1 ≤ m) (h1 : n ≤ j * m) (h2 : j = 0 ∨ (j - 1) * m < n) : j = chN n m := by
  unfold chN
  rcases h2 with rfl | h2
  · have : n = 0 := by omega
    subst this
    rw [Nat.div_eq_of_lt (by omega)]
  · symm
    cases j with
    | zero => simp at h1; subst h1; simp at h2
    | succ j =>
      rw [Nat.add_sub_cancel] at h2
      rw [Nat.succ_mul] at h1
      refine Nat.div_eq_of_lt_le ?_ ?_
      · rw [Nat.succ_mul]; omega
      · rw [Nat.succ_mul, Nat.succ_mul]; omega
theorem chN_le (n m : Nat) (hm : 1 ≤ m) : chN n m ≤ n := by
  unfold chN
  have h : (n + m - 1) / m < n + 1 := by
    rw [Nat.div_lt_iff_lt_mul (by omega)]
    have : n * 1 ≤ n * m := Nat.mul_le_mul_left n hm
    rw [Nat.add_mul]
    omega
  omega
theorem chN_zero (m : Nat) (hm : 1 ≤ m) : chN 0 m = 0 := by have := chN_le 0 m hm; omega

/-- The pieces of the segments. -/
def spE (zs : List Int) (most : Int) : Int := if ckE zs ≠ 0 then ckE zs else if 1 ≤ most ∧ most ≤ 1048576 then 0 else 2
def spP (zs : List Int) (m : Nat) : List Int := (List.range zs.length).flatMap fun k => chL (nth zs k).toNat m
def spO (zs : List Int) (m : Nat) : List Int := (List.range zs.length).map fun k => ((chN (nth zs k).toNat m : Nat) : Int)
def spPK (zs : List Int) (m k : Nat) : List Int := (List.range k).flatMap fun k => chL (nth zs k).toNat m
def spOK (zs : List Int) (m k : Nat) : List Int := (List.range k).map fun k => ((chN (nth zs k).toNat m : Nat) : Int)
theorem spPK_succ (zs : List Int) (m k : Nat) : spPK zs m (k + 1) = spPK zs m k ++ chL (nth zs k).toNat m := by simp [spPK, List.range_succ]
theorem spOK_succ (zs : List Int) (m k : Nat) : spOK zs m (k + 1) = spOK zs m k ++ [((chN (nth zs k).toNat m : Nat) : Int)] := by simp [spOK, List.range_succ]
theorem spOK_length (zs : List Int) (m k : Nat) : (spOK zs m k).length = k := by simp [spOK]
theorem spPK_length (zs : List Int) (m k : Nat) (hm : 1 ≤ m) (hk : k ≤ zs.length) (h : ∀ j, j < zs.length → (nth zs j).toNat ≤ 1048576) : (spPK zs m k).length ≤ k * 1048576 := by
  induction k with
  | zero => simp [spPK]
  | succ k ih =>
    rw [spPK_succ, List.length_append, chL_length, Nat.succ_mul]
    have h1 := ih (by omega)
    have h2 := chN_le (nth zs k).toNat m hm
    have h3 := h k (by omega)
    omega
end Go.Proofs.Ytcbkocjpkdcpfaa
