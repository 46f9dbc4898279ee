/- The pool's mathematics, first part: how many more segments begin at a place than end ahead of it. -/
import Derived.Test.YtcbkocjpkdcpfaaTe
namespace Go.Proofs.Ytcbkocjpkdcpfaa
set_option linter.unusedVariables false

def moF (ss ls : List Int) {n : Nat} (pre : List (Fin n)) (y : Int) : Int := (((pre.map fun x => nth ss x.val).count y : Nat) : Int) - (((pre.map fun x => nth ss x.val + nth ls x.val).count y : Nat) : Int)
theorem moF_nil (ss ls : List Int) {n : Nat} : moF ss ls ([] : List (Fin n)) = fun _ => 0 := by funext y; simp [moF]
theorem moF_at (ss ls : List Int) {n : Nat} (pre : List (Fin n)) (x : Fin n) (y : Int) : moF ss ls (pre ++ [x]) y = moF ss ls pre y + (if y = nth ss x.val then 1 else 0) - (if y = nth ss x.val + nth ls x.val then 1 else 0) := by
  unfold moF
  rw [List.map_append, List.map_append, List.count_append, List.count_append]
  simp only [List.map_cons, List.map_nil, List.count_singleton, beq_iff_eq]
  by_cases h1 : y = nth ss x.val
  · by_cases h2 : y = nth ss x.val + nth ls x.val
    · rw [if_pos h1, if_pos h2, if_pos h1.symm, if_pos h2.symm]; omega
    · rw [if_pos h1, if_neg h2, if_pos h1.symm, if_neg (fun e => h2 e.symm)]; omega
  · by_cases h2 : y = nth ss x.val + nth ls x.val
    · rw [if_neg h1, if_pos h2, if_neg (fun e => h1 e.symm), if_pos h2.symm]; omega
    · rw [if_neg h1, if_neg h2, if_neg (fun e => h1 e.symm), if_neg (fun e => h2 e.symm)]; omega
theorem moF_snoc (ss ls : List Int) {n : Nat} (pre : List (Fin n)) (x : Fin n) :
    (fun y => if y = nth ss x.val + nth ls x.val then (if nth ss x.val + nth ls x.val = nth ss x.val then moF ss ls pre (nth ss x.val) + 1 else moF ss ls pre (nth ss x.val + nth ls x.val)) - 1 else if y = nth ss x.val then moF ss ls pre (nth ss x.val) + 1 else moF ss ls pre y) = moF ss ls (pre ++ [x]) := by
  funext y
  rw [moF_at]
  by_cases h2 : y = nth ss x.val + nth ls x.val
  · subst h2
    rw [if_pos rfl, if_pos rfl]
    by_cases h1 : nth ss x.val + nth ls x.val = nth ss x.val
    · rw [if_pos h1, if_pos h1, h1]
    · rw [if_neg h1, if_neg h1]; omega
  · rw [if_neg h2, if_neg h2]
    by_cases h1 : y = nth ss x.val
    · subst h1; rw [if_pos rfl, if_pos rfl]; omega
    · rw [if_neg h1, if_neg h1]; omega
theorem moF_le (ss ls : List Int) {n : Nat} (pre : List (Fin n)) (y : Int) : -(pre.length : Int) ≤ moF ss ls pre y ∧ moF ss ls pre y ≤ pre.length := by
  unfold moF
  have h1 := List.count_le_length (a := y) (l := pre.map fun x => nth ss x.val)
  have h2 := List.count_le_length (a := y) (l := pre.map fun x => nth ss x.val + nth ls x.val)
  rw [List.length_map] at h1 h2
  omega
/-- The sweep. -/
def moS (ss ls : List Int) {n : Nat} (pre : List (Fin n)) : Nat → Int
  | 0 => 0
  | k + 1 => moS ss ls pre k + moF ss ls pre (k : Int)
theorem moS_nil (ss ls : List Int) {n : Nat} (k : Nat) : moS ss ls ([] : List (Fin n)) k = 0 := by
  induction k with
  | zero => rfl
  | succ k ih => unfold moS; rw [ih, moF_nil]; rfl
theorem moS_at (ss ls : List Int) {n : Nat} (pre : List (Fin n)) (x : Fin n) (s l : Nat) (hs : nth ss x.val = (s : Int)) (hl : nth ls x.val = (l : Int)) (k : Nat) :
    moS ss ls (pre ++ [x]) k = moS ss ls pre k + (if s < k then 1 else 0) - (if s + l < k then 1 else 0) := by
  induction k with
  | zero => simp [moS]
  | succ k ih =>
    unfold moS
    rw [ih, moF_at, hs, hl]
    have e1 : ((k : Int) = (s : Int)) ↔ s = k := by omega
    have e2 : ((k : Int) = (s : Int) + (l : Int)) ↔ s + l = k := by omega
    simp only [e1, e2]
    by_cases h1 : s < k
    · by_cases h2 : s + l < k
      · rw [if_pos h1, if_pos h2, if_neg (by omega), if_neg (by omega), if_pos (by omega), if_pos (by omega)]; omega
      · by_cases h3 : s + l = k
        · rw [if_pos h1, if_neg h2, if_neg (by omega), if_pos h3, if_pos (by omega), if_pos (by omega)]; omega
        · rw [if_pos h1, if_neg h2, if_neg (by omega), if_neg h3, if_pos (by omega), if_neg (by omega)]; omega
    · by_cases h4 : s = k
      · by_cases h3 : s + l = k
        · rw [if_neg h1, if_neg (by omega), if_pos h4, if_pos h3, if_pos (by omega), if_pos (by omega)]; omega
        · rw [if_neg h1, if_neg (by omega), if_pos h4, if_neg h3, if_pos (by omega), if_neg (by omega)]; omega
      · rw [if_neg h1, if_neg (by omega), if_neg h4, if_neg (by omega), if_neg (by omega), if_neg (by omega)]; omega
theorem count_plJ (s j k : Nat) : (plJ (s : Int) j).count (k : Int) = if s ≤ k ∧ k < s + j then 1 else 0 := by
  induction j with
  | zero => rw [plJ_zero, if_neg (by omega)]; rfl
  | succ j ih =>
    rw [plJ_succ, List.count_append, ih, List.count_singleton]
    by_cases h : s + j = k
    · have : (((s : Int) + (j : Int)) == (k : Int)) = true := by rw [beq_iff_eq]; omega
      rw [this, if_neg (by omega), if_pos rfl, if_pos (by omega)]
    · have : (((s : Int) + (j : Int)) == (k : Int)) = false := by rw [beq_eq_false_iff_ne]; omega
      rw [this]
      simp only [Bool.false_eq_true, if_false, Nat.add_zero]
      by_cases h2 : s ≤ k ∧ k < s + j
      · rw [if_pos h2, if_pos (by omega)]
      · rw [if_neg h2, if_neg (by omega)]
theorem moS_fr {ss ls : List Int} {N : Nat} (hP : Pool ss ls N) (k : Nat) (j : Nat) (hj : j ≤ ss.length) :
    moS ss ls (fr ss.length j) (k + 1) = (((plP ss ls (fr ss.length j)).count (k : Int) : Nat) : Int) := by
  induction j with
  | zero => rw [show fr ss.length 0 = [] from rfl, moS_nil]; simp [plP]
  | succ j ih =>
    have hat := hP.at_ j (by omega)
    obtain ⟨s, hs⟩ : ∃ s : Nat, nth ss j = (s : Int) := ⟨(nth ss j).toNat, by omega⟩
    obtain ⟨l, hl⟩ : ∃ l : Nat, nth ls j = (l : Int) := ⟨(nth ls j).toNat, by omega⟩
    rw [fr_succ _ j (by omega), moS_at ss ls _ ⟨j, by omega⟩ s l hs hl, ih (by omega), plP_snoc, List.count_append, plJ_all]
    simp only [hs, hl, Int.toNat_natCast]
    rw [count_plJ]
    by_cases h1 : s < k + 1
    · by_cases h2 : s + l < k + 1
      · rw [if_pos h1, if_pos h2, if_neg (by omega)]; omega
      · rw [if_pos h1, if_neg h2, if_pos (by omega)]; omega
    · rw [if_neg h1, if_neg (by omega), if_neg (by omega)]; omega
/-- The sweep has reached how often a place comes. -/
theorem moS_all {ss ls : List Int} {N : Nat} (hP : Pool ss ls N) (k : Nat) : moS ss ls (List.finRange ss.length) (k + 1) = (((plL ss ls).count (k : Int) : Nat) : Int) := by
  have := moS_fr hP k ss.length (Nat.le_refl _)
  rw [fr_all] at this
  exact this
end Go.Proofs.Ytcbkocjpkdcpfaa
