/- Walks, part a: small functions (numbers in, numbers or bools out). -/
import Derived.Test.YthbgingclpponaaDoorProg
import Derived.Test.YthbgingclpponaaDoorMa
import Derived.WalkKit
import Derived.Laws.EntriesVeiled
import Derived.Deep.QuietTactic
import Derived.BigQuiet
import Derived.Lib.Hide
namespace Go.Proofs.YthbgingclpponaaDoor
open Go.RowKit

theorem ret_int {k : IntKind} {a b : Int} (h : a = b) : Ending.returned (.int k a) = .returned (.int k b) := by rw [h]
theorem ret_bool {a b : Bool} (h : a = b) : Ending.returned (.bool a) = .returned (.bool b) := by rw [h]
theorem below_step {W w1 w2 : World} (h1 : Below W.heap.size W w1) (h2 : Below w1.heap.size w1 w2) : Below W.heap.size W w2 := h1.trans (h2.mono h1.size)
theorem below_drewN {W w1 : World} (h1 : Below W.heap.size W w1) (n : Nat) : Below W.heap.size W (w1.drewN n) := h1.trans ⟨rfl, rfl, rfl, Nat.le_refl _, fun _ _ => rfl⟩

/-! ### wrap, B.Word -/
theorem wrap_any (n : Int) (w : World) : Calls Tryd.prog 51 #[.int .i64 n] w fun e w' => e = .returned (.int .i64 (wrap32 n)) ∧ w = w' := by
  go_enter Tryd.func51, Tryd.ntmps51
  go_wp2
  go_ret
  exact ⟨ret_int (wrap64_word _ (wrap32_word n)), rfl⟩

theorem bword_any (n : Int) (w : World) : Calls Tryd.prog 36 #[.int .i64 n] w fun e w' => e = .returned (.int .i64 (wrap32 n)) ∧ w = w' := by
  go_enter Tryd.func36, Tryd.ntmps36
  go_wp2
  go_ret
  exact ⟨ret_int ((congrArg wrap64 (wrap32_u n)).trans (wrap64_word _ (wrap32_word n))), rfl⟩

/-! ### tests -/
theorem is_any (n : Int) (w : World) : Calls Tryd.prog 19 #[.int .i64 n] w fun e w' => e = .returned (.bool (isWb n)) ∧ w = w' := by
  go_enter Tryd.func19, Tryd.ntmps19
  go_wp2
  all_goals (go_ret; refine ⟨ret_bool ?_, rfl⟩; unfold isWb; rw [Bool.eq_iff_iff]; simp; try omega)
theorem lies_any (n lo hi : Int) (w : World) : Calls Tryd.prog 37 #[.int .i64 n, .int .i64 lo, .int .i64 hi] w fun e w' => e = .returned (.bool (decide (lo ≤ n ∧ n ≤ hi))) ∧ w = w' := by
  go_enter Tryd.func37, Tryd.ntmps37
  go_wp2
  all_goals (go_ret; refine ⟨ret_bool ?_, rfl⟩; rw [Bool.eq_iff_iff]; simp; try omega)
theorem isword_any (n : Int) (w : World) : Calls Tryd.prog 48 #[.int .i64 n] w fun e w' => e = .returned (.bool (isWb n)) ∧ w = w' := by
  go_enter Tryd.func48, Tryd.ntmps48
  go_wp2_with (go_at_call 37; refine (lies_any _ _ _ _).mono ?_; rintro e w' ⟨rfl, rfl⟩)
  all_goals (go_ret; exact ⟨ret_bool (by unfold isWb; rw [Bool.eq_iff_iff]; simp), rfl⟩)
theorem ris_any (n : Int) (w : World) : Calls Tryd.prog 20 #[.int .i64 n] w fun e w' => e = .returned (.bool (isWb n)) ∧ w = w' := by
  go_enter Tryd.func20, Tryd.ntmps20
  go_wp2_with (go_at_call 48; refine (isword_any _ _).mono ?_; rintro e w' ⟨rfl, rfl⟩)
  all_goals (go_ret; exact ⟨rfl, rfl⟩)
theorem isop_any (n : Int) (w : World) : Calls Tryd.prog 41 #[.int .i64 n] w fun e w' => e = .returned (.bool (isOpb n)) ∧ w = w' := by
  go_enter Tryd.func41, Tryd.ntmps41
  go_wp2
  all_goals (go_ret; refine ⟨ret_bool ?_, rfl⟩; unfold isOpb; rw [Bool.eq_iff_iff]; simp; try omega)
theorem risop_any (n : Int) (w : World) : Calls Tryd.prog 44 #[.int .i64 n] w fun e w' => e = .returned (.bool (isOpb n)) ∧ w = w' := by
  go_enter Tryd.func44, Tryd.ntmps44
  go_wp2_with (go_at_call 37; refine (lies_any _ _ _ _).mono ?_; rintro e w' ⟨rfl, rfl⟩)
  all_goals (go_ret; exact ⟨ret_bool (by unfold isOpb; rw [Bool.eq_iff_iff]; simp), rfl⟩)
theorem traps_any (n b : Int) (w : World) : Calls Tryd.prog 42 #[.int .i64 n, .int .i64 b] w fun e w' => e = .returned (.bool (trapsb n b)) ∧ w = w' := by
  go_enter Tryd.func42, Tryd.ntmps42
  go_wp2
  all_goals (go_ret; refine ⟨ret_bool ?_, rfl⟩; unfold trapsb; rw [Bool.eq_iff_iff]; simp; try omega)
theorem rtraps_any (n b : Int) (w : World) : Calls Tryd.prog 45 #[.int .i64 n, .int .i64 b] w fun e w' => e = .returned (.bool (trapsb n b)) ∧ w = w' := by
  go_enter Tryd.func45, Tryd.ntmps45
  go_wp2
  all_goals (go_ret; refine ⟨ret_bool ?_, rfl⟩; unfold trapsb; rw [Bool.eq_iff_iff]; simp; try omega)
theorem truth_any (p : Bool) (w : World) : Calls Tryd.prog 74 #[.bool p] w fun e w' => e = .returned (.int .i64 (tint p)) ∧ w = w' := by
  cases p
  all_goals
    go_enter Tryd.func74, Tryd.ntmps74
    go_wp2
    go_ret
    exact ⟨rfl, rfl⟩
theorem rtruth_any (p : Bool) (w : World) : Calls Tryd.prog 71 #[.bool p] w fun e w' => e = .returned (.int .i64 (tint p)) ∧ w = w' := by
  cases p
  all_goals
    go_enter Tryd.func71, Tryd.ntmps71
    go_wp2
    go_ret
    exact ⟨rfl, rfl⟩
theorem turn_any (n m : Int) (hm : 1 ≤ m) (hm2 : m ≤ 4611686018427387904) (w : World) : Calls Tryd.prog 38 #[.int .i64 n, .int .i64 m] w fun e w' => e = .returned (.int .i64 (n % m)) ∧ w = w' := by
  have hm0 : ¬ m < 1 := by omega
  have hm1 : m ≠ 0 := by omega
  have hr : n.tmod m = n % m ∨ (n.tmod m + m = n % m ∧ n.tmod m < 0) := by
    have h1 := Int.tmod_eq_emod (a := n) (b := m)
    have h2 := Int.emod_nonneg n hm1
    by_cases h : 0 ≤ n ∨ m ∣ n
    · rw [if_pos h] at h1; left; omega
    · rw [if_neg h] at h1
      have h3 := Int.emod_lt_of_pos n (show 0 < m by omega)
      right; omega
  have hlo := Int.lt_tmod_of_pos n (show 0 < m by omega)
  have hhi := Int.tmod_lt_of_pos n (show 0 < m by omega)
  have hnn := Int.emod_nonneg n hm1
  by_cases hneg : n.tmod m < 0
  · have hr' : n.tmod m + m = n % m := by omega
    have HR := Lib.hid hr'; clear hr hr'
    go_enter Tryd.func38, Tryd.ntmps38
    go_wp2
    go_ret
    exact ⟨ret_int HR.out, rfl⟩
  · have hr' : n.tmod m = n % m := by omega
    have HR := Lib.hid hr'; clear hr hr'
    go_enter Tryd.func38, Tryd.ntmps38
    go_wp2
    go_ret
    exact ⟨ret_int HR.out, rfl⟩
end Go.Proofs.YthbgingclpponaaDoor
