/- Walks, part a: small functions (numbers in, numbers or bools out). -/
import Derived.Test.YtchjdhlmpdcibaaDoorProg
import Derived.Test.YtchjdhlmpdcibaaDoorMw
import Derived.WalkKit
import Derived.Laws.EntriesVeiled
import Derived.Deep.QuietTactic
import Derived.BigQuiet
import Derived.Lib.Hide
namespace Go.Proofs.YtchjdhlmpdcibaaDoor
open Go.RowKit

theorem ret_int {k : IntKind} {a b : Int} (h : a = b) : Ending.returned (.int k a) = .returned (.int k b) := by rw [h]
theorem ret_bool {a b : Bool} (h : a = b) : Ending.returned (.bool a) = .returned (.bool b) := by rw [h]
theorem below_step {W w1 w2 : World} (h1 : Below W.heap.size W w1) (h2 : Below w1.heap.size w1 w2) : Below W.heap.size W w2 := h1.trans (h2.mono h1.size)
theorem below_drewN {W w1 : World} (h1 : Below W.heap.size W w1) (n : Nat) : Below W.heap.size W (w1.drewN n) := h1.trans ⟨rfl, rfl, rfl, Nat.le_refl _, fun _ _ => rfl⟩

/-! ### wrap, B.Word -/
theorem wrap_any (n : Int) (w : World) : Calls Tryd.prog 109 #[.int .i64 n] w fun e w' => e = .returned (.int .i64 (wrap32 n)) ∧ w = w' := by
  go_enter Tryd.func109, Tryd.ntmps109
  go_wp2
  go_ret
  exact ⟨ret_int (wrap64_word _ (wrap32_word n)), rfl⟩

theorem bword_any (n : Int) (w : World) : Calls Tryd.prog 52 #[.int .i64 n] w fun e w' => e = .returned (.int .i64 (wrap32 n)) ∧ w = w' := by
  go_enter Tryd.func52, Tryd.ntmps52
  go_wp2
  go_ret
  exact ⟨ret_int ((congrArg wrap64 (wrap32_u n)).trans (wrap64_word _ (wrap32_word n))), rfl⟩

/-! ### tests -/
theorem is_any (n : Int) (w : World) : Calls Tryd.prog 86 #[.int .i64 n] w fun e w' => e = .returned (.bool (isWb n)) ∧ w = w' := by
  go_enter Tryd.func86, Tryd.ntmps86
  go_wp2
  all_goals (go_ret; refine ⟨ret_bool ?_, rfl⟩; unfold isWb; rw [Bool.eq_iff_iff]; simp; try omega)
theorem lies_any (n lo hi : Int) (w : World) : Calls Tryd.prog 62 #[.int .i64 n, .int .i64 lo, .int .i64 hi] w fun e w' => e = .returned (.bool (decide (lo ≤ n ∧ n ≤ hi))) ∧ w = w' := by
  go_enter Tryd.func62, Tryd.ntmps62
  go_wp2
  all_goals (go_ret; refine ⟨ret_bool ?_, rfl⟩; rw [Bool.eq_iff_iff]; simp; try omega)
theorem isword_any (n : Int) (w : World) : Calls Tryd.prog 57 #[.int .i64 n] w fun e w' => e = .returned (.bool (isWb n)) ∧ w = w' := by
  go_enter Tryd.func57, Tryd.ntmps57
  go_wp2_with (go_at_call 62; refine (lies_any _ _ _ _).mono ?_; rintro e w' ⟨rfl, rfl⟩)
  all_goals (go_ret; exact ⟨ret_bool (by unfold isWb; rw [Bool.eq_iff_iff]; simp), rfl⟩)
theorem ris_any (n : Int) (w : World) : Calls Tryd.prog 90 #[.int .i64 n] w fun e w' => e = .returned (.bool (isWb n)) ∧ w = w' := by
  go_enter Tryd.func90, Tryd.ntmps90
  go_wp2_with (go_at_call 57; refine (isword_any _ _).mono ?_; rintro e w' ⟨rfl, rfl⟩)
  all_goals (go_ret; exact ⟨rfl, rfl⟩)
theorem isop_any (n : Int) (w : World) : Calls Tryd.prog 84 #[.int .i64 n] w fun e w' => e = .returned (.bool (isOpb n)) ∧ w = w' := by
  go_enter Tryd.func84, Tryd.ntmps84
  go_wp2
  all_goals (go_ret; refine ⟨ret_bool ?_, rfl⟩; unfold isOpb; rw [Bool.eq_iff_iff]; simp; try omega)
theorem risop_any (n : Int) (w : World) : Calls Tryd.prog 89 #[.int .i64 n] w fun e w' => e = .returned (.bool (isOpb n)) ∧ w = w' := by
  go_enter Tryd.func89, Tryd.ntmps89
  go_wp2_with (go_at_call 62; refine (lies_any _ _ _ _).mono ?_; rintro e w' ⟨rfl, rfl⟩)
  all_goals (go_ret; exact ⟨ret_bool (by unfold isOpb; rw [Bool.eq_iff_iff]; simp), rfl⟩)
theorem traps_any (n b : Int) (w : World) : Calls Tryd.prog 87 #[.int .i64 n, .int .i64 b] w fun e w' => e = .returned (.bool (trapsb n b)) ∧ w = w' := by
  go_enter Tryd.func87, Tryd.ntmps87
  go_wp2
  all_goals (go_ret; refine ⟨ret_bool ?_, rfl⟩; unfold trapsb; rw [Bool.eq_iff_iff]; simp; try omega)
theorem rtraps_any (n b : Int) (w : World) : Calls Tryd.prog 91 #[.int .i64 n, .int .i64 b] w fun e w' => e = .returned (.bool (trapsb n b)) ∧ w = w' := by
  go_enter Tryd.func91, Tryd.ntmps91
  go_wp2
  all_goals (go_ret; refine ⟨ret_bool ?_, rfl⟩; unfold trapsb; rw [Bool.eq_iff_iff]; simp; try omega)
theorem truth_any (p : Bool) (w : World) : Calls Tryd.prog 112 #[.bool p] w fun e w' => e = .returned (.int .i64 (tint p)) ∧ w = w' := by
  cases p
  all_goals
    go_enter Tryd.func112, Tryd.ntmps112
    go_wp2
    go_ret
    exact ⟨rfl, rfl⟩
theorem rtruth_any (p : Bool) (w : World) : Calls Tryd.prog 111 #[.bool p] w fun e w' => e = .returned (.int .i64 (tint p)) ∧ w = w' := by
  cases p
  all_goals
    go_enter Tryd.func111, Tryd.ntmps111
    go_wp2
    go_ret
    exact ⟨rfl, rfl⟩
theorem turn_any (n m : Int) (hm : 1 ≤ m) (hm2 : m ≤ 4611686018427387904) (w : World) : Calls Tryd.prog 48 #[.int .i64 n, .int .i64 m] w fun e w' => e = .returned (.int .i64 (n % m)) ∧ w = w' := by
  have hm0 : ¬ m < 1 := by omega
  have hm1 : m ≠ 0 := by omega
  have hr : n.tmod m = n % m ∨ (n.tmod m + m = n % m ∧ n.tmod m < 0) := by
    have h1 := Int.tmod_eq_emod (a := n) (b := m)
    have h2 := Int.emod_nonneg n hm1
    by_cases h : 0 ≤ n ∨ m ∣ n
    · rw [if_pos h] at h1; left; omega
    · rw [if_neg h] at h1
      have h3 := Int.emod_lt_of_pos n (show 0 < m by omega)
      right; omega
  have hlo := Int.lt_tmod_of_pos n (show 0 < m by omega)
  have hhi := Int.tmod_lt_of_pos n (show 0 < m by omega)
  have hnn := Int.emod_nonneg n hm1
  by_cases hneg : n.tmod m < 0
  · have hr' : n.tmod m + m = n % m := by omega
    have HR := Lib.hid hr'; clear hr hr'
    go_enter Tryd.func48, Tryd.ntmps48
    go_wp2
    go_ret
    exact ⟨ret_int HR.out, rfl⟩
  · have hr' : n.tmod m = n % m := by omega
    have HR := Lib.hid hr'; clear hr hr'
    go_enter Tryd.func48, Tryd.ntmps48
    go_wp2
    go_ret
    exact ⟨ret_int HR.out, rfl⟩
end Go.Proofs.YtchjdhlmpdcibaaDoor
