/- Walks, part a: small functions (numbers in, numbers or bools out). -/
import Derived.Test.YtecpanppnljkhaaDoorProg
import Derived.Test.YtecpanppnljkhaaDoorMw
import Derived.WalkKit
import Derived.Laws.EntriesVeiled
import Derived.Deep.QuietTactic
import Derived.BigQuiet
import Derived.Lib.Hide
namespace Go.Proofs.YtecpanppnljkhaaDoor
open Go.RowKit

theorem ret_int {k : IntKind} {a b : Int} (h : a = b) : Ending.returned (.int k a) = .returned (.int k b) := by rw [h]
theorem ret_bool {a b : Bool} (h : a = b) : Ending.returned (.bool a) = .returned (.bool b) := by rw [h]
theorem below_step {W w1 w2 : World} (h1 : Below W.heap.size W w1) (h2 : Below w1.heap.size w1 w2) : Below W.heap.size W w2 := h1.trans (h2.mono h1.size)
theorem below_drewN {W w1 : World} (h1 : Below W.heap.size W w1) (n : Nat) : Below W.heap.size W (w1.drewN n) := h1.trans ⟨rfl, rfl, rfl, Nat.le_refl _, fun _ _ => rfl⟩

/-! ### wrap, B.Word -/
theorem wrap_any (n : Int) (w : World) : Calls Tryd.prog 137 #[.int .i64 n] w fun e w' => e = .returned (.int .i64 (wrap32 n)) ∧ w = w' := by
  go_enter Tryd.func137, Tryd.ntmps137
  go_wp2
  go_ret
  exact ⟨ret_int (wrap64_word _ (wrap32_word n)), rfl⟩

theorem bword_any (n : Int) (w : World) : Calls Tryd.prog 10 #[.int .i64 n] w fun e w' => e = .returned (.int .i64 (wrap32 n)) ∧ w = w' := by
  go_enter Tryd.func10, Tryd.ntmps10
  go_wp2
  go_ret
  exact ⟨ret_int ((congrArg wrap64 (wrap32_u n)).trans (wrap64_word _ (wrap32_word n))), rfl⟩

/-! ### tests -/
theorem is_any (n : Int) (w : World) : Calls Tryd.prog 104 #[.int .i64 n] w fun e w' => e = .returned (.bool (isWb n)) ∧ w = w' := by
  go_enter Tryd.func104, Tryd.ntmps104
  go_wp2
  all_goals (go_ret; refine ⟨ret_bool ?_, rfl⟩; unfold isWb; rw [Bool.eq_iff_iff]; simp; try omega)
theorem isop_any (n : Int) (w : World) : Calls Tryd.prog 103 #[.int .i64 n] w fun e w' => e = .returned (.bool (isOpb n)) ∧ w = w' := by
  go_enter Tryd.func103, Tryd.ntmps103
  go_wp2
  all_goals (go_ret; refine ⟨ret_bool ?_, rfl⟩; unfold isOpb; rw [Bool.eq_iff_iff]; simp; try omega)
theorem traps_any (n b : Int) (w : World) : Calls Tryd.prog 105 #[.int .i64 n, .int .i64 b] w fun e w' => e = .returned (.bool (trapsb n b)) ∧ w = w' := by
  go_enter Tryd.func105, Tryd.ntmps105
  go_wp2
  all_goals (go_ret; refine ⟨ret_bool ?_, rfl⟩; unfold trapsb; rw [Bool.eq_iff_iff]; simp; try omega)
theorem truth_any (p : Bool) (w : World) : Calls Tryd.prog 143 #[.bool p] w fun e w' => e = .returned (.int .i64 (tint p)) ∧ w = w' := by
  cases p
  all_goals
    go_enter Tryd.func143, Tryd.ntmps143
    go_wp2
    go_ret
    exact ⟨rfl, rfl⟩
theorem turn_any (n m : Int) (hm : 1 ≤ m) (hm2 : m ≤ 4611686018427387904) (w : World) : Calls Tryd.prog 9 #[.int .i64 n, .int .i64 m] w fun e w' => e = .returned (.int .i64 (n % m)) ∧ w = w' := by
  have hm0 : ¬ m < 1 := by omega
  have hm1 : m ≠ 0 := by omega
  have hr : n.tmod m = n % m ∨ (n.tmod m + m = n % m ∧ n.tmod m < 0) := by
    have h1 := Int.tmod_eq_emod (a := n) (b := m)
    have h2 := Int.emod_nonneg n hm1
    by_cases h : 0 ≤ n ∨ m ∣ n
    · rw [if_pos h] at h1; left; omega
    · rw [if_neg h] at h1
      have h3 := Int.emod_lt_of_pos n (show 0 < m by omega)
      right; omega
  have hlo := Int.lt_tmod_of_pos n (show 0 < m by omega)
  have hhi := Int.tmod_lt_of_pos n (show 0 < m by omega)
  have hnn := Int.emod_nonneg n hm1
  by_cases hneg : n.tmod m < 0
  · have hr' : n.tmod m + m = n % m := by omega
    have HR := Lib.hid hr'; clear hr hr'
    go_enter Tryd.func9, Tryd.ntmps9
    go_wp2
    go_ret
    exact ⟨ret_int HR.out, rfl⟩
  · have hr' : n.tmod m = n % m := by omega
    have HR := Lib.hid hr'; clear hr hr'
    go_enter Tryd.func9, Tryd.ntmps9
    go_wp2
    go_ret
    exact ⟨ret_int HR.out, rfl⟩
end Go.Proofs.YtecpanppnljkhaaDoor
