/- Walks, part c: the specification's operations on two words. -/
import Derived.Test.YtecpanppnljkhaaGreatDoorWa
namespace Go.Proofs.YtecpanppnljkhaaGreatDoor
open Go.RowKit
set_option linter.unusedVariables false

theorem rquotient_any (a b : Int) (ha : isW a) (h0 : b ≠ 0) (w : World) : Calls Tryz.prog 74 #[.int .i64 a, .int .i64 b] w fun e w' => e = .returned (.int .i64 (a.fdiv b)) ∧ w = w' := by
  have ht := tdiv_bound a b ha
  have hm := tdiv_mul_bound a b ha
  have HQ := Lib.hid (quo_floor2 a b h0)
  go_enter Tryz.func74, Tryz.ntmps74
  go_wp2
  all_goals
    go_ret
    refine ⟨ret_int ?_, rfl⟩
    rw [HQ.out]
    simp_all
theorem rvalue0 (a b : Int) (ha : isW a) (hb : isW b) (ht : trapsb 0 b = false) (w : World) : Calls Tryz.prog 35 #[.int .i64 0, .int .i64 a, .int .i64 b] w fun e w' => e = .returned (.int .i64 (V 0 a b)) ∧ w = w' := by
  have HV := Lib.hid (V0 a b)
  have HA := Lib.hid ha
  clear ht
  unfold isW at ha hb
  go_enter Tryz.func35, Tryz.ntmps35
  go_wp2_with (first | (go_at_call 73; refine (bword_any _ _).mono ?_; rintro e w2 ⟨rfl, rfl⟩) | (go_at_call 75; refine (rtruth_any _ _).mono ?_; rintro e w2 ⟨rfl, rfl⟩))
  all_goals (go_ret; exact ⟨ret_int (by rw [HV.out]), rfl⟩)
theorem rvalue1 (a b : Int) (ha : isW a) (hb : isW b) (ht : trapsb 1 b = false) (w : World) : Calls Tryz.prog 35 #[.int .i64 1, .int .i64 a, .int .i64 b] w fun e w' => e = .returned (.int .i64 (V 1 a b)) ∧ w = w' := by
  have HV := Lib.hid (V1 a b)
  have HA := Lib.hid ha
  clear ht
  unfold isW at ha hb
  go_enter Tryz.func35, Tryz.ntmps35
  go_wp2_with (first | (go_at_call 73; refine (bword_any _ _).mono ?_; rintro e w2 ⟨rfl, rfl⟩) | (go_at_call 75; refine (rtruth_any _ _).mono ?_; rintro e w2 ⟨rfl, rfl⟩))
  all_goals (go_ret; exact ⟨ret_int (by rw [HV.out]), rfl⟩)
theorem rvalue2 (a b : Int) (ha : isW a) (hb : isW b) (ht : trapsb 2 b = false) (w : World) : Calls Tryz.prog 35 #[.int .i64 2, .int .i64 a, .int .i64 b] w fun e w' => e = .returned (.int .i64 (V 2 a b)) ∧ w = w' := by
  have HV := Lib.hid (V2 a b)
  have HA := Lib.hid ha
  have hm : -4611686018427387904 ≤ a * b ∧ a * b ≤ 4611686018427387904 := by
    have h1 : (a * b).natAbs ≤ 2147483648 * 2147483648 := by rw [Int.natAbs_mul]; unfold isW at ha hb; exact Nat.mul_le_mul (by omega) (by omega)
    omega
  clear ht
  unfold isW at ha hb
  go_enter Tryz.func35, Tryz.ntmps35
  go_wp2_with (first | (go_at_call 73; refine (bword_any _ _).mono ?_; rintro e w2 ⟨rfl, rfl⟩) | (go_at_call 75; refine (rtruth_any _ _).mono ?_; rintro e w2 ⟨rfl, rfl⟩))
  all_goals (go_ret; exact ⟨ret_int (by rw [HV.out]), rfl⟩)
theorem rvalue3 (a b : Int) (ha : isW a) (hb : isW b) (ht : trapsb 3 b = false) (w : World) : Calls Tryz.prog 35 #[.int .i64 3, .int .i64 a, .int .i64 b] w fun e w' => e = .returned (.int .i64 (V 3 a b)) ∧ w = w' := by
  have HV := Lib.hid (V3 a b)
  have HA := Lib.hid ha
  have H0 : Hid (b ≠ 0) := Lib.hid (trap_ne ht (by decide))
  clear ht
  unfold isW at ha hb
  go_enter Tryz.func35, Tryz.ntmps35
  go_wp2_with (first | (go_at_call 73; refine (bword_any _ _).mono ?_; rintro e w2 ⟨rfl, rfl⟩) | (go_at_call 75; refine (rtruth_any _ _).mono ?_; rintro e w2 ⟨rfl, rfl⟩) | (go_at_call 74; refine (rquotient_any _ _ HA.out H0.out _).mono ?_; rintro e w2 ⟨rfl, rfl⟩))
  all_goals (go_ret; exact ⟨ret_int (by rw [HV.out]), rfl⟩)
theorem rvalue4 (a b : Int) (ha : isW a) (hb : isW b) (ht : trapsb 4 b = false) (w : World) : Calls Tryz.prog 35 #[.int .i64 4, .int .i64 a, .int .i64 b] w fun e w' => e = .returned (.int .i64 (V 4 a b)) ∧ w = w' := by
  have HV := Lib.hid (V4 a b)
  have HA := Lib.hid ha
  have H0 : Hid (b ≠ 0) := Lib.hid (trap_ne ht (by decide))
  have hm : -4294967296 ≤ a.fdiv b * b ∧ a.fdiv b * b ≤ 4294967296 := by have := mul_fdiv_bound a b ha hb (trap_ne ht (by decide)); rw [Int.mul_comm]; exact this
  have HF := Lib.hid (fmod_rem a b)
  clear ht
  unfold isW at ha hb
  go_enter Tryz.func35, Tryz.ntmps35
  go_wp2_with (first | (go_at_call 73; refine (bword_any _ _).mono ?_; rintro e w2 ⟨rfl, rfl⟩) | (go_at_call 75; refine (rtruth_any _ _).mono ?_; rintro e w2 ⟨rfl, rfl⟩) | (go_at_call 74; refine (rquotient_any _ _ HA.out H0.out _).mono ?_; rintro e w2 ⟨rfl, rfl⟩))
  all_goals (go_ret; exact ⟨ret_int (by rw [HV.out, ← HF.out, Int.mul_comm b]), rfl⟩)
theorem rvalue5 (a b : Int) (ha : isW a) (hb : isW b) (ht : trapsb 5 b = false) (w : World) : Calls Tryz.prog 35 #[.int .i64 5, .int .i64 a, .int .i64 b] w fun e w' => e = .returned (.int .i64 (V 5 a b)) ∧ w = w' := by
  have HV := Lib.hid (V5 a b)
  have HA := Lib.hid ha
  clear ht
  unfold isW at ha hb
  go_enter Tryz.func35, Tryz.ntmps35
  go_wp2_with (first | (go_at_call 73; refine (bword_any _ _).mono ?_; rintro e w2 ⟨rfl, rfl⟩) | (go_at_call 75; refine (rtruth_any _ _).mono ?_; rintro e w2 ⟨rfl, rfl⟩))
  all_goals (go_ret; exact ⟨ret_int (by rw [HV.out]), rfl⟩)
theorem rvalue6 (a b : Int) (ha : isW a) (hb : isW b) (ht : trapsb 6 b = false) (w : World) : Calls Tryz.prog 35 #[.int .i64 6, .int .i64 a, .int .i64 b] w fun e w' => e = .returned (.int .i64 (V 6 a b)) ∧ w = w' := by
  have HV := Lib.hid (V6 a b)
  have HA := Lib.hid ha
  clear ht
  unfold isW at ha hb
  go_enter Tryz.func35, Tryz.ntmps35
  go_wp2_with (first | (go_at_call 73; refine (bword_any _ _).mono ?_; rintro e w2 ⟨rfl, rfl⟩) | (go_at_call 75; refine (rtruth_any _ _).mono ?_; rintro e w2 ⟨rfl, rfl⟩))
  all_goals (go_ret; exact ⟨ret_int (by rw [HV.out]), rfl⟩)
theorem rvalue7 (a b : Int) (ha : isW a) (hb : isW b) (ht : trapsb 7 b = false) (w : World) : Calls Tryz.prog 35 #[.int .i64 7, .int .i64 a, .int .i64 b] w fun e w' => e = .returned (.int .i64 (V 7 a b)) ∧ w = w' := by
  have HV := Lib.hid (V7 a b)
  have HA := Lib.hid ha
  clear ht
  unfold isW at ha hb
  go_enter Tryz.func35, Tryz.ntmps35
  go_wp2_with (first | (go_at_call 73; refine (bword_any _ _).mono ?_; rintro e w2 ⟨rfl, rfl⟩) | (go_at_call 75; refine (rtruth_any _ _).mono ?_; rintro e w2 ⟨rfl, rfl⟩))
  all_goals (go_ret; exact ⟨ret_int (by rw [HV.out]; omega), rfl⟩)
theorem rvalue8 (a b : Int) (ha : isW a) (hb : isW b) (ht : trapsb 8 b = false) (w : World) : Calls Tryz.prog 35 #[.int .i64 8, .int .i64 a, .int .i64 b] w fun e w' => e = .returned (.int .i64 (V 8 a b)) ∧ w = w' := by
  have HV := Lib.hid (V8 a b)
  have HA := Lib.hid ha
  clear ht
  unfold isW at ha hb
  go_enter Tryz.func35, Tryz.ntmps35
  go_wp2_with (first | (go_at_call 73; refine (bword_any _ _).mono ?_; rintro e w2 ⟨rfl, rfl⟩) | (go_at_call 75; refine (rtruth_any _ _).mono ?_; rintro e w2 ⟨rfl, rfl⟩))
  all_goals (go_ret; exact ⟨ret_int (by rw [HV.out]; omega), rfl⟩)
theorem rvalue9 (a b : Int) (ha : isW a) (hb : isW b) (ht : trapsb 9 b = false) (w : World) : Calls Tryz.prog 35 #[.int .i64 9, .int .i64 a, .int .i64 b] w fun e w' => e = .returned (.int .i64 (V 9 a b)) ∧ w = w' := by
  have HV := Lib.hid (V9 a b)
  have HA := Lib.hid ha
  clear ht
  unfold isW at ha hb
  go_enter Tryz.func35, Tryz.ntmps35
  go_wp2_with (first | (go_at_call 73; refine (bword_any _ _).mono ?_; rintro e w2 ⟨rfl, rfl⟩) | (go_at_call 75; refine (rtruth_any _ _).mono ?_; rintro e w2 ⟨rfl, rfl⟩))
  all_goals (go_ret; exact ⟨ret_int (by rw [HV.out]), rfl⟩)
theorem rvalue10 (a b : Int) (ha : isW a) (hb : isW b) (ht : trapsb 10 b = false) (w : World) : Calls Tryz.prog 35 #[.int .i64 10, .int .i64 a, .int .i64 b] w fun e w' => e = .returned (.int .i64 (V 10 a b)) ∧ w = w' := by
  have HV := Lib.hid (V10 a b)
  have HA := Lib.hid ha
  clear ht
  unfold isW at ha hb
  go_enter Tryz.func35, Tryz.ntmps35
  go_wp2_with (first | (go_at_call 73; refine (bword_any _ _).mono ?_; rintro e w2 ⟨rfl, rfl⟩) | (go_at_call 75; refine (rtruth_any _ _).mono ?_; rintro e w2 ⟨rfl, rfl⟩))
  all_goals (go_ret; exact ⟨ret_int (by rw [HV.out]), rfl⟩)
theorem rvalue11 (a b : Int) (ha : isW a) (hb : isW b) (ht : trapsb 11 b = false) (w : World) : Calls Tryz.prog 35 #[.int .i64 11, .int .i64 a, .int .i64 b] w fun e w' => e = .returned (.int .i64 (V 11 a b)) ∧ w = w' := by
  have HV := Lib.hid (V11 a b)
  have HA := Lib.hid ha
  clear ht
  unfold isW at ha hb
  go_enter Tryz.func35, Tryz.ntmps35
  go_wp2_with (first | (go_at_call 73; refine (bword_any _ _).mono ?_; rintro e w2 ⟨rfl, rfl⟩) | (go_at_call 75; refine (rtruth_any _ _).mono ?_; rintro e w2 ⟨rfl, rfl⟩))
  all_goals (go_ret; exact ⟨ret_int (by rw [HV.out]), rfl⟩)
theorem rvalue_any (op a b : Int) (ho : isOpb op = true) (ha : isW a) (hb : isW b) (ht : trapsb op b = false) (w : World) : Calls Tryz.prog 35 #[.int .i64 op, .int .i64 a, .int .i64 b] w fun e w' => e = .returned (.int .i64 (V op a b)) ∧ w = w' := by
  rcases opCases ho with h | h | h | h | h | h | h | h | h | h | h | h
  · subst h; exact rvalue0 a b ha hb ht w
  · subst h; exact rvalue1 a b ha hb ht w
  · subst h; exact rvalue2 a b ha hb ht w
  · subst h; exact rvalue3 a b ha hb ht w
  · subst h; exact rvalue4 a b ha hb ht w
  · subst h; exact rvalue5 a b ha hb ht w
  · subst h; exact rvalue6 a b ha hb ht w
  · subst h; exact rvalue7 a b ha hb ht w
  · subst h; exact rvalue8 a b ha hb ht w
  · subst h; exact rvalue9 a b ha hb ht w
  · subst h; exact rvalue10 a b ha hb ht w
  · subst h; exact rvalue11 a b ha hb ht w
end Go.Proofs.YtecpanppnljkhaaGreatDoor
