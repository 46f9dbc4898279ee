/- Walks, part d: Do, Laws, Neutral, Name, keys, in the program and the specification. -/
import Derived.Test.YtecpanppnljkhaaGreatDoorWb
import Derived.Test.YtecpanppnljkhaaGreatDoorWc
namespace Go.Proofs.YtecpanppnljkhaaGreatDoor
open Go.RowKit
set_option linter.unusedVariables false

theorem isop_t (n : Int) (w : World) (h : isOpb n = true) : Calls Tryz.prog 106 #[.int .i64 n] w fun e w' => e = .returned (.bool true) ∧ w = w' := (isop_any n w).mono fun e w' ⟨he, hw⟩ => ⟨by rw [he, h], hw⟩
theorem isop_f (n : Int) (w : World) (h : isOpb n = false) : Calls Tryz.prog 106 #[.int .i64 n] w fun e w' => e = .returned (.bool false) ∧ w = w' := (isop_any n w).mono fun e w' ⟨he, hw⟩ => ⟨by rw [he, h], hw⟩
theorem risop_t (n : Int) (w : World) (h : isOpb n = true) : Calls Tryz.prog 94 #[.int .i64 n] w fun e w' => e = .returned (.bool true) ∧ w = w' := (risop_any n w).mono fun e w' ⟨he, hw⟩ => ⟨by rw [he, h], hw⟩
theorem risop_f (n : Int) (w : World) (h : isOpb n = false) : Calls Tryz.prog 94 #[.int .i64 n] w fun e w' => e = .returned (.bool false) ∧ w = w' := (risop_any n w).mono fun e w' ⟨he, hw⟩ => ⟨by rw [he, h], hw⟩
theorem is_t (n : Int) (w : World) (h : isWb n = true) : Calls Tryz.prog 91 #[.int .i64 n] w fun e w' => e = .returned (.bool true) ∧ w = w' := (is_any n w).mono fun e w' ⟨he, hw⟩ => ⟨by rw [he, h], hw⟩
theorem is_f (n : Int) (w : World) (h : isWb n = false) : Calls Tryz.prog 91 #[.int .i64 n] w fun e w' => e = .returned (.bool false) ∧ w = w' := (is_any n w).mono fun e w' ⟨he, hw⟩ => ⟨by rw [he, h], hw⟩
theorem traps_t (n b : Int) (w : World) (h : trapsb n b = true) : Calls Tryz.prog 107 #[.int .i64 n, .int .i64 b] w fun e w' => e = .returned (.bool true) ∧ w = w' := (traps_any n b w).mono fun e w' ⟨he, hw⟩ => ⟨by rw [he, h], hw⟩
theorem traps_f (n b : Int) (w : World) (h : trapsb n b = false) : Calls Tryz.prog 107 #[.int .i64 n, .int .i64 b] w fun e w' => e = .returned (.bool false) ∧ w = w' := (traps_any n b w).mono fun e w' ⟨he, hw⟩ => ⟨by rw [he, h], hw⟩
theorem bf {p : Bool} (h : ¬ p = true) : p = false := by simpa using h

theorem do_no (op a b : Int) (w : World) (HO : Hid (isOpb op = false)) : Calls Tryz.prog 88 #[.int .i64 op, .int .i64 a, .int .i64 b] w fun e w' => e = .returned (.tuple #[.int .i64 0, .int .i64 1]) ∧ w = w' := by
  go_enter Tryz.func88, Tryz.ntmps88
  go_wp2_with (go_at_call 106; refine (isop_f _ _ HO.out).mono ?_; rintro e w2 ⟨rfl, rfl⟩)
  go_ret2
  exact ⟨rfl, rfl⟩
theorem do_a (op a b : Int) (w : World) (HO : Hid (isOpb op = true)) (HA : Hid (isWb a = false)) : Calls Tryz.prog 88 #[.int .i64 op, .int .i64 a, .int .i64 b] w fun e w' => e = .returned (.tuple #[.int .i64 0, .int .i64 2]) ∧ w = w' := by
  go_enter Tryz.func88, Tryz.ntmps88
  go_wp2_with (first | (go_at_call 106; refine (isop_t _ _ HO.out).mono ?_; rintro e w2 ⟨rfl, rfl⟩) | (go_at_call 91; refine (is_f a _ HA.out).mono ?_; rintro e w2 ⟨rfl, rfl⟩))
  go_ret2
  exact ⟨rfl, rfl⟩
theorem do_b (op a b : Int) (w : World) (HO : Hid (isOpb op = true)) (HA : Hid (isWb a = true)) (HB : Hid (isWb b = false)) : Calls Tryz.prog 88 #[.int .i64 op, .int .i64 a, .int .i64 b] w fun e w' => e = .returned (.tuple #[.int .i64 0, .int .i64 2]) ∧ w = w' := by
  go_enter Tryz.func88, Tryz.ntmps88
  go_wp2_with fail
  refine (isop_t _ _ HO.out).mono ?_; rintro e w2 ⟨rfl, rfl⟩
  go_wp2_with fail
  refine (is_t a _ HA.out).mono ?_; rintro e w2 ⟨rfl, rfl⟩
  go_wp2_with fail
  refine (is_f b _ HB.out).mono ?_; rintro e w2 ⟨rfl, rfl⟩
  go_wp2
  go_ret2
  exact ⟨rfl, rfl⟩
theorem do_t (op a b : Int) (w : World) (HO : Hid (isOpb op = true)) (HA : Hid (isWb a = true)) (HB : Hid (isWb b = true)) (HT : Hid (trapsb op b = true)) : Calls Tryz.prog 88 #[.int .i64 op, .int .i64 a, .int .i64 b] w fun e w' => e = .returned (.tuple #[.int .i64 0, .int .i64 14]) ∧ w = w' := by
  go_enter Tryz.func88, Tryz.ntmps88
  go_wp2_with fail
  refine (isop_t _ _ HO.out).mono ?_; rintro e w2 ⟨rfl, rfl⟩
  go_wp2_with fail
  refine (is_t a _ HA.out).mono ?_; rintro e w2 ⟨rfl, rfl⟩
  go_wp2_with fail
  refine (is_t b _ HB.out).mono ?_; rintro e w2 ⟨rfl, rfl⟩
  go_wp2_with fail
  refine (traps_t op b _ HT.out).mono ?_; rintro e w2 ⟨rfl, rfl⟩
  go_wp2
  go_ret2
  exact ⟨rfl, rfl⟩
theorem do_v (op a b : Int) (w : World) (HO : Hid (isOpb op = true)) (HA : Hid (isWb a = true)) (HB : Hid (isWb b = true)) (HT : Hid (trapsb op b = false)) : Calls Tryz.prog 88 #[.int .i64 op, .int .i64 a, .int .i64 b] w (Ret (.tuple #[.int .i64 (V op a b), .int .i64 0]) w) := by
  go_enter Tryz.func88, Tryz.ntmps88
  go_wp2_with fail
  refine (isop_t _ _ HO.out).mono ?_; rintro e w2 ⟨rfl, rfl⟩
  go_wp2_with fail
  refine (is_t a _ HA.out).mono ?_; rintro e w2 ⟨rfl, rfl⟩
  go_wp2_with fail
  refine (is_t b _ HB.out).mono ?_; rintro e w2 ⟨rfl, rfl⟩
  go_wp2_with fail
  refine (traps_f op b _ HT.out).mono ?_; rintro e w2 ⟨rfl, rfl⟩
  go_wp2_with fail
  refine (value_any op a b HO.out ((isWb_iff a).1 HA.out) ((isWb_iff b).1 HB.out) HT.out _).mono ?_; rintro e w2 ⟨rfl, hb⟩
  go_wp2
  go_ret2
  exact ⟨rfl, hb⟩
theorem do_any (op a b : Int) (w : World) : Calls Tryz.prog 88 #[.int .i64 op, .int .i64 a, .int .i64 b] w (Ret (.tuple #[.int .i64 (doN op a b), .int .i64 (doE op a b)]) w) := by
  by_cases ho : isOpb op = true
  · by_cases ha : isWb a = true
    · by_cases hb : isWb b = true
      · by_cases ht : trapsb op b = true
        · exact (do_t op a b w ho ha hb ht).mono fun e w' ⟨he, hw⟩ => ⟨by rw [he]; simp [doN, doE, ho, ha, hb, ht], hw ▸ Below.refl _ _⟩
        · exact (do_v op a b w ho ha hb (bf ht)).mono fun e w' ⟨he, hw⟩ => ⟨by rw [he]; simp [doN, doE, ho, ha, hb, ht], hw⟩
      · exact (do_b op a b w ho ha (bf hb)).mono fun e w' ⟨he, hw⟩ => ⟨by rw [he]; simp [doN, doE, ho, hb], hw ▸ Below.refl _ _⟩
    · exact (do_a op a b w ho (bf ha)).mono fun e w' ⟨he, hw⟩ => ⟨by rw [he]; simp [doN, doE, ho, ha], hw ▸ Below.refl _ _⟩
  · exact (do_no op a b w (bf ho)).mono fun e w' ⟨he, hw⟩ => ⟨by rw [he]; simp [doN, doE, ho], hw ▸ Below.refl _ _⟩
end Go.Proofs.YtecpanppnljkhaaGreatDoor
