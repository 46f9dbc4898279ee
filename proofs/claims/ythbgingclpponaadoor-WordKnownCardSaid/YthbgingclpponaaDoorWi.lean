/- Walks, part i: inverses and keys. -/
import Derived.Test.YthbgingclpponaaDoorWe
import Derived.Test.YthbgingclpponaaDoorMd
namespace Go.Proofs.YthbgingclpponaaDoor
open Go.RowKit
set_option linter.unusedVariables false

theorem key_t (n : Int) (w : World) (h : isWb n = true) : Calls Tryd.prog 26 #[.int .i64 n] w fun e w' => e = .returned (.tuple #[.int .i64 (n + 2147483648), .int .i64 0]) ∧ w = w' := by
  have hb := (isWb_iff n).1 h
  have H := Lib.hid h; clear h
  unfold isW at hb
  go_enter Tryd.func26, Tryd.ntmps26
  go_wp2_with (go_at_call 19; refine (is_t n _ H.out).mono ?_; rintro e w2 ⟨rfl, rfl⟩)
  go_ret2
  exact ⟨rfl, rfl⟩
theorem key_f (n : Int) (w : World) (h : isWb n = false) : Calls Tryd.prog 26 #[.int .i64 n] w fun e w' => e = .returned (.tuple #[.int .i64 0, .int .i64 2]) ∧ w = w' := by
  have H := Lib.hid h; clear h
  go_enter Tryd.func26, Tryd.ntmps26
  go_wp2_with (go_at_call 19; refine (is_f n _ H.out).mono ?_; rintro e w2 ⟨rfl, rfl⟩)
  go_ret2
  exact ⟨rfl, rfl⟩
theorem rkey_t (n : Int) (w : World) (h : isWb n = true) : Calls Tryd.prog 27 #[.int .i64 n] w fun e w' => e = .returned (.tuple #[.int .i64 (n + 2147483648), .int .i64 0]) ∧ w = w' := by
  have hb := (isWb_iff n).1 h
  have H := Lib.hid h; clear h
  unfold isW at hb
  go_enter Tryd.func27, Tryd.ntmps27
  go_wp2_with (go_at_call 20; refine (ris_t n _ H.out).mono ?_; rintro e w2 ⟨rfl, rfl⟩)
  go_ret2
  exact ⟨rfl, rfl⟩
theorem rkey_f (n : Int) (w : World) (h : isWb n = false) : Calls Tryd.prog 27 #[.int .i64 n] w fun e w' => e = .returned (.tuple #[.int .i64 0, .int .i64 2]) ∧ w = w' := by
  have H := Lib.hid h; clear h
  go_enter Tryd.func27, Tryd.ntmps27
  go_wp2_with (go_at_call 20; refine (ris_f n _ H.out).mono ?_; rintro e w2 ⟨rfl, rfl⟩)
  go_ret2
  exact ⟨rfl, rfl⟩
theorem key_any (n : Int) (w : World) : Calls Tryd.prog 26 #[.int .i64 n] w fun e w' => e = .returned (.tuple #[.int .i64 (keyN n), .int .i64 (wE n)]) ∧ w = w' := by
  by_cases h : isWb n = true
  · rw [show keyN n = n + 2147483648 from by simp [keyN, h], show wE n = 0 from by simp [wE, h]]; exact key_t n w h
  · rw [show keyN n = 0 from by simp [keyN, h], show wE n = 2 from by simp [wE, h]]; exact key_f n w (bf h)
theorem rkey_any (n : Int) (w : World) : Calls Tryd.prog 27 #[.int .i64 n] w fun e w' => e = .returned (.tuple #[.int .i64 (keyN n), .int .i64 (wE n)]) ∧ w = w' := by
  by_cases h : isWb n = true
  · rw [show keyN n = n + 2147483648 from by simp [keyN, h], show wE n = 0 from by simp [wE, h]]; exact rkey_t n w h
  · rw [show keyN n = 0 from by simp [keyN, h], show wE n = 2 from by simp [wE, h]]; exact rkey_f n w (bf h)
theorem ofkey_any (n : Int) (w : World) : Calls Tryd.prog 28 #[.int .i64 n] w fun e w' => e = .returned (.tuple #[.int .i64 (ofKeyN n), .int .i64 (ofKeyE n)]) ∧ w = w' := by
  by_cases h : 0 ≤ n ∧ n ≤ 4294967295
  · have HN : Hid (ofKeyN n = n - 2147483648) := Lib.hid (by simp [ofKeyN, h])
    have HE : Hid (ofKeyE n = 0) := Lib.hid (by simp [ofKeyE, h])
    go_enter Tryd.func28, Tryd.ntmps28
    go_wp2
    go_ret2
    exact ⟨by rw [HN.out, HE.out] <;> rfl, rfl⟩
  · have HN : Hid (ofKeyN n = 0) := Lib.hid (by simp [ofKeyN, h])
    have HE : Hid (ofKeyE n = 2) := Lib.hid (by simp [ofKeyE, h])
    by_cases h0 : n < 0
    · clear h
      go_enter Tryd.func28, Tryd.ntmps28
      go_wp2
      go_ret2
      exact ⟨by rw [HN.out, HE.out] <;> rfl, rfl⟩
    · have h1 : 4294967295 < n := by omega
      clear h
      go_enter Tryd.func28, Tryd.ntmps28
      go_wp2
      go_ret2
      exact ⟨by rw [HN.out, HE.out] <;> rfl, rfl⟩
theorem lies_t (n lo hi : Int) (w : World) (h : lo ≤ n ∧ n ≤ hi) : Calls Tryd.prog 37 #[.int .i64 n, .int .i64 lo, .int .i64 hi] w fun e w' => e = .returned (.bool true) ∧ w = w' :=
  (lies_any n lo hi w).mono fun e w' ⟨he, hw⟩ => ⟨by rw [he]; simp [h], hw⟩
theorem lies_f (n lo hi : Int) (w : World) (h : ¬ (lo ≤ n ∧ n ≤ hi)) : Calls Tryd.prog 37 #[.int .i64 n, .int .i64 lo, .int .i64 hi] w fun e w' => e = .returned (.bool false) ∧ w = w' :=
  (lies_any n lo hi w).mono fun e w' ⟨he, hw⟩ => ⟨by rw [he, decide_eq_false h], hw⟩
theorem rofkey_any (n : Int) (w : World) : Calls Tryd.prog 29 #[.int .i64 n] w fun e w' => e = .returned (.tuple #[.int .i64 (ofKeyN n), .int .i64 (ofKeyE n)]) ∧ w = w' := by
  by_cases h : 0 ≤ n ∧ n ≤ 4294967295
  · have HN : Hid (ofKeyN n = n - 2147483648) := Lib.hid (by simp [ofKeyN, h])
    have HE : Hid (ofKeyE n = 0) := Lib.hid (by simp [ofKeyE, h])
    go_enter Tryd.func29, Tryd.ntmps29
    go_wp2_with (go_at_call 37; refine (lies_t _ _ _ _ (by omega)).mono ?_; rintro e w2 ⟨rfl, rfl⟩)
    go_ret2
    exact ⟨by rw [HN.out, HE.out] <;> rfl, rfl⟩
  · have HN : Hid (ofKeyN n = 0) := Lib.hid (by simp [ofKeyN, h])
    have HE : Hid (ofKeyE n = 2) := Lib.hid (by simp [ofKeyE, h])
    have HH := Lib.hid h; clear h
    go_enter Tryd.func29, Tryd.ntmps29
    go_wp2_with (go_at_call 37; refine (lies_f _ _ _ _ HH.out).mono ?_; rintro e w2 ⟨rfl, rfl⟩)
    go_ret2
    exact ⟨by rw [HN.out, HE.out] <;> rfl, rfl⟩

/-! ### the inverse -/
theorem inverse_v (a : Int) (w : World) (hW : isWb a = true) (ho : a.tmod 2 ≠ 0) : Calls Tryd.prog 24 #[.int .i64 a] w fun e w' => e = .returned (.tuple #[.int .i64 (nwI a 4), .int .i64 0]) ∧ w = w' := by
  have ha := (isWb_iff a).1 hW
  have HA := Lib.hid ha
  have HW := Lib.hid hW; clear hW
  unfold isW at ha
  have ho' : (a.tmod 2 == 0) = false := by simpa using ho
  go_enter Tryd.func24, Tryd.ntmps24
  go_wp2_with (go_at_call 19; refine (is_t a _ HW.out).mono ?_; rintro e w2 ⟨rfl, rfl⟩)
  go_loop [4, 12] (fun x i => ∃ k : Nat, k ≤ 4 ∧ i = .int .i64 k ∧ x = .int .i64 (nwI a k)) (fun _ i => 4 - (intOf i).toNat)
  case atStart => exact ⟨0, Nat.zero_le _, rfl, rfl⟩
  case round =>
    obtain ⟨k, hk, rfl, rfl⟩ := hrel
    by_cases hlt : k < 4
    · have hx := nwI_word a HA.out k
      have HS : Hid (nwI a (k + 1) = wrap32 (nwI a k * wrap32 (2 - a * nwI a k))) := Lib.hid rfl
      have hm1 : -4611686018427387904 ≤ a * nwI a k ∧ a * nwI a k ≤ 4611686018427387904 := mul_word_bound a _ HA.out hx
      have hm2 : -4611686018427387904 ≤ nwI a k * wrap32 (2 - a * nwI a k) ∧ nwI a k * wrap32 (2 - a * nwI a k) ≤ 4611686018427387904 := mul_word_bound _ _ hx (wrap32_word _)
      go_wp2_with (go_at_call 51; refine (wrap_any _ _).mono ?_; rintro e w2 ⟨rfl, rfl⟩)
      go_round
      case rel => exact ⟨k + 1, by omega, by go_num, by rw [HS.out]⟩
      case measure => simp [intOf]; omega
    · obtain rfl : k = 4 := by omega
      go_wp2
      go_ret2
      exact ⟨rfl, rfl⟩
theorem inverse_e (a : Int) (w : World) (hW : isWb a = true) (ho : a.tmod 2 = 0) : Calls Tryd.prog 24 #[.int .i64 a] w fun e w' => e = .returned (.tuple #[.int .i64 0, .int .i64 4]) ∧ w = w' := by
  have HW := Lib.hid hW; clear hW
  have ho' : (a.tmod 2 == 0) = true := by simpa using ho
  clear ho
  go_enter Tryd.func24, Tryd.ntmps24
  go_wp2_with (go_at_call 19; refine (is_t a _ HW.out).mono ?_; rintro e w2 ⟨rfl, rfl⟩)
  go_ret2
  exact ⟨rfl, rfl⟩
theorem inverse_f (a : Int) (w : World) (hW : isWb a = false) : Calls Tryd.prog 24 #[.int .i64 a] w fun e w' => e = .returned (.tuple #[.int .i64 0, .int .i64 2]) ∧ w = w' := by
  have HW := Lib.hid hW; clear hW
  go_enter Tryd.func24, Tryd.ntmps24
  go_wp2_with (go_at_call 19; refine (is_f a _ HW.out).mono ?_; rintro e w2 ⟨rfl, rfl⟩)
  go_ret2
  exact ⟨rfl, rfl⟩
theorem rinverse_e (a : Int) (w : World) (hW : isWb a = true) (ho : a.tmod 2 = 0) : Calls Tryd.prog 25 #[.int .i64 a] w fun e w' => e = .returned (.tuple #[.int .i64 0, .int .i64 4]) ∧ w = w' := by
  have HW := Lib.hid hW; clear hW
  have ho' : (a.tmod 2 == 0) = true := by simpa using ho
  clear ho
  go_enter Tryd.func25, Tryd.ntmps25
  go_wp2_with (go_at_call 20; refine (ris_t a _ HW.out).mono ?_; rintro e w2 ⟨rfl, rfl⟩)
  go_ret2
  exact ⟨rfl, rfl⟩
theorem rinverse_f (a : Int) (w : World) (hW : isWb a = false) : Calls Tryd.prog 25 #[.int .i64 a] w fun e w' => e = .returned (.tuple #[.int .i64 0, .int .i64 2]) ∧ w = w' := by
  have HW := Lib.hid hW; clear hW
  go_enter Tryd.func25, Tryd.ntmps25
  go_wp2_with (go_at_call 20; refine (ris_f a _ HW.out).mono ?_; rintro e w2 ⟨rfl, rfl⟩)
  go_ret2
  exact ⟨rfl, rfl⟩

theorem quot_bound (n : Int) (k : Nat) (h : -9223372036854775808 ≤ n ∧ n ≤ 9223372036854775807) : -9223372036854775808 ≤ n / 2 ^ k ∧ n / 2 ^ k ≤ 9223372036854775807 := by
  have hp := pow_pos' k
  constructor
  · exact Int.le_ediv_of_mul_le hp (by omega)
  · have : n / 2 ^ k < 9223372036854775808 := Int.ediv_lt_of_lt_mul hp (by omega)
    omega
theorem bit_test (n : Int) (k : Nat) (h : -9223372036854775808 ≤ n ∧ n ≤ 9223372036854775807) : (!(bits .and .i64 (n / 2 ^ k) 1 == 1) == ((k : Int) == 0)) = (decide (n / 2 ^ k % 2 = 1) != decide (k = 0)) := by
  rw [bit_one _ (quot_bound n k h)]
  generalize n / 2 ^ k % 2 = q
  have e1 : (q == 1) = decide (q = 1) := rfl
  have e2 : ((k : Int) == 0) = decide (k = 0) := by rw [Bool.eq_iff_iff]; simp
  rw [e1, e2]
  cases decide (q = 1) <;> cases decide (k = 0) <;> rfl
theorem Bit.wraps {a y : Int} {k : Nat} (h : Bit a k y) (hk : k < 32) : wrap64 (y + wrap64 (2 ^ k)) = y + 2 ^ k := by
  have h5 : (2 : Int) ^ k ≤ 2 ^ 32 := by have := Nat.pow_le_pow_right (n := 2) (by decide) (Nat.le_of_lt hk); exact_mod_cast this
  have h6 : (2 : Int) ^ 32 = 4294967296 := by decide
  have hp := pow_pos' k
  have := h.hi; have := h.lo
  rw [IntWalk.wrap64_in (2 ^ k) (by omega), IntWalk.wrap64_in _ (by omega)]
theorem rinverse_v (a : Int) (w : World) (hW : isWb a = true) (ho : a.tmod 2 ≠ 0) (hodd : a % 2 = 1) : Calls Tryd.prog 25 #[.int .i64 a] w fun e w' => e = .returned (.tuple #[.int .i64 (nwI a 4), .int .i64 0]) ∧ w = w' := by
  have ha := (isWb_iff a).1 hW
  have HA := Lib.hid ha
  have HO := Lib.hid hodd
  have HW := Lib.hid hW; clear hW hodd
  unfold isW at ha
  have ho' : (a.tmod 2 == 0) = false := by simpa using ho
  go_enter Tryd.func25, Tryd.ntmps25
  go_wp2_with (go_at_call 20; refine (ris_t a _ HW.out).mono ?_; rintro e w2 ⟨rfl, rfl⟩)
  go_loop [4, 5] (fun x i => ∃ (k : Nat) (y : Int), k ≤ 32 ∧ Bit a k y ∧ i = .int .i64 k ∧ x = .int .i64 y) (fun _ i => 32 - (intOf i).toNat)
  case atStart => exact ⟨0, 0, by omega, Bit.start a, rfl, rfl⟩
  case round =>
    obtain ⟨k, y, hk, hB, rfl, rfl⟩ := hrel
    by_cases hlt : k < 32
    · have hm1 := hB.bound HA.out HO.out hk
      have HR := Lib.hid (hB.round HO.out)
      have HT := Lib.hid (bit_test (a * y) k hm1)
      have HX := Lib.hid (hB.wraps hlt)
      go_wp2
      · refine ⟨⟨k + 1, _, by omega, ?_, by go_num, rfl⟩, by simp [intOf]; omega⟩
        have ht : (!(bits .and .i64 (a * y / 2 ^ k) 1 == 1) == ((k : Int) == 0)) = true := by assumption
        rw [HT.out] at ht
        have := HR.out
        rw [if_pos ht] at this
        rw [HX.out]; exact this
      · refine ⟨⟨k + 1, _, by omega, ?_, by go_num, rfl⟩, by simp [intOf]; omega⟩
        have ht : (!(bits .and .i64 (a * y / 2 ^ k) 1 == 1) == ((k : Int) == 0)) = false := by assumption
        rw [HT.out] at ht
        have := HR.out
        rw [if_neg (by rw [ht]; simp)] at this
        exact this
    · obtain rfl : k = 32 := by omega
      have HF := Lib.hid (hB.fin HA.out HO.out)
      go_wp2_with (go_at_call 36; refine (bword_any _ _).mono ?_; rintro e w2 ⟨rfl, rfl⟩)
      go_ret2
      exact ⟨by rw [← HF.out] <;> rfl, rfl⟩
theorem odd_tmod (a : Int) : a % 2 = 1 ↔ a.tmod 2 ≠ 0 := by
  have := Int.tmod_eq_emod (a := a) (b := 2)
  have h2 : (2 : Int) ∣ a ↔ a % 2 = 0 := Int.dvd_iff_emod_eq_zero
  by_cases h : 0 ≤ a ∨ (2 : Int) ∣ a
  · rw [if_pos h] at this; omega
  · rw [if_neg h] at this; have h3 : ¬ (2 : Int) ∣ a := fun e => h (Or.inr e); rw [h2] at h3; omega
theorem inverse_any (a : Int) (w : World) : Calls Tryd.prog 24 #[.int .i64 a] w fun e w' => e = .returned (.tuple #[.int .i64 (inN a), .int .i64 (inE a)]) ∧ w = w' := by
  by_cases hW : isWb a = true
  · by_cases ho : a % 2 = 1
    · rw [show inN a = nwI a 4 from by simp [inN, hW, ho], show inE a = 0 from by simp [inE, hW, ho]]; exact inverse_v a w hW ((odd_tmod a).1 ho)
    · rw [show inN a = 0 from by simp [inN, ho], show inE a = 4 from by simp [inE, hW, ho]]; exact inverse_e a w hW (Classical.byContradiction fun h => ho ((odd_tmod a).2 h))
  · rw [show inN a = 0 from by simp [inN, hW], show inE a = 2 from by simp [inE, hW]]; exact inverse_f a w (bf hW)
theorem rinverse_any (a : Int) (w : World) : Calls Tryd.prog 25 #[.int .i64 a] w fun e w' => e = .returned (.tuple #[.int .i64 (inN a), .int .i64 (inE a)]) ∧ w = w' := by
  by_cases hW : isWb a = true
  · by_cases ho : a % 2 = 1
    · rw [show inN a = nwI a 4 from by simp [inN, hW, ho], show inE a = 0 from by simp [inE, hW, ho]]; exact rinverse_v a w hW ((odd_tmod a).1 ho) ho
    · rw [show inN a = 0 from by simp [inN, ho], show inE a = 4 from by simp [inE, hW, ho]]; exact rinverse_e a w hW (Classical.byContradiction fun h => ho ((odd_tmod a).2 h))
  · rw [show inN a = 0 from by simp [inN, hW], show inE a = 2 from by simp [inE, hW]]; exact rinverse_f a w (bf hW)
end Go.Proofs.YthbgingclpponaaDoor
