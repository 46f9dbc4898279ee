/- Walks, part n: 'value' and 'works' of the statements. -/
import Derived.Test.YthbgingclpponaaDoorWh
import Derived.Test.YthbgingclpponaaDoorWi
import Derived.Test.YthbgingclpponaaDoorWk
import Derived.Test.YthbgingclpponaaDoorWm
namespace Go.Proofs.YthbgingclpponaaDoor
open Go.RowKit
set_option linter.unusedVariables false
/-- what 'value' of the statements returns -/
def vN (op a b : Int) : Int := if doE op a b = 0 then doN op a b else 1099511627776
theorem value39_any (op a b : Int) (w : World) : Calls Tryd.prog 39 #[.int .i64 op, .int .i64 a, .int .i64 b] w (Ret (.int .i64 (vN op a b)) w) := by
  have HD := Lib.hid (do_any op a b w)
  by_cases h : doE op a b = 0
  · have HV : Hid (vN op a b = doN op a b) := Lib.hid (by simp [vN, h])
    rw [h] at HD
    clear h
    go_enter Tryd.func39, Tryd.ntmps39
    go_wp2_with fail
    refine HD.out.mono ?_
    rintro e w1 ⟨rfl, hb⟩
    go_wp2
    go_ret
    exact ⟨ret_int HV.out.symm, hb⟩
  · have HV : Hid (vN op a b = 1099511627776) := Lib.hid (by simp [vN, h])
    have hne : (doE op a b != 0) = true := by rw [bne_iff_ne]; exact h
    have hne2 : (doE op a b == 0) = false := by rw [beq_eq_false_iff_ne]; exact h
    generalize doE op a b = x at *
    go_enter Tryd.func39, Tryd.ntmps39
    go_wp2_with fail
    refine HD.out.mono ?_
    rintro e w1 ⟨rfl, hb⟩
    go_wp2
    go_ret
    exact ⟨ret_int HV.out.symm, hb⟩
theorem text_low : textL (-2147483648) = [45, 50, 49, 52, 55, 52, 56, 51, 54, 52, 56] := by
  have : isWb (-2147483648) = true := by decide
  rw [show textL (-2147483648) = Lib.itoa (-((2147483648 : Nat) : Int)) from by simp [textL, this], itoa_neg _ (by decide)]
  rw [decDigits_big (by decide), decDigits_big (by decide), decDigits_big (by decide), decDigits_big (by decide), decDigits_big (by decide), decDigits_big (by decide), decDigits_big (by decide), decDigits_big (by decide), decDigits_big (by decide), decDigits_small (by decide)]
  rfl
set_option maxRecDepth 100000 in
set_option maxHeartbeats 2000000 in
theorem works_any (w : World) (hI : Inv w) : Calls Tryd.prog 21 #[] w (Ret (.bool true) w) := by
  have P := Lib.hid (Power_any 0 3 1000000000 w hI (by decide))
  rw [show poN 0 3 1000000000 = -1294967296 from by decide +kernel, show poE 0 3 1000000000 = 0 from by decide +kernel] at P
  go_enter Tryd.func21, Tryd.ntmps21
  go_wp2_with fail
  refine P.out.mono ?_
  rintro e w1 ⟨rfl, hb⟩
  have hI1 := hI.below hb
  have X : ∀ w, _ := fun w => inverse_any 3 w
  rw [show inN 3 = -1431655765 from by decide +kernel, show inE 3 = 0 from by decide +kernel] at X
  have HX := Lib.hid X; clear X
  go_wp2_with fail
  refine (HX.out _).mono ?_
  rintro e w2 ⟨rfl, rfl⟩
  have X : ∀ w, _ := fun w => key_any (-1) w
  rw [show keyN (-1) = 2147483647 from by decide +kernel, show wE (-1) = 0 from by decide +kernel] at X
  have HX2 := Lib.hid X; clear X
  go_wp2_with fail
  refine (HX2.out _).mono ?_
  rintro e w2 ⟨rfl, rfl⟩
  have X : ∀ w, Inv w → _ := fun w h => text_any (-2147483648) w h
  rw [text_low, show wE (-2147483648) = 0 from by decide +kernel] at X
  have HX3 := Lib.hid X; clear X
  go_wp2_with fail
  refine (HX3.out _ hI1).mono ?_
  rintro e w2 ⟨rfl, hb2⟩
  have hI2 := hI1.below hb2
  have hB2 := below_step hb hb2
  have X : ∀ w, _ := fun w => parse_any ⟨#[45, 53]⟩ (by decide) w
  rw [show paN (ByteArray.mk #[45, 53]).data.toList = -5 from by decide +kernel, show paE (ByteArray.mk #[45, 53]).data.toList = 0 from by decide +kernel] at X
  have HX4 := Lib.hid X; clear X
  go_wp2_with fail
  refine (HX4.out _).mono ?_
  rintro e w3 ⟨rfl, hb3⟩
  have hI3 := hI2.below hb3
  have hB3 := below_step hB2 hb3
  have X : ∀ w, Inv w → _ := fun w h => name_any 7 w h
  rw [show nameL 7 = [109, 105, 110] from by decide +kernel, show opE 7 = 0 from by decide +kernel] at X
  have HX5 := Lib.hid X; clear X
  go_wp2_with fail
  refine (HX5.out _ hI3).mono ?_
  rintro e w4 ⟨rfl, rfl⟩
  have X : ∀ w, _ := fun w => op_any ⟨#[124]⟩ (by decide) w
  rw [show opN (ByteArray.mk #[124]).data.toList = 10 from by decide +kernel, show opX (ByteArray.mk #[124]).data.toList = 0 from by decide +kernel] at X
  have HX6 := Lib.hid X; clear X
  go_wp2_with fail
  refine (HX6.out _).mono ?_
  rintro e w4 ⟨rfl, hb4⟩
  have hI4 := hI3.below hb4
  have hB4 := below_step hB3 hb4
  have X : ∀ w, Inv w → _ := fun w h => laws_any 6 w h
  rw [show aB 6 = false from by decide +kernel, show cB 6 = true from by decide +kernel, show iB 6 = false from by decide +kernel, show opE 6 = 0 from by decide +kernel] at X
  have HX7 := Lib.hid X; clear X
  go_wp2_with fail
  refine (HX7.out _ hI4).mono ?_
  rintro e w5 ⟨rfl, hb5⟩
  have hB5 := below_step hB4 hb5
  have HB6 := Lib.hid (hB5.alloc hB5.size (.cells #[.bool false, .bool true, .bool false] 26))
  clear hI hI1 hI2 hI3 hI4 hB2 hB3 hB4 hb hb2 hb3 hb4 hb5 hB5
  have X : ∀ w, _ := fun w => value39_any 2 65536 65536 w
  rw [show vN 2 65536 65536 = 0 from by decide +kernel] at X
  have HY1 := Lib.hid X; clear X
  go_wp2_with fail
  refine (HY1.out _).mono ?_
  rintro e w6 ⟨rfl, hc1⟩
  have X : ∀ w, _ := fun w => value39_any 3 7 (-2) w
  rw [show vN 3 7 (-2) = -4 from by decide +kernel] at X
  have HY2 := Lib.hid X; clear X
  go_wp2_with fail
  refine (HY2.out _).mono ?_
  rintro e w7 ⟨rfl, hc2⟩
  have X : ∀ w, _ := fun w => value39_any 4 7 (-2) w
  rw [show vN 4 7 (-2) = -1 from by decide +kernel] at X
  have HY3 := Lib.hid X; clear X
  go_wp2_with fail
  refine (HY3.out _).mono ?_
  rintro e w8 ⟨rfl, hc3⟩
  have HZ := Lib.hid (below_step (below_step (below_step HB6.out hc1) hc2) hc3)
  clear hc1 hc2 hc3
  go_wp2_with fail
  refine (is_t 2147483647 _ (by decide)).mono ?_
  rintro e w9 ⟨rfl, rfl⟩
  go_wp2_with fail
  refine (is_f 2147483648 _ (by decide)).mono ?_
  rintro e w9 ⟨rfl, rfl⟩
  go_wp2_with fail
  go_ret
  exact ⟨rfl, HZ.out⟩
end Go.Proofs.YthbgingclpponaaDoor
