/- Walks, part j: texts of words. -/
import Derived.Test.YthbgingclpponaaDoorWe
import Derived.Test.YthbgingclpponaaDoorMe
import Derived.Laws.DeepStrings4
import Derived.Deep.RegionHeld3
namespace Go.Proofs.YthbgingclpponaaDoor
open Go.RowKit
set_option linter.unusedVariables false
theorem digit_slice (d : Int) (h : 0 ≤ d ∧ d ≤ 9) (w : World) :
    (Instr.slice 9 (.string { data := #[48, 49, 50, 51, 52, 53, 54, 55, 56, 57] }) (some (.int .i64 d)) (some (.int .i64 (d + 1))) none).run Tryd.prog w = .ok (.string ⟨#[dg d]⟩) w := by
  have hz : (ByteArray.mk #[48, 49, 50, 51, 52, 53, 54, 55, 56, 57]).size = 10 := rfl
  rw [run_slice_string_if _ _ _ _ _ _ _ Tryd.underlying9, if_pos (by rw [hz]; omega), if_pos (by omega)]
  have : d = 0 ∨ d = 1 ∨ d = 2 ∨ d = 3 ∨ d = 4 ∨ d = 5 ∨ d = 6 ∨ d = 7 ∨ d = 8 ∨ d = 9 := by omega
  rcases this with h | h | h | h | h | h | h | h | h | h <;> subst h <;> rfl
theorem fig_small (n : Int) (h0 : 0 ≤ n) (h : n < 10) (w : World) : Calls Tryd.prog 53 #[.int .i64 n] w (Ret (.string ⟨(Lib.itoa n).toArray⟩) w) := by
  have HI := Lib.hid (itoa_pos_small n h0 h)
  have hs := digit_slice (n % 10) (by omega) w
  go_enter Tryd.func53, Tryd.ntmps53
  go_wp2
  go_ret
  exact ⟨by rw [HI.out] <;> rfl, Below.refl _ _⟩
theorem str_app (l : List UInt8) (x : UInt8) : (({ data := l.toArray } : ByteArray) ++ ({ data := #[x] } : ByteArray)) = ⟨(l ++ [x]).toArray⟩ := by
  apply ByteArray.ext; simp [ByteArray.data_append]
theorem fig_big (n : Int) (h : 10 ≤ n) (hn : n ≤ 9223372036854775807) (w : World) (ih : ∀ w, Calls Tryd.prog 53 #[.int .i64 (n / 10)] w (Ret (.string ⟨(Lib.itoa (n / 10)).toArray⟩) w)) : Calls Tryd.prog 53 #[.int .i64 n] w (Ret (.string ⟨(Lib.itoa n).toArray⟩) w) := by
  have HI := Lib.hid (itoa_pos_big n h)
  have hs := digit_slice (n % 10) (by omega) w
  have IH := Lib.hid ih; clear ih
  have hl := itoa_len (n / 10)
  have hl2 : (Lib.itoa (n / 10)).length ≤ 1000000000000000000 := by omega
  clear hl
  generalize Lib.itoa (n / 10) = l at *
  go_enter Tryd.func53, Tryd.ntmps53
  go_wp2_with fail
  refine (IH.out _).mono ?_
  rintro e w1 ⟨rfl, hb1⟩
  clear hs
  go_wp2
  go_ret
  exact ⟨by rw [HI.out, ← str_app] <;> rfl, hb1⟩
theorem fig_nsmall (n : Int) (h : n < 0) (hn : -9223372036854775808 ≤ n) (hd : n.tdiv 10 = 0) (w : World) : Calls Tryd.prog 53 #[.int .i64 n] w (Ret (.string ⟨(Lib.itoa n).toArray⟩) w) := by
  have HI := Lib.hid (itoa_neg_small n h hd)
  have h2 := Int.lt_tmod_of_pos n (show (0 : Int) < 10 by decide)
  have h3 : n.tmod 10 ≤ 0 := by have h1 := Int.mul_tdiv_add_tmod n 10; omega
  have hs := digit_slice (-(n.tmod 10)) (by omega) w
  go_enter Tryd.func53, Tryd.ntmps53
  go_wp2_with fail
  go_ret
  exact ⟨by rw [HI.out] <;> rfl, Below.refl _ _⟩
theorem fig_nbig (n : Int) (h : n < 0) (hn : -9223372036854775808 ≤ n) (hd : n.tdiv 10 ≠ 0) (w : World) (ih : ∀ w, Calls Tryd.prog 53 #[.int .i64 (n.tdiv 10)] w (Ret (.string ⟨(Lib.itoa (n.tdiv 10)).toArray⟩) w)) : Calls Tryd.prog 53 #[.int .i64 n] w (Ret (.string ⟨(Lib.itoa n).toArray⟩) w) := by
  have HI := Lib.hid (itoa_neg_big n h hd)
  have h2 := Int.lt_tmod_of_pos n (show (0 : Int) < 10 by decide)
  have h3 : n.tmod 10 ≤ 0 := by
    have h1 := Int.sign_tmod n 10
    rw [Int.sign_eq_neg_one_of_neg h] at h1
    by_cases hdv : (10 : Int) ∣ n
    · rw [if_pos hdv] at h1; simp at h1; omega
    · rw [if_neg hdv] at h1; simp at h1; omega
  have hs : ∀ w, _ := fun w => digit_slice (-(n.tmod 10)) (by omega) w
  have hd' : (n.tdiv 10 == 0) = false := by simpa using hd
  have hw1 : IntKind.i64.wrap (-(n.tmod 10) + 1) = -(n.tmod 10) + 1 := IntWalk.i64_in _ (by omega)
  have htd : -9223372036854775808 ≤ n.tdiv 10 ∧ n.tdiv 10 ≤ 9223372036854775807 := by
    have h5 : (n.tdiv 10).natAbs = n.natAbs / 10 := by rw [Int.natAbs_tdiv]; rfl
    omega
  have hw2 : IntKind.i64.wrap (n.tdiv 10) = n.tdiv 10 := IntWalk.i64_in _ htd
  have IH := Lib.hid ih; clear ih
  have hl := itoa_len (n.tdiv 10)
  have hl2 : (Lib.itoa (n.tdiv 10)).length ≤ 1000000000000000000 := by
    have : (n.tdiv 10).natAbs = n.natAbs / 10 := by rw [Int.natAbs_tdiv]; rfl
    omega
  clear hl
  generalize Lib.itoa (n.tdiv 10) = l at *
  have hlen : (9223372036854775807 < l.length + 1) = False := by simp; omega
  have hd2 := Lib.hid h2; have hd3 := Lib.hid h3
  go_enter Tryd.func53, Tryd.ntmps53
  go_wp2_with fail
  have hB : Below w.heap.size w w := Below.refl _ _
  go_region_held3 (fun w' => Below w.heap.size w w')
    (first | assumption | exact Below.drew (by assumption) | exact below_step (by assumption) (by assumption))
    (first | (go_at_call 53; refine (IH.out _).mono ?_; rintro e w1 ⟨rfl, hb1⟩))
  rename_i hH
  go_wp2
  go_ret
  exact ⟨by rw [HI.out, ← str_app] <;> rfl, hH⟩
theorem figures_any (K : Nat) : ∀ (n : Int) (w : World), n.natAbs ≤ K → -9223372036854775808 ≤ n → n ≤ 9223372036854775807 → Calls Tryd.prog 53 #[.int .i64 n] w (Ret (.string ⟨(Lib.itoa n).toArray⟩) w) := by
  induction K using Nat.strongRecOn with
  | ind K ih =>
  intro n w hK h1 h2
  by_cases hn : n < 0
  · by_cases hd : n.tdiv 10 = 0
    · exact fig_nsmall n hn h1 hd w
    · have h5 : (n.tdiv 10).natAbs = n.natAbs / 10 := by rw [Int.natAbs_tdiv]; rfl
      exact fig_nbig n hn h1 hd w (fun w => ih (n.natAbs / 10) (by omega) _ w (by omega) (by omega) (by omega))
  · by_cases h : n < 10
    · exact fig_small n (by omega) h w
    · exact fig_big n (by omega) h2 w (fun w => ih (n.natAbs / 10) (by omega) _ w (by omega) (by omega) (by omega))
theorem rtext_any (n : Int) (w : World) : Calls Tryd.prog 31 #[.int .i64 n] w (Ret (.tuple #[.string ⟨(textL n).toArray⟩, .int .i64 (wE n)]) w) := by
  by_cases h : isWb n = true
  · have hw := (isWb_iff n).1 h
    have HT : Hid (textL n = Lib.itoa n) := Lib.hid (by simp [textL, h])
    have HE : Hid (wE n = 0) := Lib.hid (by simp [wE, h])
    have H := Lib.hid h; clear h
    have HF := Lib.hid (figures_any n.natAbs n w (Nat.le_refl _) (by unfold isW at hw; omega) (by unfold isW at hw; omega))
    clear hw
    go_enter Tryd.func31, Tryd.ntmps31
    go_wp2_with fail
    refine (ris_t n _ H.out).mono ?_
    rintro e w1 ⟨rfl, rfl⟩
    go_wp2_with fail
    refine HF.out.mono ?_
    rintro e w2 ⟨rfl, hb⟩
    go_wp2
    go_ret2
    exact ⟨by rw [HT.out, HE.out] <;> rfl, hb⟩
  · have HT : Hid (textL n = []) := Lib.hid (by simp [textL, h])
    have HE : Hid (wE n = 2) := Lib.hid (by simp [wE, h])
    have H := Lib.hid (bf h); clear h
    go_enter Tryd.func31, Tryd.ntmps31
    go_wp2_with fail
    refine (ris_f n _ H.out).mono ?_
    rintro e w1 ⟨rfl, rfl⟩
    go_wp2
    go_ret2
    exact ⟨by rw [HT.out, HE.out] <;> rfl, Below.refl _ _⟩
end Go.Proofs.YthbgingclpponaaDoor
