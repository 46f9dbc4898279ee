/- Plain mathematics for the statements: quotients, texts that are read again. -/
import Derived.Test.YthbgingclpponaaDoorMd
import Derived.Test.YthbgingclpponaaDoorMg
namespace Go.Proofs.YthbgingclpponaaDoor
open Go.RowKit
theorem do_val {op a b : Int} (ho : isOpb op = true) (ha : isW a) (hb : isW b) (ht : trapsb op b = false) : doN op a b = V op a b ∧ doE op a b = 0 := by
  have h1 := isWb_of a ha; have h2 := isWb_of b hb
  simp [doN, doE, ho, h1, h2, ht]
theorem do_trap {op a b : Int} (ho : isOpb op = true) (ha : isW a) (hb : isW b) (ht : trapsb op b = true) : doN op a b = 0 ∧ doE op a b = 14 := by
  have h1 := isWb_of a ha; have h2 := isWb_of b hb
  simp [doN, doE, ho, h1, h2, ht]
theorem fdiv_word (a b : Int) (ha : isW a) (hb : isW b) (h0 : b ≠ 0) (hx : ¬ (a = -2147483648 ∧ b = -1)) : isW (a.fdiv b) := by
  have h1 := Int.mul_fdiv_add_fmod a b
  have h2 := fmod_bound a b h0
  have h3 := fdiv_bound a b ha h0
  unfold isW at *
  by_cases e1 : a.fdiv b = 2147483648
  · rw [e1] at h1; omega
  · by_cases e2 : a.fdiv b = -2147483649
    · rw [e2] at h1; omega
    · omega
theorem fdiv_mul (a b : Int) : a.fdiv b * b + a.fmod b = a := by have := Int.mul_fdiv_add_fmod a b; rw [Int.mul_comm] at this; exact this

/-! ### texts are read again -/
theorem toNat_digit (k : Nat) (h : k < 10) : (UInt8.ofNat (48 + k)).toNat = 48 + k := by
  simp [UInt8.toNat_ofNat']; omega
theorem dec_ne (u : Nat) : Lib.decDigits u ≠ [] := by
  by_cases h : u < 10
  · rw [decDigits_small h]; simp
  · rw [decDigits_big h]; simp
theorem dec_val (u : Nat) : val (Lib.decDigits u) = u := by
  induction u using Nat.strongRecOn with
  | ind u ih =>
    by_cases h : u < 10
    · rw [decDigits_small h]; show 0 * 10 + ((UInt8.ofNat (48 + u)).toNat - 48) = u; rw [toNat_digit u h]; omega
    · rw [decDigits_big h, val_snoc, ih (u / 10) (by omega), toNat_digit _ (by omega)]; omega
theorem dec_dig (u : Nat) : ∀ b ∈ Lib.decDigits u, isD b := by
  induction u using Nat.strongRecOn with
  | ind u ih =>
    by_cases h : u < 10
    · rw [decDigits_small h]; intro b hb; rw [List.mem_singleton] at hb; subst hb; unfold isD; rw [toNat_digit u h]; omega
    · rw [decDigits_big h]; intro b hb
      rcases List.mem_append.1 hb with hb | hb
      · exact ih (u / 10) (by omega) b hb
      · rw [List.mem_singleton] at hb; subst hb; unfold isD; rw [toNat_digit _ (by omega)]; omega
theorem dec_head (u : Nat) (hu : 0 < u) : (Lib.decDigits u).head? ≠ some 48 := by
  induction u using Nat.strongRecOn with
  | ind u ih =>
    by_cases h : u < 10
    · rw [decDigits_small h]
      intro e
      simp only [List.head?_cons, Option.some.injEq] at e
      have := congrArg UInt8.toNat e
      rw [toNat_digit u h] at this
      have h48 : (48 : UInt8).toNat = 48 := rfl
      omega
    · rw [decDigits_big h]
      have h1 := ih (u / 10) (by omega) (by omega)
      cases hd : Lib.decDigits (u / 10) with
      | nil => exact absurd hd (dec_ne _)
      | cons b t => rw [hd] at h1; simpa using h1
theorem dec_len1 (u : Nat) (h : 2 ≤ (Lib.decDigits u).length) : 0 < u := by
  apply Classical.byContradiction; intro e
  have : u = 0 := by omega
  subst this
  rw [decDigits_small (by decide)] at h; simp at h
theorem dec_num (u : Nat) : numB (Lib.decDigits u) = true := by
  simp only [numB, decide_eq_true_eq]
  exact ⟨dec_ne u, dec_dig u, fun h => dec_head u (dec_len1 u h)⟩
theorem dec_cons (u : Nat) : ∃ b t, Lib.decDigits u = b :: t ∧ isD b := by
  cases h : Lib.decDigits u with
  | nil => exact absurd h (dec_ne u)
  | cons b t => exact ⟨b, t, rfl, dec_dig u b (by rw [h]; simp)⟩
theorem not45 {b : UInt8} (h : isD b) : b ≠ 45 := by intro e; subst e; unfold isD at h; exact absurd h (by decide)
theorem isNeg_not {b : UInt8} {t : List UInt8} (h : b ≠ 45) : isNeg (b :: t) = false ∧ digs (b :: t) = b :: t :=
  ⟨by unfold isNeg; split; (rename_i e; cases e; exact absurd rfl h); rfl, by unfold digs; split; (rename_i e; cases e; exact absurd rfl h); rfl⟩
/-- what is written is read -/
theorem read_text (a : Int) (ha : isW a) : paN (textL a) = a ∧ paE (textL a) = 0 := by
  have hw := isWb_of a ha
  rw [show textL a = Lib.itoa a from by simp [textL, hw]]
  by_cases hn : a < 0
  · obtain ⟨m, rfl⟩ : ∃ m : Nat, a = -(m : Int) := ⟨a.natAbs, by omega⟩
    rw [itoa_neg m (by omega)]
    have h1 : isNeg (45 :: Lib.decDigits m) = true := rfl
    have h2 : digs (45 :: Lib.decDigits m) = Lib.decDigits m := rfl
    have hok : okB true (Lib.decDigits m) = true := by
      unfold okB magB
      rw [dec_num, dec_val]
      simp only [sg, if_true, hw]
      simp
      unfold isW at ha; omega
    unfold paN paE prN prE
    rw [h1, h2, if_pos hok, if_pos hok, dec_val]
    exact ⟨rfl, rfl⟩
  · obtain ⟨m, rfl⟩ := Int.eq_ofNat_of_zero_le (show 0 ≤ a by omega)
    rw [itoa_nat]
    obtain ⟨b, t, hbt, hb⟩ := dec_cons m
    have h12 := isNeg_not (t := t) (not45 hb)
    rw [← hbt] at h12
    have hok : okB false (Lib.decDigits m) = true := by
      unfold okB magB
      rw [dec_num, dec_val]
      simp [sg, hw]
      unfold isW at ha; omega
    unfold paN paE prN prE
    rw [h12.1, h12.2, if_pos hok, if_pos hok, dec_val]
    exact ⟨rfl, rfl⟩
theorem text_inj (a b : Int) (ha : isW a) (hb : isW b) : textL a = textL b ↔ a = b :=
  ⟨fun h => by rw [← (read_text a ha).1, h, (read_text b hb).1], fun h => by rw [h]⟩
theorem num_no_digit {l : List UInt8} {b : UInt8} (hm : b ∈ l) (hb : ¬ isD b) : numB l = false := by
  rw [← Bool.not_eq_true]; intro h
  simp only [numB, decide_eq_true_eq] at h
  exact hb (h.2.1 b hm)
theorem pa_no {b : UInt8} {t : List UInt8} (hb : b ≠ 45) (h : numB (b :: t) = false) : paE (b :: t) = 8 := by
  have h12 := isNeg_not (t := t) hb
  unfold paE prE
  rw [h12.1, h12.2, if_neg]
  simp [okB, magB, h]
theorem text_ne (a : Int) (ha : isW a) : textL a ≠ [] := by
  intro h
  have := (read_text a ha).2
  rw [h] at this
  exact absurd this (by decide)
theorem read_plus (a : Int) : paE (43 :: textL a) = 8 := pa_no (by decide) (num_no_digit (b := 43) (by simp) (by decide))
theorem read_zero (a : Int) (ha : isW a) : paE (48 :: textL a) = 8 := by
  apply pa_no (by decide)
  rw [← Bool.not_eq_true]; intro h
  simp only [numB, decide_eq_true_eq] at h
  have hl : 2 ≤ (48 :: textL a).length := by
    cases hh : textL a with
    | nil => exact absurd hh (text_ne a ha)
    | cons x y => simp
  exact absurd rfl (h.2.2 hl)
end Go.Proofs.YthbgingclpponaaDoor
