/- Plain mathematics: inverses modulo 2^32. -/
import Derived.Test.YthbgingclpponaaDoorMc
namespace Go.Proofs.YthbgingclpponaaDoor
open Go.RowKit
set_option linter.unusedVariables false

def nw (a x : Int) : Int := wrap32 (x * wrap32 (2 - a * x))
def nwI (a : Int) : Nat → Int
  | 0 => a
  | k + 1 => nw a (nwI a k)
def inN (a : Int) : Int := if isWb a = true ∧ a % 2 = 1 then nwI a 4 else 0
def inE (a : Int) : Int := if isWb a = true then (if a % 2 = 1 then 0 else 4) else 2
theorem nwI_word (a : Int) (ha : isW a) (k : Nat) : isW (nwI a k) := by cases k; exact ha; exact wrap32_word _
theorem wrap32_shift (x : Int) : ∃ t, wrap32 x = x + 4294967296 * t := ⟨(wrap32 x - x) / 4294967296, by unfold wrap32; omega⟩
theorem inv_step (a x M N : Int) (h1 : N ∣ M * M) (h2 : N ∣ 4294967296) (h : M ∣ 1 - a * x) : N ∣ 1 - a * nw a x := by
  obtain ⟨t, ht⟩ := wrap32_shift (2 - a * x)
  obtain ⟨s, hs⟩ := wrap32_shift (x * wrap32 (2 - a * x))
  have e : 1 - a * nw a x = (1 - a * x) * (1 - a * x) - 4294967296 * (a * x * t + a * s) := by
    unfold nw; rw [hs, ht]; grind
  rw [e]
  obtain ⟨q, hq⟩ := h
  exact Int.dvd_sub (by rw [hq]; exact Int.dvd_trans h1 ⟨q * q, by grind⟩) (Int.dvd_trans h2 ⟨_, rfl⟩)
theorem odd_square (a : Int) (ha : a % 2 = 1) : (8 : Int) ∣ 1 - a * a := by
  obtain ⟨b, hb⟩ : ∃ b, a = 2 * b + 1 := ⟨a / 2, by omega⟩
  obtain ⟨c, hc⟩ : ∃ c, b * (b + 1) = 2 * c := by
    rcases Int.emod_two_eq b with h | h
    · exact ⟨b / 2 * (b + 1), by have : b = 2 * (b / 2) := by omega
                                 rw [← Int.mul_assoc, ← this]⟩
    · exact ⟨b * ((b + 1) / 2), by have : b + 1 = 2 * ((b + 1) / 2) := by omega
                                   rw [← Int.mul_assoc, Int.mul_comm 2 b, Int.mul_assoc, ← this]⟩
  exact ⟨-c, by subst hb; grind⟩
theorem inv_ok (a : Int) (ha : a % 2 = 1) : (4294967296 : Int) ∣ 1 - a * nwI a 4 := by
  have h0 : (8 : Int) ∣ 1 - a * nwI a 0 := odd_square a ha
  have h1 : (64 : Int) ∣ 1 - a * nwI a 1 := inv_step a _ 8 64 (by decide) (by decide) h0
  have h2 : (4096 : Int) ∣ 1 - a * nwI a 2 := inv_step a _ 64 4096 (by decide) (by decide) h1
  have h3 : (16777216 : Int) ∣ 1 - a * nwI a 3 := inv_step a _ 4096 16777216 (by decide) (by decide) h2
  exact inv_step a _ 16777216 4294967296 (by decide) (by decide) h3
theorem inv_unique (a x y : Int) (hx : isW x) (hy : isW y) (h1 : (4294967296 : Int) ∣ 1 - a * x) (h2 : (4294967296 : Int) ∣ 1 - a * y) : x = y := by
  have h : (4294967296 : Int) ∣ x - y := by
    have e : x - y = (1 - a * y) * x - (1 - a * x) * y := by grind
    rw [e]; exact Int.dvd_sub (Int.dvd_trans h2 ⟨_, rfl⟩) (Int.dvd_trans h1 ⟨_, rfl⟩)
  unfold isW at hx hy; omega
theorem inv_one (a : Int) (ha : isW a) (ho : a % 2 = 1) : V 2 a (nwI a 4) = 1 := by
  rw [V2]
  obtain ⟨q, hq⟩ := inv_ok a ho
  have : a * nwI a 4 = 1 - 4294967296 * q := by omega
  rw [this]; unfold wrap32; omega

/-! ### bit by bit -/
theorem bit_one (n : Int) (h : -9223372036854775808 ≤ n ∧ n ≤ 9223372036854775807) : bits .and .i64 n 1 = n % 2 := by
  show IntKind.i64.wrap ((BitVec.ofInt 64 n &&& BitVec.ofInt 64 1).toNat : Int) = _
  rw [BitVec.toNat_and, BitVec.toNat_ofInt, BitVec.toNat_ofInt]
  have e1 : ((1 : Int) % ((2 ^ 64 : Nat) : Int)).toNat = 1 := by decide
  rw [e1, Nat.and_one_is_mod]
  rw [show ((2 ^ 64 : Nat) : Int) = 18446744073709551616 from by decide, IntKind.wrap_i64]
  omega
/-- after k rounds -/
structure Bit (a : Int) (k : Nat) (x : Int) : Prop where
  lo : 0 ≤ x
  hi : x < 2 ^ k
  one : (2 ^ k : Int) ∣ a * x - 1
theorem Bit.start (a : Int) : Bit a 0 0 := ⟨by omega, by decide, by simp⟩
theorem pow_pos' (k : Nat) : (0 : Int) < 2 ^ k := Int.pow_pos (by decide)
theorem Bit.div {a x : Int} {k : Nat} (h : Bit a (k + 1) x) : ∃ c, a * x = 1 + 2 ^ (k + 1) * c ∧ a * x / 2 ^ (k + 1) = c := by
  obtain ⟨c, hc⟩ := h.one
  have hp : (2 : Int) ≤ 2 ^ (k + 1) := by have := pow_pos' k; rw [Int.pow_succ]; omega
  refine ⟨c, by omega, ?_⟩
  have e : a * x = 1 + 2 ^ (k + 1) * c := by omega
  rw [e, Int.add_mul_ediv_left _ _ (by omega), Int.ediv_eq_zero_of_lt (by omega) (by omega)]; omega
theorem Bit.round {a x : Int} {k : Nat} (ho : a % 2 = 1) (h : Bit a k x) :
    Bit a (k + 1) (if (decide (a * x / 2 ^ k % 2 = 1) != decide (k = 0)) = true then x + 2 ^ k else x) := by
  have hp := pow_pos' k
  have hpp : (2 : Int) ^ (k + 1) = 2 * 2 ^ k := by rw [Int.pow_succ]; omega
  cases k with
  | zero =>
    have hx : x = 0 := by have := h.lo; have := h.hi; simp at this; omega
    subst hx
    simp
    exact ⟨by decide, by decide, by simp; omega⟩
  | succ k =>
    obtain ⟨c, hc, hd⟩ := h.div
    have hlo := h.lo; have hhi := h.hi
    rw [hd]
    by_cases hb : c % 2 = 1
    · simp [hb]
      refine ⟨by omega, by omega, ?_⟩
      obtain ⟨d, hd⟩ : ∃ d, c + a = 2 * d := ⟨(c + a) / 2, by omega⟩
      exact ⟨d, by rw [Int.mul_add, hc, hpp]; grind⟩
    · simp [hb]
      refine ⟨by omega, by omega, ?_⟩
      obtain ⟨d, hd⟩ : ∃ d, c = 2 * d := ⟨c / 2, by omega⟩
      exact ⟨d, by rw [hc, hpp, hd]; grind⟩
theorem Bit.bound {a x : Int} {k : Nat} (ha : isW a) (ho : a % 2 = 1) (h : Bit a k x) (hk : k ≤ 32) : -9223372036854775808 ≤ a * x ∧ a * x ≤ 9223372036854775807 := by
  have h1 := h.lo
  have h2 : x < 4294967296 := by
    have h5 : (2 : Int) ^ k ≤ 2 ^ 32 := by have := Nat.pow_le_pow_right (n := 2) (by decide) hk; exact_mod_cast this
    have := h.hi; have h6 : (2 : Int) ^ 32 = 4294967296 := by decide
    omega
  have h3 : (a * x).natAbs ≤ 2147483647 * 4294967296 := by rw [Int.natAbs_mul]; unfold isW at ha; exact Nat.mul_le_mul (by omega) (by omega)
  omega
theorem Bit.fin {a x : Int} (ha : isW a) (ho : a % 2 = 1) (h : Bit a 32 x) : wrap32 x = nwI a 4 := by
  refine inv_unique a _ _ (wrap32_word _) (nwI_word a ha 4) ?_ (inv_ok a ho)
  obtain ⟨t, ht⟩ := wrap32_shift x
  obtain ⟨c, hc⟩ := h.one
  exact ⟨-c - a * t, by rw [ht]; have : (2 : Int) ^ 32 = 4294967296 := by decide
                        rw [this] at hc; grind⟩
end Go.Proofs.YthbgingclpponaaDoor
