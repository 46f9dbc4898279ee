/- Plain mathematics: decimal texts. -/
import Derived.Test.YthbgingclpponaaDoorMb
namespace Go.Proofs.YthbgingclpponaaDoor
open Go.RowKit
theorem decDigits_small {u : Nat} (h : u < 10) : Lib.decDigits u = [UInt8.ofNat (48 + u)] := by rw [Lib.decDigits, dif_pos h]
theorem decDigits_big {u : Nat} (h : ¬ u < 10) : Lib.decDigits u = Lib.decDigits (u / 10) ++ [UInt8.ofNat (48 + u % 10)] := by rw [Lib.decDigits, dif_neg h]
theorem itoa_nat (n : Nat) : Lib.itoa n = Lib.decDigits n := by unfold Lib.itoa; rw [if_neg (by omega)]; rfl
theorem itoa_neg (n : Nat) (h : 0 < n) : Lib.itoa (-(n : Int)) = 45 :: Lib.decDigits n := by unfold Lib.itoa; rw [if_pos (by omega)]; congr 2; omega
/-- the byte of a digit -/
def dg (d : Int) : UInt8 := UInt8.ofNat (48 + d.toNat)
theorem itoa_pos_small (n : Int) (h0 : 0 ≤ n) (h : n < 10) : Lib.itoa n = [dg (n % 10)] := by
  obtain ⟨m, rfl⟩ := Int.eq_ofNat_of_zero_le h0
  rw [itoa_nat, decDigits_small (by omega)]; unfold dg; congr 2; omega
theorem itoa_pos_big (n : Int) (h : 10 ≤ n) : Lib.itoa n = Lib.itoa (n / 10) ++ [dg (n % 10)] := by
  obtain ⟨m, rfl⟩ := Int.eq_ofNat_of_zero_le (show 0 ≤ n by omega)
  rw [itoa_nat, decDigits_big (by omega), show ((m : Int) / 10) = ((m / 10 : Nat) : Int) from by omega, itoa_nat]
  unfold dg; congr 3
theorem itoa_neg_small (n : Int) (h0 : n < 0) (h : n.tdiv 10 = 0) : Lib.itoa n = 45 :: [dg (-(n.tmod 10))] := by
  have h1 := Int.mul_tdiv_add_tmod n 10
  have h2 := Int.lt_tmod_of_pos n (show (0 : Int) < 10 by decide)
  obtain ⟨m, hm⟩ : ∃ m : Nat, n = -(m : Int) := ⟨n.natAbs, by omega⟩
  have hm' : n.tmod 10 = -(m : Int) := by omega
  rw [hm', hm, itoa_neg m (by omega), decDigits_small (by omega)]; unfold dg; congr 3; omega
theorem tdiv_neg_ten (m : Nat) : (-(m : Int)).tdiv 10 = -((m / 10 : Nat) : Int) := by rw [Int.neg_tdiv, Int.tdiv_eq_ediv_of_nonneg (by omega)]; omega
theorem tmod_neg_ten (m : Nat) : (-(m : Int)).tmod 10 = -((m % 10 : Nat) : Int) := by rw [Int.neg_tmod, Int.tmod_eq_emod_of_nonneg (by omega)]; omega
theorem itoa_neg_big (n : Int) (h0 : n < 0) (h : n.tdiv 10 ≠ 0) : Lib.itoa n = Lib.itoa (n.tdiv 10) ++ [dg (-(n.tmod 10))] := by
  obtain ⟨m, rfl⟩ : ∃ m : Nat, n = -(m : Int) := ⟨n.natAbs, by omega⟩
  rw [tdiv_neg_ten] at *
  rw [tmod_neg_ten, itoa_neg m (by omega), itoa_neg (m / 10) (by omega), decDigits_big (by omega)]
  unfold dg; simp; congr 1
theorem decDigits_len (u : Nat) : (Lib.decDigits u).length ≤ u + 1 := by
  induction u using Nat.strongRecOn with
  | ind u ih =>
    by_cases h : u < 10
    · rw [decDigits_small h]; simp
    · rw [decDigits_big h]; have := ih (u / 10) (by omega); simp; omega
theorem itoa_len (n : Int) : (Lib.itoa n).length ≤ n.natAbs + 2 := by
  unfold Lib.itoa; split
  · have := decDigits_len n.natAbs; simp; omega
  · have := decDigits_len n.toNat; omega
end Go.Proofs.YthbgingclpponaaDoor
