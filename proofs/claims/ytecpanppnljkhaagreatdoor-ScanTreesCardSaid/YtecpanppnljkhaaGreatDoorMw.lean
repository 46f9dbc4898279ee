/- Plain mathematics of words: what the operations make of two words, powers, inverses. No program. -/
import Derived.RowKit
import Derived.Laws.Entries
import Derived.Laws.BitsLemmas
namespace Go.Proofs.YtecpanppnljkhaaGreatDoor
open Go.RowKit

/-- a number is a word -/
def isW (n : Int) : Prop := -2147483648 ≤ n ∧ n ≤ 2147483647
def isWb (n : Int) : Bool := decide (-2147483648 ≤ n ∧ n ≤ 2147483647)
theorem isWb_iff (n : Int) : isWb n = true ↔ isW n := by simp [isWb, isW]
theorem isWb_of (n : Int) (h : isW n) : isWb n = true := (isWb_iff n).2 h
theorem isWb_not (n : Int) (h : ¬ isW n) : isWb n = false := by rw [← Bool.not_eq_true, isWb_iff]; exact h
def isOpb (op : Int) : Bool := decide (0 ≤ op ∧ op ≤ 11)
theorem isOpb_iff (n : Int) : isOpb n = true ↔ 0 ≤ n ∧ n ≤ 11 := by simp [isOpb]
def trapsb (op b : Int) : Bool := decide ((op = 3 ∨ op = 4) ∧ b = 0)
theorem trapsb_iff (op b : Int) : trapsb op b = true ↔ (op = 3 ∨ op = 4) ∧ b = 0 := by simp [trapsb]

def tint (p : Bool) : Int := if p = true then 1 else 0
theorem tint_word (p : Bool) : isW (tint p) := by unfold tint isW; split <;> omega
def V (op a b : Int) : Int :=
  if op = 0 then wrap32 (a + b) else if op = 1 then wrap32 (a - b) else if op = 2 then wrap32 (a * b)
  else if op = 3 then wrap32 (a.fdiv b) else if op = 4 then a.fmod b
  else if op = 5 then tint (decide (a < b)) else if op = 6 then tint (a == b)
  else if op = 7 then min a b else if op = 8 then max a b
  else if op = 9 then bits .and .i64 a b else if op = 10 then bits .or .i64 a b else bits .xor .i64 a b

theorem wrap32_word (n : Int) : isW (wrap32 n) := by unfold isW wrap32; omega
theorem wrap32_of (n : Int) (h : isW n) : wrap32 n = n := by unfold isW at h; unfold wrap32; omega
theorem wrap64_word (n : Int) (h : isW n) : wrap64 n = n := by unfold isW at h; unfold wrap64; omega
theorem wrap32_u (n : Int) : wrap32 (IntKind.u64.wrap n % 4294967296) = wrap32 n := by rw [show IntKind.u64.wrap n = n % 18446744073709551616 from by simp [IntKind.wrap, IntKind.bits, IntKind.signed]]; unfold wrap32; omega
theorem wrap32_bv (n : Int) : wrap32 n = (BitVec.ofInt 32 n).toInt := by
  rw [BitVec.toInt_ofInt, Int.bmod_def]; unfold wrap32; rw [show ((2 ^ 32 : Nat) : Int) = 4294967296 from by decide]; split <;> omega

/-! ### the quotient -/
theorem quo_floor (a b : Int) (hb : b ≠ 0) :
    a.fdiv b = if a.tmod b ≠ 0 ∧ (decide (a.tmod b < 0) != decide (b < 0)) = true then a.tdiv b - 1 else a.tdiv b := by
  rw [Int.fdiv_eq_tdiv]
  have hs := Int.sign_tmod a b
  by_cases hd : b ∣ a
  · have := Int.tmod_eq_zero_of_dvd hd
    simp [hd, this]
  · rw [if_neg hd] at hs
    have hz : a.tmod b ≠ 0 := fun h => hd (Int.dvd_of_tmod_eq_zero h)
    have hneg : a.tmod b < 0 ↔ a < 0 := by rw [← Int.sign_eq_neg_one_iff_neg, hs, Int.sign_eq_neg_one_iff_neg]
    simp only [hd, if_false, hz, ne_eq, not_false_eq_true, true_and, hneg]
    have hsb : (0 ≤ b → b.sign = 1) ∧ (¬ 0 ≤ b → b.sign = -1) := ⟨fun h => Int.sign_eq_one_of_pos (by omega), fun h => Int.sign_eq_neg_one_of_neg (by omega)⟩
    by_cases h1 : 0 ≤ a <;> by_cases h2 : 0 ≤ b <;> simp [h1, h2, hsb] <;> omega
theorem quo_floor2 (a b : Int) (hb : b ≠ 0) :
    a.fdiv b = if a.tdiv b * b ≠ a ∧ (decide (a < 0) != decide (b < 0)) = true then a.tdiv b - 1 else a.tdiv b := by
  have h1 := Int.mul_tdiv_add_tmod a b
  have h2 : a.tdiv b * b = b * a.tdiv b := Int.mul_comm _ _
  have hs := Int.sign_tmod a b
  rw [quo_floor a b hb]
  by_cases hd : b ∣ a
  · have := Int.tmod_eq_zero_of_dvd hd
    rw [if_neg (by simp [this]), if_neg (by simp; omega)]
  · rw [if_neg hd] at hs
    have hz : a.tmod b ≠ 0 := fun h => hd (Int.dvd_of_tmod_eq_zero h)
    have hneg : a.tmod b < 0 ↔ a < 0 := by rw [← Int.sign_eq_neg_one_iff_neg, hs, Int.sign_eq_neg_one_iff_neg]
    have hz2 : a.tdiv b * b ≠ a := by omega
    simp [hz, hz2, hneg]
theorem tdiv_mul_bound (a b : Int) (ha : isW a) : -2147483648 ≤ a.tdiv b * b ∧ a.tdiv b * b ≤ 2147483648 := by
  have : (a.tdiv b * b).natAbs ≤ a.natAbs := by rw [Int.natAbs_mul, Int.natAbs_tdiv]; exact Nat.div_mul_le_self _ _
  unfold isW at ha; omega
theorem fmod_rem (a b : Int) : a - b * a.fdiv b = a.fmod b := by have := Int.mul_fdiv_add_fmod a b; omega
theorem tdiv_bound (a b : Int) (ha : isW a) : -2147483648 ≤ a.tdiv b ∧ a.tdiv b ≤ 2147483648 := by
  have : (a.tdiv b).natAbs ≤ a.natAbs := by rw [Int.natAbs_tdiv]; exact Nat.div_le_self _ _
  unfold isW at ha; omega
theorem fdiv_bound (a b : Int) (ha : isW a) (hb : b ≠ 0) : -2147483649 ≤ a.fdiv b ∧ a.fdiv b ≤ 2147483648 := by
  have := tdiv_bound a b ha
  rw [quo_floor a b hb]; split <;> omega
theorem fmod_bound (a b : Int) (hb : b ≠ 0) : (0 < b → 0 ≤ a.fmod b ∧ a.fmod b < b) ∧ (b < 0 → b < a.fmod b ∧ a.fmod b ≤ 0) := by
  constructor
  · intro h; rw [Int.fmod_eq_emod_of_nonneg _ (by omega)]; exact ⟨Int.emod_nonneg _ hb, Int.emod_lt_of_pos _ h⟩
  · intro h
    rw [Int.fmod_eq_emod]
    have h1 := Int.emod_nonneg a hb
    have h2 := Int.emod_lt_of_neg a h
    by_cases hd : b ∣ a
    · have := Int.emod_eq_zero_of_dvd hd; simp [hd, this]; omega
    · have : a % b ≠ 0 := fun e => hd (Int.dvd_of_emod_eq_zero e)
      rw [if_neg (by simp [hd]; omega)]; omega
theorem mul_fdiv_bound (a b : Int) (ha : isW a) (hb : isW b) (h0 : b ≠ 0) : -4294967296 ≤ b * a.fdiv b ∧ b * a.fdiv b ≤ 4294967296 := by
  have h1 := Int.mul_fdiv_add_fmod a b
  have h2 := fmod_bound a b h0
  unfold isW at *; omega

/-! ### bits -/
theorem ofInt64_word (a : Int) (h : isW a) : BitVec.ofInt 64 a = (BitVec.ofInt 32 a).signExtend 64 := by
  apply BitVec.eq_of_toInt_eq
  rw [BitVec.toInt_signExtend_of_le (by decide), ← wrap32_bv, wrap32_of a h, BitVec.toInt_ofInt_eq_self (by decide)]
  all_goals (unfold isW at h; simp; omega)
theorem wrap_toNat (x : BitVec 64) : IntKind.i64.wrap (x.toNat : Int) = x.toInt := by
  have := x.isLt
  rw [IntKind.wrap_i64, BitVec.toInt_eq_toNat_cond]; split <;> omega
theorem bits_and_word (a b : Int) (ha : isW a) (hb : isW b) : bits .and .i64 a b = (BitVec.ofInt 32 a &&& BitVec.ofInt 32 b).toInt := by
  show IntKind.i64.wrap ((BitVec.ofInt 64 a &&& BitVec.ofInt 64 b).toNat : Int) = _
  rw [wrap_toNat, ofInt64_word a ha, ofInt64_word b hb, ← BitVec.signExtend_and, BitVec.toInt_signExtend_of_le (by decide)]
theorem bits_or_word (a b : Int) (ha : isW a) (hb : isW b) : bits .or .i64 a b = (BitVec.ofInt 32 a ||| BitVec.ofInt 32 b).toInt := by
  show IntKind.i64.wrap ((BitVec.ofInt 64 a ||| BitVec.ofInt 64 b).toNat : Int) = _
  rw [wrap_toNat, ofInt64_word a ha, ofInt64_word b hb, ← BitVec.signExtend_or, BitVec.toInt_signExtend_of_le (by decide)]
theorem bits_xor_word (a b : Int) (ha : isW a) (hb : isW b) : bits .xor .i64 a b = (BitVec.ofInt 32 a ^^^ BitVec.ofInt 32 b).toInt := by
  show IntKind.i64.wrap ((BitVec.ofInt 64 a ^^^ BitVec.ofInt 64 b).toNat : Int) = _
  rw [wrap_toNat, ofInt64_word a ha, ofInt64_word b hb, ← BitVec.signExtend_xor, BitVec.toInt_signExtend_of_le (by decide)]
theorem bv_word (x : BitVec 32) : isW x.toInt := by
  have h1 := BitVec.le_toInt x; have h2 := @BitVec.toInt_lt _ x; unfold isW; simp at h1 h2; omega

theorem V0 (a b : Int) : V 0 a b = wrap32 (a + b) := by simp [V]
theorem V1 (a b : Int) : V 1 a b = wrap32 (a - b) := by simp [V]
theorem V2 (a b : Int) : V 2 a b = wrap32 (a * b) := by simp [V]
theorem V3 (a b : Int) : V 3 a b = wrap32 (a.fdiv b) := by simp [V]
theorem V4 (a b : Int) : V 4 a b = a.fmod b := by simp [V]
theorem V5 (a b : Int) : V 5 a b = tint (decide (a < b)) := by simp [V]
theorem V6 (a b : Int) : V 6 a b = tint (a == b) := by simp [V]
theorem V7 (a b : Int) : V 7 a b = min a b := by simp [V]
theorem V8 (a b : Int) : V 8 a b = max a b := by simp [V]
theorem V9 (a b : Int) : V 9 a b = bits .and .i64 a b := by simp [V]
theorem V10 (a b : Int) : V 10 a b = bits .or .i64 a b := by simp [V]
theorem V11 (a b : Int) : V 11 a b = bits .xor .i64 a b := by simp [V]
theorem trap_ne {op b : Int} (h : trapsb op b = false) (ho : op = 3 ∨ op = 4) : b ≠ 0 := fun e => by rw [(trapsb_iff op b).2 ⟨ho, e⟩] at h; cases h
theorem opCases {op : Int} (h : isOpb op = true) : op = 0 ∨ op = 1 ∨ op = 2 ∨ op = 3 ∨ op = 4 ∨ op = 5 ∨ op = 6 ∨ op = 7 ∨ op = 8 ∨ op = 9 ∨ op = 10 ∨ op = 11 := by
  have := (isOpb_iff op).1 h; omega
theorem V_word (op a b : Int) (ha : isW a) (hb : isW b) (ht : trapsb op b = false) : isW (V op a b) := by
  unfold V
  split; · exact wrap32_word _
  split; · exact wrap32_word _
  split; · exact wrap32_word _
  split; · exact wrap32_word _
  split
  · rename_i h; have hb0 : b ≠ 0 := fun e => by rw [(trapsb_iff op b).2 ⟨Or.inr h, e⟩] at ht; cases ht
    have := fmod_bound a b hb0; unfold isW at *; omega
  split; · exact tint_word _
  split; · exact tint_word _
  split; · unfold isW at *; omega
  split; · unfold isW at *; omega
  split; · rw [bits_and_word a b ha hb]; exact bv_word _
  split; · rw [bits_or_word a b ha hb]; exact bv_word _
  rw [bits_xor_word a b ha hb]; exact bv_word _
def aB (op : Int) : Bool := decide (op = 0 ∨ op = 2 ∨ (7 ≤ op ∧ op ≤ 11))
def cB (op : Int) : Bool := decide (op = 0 ∨ op = 2 ∨ op = 6 ∨ (7 ≤ op ∧ op ≤ 11))
def iB (op : Int) : Bool := decide (7 ≤ op ∧ op ≤ 10)
def opE (op : Int) : Int := if isOpb op = true then 0 else 1
def nt (op : Int) : Int := if op = 2 then 1 else if op = 7 then 2147483647 else if op = 8 then -2147483648 else if op = 9 then -1 else 0
def neN (op : Int) : Int := if aB op = true then nt op else 0
def neE (op : Int) : Int := if isOpb op = true then (if aB op = true then 0 else 4) else 1
def doN (op a b : Int) : Int := if isOpb op = true ∧ isWb a = true ∧ isWb b = true ∧ trapsb op b = false then V op a b else 0
def doE (op a b : Int) : Int := if isOpb op = true then (if isWb a = true ∧ isWb b = true then (if trapsb op b = true then 14 else 0) else 2) else 1
theorem aB_op {op : Int} (h : aB op = true) : isOpb op = true := by rw [isOpb_iff]; simp [aB] at h; omega
theorem isOpb_not_aB {op : Int} (h : isOpb op = false) : aB op = false := by
  rw [← Bool.not_eq_true]; intro e; rw [aB_op e] at h; cases h
theorem isOpb_not_cB {op : Int} (h : isOpb op = false) : cB op = false := by
  have h' : ¬ (0 ≤ op ∧ op ≤ 11) := by rw [← isOpb_iff, h]; simp
  rw [← Bool.not_eq_true]; simp [cB]; omega
theorem isOpb_not_iB {op : Int} (h : isOpb op = false) : iB op = false := by
  have h' : ¬ (0 ≤ op ∧ op ≤ 11) := by rw [← isOpb_iff, h]; simp
  rw [← Bool.not_eq_true]; simp [iB]; omega

end Go.Proofs.YtecpanppnljkhaaGreatDoor
