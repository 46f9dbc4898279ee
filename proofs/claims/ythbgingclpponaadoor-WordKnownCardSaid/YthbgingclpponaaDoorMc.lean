/- Plain mathematics: powers. -/
import Derived.Test.YthbgingclpponaaDoorMb
namespace Go.Proofs.YthbgingclpponaaDoor
open Go.RowKit
instance (n : Int) : Decidable (isW n) := by unfold isW; infer_instance

/-! ### words by their bits -/
theorem wrap32_add (x y : Int) : wrap32 (wrap32 x + wrap32 y) = wrap32 (x + y) := by unfold wrap32; omega
theorem ofInt_wrap32 (x : Int) : BitVec.ofInt 32 (wrap32 x) = BitVec.ofInt 32 x := by rw [wrap32_bv, BitVec.ofInt_toInt]
theorem wrap32_mul (x y : Int) : wrap32 (wrap32 x * wrap32 y) = wrap32 (x * y) := by
  rw [wrap32_bv (wrap32 x * wrap32 y), wrap32_bv (x * y), BitVec.ofInt_mul, BitVec.ofInt_mul, ofInt_wrap32, ofInt_wrap32]
theorem wrap32_mul_left (x y : Int) : wrap32 (wrap32 x * y) = wrap32 (x * y) := by
  rw [wrap32_bv (wrap32 x * y), wrap32_bv (x * y), BitVec.ofInt_mul, BitVec.ofInt_mul, ofInt_wrap32]
theorem wrap32_mul_right (x y : Int) : wrap32 (x * wrap32 y) = wrap32 (x * y) := by
  rw [wrap32_bv (x * wrap32 y), wrap32_bv (x * y), BitVec.ofInt_mul, BitVec.ofInt_mul, ofInt_wrap32]
theorem wrap32_pow (x : Int) (k : Nat) : wrap32 (wrap32 x ^ k) = wrap32 (x ^ k) := by
  induction k with
  | zero => simp
  | succ k ih => rw [Int.pow_succ, Int.pow_succ, wrap32_mul_right, ← wrap32_mul_left, ih, wrap32_mul_left]
theorem ofInt_word_inj {a b : Int} (ha : isW a) (hb : isW b) (h : BitVec.ofInt 32 a = BitVec.ofInt 32 b) : a = b := by
  rw [← wrap32_of a ha, ← wrap32_of b hb, wrap32_bv, wrap32_bv, h]
theorem ofInt_toInt_word {a : Int} (ha : isW a) : (BitVec.ofInt 32 a).toInt = a := by rw [← wrap32_bv, wrap32_of a ha]


/-! ### powers -/
def PW (op a : Int) (n : Nat) : Int :=
  if op = 0 then wrap32 (n * a) else if op = 2 then wrap32 (a ^ n) else if op = 11 then (if n % 2 = 1 then a else 0)
  else if n = 0 then nt op else a
theorem aB_cases {op : Int} (h : aB op = true) : op = 0 ∨ op = 2 ∨ op = 7 ∨ op = 8 ∨ op = 9 ∨ op = 10 ∨ op = 11 := by simp [aB] at h; omega
theorem nt_word (op : Int) : isW (nt op) := by unfold nt isW; repeat (split; omega); omega
theorem PW_word (op a : Int) (n : Nat) (ha : isW a) : isW (PW op a n) := by
  unfold PW
  split; · exact wrap32_word _
  split; · exact wrap32_word _
  split; · split; exact ha; (unfold isW; omega)
  split; exact nt_word op; exact ha
theorem PW_zero {op : Int} (a : Int) (h : aB op = true) : PW op a 0 = nt op := by
  rcases aB_cases h with h | h | h | h | h | h | h <;> subst h <;> simp [PW, nt] <;> decide
theorem PW_one {op a : Int} (h : aB op = true) (ha : isW a) : PW op a 1 = a := by
  have hw := wrap32_of a ha
  rcases aB_cases h with h | h | h | h | h | h | h <;> subst h <;> simp [PW, hw, Int.pow_succ]
theorem and_ones (a : Int) (ha : isW a) : V 9 (-1) a = a ∧ V 9 a (-1) = a := by
  have h1 : isW (-1) := by decide
  rw [V9, V9, bits_and_word _ _ h1 ha, bits_and_word _ _ ha h1, show BitVec.ofInt 32 (-1) = BitVec.allOnes 32 from by decide, BitVec.allOnes_and, BitVec.and_allOnes]
  exact ⟨ofInt_toInt_word ha, ofInt_toInt_word ha⟩
theorem or_zero (a : Int) (ha : isW a) : V 10 0 a = a ∧ V 10 a 0 = a := by
  have h1 : isW 0 := by decide
  rw [V10, V10, bits_or_word _ _ h1 ha, bits_or_word _ _ ha h1, show BitVec.ofInt 32 0 = 0#32 from by decide, BitVec.zero_or, BitVec.or_zero]
  exact ⟨ofInt_toInt_word ha, ofInt_toInt_word ha⟩
theorem xor_zero (a : Int) (ha : isW a) : V 11 0 a = a ∧ V 11 a 0 = a ∧ V 11 a a = 0 := by
  have h1 : isW 0 := by decide
  rw [V11, V11, V11, bits_xor_word _ _ h1 ha, bits_xor_word _ _ ha h1, bits_xor_word _ _ ha ha, show BitVec.ofInt 32 0 = 0#32 from by decide, BitVec.zero_xor, BitVec.xor_zero, BitVec.xor_self]
  exact ⟨ofInt_toInt_word ha, ofInt_toInt_word ha, by decide⟩
theorem and_self (a : Int) (ha : isW a) : V 9 a a = a := by rw [V9, bits_and_word _ _ ha ha, BitVec.and_self]; exact ofInt_toInt_word ha
theorem or_self (a : Int) (ha : isW a) : V 10 a a = a := by rw [V10, bits_or_word _ _ ha ha, BitVec.or_self]; exact ofInt_toInt_word ha
/-- joined m + n times -/
theorem PW_add {op a : Int} (m n : Nat) (h : aB op = true) (ha : isW a) : V op (PW op a m) (PW op a n) = PW op a (m + n) := by
  rcases aB_cases h with h | h | h | h | h | h | h <;> subst h
  · rw [V0]; simp only [PW, if_true]; rw [wrap32_add]; congr 1; rw [Int.natCast_add, Int.add_mul]
  · rw [V2]; simp only [PW]; simp; rw [wrap32_mul, Int.pow_add]
  · rw [V7]; unfold isW at ha; by_cases hm : m = 0 <;> by_cases hn : n = 0 <;> simp [PW, nt, hm, hn] <;> omega
  · rw [V8]; unfold isW at ha; by_cases hm : m = 0 <;> by_cases hn : n = 0 <;> simp [PW, nt, hm, hn] <;> omega
  · have h1 := and_ones a ha; have h2 := and_self a ha
    by_cases hm : m = 0 <;> by_cases hn : n = 0 <;> simp [PW, nt, hm, hn, h1, h2]
    exact (and_ones (-1) (by decide)).1
  · have h1 := or_zero a ha; have h2 := or_self a ha
    by_cases hm : m = 0 <;> by_cases hn : n = 0 <;> simp [PW, nt, hm, hn, h1, h2]
    exact (or_zero 0 (by decide)).1
  · have h1 := xor_zero a ha
    have h0 := xor_zero 0 (by decide)
    by_cases hm : m % 2 = 1 <;> by_cases hn : n % 2 = 1
    · simp [PW, hm, hn, h1, show ¬ (m + n) % 2 = 1 from by omega]
    · simp [PW, hm, hn, h1, show (m + n) % 2 = 1 from by omega]
    · simp [PW, hm, hn, h1, show (m + n) % 2 = 1 from by omega]
    · simp [PW, hm, hn, h0, show ¬ (m + n) % 2 = 1 from by omega]
/-- m times what it is joined n times -/
theorem PW_mul {op a : Int} (m n : Nat) (h : aB op = true) : PW op (PW op a m) n = PW op a (m * n) := by
  rcases aB_cases h with h | h | h | h | h | h | h <;> subst h
  · simp only [PW, if_true]; rw [wrap32_mul_right]; congr 1; rw [Int.natCast_mul, Int.mul_comm (m : Int) n, Int.mul_assoc]
  · simp only [PW]; simp; rw [wrap32_pow, ← Int.pow_mul]
  · by_cases hm : m = 0 <;> by_cases hn : n = 0 <;> simp [PW, nt, hm, hn, Nat.mul_eq_zero]
  · by_cases hm : m = 0 <;> by_cases hn : n = 0 <;> simp [PW, nt, hm, hn, Nat.mul_eq_zero]
  · by_cases hm : m = 0 <;> by_cases hn : n = 0 <;> simp [PW, nt, hm, hn, Nat.mul_eq_zero]
  · by_cases hm : m = 0 <;> by_cases hn : n = 0 <;> simp [PW, nt, hm, hn, Nat.mul_eq_zero]
  · have hmn : (m * n) % 2 = (m % 2) * (n % 2) % 2 := Nat.mul_mod m n 2
    rcases Nat.mod_two_eq_zero_or_one m with hm | hm <;> rcases Nat.mod_two_eq_zero_or_one n with hn | hn <;> simp [hm, hn] at hmn <;> simp [PW, hm, hn, hmn]
theorem PW_even {op a : Int} (n : Nat) (h : aB op = true) (ha : isW a) (hn : n % 2 = 0) : V op (PW op a (n / 2)) (PW op a (n / 2)) = PW op a n := by
  rw [PW_add _ _ h ha]; congr 1; omega
theorem PW_odd {op a : Int} (n : Nat) (h : aB op = true) (ha : isW a) (hn : n % 2 = 1) : V op (V op (PW op a (n / 2)) (PW op a (n / 2))) a = PW op a n := by
  rw [PW_add _ _ h ha]
  have := PW_add (n / 2 + n / 2) 1 h ha
  rw [PW_one h ha] at this
  rw [this]; congr 1; omega
theorem aB_trap {op : Int} (b : Int) (h : aB op = true) : trapsb op b = false := by
  rw [← Bool.not_eq_true, trapsb_iff]; rcases aB_cases h with h | h | h | h | h | h | h <;> omega
/-- an idempotent one: once is as often as one likes -/
theorem PW_min {op a : Int} (n : Nat) (h : iB op = true) : PW op a (min n 1) = PW op a n := by
  have h' : 7 ≤ op ∧ op ≤ 10 := by simpa [iB] using h
  by_cases hn : n = 0
  · subst hn; rfl
  · rw [show min n 1 = 1 from by omega]; unfold PW
    rw [if_neg (by omega), if_neg (by omega), if_neg (by omega), if_neg (by omega), if_neg (by omega), if_neg (by omega), if_neg (by omega), if_neg hn]
def poN (op a n : Int) : Int := if aB op = true ∧ isWb a = true ∧ 0 ≤ n then PW op a n.toNat else 0
def poE (op a n : Int) : Int := if aB op = true then (if isWb a = true ∧ 0 ≤ n then 0 else 2) else neE op
end Go.Proofs.YthbgingclpponaaDoor
