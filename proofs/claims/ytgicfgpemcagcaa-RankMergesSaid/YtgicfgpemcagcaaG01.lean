/- Walks and mathematics of rank, part 1. -/
import Derived.RowKit
import Derived.Laws.Entries
import Derived.Laws.BitsLemmas
import Derived.Below
import Derived.Laws.OwnMore
import Derived.Deep.AppendLies
import Derived.Deep.Draws
import Derived.Laws.Rows
import Derived.Lib.Hide
import Derived.RangeFuncBox
import Derived.Deep.OwnRows
/- Plain mathematics of words: what the operations make of two words, powers, inverses. No program. -/
namespace Go.Proofs.Ytgicfgpemcagcaa
open Go.RowKit

/-- a number is a word -/
def isW (n : Int) : Prop := -2147483648 ≤ n ∧ n ≤ 2147483647
def isWb (n : Int) : Bool := decide (-2147483648 ≤ n ∧ n ≤ 2147483647)
theorem isWb_iff (n : Int) : isWb n = true ↔ isW n := by simp [isWb, isW]
theorem isWb_of (n : Int) (h : isW n) : isWb n = true := (isWb_iff n).2 h
theorem isWb_not (n : Int) (h : ¬ isW n) : isWb n = false := by rw [← Bool.not_eq_true, isWb_iff]; exact h
def isOpb (op : Int) : Bool := decide (0 ≤ op ∧ op ≤ 11)
theorem isOpb_iff (n : Int) : isOpb n = true ↔ 0 ≤ n ∧ n ≤ 11 := by simp [isOpb]
def trapsb (op b : Int) : Bool := decide ((op = 3 ∨ op = 4) ∧ b = 0)
theorem trapsb_iff (op b : Int) : trapsb op b = true ↔ (op = 3 ∨ op = 4) ∧ b = 0 := by simp [trapsb]

def tint (p : Bool) : Int := if p = true then 1 else 0
theorem tint_word (p : Bool) : isW (tint p) := by unfold tint isW; split <;> omega
def V (op a b : Int) : Int :=
  if op = 0 then wrap32 (a + b) else if op = 1 then wrap32 (a - b) else if op = 2 then wrap32 (a * b)
  else if op = 3 then wrap32 (a.fdiv b) else if op = 4 then a.fmod b
  else if op = 5 then tint (decide (a < b)) else if op = 6 then tint (a == b)
  else if op = 7 then min a b else if op = 8 then max a b
  else if op = 9 then bits .and .i64 a b else if op = 10 then bits .or .i64 a b else bits .xor .i64 a b

theorem wrap32_word (n : Int) : isW (wrap32 n) := by unfold isW wrap32; omega
theorem wrap32_of (n : Int) (h : isW n) : wrap32 n = n := by unfold isW at h; unfold wrap32; omega
theorem wrap64_word (n : Int) (h : isW n) : wrap64 n = n := by unfold isW at h; unfold wrap64; omega
theorem wrap32_u (n : Int) : wrap32 (IntKind.u64.wrap n % 4294967296) = wrap32 n := by rw [show IntKind.u64.wrap n = n % 18446744073709551616 from by simp [IntKind.wrap, IntKind.bits, IntKind.signed]]; unfold wrap32; omega
theorem wrap32_bv (n : Int) : wrap32 n = (BitVec.ofInt 32 n).toInt := by
  rw [BitVec.toInt_ofInt, Int.bmod_def]; unfold wrap32; rw [show ((2 ^ 32 : Nat) : Int) = 4294967296 from by decide]; split <;> omega

/-! ### the quotient -/
theorem quo_floor (a b : Int) (hb : b ≠ 0) :
    a.fdiv b = if a.tmod b ≠ 0 ∧ (decide (a.tmod b < 0) != decide (b < 0)) = true then a.tdiv b - 1 else a.tdiv b := by
  rw [Int.fdiv_eq_tdiv]
  have hs := Int.sign_tmod a b
  by_cases hd : b ∣ a
  · have := Int.tmod_eq_zero_of_dvd hd
    simp [hd, this]
  · rw [if_neg hd] at hs
    have hz : a.tmod b ≠ 0 := fun h => hd (Int.dvd_of_tmod_eq_zero h)
    have hneg : a.tmod b < 0 ↔ a < 0 := by rw [← Int.sign_eq_neg_one_iff_neg, hs, Int.sign_eq_neg_one_iff_neg]
    simp only [hd, if_false, hz, ne_eq, not_false_eq_true, true_and, hneg]
    have hsb : (0 ≤ b → b.sign = 1) ∧ (¬ 0 ≤ b → b.sign = -1) := ⟨fun h => Int.sign_eq_one_of_pos (by omega), fun h => Int.sign_eq_neg_one_of_neg (by omega)⟩
    by_cases h1 : 0 ≤ a <;> by_cases h2 : 0 ≤ b <;> simp [h1, h2, hsb] <;> omega
theorem quo_floor2 (a b : Int) (hb : b ≠ 0) :
    a.fdiv b = if a.tdiv b * b ≠ a ∧ (decide (a < 0) != decide (b < 0)) = true then a.tdiv b - 1 else a.tdiv b := by
  have h1 := Int.mul_tdiv_add_tmod a b
  have h2 : a.tdiv b * b = b * a.tdiv b := Int.mul_comm _ _
  have hs := Int.sign_tmod a b
  rw [quo_floor a b hb]
  by_cases hd : b ∣ a
  · have := Int.tmod_eq_zero_of_dvd hd
    rw [if_neg (by simp [this]), if_neg (by simp; omega)]
  · rw [if_neg hd] at hs
    have hz : a.tmod b ≠ 0 := fun h => hd (Int.dvd_of_tmod_eq_zero h)
    have hneg : a.tmod b < 0 ↔ a < 0 := by rw [← Int.sign_eq_neg_one_iff_neg, hs, Int.sign_eq_neg_one_iff_neg]
    have hz2 : a.tdiv b * b ≠ a := by omega
    simp [hz, hz2, hneg]
theorem tdiv_mul_bound (a b : Int) (ha : isW a) : -2147483648 ≤ a.tdiv b * b ∧ a.tdiv b * b ≤ 2147483648 := by
  have : (a.tdiv b * b).natAbs ≤ a.natAbs := by rw [Int.natAbs_mul, Int.natAbs_tdiv]; exact Nat.div_mul_le_self _ _
  unfold isW at ha; omega
theorem fmod_rem (a b : Int) : a - b * a.fdiv b = a.fmod b := by have := Int.mul_fdiv_add_fmod a b; omega
theorem tdiv_bound (a b : Int) (ha : isW a) : -2147483648 ≤ a.tdiv b ∧ a.tdiv b ≤ 2147483648 := by
  have : (a.tdiv b).natAbs ≤ a.natAbs := by rw [Int.natAbs_tdiv]; exact Nat.div_le_self _ _
  unfold isW at ha; omega
theorem fdiv_bound (a b : Int) (ha : isW a) (hb : b ≠ 0) : -2147483649 ≤ a.fdiv b ∧ a.fdiv b ≤ 2147483648 := by
  have := tdiv_bound a b ha
  rw [quo_floor a b hb]; split <;> omega
theorem fmod_bound (a b : Int) (hb : b ≠ 0) : (0 < b → 0 ≤ a.fmod b ∧ a.fmod b < b) ∧ (b < 0 → b < a.fmod b ∧ a.fmod b ≤ 0) := by
  constructor
  · intro h; rw [Int.fmod_eq_emod_of_nonneg _ (by omega)]; exact ⟨Int.emod_nonneg _ hb, Int.emod_lt_of_pos _ h⟩
  · intro h
    rw [Int.fmod_eq_emod]
    have h1 := Int.emod_nonneg a hb
    have h2 := Int.emod_lt_of_neg a h
    by_cases hd : b ∣ a
    · have := Int.emod_eq_zero_of_dvd hd; simp [hd, this]; omega
    · have : a % b ≠ 0 := fun e => hd (Int.dvd_of_emod_eq_zero e)
      rw [if_neg (by simp [hd]; omega)]; omega
theorem mul_fdiv_bound (a b : Int) (ha : isW a) (hb : isW b) (h0 : b ≠ 0) : -4294967296 ≤ b * a.fdiv b ∧ b * a.fdiv b ≤ 4294967296 := by
  have h1 := Int.mul_fdiv_add_fmod a b
  have h2 := fmod_bound a b h0
  unfold isW at *; omega

/-! ### bits -/
theorem ofInt64_word (a : Int) (h : isW a) : BitVec.ofInt 64 a = (BitVec.ofInt 32 a).signExtend 64 := by
  apply BitVec.eq_of_toInt_eq
  rw [BitVec.toInt_signExtend_of_le (by decide), ← wrap32_bv, wrap32_of a h, BitVec.toInt_ofInt_eq_self (by decide)]
  all_goals (unfold isW at h; simp; omega)
theorem wrap_toNat (x : BitVec 64) : IntKind.i64.wrap (x.toNat : Int) = x.toInt := by
  have := x.isLt
  rw [IntKind.wrap_i64, BitVec.toInt_eq_toNat_cond]; split <;> omega
theorem bits_and_word (a b : Int) (ha : isW a) (hb : isW b) : bits .and .i64 a b = (BitVec.ofInt 32 a &&& BitVec.ofInt 32 b).toInt := by
  show IntKind.i64.wrap ((BitVec.ofInt 64 a &&& BitVec.ofInt 64 b).toNat : Int) = _
  rw [wrap_toNat, ofInt64_word a ha, ofInt64_word b hb, ← BitVec.signExtend_and, BitVec.toInt_signExtend_of_le (by decide)]
theorem bits_or_word (a b : Int) (ha : isW a) (hb : isW b) : bits .or .i64 a b = (BitVec.ofInt 32 a ||| BitVec.ofInt 32 b).toInt := by
  show IntKind.i64.wrap ((BitVec.ofInt 64 a ||| BitVec.ofInt 64 b).toNat : Int) = _
  rw [wrap_toNat, ofInt64_word a ha, ofInt64_word b hb, ← BitVec.signExtend_or, BitVec.toInt_signExtend_of_le (by decide)]
theorem bits_xor_word (a b : Int) (ha : isW a) (hb : isW b) : bits .xor .i64 a b = (BitVec.ofInt 32 a ^^^ BitVec.ofInt 32 b).toInt := by
  show IntKind.i64.wrap ((BitVec.ofInt 64 a ^^^ BitVec.ofInt 64 b).toNat : Int) = _
  rw [wrap_toNat, ofInt64_word a ha, ofInt64_word b hb, ← BitVec.signExtend_xor, BitVec.toInt_signExtend_of_le (by decide)]
theorem bv_word (x : BitVec 32) : isW x.toInt := by
  have h1 := BitVec.le_toInt x; have h2 := @BitVec.toInt_lt _ x; unfold isW; simp at h1 h2; omega

theorem V0 (a b : Int) : V 0 a b = wrap32 (a + b) := by simp [V]
theorem V1 (a b : Int) : V 1 a b = wrap32 (a - b) := by simp [V]
theorem V2 (a b : Int) : V 2 a b = wrap32 (a * b) := by simp [V]
theorem V3 (a b : Int) : V 3 a b = wrap32 (a.fdiv b) := by simp [V]
theorem V4 (a b : Int) : V 4 a b = a.fmod b := by simp [V]
theorem V5 (a b : Int) : V 5 a b = tint (decide (a < b)) := by simp [V]
theorem V6 (a b : Int) : V 6 a b = tint (a == b) := by simp [V]
theorem V7 (a b : Int) : V 7 a b = min a b := by simp [V]
theorem V8 (a b : Int) : V 8 a b = max a b := by simp [V]
theorem V9 (a b : Int) : V 9 a b = bits .and .i64 a b := by simp [V]
theorem V10 (a b : Int) : V 10 a b = bits .or .i64 a b := by simp [V]
theorem V11 (a b : Int) : V 11 a b = bits .xor .i64 a b := by simp [V]
theorem trap_ne {op b : Int} (h : trapsb op b = false) (ho : op = 3 ∨ op = 4) : b ≠ 0 := fun e => by rw [(trapsb_iff op b).2 ⟨ho, e⟩] at h; cases h
theorem opCases {op : Int} (h : isOpb op = true) : op = 0 ∨ op = 1 ∨ op = 2 ∨ op = 3 ∨ op = 4 ∨ op = 5 ∨ op = 6 ∨ op = 7 ∨ op = 8 ∨ op = 9 ∨ op = 10 ∨ op = 11 := by
  have := (isOpb_iff op).1 h; omega
theorem V_word (op a b : Int) (ha : isW a) (hb : isW b) (ht : trapsb op b = false) : isW (V op a b) := by
  unfold V
  split; · exact wrap32_word _
  split; · exact wrap32_word _
  split; · exact wrap32_word _
  split; · exact wrap32_word _
  split
  · rename_i h; have hb0 : b ≠ 0 := fun e => by rw [(trapsb_iff op b).2 ⟨Or.inr h, e⟩] at ht; cases ht
    have := fmod_bound a b hb0; unfold isW at *; omega
  split; · exact tint_word _
  split; · exact tint_word _
  split; · unfold isW at *; omega
  split; · unfold isW at *; omega
  split; · rw [bits_and_word a b ha hb]; exact bv_word _
  split; · rw [bits_or_word a b ha hb]; exact bv_word _
  rw [bits_xor_word a b ha hb]; exact bv_word _
def aB (op : Int) : Bool := decide (op = 0 ∨ op = 2 ∨ (7 ≤ op ∧ op ≤ 11))
def cB (op : Int) : Bool := decide (op = 0 ∨ op = 2 ∨ op = 6 ∨ (7 ≤ op ∧ op ≤ 11))
def iB (op : Int) : Bool := decide (7 ≤ op ∧ op ≤ 10)
def opE (op : Int) : Int := if isOpb op = true then 0 else 1
def nt (op : Int) : Int := if op = 2 then 1 else if op = 7 then 2147483647 else if op = 8 then -2147483648 else if op = 9 then -1 else 0
def neN (op : Int) : Int := if aB op = true then nt op else 0
def neE (op : Int) : Int := if isOpb op = true then (if aB op = true then 0 else 4) else 1
def doN (op a b : Int) : Int := if isOpb op = true ∧ isWb a = true ∧ isWb b = true ∧ trapsb op b = false then V op a b else 0
def doE (op a b : Int) : Int := if isOpb op = true then (if isWb a = true ∧ isWb b = true then (if trapsb op b = true then 14 else 0) else 2) else 1
theorem aB_op {op : Int} (h : aB op = true) : isOpb op = true := by rw [isOpb_iff]; simp [aB] at h; omega
theorem isOpb_not_aB {op : Int} (h : isOpb op = false) : aB op = false := by
  rw [← Bool.not_eq_true]; intro e; rw [aB_op e] at h; cases h
theorem isOpb_not_cB {op : Int} (h : isOpb op = false) : cB op = false := by
  have h' : ¬ (0 ≤ op ∧ op ≤ 11) := by rw [← isOpb_iff, h]; simp
  rw [← Bool.not_eq_true]; simp [cB]; omega
theorem isOpb_not_iB {op : Int} (h : isOpb op = false) : iB op = false := by
  have h' : ¬ (0 ≤ op ∧ op ≤ 11) := by rw [← isOpb_iff, h]; simp
  rw [← Bool.not_eq_true]; simp [iB]; omega

end Go.Proofs.Ytgicfgpemcagcaa
/- Plain mathematics of layer 4: what each operation on lists returns, as functions of the arguments. No program. -/
namespace Go.Proofs.Ytgicfgpemcagcaa
open Go.RowKit

/-- The element at a place; 0 beyond the end. Not reducible: the walk leaves it as it stands. -/
def nth (zs : List Int) (k : Nat) : Int := zs.getD k 0
theorem nth_eq (zs : List Int) (k : Nat) (h : k < zs.length) : nth zs k = zs[k] := by
  unfold nth; rw [List.getD_eq_getElem?_getD, List.getElem?_eq_getElem h]; rfl
theorem take_snoc (zs : List Int) (k : Nat) (h : k < zs.length) : zs.take (k + 1) = zs.take k ++ [nth zs k] := by
  rw [List.take_succ_eq_append_getElem h, nth_eq zs k h]
theorem nth_mem (zs : List Int) (k : Nat) (h : k < zs.length) : nth zs k ∈ zs := by rw [nth_eq zs k h]; exact List.getElem_mem h
theorem eq_of_nth {xs ys : List Int} (hl : xs.length = ys.length) (h : ∀ j, j < xs.length → nth xs j = nth ys j) : xs = ys := by
  apply List.ext_getElem hl
  intro i h1 h2
  have := h i h1
  rwa [nth_eq xs i h1, nth_eq ys i h2] at this
theorem nth_app_lt (a b : List Int) (k : Nat) (h : k < a.length) : nth (a ++ b) k = nth a k := by
  unfold nth; rw [List.getD_eq_getElem?_getD, List.getElem?_append_left h, ← List.getD_eq_getElem?_getD]
theorem nth_app_ge (a b : List Int) (k : Nat) (h : a.length ≤ k) : nth (a ++ b) k = nth b (k - a.length) := by
  unfold nth; rw [List.getD_eq_getElem?_getD, List.getElem?_append_right h, ← List.getD_eq_getElem?_getD]
theorem nth_drop (l : List Int) (i k : Nat) : nth (l.drop i) k = nth l (i + k) := by
  unfold nth; rw [List.getD_eq_getElem?_getD, List.getElem?_drop, ← List.getD_eq_getElem?_getD]
theorem nth_take (l : List Int) (i k : Nat) (h : k < i) : nth (l.take i) k = nth l k := by
  unfold nth; rw [List.getD_eq_getElem?_getD, List.getElem?_take, if_pos h, ← List.getD_eq_getElem?_getD]

/-- The first error of the first n places. -/
def fe (e : Nat → Int) : Nat → Int
  | 0 => 0
  | n + 1 => if fe e n ≠ 0 then fe e n else e n
theorem fe_zero (e : Nat → Int) : fe e 0 = 0 := rfl
theorem fe_go {e : Nat → Int} {k : Nat} (h : fe e k = 0) (he : e k = 0) : fe e (k + 1) = 0 := by simp [fe, h, he]
theorem fe_keep {e : Nat → Int} {k n : Nat} (h : fe e k ≠ 0) (hn : k ≤ n) : fe e n = fe e k := by
  induction n with
  | zero => obtain rfl : k = 0 := by omega
            rfl
  | succ n ih =>
    by_cases e' : k = n + 1
    · subst e'; rfl
    · have := ih (by omega)
      simp [fe, this, h]
theorem fe_stop {e : Nat → Int} {k n : Nat} (h : fe e k = 0) (he : e k ≠ 0) (hn : k < n) : fe e n = e k := by
  have h1 : fe e (k + 1) = e k := by simp [fe, h]
  rw [fe_keep (k := k + 1) (by rw [h1]; exact he) hn, h1]
theorem fe_all {e : Nat → Int} {n : Nat} (h : fe e n = 0) : ∀ k, k < n → e k = 0 := by
  induction n with
  | zero => intro k hk; omega
  | succ n ih =>
    intro k hk
    by_cases hz : fe e n = 0
    · by_cases e' : k = n
      · subst e'; simpa [fe, hz] using h
      · exact ih hz k (by omega)
    · simp [fe, hz] at h
theorem fe_none {e : Nat → Int} {n : Nat} (h : ∀ k, k < n → e k = 0) : fe e n = 0 := by
  induction n with
  | zero => rfl
  | succ n ih => exact fe_go (ih fun k hk => h k (by omega)) (h n (by omega))
theorem fe_congr {e f : Nat → Int} {n : Nat} (h : ∀ k, k < n → e k = f k) : fe e n = fe f n := by
  induction n with
  | zero => rfl
  | succ n ih => simp only [fe]; rw [ih fun k hk => h k (by omega), h n (by omega)]

/-- A list that is told place by place. -/
def mk (f : Nat → Int) (n : Nat) : List Int := (List.range n).map f
theorem mk_zero (f : Nat → Int) : mk f 0 = [] := rfl
theorem mk_succ (f : Nat → Int) (n : Nat) : mk f (n + 1) = mk f n ++ [f n] := by simp [mk, List.range_succ]
theorem mk_length (f : Nat → Int) (n : Nat) : (mk f n).length = n := by simp [mk]
theorem nth_mk (f : Nat → Int) (n k : Nat) (h : k < n) : nth (mk f n) k = f k := by
  rw [nth_eq _ _ (by rw [mk_length]; exact h)]; simp [mk]
theorem mk_congr {f g : Nat → Int} {n : Nat} (h : ∀ k, k < n → f k = g k) : mk f n = mk g n := by
  apply eq_of_nth (by rw [mk_length, mk_length])
  intro j hj
  rw [mk_length] at hj
  rw [nth_mk _ _ _ hj, nth_mk _ _ _ hj, h j hj]
theorem mk_nth (l : List Int) : mk (nth l) l.length = l := by
  apply eq_of_nth (by rw [mk_length])
  intro j hj
  rw [mk_length] at hj
  rw [nth_mk _ _ _ hj]
/-- A result: the list, unless there is an error. -/
def orL (e : Int) (l : List Int) : List Int := if e = 0 then l else []
theorem orL_ok (l : List Int) : orL 0 l = l := rfl
theorem orL_err {e : Int} (l : List Int) (h : e ≠ 0) : orL e l = [] := by simp [orL, h]

/-! ### the errors of some lists -/
def shortB (l : List Int) : Bool := decide (l.length ≤ 1048576)
def wordsB (l : List Int) : Bool := l.all isWb
def lsE (L : List (List Int)) : Int := if L.all shortB = true then (if L.all wordsB = true then 0 else 2) else 3
def evenB (L : List (List Int)) (m : Nat) : Bool := L.all fun l => decide (l.length = m)
def evE (L : List (List Int)) : Int := if lsE L = 0 then (if evenB L (L.headD []).length = true then 0 else 6) else lsE L
theorem lsE_ok {L : List (List Int)} (h : lsE L = 0) : (∀ l ∈ L, l.length ≤ 1048576) ∧ ∀ l ∈ L, ∀ j, j < l.length → isW (nth l j) := by
  unfold lsE at h
  split at h
  · rename_i h1
    split at h
    · rename_i h2
      rw [List.all_eq_true] at h1 h2
      refine ⟨fun l hl => by simpa [shortB] using h1 l hl, fun l hl j hj => ?_⟩
      have := h2 l hl
      unfold wordsB at this
      rw [List.all_eq_true] at this
      exact (isWb_iff _).1 (this _ (nth_mem l j hj))
    · simp at h
  · simp at h
theorem lsE_cases (L : List (List Int)) : lsE L = 0 ∨ lsE L = 2 ∨ lsE L = 3 := by
  unfold lsE
  split
  · split <;> simp
  · simp
theorem evE_ok {L : List (List Int)} (h : evE L = 0) : lsE L = 0 ∧ ∀ l ∈ L, l.length = (L.headD []).length := by
  unfold evE at h
  split at h
  · rename_i h1
    split at h
    · rename_i h2
      unfold evenB at h2
      rw [List.all_eq_true] at h2
      exact ⟨h1, fun l hl => by simpa using h2 l hl⟩
    · simp at h
  · rename_i h1; exact absurd h h1
theorem evE_ne {L : List (List Int)} (h : lsE L ≠ 0) : evE L = lsE L := by simp [evE, h]

/-! ### P4.2 -/
/-- The list at a place; none beyond the end. -/
def nthL (L : List (List Int)) (k : Nat) : List Int := L.getD k []
theorem nthL_eq (L : List (List Int)) (k : Nat) (h : k < L.length) : nthL L k = L[k] := by
  unfold nthL; rw [List.getD_eq_getElem?_getD, List.getElem?_eq_getElem h]; rfl
theorem nthL_mem (L : List (List Int)) (k : Nat) (h : k < L.length) : nthL L k ∈ L := by rw [nthL_eq L k h]; exact List.getElem_mem h
theorem all_of {α : Type} (L : List α) (p : α → Bool) (f : Nat → α) (hf : ∀ k (h : k < L.length), f k = L[k]) (h : ∀ k, k < L.length → p (f k) = true) : L.all p = true := by
  rw [List.all_eq_true]
  intro x hx
  obtain ⟨j, hj, rfl⟩ := List.getElem_of_mem hx
  rw [← hf j hj]; exact h j hj
theorem all_not {α : Type} (L : List α) (p : α → Bool) (f : Nat → α) (hf : ∀ k (h : k < L.length), f k = L[k]) (k : Nat) (hk : k < L.length) (h : p (f k) = false) : L.all p = false := by
  rw [List.all_eq_false]
  exact ⟨L[k], List.getElem_mem hk, by rw [← hf k hk, h]; simp⟩
def filE (n : Int) (l : List Int) : Int := lsE [l, [n]]
def filL (n : Int) (l : List Int) : List Int := mk (fun _ => n) l.length
def binE (op : Int) (a b : List Int) : Int := if isOpb op = true then (if evE [a, b] = 0 then fe (fun k => doE op (nth a k) (nth b k)) a.length else evE [a, b]) else 1
def binL (op : Int) (a b : List Int) : List Int := mk (fun k => doN op (nth a k) (nth b k)) a.length
def picE (f a b : List Int) : Int := evE [f, a, b]
def picL (f a b : List Int) : List Int := mk (fun k => if nth f k ≠ 0 then nth a k else nth b k) f.length
def offE (a b : List Int) : Int := lsE [a, b]
def offL (a b : List Int) : List Int := mk (fun k => wrap32 (nth a k + b.length)) a.length
/-! ### P4.3 -/
def pacK (f a : List Int) : Nat → List Int
  | 0 => []
  | n + 1 => if nth f n ≠ 0 then pacK f a n ++ [nth a n] else pacK f a n
def pacE (f a : List Int) : Int := evE [f, a]
def pacL (f a : List Int) : List Int := pacK f a f.length
theorem pacK_length (f a : List Int) (n : Nat) : (pacK f a n).length ≤ n := by
  induction n with
  | zero => simp [pacK]
  | succ n ih =>
    simp only [pacK]
    split
    · rw [List.length_append, List.length_singleton]; omega
    · omega
/-- How many of the first flags are set. -/
def cnt (f : List Int) : Nat → Nat
  | 0 => 0
  | n + 1 => if nth f n ≠ 0 then cnt f n + 1 else cnt f n
theorem cnt_le (f : List Int) (n : Nat) : cnt f n ≤ n := by
  induction n with
  | zero => simp [cnt]
  | succ n ih => simp only [cnt]; split <;> omega
theorem cnt_mono (f : List Int) {m n : Nat} (h : m ≤ n) : cnt f m ≤ cnt f n ∧ cnt f n - cnt f m ≤ n - m := by
  induction n with
  | zero => obtain rfl : m = 0 := by omega
            simp
  | succ n ih =>
    by_cases e : m = n + 1
    · subst e; simp
    · have := ih (by omega)
      simp only [cnt]; split <;> omega
def merE (f a b : List Int) : Int := if lsE [f, a, b] = 0 then (if a.length = cnt f f.length ∧ b.length = f.length - cnt f f.length then 0 else 6) else lsE [f, a, b]
def merK (f a b : List Int) : Nat → List Int
  | 0 => []
  | n + 1 => if nth f n ≠ 0 then merK f a b n ++ [nth a (cnt f n)] else merK f a b n ++ [nth b (n - cnt f n)]
def merL (f a b : List Int) : List Int := merK f a b f.length
theorem merK_length (f a b : List Int) (n : Nat) : (merK f a b n).length = n := by
  induction n with
  | zero => rfl
  | succ n ih => simp only [merK]; split <;> simp [ih]
/-- The word of the list k at the place i. -/
def wv (L : List (List Int)) (k i : Nat) : Int := nth (L.getD k []) i
def weR (L : List (List Int)) (i : Nat) (k : Nat) : List Int := mk (fun k => wv L k i) k
def weK (L : List (List Int)) : Nat → List Int
  | 0 => []
  | n + 1 => weK L n ++ weR L n L.length
def weE (L : List (List Int)) : Int := if evE L = 0 then (if L.length = 0 then 0 else if 1048576 < L.length * (L.headD []).length then 9 else 0) else evE L
def weL (L : List (List Int)) : List Int := weK L (L.headD []).length
theorem weK_length (L : List (List Int)) (n : Nat) : (weK L n).length = n * L.length := by
  induction n with
  | zero => simp [weK]
  | succ n ih => simp only [weK]; rw [List.length_append, ih, weR, mk_length, Nat.succ_mul]
/-! ### P4.4 -/
def plB (n : Int) (m : Nat) : Bool := decide (0 ≤ n ∧ n < m)
def gatE (a p : List Int) : Int := if lsE [a, p] = 0 then fe (fun k => if plB (nth p k) a.length = true then 0 else 14) p.length else lsE [a, p]
def gatL (a p : List Int) : List Int := mk (fun k => nth a (nth p k).toNat) p.length
/-- The first n places are places below m, no two the same. -/
def ordB (p : List Int) (m : Nat) : Nat → Bool
  | 0 => true
  | n + 1 => ordB p m n && (plB (nth p n) m && !((p.take n).contains (nth p n)))
def putE (a p : List Int) : Int := if evE [a, p] = 0 then (if ordB p a.length p.length = true then 0 else 14) else evE [a, p]
def putK (a p : List Int) : Nat → List Int
  | 0 => List.replicate a.length 0
  | n + 1 => (putK a p n).set (nth p n).toNat (nth a n)
def putL (a p : List Int) : List Int := putK a p p.length
theorem putK_length (a p : List Int) (n : Nat) : (putK a p n).length = a.length := by
  induction n with
  | zero => simp [putK]
  | succ n ih => simp only [putK]; rw [List.length_set, ih]
theorem ordB_stop {p : List Int} {m k n : Nat} (h : ordB p m k = false) (hn : k ≤ n) : ordB p m n = false := by
  induction n with
  | zero => obtain rfl : k = 0 := by omega
            exact h
  | succ n ih =>
    by_cases e : k = n + 1
    · subst e; exact h
    · simp [ordB, ih (by omega)]
/-- The sum of the first k. -/
def psum (zs : List Int) (k : Nat) : Int := (zs.take k).sum
theorem psum_zero (zs : List Int) : psum zs 0 = 0 := by simp [psum]
theorem psum_succ (zs : List Int) (k : Nat) (h : k < zs.length) : psum zs (k + 1) = psum zs k + nth zs k := by
  unfold psum; rw [take_snoc zs k h, List.sum_append]; simp
theorem psum_all (zs : List Int) : psum zs zs.length = zs.sum := by simp [psum]
def posB (l : List Int) : Bool := l.all fun n => decide (0 ≤ n)
theorem posB_of {l : List Int} (h : posB l = true) (j : Nat) (hj : j < l.length) : 0 ≤ nth l j := by
  unfold posB at h; rw [List.all_eq_true] at h
  simpa using h _ (nth_mem l j hj)
theorem psum_mono (zs : List Int) (h : posB zs = true) (a b : Nat) (hab : a ≤ b) (hb : b ≤ zs.length) : psum zs a ≤ psum zs b := by
  induction b with
  | zero => obtain rfl : a = 0 := by omega
            exact Int.le_refl _
  | succ b ih =>
    by_cases e : a = b + 1
    · subst e; exact Int.le_refl _
    · have := ih (by omega) (by omega)
      rw [psum_succ zs b (by omega)]
      have := posB_of h b (by omega)
      omega
/-- The error of numbers that say how many. -/
def totE (l : List Int) : Int := if posB l = true then (if 1048576 < l.sum then 9 else 0) else 14
def totN (l : List Int) : Int := if totE l = 0 then l.sum else 0
theorem tot_ok {l : List Int} (h : totE l = 0) : posB l = true ∧ 0 ≤ l.sum ∧ l.sum ≤ 1048576 ∧ ∀ k, k ≤ l.length → 0 ≤ psum l k ∧ psum l k ≤ l.sum := by
  unfold totE at h
  split at h
  · rename_i h1
    split at h
    · simp at h
    · rename_i h2
      have hm : ∀ k, k ≤ l.length → 0 ≤ psum l k ∧ psum l k ≤ l.sum := fun k hk => by
        have ha := psum_mono l h1 0 k (by omega) hk
        have hb := psum_mono l h1 k l.length hk (Nat.le_refl _)
        rw [psum_zero] at ha
        rw [psum_all] at hb
        exact ⟨ha, hb⟩
      have := hm l.length (Nat.le_refl _)
      rw [psum_all] at this
      exact ⟨h1, this.1, by omega, hm⟩
  · simp at h
def repK (a t : List Int) : Nat → List Int
  | 0 => []
  | n + 1 => repK a t n ++ List.replicate (nth t n).toNat (nth a n)
def repE (a t : List Int) : Int := if evE [a, t] = 0 then totE t else evE [a, t]
def repL (a t : List Int) : List Int := repK a t a.length
theorem repK_length {a t : List Int} (h : posB t = true) (n : Nat) (hn : n ≤ t.length) : ((repK a t n).length : Int) = psum t n := by
  induction n with
  | zero => simp [repK, psum_zero]
  | succ n ih =>
    simp only [repK]
    have h1 := ih (by omega)
    have h2 := posB_of h n (by omega)
    rw [List.length_append, List.length_replicate, psum_succ t n (by omega)]
    omega
/-! ### P4.5 -/
def upL (n : Nat) : List Int := mk (fun k => (k : Int)) n
def iotK (l : List Int) : Nat → List Int
  | 0 => []
  | n + 1 => iotK l n ++ upL (nth l n).toNat
def iotE (l : List Int) : Int := if lsE [l] = 0 then totE l else lsE [l]
def iotL (l : List Int) : List Int := iotK l l.length
theorem iotK_length {l : List Int} (h : posB l = true) (n : Nat) (hn : n ≤ l.length) : ((iotK l n).length : Int) = psum l n := by
  induction n with
  | zero => simp [iotK, psum_zero]
  | succ n ih =>
    simp only [iotK]
    have h1 := ih (by omega)
    have h2 := posB_of h n (by omega)
    rw [List.length_append, upL, mk_length, psum_succ l n (by omega)]
    omega
def catE (a b : List Int) : Int := if lsE [a, b] = 0 then (if 1048576 < a.length + b.length then 9 else 0) else lsE [a, b]
def lenE (a : List Int) : Int := lsE [a]
def trpE (f : List Int) : Int := if lsE [f] = 0 then (if cnt f f.length = 0 then 0 else 14) else lsE [f]
end Go.Proofs.Ytgicfgpemcagcaa
/- Memory words of this seat: a slice of ints that reads as a list, whatever its block; what a call hands back. -/
namespace Go.Proofs.Ytgicfgpemcagcaa
open Go.RowKit
set_option linter.unusedVariables false

/-- The slice value at A holds the list, in a block that is there. -/
def Sl (w : World) (A : Option Addr) (zs : List Int) : Prop :=
  0 < zs.length → ∃ b off, A = some ⟨b, off, none⟩ ∧ b < w.heap.size ∧ ∀ j, j < zs.length → w.cell? ⟨b, off + j, none⟩ = some (.int .i64 (nth zs j))

theorem Sl.at_ {w : World} {A : Option Addr} {zs : List Int} (h : Sl w A zs) {k : Nat} (hk : k < zs.length) :
    ∃ b off, A = some ⟨b, off, none⟩ ∧ b < w.heap.size ∧ w.cell? ⟨b, off + k, none⟩ = some (.int .i64 (nth zs k)) := by
  obtain ⟨b, off, e, hb, hc⟩ := h (by omega)
  exact ⟨b, off, e, hb, hc k hk⟩
theorem Sl.nil (w : World) (A : Option Addr) : Sl w A [] := fun h => absurd h (by simp)
theorem Sl.below {w w' : World} {B : Nat} {A : Option Addr} {zs : List Int} (h : Sl w A zs) (hb : Below B w w') (hB : w.heap.size ≤ B) : Sl w' A zs := fun hl => by
  obtain ⟨b, off, e, hlt, hc⟩ := h hl
  exact ⟨b, off, e, Nat.lt_of_lt_of_le hlt hb.size, fun j hj => (hb.cell (p := ⟨b, off + j, none⟩) (Nat.lt_of_lt_of_le hlt hB)).trans (hc j hj)⟩
theorem Sl.step {w w' : World} {A : Option Addr} {zs : List Int} (h : Sl w A zs) (hb : Below w.heap.size w w') : Sl w' A zs := h.below hb (Nat.le_refl _)
theorem Sl.of_own {w : World} {base : Nat} {c : Nat} {A : Option Addr} {zs : List Int} (h : w.ownsRow base 3 1 (.slice A zs.length c) zs.length (zs.map (Value.int .i64))) : Sl w A zs := fun hl => by
  obtain ⟨g, cap, hv, _, hlt⟩ := h.form hl
  have hA : A = some ⟨g, 0, none⟩ := by injection hv
  subst hA
  refine ⟨g, 0, rfl, hlt, fun j hj => ?_⟩
  have := h.cells (g := g) rfl j (.int .i64 (nth zs j)) (by rw [List.getElem?_map, List.getElem?_eq_getElem hj, nth_eq zs j hj]; rfl)
  by_cases h0 : j = 0 <;> simpa [Addr.add, h0] using this
/-- What a row of the call's own is, as a slice value. -/
theorem own_form {w : World} {base : Nat} {v : Value} {zs : List Int} (h : w.ownsRow base 3 1 v zs.length (zs.map (Value.int .i64))) :
    ∃ A c, v = .slice A zs.length c ∧ zs.length ≤ c ∧ Sl w A zs := by
  rcases h.2 with ⟨rfl, h0⟩ | ⟨g, cap, cur, rfl, hrest⟩
  · exact ⟨none, 0, by rw [h0], by omega, fun hl => absurd hl (by omega)⟩
  · have hcap : zs.length ≤ cap := by
      obtain ⟨_, _, hnc, _⟩ := hrest
      exact hnc
    exact ⟨some ⟨g, 0, none⟩, cap, rfl, hcap, Sl.of_own h⟩

/-- 'Returned a list and an error, and nothing of old is turned'. -/
def RetL (w : World) (zs : List Int) (er : Int) (e : Ending) (w' : World) : Prop :=
  ∃ A c, e = .returned (.tuple #[.slice A zs.length c, .int .i64 er]) ∧ zs.length ≤ c ∧ Sl w' A zs ∧ Below w.heap.size w w'
def RetLL (w : World) (xs ys : List Int) (er : Int) (e : Ending) (w' : World) : Prop :=
  ∃ A c A' c', e = .returned (.tuple #[.slice A xs.length c, .slice A' ys.length c', .int .i64 er]) ∧ xs.length ≤ c ∧ ys.length ≤ c' ∧ Sl w' A xs ∧ Sl w' A' ys ∧ Below w.heap.size w w'
/-- 'Returned a list'. -/
def RetS (w : World) (zs : List Int) (e : Ending) (w' : World) : Prop :=
  ∃ A c, e = .returned (.slice A zs.length c) ∧ zs.length ≤ c ∧ Sl w' A zs ∧ Below w.heap.size w w'
/-- 'Returned this value'. -/
def RetV (w : World) (v : Value) (e : Ending) (w' : World) : Prop := e = .returned v ∧ Below w.heap.size w w'
theorem cell1 (w : World) (t : TypeId) (v : Value) : (w.alloc (.cells #[v] t)).cell? ⟨w.heap.size, 0, none⟩ = some v := (Boxed.new w t v).cell
/-- Block g is just these cells. -/
def Blk (w : World) (g : Nat) (t : TypeId) (cs : Array Value) : Prop := w.heap[g]? = some (.cells cs t (0, 0))
section
variable {w w' : World} {g : Nat} {t : TypeId} {cs : Array Value}
theorem Blk.lt (h : Blk w g t cs) : g < w.heap.size := by
  rcases Nat.lt_or_ge g w.heap.size with hlt | hge
  · exact hlt
  · unfold Blk at h; rw [Array.getElem?_eq_none hge] at h; cases h
theorem Blk.cell (h : Blk w g t cs) (i : Nat) : w.cell? ⟨g, i, none⟩ = cs[i]? := cell_of_row w g i cs t (0, 0) h
theorem Blk.frozen (h : Blk w g t cs) (i : Nat) : w.frozen? ⟨g, i, none⟩ = false := by
  unfold Blk at h
  simp [World.frozen?, h]
theorem Blk.new (w : World) (t : TypeId) (cs : Array Value) : Blk (w.alloc (.cells cs t)) w.heap.size t cs := World.alloc_heap_new w _
theorem Blk.drew (h : Blk w g t cs) : Blk w.drew g t cs := h
theorem Blk.drewN (h : Blk w g t cs) (n : Nat) : Blk (w.drewN n) g t cs := h
theorem Blk.alloc (h : Blk w g t cs) (o : Obj) : Blk (w.alloc o) g t cs := (Below.heap_alloc w o g h.lt).trans h
theorem Blk.set_ (h : Blk w g t cs) (i : Nat) (u : Value) : Blk (w.setCell ⟨g, i, none⟩ u) g t (cs.setIfInBounds i u) := by
  unfold Blk at h ⊢
  simp [World.setCell, Array.getElem?_modify, h]
theorem Blk.far (h : Blk w g t cs) {p : Addr} (hp : g ≠ p.block) (u : Value) : Blk (w.setCell p u) g t cs := (Below.heap_setCell w p u g hp).trans h
theorem Blk.below {B : Nat} (h : Blk w g t cs) (hb : Below B w w') (hg : g < B) : Blk w' g t cs := (hb.block g hg).trans h
theorem Blk.grown {row : Option Nat} (h : Blk w g t cs) (hb : w.grownBy w' row) (hg : some g ≠ row) : Blk w' g t cs := (hb.block g h.lt hg).trans h
end
theorem cell2a (w : World) (t : TypeId) (u v : Value) : (w.alloc (.cells #[u, v] t)).cell? ⟨w.heap.size, 0, none⟩ = some u := by rw [(Blk.new w t #[u, v]).cell]; rfl
theorem cell2b (w : World) (t : TypeId) (u v : Value) : (w.alloc (.cells #[u, v] t)).cell? ⟨w.heap.size, 1, none⟩ = some v := by rw [(Blk.new w t #[u, v]).cell]; rfl
/-- The value is a slice of ints of the call's own (its block at or beyond base). -/
def OwnI (w : World) (base : Nat) (v : Value) (zs : List Int) : Prop := w.ownsRow base 3 1 v zs.length (zs.map (Value.int .i64))
theorem OwnI.nil (w : World) (base : Nat) : OwnI w base (.slice none 0 0) [] := World.ownsRow_nil w base 3 1
theorem OwnI.empty (w : World) (base : Nat) (hb : base ≤ w.heap.size) : OwnI (w.alloc (.cells #[] 3)) base (.slice (some ⟨w.heap.size, 0, none⟩) 0 0) [] :=
  World.ownsRow_lit w #[] 0 hb (by simp [maxLen]) rfl
theorem OwnI.alloc {w : World} {base : Nat} {v : Value} {zs : List Int} (h : OwnI w base v zs) (o : Obj) : OwnI (w.alloc o) base v zs := World.ownsRow.alloc h o
theorem OwnI.drew {w : World} {base : Nat} {v : Value} {zs : List Int} (h : OwnI w base v zs) : OwnI w.drew base v zs := h
theorem OwnI.drewN {w : World} {base : Nat} {v : Value} {zs : List Int} (h : OwnI w base v zs) (n : Nat) : OwnI (w.drewN n) base v zs := h
theorem OwnI.snoc {w : World} {base : Nat} {v : Value} {zs : List Int} {x : Int} (h : w.ownsRow base 3 1 v (zs.length + 1) (zs.map (Value.int .i64) ++ [.int .i64 x])) : OwnI w base v (zs ++ [x]) := by
  unfold OwnI; simpa using h
theorem OwnI.form {w : World} {base : Nat} {v : Value} {zs : List Int} (h : OwnI w base v zs) : ∃ A c, v = .slice A zs.length c ∧ zs.length ≤ c ∧ Sl w A zs := own_form h
theorem OwnI.kept {w w' : World} {base : Nat} {v : Value} {zs : List Int} {row : Option Nat} (h : OwnI w base v zs) (hg : w.grownBy w' row) (hne : v.ownBlock = none ∨ v.ownBlock ≠ row) : OwnI w' base v zs := World.ownsRow.kept h hg hne
theorem OwnI.below {w w' : World} {base B : Nat} {v : Value} {zs : List Int} (h : OwnI w base v zs) (hb : Below B w w') (hB : w.heap.size ≤ B) : OwnI w' base v zs := by
  refine ⟨h.1, ?_⟩
  rcases h.2 with h0 | ⟨g, cap, cur, e, h1, h2, h3⟩
  · exact .inl h0
  · exact .inr ⟨g, cap, cur, e, h1, (hb.block g (Nat.lt_of_lt_of_le (Array.getElem?_eq_some_iff.1 h2).1 hB)).trans h2, h3⟩
/-- 'make([]int, n)'. -/
theorem OwnI.made (w : World) (base n : Nat) (hb : base ≤ w.heap.size) (hm : n ≤ maxLen) : OwnI (w.alloc (.cells (madeCells #[.int .i64 0] n) 3)) base (.slice (some ⟨w.heap.size, 0, none⟩) n n) (List.replicate n 0) := by
  have h := World.ownsRow_lit (base := base) (e := 3) (size := 1) w (madeCells #[.int .i64 0] n) n hb hm (by rw [size_madeCells]; omega)
  unfold OwnI
  rw [List.length_replicate, List.map_replicate, ← toList_madeCells_one]
  exact h
/-- A store into a row of the call's own. -/
theorem OwnI.stored {w : World} {base g c : Nat} {zs : List Int} (h : OwnI w base (.slice (some ⟨g, 0, none⟩) zs.length c) zs) (j : Nat) (x : Int) :
    OwnI (w.setCell ⟨g, j, none⟩ (.int .i64 x)) base (.slice (some ⟨g, 0, none⟩) (zs.set j x).length c) (zs.set j x) ∧ w.grownBy (w.setCell ⟨g, j, none⟩ (.int .i64 x)) (some g) := by
  have := World.ownsRow.stored h j (.int .i64 x)
  refine ⟨?_, this.2⟩
  unfold OwnI
  rw [List.length_set, List.map_set]
  exact this.1
theorem OwnI.cellAt {w : World} {base g c : Nat} {zs : List Int} (h : OwnI w base (.slice (some ⟨g, 0, none⟩) zs.length c) zs) (j : Nat) (hj : j < zs.length) : w.cell? ⟨g, j, none⟩ = some (.int .i64 (nth zs j)) := by
  rw [World.ownsRow.cellAt h j (by omega), List.getElem?_map, List.getElem?_eq_getElem hj, nth_eq zs j hj]; rfl
theorem OwnI.frozenAt {w : World} {base g c : Nat} {zs : List Int} (h : OwnI w base (.slice (some ⟨g, 0, none⟩) zs.length c) zs) (j : Nat) : w.frozen? ⟨g, j, none⟩ = false := World.ownsRow.frozenAt h j
theorem OwnI.lt {w : World} {base : Nat} {v : Value} {zs : List Int} (h : OwnI w base v zs) : ∀ k, v.ownBlock = some k → base ≤ k ∧ k < w.heap.size := World.ownsRow.lt h
/-- Behind an append: what lay below base lies as it lay. -/
theorem below_append {w wr w1 : World} {base : Nat} {v : Value} {zs : List Int} {o : Obj} (hB : Below base w wr) (hb : base ≤ wr.heap.size) (h : OwnI wr base v zs) (hg : (wr.alloc o).grownBy w1 v.ownBlock) : Below base w w1 :=
  (hB.alloc hb o).grown hg (by simp; omega) (fun k e => by
    have := (h.lt k e).1
    omega)
theorem bcell {W w1 : World} (hb : Below W.heap.size W w1) : (∀ b o, b < W.heap.size → w1.cell? ⟨b, o, none⟩ = W.cell? ⟨b, o, none⟩) ∧ (∀ b o, b < W.heap.size → w1.frozen? ⟨b, o, none⟩ = W.frozen? ⟨b, o, none⟩) :=
  ⟨fun b o h => hb.cell (p := ⟨b, o, none⟩) h, fun b o h => hb.frozen (p := ⟨b, o, none⟩) h⟩
/-! ### a block of the call's own that holds just a list of ints -/
/-- Block g is just these ints. -/
def Full (w : World) (g : Nat) (zs : List Int) : Prop := Blk w g 3 (zs.map (Value.int .i64)).toArray
section
variable {w w' : World} {g : Nat} {zs : List Int}
theorem Full.made (w : World) (n : Nat) (hm : n ≤ maxLen) : Full (w.alloc (.cells (madeCells #[.int .i64 0] n) 3)) w.heap.size (List.replicate n 0) := by
  have h := Blk.new w 3 (madeCells #[.int .i64 0] n)
  have e : ((List.replicate n (0 : Int)).map (Value.int .i64)).toArray = madeCells #[.int .i64 0] n := by
    rw [List.map_replicate, ← toList_madeCells_one]
  unfold Full
  rw [e]
  exact h
theorem Full.lt (h : Full w g zs) : g < w.heap.size := Blk.lt h
theorem Full.cell (h : Full w g zs) (k : Nat) (hk : k < zs.length) : w.cell? ⟨g, k, none⟩ = some (.int .i64 (nth zs k)) := by
  rw [Blk.cell h k]
  simp [List.getElem?_eq_getElem hk, nth_eq zs k hk]
theorem Full.frozen (h : Full w g zs) (k : Nat) : w.frozen? ⟨g, k, none⟩ = false := Blk.frozen h k
theorem Full.alloc (h : Full w g zs) (o : Obj) : Full (w.alloc o) g zs := Blk.alloc h o
theorem Full.set_ (h : Full w g zs) (k : Nat) (x : Int) : Full (w.setCell ⟨g, k, none⟩ (.int .i64 x)) g (zs.set k x) := by
  have := Blk.set_ h k (.int .i64 x)
  unfold Full
  rw [List.map_set]
  simpa using this
theorem Full.far (h : Full w g zs) {p : Addr} (hp : g ≠ p.block) (u : Value) : Full (w.setCell p u) g zs := Blk.far h hp u
theorem Full.below {B : Nat} (h : Full w g zs) (hb : Below B w w') (hB : w.heap.size ≤ B) : Full w' g zs := Blk.below h hb (Nat.lt_of_lt_of_le h.lt hB)
theorem Full.grown {row : Option Nat} (h : Full w g zs) (hb : w.grownBy w' row) (hg : some g ≠ row) : Full w' g zs := Blk.grown h hb hg
theorem Full.sl (h : Full w g zs) : Sl w (some ⟨g, 0, none⟩) zs := fun _ => ⟨g, 0, rfl, h.lt, fun j hj => by rw [Nat.zero_add]; exact h.cell j hj⟩
end
/-- The slice at A is not in block g. -/
def NotAt (A : Option Addr) (g : Nat) : Prop := ∀ a, A = some a → a.block ≠ g
theorem Sl.far {w : World} {A : Option Addr} {zs : List Int} {g k : Nat} (h : Sl w A zs) (hn : NotAt A g) (u : Value) : Sl (w.setCell ⟨g, k, none⟩ u) A zs := fun hl => by
  obtain ⟨b, off, e, hb, hc⟩ := h hl
  have hne : b ≠ g := hn _ e
  refine ⟨b, off, e, by simpa using hb, fun j hj => ?_⟩
  rw [World.cell?_of_block (Below.heap_setCell w ⟨g, k, none⟩ u b hne)]
  exact hc j hj
theorem OwnI.form' {w : World} {base : Nat} {v : Value} {zs : List Int} (h : OwnI w base v zs) : ∃ A c, v = .slice A zs.length c ∧ zs.length ≤ c ∧ Sl w A zs ∧ ∀ a, A = some a → base ≤ a.block ∧ a.block < w.heap.size := by
  obtain ⟨A, c, rfl, h1, h2⟩ := h.form
  refine ⟨A, c, rfl, h1, h2, fun a e => ?_⟩
  subst e
  rcases h.2 with ⟨h0, _⟩ | ⟨g, cap, cur, e, _⟩
  · cases h0
  · have e1 : a = ⟨g, 0, none⟩ := by injection e with e; injection e
    subst e1
    exact h.lt g rfl

end Go.Proofs.Ytgicfgpemcagcaa
