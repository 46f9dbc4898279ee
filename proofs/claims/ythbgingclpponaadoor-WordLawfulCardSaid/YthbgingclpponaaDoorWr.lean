/- What WordLawful's walk needs of the operations' laws. -/
import Derived.Test.YthbgingclpponaaDoorWn
import Derived.Test.YthbgingclpponaaDoorMh
namespace Go.Proofs.YthbgingclpponaaDoor.wordLawful
open Go.RowKit
set_option linter.unusedVariables false
theorem v_val {op a b : Int} (ho : isOpb op = true) (ha : isW a) (hb : isW b) (ht : trapsb op b = false) : vN op a b = V op a b := by
  have := do_val ho ha hb ht
  simp [vN, this]
theorem val_to {op a b r : Int} (ho : isOpb op = true) (ha : isW a) (hb : isW b) (ht : trapsb op b = false) (h : V op a b = r) (w : World) : Calls Tryd.prog 39 #[.int .i64 op, .int .i64 a, .int .i64 b] w (Ret (.int .i64 r) w) := by
  have := value39_any op a b w
  rw [v_val ho ha hb ht, h] at this
  exact this
theorem V_assoc {op a b c : Int} (h : aB op = true) (ha : isW a) (hb : isW b) (hc : isW c) : V op (V op a b) c = V op a (V op b c) := by
  rcases aB_cases h with rfl | rfl | rfl | rfl | rfl | rfl | rfl
  · simp only [V0]; rw [← wrap32_of c hc, wrap32_add, ← wrap32_of a ha, wrap32_add]; simp only [wrap32_of a ha, wrap32_of c hc]; rw [Int.add_assoc]
  · simp only [V2]; rw [wrap32_mul_left, wrap32_mul_right, Int.mul_assoc]
  · simp only [V7]; omega
  · simp only [V8]; omega
  · simp only [V9]; rw [bits_and_word a b ha hb, bits_and_word b c hb hc, bits_and_word _ c (bv_word _) hc, bits_and_word a _ ha (bv_word _), BitVec.ofInt_toInt, BitVec.ofInt_toInt, BitVec.and_assoc]
  · simp only [V10]; rw [bits_or_word a b ha hb, bits_or_word b c hb hc, bits_or_word _ c (bv_word _) hc, bits_or_word a _ ha (bv_word _), BitVec.ofInt_toInt, BitVec.ofInt_toInt, BitVec.or_assoc]
  · simp only [V11]; rw [bits_xor_word a b ha hb, bits_xor_word b c hb hc, bits_xor_word _ c (bv_word _) hc, bits_xor_word a _ ha (bv_word _), BitVec.ofInt_toInt, BitVec.ofInt_toInt, BitVec.xor_assoc]
theorem V_comm {op a b : Int} (h : cB op = true) (ha : isW a) (hb : isW b) : V op b a = V op a b := by
  have : op = 0 ∨ op = 2 ∨ op = 6 ∨ op = 7 ∨ op = 8 ∨ op = 9 ∨ op = 10 ∨ op = 11 := by simp [cB] at h; omega
  rcases this with rfl | rfl | rfl | rfl | rfl | rfl | rfl | rfl
  · simp only [V0]; rw [Int.add_comm]
  · simp only [V2]; rw [Int.mul_comm]
  · simp only [V6]; rw [BEq.comm (a := b) (b := a)]
  · simp only [V7]; omega
  · simp only [V8]; omega
  · simp only [V9]; rw [bits_and_word b a hb ha, bits_and_word a b ha hb, BitVec.and_comm]
  · simp only [V10]; rw [bits_or_word b a hb ha, bits_or_word a b ha hb, BitVec.or_comm]
  · simp only [V11]; rw [bits_xor_word b a hb ha, bits_xor_word a b ha hb, BitVec.xor_comm]
theorem V_idem {op a : Int} (h : iB op = true) (ha : isW a) : V op a a = a := by
  have : op = 7 ∨ op = 8 ∨ op = 9 ∨ op = 10 := by simp [iB] at h; omega
  rcases this with rfl | rfl | rfl | rfl
  · simp only [V7]; omega
  · simp only [V8]; omega
  · exact and_self a ha
  · exact or_self a ha
theorem V_nt {op a : Int} (h : aB op = true) (ha : isW a) : V op a (nt op) = a ∧ V op (nt op) a = a := by
  rcases aB_cases h with rfl | rfl | rfl | rfl | rfl | rfl | rfl
  · simp only [V0, nt]; simp [wrap32_of a ha]
  · simp only [V2, nt]; simp [wrap32_of a ha]
  · simp only [V7, nt]; unfold isW at ha; simp; omega
  · simp only [V8, nt]; unfold isW at ha; simp; omega
  · exact ⟨(and_ones a ha).2, (and_ones a ha).1⟩
  · exact ⟨(or_zero a ha).2, (or_zero a ha).1⟩
  · exact ⟨(xor_zero a ha).2.1, (xor_zero a ha).1⟩
/-- three bools lie in a block -/
def Lies3 (W : World) (b : Nat) (x y z : Bool) : Prop := W.cell? ⟨b, 0, none⟩ = some (.bool x) ∧ W.cell? ⟨b, 1, none⟩ = some (.bool y) ∧ W.cell? ⟨b, 2, none⟩ = some (.bool z) ∧ b < W.heap.size
theorem Lies3.below {W W' : World} {b : Nat} {x y z : Bool} (h : Lies3 W b x y z) (hb : Below W.heap.size W W') : Lies3 W' b x y z :=
  ⟨(hb.cell (p := ⟨b, 0, none⟩) h.2.2.2).trans h.1, (hb.cell (p := ⟨b, 1, none⟩) h.2.2.2).trans h.2.1, (hb.cell (p := ⟨b, 2, none⟩) h.2.2.2).trans h.2.2.1, Nat.lt_of_lt_of_le h.2.2.2 hb.size⟩
theorem Lies3.new (W : World) (x y z : Bool) : Lies3 (W.alloc (.cells #[.bool x, .bool y, .bool z] 26)) W.heap.size x y z := ⟨by go_simp, by go_simp, by go_simp, by simp⟩
theorem below_new {W w : World} (h : Below W.heap.size W w) (o : Obj) : Below W.heap.size W (w.alloc o) := h.alloc h.size _
/-- what the walk carries: the struct of the laws, and that nothing below was changed -/
def Carry (w W : World) (b : Nat) (x y z : Bool) : Prop := Below w.heap.size w W ∧ Lies3 W b x y z
theorem Carry.step {w W W' : World} {b : Nat} {x y z : Bool} (h : Carry w W b x y z) (hb : Below W.heap.size W W') : Carry w W' b x y z := ⟨below_step h.1 hb, h.2.below hb⟩
theorem turn_q (n m : Int) (hm : 1 ≤ m) (hm2 : m ≤ 4611686018427387904) (x : Int) (hx : n % m = x) (w : World) : Calls Tryd.prog 38 #[.int .i64 n, .int .i64 m] w fun e w' => e = .returned (.int .i64 x) ∧ w' = w := (turn_any n m hm hm2 w).mono fun _ _ ⟨h1, h2⟩ => ⟨by rw [h1, hx], h2.symm⟩
theorem bword_q (n a : Int) (h : wrap32 n = a) (w : World) : Calls Tryd.prog 36 #[.int .i64 n] w fun e w' => e = .returned (.int .i64 a) ∧ w' = w := (bword_any n w).mono fun _ _ ⟨h1, h2⟩ => ⟨by rw [h1, h], h2.symm⟩
end Go.Proofs.YthbgingclpponaaDoor.wordLawful
