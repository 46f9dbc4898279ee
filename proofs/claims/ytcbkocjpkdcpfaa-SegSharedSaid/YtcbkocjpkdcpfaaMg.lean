/- The groups take all segments. -/
import Derived.Test.YtcbkocjpkdcpfaaTt
namespace Go.Proofs.Ytcbkocjpkdcpfaa
set_option linter.unusedVariables false

theorem wrap_mod4 (x : Int) : IntKind.i64.wrap x % 4 = x % 4 := by
  simp only [IntKind.wrap, IntKind.bits, IntKind.signed]
  first | omega | (simp; omega) | (split <;> omega)
theorem grT_eq (n : Int) (k : Nat) : grT n k = (n + 7 * (k : Int)) % 4 := wrap_mod4 _
theorem gr_step (many n : Int) (h : 0 ≤ many) (k : Nat) : (grK many n (k + 1)).2 ≤ (grK many n k).2 ∧ (grT n k = 3 → (grK many n (k + 1)).2 ≤ max 0 ((grK many n k).2 - 3)) := by
  have h1 := grK_nonneg many n h k
  have h2 := grT_bnd n k
  rw [grK_succ]; unfold grS
  by_cases h0 : 0 < (grK many n k).2
  · rw [if_pos h0]; simp only; omega
  · rw [if_neg h0]; omega
theorem gr_four (many n : Int) (h : 0 ≤ many) (k : Nat) : (grK many n (k + 4)).2 ≤ max 0 ((grK many n k).2 - 3) := by
  have a0 := gr_step many n h k
  have a1 := gr_step many n h (k + 1)
  have a2 := gr_step many n h (k + 1 + 1)
  have a3 := gr_step many n h (k + 1 + 1 + 1)
  have t0 := grT_eq n k
  have t1 := grT_eq n (k + 1)
  have t2 := grT_eq n (k + 1 + 1)
  have t3 := grT_eq n (k + 1 + 1 + 1)
  rw [show k + 4 = k + 1 + 1 + 1 + 1 from rfl]
  simp only [Int.natCast_add, Int.cast_ofNat_Int] at t1 t2 t3
  have hr : n % 4 = 0 ∨ n % 4 = 1 ∨ n % 4 = 2 ∨ n % 4 = 3 := by omega
  have hk : (k : Int) % 4 = 0 ∨ (k : Int) % 4 = 1 ∨ (k : Int) % 4 = 2 ∨ (k : Int) % 4 = 3 := by omega
  have h3 : grT n k = 3 ∨ grT n (k + 1) = 3 ∨ grT n (k + 1 + 1) = 3 ∨ grT n (k + 1 + 1 + 1) = 3 := by
    rw [t0, t1, t2, t3]; omega
  clear t0 t1 t2 t3 hr hk
  generalize grT n k = u0 at *
  generalize grT n (k + 1) = u1 at *
  generalize grT n (k + 1 + 1) = u2 at *
  generalize grT n (k + 1 + 1 + 1) = u3 at *
  rcases h3 with h3 | h3 | h3 | h3
  · have := a0.2 h3; omega
  · have := a1.2 h3; omega
  · have := a2.2 h3; omega
  · have := a3.2 h3; omega
theorem gr_all (many n : Int) (h : 0 ≤ many) (j : Nat) : (grK many n (4 * j)).2 ≤ max 0 (many - 3 * (j : Int)) := by
  induction j with
  | zero => simp [grK]; omega
  | succ j ih =>
    have := gr_four many n h (4 * j)
    rw [show 4 * (j + 1) = 4 * j + 4 by omega]
    omega
theorem gr_end (many n : Int) (h : 0 ≤ many) (h2 : many ≤ 750) : (grK many n 1000).2 = 0 := by
  have h3 := gr_all many n h 250
  have h4 := (grK_nonneg many n h 1000).1
  simp only [Nat.reduceMul] at h3
  omega
end Go.Proofs.Ytcbkocjpkdcpfaa
