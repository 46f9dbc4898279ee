/- Plain mathematics: reading of decimal texts. -/
import Derived.Test.YthbgingclpponaaDoorMe
namespace Go.Proofs.YthbgingclpponaaDoor
open Go.RowKit
def isD (b : UInt8) : Prop := 48 ≤ b.toNat ∧ b.toNat ≤ 57
instance (b : UInt8) : Decidable (isD b) := by unfold isD; infer_instance
def stp (n : Nat) (b : UInt8) : Nat := n * 10 + (b.toNat - 48)
def val (l : List UInt8) : Nat := l.foldl stp 0
def numB (l : List UInt8) : Bool := decide (l ≠ [] ∧ (∀ b ∈ l, isD b) ∧ (2 ≤ l.length → l.head? ≠ some 48))
def magB (l : List UInt8) : Bool := numB l && decide (val l ≤ 2147483648)
def tenB (l : List UInt8) : Bool := numB l && decide (l.length ≤ 10)
def magN (l : List UInt8) : Int := if magB l = true then (val l : Int) else 0
def tenN (l : List UInt8) : Int := if tenB l = true then (val l : Int) else 0
theorem val_snoc (l : List UInt8) (b : UInt8) : val (l ++ [b]) = val l * 10 + (b.toNat - 48) := by simp [val, stp]
theorem fold_ge (l : List UInt8) : ∀ n, n * 10 ^ l.length ≤ l.foldl stp n := by
  induction l with
  | nil => intro n; simp
  | cons b t ih =>
    intro n
    have := ih (stp n b)
    have h2 : n * 10 ≤ stp n b := by unfold stp; omega
    have h3 := Nat.mul_le_mul_right (10 ^ t.length) h2
    simp only [List.foldl_cons, List.length_cons, Nat.pow_succ]
    rw [Nat.mul_comm (10 ^ t.length) 10, ← Nat.mul_assoc]; omega
theorem val_append_ge (a b : List UInt8) : val a ≤ val (a ++ b) := by
  unfold val; rw [List.foldl_append]
  have := fold_ge b (a.foldl stp 0)
  have hp : 0 < 10 ^ b.length := Nat.pow_pos (by decide)
  have := Nat.le_mul_of_pos_right (a.foldl stp 0) hp
  omega
theorem val_take_le (l : List UInt8) (k : Nat) : val (l.take k) ≤ val l := by
  have := val_append_ge (l.take k) (l.drop k); rw [List.take_append_drop] at this; exact this
theorem val_head {b : UInt8} {t : List UInt8} (hb : isD b) (h : b ≠ 48) : 10 ^ t.length ≤ val (b :: t) := by
  unfold val; rw [List.foldl_cons]
  have h1 := fold_ge t (stp 0 b)
  have h2 : 1 ≤ stp 0 b := by
    unfold stp isD at *
    have : b.toNat ≠ 48 := fun e => h (by rw [← UInt8.toNat_inj]; simpa using e)
    omega
  have h3 := Nat.mul_le_mul_right (10 ^ t.length) h2
  omega
theorem fold_le (l : List UInt8) (h : ∀ b ∈ l, isD b) : ∀ n, l.foldl stp n + 1 ≤ (n + 1) * 10 ^ l.length := by
  induction l with
  | nil => intro n; simp
  | cons b t ih =>
    intro n
    have hb := h b (by simp)
    have h1 := ih (fun x hx => h x (by simp [hx])) (stp n b)
    have h2 : stp n b + 1 ≤ (n + 1) * 10 := by unfold stp isD at *; omega
    have h3 := Nat.mul_le_mul_right (10 ^ t.length) h2
    simp only [List.foldl_cons, List.length_cons, Nat.pow_succ]
    rw [Nat.mul_comm (10 ^ t.length) 10, ← Nat.mul_assoc]; omega
theorem val_lt (l : List UInt8) (h : ∀ b ∈ l, isD b) : val l < 10 ^ l.length := by have := fold_le l h 0; unfold val; omega
/-- what the two ways of reading agree upon -/
theorem num_short {l : List UInt8} (h : numB l = true) (hv : val l ≤ 2147483648) : l.length ≤ 10 := by
  simp only [numB, decide_eq_true_eq] at h
  obtain ⟨h0, h1, h2⟩ := h
  cases l with
  | nil => simp
  | cons b t =>
    by_cases ht : t = []
    · subst ht; simp
    · have hl : 1 ≤ t.length := by cases t; exact absurd rfl ht; simp
      have := val_head (t := t) (h1 b (by simp)) (by have := h2 (by simp; omega); simpa using this)
      have h4 : t.length < 10 := by
        apply Classical.byContradiction; intro hc
        have := Nat.pow_le_pow_right (n := 10) (by decide) (show 10 ≤ t.length by omega)
        have h10 : (10 : Nat) ^ 10 = 10000000000 := by decide
        omega
      simp; omega
theorem magB_of {l : List UInt8} (h : tenB l = true) (hv : val l ≤ 2147483648) : magB l = true := by
  unfold tenB at h; unfold magB; simp at h ⊢; exact ⟨h.1, hv⟩
theorem tenB_of {l : List UInt8} (h : magB l = true) : tenB l = true := by
  unfold magB at h; unfold tenB; simp at h ⊢; exact ⟨h.1, num_short h.1 h.2⟩
/-- what is read, behind the sign -/
def sg (below : Bool) (n : Nat) : Int := if below = true then -(n : Int) else n
def okB (below : Bool) (d : List UInt8) : Bool := magB d && !(below && decide (val d = 0)) && isWb (sg below (val d))
def prN (below : Bool) (d : List UInt8) : Int := if okB below d = true then sg below (val d) else 0
def prE (below : Bool) (d : List UInt8) : Int := if okB below d = true then 0 else 8
def isNeg (l : List UInt8) : Bool := match l with | 45 :: _ => true | _ => false
def digs (l : List UInt8) : List UInt8 := match l with | 45 :: t => t | l => l
def paN (l : List UInt8) : Int := prN (isNeg l) (digs l)
def paE (l : List UInt8) : Int := prE (isNeg l) (digs l)

/-! ### the text, step by step -/
structure Pre (l : List UInt8) (k : Nat) : Prop where
  le : k ≤ l.length
  dig : ∀ j, j < k → isD (l.getD j 0)
  head : 2 ≤ k → l.getD 0 0 ≠ 48
  small : val (l.take k) ≤ 2147483648
theorem Pre.start (l : List UInt8) : Pre l 0 := ⟨by omega, fun j _ => by omega, by omega, by simp [val]⟩
theorem take_snoc (l : List UInt8) (k : Nat) (h : k < l.length) : l.take (k + 1) = l.take k ++ [l.getD k 0] := by
  rw [List.take_succ_eq_append_getElem h]; simp [List.getD, h]
theorem val_next (l : List UInt8) (k : Nat) (h : k < l.length) : val (l.take (k + 1)) = val (l.take k) * 10 + ((l.getD k 0).toNat - 48) := by rw [take_snoc l k h, val_snoc]
theorem Pre.next {l : List UInt8} {k : Nat} (p : Pre l k) (h : k < l.length) (hd : isD (l.getD k 0)) (hz : ¬ (0 < k ∧ val (l.take k) = 0)) (hs : val (l.take (k + 1)) ≤ 2147483648) : Pre l (k + 1) := by
  refine ⟨by omega, fun j hj => ?_, fun h2 => ?_, hs⟩
  · by_cases e : j = k
    · subst e; exact hd
    · exact p.dig j (by omega)
  · by_cases e : k = 1
    · subst e
      intro hc
      apply hz
      have h1 := val_next l 0 (by omega)
      rw [hc] at h1
      simp [val] at h1 ⊢; exact h1
    · exact p.head (by omega)
theorem Pre.num {l : List UInt8} (p : Pre l l.length) (h : l ≠ []) : magB l = true := by
  have hs := p.small
  rw [List.take_length] at hs
  unfold magB numB
  simp only [Bool.and_eq_true, decide_eq_true_eq]
  refine ⟨⟨h, fun b hb => ?_, fun h2 => ?_⟩, hs⟩
  · obtain ⟨j, hj, rfl⟩ := List.getElem_of_mem hb
    have := p.dig j hj
    simpa [List.getD, hj] using this
  · have := p.head h2
    cases l with
    | nil => exact absurd rfl h
    | cons b t => simpa using this
theorem not_num_digit {l : List UInt8} {k : Nat} (h : k < l.length) (hd : ¬ isD (l.getD k 0)) : numB l = false := by
  rw [← Bool.not_eq_true]; intro hn
  simp only [numB, decide_eq_true_eq] at hn
  apply hd
  have := hn.2.1 l[k] (List.getElem_mem h)
  simpa [List.getD, h] using this
theorem not_num_zero {l : List UInt8} {k : Nat} (p : Pre l k) (h : k < l.length) (hz : 0 < k ∧ val (l.take k) = 0) : numB l = false := by
  rw [← Bool.not_eq_true]; intro hn
  simp only [numB, decide_eq_true_eq] at hn
  have h2 := hn.2.2 (by omega)
  cases l with
  | nil => simp at h
  | cons b t =>
    have hb : b ≠ 48 := by simpa using h2
    have hd := hn.2.1 b (by simp)
    obtain ⟨m, rfl⟩ : ∃ m, k = m + 1 := ⟨k - 1, by omega⟩
    have h3 := val_head (t := t.take m) hd hb
    have hp : 0 < 10 ^ (t.take m).length := Nat.pow_pos (by decide)
    have h4 := hz.2
    simp only [List.take_succ_cons] at h4
    omega
theorem magB_not_num {l : List UInt8} (h : numB l = false) : magB l = false := by simp [magB, h]
theorem magB_big {l : List UInt8} {k : Nat} (h : 2147483648 < val (l.take k)) : magB l = false := by
  have := val_take_le l k
  simp [magB]; intro _; omega
end Go.Proofs.YthbgingclpponaaDoor
