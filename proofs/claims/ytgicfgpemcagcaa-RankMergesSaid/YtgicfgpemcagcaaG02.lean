/- Walks and mathematics of rank, part 2. -/
import Derived.Test.YtgicfgpemcagcaaRows
import Derived.Test.YtgicfgpemcagcaaG01
import Derived.ProofKit
import Derived.OpenShut
import Derived.Test.YtgicfgpemcagcaaProg
import Derived.WalkKit
import Derived.Laws.EntriesVeiled
import Derived.Deep.QuietTactic
import Derived.BigQuiet
import Derived.Lib.Hide
import Derived.Deep.RegionHeld3
/- A slice of ints that came in, as this seat's walks take it. -/
namespace Go.Proofs.Ytgicfgpemcagcaa
open Go.ChangeShapes Go.WideShapes Go.ChangeAt Go.RowKit
set_option linter.unusedVariables false
set_option maxRecDepth 100000

theorem Try.own : ownKnob Try.prog.godebug = none := by kernel_rfl
theorem Try.laidOut : laidOutB Try.prog = true := by kernel_rfl
theorem cells3 : Try.prog.cellsOf 3 = 1 := by kernel_rfl
theorem open_sl {H : Type} {enc : TypeId × Value → H} {W : World} {r : Reach} {b0 : Nat} {v : Value} {d : DataW H} {p : List MemPlace} (hval : Value.okWide Try.prog W r b0 22 v)
    (h : DataW.Trod enc Try.prog W 0 (fun _ => true) true 22 v d p) (hlt : ∀ x ∈ p, x.block < W.heap.size) :
    ∃ (A : Option Addr) (c : Nat) (zs : List Int), v = .slice A zs.length c ∧ zs.length ≤ c ∧ c ≤ 9223372036854775807 ∧ Sl W A zs ∧ ∀ j, j < zs.length → -9223372036854775808 ≤ nth zs j ∧ nth zs j ≤ 9223372036854775807 := by
  obtain ⟨a0, len, cap, rfl⟩ := okWide_slice Try.underlying22 hval
  obtain ⟨fuel, hf⟩ := h
  rcases open_ints Try.underlying22 Try.underlying3 cells3 hf with ⟨hcs, hx⟩ | ⟨a, len', cap', zs, hcs, _, hl, hm, hz, hx, hcell, hwz⟩
  · simp [Value.cells] at hcs
    obtain ⟨rfl, rfl, rfl⟩ := hcs
    exact ⟨none, 0, [], rfl, Nat.le_refl _, by omega, Sl.nil _ _, fun j hj => absurd hj (by simp)⟩
  · simp [Value.cells] at hcs
    obtain ⟨rfl, rfl, rfl⟩ := hcs
    simp only [Prod.mk.injEq] at hx
    obtain ⟨rfl, rfl⟩ := hx
    simp only [if_true] at hz
    have hlen : (zs.take len).length = len := by rw [List.length_take]; omega
    have hn : ∀ j, j < len → nth (zs.take len) j = zs.getD j 0 := fun j hj => by
      unfold nth
      rw [List.getD_eq_getElem?_getD, List.getElem?_take, if_pos hj, List.getD_eq_getElem?_getD]
    refine ⟨some a, cap, zs.take len, by rw [hlen], by rw [hlen]; exact hl, by simpa [maxLen] using hm, fun h0 => ?_, fun j hj => ?_⟩
    · rw [hlen] at h0
      have c0 := hcell 0 (by omega)
      have hs := World.cell?_spot c0
      obtain ⟨b, off, spot⟩ := a
      have hsp : spot = none := by simpa [Addr.add] using hs
      subst hsp
      refine ⟨b, off, rfl, hlt (.cell b off) (MemPlace.mem_row.2 ⟨0, by omega, by simp⟩), fun j hj => ?_⟩
      rw [hlen] at hj
      have := hcell j (by omega)
      rw [hn j hj]
      have he : (⟨b, off, none⟩ : Addr).add j = ⟨b, off + j, none⟩ := by unfold Addr.add; split <;> simp_all
      rwa [he] at this
    · rw [hlen] at hj
      rw [hn j hj]
      have hw := hwz (zs.getD j 0) (by
        rw [List.getD_eq_getElem?_getD, List.getElem?_eq_getElem (by omega : j < zs.length)]
        exact List.getElem_mem _)
      simp [Lit.wf, IntKind.min, IntKind.max, IntKind.signed, IntKind.bits] at hw
      simp
      omega
end Go.Proofs.Ytgicfgpemcagcaa
/- Walks, part a: small functions (numbers in, numbers or bools out). -/
namespace Go.Proofs.Ytgicfgpemcagcaa
open Go.RowKit

theorem ret_int {k : IntKind} {a b : Int} (h : a = b) : Ending.returned (.int k a) = .returned (.int k b) := by rw [h]
theorem ret_bool {a b : Bool} (h : a = b) : Ending.returned (.bool a) = .returned (.bool b) := by rw [h]
theorem below_step {W w1 w2 : World} (h1 : Below W.heap.size W w1) (h2 : Below w1.heap.size w1 w2) : Below W.heap.size W w2 := h1.trans (h2.mono h1.size)
theorem below_drewN {W w1 : World} (h1 : Below W.heap.size W w1) (n : Nat) : Below W.heap.size W (w1.drewN n) := h1.trans ⟨rfl, rfl, rfl, Nat.le_refl _, fun _ _ => rfl⟩

/-! ### wrap, B.Word -/
theorem bword_any (n : Int) (w : World) : Calls Try.prog 67 #[.int .i64 n] w fun e w' => e = .returned (.int .i64 (wrap32 n)) ∧ w = w' := by
  go_enter Try.func67, Try.ntmps67
  go_wp2
  go_ret
  exact ⟨ret_int ((congrArg wrap64 (wrap32_u n)).trans (wrap64_word _ (wrap32_word n))), rfl⟩

/-! ### tests -/
theorem is_any (n : Int) (w : World) : Calls Try.prog 76 #[.int .i64 n] w fun e w' => e = .returned (.bool (isWb n)) ∧ w = w' := by
  go_enter Try.func76, Try.ntmps76
  go_wp2
  all_goals (go_ret; refine ⟨ret_bool ?_, rfl⟩; unfold isWb; rw [Bool.eq_iff_iff]; simp; try omega)
theorem lies_any (n lo hi : Int) (w : World) : Calls Try.prog 39 #[.int .i64 n, .int .i64 lo, .int .i64 hi] w fun e w' => e = .returned (.bool (decide (lo ≤ n ∧ n ≤ hi))) ∧ w = w' := by
  go_enter Try.func39, Try.ntmps39
  go_wp2
  all_goals (go_ret; refine ⟨ret_bool ?_, rfl⟩; rw [Bool.eq_iff_iff]; simp; try omega)
theorem isword_any (n : Int) (w : World) : Calls Try.prog 79 #[.int .i64 n] w fun e w' => e = .returned (.bool (isWb n)) ∧ w = w' := by
  go_enter Try.func79, Try.ntmps79
  go_wp2_with (go_at_call 39; refine (lies_any _ _ _ _).mono ?_; rintro e w' ⟨rfl, rfl⟩)
  all_goals (go_ret; exact ⟨ret_bool (by unfold isWb; rw [Bool.eq_iff_iff]; simp), rfl⟩)
theorem turn_any (n m : Int) (hm : 1 ≤ m) (hm2 : m ≤ 4611686018427387904) (w : World) : Calls Try.prog 33 #[.int .i64 n, .int .i64 m] w fun e w' => e = .returned (.int .i64 (n % m)) ∧ w = w' := by
  have hm0 : ¬ m < 1 := by omega
  have hm1 : m ≠ 0 := by omega
  have hr : n.tmod m = n % m ∨ (n.tmod m + m = n % m ∧ n.tmod m < 0) := by
    have h1 := Int.tmod_eq_emod (a := n) (b := m)
    have h2 := Int.emod_nonneg n hm1
    by_cases h : 0 ≤ n ∨ m ∣ n
    · rw [if_pos h] at h1; left; omega
    · rw [if_neg h] at h1
      have h3 := Int.emod_lt_of_pos n (show 0 < m by omega)
      right; omega
  have hlo := Int.lt_tmod_of_pos n (show 0 < m by omega)
  have hhi := Int.tmod_lt_of_pos n (show 0 < m by omega)
  have hnn := Int.emod_nonneg n hm1
  by_cases hneg : n.tmod m < 0
  · have hr' : n.tmod m + m = n % m := by omega
    have HR := Lib.hid hr'; clear hr hr'
    go_enter Try.func33, Try.ntmps33
    go_wp2
    go_ret
    exact ⟨ret_int HR.out, rfl⟩
  · have hr' : n.tmod m = n % m := by omega
    have HR := Lib.hid hr'; clear hr hr'
    go_enter Try.func33, Try.ntmps33
    go_wp2
    go_ret
    exact ⟨ret_int HR.out, rfl⟩
end Go.Proofs.Ytgicfgpemcagcaa
/- Walks, part b: the operations on two words, in the program and in the specification; Do. -/
namespace Go.Proofs.Ytgicfgpemcagcaa
open Go.RowKit

/-- the call returned x; below the call's own blocks nothing has turned -/
def Ret (x : Value) (w : World) (e : Ending) (w' : World) : Prop := e = .returned x ∧ Below w.heap.size w w'
theorem Ret.mk {x y : Value} {w w' : World} (h : x = y) (hb : Below w.heap.size w w') : Ret y w (.returned x) w' := ⟨by rw [h], hb⟩

abbrev I (n : Int) : Value := .int .i64 n
abbrev pr (a b : Int) : Value := .agg #[.int .i64 a, .int .i64 b]

theorem mul_word_bound (a b : Int) (ha : isW a) (hb : isW b) : -4611686018427387904 ≤ a * b ∧ a * b ≤ 4611686018427387904 := by
  unfold isW at ha hb
  have h1 : (a * b).natAbs ≤ 2147483648 * 2147483648 := by rw [Int.natAbs_mul]; exact Nat.mul_le_mul (by omega) (by omega)
  omega
theorem pair_keep {w W w1 : World} {a b : Int} (hS : W.cell? ⟨w.heap.size, 0, none⟩ = some (.int .i64 a) ∧ W.cell? ⟨w.heap.size, 1, none⟩ = some (.int .i64 b) ∧ Below w.heap.size w W ∧ w.heap.size < W.heap.size) (hb : Below W.heap.size W w1) :
    w1.cell? ⟨w.heap.size, 0, none⟩ = some (.int .i64 a) ∧ w1.cell? ⟨w.heap.size, 1, none⟩ = some (.int .i64 b) ∧ Below w.heap.size w w1 ∧ w.heap.size < w1.heap.size :=
  ⟨(hb.cell hS.2.2.2).trans hS.1, (hb.cell hS.2.2.2).trans hS.2.1, below_step hS.2.2.1 hb, Nat.lt_of_lt_of_le hS.2.2.2 hb.size⟩
theorem pair_drew {w W : World} {a b : Int} (hS : W.cell? ⟨w.heap.size, 0, none⟩ = some (.int .i64 a) ∧ W.cell? ⟨w.heap.size, 1, none⟩ = some (.int .i64 b) ∧ Below w.heap.size w W ∧ w.heap.size < W.heap.size) :
    W.drew.cell? ⟨w.heap.size, 0, none⟩ = some (.int .i64 a) ∧ W.drew.cell? ⟨w.heap.size, 1, none⟩ = some (.int .i64 b) ∧ Below w.heap.size w W.drew ∧ w.heap.size < W.drew.heap.size :=
  ⟨hS.1, hS.2.1, hS.2.2.1.drew, hS.2.2.2⟩
/-! ### 'value': the table of method expressions -/
end Go.Proofs.Ytgicfgpemcagcaa
