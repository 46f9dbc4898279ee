/- groups: lengths that cut segments into groups. -/
import Derived.Test.YtcbkocjpkdcpfaaTl
namespace Go.Proofs.Ytcbkocjpkdcpfaa
set_option linter.unusedVariables false
open Go.RowKit Go.Shelf

/-- What a number chooses in round k. -/
def grT (n : Int) (k : Nat) : Int := IntKind.i64.wrap (n + 7 * (k : Int)) % 4
def grS (n : Int) (k : Nat) (s : List Int × Int) : List Int × Int := if 0 < s.2 then (s.1 ++ [min s.2 (grT n k)], s.2 - min s.2 (grT n k)) else s
def grK (many n : Int) : Nat → List Int × Int
  | 0 => ([], many)
  | k + 1 => grS n k (grK many n k)
theorem grK_succ (many n : Int) (k : Nat) : grK many n (k + 1) = grS n k (grK many n k) := rfl
theorem grT_bnd (n : Int) (k : Nat) : 0 ≤ grT n k ∧ grT n k < 4 := ⟨Int.emod_nonneg _ (by omega), Int.emod_lt_of_pos _ (by omega)⟩
theorem grK_done (many n : Int) (k : Nat) (h : ¬ 0 < (grK many n k).2) : ∀ d, grK many n (k + d) = grK many n k := by
  intro d
  induction d with
  | zero => rfl
  | succ d ih => rw [show k + (d + 1) = (k + d) + 1 from rfl, grK_succ, ih]; unfold grS; rw [if_neg h]
theorem grK_nonneg (many n : Int) (h : 0 ≤ many) (k : Nat) : 0 ≤ (grK many n k).2 ∧ (grK many n k).2 ≤ many := by
  induction k with
  | zero => simp [grK, h]
  | succ k ih =>
    rw [grK_succ]; unfold grS
    have := grT_bnd n k
    by_cases h0 : 0 < (grK many n k).2
    · rw [if_pos h0]; simp only; omega
    · rw [if_neg h0]; exact ih

set_option maxRecDepth 100000 in
set_option maxHeartbeats 400000 in
theorem groups_any (many n : Int) (w : World) (hm : 0 ≤ many) (hm2 : many ≤ 1048576) :
    Calls Try.prog 43 #[.int .i64 many, .int .i64 n] w (fun e w' => ∃ A c, e = .returned (.tuple #[.slice A (grK many n 1000).1.length c, .bool (decide ((grK many n 1000).2 = 0))]) ∧ (grK many n 1000).1.length ≤ c ∧ Sl w' A (grK many n 1000).1 ∧ Below w.heap.size w w') := by
  obtain ⟨i0, hi, hz0, hz1, hz2⟩ := info_parts int_info
  go_enter Try.func43, Try.ntmps43
  go_wp2
  go_loopw [0, 6, 7] (fun t v i wr => ∃ (k : Nat) (L : List Int) (m : Int), k ≤ 1000 ∧ i = .int .i64 k ∧ t = .int .i64 m ∧ Hid (grK many n k = (L, m)) ∧ L.length ≤ k ∧ 0 ≤ m ∧ m ≤ 1048576 ∧ OwnI wr w.heap.size v L ∧ Below w.heap.size w wr) (fun _ _ i _ => 1000 - (intOf i).toNat)
  case atStart => exact ⟨0, [], many, by omega, rfl, rfl, Lib.hid rfl, by simp, hm, hm2, OwnI.empty w _ (Nat.le_refl _), (Below.refl _ _).alloc (Nat.le_refl _) _⟩
  case round =>
    obtain ⟨k, L, m, hk, rfl, rfl, HK, hLl, hm0, hm1, hown, hB⟩ := hrel
    by_cases h0 : 0 < m
    · have hd0 : decide (0 < m) = true := by simpa using h0
      by_cases h1 : k < 1000
      · have hd1 : decide ((k : Int) < 1000) = true := by simp; omega
        have HS : Hid (grK many n (k + 1) = (L ++ [min m (grT n k)], m - min m (grT n k))) := Lib.hid (by rw [grK_succ, HK.out]; unfold grS; rw [if_pos (by exact h0)])
        have hT := grT_bnd n k
        have C1 := fun W => turn_any (IntKind.i64.wrap (n + 7 * (k : Int))) 4 W (by omega) (by omega)
        obtain ⟨y, hy⟩ : ∃ y, grT n k = y := ⟨_, rfl⟩
        rw [show IntKind.i64.wrap (n + 7 * (k : Int)) % 4 = y from hy] at C1
        rw [hy] at HS hT
        have hbsz := hB.size
        have hw7 : IntKind.i64.wrap (7 * (k : Int)) = 7 * (k : Int) := IntWalk.i64_in _ (by omega)
        obtain ⟨z, hz⟩ : ∃ z, IntKind.i64.wrap (n + 7 * (k : Int)) = z := ⟨_, rfl⟩
        rw [hz] at C1
        clear hy
        by_cases h2 : y < m
        · have HS2 : Hid (grK many n (k + 1) = (L ++ [y], m - y)) := Lib.hid (by rw [HS.out, show min m y = y by omega])
          go_wp2_with (first | (go_at_call 42; refine (C1 _).mono ?_; rintro e w' ⟨rfl, rfl⟩) | (at_builtin; refine wpList_append_own _ rfl _ _ 22 rfl w.heap.size 3 i0 (.int .i64 0) 1 8 Try.underlying22 hi hz0 hz1 hz2 rfl (by decide) _ _ _ rfl (hown.alloc _) ⟨wr.heap.size, 0, none⟩ 1 1 [.int .i64 y] rfl rfl (cell_one_new _ _ _) (by simp [Value.oneCell']) (by unfold maxLen; omega) (by omega) (by simp; omega) ?_; intro v' w1 hown' hgrow _; have hB1 := below_append hB hB.size hown hgrow))
          have hown1 := OwnI.snoc hown'
          clear hown' hgrow
          go_roundw
          case rel => exact ⟨k + 1, _, m - y, by omega, by go_num, by go_num, HS2, by simp; omega, by omega, by omega, hown1, hB1⟩
          case measure => simp [intOf]; omega
        · have HS2 : Hid (grK many n (k + 1) = (L ++ [m], 0)) := Lib.hid (by rw [HS.out, show min m y = m by omega, Int.sub_self])
          go_wp2_with (first | (go_at_call 42; refine (C1 _).mono ?_; rintro e w' ⟨rfl, rfl⟩) | (at_builtin; refine wpList_append_own _ rfl _ _ 22 rfl w.heap.size 3 i0 (.int .i64 0) 1 8 Try.underlying22 hi hz0 hz1 hz2 rfl (by decide) _ _ _ rfl (hown.alloc _) ⟨wr.heap.size, 0, none⟩ 1 1 [.int .i64 m] rfl rfl (cell_one_new _ _ _) (by simp [Value.oneCell']) (by unfold maxLen; omega) (by omega) (by simp; omega) ?_; intro v' w1 hown' hgrow _; have hB1 := below_append hB hB.size hown hgrow))
          have hown1 := OwnI.snoc hown'
          clear hown' hgrow
          go_roundw
          case rel => exact ⟨k + 1, _, 0, by omega, by go_num, by go_num, HS2, by simp; omega, by omega, by omega, hown1, hB1⟩
          case measure => simp [intOf]; omega
      · obtain rfl : k = 1000 := by omega
        have hd1 : decide (((1000 : Nat) : Int) < 1000) = false := by simp
        obtain ⟨A', c', rfl, hcc, hsl⟩ := hown.form
        have hd5 : (m == 0) = false := by rw [beq_eq_false_iff_ne]; omega
        have HD : Hid (decide (m = 0) = false) := Lib.hid (by simp; omega)
        go_wp2
        go_ret2
        rw [HK.out]
        simp only [HD.out]
        exact ⟨A', c', rfl, hcc, hsl, hB⟩
    · have hd0 : decide (0 < m) = false := by simpa using h0
      obtain rfl : m = 0 := by omega
      obtain ⟨A', c', rfl, hcc, hsl⟩ := hown.form
      have HK2 : Hid (grK many n 1000 = (L, 0)) := Lib.hid (by
        have := grK_done many n k (by rw [HK.out]; simp) (1000 - k)
        rw [show k + (1000 - k) = 1000 by omega] at this
        rw [this, HK.out])
      go_wp2
      go_ret2
      rw [HK2.out]
      exact ⟨A', c', rfl, hcc, hsl, hB⟩
end Go.Proofs.Ytcbkocjpkdcpfaa
