/- slices.SortFunc, laid at this program; its closure. -/
import Derived.Shelf.SlSortCmp.WholeK
import Derived.Shelf.SlSortCmp.NoneTotal
import Derived.Ground.SlsfProg
import Derived.StillTailTactics
import Derived.Test.YtcbkocjpkdcpfaaSg
import Derived.Test.YtcbkocjpkdcpfaaShelf
namespace Go.Proofs.Ytcbkocjpkdcpfaa
set_option linter.unusedVariables false
open Go.RowKit Go.Shelf
open Go.Sort (SWO)

def cmpI (a b : Int) : Int := if a < b then -1 else if b < a then 1 else 0
theorem compare_any (a b : Int) (w : World) : Calls Try.prog 68 #[.int .i64 a, .int .i64 b] w fun e w' => e = .returned (.int .i64 (cmpI a b)) ∧ w = w' := by
  by_cases h1 : a < b
  · have hd1 : decide (a < b) = true := by simpa using h1
    have HE := Lib.hid (show cmpI a b = -1 by simp [cmpI, h1])
    go_enter Try.func68, Try.ntmps68
    go_wp2_with (go_at_call 76; refine (isNaN76_any _ _).mono ?_; rintro e w' ⟨rfl, rfl⟩)
    go_ret
    rw [HE.out]; exact ⟨rfl, rfl⟩
  · have hd1 : decide (a < b) = false := by simpa using h1
    by_cases h2 : b < a
    · have hd2 : decide (b < a) = true := by simpa using h2
      have HE := Lib.hid (show cmpI a b = 1 by simp [cmpI, h1, h2])
      go_enter Try.func68, Try.ntmps68
      go_wp2_with (go_at_call 76; refine (isNaN76_any _ _).mono ?_; rintro e w' ⟨rfl, rfl⟩)
      go_ret
      rw [HE.out]; exact ⟨rfl, rfl⟩
    · have hd2 : decide (b < a) = false := by simpa using h2
      have HE := Lib.hid (show cmpI a b = 0 by simp [cmpI, h1, h2])
      go_enter Try.func68, Try.ntmps68
      go_wp2_with (go_at_call 76; refine (isNaN76_any _ _).mono ?_; rintro e w' ⟨rfl, rfl⟩)
      go_ret
      rw [HE.out]; exact ⟨rfl, rfl⟩
theorem compare' (a b : Int) (w : World) : Calls Try.prog 68 #[.int .i64 a, .int .i64 b] w fun e w' => e = .returned (.int .i64 (cmpI a b)) ∧ w' = w := (compare_any a b w).mono fun _ _ ⟨x, y⟩ => ⟨x, y.symm⟩
def orI (a b : Int) : Int := if a = 0 then b else a
theorem or_any (g : Nat) (a b : Int) (w : World) (ha : w.cell? ⟨g, 0, none⟩ = some (.int .i64 a)) (hb : w.cell? ⟨g, 1, none⟩ = some (.int .i64 b)) :
    Calls Try.prog 67 #[.slice (some ⟨g, 0, none⟩) 2 2] w fun e w' => e = .returned (.int .i64 (orI a b)) ∧ w = w' := by
  unfold orI
  by_cases h1 : a = 0
  · subst h1
    by_cases h2 : b = 0
    · subst h2
      go_enter Try.func67, Try.ntmps67
      go_wp2
      refine wp_loop_rounds 3 ?_
      rw [rounds_succ]
      go_wp2
      rw [rounds_succ]
      go_wp2
      rw [rounds_succ]
      go_wp2
      go_ret
      exact ⟨rfl, rfl⟩
    · have hd : (b != 0) = true := by rw [bne_iff_ne]; exact h2
      go_enter Try.func67, Try.ntmps67
      go_wp2
      refine wp_loop_rounds 2 ?_
      rw [rounds_succ]
      go_wp2
      rw [rounds_succ]
      go_wp2
      go_ret
      exact ⟨rfl, rfl⟩
  · have hd : (a != 0) = true := by rw [bne_iff_ne]; exact h1
    go_enter Try.func67, Try.ntmps67
    go_wp2
    refine wp_loop_rounds 1 ?_
    rw [rounds_succ]
    go_wp2
    go_ret
    exact ⟨rfl, rfl⟩

def cfS (x y : Int × Int) : Int := orI (cmpI x.1 y.1) (cmpI x.2 y.2)
def encS (x : Int × Int) : List Value := [.int .i64 x.1, .int .i64 x.2]

set_option maxRecDepth 100000 in
set_option maxHeartbeats 2000000 in
theorem closure66 (x y : Int × Int) (W : World) : Calls Try.prog 66 #[.agg #[.int .i64 x.1, .int .i64 x.2], .agg #[.int .i64 y.1, .int .i64 y.2]] W fun e w' => e = .returned (.int .i64 (cfS x y)) ∧ ∃ q os', w' = Go.Sort.grow (W.drewN q) os' := by
  obtain ⟨a, b⟩ := x
  obtain ⟨c, d⟩ := y
  have HE : Hid (cfS (a, b) (c, d) = orI (cmpI a c) (cmpI b d)) := Lib.hid rfl
  go_enter Try.func66, Try.ntmps66
  go_wp2
  have b1 := (Blk.new W 52 #[.int .i64 a, .int .i64 b]).alloc (.cells #[.int .i64 c, .int .i64 d] 52)
  have b2 := Blk.new (W.alloc (.cells #[.int .i64 a, .int .i64 b] 52)) 52 #[.int .i64 c, .int .i64 d]
  simp only [World.size_alloc] at b2
  obtain ⟨W2, HW2⟩ : ∃ W2, Hid ((W.alloc (.cells #[.int .i64 a, .int .i64 b] 52)).alloc (.cells #[.int .i64 c, .int .i64 d] 52) = W2) := ⟨_, Lib.hid rfl⟩
  rw [HW2.out] at b1 b2 ⊢
  have c1 := b1.cell 0
  have c2 := b1.cell 1
  have c3 := b2.cell 0
  have c4 := b2.cell 1
  simp at c1 c2 c3 c4
  clear b1 b2
  have hmix : Try.prog.follows .mixedOrders = true := by kernel_rfl
  refine wp_region_still_tail 10 hmix (by kernel_rfl) ?_
  simp only [List.take_succ_cons, List.take_zero, List.drop_succ_cons, List.drop_zero]
  still_step
  still_step
  still_step
  still_step
  still_call (compare' _ _ _)
  still_step
  still_step
  still_step
  still_step
  still_call (compare' _ _ _)
  refine wpStill_nil ?_
  change wpList _ _ _ _ _ W2.drew
  obtain ⟨W3, HW3⟩ : ∃ W3, Hid (W2.drew = W3) := ⟨_, Lib.hid rfl⟩
  rw [HW3.out]
  have C3 := or_any W3.heap.size (cmpI a c) (cmpI b d) (W3.alloc (.cells #[.int .i64 (cmpI a c), .int .i64 (cmpI b d)] 3)) (cell2a W3 3 _ _) (cell2b W3 3 _ _)
  clear c1 c2 c3 c4
  go_wp2_with (go_at_call 67; refine C3.mono ?_; rintro e w' ⟨rfl, rfl⟩)
  go_ret
  rw [HE.out]
  refine ⟨rfl, 1, #[.cells #[.int .i64 a, .int .i64 b] 52, .cells #[.int .i64 c, .int .i64 d] 52, .cells #[.int .i64 (cmpI a c), .int .i64 (cmpI b d)] 3], ?_⟩
  rw [← HW3.out, ← HW2.out, Go.Sort.alloc_eq_grow, Go.Sort.alloc_eq_grow, Go.Sort.alloc_eq_grow, Go.Sort.drew_grow, Go.Sort.drew_grow, Go.Sort.grow_grow, Go.Sort.grow_grow]
  rfl
theorem cmpLays66 (blk off size : Nat) (w : World) : CmpLays Try.prog 66 #[] encS 2 cfS blk off size w := fun _ _ _ _ x y => closure66 x y _
theorem ltS (x y : Int × Int) : ltOf cfS x y = decide (x.1 < y.1 ∨ x.1 = y.1 ∧ x.2 < y.2) := by
  unfold ltOf cfS orI cmpI
  by_cases h1 : x.1 < y.1
  · simp [h1]
  · by_cases h2 : y.1 < x.1
    · have : x.1 ≠ y.1 := by omega
      simp [h1, h2, this]
    · have e : x.1 = y.1 := by omega
      by_cases h3 : x.2 < y.2
      · simp [e, h3]
      · by_cases h4 : y.2 < x.2 <;> simp [e, h3, h4]
theorem swoS : SWO (ltOf cfS) where
  irrefl x := by rw [ltS]; simp
  trans x y z h1 h2 := by rw [ltS] at *; simp at *; omega
  ntrans x y z h1 h2 := by rw [ltS] at *; simp at *; omega
end Go.Proofs.Ytcbkocjpkdcpfaa
