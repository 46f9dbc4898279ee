/- Walks, part b: the operations on two words, in the program and in the specification; Do. -/
import Derived.Test.YtecpanppnljkhaaGreatDoorWa
import Derived.Deep.RegionHeld3
namespace Go.Proofs.YtecpanppnljkhaaGreatDoor
open Go.RowKit

/-- the call returned x; below the call's own blocks nothing has turned -/
def Ret (x : Value) (w : World) (e : Ending) (w' : World) : Prop := e = .returned x ∧ Below w.heap.size w w'
theorem Ret.mk {x y : Value} {w w' : World} (h : x = y) (hb : Below w.heap.size w w') : Ret y w (.returned x) w' := ⟨by rw [h], hb⟩

abbrev I (n : Int) : Value := .int .i64 n
abbrev pr (a b : Int) : Value := .agg #[.int .i64 a, .int .i64 b]

theorem sum_any (a b : Int) (ha : isW a) (hb : isW b) (w : World) : Calls Tryz.prog 114 #[.agg #[.int .i64 a, .int .i64 b]] w (Ret (.int .i64 (a + b)) w) := by
  unfold isW at ha hb
  go_enter Tryz.func114, Tryz.ntmps114
  go_wp2
  go_ret
  exact ⟨rfl, (Below.refl _ _).alloc (Nat.le_refl _) _⟩
theorem difference_any (a b : Int) (ha : isW a) (hb : isW b) (w : World) : Calls Tryz.prog 115 #[.agg #[.int .i64 a, .int .i64 b]] w (Ret (.int .i64 (a - b)) w) := by
  unfold isW at ha hb
  go_enter Tryz.func115, Tryz.ntmps115
  go_wp2
  go_ret
  exact ⟨rfl, (Below.refl _ _).alloc (Nat.le_refl _) _⟩
theorem mul_word_bound (a b : Int) (ha : isW a) (hb : isW b) : -4611686018427387904 ≤ a * b ∧ a * b ≤ 4611686018427387904 := by
  unfold isW at ha hb
  have h1 : (a * b).natAbs ≤ 2147483648 * 2147483648 := by rw [Int.natAbs_mul]; exact Nat.mul_le_mul (by omega) (by omega)
  omega
theorem product_any (a b : Int) (ha : isW a) (hb : isW b) (w : World) : Calls Tryz.prog 116 #[.agg #[.int .i64 a, .int .i64 b]] w (Ret (.int .i64 (a * b)) w) := by
  have hm := mul_word_bound a b ha hb
  go_enter Tryz.func116, Tryz.ntmps116
  go_wp2
  go_ret
  exact ⟨rfl, (Below.refl _ _).alloc (Nat.le_refl _) _⟩
theorem quotient_any (a b : Int) (ha : isW a) (h0 : b ≠ 0) (w : World) : Calls Tryz.prog 117 #[.agg #[.int .i64 a, .int .i64 b]] w (Ret (.int .i64 (a.fdiv b)) w) := by
  have ht := tdiv_bound a b ha
  have HQ := Lib.hid (quo_floor a b h0)
  go_enter Tryz.func117, Tryz.ntmps117
  go_wp2
  go_quiet (fail)
  go_wp2
  all_goals
    go_ret
    refine Ret.mk ?_ (below_drewN (by exact (Below.refl _ _).alloc (Nat.le_refl _) _) _)
    rw [HQ.out]
    simp_all
theorem both_any (a b : Int) (w : World) : Calls Tryz.prog 123 #[.agg #[.int .i64 a, .int .i64 b]] w (Ret (.int .i64 (bits .and .i64 a b)) w) := by
  go_enter Tryz.func123, Tryz.ntmps123
  go_wp2
  go_ret
  exact ⟨rfl, (Below.refl _ _).alloc (Nat.le_refl _) _⟩
theorem some_any (a b : Int) (w : World) : Calls Tryz.prog 124 #[.agg #[.int .i64 a, .int .i64 b]] w (Ret (.int .i64 (bits .or .i64 a b)) w) := by
  go_enter Tryz.func124, Tryz.ntmps124
  go_wp2
  go_ret
  exact ⟨rfl, (Below.refl _ _).alloc (Nat.le_refl _) _⟩
theorem one_any (a b : Int) (w : World) : Calls Tryz.prog 125 #[.agg #[.int .i64 a, .int .i64 b]] w (Ret (.int .i64 (bits .xor .i64 a b)) w) := by
  go_enter Tryz.func125, Tryz.ntmps125
  go_wp2
  go_ret
  exact ⟨rfl, (Below.refl _ _).alloc (Nat.le_refl _) _⟩
theorem least_any (a b : Int) (w : World) : Calls Tryz.prog 121 #[.agg #[.int .i64 a, .int .i64 b]] w (Ret (.int .i64 (min a b)) w) := by
  go_enter Tryz.func121, Tryz.ntmps121
  go_wp2
  all_goals (go_ret; exact ⟨ret_int (by omega), (Below.refl _ _).alloc (Nat.le_refl _) _⟩)
theorem most_any (a b : Int) (w : World) : Calls Tryz.prog 122 #[.agg #[.int .i64 a, .int .i64 b]] w (Ret (.int .i64 (max a b)) w) := by
  go_enter Tryz.func122, Tryz.ntmps122
  go_wp2
  all_goals (go_ret; exact ⟨ret_int (by omega), (Below.refl _ _).alloc (Nat.le_refl _) _⟩)
theorem less_any (a b : Int) (w : World) : Calls Tryz.prog 119 #[.agg #[.int .i64 a, .int .i64 b]] w (Ret (.int .i64 (tint (decide (a < b)))) w) := by
  go_enter Tryz.func119, Tryz.ntmps119
  go_wp2_with (go_at_call 128; refine (truth_any _ _).mono ?_; rintro e w' ⟨rfl, rfl⟩)
  all_goals (go_ret; exact ⟨rfl, (Below.refl _ _).alloc (Nat.le_refl _) _⟩)
theorem same_any (a b : Int) (w : World) : Calls Tryz.prog 120 #[.agg #[.int .i64 a, .int .i64 b]] w (Ret (.int .i64 (tint (a == b))) w) := by
  go_enter Tryz.func120, Tryz.ntmps120
  go_wp2_with (go_at_call 128; refine (truth_any _ _).mono ?_; rintro e w' ⟨rfl, rfl⟩)
  all_goals (go_ret; exact ⟨rfl, (Below.refl _ _).alloc (Nat.le_refl _) _⟩)
theorem pair_keep {w W w1 : World} {a b : Int} (hS : W.cell? ⟨w.heap.size, 0, none⟩ = some (.int .i64 a) ∧ W.cell? ⟨w.heap.size, 1, none⟩ = some (.int .i64 b) ∧ Below w.heap.size w W ∧ w.heap.size < W.heap.size) (hb : Below W.heap.size W w1) :
    w1.cell? ⟨w.heap.size, 0, none⟩ = some (.int .i64 a) ∧ w1.cell? ⟨w.heap.size, 1, none⟩ = some (.int .i64 b) ∧ Below w.heap.size w w1 ∧ w.heap.size < w1.heap.size :=
  ⟨(hb.cell hS.2.2.2).trans hS.1, (hb.cell hS.2.2.2).trans hS.2.1, below_step hS.2.2.1 hb, Nat.lt_of_lt_of_le hS.2.2.2 hb.size⟩
theorem pair_drew {w W : World} {a b : Int} (hS : W.cell? ⟨w.heap.size, 0, none⟩ = some (.int .i64 a) ∧ W.cell? ⟨w.heap.size, 1, none⟩ = some (.int .i64 b) ∧ Below w.heap.size w W ∧ w.heap.size < W.heap.size) :
    W.drew.cell? ⟨w.heap.size, 0, none⟩ = some (.int .i64 a) ∧ W.drew.cell? ⟨w.heap.size, 1, none⟩ = some (.int .i64 b) ∧ Below w.heap.size w W.drew ∧ w.heap.size < W.drew.heap.size :=
  ⟨hS.1, hS.2.1, hS.2.2.1.drew, hS.2.2.2⟩
theorem remainder_any (a b : Int) (ha : isW a) (hb : isW b) (h0 : b ≠ 0) (w : World) : Calls Tryz.prog 118 #[.agg #[.int .i64 a, .int .i64 b]] w (Ret (.int .i64 (a.fmod b)) w) := by
  have hm := mul_fdiv_bound a b ha hb h0
  have HF := Lib.hid (fmod_rem a b)
  have HA := Lib.hid ha
  unfold isW at ha hb
  have hS0 : (w.alloc (.cells #[.int .i64 a, .int .i64 b] 138)).cell? ⟨w.heap.size, 0, none⟩ = some (.int .i64 a) ∧ (w.alloc (.cells #[.int .i64 a, .int .i64 b] 138)).cell? ⟨w.heap.size, 1, none⟩ = some (.int .i64 b) ∧ Below w.heap.size w (w.alloc (.cells #[.int .i64 a, .int .i64 b] 138)) ∧ w.heap.size < (w.alloc (.cells #[.int .i64 a, .int .i64 b] 138)).heap.size :=
    ⟨by go_simp, by go_simp, (Below.refl _ _).alloc (Nat.le_refl _) _, by simp⟩
  have HS := Lib.hid hS0
  clear hS0
  go_enter Tryz.func118, Tryz.ntmps118
  go_wp2
  have hS1 := HS.out
  go_region_held3 (fun w' => w'.cell? ⟨w.heap.size, 0, none⟩ = some (.int .i64 a) ∧ w'.cell? ⟨w.heap.size, 1, none⟩ = some (.int .i64 b) ∧ Below w.heap.size w w' ∧ w.heap.size < w'.heap.size)
    (first | assumption | exact pair_drew (by assumption) | exact pair_keep (by assumption) (by assumption))
    (first | (go_at_call 117; refine (quotient_any _ _ HA.out h0 _).mono ?_; rintro e w1 ⟨rfl, hb1⟩))
  rename_i hH
  go_wp2
  go_ret
  exact ⟨ret_int (by rw [IntWalk.i64_in (b * a.fdiv b) (by omega), IntWalk.i64_in _ (by omega), HF.out]), hH.2.2.1⟩

/-! ### 'value': the table of method expressions -/
theorem value0 (a b : Int) (ha : isW a) (hb : isW b) (ht : trapsb 0 b = false) (w : World) : Calls Tryz.prog 108 #[.int .i64 0, .int .i64 a, .int .i64 b] w (Ret (.int .i64 (V 0 a b)) w) := by
  have HV : Hid (wrap32 (a + b) = V 0 a b) := Lib.hid (by
    have hw := V_word 0 a b ha hb ht
    rw [V0] at hw ⊢)
  clear ht
  go_enter Tryz.func108, Tryz.ntmps108
  go_wp2_with fail
  refine (sum_any a b ha hb _).mono ?_
  rintro e w1 ⟨rfl, hb1⟩
  go_wp2_with (go_at_call 126; refine (wrap_any _ _).mono ?_; rintro e w2 ⟨rfl, rfl⟩)
  go_ret
  exact ⟨ret_int HV.out, below_step ((Below.refl _ _).alloc (Nat.le_refl _) _) hb1⟩
theorem value1 (a b : Int) (ha : isW a) (hb : isW b) (ht : trapsb 1 b = false) (w : World) : Calls Tryz.prog 108 #[.int .i64 1, .int .i64 a, .int .i64 b] w (Ret (.int .i64 (V 1 a b)) w) := by
  have HV : Hid (wrap32 (a - b) = V 1 a b) := Lib.hid (by
    have hw := V_word 1 a b ha hb ht
    rw [V1] at hw ⊢)
  clear ht
  go_enter Tryz.func108, Tryz.ntmps108
  go_wp2_with fail
  refine (difference_any a b ha hb _).mono ?_
  rintro e w1 ⟨rfl, hb1⟩
  go_wp2_with (go_at_call 126; refine (wrap_any _ _).mono ?_; rintro e w2 ⟨rfl, rfl⟩)
  go_ret
  exact ⟨ret_int HV.out, below_step ((Below.refl _ _).alloc (Nat.le_refl _) _) hb1⟩
theorem value2 (a b : Int) (ha : isW a) (hb : isW b) (ht : trapsb 2 b = false) (w : World) : Calls Tryz.prog 108 #[.int .i64 2, .int .i64 a, .int .i64 b] w (Ret (.int .i64 (V 2 a b)) w) := by
  have HV : Hid (wrap32 (a * b) = V 2 a b) := Lib.hid (by
    have hw := V_word 2 a b ha hb ht
    rw [V2] at hw ⊢)
  clear ht
  go_enter Tryz.func108, Tryz.ntmps108
  go_wp2_with fail
  refine (product_any a b ha hb _).mono ?_
  rintro e w1 ⟨rfl, hb1⟩
  go_wp2_with (go_at_call 126; refine (wrap_any _ _).mono ?_; rintro e w2 ⟨rfl, rfl⟩)
  go_ret
  exact ⟨ret_int HV.out, below_step ((Below.refl _ _).alloc (Nat.le_refl _) _) hb1⟩
theorem value3 (a b : Int) (ha : isW a) (hb : isW b) (ht : trapsb 3 b = false) (w : World) : Calls Tryz.prog 108 #[.int .i64 3, .int .i64 a, .int .i64 b] w (Ret (.int .i64 (V 3 a b)) w) := by
  have HV : Hid (wrap32 (a.fdiv b) = V 3 a b) := Lib.hid (by
    have hw := V_word 3 a b ha hb ht
    rw [V3] at hw ⊢)
  have h0 : b ≠ 0 := trap_ne ht (by decide)
  clear ht
  go_enter Tryz.func108, Tryz.ntmps108
  go_wp2_with fail
  refine (quotient_any a b ha h0 _).mono ?_
  rintro e w1 ⟨rfl, hb1⟩
  go_wp2_with (go_at_call 126; refine (wrap_any _ _).mono ?_; rintro e w2 ⟨rfl, rfl⟩)
  go_ret
  exact ⟨ret_int HV.out, below_step ((Below.refl _ _).alloc (Nat.le_refl _) _) hb1⟩
theorem value4 (a b : Int) (ha : isW a) (hb : isW b) (ht : trapsb 4 b = false) (w : World) : Calls Tryz.prog 108 #[.int .i64 4, .int .i64 a, .int .i64 b] w (Ret (.int .i64 (V 4 a b)) w) := by
  have HV : Hid (wrap32 (a.fmod b) = V 4 a b) := Lib.hid (by
    have hw := V_word 4 a b ha hb ht
    rw [V4] at hw ⊢
    try exact wrap32_of _ hw)
  have h0 : b ≠ 0 := trap_ne ht (by decide)
  clear ht
  go_enter Tryz.func108, Tryz.ntmps108
  go_wp2_with fail
  refine (remainder_any a b ha hb h0 _).mono ?_
  rintro e w1 ⟨rfl, hb1⟩
  go_wp2_with (go_at_call 126; refine (wrap_any _ _).mono ?_; rintro e w2 ⟨rfl, rfl⟩)
  go_ret
  exact ⟨ret_int HV.out, below_step ((Below.refl _ _).alloc (Nat.le_refl _) _) hb1⟩
theorem value5 (a b : Int) (ha : isW a) (hb : isW b) (ht : trapsb 5 b = false) (w : World) : Calls Tryz.prog 108 #[.int .i64 5, .int .i64 a, .int .i64 b] w (Ret (.int .i64 (V 5 a b)) w) := by
  have HV : Hid (wrap32 (tint (decide (a < b))) = V 5 a b) := Lib.hid (by
    have hw := V_word 5 a b ha hb ht
    rw [V5] at hw ⊢
    try exact wrap32_of _ hw)
  clear ht
  go_enter Tryz.func108, Tryz.ntmps108
  go_wp2_with fail
  refine (less_any a b _).mono ?_
  rintro e w1 ⟨rfl, hb1⟩
  go_wp2_with (go_at_call 126; refine (wrap_any _ _).mono ?_; rintro e w2 ⟨rfl, rfl⟩)
  go_ret
  exact ⟨ret_int HV.out, below_step ((Below.refl _ _).alloc (Nat.le_refl _) _) hb1⟩
theorem value6 (a b : Int) (ha : isW a) (hb : isW b) (ht : trapsb 6 b = false) (w : World) : Calls Tryz.prog 108 #[.int .i64 6, .int .i64 a, .int .i64 b] w (Ret (.int .i64 (V 6 a b)) w) := by
  have HV : Hid (wrap32 (tint (a == b)) = V 6 a b) := Lib.hid (by
    have hw := V_word 6 a b ha hb ht
    rw [V6] at hw ⊢
    try exact wrap32_of _ hw)
  clear ht
  go_enter Tryz.func108, Tryz.ntmps108
  go_wp2_with fail
  refine (same_any a b _).mono ?_
  rintro e w1 ⟨rfl, hb1⟩
  go_wp2_with (go_at_call 126; refine (wrap_any _ _).mono ?_; rintro e w2 ⟨rfl, rfl⟩)
  go_ret
  exact ⟨ret_int HV.out, below_step ((Below.refl _ _).alloc (Nat.le_refl _) _) hb1⟩
theorem value7 (a b : Int) (ha : isW a) (hb : isW b) (ht : trapsb 7 b = false) (w : World) : Calls Tryz.prog 108 #[.int .i64 7, .int .i64 a, .int .i64 b] w (Ret (.int .i64 (V 7 a b)) w) := by
  have HV : Hid (wrap32 (min a b) = V 7 a b) := Lib.hid (by
    have hw := V_word 7 a b ha hb ht
    rw [V7] at hw ⊢
    try exact wrap32_of _ hw)
  clear ht
  go_enter Tryz.func108, Tryz.ntmps108
  go_wp2_with fail
  refine (least_any a b _).mono ?_
  rintro e w1 ⟨rfl, hb1⟩
  go_wp2_with (go_at_call 126; refine (wrap_any _ _).mono ?_; rintro e w2 ⟨rfl, rfl⟩)
  go_ret
  exact ⟨ret_int HV.out, below_step ((Below.refl _ _).alloc (Nat.le_refl _) _) hb1⟩
theorem value8 (a b : Int) (ha : isW a) (hb : isW b) (ht : trapsb 8 b = false) (w : World) : Calls Tryz.prog 108 #[.int .i64 8, .int .i64 a, .int .i64 b] w (Ret (.int .i64 (V 8 a b)) w) := by
  have HV : Hid (wrap32 (max a b) = V 8 a b) := Lib.hid (by
    have hw := V_word 8 a b ha hb ht
    rw [V8] at hw ⊢
    try exact wrap32_of _ hw)
  clear ht
  go_enter Tryz.func108, Tryz.ntmps108
  go_wp2_with fail
  refine (most_any a b _).mono ?_
  rintro e w1 ⟨rfl, hb1⟩
  go_wp2_with (go_at_call 126; refine (wrap_any _ _).mono ?_; rintro e w2 ⟨rfl, rfl⟩)
  go_ret
  exact ⟨ret_int HV.out, below_step ((Below.refl _ _).alloc (Nat.le_refl _) _) hb1⟩
theorem value9 (a b : Int) (ha : isW a) (hb : isW b) (ht : trapsb 9 b = false) (w : World) : Calls Tryz.prog 108 #[.int .i64 9, .int .i64 a, .int .i64 b] w (Ret (.int .i64 (V 9 a b)) w) := by
  have HV : Hid (wrap32 (bits .and .i64 a b) = V 9 a b) := Lib.hid (by
    have hw := V_word 9 a b ha hb ht
    rw [V9] at hw ⊢
    try exact wrap32_of _ hw)
  clear ht
  go_enter Tryz.func108, Tryz.ntmps108
  go_wp2_with fail
  refine (both_any a b _).mono ?_
  rintro e w1 ⟨rfl, hb1⟩
  go_wp2_with (go_at_call 126; refine (wrap_any _ _).mono ?_; rintro e w2 ⟨rfl, rfl⟩)
  go_ret
  exact ⟨ret_int HV.out, below_step ((Below.refl _ _).alloc (Nat.le_refl _) _) hb1⟩
theorem value10 (a b : Int) (ha : isW a) (hb : isW b) (ht : trapsb 10 b = false) (w : World) : Calls Tryz.prog 108 #[.int .i64 10, .int .i64 a, .int .i64 b] w (Ret (.int .i64 (V 10 a b)) w) := by
  have HV : Hid (wrap32 (bits .or .i64 a b) = V 10 a b) := Lib.hid (by
    have hw := V_word 10 a b ha hb ht
    rw [V10] at hw ⊢
    try exact wrap32_of _ hw)
  clear ht
  go_enter Tryz.func108, Tryz.ntmps108
  go_wp2_with fail
  refine (some_any a b _).mono ?_
  rintro e w1 ⟨rfl, hb1⟩
  go_wp2_with (go_at_call 126; refine (wrap_any _ _).mono ?_; rintro e w2 ⟨rfl, rfl⟩)
  go_ret
  exact ⟨ret_int HV.out, below_step ((Below.refl _ _).alloc (Nat.le_refl _) _) hb1⟩
theorem value11 (a b : Int) (ha : isW a) (hb : isW b) (ht : trapsb 11 b = false) (w : World) : Calls Tryz.prog 108 #[.int .i64 11, .int .i64 a, .int .i64 b] w (Ret (.int .i64 (V 11 a b)) w) := by
  have HV : Hid (wrap32 (bits .xor .i64 a b) = V 11 a b) := Lib.hid (by
    have hw := V_word 11 a b ha hb ht
    rw [V11] at hw ⊢
    try exact wrap32_of _ hw)
  clear ht
  go_enter Tryz.func108, Tryz.ntmps108
  go_wp2_with fail
  refine (one_any a b _).mono ?_
  rintro e w1 ⟨rfl, hb1⟩
  go_wp2_with (go_at_call 126; refine (wrap_any _ _).mono ?_; rintro e w2 ⟨rfl, rfl⟩)
  go_ret
  exact ⟨ret_int HV.out, below_step ((Below.refl _ _).alloc (Nat.le_refl _) _) hb1⟩
theorem value_any (op a b : Int) (ho : isOpb op = true) (ha : isW a) (hb : isW b) (ht : trapsb op b = false) (w : World) : Calls Tryz.prog 108 #[.int .i64 op, .int .i64 a, .int .i64 b] w (Ret (.int .i64 (V op a b)) w) := by
  rcases opCases ho with h | h | h | h | h | h | h | h | h | h | h | h
  · subst h; exact value0 a b ha hb ht w
  · subst h; exact value1 a b ha hb ht w
  · subst h; exact value2 a b ha hb ht w
  · subst h; exact value3 a b ha hb ht w
  · subst h; exact value4 a b ha hb ht w
  · subst h; exact value5 a b ha hb ht w
  · subst h; exact value6 a b ha hb ht w
  · subst h; exact value7 a b ha hb ht w
  · subst h; exact value8 a b ha hb ht w
  · subst h; exact value9 a b ha hb ht w
  · subst h; exact value10 a b ha hb ht w
  · subst h; exact value11 a b ha hb ht w
end Go.Proofs.YtecpanppnljkhaaGreatDoor
