/- WordLawful's walk, at each operation. -/
import Derived.Test.YthbgingclpponaaDoorWr
import Derived.Test.YthbgingclpponaaDoorWq
namespace Go.Proofs.YthbgingclpponaaDoor.wordLawful
open Go.RowKit
set_option linter.unusedVariables false
set_option maxRecDepth 100000 in
set_option maxHeartbeats 20000000 in
theorem core_1 (o n0 n1 n2 a b c : Int) (w : World) (hI : Inv w) (ho : o % 12 = 1) (h0 : wrap32 n0 = a) (h1 : wrap32 n1 = b) (h2 : wrap32 n2 = c) : Calls Tryd.prog 7 #[.int .i64 o, .agg #[.int .i64 n0, .int .i64 n1, .int .i64 n2]] w (Ret (.bool true) w) := by
  have TO : Hid (∀ w, Calls Tryd.prog 38 #[.int .i64 o, .int .i64 12] w fun e w' => e = .returned (.int .i64 1) ∧ w' = w) := Lib.hid (turn_q o 12 (by decide) (by decide) _ ho)
  have T0 : Hid (∀ w, Calls Tryd.prog 36 #[.int .i64 n0] w fun e w' => e = .returned (.int .i64 a) ∧ w' = w) := Lib.hid (bword_q n0 a h0)
  have T1 : Hid (∀ w, Calls Tryd.prog 36 #[.int .i64 n1] w fun e w' => e = .returned (.int .i64 b) ∧ w' = w) := Lib.hid (bword_q n1 b h1)
  have T2 : Hid (∀ w, Calls Tryd.prog 36 #[.int .i64 n2] w fun e w' => e = .returned (.int .i64 c) ∧ w' = w) := Lib.hid (bword_q n2 c h2)
  have ha : isW a := h0 ▸ wrap32_word n0
  have hb : isW b := h1 ▸ wrap32_word n1
  have hc : isW c := h2 ▸ wrap32_word n2
  clear ho h0 h1 h2
  have LW : Hid (∀ w, Inv w → Calls Tryd.prog 13 #[.int .i64 1] w (Ret (.tuple #[.agg #[.bool false, .bool false, .bool false], .int .i64 0]) w)) := Lib.hid (fun w h => by have := laws_any 1 w h; rw [show aB 1 = false from by decide +kernel, show cB 1 = false from by decide +kernel, show iB 1 = false from by decide +kernel, show opE 1 = 0 from by decide +kernel] at this; exact this)
  have NE : Hid (∀ w, Inv w → Calls Tryd.prog 15 #[.int .i64 1] w (Ret (.tuple #[.int .i64 0, .int .i64 4]) w)) := Lib.hid (fun w h => by have := neutral_any 1 w h; rw [show neN 1 = 0 from by decide +kernel, show neE 1 = 4 from by decide +kernel] at this; exact this)
  have hop : isOpb 1 = true := by decide
  have ht : ∀ y, trapsb 1 y = false := fun y => by simp [trapsb]
  have hx := V_word 1 a b ha hb (ht _)
  have DO : Hid (∀ w, Calls Tryd.prog 11 #[.int .i64 1, .int .i64 a, .int .i64 b] w (Ret (.tuple #[.int .i64 (V 1 a b), .int .i64 0]) w)) := Lib.hid (fun w => by have := do_any 1 a b w; rw [(do_val hop ha hb (ht _)).1, (do_val hop ha hb (ht _)).2] at this; exact this)
  have IS : Hid (∀ w, Calls Tryd.prog 19 #[.int .i64 (V 1 a b)] w fun e w' => e = .returned (.bool true) ∧ w = w') := Lib.hid (fun w => is_t _ w (isWb_of _ hx))
  clear ha hb hc hx ht 
  generalize V 1 a b = x1 at *
  have HI := Lib.hid hI; clear hI
  go_enter Tryd.func7, Tryd.ntmps7
  go_wp2_with fail
  go_quiet ((first | (go_at_call 38; with_reducible exact Calls.quiet_of_same (TO.out _)) | (go_at_call 36; first | with_reducible exact Calls.quiet_of_same (T0.out _) | with_reducible exact Calls.quiet_of_same (T1.out _) | with_reducible exact Calls.quiet_of_same (T2.out _))))
  have HB0 := Lib.hid (below_drewN (below_new (Below.refl _ w) (.cells #[.int .i64 n0, .int .i64 n1, .int .i64 n2] 39)) nq)
  generalize (w.alloc (.cells #[.int .i64 n0, .int .i64 n1, .int .i64 n2] 39)).drewN nq = W0 at *
  go_wp2_with fail
  refine (LW.out _ (HI.out.below HB0.out)).mono ?_
  rintro e w1 ⟨rfl, hb⟩
  have HC := Lib.hid (show Carry w (w1.alloc (.cells #[.bool false, .bool false, .bool false] 26)) w1.heap.size false false false from ⟨below_new (below_step HB0.out hb) _, Lies3.new _ _ _ _⟩)
  clear hb HB0
  go_wp2_with fail
  refine (NE.out _ (HI.out.below HC.out.1)).mono ?_
  rintro e w2 ⟨rfl, hb⟩
  replace HC := Lib.hid (HC.out.step hb); clear hb
  generalize w1.heap.size = bl at *
  obtain ⟨_, l1, l2, l3, _⟩ := HC.out
  go_wp2_with fail
  first | refine (DO.out _).mono ?_
  rintro e y1 ⟨rfl, hb⟩
  replace HC := Lib.hid (HC.out.step hb); clear hb l1 l2 l3
  go_wp2_with fail
  refine (IS.out _).mono ?_
  rintro e yy ⟨rfl, rfl⟩
  obtain ⟨_, l1, l2, l3, _⟩ := HC.out
  go_wp2_with fail
  first | refine (fails_1_0 _).mono ?_
  rintro e y2 ⟨rfl, hb⟩
  replace HC := Lib.hid (HC.out.step hb); clear hb l1 l2 l3
  obtain ⟨_, l1, l2, l3, _⟩ := HC.out
  go_wp2_with fail
  first | refine (fails_1_1 _).mono ?_
  rintro e y3 ⟨rfl, hb⟩
  replace HC := Lib.hid (HC.out.step hb); clear hb l1 l2 l3
  obtain ⟨_, l1, l2, l3, _⟩ := HC.out
  go_wp2_with fail
  first | refine (fails_1_2 _).mono ?_
  rintro e y4 ⟨rfl, hb⟩
  replace HC := Lib.hid (HC.out.step hb); clear hb l1 l2 l3
  obtain ⟨_, l1, l2, l3, _⟩ := HC.out
  go_wp2_with fail
  first | refine (works_any _ (HI.out.below HC.out.1)).mono ?_
  rintro e y5 ⟨rfl, hb⟩
  replace HC := Lib.hid (HC.out.step hb); clear hb l1 l2 l3
  go_wp2_with fail
  go_ret
  exact ⟨rfl, HC.out.1⟩
set_option maxRecDepth 100000 in
set_option maxHeartbeats 20000000 in
theorem core_3z (o n0 n1 n2 a b c : Int) (w : World) (hI : Inv w) (ho : o % 12 = 3) (h0 : wrap32 n0 = a) (h1 : wrap32 n1 = b) (h2 : wrap32 n2 = c) (hz : b = 0) : Calls Tryd.prog 7 #[.int .i64 o, .agg #[.int .i64 n0, .int .i64 n1, .int .i64 n2]] w (Ret (.bool true) w) := by
  have TO : Hid (∀ w, Calls Tryd.prog 38 #[.int .i64 o, .int .i64 12] w fun e w' => e = .returned (.int .i64 3) ∧ w' = w) := Lib.hid (turn_q o 12 (by decide) (by decide) _ ho)
  have T0 : Hid (∀ w, Calls Tryd.prog 36 #[.int .i64 n0] w fun e w' => e = .returned (.int .i64 a) ∧ w' = w) := Lib.hid (bword_q n0 a h0)
  have T1 : Hid (∀ w, Calls Tryd.prog 36 #[.int .i64 n1] w fun e w' => e = .returned (.int .i64 b) ∧ w' = w) := Lib.hid (bword_q n1 b h1)
  have T2 : Hid (∀ w, Calls Tryd.prog 36 #[.int .i64 n2] w fun e w' => e = .returned (.int .i64 c) ∧ w' = w) := Lib.hid (bword_q n2 c h2)
  have ha : isW a := h0 ▸ wrap32_word n0
  have hb : isW b := h1 ▸ wrap32_word n1
  have hc : isW c := h2 ▸ wrap32_word n2
  clear ho h0 h1 h2
  have LW : Hid (∀ w, Inv w → Calls Tryd.prog 13 #[.int .i64 3] w (Ret (.tuple #[.agg #[.bool false, .bool false, .bool false], .int .i64 0]) w)) := Lib.hid (fun w h => by have := laws_any 3 w h; rw [show aB 3 = false from by decide +kernel, show cB 3 = false from by decide +kernel, show iB 3 = false from by decide +kernel, show opE 3 = 0 from by decide +kernel] at this; exact this)
  have NE : Hid (∀ w, Inv w → Calls Tryd.prog 15 #[.int .i64 3] w (Ret (.tuple #[.int .i64 0, .int .i64 4]) w)) := Lib.hid (fun w h => by have := neutral_any 3 w h; rw [show neN 3 = 0 from by decide +kernel, show neE 3 = 4 from by decide +kernel] at this; exact this)
  have hop : isOpb 3 = true := by decide
  have DO : Hid (∀ w, Calls Tryd.prog 11 #[.int .i64 3, .int .i64 a, .int .i64 b] w (Ret (.tuple #[.int .i64 0, .int .i64 14]) w)) := Lib.hid (fun w => by have := do_any 3 a b w; rw [(do_trap hop ha hb (by simp [trapsb, hz])).1, (do_trap hop ha hb (by simp [trapsb, hz])).2] at this; exact this)
  clear ha hb hc 
  subst hz
  have HI := Lib.hid hI; clear hI
  go_enter Tryd.func7, Tryd.ntmps7
  go_wp2_with fail
  go_quiet ((first | (go_at_call 38; with_reducible exact Calls.quiet_of_same (TO.out _)) | (go_at_call 36; first | with_reducible exact Calls.quiet_of_same (T0.out _) | with_reducible exact Calls.quiet_of_same (T1.out _) | with_reducible exact Calls.quiet_of_same (T2.out _))))
  have HB0 := Lib.hid (below_drewN (below_new (Below.refl _ w) (.cells #[.int .i64 n0, .int .i64 n1, .int .i64 n2] 39)) nq)
  generalize (w.alloc (.cells #[.int .i64 n0, .int .i64 n1, .int .i64 n2] 39)).drewN nq = W0 at *
  go_wp2_with fail
  refine (LW.out _ (HI.out.below HB0.out)).mono ?_
  rintro e w1 ⟨rfl, hb⟩
  have HC := Lib.hid (show Carry w (w1.alloc (.cells #[.bool false, .bool false, .bool false] 26)) w1.heap.size false false false from ⟨below_new (below_step HB0.out hb) _, Lies3.new _ _ _ _⟩)
  clear hb HB0
  go_wp2_with fail
  refine (NE.out _ (HI.out.below HC.out.1)).mono ?_
  rintro e w2 ⟨rfl, hb⟩
  replace HC := Lib.hid (HC.out.step hb); clear hb
  generalize w1.heap.size = bl at *
  obtain ⟨_, l1, l2, l3, _⟩ := HC.out
  go_wp2_with fail
  first | refine (DO.out _).mono ?_
  rintro e y1 ⟨rfl, hb⟩
  replace HC := Lib.hid (HC.out.step hb); clear hb l1 l2 l3
  obtain ⟨_, l1, l2, l3, _⟩ := HC.out
  go_wp2_with fail
  first | refine (fails_3_0 _).mono ?_
  rintro e y2 ⟨rfl, hb⟩
  replace HC := Lib.hid (HC.out.step hb); clear hb l1 l2 l3
  obtain ⟨_, l1, l2, l3, _⟩ := HC.out
  go_wp2_with fail
  first | refine (fails_3_1 _).mono ?_
  rintro e y3 ⟨rfl, hb⟩
  replace HC := Lib.hid (HC.out.step hb); clear hb l1 l2 l3
  obtain ⟨_, l1, l2, l3, _⟩ := HC.out
  go_wp2_with fail
  first | refine (fails_3_2 _).mono ?_
  rintro e y4 ⟨rfl, hb⟩
  replace HC := Lib.hid (HC.out.step hb); clear hb l1 l2 l3
  obtain ⟨_, l1, l2, l3, _⟩ := HC.out
  go_wp2_with fail
  first | refine (works_any _ (HI.out.below HC.out.1)).mono ?_
  rintro e y5 ⟨rfl, hb⟩
  replace HC := Lib.hid (HC.out.step hb); clear hb l1 l2 l3
  go_wp2_with fail
  go_ret
  exact ⟨rfl, HC.out.1⟩
set_option maxRecDepth 100000 in
set_option maxHeartbeats 20000000 in
theorem core_3n (o n0 n1 n2 a b c : Int) (w : World) (hI : Inv w) (ho : o % 12 = 3) (h0 : wrap32 n0 = a) (h1 : wrap32 n1 = b) (h2 : wrap32 n2 = c) (hz : b ≠ 0) : Calls Tryd.prog 7 #[.int .i64 o, .agg #[.int .i64 n0, .int .i64 n1, .int .i64 n2]] w (Ret (.bool true) w) := by
  have TO : Hid (∀ w, Calls Tryd.prog 38 #[.int .i64 o, .int .i64 12] w fun e w' => e = .returned (.int .i64 3) ∧ w' = w) := Lib.hid (turn_q o 12 (by decide) (by decide) _ ho)
  have T0 : Hid (∀ w, Calls Tryd.prog 36 #[.int .i64 n0] w fun e w' => e = .returned (.int .i64 a) ∧ w' = w) := Lib.hid (bword_q n0 a h0)
  have T1 : Hid (∀ w, Calls Tryd.prog 36 #[.int .i64 n1] w fun e w' => e = .returned (.int .i64 b) ∧ w' = w) := Lib.hid (bword_q n1 b h1)
  have T2 : Hid (∀ w, Calls Tryd.prog 36 #[.int .i64 n2] w fun e w' => e = .returned (.int .i64 c) ∧ w' = w) := Lib.hid (bword_q n2 c h2)
  have ha : isW a := h0 ▸ wrap32_word n0
  have hb : isW b := h1 ▸ wrap32_word n1
  have hc : isW c := h2 ▸ wrap32_word n2
  clear ho h0 h1 h2
  have LW : Hid (∀ w, Inv w → Calls Tryd.prog 13 #[.int .i64 3] w (Ret (.tuple #[.agg #[.bool false, .bool false, .bool false], .int .i64 0]) w)) := Lib.hid (fun w h => by have := laws_any 3 w h; rw [show aB 3 = false from by decide +kernel, show cB 3 = false from by decide +kernel, show iB 3 = false from by decide +kernel, show opE 3 = 0 from by decide +kernel] at this; exact this)
  have NE : Hid (∀ w, Inv w → Calls Tryd.prog 15 #[.int .i64 3] w (Ret (.tuple #[.int .i64 0, .int .i64 4]) w)) := Lib.hid (fun w h => by have := neutral_any 3 w h; rw [show neN 3 = 0 from by decide +kernel, show neE 3 = 4 from by decide +kernel] at this; exact this)
  have hop : isOpb 3 = true := by decide
  have ht : ∀ y, y = b → trapsb 3 y = false := fun y e => by subst e; simp [trapsb, hz]
  have hx := V_word 3 a b ha hb (ht _ rfl)
  have DO : Hid (∀ w, Calls Tryd.prog 11 #[.int .i64 3, .int .i64 a, .int .i64 b] w (Ret (.tuple #[.int .i64 (V 3 a b), .int .i64 0]) w)) := Lib.hid (fun w => by have := do_any 3 a b w; rw [(do_val hop ha hb (ht _ rfl)).1, (do_val hop ha hb (ht _ rfl)).2] at this; exact this)
  have IS : Hid (∀ w, Calls Tryd.prog 19 #[.int .i64 (V 3 a b)] w fun e w' => e = .returned (.bool true) ∧ w = w') := Lib.hid (fun w => is_t _ w (isWb_of _ hx))
  clear ha hb hc hx ht 
  generalize V 3 a b = x1 at *
  have HI := Lib.hid hI; clear hI
  go_enter Tryd.func7, Tryd.ntmps7
  go_wp2_with fail
  go_quiet ((first | (go_at_call 38; with_reducible exact Calls.quiet_of_same (TO.out _)) | (go_at_call 36; first | with_reducible exact Calls.quiet_of_same (T0.out _) | with_reducible exact Calls.quiet_of_same (T1.out _) | with_reducible exact Calls.quiet_of_same (T2.out _))))
  have HB0 := Lib.hid (below_drewN (below_new (Below.refl _ w) (.cells #[.int .i64 n0, .int .i64 n1, .int .i64 n2] 39)) nq)
  generalize (w.alloc (.cells #[.int .i64 n0, .int .i64 n1, .int .i64 n2] 39)).drewN nq = W0 at *
  go_wp2_with fail
  refine (LW.out _ (HI.out.below HB0.out)).mono ?_
  rintro e w1 ⟨rfl, hb⟩
  have HC := Lib.hid (show Carry w (w1.alloc (.cells #[.bool false, .bool false, .bool false] 26)) w1.heap.size false false false from ⟨below_new (below_step HB0.out hb) _, Lies3.new _ _ _ _⟩)
  clear hb HB0
  go_wp2_with fail
  refine (NE.out _ (HI.out.below HC.out.1)).mono ?_
  rintro e w2 ⟨rfl, hb⟩
  replace HC := Lib.hid (HC.out.step hb); clear hb
  generalize w1.heap.size = bl at *
  obtain ⟨_, l1, l2, l3, _⟩ := HC.out
  go_wp2_with fail
  first | refine (DO.out _).mono ?_
  rintro e y1 ⟨rfl, hb⟩
  replace HC := Lib.hid (HC.out.step hb); clear hb l1 l2 l3
  go_wp2_with fail
  refine (IS.out _).mono ?_
  rintro e yy ⟨rfl, rfl⟩
  obtain ⟨_, l1, l2, l3, _⟩ := HC.out
  go_wp2_with fail
  first | refine (fails_3_0 _).mono ?_
  rintro e y2 ⟨rfl, hb⟩
  replace HC := Lib.hid (HC.out.step hb); clear hb l1 l2 l3
  obtain ⟨_, l1, l2, l3, _⟩ := HC.out
  go_wp2_with fail
  first | refine (fails_3_1 _).mono ?_
  rintro e y3 ⟨rfl, hb⟩
  replace HC := Lib.hid (HC.out.step hb); clear hb l1 l2 l3
  obtain ⟨_, l1, l2, l3, _⟩ := HC.out
  go_wp2_with fail
  first | refine (fails_3_2 _).mono ?_
  rintro e y4 ⟨rfl, hb⟩
  replace HC := Lib.hid (HC.out.step hb); clear hb l1 l2 l3
  obtain ⟨_, l1, l2, l3, _⟩ := HC.out
  go_wp2_with fail
  first | refine (works_any _ (HI.out.below HC.out.1)).mono ?_
  rintro e y5 ⟨rfl, hb⟩
  replace HC := Lib.hid (HC.out.step hb); clear hb l1 l2 l3
  go_wp2_with fail
  go_ret
  exact ⟨rfl, HC.out.1⟩
set_option maxRecDepth 100000 in
set_option maxHeartbeats 20000000 in
theorem core_4z (o n0 n1 n2 a b c : Int) (w : World) (hI : Inv w) (ho : o % 12 = 4) (h0 : wrap32 n0 = a) (h1 : wrap32 n1 = b) (h2 : wrap32 n2 = c) (hz : b = 0) : Calls Tryd.prog 7 #[.int .i64 o, .agg #[.int .i64 n0, .int .i64 n1, .int .i64 n2]] w (Ret (.bool true) w) := by
  have TO : Hid (∀ w, Calls Tryd.prog 38 #[.int .i64 o, .int .i64 12] w fun e w' => e = .returned (.int .i64 4) ∧ w' = w) := Lib.hid (turn_q o 12 (by decide) (by decide) _ ho)
  have T0 : Hid (∀ w, Calls Tryd.prog 36 #[.int .i64 n0] w fun e w' => e = .returned (.int .i64 a) ∧ w' = w) := Lib.hid (bword_q n0 a h0)
  have T1 : Hid (∀ w, Calls Tryd.prog 36 #[.int .i64 n1] w fun e w' => e = .returned (.int .i64 b) ∧ w' = w) := Lib.hid (bword_q n1 b h1)
  have T2 : Hid (∀ w, Calls Tryd.prog 36 #[.int .i64 n2] w fun e w' => e = .returned (.int .i64 c) ∧ w' = w) := Lib.hid (bword_q n2 c h2)
  have ha : isW a := h0 ▸ wrap32_word n0
  have hb : isW b := h1 ▸ wrap32_word n1
  have hc : isW c := h2 ▸ wrap32_word n2
  clear ho h0 h1 h2
  have LW : Hid (∀ w, Inv w → Calls Tryd.prog 13 #[.int .i64 4] w (Ret (.tuple #[.agg #[.bool false, .bool false, .bool false], .int .i64 0]) w)) := Lib.hid (fun w h => by have := laws_any 4 w h; rw [show aB 4 = false from by decide +kernel, show cB 4 = false from by decide +kernel, show iB 4 = false from by decide +kernel, show opE 4 = 0 from by decide +kernel] at this; exact this)
  have NE : Hid (∀ w, Inv w → Calls Tryd.prog 15 #[.int .i64 4] w (Ret (.tuple #[.int .i64 0, .int .i64 4]) w)) := Lib.hid (fun w h => by have := neutral_any 4 w h; rw [show neN 4 = 0 from by decide +kernel, show neE 4 = 4 from by decide +kernel] at this; exact this)
  have hop : isOpb 4 = true := by decide
  have DO : Hid (∀ w, Calls Tryd.prog 11 #[.int .i64 4, .int .i64 a, .int .i64 b] w (Ret (.tuple #[.int .i64 0, .int .i64 14]) w)) := Lib.hid (fun w => by have := do_any 4 a b w; rw [(do_trap hop ha hb (by simp [trapsb, hz])).1, (do_trap hop ha hb (by simp [trapsb, hz])).2] at this; exact this)
  clear ha hb hc 
  subst hz
  have HI := Lib.hid hI; clear hI
  go_enter Tryd.func7, Tryd.ntmps7
  go_wp2_with fail
  go_quiet ((first | (go_at_call 38; with_reducible exact Calls.quiet_of_same (TO.out _)) | (go_at_call 36; first | with_reducible exact Calls.quiet_of_same (T0.out _) | with_reducible exact Calls.quiet_of_same (T1.out _) | with_reducible exact Calls.quiet_of_same (T2.out _))))
  have HB0 := Lib.hid (below_drewN (below_new (Below.refl _ w) (.cells #[.int .i64 n0, .int .i64 n1, .int .i64 n2] 39)) nq)
  generalize (w.alloc (.cells #[.int .i64 n0, .int .i64 n1, .int .i64 n2] 39)).drewN nq = W0 at *
  go_wp2_with fail
  refine (LW.out _ (HI.out.below HB0.out)).mono ?_
  rintro e w1 ⟨rfl, hb⟩
  have HC := Lib.hid (show Carry w (w1.alloc (.cells #[.bool false, .bool false, .bool false] 26)) w1.heap.size false false false from ⟨below_new (below_step HB0.out hb) _, Lies3.new _ _ _ _⟩)
  clear hb HB0
  go_wp2_with fail
  refine (NE.out _ (HI.out.below HC.out.1)).mono ?_
  rintro e w2 ⟨rfl, hb⟩
  replace HC := Lib.hid (HC.out.step hb); clear hb
  generalize w1.heap.size = bl at *
  obtain ⟨_, l1, l2, l3, _⟩ := HC.out
  go_wp2_with fail
  first | refine (DO.out _).mono ?_
  rintro e y1 ⟨rfl, hb⟩
  replace HC := Lib.hid (HC.out.step hb); clear hb l1 l2 l3
  obtain ⟨_, l1, l2, l3, _⟩ := HC.out
  go_wp2_with fail
  first | refine (fails_4_0 _).mono ?_
  rintro e y2 ⟨rfl, hb⟩
  replace HC := Lib.hid (HC.out.step hb); clear hb l1 l2 l3
  obtain ⟨_, l1, l2, l3, _⟩ := HC.out
  go_wp2_with fail
  first | refine (fails_4_1 _).mono ?_
  rintro e y3 ⟨rfl, hb⟩
  replace HC := Lib.hid (HC.out.step hb); clear hb l1 l2 l3
  obtain ⟨_, l1, l2, l3, _⟩ := HC.out
  go_wp2_with fail
  first | refine (fails_4_2 _).mono ?_
  rintro e y4 ⟨rfl, hb⟩
  replace HC := Lib.hid (HC.out.step hb); clear hb l1 l2 l3
  obtain ⟨_, l1, l2, l3, _⟩ := HC.out
  go_wp2_with fail
  first | refine (works_any _ (HI.out.below HC.out.1)).mono ?_
  rintro e y5 ⟨rfl, hb⟩
  replace HC := Lib.hid (HC.out.step hb); clear hb l1 l2 l3
  go_wp2_with fail
  go_ret
  exact ⟨rfl, HC.out.1⟩
set_option maxRecDepth 100000 in
set_option maxHeartbeats 20000000 in
theorem core_4n (o n0 n1 n2 a b c : Int) (w : World) (hI : Inv w) (ho : o % 12 = 4) (h0 : wrap32 n0 = a) (h1 : wrap32 n1 = b) (h2 : wrap32 n2 = c) (hz : b ≠ 0) : Calls Tryd.prog 7 #[.int .i64 o, .agg #[.int .i64 n0, .int .i64 n1, .int .i64 n2]] w (Ret (.bool true) w) := by
  have TO : Hid (∀ w, Calls Tryd.prog 38 #[.int .i64 o, .int .i64 12] w fun e w' => e = .returned (.int .i64 4) ∧ w' = w) := Lib.hid (turn_q o 12 (by decide) (by decide) _ ho)
  have T0 : Hid (∀ w, Calls Tryd.prog 36 #[.int .i64 n0] w fun e w' => e = .returned (.int .i64 a) ∧ w' = w) := Lib.hid (bword_q n0 a h0)
  have T1 : Hid (∀ w, Calls Tryd.prog 36 #[.int .i64 n1] w fun e w' => e = .returned (.int .i64 b) ∧ w' = w) := Lib.hid (bword_q n1 b h1)
  have T2 : Hid (∀ w, Calls Tryd.prog 36 #[.int .i64 n2] w fun e w' => e = .returned (.int .i64 c) ∧ w' = w) := Lib.hid (bword_q n2 c h2)
  have ha : isW a := h0 ▸ wrap32_word n0
  have hb : isW b := h1 ▸ wrap32_word n1
  have hc : isW c := h2 ▸ wrap32_word n2
  clear ho h0 h1 h2
  have LW : Hid (∀ w, Inv w → Calls Tryd.prog 13 #[.int .i64 4] w (Ret (.tuple #[.agg #[.bool false, .bool false, .bool false], .int .i64 0]) w)) := Lib.hid (fun w h => by have := laws_any 4 w h; rw [show aB 4 = false from by decide +kernel, show cB 4 = false from by decide +kernel, show iB 4 = false from by decide +kernel, show opE 4 = 0 from by decide +kernel] at this; exact this)
  have NE : Hid (∀ w, Inv w → Calls Tryd.prog 15 #[.int .i64 4] w (Ret (.tuple #[.int .i64 0, .int .i64 4]) w)) := Lib.hid (fun w h => by have := neutral_any 4 w h; rw [show neN 4 = 0 from by decide +kernel, show neE 4 = 4 from by decide +kernel] at this; exact this)
  have hop : isOpb 4 = true := by decide
  have ht : ∀ y, y = b → trapsb 4 y = false := fun y e => by subst e; simp [trapsb, hz]
  have hx := V_word 4 a b ha hb (ht _ rfl)
  have DO : Hid (∀ w, Calls Tryd.prog 11 #[.int .i64 4, .int .i64 a, .int .i64 b] w (Ret (.tuple #[.int .i64 (V 4 a b), .int .i64 0]) w)) := Lib.hid (fun w => by have := do_any 4 a b w; rw [(do_val hop ha hb (ht _ rfl)).1, (do_val hop ha hb (ht _ rfl)).2] at this; exact this)
  have IS : Hid (∀ w, Calls Tryd.prog 19 #[.int .i64 (V 4 a b)] w fun e w' => e = .returned (.bool true) ∧ w = w') := Lib.hid (fun w => is_t _ w (isWb_of _ hx))
  clear ha hb hc hx ht 
  generalize V 4 a b = x1 at *
  have HI := Lib.hid hI; clear hI
  go_enter Tryd.func7, Tryd.ntmps7
  go_wp2_with fail
  go_quiet ((first | (go_at_call 38; with_reducible exact Calls.quiet_of_same (TO.out _)) | (go_at_call 36; first | with_reducible exact Calls.quiet_of_same (T0.out _) | with_reducible exact Calls.quiet_of_same (T1.out _) | with_reducible exact Calls.quiet_of_same (T2.out _))))
  have HB0 := Lib.hid (below_drewN (below_new (Below.refl _ w) (.cells #[.int .i64 n0, .int .i64 n1, .int .i64 n2] 39)) nq)
  generalize (w.alloc (.cells #[.int .i64 n0, .int .i64 n1, .int .i64 n2] 39)).drewN nq = W0 at *
  go_wp2_with fail
  refine (LW.out _ (HI.out.below HB0.out)).mono ?_
  rintro e w1 ⟨rfl, hb⟩
  have HC := Lib.hid (show Carry w (w1.alloc (.cells #[.bool false, .bool false, .bool false] 26)) w1.heap.size false false false from ⟨below_new (below_step HB0.out hb) _, Lies3.new _ _ _ _⟩)
  clear hb HB0
  go_wp2_with fail
  refine (NE.out _ (HI.out.below HC.out.1)).mono ?_
  rintro e w2 ⟨rfl, hb⟩
  replace HC := Lib.hid (HC.out.step hb); clear hb
  generalize w1.heap.size = bl at *
  obtain ⟨_, l1, l2, l3, _⟩ := HC.out
  go_wp2_with fail
  first | refine (DO.out _).mono ?_
  rintro e y1 ⟨rfl, hb⟩
  replace HC := Lib.hid (HC.out.step hb); clear hb l1 l2 l3
  go_wp2_with fail
  refine (IS.out _).mono ?_
  rintro e yy ⟨rfl, rfl⟩
  obtain ⟨_, l1, l2, l3, _⟩ := HC.out
  go_wp2_with fail
  first | refine (fails_4_0 _).mono ?_
  rintro e y2 ⟨rfl, hb⟩
  replace HC := Lib.hid (HC.out.step hb); clear hb l1 l2 l3
  obtain ⟨_, l1, l2, l3, _⟩ := HC.out
  go_wp2_with fail
  first | refine (fails_4_1 _).mono ?_
  rintro e y3 ⟨rfl, hb⟩
  replace HC := Lib.hid (HC.out.step hb); clear hb l1 l2 l3
  obtain ⟨_, l1, l2, l3, _⟩ := HC.out
  go_wp2_with fail
  first | refine (fails_4_2 _).mono ?_
  rintro e y4 ⟨rfl, hb⟩
  replace HC := Lib.hid (HC.out.step hb); clear hb l1 l2 l3
  obtain ⟨_, l1, l2, l3, _⟩ := HC.out
  go_wp2_with fail
  first | refine (works_any _ (HI.out.below HC.out.1)).mono ?_
  rintro e y5 ⟨rfl, hb⟩
  replace HC := Lib.hid (HC.out.step hb); clear hb l1 l2 l3
  go_wp2_with fail
  go_ret
  exact ⟨rfl, HC.out.1⟩
set_option maxRecDepth 100000 in
set_option maxHeartbeats 20000000 in
theorem core_5 (o n0 n1 n2 a b c : Int) (w : World) (hI : Inv w) (ho : o % 12 = 5) (h0 : wrap32 n0 = a) (h1 : wrap32 n1 = b) (h2 : wrap32 n2 = c) : Calls Tryd.prog 7 #[.int .i64 o, .agg #[.int .i64 n0, .int .i64 n1, .int .i64 n2]] w (Ret (.bool true) w) := by
  have TO : Hid (∀ w, Calls Tryd.prog 38 #[.int .i64 o, .int .i64 12] w fun e w' => e = .returned (.int .i64 5) ∧ w' = w) := Lib.hid (turn_q o 12 (by decide) (by decide) _ ho)
  have T0 : Hid (∀ w, Calls Tryd.prog 36 #[.int .i64 n0] w fun e w' => e = .returned (.int .i64 a) ∧ w' = w) := Lib.hid (bword_q n0 a h0)
  have T1 : Hid (∀ w, Calls Tryd.prog 36 #[.int .i64 n1] w fun e w' => e = .returned (.int .i64 b) ∧ w' = w) := Lib.hid (bword_q n1 b h1)
  have T2 : Hid (∀ w, Calls Tryd.prog 36 #[.int .i64 n2] w fun e w' => e = .returned (.int .i64 c) ∧ w' = w) := Lib.hid (bword_q n2 c h2)
  have ha : isW a := h0 ▸ wrap32_word n0
  have hb : isW b := h1 ▸ wrap32_word n1
  have hc : isW c := h2 ▸ wrap32_word n2
  clear ho h0 h1 h2
  have LW : Hid (∀ w, Inv w → Calls Tryd.prog 13 #[.int .i64 5] w (Ret (.tuple #[.agg #[.bool false, .bool false, .bool false], .int .i64 0]) w)) := Lib.hid (fun w h => by have := laws_any 5 w h; rw [show aB 5 = false from by decide +kernel, show cB 5 = false from by decide +kernel, show iB 5 = false from by decide +kernel, show opE 5 = 0 from by decide +kernel] at this; exact this)
  have NE : Hid (∀ w, Inv w → Calls Tryd.prog 15 #[.int .i64 5] w (Ret (.tuple #[.int .i64 0, .int .i64 4]) w)) := Lib.hid (fun w h => by have := neutral_any 5 w h; rw [show neN 5 = 0 from by decide +kernel, show neE 5 = 4 from by decide +kernel] at this; exact this)
  have hop : isOpb 5 = true := by decide
  have ht : ∀ y, trapsb 5 y = false := fun y => by simp [trapsb]
  have hx := V_word 5 a b ha hb (ht _)
  have DO : Hid (∀ w, Calls Tryd.prog 11 #[.int .i64 5, .int .i64 a, .int .i64 b] w (Ret (.tuple #[.int .i64 (V 5 a b), .int .i64 0]) w)) := Lib.hid (fun w => by have := do_any 5 a b w; rw [(do_val hop ha hb (ht _)).1, (do_val hop ha hb (ht _)).2] at this; exact this)
  have IS : Hid (∀ w, Calls Tryd.prog 19 #[.int .i64 (V 5 a b)] w fun e w' => e = .returned (.bool true) ∧ w = w') := Lib.hid (fun w => is_t _ w (isWb_of _ hx))
  clear ha hb hc hx ht 
  generalize V 5 a b = x1 at *
  have HI := Lib.hid hI; clear hI
  go_enter Tryd.func7, Tryd.ntmps7
  go_wp2_with fail
  go_quiet ((first | (go_at_call 38; with_reducible exact Calls.quiet_of_same (TO.out _)) | (go_at_call 36; first | with_reducible exact Calls.quiet_of_same (T0.out _) | with_reducible exact Calls.quiet_of_same (T1.out _) | with_reducible exact Calls.quiet_of_same (T2.out _))))
  have HB0 := Lib.hid (below_drewN (below_new (Below.refl _ w) (.cells #[.int .i64 n0, .int .i64 n1, .int .i64 n2] 39)) nq)
  generalize (w.alloc (.cells #[.int .i64 n0, .int .i64 n1, .int .i64 n2] 39)).drewN nq = W0 at *
  go_wp2_with fail
  refine (LW.out _ (HI.out.below HB0.out)).mono ?_
  rintro e w1 ⟨rfl, hb⟩
  have HC := Lib.hid (show Carry w (w1.alloc (.cells #[.bool false, .bool false, .bool false] 26)) w1.heap.size false false false from ⟨below_new (below_step HB0.out hb) _, Lies3.new _ _ _ _⟩)
  clear hb HB0
  go_wp2_with fail
  refine (NE.out _ (HI.out.below HC.out.1)).mono ?_
  rintro e w2 ⟨rfl, hb⟩
  replace HC := Lib.hid (HC.out.step hb); clear hb
  generalize w1.heap.size = bl at *
  obtain ⟨_, l1, l2, l3, _⟩ := HC.out
  go_wp2_with fail
  first | refine (DO.out _).mono ?_
  rintro e y1 ⟨rfl, hb⟩
  replace HC := Lib.hid (HC.out.step hb); clear hb l1 l2 l3
  go_wp2_with fail
  refine (IS.out _).mono ?_
  rintro e yy ⟨rfl, rfl⟩
  obtain ⟨_, l1, l2, l3, _⟩ := HC.out
  go_wp2_with fail
  first | refine (fails_5_0 _).mono ?_
  rintro e y2 ⟨rfl, hb⟩
  replace HC := Lib.hid (HC.out.step hb); clear hb l1 l2 l3
  obtain ⟨_, l1, l2, l3, _⟩ := HC.out
  go_wp2_with fail
  first | refine (fails_5_1 _).mono ?_
  rintro e y3 ⟨rfl, hb⟩
  replace HC := Lib.hid (HC.out.step hb); clear hb l1 l2 l3
  obtain ⟨_, l1, l2, l3, _⟩ := HC.out
  go_wp2_with fail
  first | refine (fails_5_2 _).mono ?_
  rintro e y4 ⟨rfl, hb⟩
  replace HC := Lib.hid (HC.out.step hb); clear hb l1 l2 l3
  obtain ⟨_, l1, l2, l3, _⟩ := HC.out
  go_wp2_with fail
  first | refine (works_any _ (HI.out.below HC.out.1)).mono ?_
  rintro e y5 ⟨rfl, hb⟩
  replace HC := Lib.hid (HC.out.step hb); clear hb l1 l2 l3
  go_wp2_with fail
  go_ret
  exact ⟨rfl, HC.out.1⟩
set_option maxRecDepth 100000 in
set_option maxHeartbeats 20000000 in
theorem core_6 (o n0 n1 n2 a b c : Int) (w : World) (hI : Inv w) (ho : o % 12 = 6) (h0 : wrap32 n0 = a) (h1 : wrap32 n1 = b) (h2 : wrap32 n2 = c) : Calls Tryd.prog 7 #[.int .i64 o, .agg #[.int .i64 n0, .int .i64 n1, .int .i64 n2]] w (Ret (.bool true) w) := by
  have TO : Hid (∀ w, Calls Tryd.prog 38 #[.int .i64 o, .int .i64 12] w fun e w' => e = .returned (.int .i64 6) ∧ w' = w) := Lib.hid (turn_q o 12 (by decide) (by decide) _ ho)
  have T0 : Hid (∀ w, Calls Tryd.prog 36 #[.int .i64 n0] w fun e w' => e = .returned (.int .i64 a) ∧ w' = w) := Lib.hid (bword_q n0 a h0)
  have T1 : Hid (∀ w, Calls Tryd.prog 36 #[.int .i64 n1] w fun e w' => e = .returned (.int .i64 b) ∧ w' = w) := Lib.hid (bword_q n1 b h1)
  have T2 : Hid (∀ w, Calls Tryd.prog 36 #[.int .i64 n2] w fun e w' => e = .returned (.int .i64 c) ∧ w' = w) := Lib.hid (bword_q n2 c h2)
  have ha : isW a := h0 ▸ wrap32_word n0
  have hb : isW b := h1 ▸ wrap32_word n1
  have hc : isW c := h2 ▸ wrap32_word n2
  clear ho h0 h1 h2
  have LW : Hid (∀ w, Inv w → Calls Tryd.prog 13 #[.int .i64 6] w (Ret (.tuple #[.agg #[.bool false, .bool true, .bool false], .int .i64 0]) w)) := Lib.hid (fun w h => by have := laws_any 6 w h; rw [show aB 6 = false from by decide +kernel, show cB 6 = true from by decide +kernel, show iB 6 = false from by decide +kernel, show opE 6 = 0 from by decide +kernel] at this; exact this)
  have NE : Hid (∀ w, Inv w → Calls Tryd.prog 15 #[.int .i64 6] w (Ret (.tuple #[.int .i64 0, .int .i64 4]) w)) := Lib.hid (fun w h => by have := neutral_any 6 w h; rw [show neN 6 = 0 from by decide +kernel, show neE 6 = 4 from by decide +kernel] at this; exact this)
  have hop : isOpb 6 = true := by decide
  have ht : ∀ y, trapsb 6 y = false := fun y => by simp [trapsb]
  have hx := V_word 6 a b ha hb (ht _)
  have DO : Hid (∀ w, Calls Tryd.prog 11 #[.int .i64 6, .int .i64 a, .int .i64 b] w (Ret (.tuple #[.int .i64 (V 6 a b), .int .i64 0]) w)) := Lib.hid (fun w => by have := do_any 6 a b w; rw [(do_val hop ha hb (ht _)).1, (do_val hop ha hb (ht _)).2] at this; exact this)
  have IS : Hid (∀ w, Calls Tryd.prog 19 #[.int .i64 (V 6 a b)] w fun e w' => e = .returned (.bool true) ∧ w = w') := Lib.hid (fun w => is_t _ w (isWb_of _ hx))
  have C1 : Hid (∀ w, Calls Tryd.prog 39 #[.int .i64 6, .int .i64 (a), .int .i64 (b)] w (Ret (.int .i64 (V 6 a b)) w)) := Lib.hid (val_to hop ha hb (ht _) (rfl))
  have C7 : Hid (∀ w, Calls Tryd.prog 39 #[.int .i64 6, .int .i64 (b), .int .i64 (a)] w (Ret (.int .i64 (V 6 a b)) w)) := Lib.hid (val_to hop hb ha (ht _) (V_comm (by decide) ha hb))
  clear ha hb hc hx ht 
  generalize V 6 a b = x1 at *
  have HI := Lib.hid hI; clear hI
  go_enter Tryd.func7, Tryd.ntmps7
  go_wp2_with fail
  go_quiet ((first | (go_at_call 38; with_reducible exact Calls.quiet_of_same (TO.out _)) | (go_at_call 36; first | with_reducible exact Calls.quiet_of_same (T0.out _) | with_reducible exact Calls.quiet_of_same (T1.out _) | with_reducible exact Calls.quiet_of_same (T2.out _))))
  have HB0 := Lib.hid (below_drewN (below_new (Below.refl _ w) (.cells #[.int .i64 n0, .int .i64 n1, .int .i64 n2] 39)) nq)
  generalize (w.alloc (.cells #[.int .i64 n0, .int .i64 n1, .int .i64 n2] 39)).drewN nq = W0 at *
  go_wp2_with fail
  refine (LW.out _ (HI.out.below HB0.out)).mono ?_
  rintro e w1 ⟨rfl, hb⟩
  have HC := Lib.hid (show Carry w (w1.alloc (.cells #[.bool false, .bool true, .bool false] 26)) w1.heap.size false true false from ⟨below_new (below_step HB0.out hb) _, Lies3.new _ _ _ _⟩)
  clear hb HB0
  go_wp2_with fail
  refine (NE.out _ (HI.out.below HC.out.1)).mono ?_
  rintro e w2 ⟨rfl, hb⟩
  replace HC := Lib.hid (HC.out.step hb); clear hb
  generalize w1.heap.size = bl at *
  obtain ⟨_, l1, l2, l3, _⟩ := HC.out
  go_wp2_with fail
  first | refine (C1.out _).mono ?_
  rintro e y1 ⟨rfl, hb⟩
  replace HC := Lib.hid (HC.out.step hb); clear hb l1 l2 l3
  obtain ⟨_, l1, l2, l3, _⟩ := HC.out
  go_wp2_with fail
  first | refine (C7.out _).mono ?_
  rintro e y2 ⟨rfl, hb⟩
  replace HC := Lib.hid (HC.out.step hb); clear hb l1 l2 l3
  obtain ⟨_, l1, l2, l3, _⟩ := HC.out
  go_wp2_with fail
  first | refine (DO.out _).mono ?_
  rintro e y3 ⟨rfl, hb⟩
  replace HC := Lib.hid (HC.out.step hb); clear hb l1 l2 l3
  go_wp2_with fail
  refine (IS.out _).mono ?_
  rintro e yy ⟨rfl, rfl⟩
  obtain ⟨_, l1, l2, l3, _⟩ := HC.out
  go_wp2_with fail
  first | refine (fails_6_0 _).mono ?_
  rintro e y4 ⟨rfl, hb⟩
  replace HC := Lib.hid (HC.out.step hb); clear hb l1 l2 l3
  obtain ⟨_, l1, l2, l3, _⟩ := HC.out
  go_wp2_with fail
  first | refine (fails_6_2 _).mono ?_
  rintro e y5 ⟨rfl, hb⟩
  replace HC := Lib.hid (HC.out.step hb); clear hb l1 l2 l3
  obtain ⟨_, l1, l2, l3, _⟩ := HC.out
  go_wp2_with fail
  first | refine (works_any _ (HI.out.below HC.out.1)).mono ?_
  rintro e y6 ⟨rfl, hb⟩
  replace HC := Lib.hid (HC.out.step hb); clear hb l1 l2 l3
  go_wp2_with fail
  go_ret
  exact ⟨rfl, HC.out.1⟩
end Go.Proofs.YthbgingclpponaaDoor.wordLawful
