/- WordLawful's walk, at each operation. -/
import Derived.Test.YthbgingclpponaaDoorWr
import Derived.Test.YthbgingclpponaaDoorWq
namespace Go.Proofs.YthbgingclpponaaDoor.wordLawful
open Go.RowKit
set_option linter.unusedVariables false
set_option maxRecDepth 100000 in
set_option maxHeartbeats 20000000 in
theorem core_9 (o n0 n1 n2 a b c : Int) (w : World) (hI : Inv w) (ho : o % 12 = 9) (h0 : wrap32 n0 = a) (h1 : wrap32 n1 = b) (h2 : wrap32 n2 = c) : Calls Tryd.prog 7 #[.int .i64 o, .agg #[.int .i64 n0, .int .i64 n1, .int .i64 n2]] w (Ret (.bool true) w) := by
  have TO : Hid (∀ w, Calls Tryd.prog 38 #[.int .i64 o, .int .i64 12] w fun e w' => e = .returned (.int .i64 9) ∧ w' = w) := Lib.hid (turn_q o 12 (by decide) (by decide) _ ho)
  have T0 : Hid (∀ w, Calls Tryd.prog 36 #[.int .i64 n0] w fun e w' => e = .returned (.int .i64 a) ∧ w' = w) := Lib.hid (bword_q n0 a h0)
  have T1 : Hid (∀ w, Calls Tryd.prog 36 #[.int .i64 n1] w fun e w' => e = .returned (.int .i64 b) ∧ w' = w) := Lib.hid (bword_q n1 b h1)
  have T2 : Hid (∀ w, Calls Tryd.prog 36 #[.int .i64 n2] w fun e w' => e = .returned (.int .i64 c) ∧ w' = w) := Lib.hid (bword_q n2 c h2)
  have ha : isW a := h0 ▸ wrap32_word n0
  have hb : isW b := h1 ▸ wrap32_word n1
  have hc : isW c := h2 ▸ wrap32_word n2
  clear ho h0 h1 h2
  have LW : Hid (∀ w, Inv w → Calls Tryd.prog 13 #[.int .i64 9] w (Ret (.tuple #[.agg #[.bool true, .bool true, .bool true], .int .i64 0]) w)) := Lib.hid (fun w h => by have := laws_any 9 w h; rw [show aB 9 = true from by decide +kernel, show cB 9 = true from by decide +kernel, show iB 9 = true from by decide +kernel, show opE 9 = 0 from by decide +kernel] at this; exact this)
  have NE : Hid (∀ w, Inv w → Calls Tryd.prog 15 #[.int .i64 9] w (Ret (.tuple #[.int .i64 (-1), .int .i64 0]) w)) := Lib.hid (fun w h => by have := neutral_any 9 w h; rw [show neN 9 = (-1) from by decide +kernel, show neE 9 = 0 from by decide +kernel] at this; exact this)
  have hop : isOpb 9 = true := by decide
  have ht : ∀ y, trapsb 9 y = false := fun y => by simp [trapsb]
  have hx := V_word 9 a b ha hb (ht _)
  have DO : Hid (∀ w, Calls Tryd.prog 11 #[.int .i64 9, .int .i64 a, .int .i64 b] w (Ret (.tuple #[.int .i64 (V 9 a b), .int .i64 0]) w)) := Lib.hid (fun w => by have := do_any 9 a b w; rw [(do_val hop ha hb (ht _)).1, (do_val hop ha hb (ht _)).2] at this; exact this)
  have IS : Hid (∀ w, Calls Tryd.prog 19 #[.int .i64 (V 9 a b)] w fun e w' => e = .returned (.bool true) ∧ w = w') := Lib.hid (fun w => is_t _ w (isWb_of _ hx))
  have C1 : Hid (∀ w, Calls Tryd.prog 39 #[.int .i64 9, .int .i64 (a), .int .i64 (b)] w (Ret (.int .i64 (V 9 a b)) w)) := Lib.hid (val_to hop ha hb (ht _) (rfl))
  have hy := V_word 9 b c hb hc (ht _)
  have C2 : Hid (∀ w, Calls Tryd.prog 39 #[.int .i64 9, .int .i64 (V 9 a b), .int .i64 (c)] w (Ret (.int .i64 (V 9 (V 9 a b) c)) w)) := Lib.hid (val_to hop hx hc (ht _) (rfl))
  have C3 : Hid (∀ w, Calls Tryd.prog 39 #[.int .i64 9, .int .i64 (b), .int .i64 (c)] w (Ret (.int .i64 (V 9 b c)) w)) := Lib.hid (val_to hop hb hc (ht _) (rfl))
  have C4 : Hid (∀ w, Calls Tryd.prog 39 #[.int .i64 9, .int .i64 (a), .int .i64 (V 9 b c)] w (Ret (.int .i64 (V 9 (V 9 a b) c)) w)) := Lib.hid (val_to hop ha hy (ht _) ((V_assoc (by decide) ha hb hc).symm))
  have C5 : Hid (∀ w, Calls Tryd.prog 39 #[.int .i64 9, .int .i64 (a), .int .i64 ((-1))] w (Ret (.int .i64 (a)) w)) := Lib.hid (val_to hop ha (by unfold isW; omega) (ht _) ((V_nt (op := 9) (by decide) ha).1))
  have C6 : Hid (∀ w, Calls Tryd.prog 39 #[.int .i64 9, .int .i64 ((-1)), .int .i64 (a)] w (Ret (.int .i64 (a)) w)) := Lib.hid (val_to hop (by unfold isW; omega) ha (ht _) ((V_nt (op := 9) (by decide) ha).2))
  have C7 : Hid (∀ w, Calls Tryd.prog 39 #[.int .i64 9, .int .i64 (b), .int .i64 (a)] w (Ret (.int .i64 (V 9 a b)) w)) := Lib.hid (val_to hop hb ha (ht _) (V_comm (by decide) ha hb))
  have C8 : Hid (∀ w, Calls Tryd.prog 39 #[.int .i64 9, .int .i64 (a), .int .i64 (a)] w (Ret (.int .i64 (a)) w)) := Lib.hid (val_to hop ha ha (ht _) (V_idem (by decide) ha))
  clear ha hb hc hx ht hy
  generalize V 9 (V 9 a b) c = x2 at *
  generalize V 9 b c = x3 at *
  generalize V 9 a b = x1 at *
  have HI := Lib.hid hI; clear hI
  go_enter Tryd.func7, Tryd.ntmps7
  go_wp2_with fail
  go_quiet ((first | (go_at_call 38; with_reducible exact Calls.quiet_of_same (TO.out _)) | (go_at_call 36; first | with_reducible exact Calls.quiet_of_same (T0.out _) | with_reducible exact Calls.quiet_of_same (T1.out _) | with_reducible exact Calls.quiet_of_same (T2.out _))))
  have HB0 := Lib.hid (below_drewN (below_new (Below.refl _ w) (.cells #[.int .i64 n0, .int .i64 n1, .int .i64 n2] 39)) nq)
  generalize (w.alloc (.cells #[.int .i64 n0, .int .i64 n1, .int .i64 n2] 39)).drewN nq = W0 at *
  go_wp2_with fail
  refine (LW.out _ (HI.out.below HB0.out)).mono ?_
  rintro e w1 ⟨rfl, hb⟩
  have HC := Lib.hid (show Carry w (w1.alloc (.cells #[.bool true, .bool true, .bool true] 26)) w1.heap.size true true true from ⟨below_new (below_step HB0.out hb) _, Lies3.new _ _ _ _⟩)
  clear hb HB0
  go_wp2_with fail
  refine (NE.out _ (HI.out.below HC.out.1)).mono ?_
  rintro e w2 ⟨rfl, hb⟩
  replace HC := Lib.hid (HC.out.step hb); clear hb
  generalize w1.heap.size = bl at *
  obtain ⟨_, l1, l2, l3, _⟩ := HC.out
  go_wp2_with fail
  first | refine (C1.out _).mono ?_
  rintro e y1 ⟨rfl, hb⟩
  replace HC := Lib.hid (HC.out.step hb); clear hb l1 l2 l3
  obtain ⟨_, l1, l2, l3, _⟩ := HC.out
  go_wp2_with fail
  first | refine (C2.out _).mono ?_
  rintro e y2 ⟨rfl, hb⟩
  replace HC := Lib.hid (HC.out.step hb); clear hb l1 l2 l3
  obtain ⟨_, l1, l2, l3, _⟩ := HC.out
  go_wp2_with fail
  first | refine (C3.out _).mono ?_
  rintro e y3 ⟨rfl, hb⟩
  replace HC := Lib.hid (HC.out.step hb); clear hb l1 l2 l3
  obtain ⟨_, l1, l2, l3, _⟩ := HC.out
  go_wp2_with fail
  first | refine (C4.out _).mono ?_
  rintro e y4 ⟨rfl, hb⟩
  replace HC := Lib.hid (HC.out.step hb); clear hb l1 l2 l3
  obtain ⟨_, l1, l2, l3, _⟩ := HC.out
  go_wp2_with fail
  first | refine (C5.out _).mono ?_
  rintro e y5 ⟨rfl, hb⟩
  replace HC := Lib.hid (HC.out.step hb); clear hb l1 l2 l3
  obtain ⟨_, l1, l2, l3, _⟩ := HC.out
  go_wp2_with fail
  first | refine (C6.out _).mono ?_
  rintro e y6 ⟨rfl, hb⟩
  replace HC := Lib.hid (HC.out.step hb); clear hb l1 l2 l3
  obtain ⟨_, l1, l2, l3, _⟩ := HC.out
  go_wp2_with fail
  first | refine (C1.out _).mono ?_
  rintro e y7 ⟨rfl, hb⟩
  replace HC := Lib.hid (HC.out.step hb); clear hb l1 l2 l3
  obtain ⟨_, l1, l2, l3, _⟩ := HC.out
  go_wp2_with fail
  first | refine (C7.out _).mono ?_
  rintro e y8 ⟨rfl, hb⟩
  replace HC := Lib.hid (HC.out.step hb); clear hb l1 l2 l3
  obtain ⟨_, l1, l2, l3, _⟩ := HC.out
  go_wp2_with fail
  first | refine (C8.out _).mono ?_
  rintro e y9 ⟨rfl, hb⟩
  replace HC := Lib.hid (HC.out.step hb); clear hb l1 l2 l3
  obtain ⟨_, l1, l2, l3, _⟩ := HC.out
  go_wp2_with fail
  first | refine (DO.out _).mono ?_
  rintro e y10 ⟨rfl, hb⟩
  replace HC := Lib.hid (HC.out.step hb); clear hb l1 l2 l3
  go_wp2_with fail
  refine (IS.out _).mono ?_
  rintro e yy ⟨rfl, rfl⟩
  obtain ⟨_, l1, l2, l3, _⟩ := HC.out
  go_wp2_with fail
  first | refine (works_any _ (HI.out.below HC.out.1)).mono ?_
  rintro e y11 ⟨rfl, hb⟩
  replace HC := Lib.hid (HC.out.step hb); clear hb l1 l2 l3
  go_wp2_with fail
  go_ret
  exact ⟨rfl, HC.out.1⟩
set_option maxRecDepth 100000 in
set_option maxHeartbeats 20000000 in
theorem core_10 (o n0 n1 n2 a b c : Int) (w : World) (hI : Inv w) (ho : o % 12 = 10) (h0 : wrap32 n0 = a) (h1 : wrap32 n1 = b) (h2 : wrap32 n2 = c) : Calls Tryd.prog 7 #[.int .i64 o, .agg #[.int .i64 n0, .int .i64 n1, .int .i64 n2]] w (Ret (.bool true) w) := by
  have TO : Hid (∀ w, Calls Tryd.prog 38 #[.int .i64 o, .int .i64 12] w fun e w' => e = .returned (.int .i64 10) ∧ w' = w) := Lib.hid (turn_q o 12 (by decide) (by decide) _ ho)
  have T0 : Hid (∀ w, Calls Tryd.prog 36 #[.int .i64 n0] w fun e w' => e = .returned (.int .i64 a) ∧ w' = w) := Lib.hid (bword_q n0 a h0)
  have T1 : Hid (∀ w, Calls Tryd.prog 36 #[.int .i64 n1] w fun e w' => e = .returned (.int .i64 b) ∧ w' = w) := Lib.hid (bword_q n1 b h1)
  have T2 : Hid (∀ w, Calls Tryd.prog 36 #[.int .i64 n2] w fun e w' => e = .returned (.int .i64 c) ∧ w' = w) := Lib.hid (bword_q n2 c h2)
  have ha : isW a := h0 ▸ wrap32_word n0
  have hb : isW b := h1 ▸ wrap32_word n1
  have hc : isW c := h2 ▸ wrap32_word n2
  clear ho h0 h1 h2
  have LW : Hid (∀ w, Inv w → Calls Tryd.prog 13 #[.int .i64 10] w (Ret (.tuple #[.agg #[.bool true, .bool true, .bool true], .int .i64 0]) w)) := Lib.hid (fun w h => by have := laws_any 10 w h; rw [show aB 10 = true from by decide +kernel, show cB 10 = true from by decide +kernel, show iB 10 = true from by decide +kernel, show opE 10 = 0 from by decide +kernel] at this; exact this)
  have NE : Hid (∀ w, Inv w → Calls Tryd.prog 15 #[.int .i64 10] w (Ret (.tuple #[.int .i64 0, .int .i64 0]) w)) := Lib.hid (fun w h => by have := neutral_any 10 w h; rw [show neN 10 = 0 from by decide +kernel, show neE 10 = 0 from by decide +kernel] at this; exact this)
  have hop : isOpb 10 = true := by decide
  have ht : ∀ y, trapsb 10 y = false := fun y => by simp [trapsb]
  have hx := V_word 10 a b ha hb (ht _)
  have DO : Hid (∀ w, Calls Tryd.prog 11 #[.int .i64 10, .int .i64 a, .int .i64 b] w (Ret (.tuple #[.int .i64 (V 10 a b), .int .i64 0]) w)) := Lib.hid (fun w => by have := do_any 10 a b w; rw [(do_val hop ha hb (ht _)).1, (do_val hop ha hb (ht _)).2] at this; exact this)
  have IS : Hid (∀ w, Calls Tryd.prog 19 #[.int .i64 (V 10 a b)] w fun e w' => e = .returned (.bool true) ∧ w = w') := Lib.hid (fun w => is_t _ w (isWb_of _ hx))
  have C1 : Hid (∀ w, Calls Tryd.prog 39 #[.int .i64 10, .int .i64 (a), .int .i64 (b)] w (Ret (.int .i64 (V 10 a b)) w)) := Lib.hid (val_to hop ha hb (ht _) (rfl))
  have hy := V_word 10 b c hb hc (ht _)
  have C2 : Hid (∀ w, Calls Tryd.prog 39 #[.int .i64 10, .int .i64 (V 10 a b), .int .i64 (c)] w (Ret (.int .i64 (V 10 (V 10 a b) c)) w)) := Lib.hid (val_to hop hx hc (ht _) (rfl))
  have C3 : Hid (∀ w, Calls Tryd.prog 39 #[.int .i64 10, .int .i64 (b), .int .i64 (c)] w (Ret (.int .i64 (V 10 b c)) w)) := Lib.hid (val_to hop hb hc (ht _) (rfl))
  have C4 : Hid (∀ w, Calls Tryd.prog 39 #[.int .i64 10, .int .i64 (a), .int .i64 (V 10 b c)] w (Ret (.int .i64 (V 10 (V 10 a b) c)) w)) := Lib.hid (val_to hop ha hy (ht _) ((V_assoc (by decide) ha hb hc).symm))
  have C5 : Hid (∀ w, Calls Tryd.prog 39 #[.int .i64 10, .int .i64 (a), .int .i64 (0)] w (Ret (.int .i64 (a)) w)) := Lib.hid (val_to hop ha (by unfold isW; omega) (ht _) ((V_nt (op := 10) (by decide) ha).1))
  have C6 : Hid (∀ w, Calls Tryd.prog 39 #[.int .i64 10, .int .i64 (0), .int .i64 (a)] w (Ret (.int .i64 (a)) w)) := Lib.hid (val_to hop (by unfold isW; omega) ha (ht _) ((V_nt (op := 10) (by decide) ha).2))
  have C7 : Hid (∀ w, Calls Tryd.prog 39 #[.int .i64 10, .int .i64 (b), .int .i64 (a)] w (Ret (.int .i64 (V 10 a b)) w)) := Lib.hid (val_to hop hb ha (ht _) (V_comm (by decide) ha hb))
  have C8 : Hid (∀ w, Calls Tryd.prog 39 #[.int .i64 10, .int .i64 (a), .int .i64 (a)] w (Ret (.int .i64 (a)) w)) := Lib.hid (val_to hop ha ha (ht _) (V_idem (by decide) ha))
  clear ha hb hc hx ht hy
  generalize V 10 (V 10 a b) c = x2 at *
  generalize V 10 b c = x3 at *
  generalize V 10 a b = x1 at *
  have HI := Lib.hid hI; clear hI
  go_enter Tryd.func7, Tryd.ntmps7
  go_wp2_with fail
  go_quiet ((first | (go_at_call 38; with_reducible exact Calls.quiet_of_same (TO.out _)) | (go_at_call 36; first | with_reducible exact Calls.quiet_of_same (T0.out _) | with_reducible exact Calls.quiet_of_same (T1.out _) | with_reducible exact Calls.quiet_of_same (T2.out _))))
  have HB0 := Lib.hid (below_drewN (below_new (Below.refl _ w) (.cells #[.int .i64 n0, .int .i64 n1, .int .i64 n2] 39)) nq)
  generalize (w.alloc (.cells #[.int .i64 n0, .int .i64 n1, .int .i64 n2] 39)).drewN nq = W0 at *
  go_wp2_with fail
  refine (LW.out _ (HI.out.below HB0.out)).mono ?_
  rintro e w1 ⟨rfl, hb⟩
  have HC := Lib.hid (show Carry w (w1.alloc (.cells #[.bool true, .bool true, .bool true] 26)) w1.heap.size true true true from ⟨below_new (below_step HB0.out hb) _, Lies3.new _ _ _ _⟩)
  clear hb HB0
  go_wp2_with fail
  refine (NE.out _ (HI.out.below HC.out.1)).mono ?_
  rintro e w2 ⟨rfl, hb⟩
  replace HC := Lib.hid (HC.out.step hb); clear hb
  generalize w1.heap.size = bl at *
  obtain ⟨_, l1, l2, l3, _⟩ := HC.out
  go_wp2_with fail
  first | refine (C1.out _).mono ?_
  rintro e y1 ⟨rfl, hb⟩
  replace HC := Lib.hid (HC.out.step hb); clear hb l1 l2 l3
  obtain ⟨_, l1, l2, l3, _⟩ := HC.out
  go_wp2_with fail
  first | refine (C2.out _).mono ?_
  rintro e y2 ⟨rfl, hb⟩
  replace HC := Lib.hid (HC.out.step hb); clear hb l1 l2 l3
  obtain ⟨_, l1, l2, l3, _⟩ := HC.out
  go_wp2_with fail
  first | refine (C3.out _).mono ?_
  rintro e y3 ⟨rfl, hb⟩
  replace HC := Lib.hid (HC.out.step hb); clear hb l1 l2 l3
  obtain ⟨_, l1, l2, l3, _⟩ := HC.out
  go_wp2_with fail
  first | refine (C4.out _).mono ?_
  rintro e y4 ⟨rfl, hb⟩
  replace HC := Lib.hid (HC.out.step hb); clear hb l1 l2 l3
  obtain ⟨_, l1, l2, l3, _⟩ := HC.out
  go_wp2_with fail
  first | refine (C5.out _).mono ?_
  rintro e y5 ⟨rfl, hb⟩
  replace HC := Lib.hid (HC.out.step hb); clear hb l1 l2 l3
  obtain ⟨_, l1, l2, l3, _⟩ := HC.out
  go_wp2_with fail
  first | refine (C6.out _).mono ?_
  rintro e y6 ⟨rfl, hb⟩
  replace HC := Lib.hid (HC.out.step hb); clear hb l1 l2 l3
  obtain ⟨_, l1, l2, l3, _⟩ := HC.out
  go_wp2_with fail
  first | refine (C1.out _).mono ?_
  rintro e y7 ⟨rfl, hb⟩
  replace HC := Lib.hid (HC.out.step hb); clear hb l1 l2 l3
  obtain ⟨_, l1, l2, l3, _⟩ := HC.out
  go_wp2_with fail
  first | refine (C7.out _).mono ?_
  rintro e y8 ⟨rfl, hb⟩
  replace HC := Lib.hid (HC.out.step hb); clear hb l1 l2 l3
  obtain ⟨_, l1, l2, l3, _⟩ := HC.out
  go_wp2_with fail
  first | refine (C8.out _).mono ?_
  rintro e y9 ⟨rfl, hb⟩
  replace HC := Lib.hid (HC.out.step hb); clear hb l1 l2 l3
  obtain ⟨_, l1, l2, l3, _⟩ := HC.out
  go_wp2_with fail
  first | refine (DO.out _).mono ?_
  rintro e y10 ⟨rfl, hb⟩
  replace HC := Lib.hid (HC.out.step hb); clear hb l1 l2 l3
  go_wp2_with fail
  refine (IS.out _).mono ?_
  rintro e yy ⟨rfl, rfl⟩
  obtain ⟨_, l1, l2, l3, _⟩ := HC.out
  go_wp2_with fail
  first | refine (works_any _ (HI.out.below HC.out.1)).mono ?_
  rintro e y11 ⟨rfl, hb⟩
  replace HC := Lib.hid (HC.out.step hb); clear hb l1 l2 l3
  go_wp2_with fail
  go_ret
  exact ⟨rfl, HC.out.1⟩
set_option maxRecDepth 100000 in
set_option maxHeartbeats 20000000 in
theorem core_11 (o n0 n1 n2 a b c : Int) (w : World) (hI : Inv w) (ho : o % 12 = 11) (h0 : wrap32 n0 = a) (h1 : wrap32 n1 = b) (h2 : wrap32 n2 = c) : Calls Tryd.prog 7 #[.int .i64 o, .agg #[.int .i64 n0, .int .i64 n1, .int .i64 n2]] w (Ret (.bool true) w) := by
  have TO : Hid (∀ w, Calls Tryd.prog 38 #[.int .i64 o, .int .i64 12] w fun e w' => e = .returned (.int .i64 11) ∧ w' = w) := Lib.hid (turn_q o 12 (by decide) (by decide) _ ho)
  have T0 : Hid (∀ w, Calls Tryd.prog 36 #[.int .i64 n0] w fun e w' => e = .returned (.int .i64 a) ∧ w' = w) := Lib.hid (bword_q n0 a h0)
  have T1 : Hid (∀ w, Calls Tryd.prog 36 #[.int .i64 n1] w fun e w' => e = .returned (.int .i64 b) ∧ w' = w) := Lib.hid (bword_q n1 b h1)
  have T2 : Hid (∀ w, Calls Tryd.prog 36 #[.int .i64 n2] w fun e w' => e = .returned (.int .i64 c) ∧ w' = w) := Lib.hid (bword_q n2 c h2)
  have ha : isW a := h0 ▸ wrap32_word n0
  have hb : isW b := h1 ▸ wrap32_word n1
  have hc : isW c := h2 ▸ wrap32_word n2
  clear ho h0 h1 h2
  have LW : Hid (∀ w, Inv w → Calls Tryd.prog 13 #[.int .i64 11] w (Ret (.tuple #[.agg #[.bool true, .bool true, .bool false], .int .i64 0]) w)) := Lib.hid (fun w h => by have := laws_any 11 w h; rw [show aB 11 = true from by decide +kernel, show cB 11 = true from by decide +kernel, show iB 11 = false from by decide +kernel, show opE 11 = 0 from by decide +kernel] at this; exact this)
  have NE : Hid (∀ w, Inv w → Calls Tryd.prog 15 #[.int .i64 11] w (Ret (.tuple #[.int .i64 0, .int .i64 0]) w)) := Lib.hid (fun w h => by have := neutral_any 11 w h; rw [show neN 11 = 0 from by decide +kernel, show neE 11 = 0 from by decide +kernel] at this; exact this)
  have hop : isOpb 11 = true := by decide
  have ht : ∀ y, trapsb 11 y = false := fun y => by simp [trapsb]
  have hx := V_word 11 a b ha hb (ht _)
  have DO : Hid (∀ w, Calls Tryd.prog 11 #[.int .i64 11, .int .i64 a, .int .i64 b] w (Ret (.tuple #[.int .i64 (V 11 a b), .int .i64 0]) w)) := Lib.hid (fun w => by have := do_any 11 a b w; rw [(do_val hop ha hb (ht _)).1, (do_val hop ha hb (ht _)).2] at this; exact this)
  have IS : Hid (∀ w, Calls Tryd.prog 19 #[.int .i64 (V 11 a b)] w fun e w' => e = .returned (.bool true) ∧ w = w') := Lib.hid (fun w => is_t _ w (isWb_of _ hx))
  have C1 : Hid (∀ w, Calls Tryd.prog 39 #[.int .i64 11, .int .i64 (a), .int .i64 (b)] w (Ret (.int .i64 (V 11 a b)) w)) := Lib.hid (val_to hop ha hb (ht _) (rfl))
  have hy := V_word 11 b c hb hc (ht _)
  have C2 : Hid (∀ w, Calls Tryd.prog 39 #[.int .i64 11, .int .i64 (V 11 a b), .int .i64 (c)] w (Ret (.int .i64 (V 11 (V 11 a b) c)) w)) := Lib.hid (val_to hop hx hc (ht _) (rfl))
  have C3 : Hid (∀ w, Calls Tryd.prog 39 #[.int .i64 11, .int .i64 (b), .int .i64 (c)] w (Ret (.int .i64 (V 11 b c)) w)) := Lib.hid (val_to hop hb hc (ht _) (rfl))
  have C4 : Hid (∀ w, Calls Tryd.prog 39 #[.int .i64 11, .int .i64 (a), .int .i64 (V 11 b c)] w (Ret (.int .i64 (V 11 (V 11 a b) c)) w)) := Lib.hid (val_to hop ha hy (ht _) ((V_assoc (by decide) ha hb hc).symm))
  have C5 : Hid (∀ w, Calls Tryd.prog 39 #[.int .i64 11, .int .i64 (a), .int .i64 (0)] w (Ret (.int .i64 (a)) w)) := Lib.hid (val_to hop ha (by unfold isW; omega) (ht _) ((V_nt (op := 11) (by decide) ha).1))
  have C6 : Hid (∀ w, Calls Tryd.prog 39 #[.int .i64 11, .int .i64 (0), .int .i64 (a)] w (Ret (.int .i64 (a)) w)) := Lib.hid (val_to hop (by unfold isW; omega) ha (ht _) ((V_nt (op := 11) (by decide) ha).2))
  have C7 : Hid (∀ w, Calls Tryd.prog 39 #[.int .i64 11, .int .i64 (b), .int .i64 (a)] w (Ret (.int .i64 (V 11 a b)) w)) := Lib.hid (val_to hop hb ha (ht _) (V_comm (by decide) ha hb))
  clear ha hb hc hx ht hy
  generalize V 11 (V 11 a b) c = x2 at *
  generalize V 11 b c = x3 at *
  generalize V 11 a b = x1 at *
  have HI := Lib.hid hI; clear hI
  go_enter Tryd.func7, Tryd.ntmps7
  go_wp2_with fail
  go_quiet ((first | (go_at_call 38; with_reducible exact Calls.quiet_of_same (TO.out _)) | (go_at_call 36; first | with_reducible exact Calls.quiet_of_same (T0.out _) | with_reducible exact Calls.quiet_of_same (T1.out _) | with_reducible exact Calls.quiet_of_same (T2.out _))))
  have HB0 := Lib.hid (below_drewN (below_new (Below.refl _ w) (.cells #[.int .i64 n0, .int .i64 n1, .int .i64 n2] 39)) nq)
  generalize (w.alloc (.cells #[.int .i64 n0, .int .i64 n1, .int .i64 n2] 39)).drewN nq = W0 at *
  go_wp2_with fail
  refine (LW.out _ (HI.out.below HB0.out)).mono ?_
  rintro e w1 ⟨rfl, hb⟩
  have HC := Lib.hid (show Carry w (w1.alloc (.cells #[.bool true, .bool true, .bool false] 26)) w1.heap.size true true false from ⟨below_new (below_step HB0.out hb) _, Lies3.new _ _ _ _⟩)
  clear hb HB0
  go_wp2_with fail
  refine (NE.out _ (HI.out.below HC.out.1)).mono ?_
  rintro e w2 ⟨rfl, hb⟩
  replace HC := Lib.hid (HC.out.step hb); clear hb
  generalize w1.heap.size = bl at *
  obtain ⟨_, l1, l2, l3, _⟩ := HC.out
  go_wp2_with fail
  first | refine (C1.out _).mono ?_
  rintro e y1 ⟨rfl, hb⟩
  replace HC := Lib.hid (HC.out.step hb); clear hb l1 l2 l3
  obtain ⟨_, l1, l2, l3, _⟩ := HC.out
  go_wp2_with fail
  first | refine (C2.out _).mono ?_
  rintro e y2 ⟨rfl, hb⟩
  replace HC := Lib.hid (HC.out.step hb); clear hb l1 l2 l3
  obtain ⟨_, l1, l2, l3, _⟩ := HC.out
  go_wp2_with fail
  first | refine (C3.out _).mono ?_
  rintro e y3 ⟨rfl, hb⟩
  replace HC := Lib.hid (HC.out.step hb); clear hb l1 l2 l3
  obtain ⟨_, l1, l2, l3, _⟩ := HC.out
  go_wp2_with fail
  first | refine (C4.out _).mono ?_
  rintro e y4 ⟨rfl, hb⟩
  replace HC := Lib.hid (HC.out.step hb); clear hb l1 l2 l3
  obtain ⟨_, l1, l2, l3, _⟩ := HC.out
  go_wp2_with fail
  first | refine (C5.out _).mono ?_
  rintro e y5 ⟨rfl, hb⟩
  replace HC := Lib.hid (HC.out.step hb); clear hb l1 l2 l3
  obtain ⟨_, l1, l2, l3, _⟩ := HC.out
  go_wp2_with fail
  first | refine (C6.out _).mono ?_
  rintro e y6 ⟨rfl, hb⟩
  replace HC := Lib.hid (HC.out.step hb); clear hb l1 l2 l3
  obtain ⟨_, l1, l2, l3, _⟩ := HC.out
  go_wp2_with fail
  first | refine (C1.out _).mono ?_
  rintro e y7 ⟨rfl, hb⟩
  replace HC := Lib.hid (HC.out.step hb); clear hb l1 l2 l3
  obtain ⟨_, l1, l2, l3, _⟩ := HC.out
  go_wp2_with fail
  first | refine (C7.out _).mono ?_
  rintro e y8 ⟨rfl, hb⟩
  replace HC := Lib.hid (HC.out.step hb); clear hb l1 l2 l3
  obtain ⟨_, l1, l2, l3, _⟩ := HC.out
  go_wp2_with fail
  first | refine (DO.out _).mono ?_
  rintro e y9 ⟨rfl, hb⟩
  replace HC := Lib.hid (HC.out.step hb); clear hb l1 l2 l3
  go_wp2_with fail
  refine (IS.out _).mono ?_
  rintro e yy ⟨rfl, rfl⟩
  obtain ⟨_, l1, l2, l3, _⟩ := HC.out
  go_wp2_with fail
  first | refine (fails_11_2 _).mono ?_
  rintro e y10 ⟨rfl, hb⟩
  replace HC := Lib.hid (HC.out.step hb); clear hb l1 l2 l3
  obtain ⟨_, l1, l2, l3, _⟩ := HC.out
  go_wp2_with fail
  first | refine (works_any _ (HI.out.below HC.out.1)).mono ?_
  rintro e y11 ⟨rfl, hb⟩
  replace HC := Lib.hid (HC.out.step hb); clear hb l1 l2 l3
  go_wp2_with fail
  go_ret
  exact ⟨rfl, HC.out.1⟩
end Go.Proofs.YthbgingclpponaaDoor.wordLawful
