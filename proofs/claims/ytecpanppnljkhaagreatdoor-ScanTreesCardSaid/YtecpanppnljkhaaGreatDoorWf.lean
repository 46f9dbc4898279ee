/- Walks, part f: Neutral, of both sides. -/
import Derived.Test.YtecpanppnljkhaaGreatDoorWe
namespace Go.Proofs.YtecpanppnljkhaaGreatDoor
set_option linter.unusedVariables false
open Go.RowKit
theorem neutral_t (op : Int) (w : World) (hI : Inv w) (ha : aB op = true) : Calls Tryz.prog 86 #[.int .i64 op] w (Ret (.tuple #[.int .i64 (nt op), .int .i64 0]) w) := by
  have ho := aB_op ha
  obtain ⟨k, rfl, hk, hk'⟩ := opNat ho
  have HL := Lib.hid (laws_t k w hI ho)
  have HA := Lib.hid ha
  clear ho ha
  go_enter Tryz.func86, Tryz.ntmps86
  go_wp2_with fail
  rw [HA.out] at HL
  refine HL.out.mono ?_
  rintro e w1 ⟨rfl, hb⟩
  have hI1 := hI.below hb
  have hal := alloc_old hI1
  have h1 := hI1.neut k hk
  have hsz := hI1.size
  go_wp2
  go_ret2
  exact ⟨rfl, hb.trans (((Below.refl _ _).alloc hb.size _))⟩
theorem neutral_n (op : Int) (w : World) (hI : Inv w) (ho : isOpb op = true) (ha : aB op = false) : Calls Tryz.prog 86 #[.int .i64 op] w (Ret (.tuple #[.int .i64 0, .int .i64 4]) w) := by
  have HL := Lib.hid (laws_t op w hI ho)
  have HA := Lib.hid ha
  clear ho ha
  go_enter Tryz.func86, Tryz.ntmps86
  go_wp2_with fail
  rw [HA.out] at HL
  refine HL.out.mono ?_
  rintro e w1 ⟨rfl, hb⟩
  go_wp2
  go_ret2
  exact ⟨rfl, hb.trans (((Below.refl _ _).alloc hb.size _))⟩
theorem neutral_f (op : Int) (w : World) (ho : isOpb op = false) : Calls Tryz.prog 86 #[.int .i64 op] w (Ret (.tuple #[.int .i64 0, .int .i64 1]) w) := by
  have HL := Lib.hid (laws_f op w ho)
  clear ho
  go_enter Tryz.func86, Tryz.ntmps86
  go_wp2_with fail
  refine HL.out.mono ?_
  rintro e w1 ⟨rfl, hb⟩
  go_wp2
  go_ret2
  exact ⟨rfl, hb.trans (((Below.refl _ _).alloc hb.size _))⟩
theorem neutral_any (op : Int) (w : World) (hI : Inv w) : Calls Tryz.prog 86 #[.int .i64 op] w (Ret (.tuple #[.int .i64 (neN op), .int .i64 (neE op)]) w) := by
  by_cases ho : isOpb op = true
  · by_cases ha : aB op = true
    · rw [show neN op = nt op from by simp [neN, ha], show neE op = 0 from by simp [neE, ha, ho]]; exact neutral_t op w hI ha
    · rw [show neN op = 0 from by simp [neN, ha], show neE op = 4 from by simp [neE, ha, ho]]; exact neutral_n op w hI ho (bf ha)
  · rw [show neN op = 0 from by simp [neN, isOpb_not_aB (bf ho)], show neE op = 1 from by simp [neE, ho]]; exact neutral_f op w (bf ho)
theorem rlaws0 (w : World) : Calls Tryz.prog 72 #[.int .i64 0] w (Ret (.tuple #[.agg #[.bool (aB 0), .bool (cB 0), .bool (iB 0)], .int .i64 0]) w) := by
  have HO : Hid (isOpb 0 = true) := Lib.hid (by decide)
  have HX : Hid ((aB 0, cB 0, iB 0) = (true, true, false)) := Lib.hid (by decide)
  go_enter Tryz.func72, Tryz.ntmps72
  go_wp2_with (first | (go_at_call 94; refine (risop_t _ _ HO.out).mono ?_; rintro e w2 ⟨rfl, rfl⟩) | (go_at_call 52; refine (lies_any _ _ _ _).mono ?_; rintro e w2 ⟨rfl, rfl⟩))
  exact bodyPost_ret (v := .tuple #[.agg #[.bool true, .bool true, .bool false], .int .i64 0]) (by simp [results, Tryz.results72, go_sem]) rfl ⟨rfl, (Below.refl _ _).alloc (Nat.le_refl _) _⟩
theorem rlaws1 (w : World) : Calls Tryz.prog 72 #[.int .i64 1] w (Ret (.tuple #[.agg #[.bool (aB 1), .bool (cB 1), .bool (iB 1)], .int .i64 0]) w) := by
  have HO : Hid (isOpb 1 = true) := Lib.hid (by decide)
  have HX : Hid ((aB 1, cB 1, iB 1) = (false, false, false)) := Lib.hid (by decide)
  go_enter Tryz.func72, Tryz.ntmps72
  go_wp2_with (first | (go_at_call 94; refine (risop_t _ _ HO.out).mono ?_; rintro e w2 ⟨rfl, rfl⟩) | (go_at_call 52; refine (lies_any _ _ _ _).mono ?_; rintro e w2 ⟨rfl, rfl⟩))
  exact bodyPost_ret (v := .tuple #[.agg #[.bool false, .bool false, .bool false], .int .i64 0]) (by simp [results, Tryz.results72, go_sem]) rfl ⟨rfl, (Below.refl _ _).alloc (Nat.le_refl _) _⟩
theorem rlaws2 (w : World) : Calls Tryz.prog 72 #[.int .i64 2] w (Ret (.tuple #[.agg #[.bool (aB 2), .bool (cB 2), .bool (iB 2)], .int .i64 0]) w) := by
  have HO : Hid (isOpb 2 = true) := Lib.hid (by decide)
  have HX : Hid ((aB 2, cB 2, iB 2) = (true, true, false)) := Lib.hid (by decide)
  go_enter Tryz.func72, Tryz.ntmps72
  go_wp2_with (first | (go_at_call 94; refine (risop_t _ _ HO.out).mono ?_; rintro e w2 ⟨rfl, rfl⟩) | (go_at_call 52; refine (lies_any _ _ _ _).mono ?_; rintro e w2 ⟨rfl, rfl⟩))
  exact bodyPost_ret (v := .tuple #[.agg #[.bool true, .bool true, .bool false], .int .i64 0]) (by simp [results, Tryz.results72, go_sem]) rfl ⟨rfl, (Below.refl _ _).alloc (Nat.le_refl _) _⟩
theorem rlaws3 (w : World) : Calls Tryz.prog 72 #[.int .i64 3] w (Ret (.tuple #[.agg #[.bool (aB 3), .bool (cB 3), .bool (iB 3)], .int .i64 0]) w) := by
  have HO : Hid (isOpb 3 = true) := Lib.hid (by decide)
  have HX : Hid ((aB 3, cB 3, iB 3) = (false, false, false)) := Lib.hid (by decide)
  go_enter Tryz.func72, Tryz.ntmps72
  go_wp2_with (first | (go_at_call 94; refine (risop_t _ _ HO.out).mono ?_; rintro e w2 ⟨rfl, rfl⟩) | (go_at_call 52; refine (lies_any _ _ _ _).mono ?_; rintro e w2 ⟨rfl, rfl⟩))
  exact bodyPost_ret (v := .tuple #[.agg #[.bool false, .bool false, .bool false], .int .i64 0]) (by simp [results, Tryz.results72, go_sem]) rfl ⟨rfl, (Below.refl _ _).alloc (Nat.le_refl _) _⟩
theorem rlaws4 (w : World) : Calls Tryz.prog 72 #[.int .i64 4] w (Ret (.tuple #[.agg #[.bool (aB 4), .bool (cB 4), .bool (iB 4)], .int .i64 0]) w) := by
  have HO : Hid (isOpb 4 = true) := Lib.hid (by decide)
  have HX : Hid ((aB 4, cB 4, iB 4) = (false, false, false)) := Lib.hid (by decide)
  go_enter Tryz.func72, Tryz.ntmps72
  go_wp2_with (first | (go_at_call 94; refine (risop_t _ _ HO.out).mono ?_; rintro e w2 ⟨rfl, rfl⟩) | (go_at_call 52; refine (lies_any _ _ _ _).mono ?_; rintro e w2 ⟨rfl, rfl⟩))
  exact bodyPost_ret (v := .tuple #[.agg #[.bool false, .bool false, .bool false], .int .i64 0]) (by simp [results, Tryz.results72, go_sem]) rfl ⟨rfl, (Below.refl _ _).alloc (Nat.le_refl _) _⟩
theorem rlaws5 (w : World) : Calls Tryz.prog 72 #[.int .i64 5] w (Ret (.tuple #[.agg #[.bool (aB 5), .bool (cB 5), .bool (iB 5)], .int .i64 0]) w) := by
  have HO : Hid (isOpb 5 = true) := Lib.hid (by decide)
  have HX : Hid ((aB 5, cB 5, iB 5) = (false, false, false)) := Lib.hid (by decide)
  go_enter Tryz.func72, Tryz.ntmps72
  go_wp2_with (first | (go_at_call 94; refine (risop_t _ _ HO.out).mono ?_; rintro e w2 ⟨rfl, rfl⟩) | (go_at_call 52; refine (lies_any _ _ _ _).mono ?_; rintro e w2 ⟨rfl, rfl⟩))
  exact bodyPost_ret (v := .tuple #[.agg #[.bool false, .bool false, .bool false], .int .i64 0]) (by simp [results, Tryz.results72, go_sem]) rfl ⟨rfl, (Below.refl _ _).alloc (Nat.le_refl _) _⟩
theorem rlaws6 (w : World) : Calls Tryz.prog 72 #[.int .i64 6] w (Ret (.tuple #[.agg #[.bool (aB 6), .bool (cB 6), .bool (iB 6)], .int .i64 0]) w) := by
  have HO : Hid (isOpb 6 = true) := Lib.hid (by decide)
  have HX : Hid ((aB 6, cB 6, iB 6) = (false, true, false)) := Lib.hid (by decide)
  go_enter Tryz.func72, Tryz.ntmps72
  go_wp2_with (first | (go_at_call 94; refine (risop_t _ _ HO.out).mono ?_; rintro e w2 ⟨rfl, rfl⟩) | (go_at_call 52; refine (lies_any _ _ _ _).mono ?_; rintro e w2 ⟨rfl, rfl⟩))
  exact bodyPost_ret (v := .tuple #[.agg #[.bool false, .bool true, .bool false], .int .i64 0]) (by simp [results, Tryz.results72, go_sem]) rfl ⟨rfl, (Below.refl _ _).alloc (Nat.le_refl _) _⟩
theorem rlaws7 (w : World) : Calls Tryz.prog 72 #[.int .i64 7] w (Ret (.tuple #[.agg #[.bool (aB 7), .bool (cB 7), .bool (iB 7)], .int .i64 0]) w) := by
  have HO : Hid (isOpb 7 = true) := Lib.hid (by decide)
  have HX : Hid ((aB 7, cB 7, iB 7) = (true, true, true)) := Lib.hid (by decide)
  go_enter Tryz.func72, Tryz.ntmps72
  go_wp2_with (first | (go_at_call 94; refine (risop_t _ _ HO.out).mono ?_; rintro e w2 ⟨rfl, rfl⟩) | (go_at_call 52; refine (lies_any _ _ _ _).mono ?_; rintro e w2 ⟨rfl, rfl⟩))
  exact bodyPost_ret (v := .tuple #[.agg #[.bool true, .bool true, .bool true], .int .i64 0]) (by simp [results, Tryz.results72, go_sem]) rfl ⟨rfl, (Below.refl _ _).alloc (Nat.le_refl _) _⟩
theorem rlaws8 (w : World) : Calls Tryz.prog 72 #[.int .i64 8] w (Ret (.tuple #[.agg #[.bool (aB 8), .bool (cB 8), .bool (iB 8)], .int .i64 0]) w) := by
  have HO : Hid (isOpb 8 = true) := Lib.hid (by decide)
  have HX : Hid ((aB 8, cB 8, iB 8) = (true, true, true)) := Lib.hid (by decide)
  go_enter Tryz.func72, Tryz.ntmps72
  go_wp2_with (first | (go_at_call 94; refine (risop_t _ _ HO.out).mono ?_; rintro e w2 ⟨rfl, rfl⟩) | (go_at_call 52; refine (lies_any _ _ _ _).mono ?_; rintro e w2 ⟨rfl, rfl⟩))
  exact bodyPost_ret (v := .tuple #[.agg #[.bool true, .bool true, .bool true], .int .i64 0]) (by simp [results, Tryz.results72, go_sem]) rfl ⟨rfl, (Below.refl _ _).alloc (Nat.le_refl _) _⟩
theorem rlaws9 (w : World) : Calls Tryz.prog 72 #[.int .i64 9] w (Ret (.tuple #[.agg #[.bool (aB 9), .bool (cB 9), .bool (iB 9)], .int .i64 0]) w) := by
  have HO : Hid (isOpb 9 = true) := Lib.hid (by decide)
  have HX : Hid ((aB 9, cB 9, iB 9) = (true, true, true)) := Lib.hid (by decide)
  go_enter Tryz.func72, Tryz.ntmps72
  go_wp2_with (first | (go_at_call 94; refine (risop_t _ _ HO.out).mono ?_; rintro e w2 ⟨rfl, rfl⟩) | (go_at_call 52; refine (lies_any _ _ _ _).mono ?_; rintro e w2 ⟨rfl, rfl⟩))
  exact bodyPost_ret (v := .tuple #[.agg #[.bool true, .bool true, .bool true], .int .i64 0]) (by simp [results, Tryz.results72, go_sem]) rfl ⟨rfl, (Below.refl _ _).alloc (Nat.le_refl _) _⟩
theorem rlaws10 (w : World) : Calls Tryz.prog 72 #[.int .i64 10] w (Ret (.tuple #[.agg #[.bool (aB 10), .bool (cB 10), .bool (iB 10)], .int .i64 0]) w) := by
  have HO : Hid (isOpb 10 = true) := Lib.hid (by decide)
  have HX : Hid ((aB 10, cB 10, iB 10) = (true, true, true)) := Lib.hid (by decide)
  go_enter Tryz.func72, Tryz.ntmps72
  go_wp2_with (first | (go_at_call 94; refine (risop_t _ _ HO.out).mono ?_; rintro e w2 ⟨rfl, rfl⟩) | (go_at_call 52; refine (lies_any _ _ _ _).mono ?_; rintro e w2 ⟨rfl, rfl⟩))
  exact bodyPost_ret (v := .tuple #[.agg #[.bool true, .bool true, .bool true], .int .i64 0]) (by simp [results, Tryz.results72, go_sem]) rfl ⟨rfl, (Below.refl _ _).alloc (Nat.le_refl _) _⟩
theorem rlaws11 (w : World) : Calls Tryz.prog 72 #[.int .i64 11] w (Ret (.tuple #[.agg #[.bool (aB 11), .bool (cB 11), .bool (iB 11)], .int .i64 0]) w) := by
  have HO : Hid (isOpb 11 = true) := Lib.hid (by decide)
  have HX : Hid ((aB 11, cB 11, iB 11) = (true, true, false)) := Lib.hid (by decide)
  go_enter Tryz.func72, Tryz.ntmps72
  go_wp2_with (first | (go_at_call 94; refine (risop_t _ _ HO.out).mono ?_; rintro e w2 ⟨rfl, rfl⟩) | (go_at_call 52; refine (lies_any _ _ _ _).mono ?_; rintro e w2 ⟨rfl, rfl⟩))
  exact bodyPost_ret (v := .tuple #[.agg #[.bool true, .bool true, .bool false], .int .i64 0]) (by simp [results, Tryz.results72, go_sem]) rfl ⟨rfl, (Below.refl _ _).alloc (Nat.le_refl _) _⟩
theorem rlaws_t (op : Int) (w : World) (ho : isOpb op = true) : Calls Tryz.prog 72 #[.int .i64 op] w (Ret (.tuple #[.agg #[.bool (aB op), .bool (cB op), .bool (iB op)], .int .i64 0]) w) := by
  rcases opCases ho with h | h | h | h | h | h | h | h | h | h | h | h
  · subst h; exact rlaws0 w
  · subst h; exact rlaws1 w
  · subst h; exact rlaws2 w
  · subst h; exact rlaws3 w
  · subst h; exact rlaws4 w
  · subst h; exact rlaws5 w
  · subst h; exact rlaws6 w
  · subst h; exact rlaws7 w
  · subst h; exact rlaws8 w
  · subst h; exact rlaws9 w
  · subst h; exact rlaws10 w
  · subst h; exact rlaws11 w
theorem rlaws_f (op : Int) (w : World) (ho : isOpb op = false) : Calls Tryz.prog 72 #[.int .i64 op] w (Ret (.tuple #[.agg #[.bool false, .bool false, .bool false], .int .i64 1]) w) := by
  have HO := Lib.hid ho
  clear ho
  go_enter Tryz.func72, Tryz.ntmps72
  go_wp2_with (go_at_call 94; refine (risop_f _ _ HO.out).mono ?_; rintro e w2 ⟨rfl, rfl⟩)
  exact bodyPost_ret (v := .tuple #[.agg #[.bool false, .bool false, .bool false], .int .i64 1]) (by simp [results, Tryz.results72, go_sem]) rfl ⟨rfl, (Below.refl _ _).alloc (Nat.le_refl _) _⟩
theorem rneutral_f (op : Int) (w : World) (ho : isOpb op = false) : Calls Tryz.prog 34 #[.int .i64 op] w (Ret (.tuple #[.int .i64 0, .int .i64 1]) w) := by
  have HL := Lib.hid (rlaws_f op w ho)
  clear ho
  go_enter Tryz.func34, Tryz.ntmps34
  go_wp2_with fail
  refine HL.out.mono ?_
  rintro e w1 ⟨rfl, hb⟩
  go_wp2
  go_ret2
  exact ⟨rfl, hb.trans (((Below.refl _ _).alloc hb.size _))⟩
theorem rneutral_n (op : Int) (w : World) (ho : isOpb op = true) (ha : aB op = false) : Calls Tryz.prog 34 #[.int .i64 op] w (Ret (.tuple #[.int .i64 0, .int .i64 4]) w) := by
  have HL := Lib.hid (rlaws_t op w ho)
  have HA := Lib.hid ha
  clear ho ha
  go_enter Tryz.func34, Tryz.ntmps34
  go_wp2_with fail
  rw [HA.out] at HL
  refine HL.out.mono ?_
  rintro e w1 ⟨rfl, hb⟩
  go_wp2
  go_ret2
  exact ⟨rfl, hb.trans (((Below.refl _ _).alloc hb.size _))⟩
theorem rneutral0 (w : World) : Calls Tryz.prog 34 #[.int .i64 0] w (Ret (.tuple #[.int .i64 (nt 0), .int .i64 0]) w) := by
  have HL := Lib.hid (rlaws0 w)
  have HA : Hid (aB 0 = true) := Lib.hid (by decide)
  have HN : Hid (nt 0 = 0) := Lib.hid (by decide)
  go_enter Tryz.func34, Tryz.ntmps34
  go_wp2_with fail
  rw [HA.out] at HL
  refine HL.out.mono ?_
  rintro e w1 ⟨rfl, hb⟩
  go_wp2
  go_ret2
  exact ⟨by rw [HN.out] <;> rfl, hb.trans (((Below.refl _ _).alloc hb.size _))⟩
theorem rneutral2 (w : World) : Calls Tryz.prog 34 #[.int .i64 2] w (Ret (.tuple #[.int .i64 (nt 2), .int .i64 0]) w) := by
  have HL := Lib.hid (rlaws2 w)
  have HA : Hid (aB 2 = true) := Lib.hid (by decide)
  have HN : Hid (nt 2 = 1) := Lib.hid (by decide)
  go_enter Tryz.func34, Tryz.ntmps34
  go_wp2_with fail
  rw [HA.out] at HL
  refine HL.out.mono ?_
  rintro e w1 ⟨rfl, hb⟩
  go_wp2
  go_ret2
  exact ⟨by rw [HN.out] <;> rfl, hb.trans (((Below.refl _ _).alloc hb.size _))⟩
theorem rneutral7 (w : World) : Calls Tryz.prog 34 #[.int .i64 7] w (Ret (.tuple #[.int .i64 (nt 7), .int .i64 0]) w) := by
  have HL := Lib.hid (rlaws7 w)
  have HA : Hid (aB 7 = true) := Lib.hid (by decide)
  have HN : Hid (nt 7 = 2147483647) := Lib.hid (by decide)
  go_enter Tryz.func34, Tryz.ntmps34
  go_wp2_with fail
  rw [HA.out] at HL
  refine HL.out.mono ?_
  rintro e w1 ⟨rfl, hb⟩
  go_wp2
  go_ret2
  exact ⟨by rw [HN.out] <;> rfl, hb.trans (((Below.refl _ _).alloc hb.size _))⟩
theorem rneutral8 (w : World) : Calls Tryz.prog 34 #[.int .i64 8] w (Ret (.tuple #[.int .i64 (nt 8), .int .i64 0]) w) := by
  have HL := Lib.hid (rlaws8 w)
  have HA : Hid (aB 8 = true) := Lib.hid (by decide)
  have HN : Hid (nt 8 = (-2147483648)) := Lib.hid (by decide)
  go_enter Tryz.func34, Tryz.ntmps34
  go_wp2_with fail
  rw [HA.out] at HL
  refine HL.out.mono ?_
  rintro e w1 ⟨rfl, hb⟩
  go_wp2
  go_ret2
  exact ⟨by rw [HN.out] <;> rfl, hb.trans (((Below.refl _ _).alloc hb.size _))⟩
theorem rneutral9 (w : World) : Calls Tryz.prog 34 #[.int .i64 9] w (Ret (.tuple #[.int .i64 (nt 9), .int .i64 0]) w) := by
  have HL := Lib.hid (rlaws9 w)
  have HA : Hid (aB 9 = true) := Lib.hid (by decide)
  have HN : Hid (nt 9 = (-1)) := Lib.hid (by decide)
  go_enter Tryz.func34, Tryz.ntmps34
  go_wp2_with fail
  rw [HA.out] at HL
  refine HL.out.mono ?_
  rintro e w1 ⟨rfl, hb⟩
  go_wp2
  go_ret2
  exact ⟨by rw [HN.out] <;> rfl, hb.trans (((Below.refl _ _).alloc hb.size _))⟩
theorem rneutral10 (w : World) : Calls Tryz.prog 34 #[.int .i64 10] w (Ret (.tuple #[.int .i64 (nt 10), .int .i64 0]) w) := by
  have HL := Lib.hid (rlaws10 w)
  have HA : Hid (aB 10 = true) := Lib.hid (by decide)
  have HN : Hid (nt 10 = 0) := Lib.hid (by decide)
  go_enter Tryz.func34, Tryz.ntmps34
  go_wp2_with fail
  rw [HA.out] at HL
  refine HL.out.mono ?_
  rintro e w1 ⟨rfl, hb⟩
  go_wp2
  go_ret2
  exact ⟨by rw [HN.out] <;> rfl, hb.trans (((Below.refl _ _).alloc hb.size _))⟩
theorem rneutral11 (w : World) : Calls Tryz.prog 34 #[.int .i64 11] w (Ret (.tuple #[.int .i64 (nt 11), .int .i64 0]) w) := by
  have HL := Lib.hid (rlaws11 w)
  have HA : Hid (aB 11 = true) := Lib.hid (by decide)
  have HN : Hid (nt 11 = 0) := Lib.hid (by decide)
  go_enter Tryz.func34, Tryz.ntmps34
  go_wp2_with fail
  rw [HA.out] at HL
  refine HL.out.mono ?_
  rintro e w1 ⟨rfl, hb⟩
  go_wp2
  go_ret2
  exact ⟨by rw [HN.out] <;> rfl, hb.trans (((Below.refl _ _).alloc hb.size _))⟩
theorem rneutral_t (op : Int) (w : World) (ha : aB op = true) : Calls Tryz.prog 34 #[.int .i64 op] w (Ret (.tuple #[.int .i64 (nt op), .int .i64 0]) w) := by
  have h : op = 0 ∨ op = 2 ∨ op = 7 ∨ op = 8 ∨ op = 9 ∨ op = 10 ∨ op = 11 := by simp [aB] at ha; omega
  rcases h with h | h | h | h | h | h | h
  · subst h; exact rneutral0 w
  · subst h; exact rneutral2 w
  · subst h; exact rneutral7 w
  · subst h; exact rneutral8 w
  · subst h; exact rneutral9 w
  · subst h; exact rneutral10 w
  · subst h; exact rneutral11 w
theorem rneutral_any (op : Int) (w : World) : Calls Tryz.prog 34 #[.int .i64 op] w (Ret (.tuple #[.int .i64 (neN op), .int .i64 (neE op)]) w) := by
  by_cases ho : isOpb op = true
  · by_cases ha : aB op = true
    · rw [show neN op = nt op from by simp [neN, ha], show neE op = 0 from by simp [neE, ha, ho]]; exact rneutral_t op w ha
    · rw [show neN op = 0 from by simp [neN, ha], show neE op = 4 from by simp [neE, ha, ho]]; exact rneutral_n op w ho (bf ha)
  · rw [show neN op = 0 from by simp [neN, isOpb_not_aB (bf ho)], show neE op = 1 from by simp [neE, ho]]; exact rneutral_f op w (bf ho)
end Go.Proofs.YtecpanppnljkhaaGreatDoor
