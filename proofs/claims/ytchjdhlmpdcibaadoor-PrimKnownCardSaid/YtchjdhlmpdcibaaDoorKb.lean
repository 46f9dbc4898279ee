/- PrimKnown: its walk. -/
import Derived.Test.YtchjdhlmpdcibaaDoorKa
import Derived.Test.YtchjdhlmpdcibaaDoorTc
import Derived.Test.YtchjdhlmpdcibaaDoorVa
namespace Go.Proofs.YtchjdhlmpdcibaaDoor
set_option linter.unusedVariables false
open Go.RowKit Go.Shelf
theorem big_made (n : Nat) (hn : n ≤ 2000000) : ∃ (O : Obj) (Z : List Int), Big Z n ∧ (∀ W : World, (Instr.makeSlice 22 (.int .i64 (n : Int)) (.int .i64 (n : Int))).run Tryd.prog W = .ok (.slice (some ⟨W.heap.size, 0, none⟩) n n) (W.alloc O)) ∧ ∀ w : World, Sl (w.alloc O) (some ⟨w.heap.size, 0, none⟩) Z := by
  obtain ⟨i0, hi, hz0, hz1, hz2⟩ := info_parts int_info
  exact ⟨.cells (madeCells #[.int .i64 0] n) 3, List.replicate n 0, big_of n, fun W => run_make_row (P := Tryd.prog) 22 3 i0 (.int .i64 0) Tryd.underlying22 hi hz0 hz1 rfl .i64 .i64 n (by rw [hz2]; omega) (by omega) W, fun w => (Full.made w n (by unfold maxLen; omega)).sl⟩
theorem kz2 {Z : List Int} (hZ : Big Z 1048577) (A A' : Option Addr) (w : World) (hI : Inv w) (h : Sl w A Z) (h' : Sl w A' [2147483648]) : Calls Tryd.prog 15 #[.int .i64 12, .slice A 1048577 1048577, .slice A' 1 1] w fun e w' => ∃ A c, e = .returned (.tuple #[.slice A 0 c, .int .i64 1]) ∧ Below w.heap.size w w' := by
  have H := bin_any 12 A A' 1048577 1 Z [2147483648] w hI h h' (by rw [hZ.len]; omega) (by decide) (by unfold Ok; rw [hZ.len]; omega) (by unfold Ok; simp)
  rw [hZ.len] at H
  exact H.mono fun e w' H => fail_of H (big_no _) (by decide)
theorem kz4 {Z : List Int} (hZ : Big Z 1048577) (A A' : Option Addr) (w : World) (hI : Inv w) (h' : Sl w A' [2147483648]) (h : Sl w A Z) : Calls Tryd.prog 15 #[.int .i64 0, .slice A' 1 1, .slice A 1048577 1048577] w fun e w' => ∃ A c, e = .returned (.tuple #[.slice A 0 c, .int .i64 3]) ∧ Below w.heap.size w w' := by
  have H := bin_any 0 A' A 1 1048577 [2147483648] Z w hI h' h (by decide) (by rw [hZ.len]; omega) (by unfold Ok; simp) (by unfold Ok; rw [hZ.len]; omega)
  rw [hZ.len] at H
  exact H.mono fun e w' H => fail_of H (big_bin hZ _) (by decide)
theorem kz9 {Z : List Int} (hZ : Big Z 1048577) (A : Option Addr) (w : World) (h : Sl w A Z) : Calls Tryd.prog 13 #[.int .i64 2147483648, .slice A 1048577 1048577] w fun e w' => ∃ A c, e = .returned (.tuple #[.slice A 0 c, .int .i64 3]) ∧ Below w.heap.size w w' := by
  have H := fill_any 2147483648 A 1048577 Z w h (by rw [hZ.len]; omega) (by unfold Ok; rw [hZ.len]; omega)
  rw [hZ.len] at H
  exact H.mono fun e w' H => fail_of H (big_fil hZ _) (by decide)
theorem kz27 {Z : List Int} (hZ : Big Z 1048577) (A : Option Addr) (w : World) (h : Sl w A Z) : Calls Tryd.prog 38 #[.slice A 1048577 1048577, .slice none 0 0] w fun e w' => ∃ A c, e = .returned (.tuple #[.slice A 0 c, .int .i64 3]) ∧ Below w.heap.size w w' := by
  have H := cat_any A none 1048577 0 Z [] w h (Sl.nil _ _) (by rw [hZ.len]; omega) (by decide) (by unfold Ok; rw [hZ.len]; omega) (by unfold Ok; simp)
  rw [hZ.len] at H
  exact H.mono fun e w' H => fail_of H (big_cat hZ _) (by decide)
theorem kz26 {Z : List Int} (hZ : Big Z 1048576) (A A' : Option Addr) (w : World) (h : Sl w A Z) (h' : Sl w A' [1]) : Calls Tryd.prog 38 #[.slice A 1048576 1048577, .slice A' 1 1] w fun e w' => ∃ A c, e = .returned (.tuple #[.slice A 0 c, .int .i64 9]) ∧ Below w.heap.size w w' := by
  have H := cat_any A A' 1048577 1 Z [1] w h h' (by rw [hZ.len]; omega) (by decide) (by unfold Ok; rw [hZ.len]; omega) (by unfold Ok; simp)
  rw [hZ.len] at H
  exact H.mono fun e w' H => fail_of H (full_cat hZ).1 (by decide)
theorem kz40 {Z : List Int} (hZ : Big Z 1048576) (A : Option Addr) (w : World) (h : Sl w A Z) : Calls Tryd.prog 38 #[.slice A 1048576 1048577, .slice none 0 0] w fun e w' => ∃ A c, e = .returned (.tuple #[.slice A 1048576 c, .int .i64 0]) ∧ Below w.heap.size w w' := by
  have H := cat_any A none 1048577 0 Z [] w h (Sl.nil _ _) (by rw [hZ.len]; omega) (by decide) (by unfold Ok; rw [hZ.len]; omega) (by unfold Ok; simp)
  rw [hZ.len, (full_cat hZ).2, orL_ok, List.append_nil] at H
  refine H.mono fun e w' H => ?_
  obtain ⟨A', c, h1, _, _, h2⟩ := H
  rw [hZ.len] at h1
  exact ⟨A', c, h1, h2⟩
theorem kzt {Z : List Int} (hZ : Big Z 1048577) (A : Option Addr) (w : World) (h : Sl w A Z) : Calls Tryd.prog 42 #[.slice A 1048577 1048577] w fun e w' => e = .returned (.int .i64 3) ∧ Below w.heap.size w w' := by
  have H := trap_any A 1048577 Z w h (by rw [hZ.len]; omega) (by unfold Ok; rw [hZ.len]; omega)
  rw [hZ.len, big_trap hZ] at H
  exact H
theorem ktb (A : Option Addr) (w : World) (h : Sl w A [2147483648]) : Calls Tryd.prog 42 #[.slice A 1 1] w fun e w' => e = .returned (.int .i64 2) ∧ Below w.heap.size w w' :=
  (trap_any A 1 [2147483648] w h (by decide) (by unfold Ok; simp)).mono fun e w' ⟨H, hB⟩ => ⟨H.trans (by kernel_rfl), hB⟩
theorem ktn (w : World) : Calls Tryd.prog 42 #[.slice none 0 0] w fun e w' => e = .returned (.int .i64 0) ∧ Below w.heap.size w w' :=
  (trap_any none 0 [] w (Sl.nil _ _) (by decide) (by unfold Ok; simp)).mono fun e w' ⟨H, hB⟩ => ⟨H.trans (by kernel_rfl), hB⟩
theorem kt0 (A : Option Addr) (w : World) (h : Sl w A [0, 0]) : Calls Tryd.prog 42 #[.slice A 2 2] w fun e w' => e = .returned (.int .i64 0) ∧ Below w.heap.size w w' :=
  (trap_any A 2 [0, 0] w h (by decide) (by unfold Ok; simp)).mono fun e w' ⟨H, hB⟩ => ⟨H.trans (by kernel_rfl), hB⟩
theorem kn35 (w : World) : Calls Tryd.prog 27 #[.slice none 0 0] w fun e w' => ∃ A c, e = .returned (.tuple #[.slice A 0 c, .int .i64 0]) ∧ 0 ≤ c ∧ Sl w' A [] ∧ Below w.heap.size w w' :=
  (weave_any none 0 [] w (fun h => absurd h (by simp)) (by decide) (allShort_of (by simp))).mono fun e w' H => retL_lit [] 0 H (by kernel_rfl) (by kernel_rfl) rfl
theorem kn36 (A A' : Option Addr) (w : World) (h : Sl w A [3, 4]) (h' : Sl w A' [0, 0]) : Calls Tryd.prog 34 #[.slice A 2 2, .slice A' 2 2] w fun e w' => ∃ A c, e = .returned (.tuple #[.slice A 0 c, .int .i64 0]) ∧ 0 ≤ c ∧ Sl w' A [] ∧ Below w.heap.size w w' :=
  (rep_any A A' 2 2 [3, 4] [0, 0] w h h' (by decide) (by decide) (by unfold Ok; simp) (by unfold Ok; simp)).mono fun e w' H => retL_lit [] 0 H (by kernel_rfl) (by kernel_rfl) rfl
theorem kn37 (w : World) : Calls Tryd.prog 30 #[.slice none 0 0, .slice none 0 0] w fun e w' => ∃ A c, e = .returned (.tuple #[.slice A 0 c, .int .i64 0]) ∧ 0 ≤ c ∧ Sl w' A [] ∧ Below w.heap.size w w' :=
  (gather_any none none 0 0 [] [] w (Sl.nil _ _) (Sl.nil _ _) (by decide) (by decide) (by unfold Ok; simp) (by unfold Ok; simp)).mono fun e w' H => retL_lit [] 0 H (by kernel_rfl) (by kernel_rfl) rfl
theorem kn38 (w : World) : Calls Tryd.prog 25 #[.slice none 0 0, .slice none 0 0, .slice none 0 0] w fun e w' => ∃ A c, e = .returned (.tuple #[.slice A 0 c, .int .i64 0]) ∧ 0 ≤ c ∧ Sl w' A [] ∧ Below w.heap.size w w' :=
  (merge_any none none none 0 0 0 [] [] [] w (Sl.nil _ _) (Sl.nil _ _) (Sl.nil _ _) (by decide) (by decide) (by decide) (by unfold Ok; simp) (by unfold Ok; simp) (by unfold Ok; simp)).mono fun e w' H => retL_lit [] 0 H (by kernel_rfl) (by kernel_rfl) rfl
theorem kn39 (w : World) : Calls Tryd.prog 40 #[.slice none 0 0] w fun e w' => ∃ A c, e = .returned (.tuple #[.slice A 1 c, .int .i64 0]) ∧ 1 ≤ c ∧ Sl w' A [0] ∧ Below w.heap.size w w' :=
  (len_any none 0 [] w (Sl.nil _ _) (by decide) (by unfold Ok; simp)).mono fun e w' H => retL_lit [0] 1 H (by kernel_rfl) (by kernel_rfl) rfl
theorem kn30 (A : Option Addr) (g : Nat) (w : World) (hg : Blk w g 22 #[.slice A 1 1, .slice none 0 0]) (h : Sl w A [1]) : Calls Tryd.prog 27 #[.slice (some ⟨g, 0, none⟩) 2 2] w fun e w' => ∃ A c, e = .returned (.tuple #[.slice A 0 c, .int .i64 6]) ∧ Below w.heap.size w w' :=
  (weave_any (some ⟨g, 0, none⟩) 2 [[1], []] w (sll2 hg h (Sl.nil _ _) (by decide) (by decide)) (by decide) (allShort_of (by simp))).mono fun e w' H => fail_of H (by kernel_rfl) (by decide)
theorem kn32 (A : Option Addr) (g : Nat) (w : World) (hg : Blk w g 22 #[.slice none 0 0, .slice A 1 1]) (h : Sl w A [2147483648]) : Calls Tryd.prog 27 #[.slice (some ⟨g, 0, none⟩) 2 2] w fun e w' => ∃ A c, e = .returned (.tuple #[.slice A 0 c, .int .i64 2]) ∧ Below w.heap.size w w' :=
  (weave_any (some ⟨g, 0, none⟩) 2 [[], [2147483648]] w (sll2 hg (Sl.nil _ _) h (by decide) (by decide)) (by decide) (allShort_of (by simp))).mono fun e w' H => fail_of H (by kernel_rfl) (by decide)
theorem kn31 {Z : List Int} (hZ : Big Z 524288) (A : Option Addr) (g : Nat) (w : World) (hg : Blk w g 22 #[.slice A 524288 1048577, .slice A 524288 1048577, .slice A 524288 1048577]) (h : Sl w A Z) : Calls Tryd.prog 27 #[.slice (some ⟨g, 0, none⟩) 3 3] w fun e w' => ∃ A c, e = .returned (.tuple #[.slice A 0 c, .int .i64 9]) ∧ Below w.heap.size w w' := by
  have hg' : Blk w g 22 #[.slice A Z.length 1048577, .slice A Z.length 1048577, .slice A Z.length 1048577] := by rw [hZ.len]; exact hg
  exact (weave_any (some ⟨g, 0, none⟩) 3 [Z, Z, Z] w (sll3 hg' h h h (by rw [hZ.len]; omega) (by rw [hZ.len]; omega) (by rw [hZ.len]; omega)) (by simp) (allShort_of (by simp [hZ.len]))).mono fun e w' H => fail_of H (half_weave hZ) (by decide)
end Go.Proofs.YtchjdhlmpdcibaaDoor
