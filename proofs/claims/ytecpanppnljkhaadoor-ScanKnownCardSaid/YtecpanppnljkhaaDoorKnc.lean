/- ScanKnown: its calls, each at its literals. -/
import Derived.Test.YtecpanppnljkhaaDoorKa3
import Derived.Test.YtecpanppnljkhaaDoorKa4
import Derived.Test.YtecpanppnljkhaaDoorJh
import Derived.Test.YtecpanppnljkhaaDoorJt
namespace Go.Proofs.YtecpanppnljkhaaDoor
set_option linter.unusedVariables false
set_option maxRecDepth 100000
open Go.RowKit Go.Shelf
theorem failK {w w' : World} {E n : Int} {L : List Int} {e : Ending} (h : RetL w (orL E L) E e w') (hE : E = n) (hn : n ≠ 0) : ∃ A c, e = .returned (.tuple #[.slice A 0 c, .int .i64 n]) ∧ Below w.heap.size w w' := by
  subst hE
  unfold orL at h
  rw [if_neg hn] at h
  obtain ⟨A, c, h1, _, _, h2⟩ := h
  exact ⟨A, c, h1, h2⟩
/-- The great list: one word more than a list may have, all of them 0. -/
structure BigK (Z : List Int) (n : Nat) : Prop where
  len : Z.length = n
  zero : ∀ x ∈ Z, x = 0
theorem lsK_great {L : List (List Int)} {Z : List Int} (h : Z ∈ L) (hz : 1048576 < Z.length) : lsE L = 3 := by
  unfold lsE
  rw [if_neg]
  intro hall
  have := List.all_eq_true.1 hall Z h
  unfold shortB at this
  simp at this
  omega
theorem fsE_ne {op : Int} (l lens : List Int) (h : neE op ≠ 0) : fsE op l lens = neE op := by
  have := cE_ne [l, lens] h
  rw [fsE_c (by rw [this]; exact h), this]
theorem fsE_ls {op : Int} {l lens : List Int} (h : neE op = 0) (h' : lsE [l, lens] ≠ 0) : fsE op l lens = lsE [l, lens] := by
  have := cE_ls [l, lens] h
  rw [fsE_c (by rw [this]; exact h'), this]
theorem big_makeK (n : Nat) (hn : n ≤ 2000000) : ∃ (O : Obj) (Z : List Int), BigK Z n ∧ (∀ W : World, (Instr.makeSlice 22 (.int .i64 (n : Int)) (.int .i64 (n : Int))).run Tryd.prog W = .ok (.slice (some ⟨W.heap.size, 0, none⟩) n n) (W.alloc O)) ∧ ∀ w : World, Sl (w.alloc O) (some ⟨w.heap.size, 0, none⟩) Z := by
  obtain ⟨i0, hi, hz0, hz1, hz2⟩ := info_parts int_info
  exact ⟨.cells (madeCells #[.int .i64 0] n) 3, List.replicate n 0, ⟨List.length_replicate, fun x hx => List.eq_of_mem_replicate hx⟩, fun W => run_make_row (P := Tryd.prog) 22 3 i0 (.int .i64 0) Tryd.underlying22 hi hz0 hz1 rfl .i64 .i64 n (by rw [hz2]; omega) (by omega) W, fun w => (Full.made w n (by unfold maxLen; omega)).sl⟩
theorem big_flagK : ∃ (O : Obj) (P : List (Bool × Int)), P.length = 1048577 ∧ (∀ W : World, (Instr.makeSlice 53 (.int .i64 1048577) (.int .i64 1048577)).run Tryd.prog W = .ok (.slice (some ⟨W.heap.size, 0, none⟩) 1048577 1048577) (W.alloc O)) ∧ ∀ w : World, SlF (w.alloc O) (some ⟨w.heap.size, 0, none⟩) P :=
  ⟨.cells (madeCells #[.bool false, .int .i64 0] (1048577 * 2)) 49, List.replicate 1048577 (false, 0), List.length_replicate, fun W => make_flags 1048577 (by omega) W, fun w => (FullF.made w 1048577).sl⟩
theorem isD00 : IsD 0 0 := ⟨by decide, fun j hj => absurd hj (by omega), by decide⟩
theorem isD10 : IsD 1 0 := ⟨by decide, fun j hj => absurd hj (by omega), by decide⟩
theorem isD21 : IsD 2 1 := ⟨by decide, fun j hj => by match j, hj with | 0, _ => exact (by decide) | j + 1, h => exact absurd h (by omega), by decide⟩
def BadL (L : List (List Int)) : Prop := L.length ≤ 9223372036854775807 ∧ AllShort L ∧ ¬ AreLv (doN 0) (neN 0) L
theorem short_of {L : List (List Int)} (h : (L.all fun l => decide (l.length ≤ 1000)) = true) : AllShort L := fun j hj => by
  have := List.all_eq_true.1 h _ (nthL_mem L j hj)
  simp at this
  omega
theorem bad_ne {L : List (List Int)} {d : Nat} (h1 : L.length ≤ 1000) (h2 : (L.all fun l => decide (l.length ≤ 1000)) = true) (h0 : L ≠ []) (h : lsE [nthL L 0] = 0) (hd : IsD (nthL L 0).length d) (hne : (L == lvs (doN 0) (padL (neN 0) d (nthL L 0)) d) = false) : BadL L :=
  ⟨by omega, short_of h2, fun h' => by rw [areLv_of h0 h hd] at h'; rw [← h'] at hne; simp at hne⟩
theorem bad_nil : BadL [] := ⟨by simp, fun j hj => absurd hj (by simp), fun ⟨d, h, _⟩ => h rfl⟩
theorem bad_word {L : List (List Int)} (h1 : L.length ≤ 1000) (h2 : (L.all fun l => decide (l.length ≤ 1000)) = true) (h : lsE [nthL L 0] ≠ 0) : BadL L := ⟨by omega, short_of h2, fun ⟨d, _, h', _⟩ => h h'⟩
theorem q1 {Z : List Int} (hZ : BigK Z 1048577) (A A' : Option Addr) (w : World) (hI : Inv w) (h : Sl w A Z) (h' : Sl w A' [2147483648]) : Calls Tryd.prog 19 #[.int .i64 1, .slice A 1048577 1048577, .slice A' 1 1] w fun e w' => ∃ A c, e = .returned (.tuple #[.slice A 0 c, .int .i64 4]) ∧ Below w.heap.size w w' := by
  have H := fold_any 1 A A' 1 1048577 Z [2147483648] w hI h (by rw [hZ.len]; omega) (by unfold Ok; rw [hZ.len]; omega) h' (by decide) (by unfold Ok; simp)
  rw [hZ.len] at H
  exact H.mono fun e w' H => failK H ((fsE_ne _ _ (by decide)).trans (by kernel_rfl)) (by decide)
theorem q2 {Z : List Int} (hZ : BigK Z 1048577) (A A' : Option Addr) (w : World) (hI : Inv w) (h : Sl w A Z) (h' : Sl w A' [2147483648]) : Calls Tryd.prog 23 #[.int .i64 12, .slice A 1048577 1048577, .slice A' 1 1] w fun e w' => ∃ A c, e = .returned (.tuple #[.slice A 0 c, .int .i64 1]) ∧ Below w.heap.size w w' := by
  have H := scan_any 12 A A' 1 1048577 Z [2147483648] w hI h (by rw [hZ.len]; omega) (by unfold Ok; rw [hZ.len]; omega) h' (by decide) (by unfold Ok; simp)
  rw [hZ.len] at H
  exact H.mono fun e w' H => failK H ((fsE_ne _ _ (by decide)).trans (by kernel_rfl)) (by decide)
theorem q3 {Z : List Int} (hZ : BigK Z 1048577) (A A' : Option Addr) (w : World) (hI : Inv w) (h : Sl w A Z) (h' : Sl w A' [2147483648]) : Calls Tryd.prog 27 #[.int .i64 0, .slice A 1048577 1048577, .slice A' 1 1] w fun e w' => ∃ A c, e = .returned (.tuple #[.slice A 0 c, .int .i64 3]) ∧ Below w.heap.size w w' := by
  have H := through_any 0 A A' 1 1048577 Z [2147483648] w hI h (by rw [hZ.len]; omega) (by unfold Ok; rw [hZ.len]; omega) h' (by decide) (by unfold Ok; simp)
  rw [hZ.len] at H
  exact H.mono fun e w' H => failK H (by have hl := lsK_great (L := [Z, [2147483648]]) (Z := Z) (by simp) (by rw [hZ.len]; omega); rw [fsE_ls (by kernel_rfl) (by rw [hl]; decide), hl]) (by decide)
theorem q4 (A0 : Option Addr) (A1 : Option Addr) (w : World) (hI : Inv w) (h0 : Sl w A0 [2147483648]) (h1 : Sl w A1 [5]) : Calls Tryd.prog 19 #[.int .i64 0, .slice A0 1 1, .slice A1 1 1] w fun e w' => ∃ A c, e = .returned (.tuple #[.slice A 0 c, .int .i64 2]) ∧ Below w.heap.size w w' :=
  (fold_any 0 A0 A1 1 1 [2147483648] [5] w hI h0 (by decide) (by unfold Ok; simp) h1 (by decide) (by unfold Ok; simp)).mono fun e w' H => failK H (by kernel_rfl) (by decide)
theorem q5 (A0 : Option Addr) (A1 : Option Addr) (w : World) (hI : Inv w) (h0 : Sl w A0 [1, 2]) (h1 : Sl w A1 [1]) : Calls Tryd.prog 19 #[.int .i64 0, .slice A0 2 2, .slice A1 1 1] w fun e w' => ∃ A c, e = .returned (.tuple #[.slice A 0 c, .int .i64 6]) ∧ Below w.heap.size w w' :=
  (fold_any 0 A0 A1 1 2 [1, 2] [1] w hI h0 (by decide) (by unfold Ok; simp) h1 (by decide) (by unfold Ok; simp)).mono fun e w' H => failK H (by kernel_rfl) (by decide)
theorem q6 (A0 : Option Addr) (A1 : Option Addr) (w : World) (hI : Inv w) (h0 : Sl w A0 [1, 2]) (h1 : Sl w A1 [3, -1]) : Calls Tryd.prog 23 #[.int .i64 0, .slice A0 2 2, .slice A1 2 2] w fun e w' => ∃ A c, e = .returned (.tuple #[.slice A 0 c, .int .i64 6]) ∧ Below w.heap.size w w' :=
  (scan_any 0 A0 A1 2 2 [1, 2] [3, -1] w hI h0 (by decide) (by unfold Ok; simp) h1 (by decide) (by unfold Ok; simp)).mono fun e w' H => failK H (by kernel_rfl) (by decide)
theorem q7 (A0 : Option Addr) (A1 : Option Addr) (w : World) (hI : Inv w) (h0 : Sl w A0 [1]) (h1 : Sl w A1 [2147483648]) : Calls Tryd.prog 19 #[.int .i64 0, .slice A0 1 1, .slice A1 1 1] w fun e w' => ∃ A c, e = .returned (.tuple #[.slice A 0 c, .int .i64 2]) ∧ Below w.heap.size w w' :=
  (fold_any 0 A0 A1 1 1 [1] [2147483648] w hI h0 (by decide) (by unfold Ok; simp) h1 (by decide) (by unfold Ok; simp)).mono fun e w' H => failK H (by kernel_rfl) (by decide)
theorem q8 (A : Option Addr) (w : World) (hI : Inv w) (h : Sl w A [2147483648]) : Calls Tryd.prog 21 #[.int .i64 5, .slice A 1 1, .slice none 0 0] w fun e w' => e = .returned (.tuple #[.int .i64 0, .int .i64 4]) ∧ Below w.heap.size w w' := by
  have H := tree_err1 5 A 1 (.slice none 0 0) [2147483648] w hI h (by decide) (by unfold Ok; simp) (by decide)
  rw [show cE 5 [[2147483648]] = 4 from by kernel_rfl] at H
  exact H
theorem q9 (A : Option Addr) (w : World) (hI : Inv w) (h : Sl w A [2147483648]) : Calls Tryd.prog 21 #[.int .i64 0, .slice A 1 1, .slice none 0 0] w fun e w' => e = .returned (.tuple #[.int .i64 0, .int .i64 2]) ∧ Below w.heap.size w w' := by
  have H := tree_err1 0 A 1 (.slice none 0 0) [2147483648] w hI h (by decide) (by unfold Ok; simp) (by decide)
  rw [show cE 0 [[2147483648]] = 2 from by kernel_rfl] at H
  exact H
theorem q10 (w : World) (hI : Inv w) : Calls Tryd.prog 21 #[.int .i64 0, .slice none 0 0, .slice none 0 0] w fun e w' => e = .returned (.tuple #[.int .i64 0, .int .i64 6]) ∧ Below w.heap.size w w' :=
  tree_err2 0 none none 0 0 [] [] w hI (Sl.nil _ _) (by decide) (by unfold Ok; simp) (Sl.nil _ _) (by decide) (by kernel_rfl) (fun ⟨h, _⟩ => absurd h (by decide))
theorem q11 (A A' : Option Addr) (w : World) (hI : Inv w) (h : Sl w A [1, 2]) (h' : Sl w A' [1]) : Calls Tryd.prog 21 #[.int .i64 0, .slice A 2 2, .slice A' 1 1] w fun e w' => e = .returned (.tuple #[.int .i64 0, .int .i64 6]) ∧ Below w.heap.size w w' :=
  tree_err2 0 A A' 2 1 [1, 2] [1] w hI h (by decide) (by unfold Ok; simp) h' (by decide) (by kernel_rfl) (fun ⟨_, h⟩ => absurd (h 0 (by decide)).2 (by decide))
theorem q12 (A A' : Option Addr) (w : World) (hI : Inv w) (h : Sl w A [1, 2, 3]) (h' : Sl w A' [0]) : Calls Tryd.prog 21 #[.int .i64 0, .slice A 3 3, .slice A' 1 1] w fun e w' => e = .returned (.tuple #[.int .i64 0, .int .i64 6]) ∧ Below w.heap.size w w' :=
  tree_err2 0 A A' 3 1 [1, 2, 3] [0] w hI h (by decide) (by unfold Ok; simp) h' (by decide) (by kernel_rfl) (fun ⟨h, _⟩ => absurd h (by decide))
theorem q13 {Z : List Int} (hZ : BigK Z 1048577) (A : Option Addr) (w : World) (hI : Inv w) (h : Sl w A Z) : Calls Tryd.prog 21 #[.int .i64 0, .slice A 1048577 1048577, .slice none 0 0] w fun e w' => e = .returned (.tuple #[.int .i64 0, .int .i64 3]) ∧ Below w.heap.size w w' := by
  have hl := lsK_great (L := [Z]) (Z := Z) (by simp) (by rw [hZ.len]; omega)
  have hc : cE 0 [Z] = 3 := by rw [cE_ls _ (by kernel_rfl), hl]
  have H := tree_err1 0 A 1048577 (.slice none 0 0) Z w hI h (by rw [hZ.len]; omega) (by unfold Ok; rw [hZ.len]; omega) (by rw [hc]; decide)
  rw [hc, hZ.len] at H
  exact H
theorem q14 (A : Option Addr) (w : World) (hI : Inv w) (h : Sl w A [1]) : Calls Tryd.prog 22 #[.int .i64 0, .slice A 1 1, .int .i64 0] w fun e w' => ∃ B c B' c', e = .returned (.tuple #[.slice B 0 c, .slice B' 0 c', .int .i64 2]) ∧ Below w.heap.size w w' := by
  have H := blocks_err2 0 0 A 1 [1] w hI h (by decide) (by unfold Ok; simp) (by kernel_rfl) (by omega)
  have he : blE 0 [1] 0 = 2 := by kernel_rfl
  rw [he] at H
  refine H.mono ?_
  rintro e w' ⟨B, c, B', c', rfl, _, _, _, _, hB⟩
  exact ⟨B, c, B', c', rfl, hB⟩
theorem q15 (w : World) (hI : Inv w) : Calls Tryd.prog 22 #[.int .i64 0, .slice none 0 0, .int .i64 1048577] w fun e w' => ∃ B c B' c', e = .returned (.tuple #[.slice B 0 c, .slice B' 0 c', .int .i64 2]) ∧ Below w.heap.size w w' := by
  have H := blocks_err2 0 1048577 none 0 [] w hI (Sl.nil _ _) (by decide) (by unfold Ok; simp) (by kernel_rfl) (by omega)
  have he : blE 0 [] 1048577 = 2 := by kernel_rfl
  rw [he] at H
  refine H.mono ?_
  rintro e w' ⟨B, c, B', c', rfl, _, _, _, _, hB⟩
  exact ⟨B, c, B', c', rfl, hB⟩
theorem q16 (w : World) (hI : Inv w) : Calls Tryd.prog 22 #[.int .i64 3, .slice none 0 0, .int .i64 0] w fun e w' => ∃ B c B' c', e = .returned (.tuple #[.slice B 0 c, .slice B' 0 c', .int .i64 4]) ∧ Below w.heap.size w w' := by
  have H := blocks_err1 3 0 none 0 [] w hI (Sl.nil _ _) (by decide) (by unfold Ok; simp) (by decide)
  have he : blE 3 [] 0 = 4 := by kernel_rfl
  rw [he] at H
  refine H.mono ?_
  rintro e w' ⟨B, c, B', c', rfl, _, _, _, _, hB⟩
  exact ⟨B, c, B', c', rfl, hB⟩
theorem q17 (A : Option Addr) (w : World) (hI : Inv w) (h : Sl w A [2147483648]) : Calls Tryd.prog 20 #[.int .i64 0, .slice A 1 1] w fun e w' => e = .returned (.tuple #[.slice none 0 0, .int .i64 2]) ∧ Below w.heap.size w w' := by
  have H := levels_err 0 A 1 [2147483648] w hI h (by decide) (by unfold Ok; simp) (by decide)
  rw [show cE 0 [[2147483648]] = 2 from by kernel_rfl] at H
  exact H
theorem q18 (A : Option Addr) (w : World) (hI : Inv w) (h : Sl w A [2147483648]) : Calls Tryd.prog 20 #[.int .i64 4, .slice A 1 1] w fun e w' => e = .returned (.tuple #[.slice none 0 0, .int .i64 4]) ∧ Below w.heap.size w w' := by
  have H := levels_err 4 A 1 [2147483648] w hI h (by decide) (by unfold Ok; simp) (by decide)
  rw [show cE 4 [[2147483648]] = 4 from by kernel_rfl] at H
  exact H
theorem q19 (w : World) (hI : Inv w) : Calls Tryd.prog 24 #[.int .i64 6, .slice none 0 0, .int .i64 (-1)] w fun e w' => e = .returned (.tuple #[.slice none 0 0, .int .i64 4]) ∧ Below w.heap.size w w' := by
  have H := down_err1 6 (-1) (.slice none 0 0) w hI (by decide)
  rw [show neE 6 = 4 from by kernel_rfl] at H
  exact H
theorem q20 (w : World) (hI : Inv w) : Calls Tryd.prog 28 #[.int .i64 0, .agg #[.bool false, .int .i64 2147483648], .agg #[.bool false, .int .i64 0]] w fun e w' => e = .returned (.tuple #[.agg #[.bool false, .int .i64 0], .int .i64 2]) ∧ Below w.heap.size w w' := by
  refine (joinF_any 0 false false 2147483648 0 w hI).mono ?_
  rintro e w' ⟨rfl, hB⟩
  exact ⟨by rw [show jV 0 (false, 2147483648) (false, 0) = (false, 0) from by kernel_rfl, show jE 0 2147483648 0 = 2 from by kernel_rfl]; rfl, hB⟩
theorem q21 (w : World) (hI : Inv w) : Calls Tryd.prog 28 #[.int .i64 0, .agg #[.bool false, .int .i64 0], .agg #[.bool false, .int .i64 2147483648]] w fun e w' => e = .returned (.tuple #[.agg #[.bool false, .int .i64 0], .int .i64 2]) ∧ Below w.heap.size w w' := by
  refine (joinF_any 0 false false 0 2147483648 w hI).mono ?_
  rintro e w' ⟨rfl, hB⟩
  exact ⟨by rw [show jV 0 (false, 0) (false, 2147483648) = (false, 0) from by kernel_rfl, show jE 0 0 2147483648 = 2 from by kernel_rfl]; rfl, hB⟩
theorem q22 (A : Option Addr) (w : World) (hI : Inv w) (h : SlF w A [(false, 1), (false, 2147483648)]) : Calls Tryd.prog 29 #[.int .i64 0, .slice A 2 2] w fun e w' => ∃ B c, e = .returned (.tuple #[.slice B 0 c, .int .i64 2]) ∧ Below w.heap.size w w' := by
  refine (flagged_any 0 A 2 [(false, 1), (false, 2147483648)] w hI h (by decide) (by simp)).mono ?_
  rintro e w' ⟨B, c, rfl, _, _, hB⟩
  exact ⟨B, c, by rw [show flO 0 [(false, 1), (false, 2147483648)] = [] from by kernel_rfl, show flE 0 [(false, 1), (false, 2147483648)] = 2 from by kernel_rfl]; rfl, hB⟩
theorem q23 (A : Option Addr) (w : World) (hI : Inv w) (h : SlF w A [(false, 2147483648)]) : Calls Tryd.prog 29 #[.int .i64 1, .slice A 1 1] w fun e w' => ∃ B c, e = .returned (.tuple #[.slice B 0 c, .int .i64 4]) ∧ Below w.heap.size w w' := by
  refine (flagged_any 1 A 1 [(false, 2147483648)] w hI h (by decide) (by simp)).mono ?_
  rintro e w' ⟨B, c, rfl, _, _, hB⟩
  exact ⟨B, c, by rw [show flO 1 [(false, 2147483648)] = [] from by kernel_rfl, show flE 1 [(false, 2147483648)] = 4 from by kernel_rfl]; rfl, hB⟩
theorem q24 {P : List (Bool × Int)} (hP : P.length = 1048577) (A : Option Addr) (w : World) (hI : Inv w) (h : SlF w A P) : Calls Tryd.prog 29 #[.int .i64 0, .slice A 1048577 1048577] w fun e w' => ∃ B c, e = .returned (.tuple #[.slice B 0 c, .int .i64 3]) ∧ Below w.heap.size w w' := by
  have hE : flE 0 P = 3 := by unfold flE; rw [if_pos (by kernel_rfl), if_neg (by omega)]
  have hO : flO 0 P = [] := by unfold flO; rw [if_neg (by rw [hE]; decide)]
  have H := flagged_any 0 A 1048577 P w hI h (by omega) (by omega)
  rw [hE, hO, hP] at H
  refine H.mono ?_
  rintro e w' ⟨B, c, rfl, _, _, hB⟩
  exact ⟨B, c, rfl, hB⟩
theorem q25 {L : List (List Int)} (hL : BadL L) (A : Option Addr) (c : Nat) (w : World) (hI : Inv w) (h : Sll w A L) : Calls Tryd.prog 24 #[.int .i64 0, .slice A L.length c, .int .i64 0] w fun e w' => e = .returned (.tuple #[.slice none 0 0, .int .i64 8]) ∧ Below w.heap.size w w' :=
  down_err2 0 0 A c L w hI h hL.1 hL.2.1 (by kernel_rfl) hL.2.2
theorem lv21 : AreLv (doN 0) (neN 0) [[1, 2], [3]] := ⟨1, by simp, by kernel_rfl, isD21, by kernel_rfl⟩
theorem q26 (A : Option Addr) (w : World) (hI : Inv w) (h : Sll w A [[1, 2], [3]]) : Calls Tryd.prog 24 #[.int .i64 0, .slice A 2 2, .int .i64 3] w fun e w' => e = .returned (.tuple #[.slice none 0 0, .int .i64 2]) ∧ Below w.heap.size w w' :=
  down_err3 0 3 1 A 2 [[1, 2], [3]] w hI h (by decide) (short_of (by kernel_rfl)) (by kernel_rfl) (by simp) lv21 (by decide)
theorem q27 (A : Option Addr) (w : World) (hI : Inv w) (h : Sll w A [[1, 2], [3]]) : Calls Tryd.prog 24 #[.int .i64 0, .slice A 2 2, .int .i64 (-1)] w fun e w' => e = .returned (.tuple #[.slice none 0 0, .int .i64 2]) ∧ Below w.heap.size w w' :=
  down_err3 0 (-1) 1 A 2 [[1, 2], [3]] w hI h (by decide) (short_of (by kernel_rfl)) (by kernel_rfl) (by simp) lv21 (by decide)
theorem q28 (A : Option Addr) (w : World) (hI : Inv w) (h : Sll w A [[1, 2], [3]]) : Calls Tryd.prog 24 #[.int .i64 0, .slice A 2 2, .int .i64 2] w fun e w' => ∃ B c, e = .returned (.tuple #[.slice B 2 c, .int .i64 0]) ∧ 2 ≤ c ∧ Sl w' B [0, 1] ∧ Below w.heap.size w w' := by
  refine (down_ok 0 1 2 A 2 [[1, 2], [3]] w hI h (by decide) (short_of (by kernel_rfl)) (by kernel_rfl) (by simp) (by kernel_rfl) isD21 (by kernel_rfl) (by decide)).mono ?_
  rintro e w' ⟨B, c, rfl, hc, h1, hB⟩
  rw [show (dnL (doN 0) (neN 0) [[1, 2], [3]] 1).take 2 = [0, 1] from by kernel_rfl] at h1
  exact ⟨B, c, rfl, hc, h1, hB⟩
theorem q29 (w : World) (hI : Inv w) : Calls Tryd.prog 20 #[.int .i64 7, .slice none 0 0] w fun e w' => ∃ B, e = .returned (.tuple #[.slice B 1 1, .int .i64 0]) ∧ Sll w' B [[2147483647]] ∧ Below w.heap.size w w' := by
  refine (levels_ok 7 0 none 0 [] w hI (Sl.nil _ _) (by decide) (by unfold Ok; simp) isD00 (by kernel_rfl)).mono ?_
  rintro e w' ⟨G, vs, rfl, hT, hB⟩
  have h3 := tree_sll (d := 0) hT (by decide)
  rw [show lvs (doN 7) (padL (neN 7) 0 []) 0 = [[2147483647]] from by kernel_rfl] at h3
  exact ⟨_, rfl, h3, hB⟩
theorem q30 (A0 : Option Addr) (A1 : Option Addr) (w : World) (hI : Inv w) (h0 : Sl w A0 [5, 3, 9]) (h1 : Sl w A1 [3]) : Calls Tryd.prog 23 #[.int .i64 8, .slice A0 3 3, .slice A1 1 1] w fun e w' => ∃ B c, e = .returned (.tuple #[.slice B 3 c, .int .i64 0]) ∧ 3 ≤ c ∧ Sl w' B [-2147483648, 5, 5] ∧ Below w.heap.size w w' :=
  (scan_any 8 A0 A1 1 3 [5, 3, 9] [3] w hI h0 (by decide) (by unfold Ok; simp) h1 (by decide) (by unfold Ok; simp)).mono fun e w' H => retL_lit [-2147483648, 5, 5] 3 H (by kernel_rfl) (by kernel_rfl) rfl
theorem q31 (A1 : Option Addr) (w : World) (hI : Inv w) (h1 : Sl w A1 [0]) : Calls Tryd.prog 19 #[.int .i64 7, .slice none 0 0, .slice A1 1 1] w fun e w' => ∃ B c, e = .returned (.tuple #[.slice B 1 c, .int .i64 0]) ∧ 1 ≤ c ∧ Sl w' B [2147483647] ∧ Below w.heap.size w w' :=
  (fold_any 7 none A1 1 0 [] [0] w hI (Sl.nil _ _) (by decide) (by unfold Ok; simp) h1 (by decide) (by unfold Ok; simp)).mono fun e w' H => retL_lit [2147483647] 1 H (by kernel_rfl) (by kernel_rfl) rfl
theorem q32 (w : World) (hI : Inv w) : Calls Tryd.prog 19 #[.int .i64 0, .slice none 0 0, .slice none 0 0] w fun e w' => ∃ B c, e = .returned (.tuple #[.slice B 0 c, .int .i64 0]) ∧ 0 ≤ c ∧ Sl w' B [] ∧ Below w.heap.size w w' :=
  (fold_any 0 none none 0 0 [] [] w hI (Sl.nil _ _) (by decide) (by unfold Ok; simp) (Sl.nil _ _) (by decide) (by unfold Ok; simp)).mono fun e w' H => retL_lit [] 0 H (by kernel_rfl) (by kernel_rfl) rfl
theorem q33 (A : Option Addr) (w : World) (hI : Inv w) (h : Sl w A [7]) : Calls Tryd.prog 21 #[.int .i64 0, .slice A 1 1, .slice none 0 0] w fun e w' => e = .returned (.tuple #[.int .i64 7, .int .i64 0]) ∧ Below w.heap.size w w' := by
  have H := tree_ok 0 0 A none 1 0 [7] [] w hI h (by decide) (by unfold Ok; simp) (Sl.nil _ _) (by decide) (by kernel_rfl) isD10 (by decide) ⟨by decide, fun j hj => absurd hj (by simp)⟩
  have hM : nth (trF (doN 0) 0 [7] [] ([] : List Int).length).1 0 = scN (doN 0) (neN 0) [7] [7].length := (mon_op (op := 0) (by decide)).tree (l := [7]) (shape := []) (d := 0) (fun j hj => by match j, hj with | 0, _ => exact (by unfold isW nth; decide) | j + 1, h => exact absurd h (by simp)) isD10 ⟨by decide, fun j hj => absurd hj (by simp)⟩ (by decide)
  have hS : scN (doN 0) (neN 0) [7] [7].length = 7 := by kernel_rfl
  refine H.mono ?_
  rintro e w' ⟨rfl, hB⟩
  exact ⟨congrArg (fun z => Ending.returned (Value.tuple #[.int .i64 z, .int .i64 0])) (hM.trans hS), hB⟩
theorem q34 (w : World) (hI : Inv w) : Calls Tryd.prog 22 #[.int .i64 0, .slice none 0 0, .int .i64 3] w fun e w' => ∃ B c B' c', e = .returned (.tuple #[.slice B 0 c, .slice B' 0 c', .int .i64 0]) ∧ Below w.heap.size w w' := by
  have H := blocks_ok 0 3 none 0 [] w hI (Sl.nil _ _) (by decide) (by unfold Ok; simp) (by kernel_rfl) (by decide) (by decide)
  rw [show blS 0 [] 3 = [] from by kernel_rfl, show blL 0 [] 3 = [] from by kernel_rfl] at H
  refine H.mono ?_
  rintro e w' ⟨B, c, B', c', rfl, _, _, _, _, hB⟩
  exact ⟨B, c, B', c', rfl, hB⟩
theorem q35 (A0 : Option Addr) (A1 : Option Addr) (w : World) (hI : Inv w) (h0 : Sl w A0 [2147483647, 1]) (h1 : Sl w A1 [2]) : Calls Tryd.prog 27 #[.int .i64 0, .slice A0 2 2, .slice A1 1 1] w fun e w' => ∃ B c, e = .returned (.tuple #[.slice B 2 c, .int .i64 0]) ∧ 2 ≤ c ∧ Sl w' B [2147483647, -2147483648] ∧ Below w.heap.size w w' :=
  (through_any 0 A0 A1 1 2 [2147483647, 1] [2] w hI h0 (by decide) (by unfold Ok; simp) h1 (by decide) (by unfold Ok; simp)).mono fun e w' H => retL_lit [2147483647, -2147483648] 2 H (by kernel_rfl) (by kernel_rfl) rfl
theorem q36 (w : World) (hI : Inv w) : Calls Tryd.prog 28 #[.int .i64 0, .agg #[.bool false, .int .i64 2], .agg #[.bool true, .int .i64 3]] w fun e w' => e = .returned (.tuple #[.agg #[.bool true, .int .i64 3], .int .i64 0]) ∧ Below w.heap.size w w' := by
  refine (joinF_any 0 false true 2 3 w hI).mono ?_
  rintro e w' ⟨rfl, hB⟩
  exact ⟨by rw [show jV 0 (false, 2) (true, 3) = (true, 3) from by kernel_rfl, show jE 0 2 3 = 0 from by kernel_rfl]; rfl, hB⟩
theorem q37 (w : World) (hI : Inv w) : Calls Tryd.prog 28 #[.int .i64 0, .agg #[.bool false, .int .i64 2], .agg #[.bool false, .int .i64 3]] w fun e w' => e = .returned (.tuple #[.agg #[.bool false, .int .i64 5], .int .i64 0]) ∧ Below w.heap.size w w' := by
  refine (joinF_any 0 false false 2 3 w hI).mono ?_
  rintro e w' ⟨rfl, hB⟩
  exact ⟨by rw [show jV 0 (false, 2) (false, 3) = (false, 5) from by kernel_rfl, show jE 0 2 3 = 0 from by kernel_rfl]; rfl, hB⟩
theorem b2 : BadL [[]] := bad_ne (d := 0) (by decide) (by kernel_rfl) (by simp) (by kernel_rfl) isD00 (by kernel_rfl)
theorem b3 : BadL [[1, 2, 3], [3, 3], [6]] := bad_ne (d := 2) (by decide) (by kernel_rfl) (by simp) (by kernel_rfl) isD3 (by kernel_rfl)
theorem b4 : BadL [[1, 2]] := bad_ne (d := 1) (by decide) (by kernel_rfl) (by simp) (by kernel_rfl) isD21 (by kernel_rfl)
theorem b5 : BadL [[1, 2], [4]] := bad_ne (d := 1) (by decide) (by kernel_rfl) (by simp) (by kernel_rfl) isD21 (by kernel_rfl)
theorem b6 : BadL [[1, 2], [3], []] := bad_ne (d := 1) (by decide) (by kernel_rfl) (by simp) (by kernel_rfl) isD21 (by kernel_rfl)
theorem b7 : BadL [[1], [1]] := bad_ne (d := 0) (by decide) (by kernel_rfl) (by simp) (by kernel_rfl) isD10 (by kernel_rfl)
theorem b8 : BadL [[2147483648]] := bad_word (by decide) (by kernel_rfl) (by decide)
theorem b9 : BadL [[1, 2, 3, 4], [3, 7]] := bad_ne (d := 2) (by decide) (by kernel_rfl) (by simp) (by kernel_rfl) isD4 (by kernel_rfl)
theorem b10 : BadL [[1, 2, 3, 4], [3, 7], [11]] := bad_ne (d := 2) (by decide) (by kernel_rfl) (by simp) (by kernel_rfl) isD4 (by kernel_rfl)
end Go.Proofs.YtecpanppnljkhaaDoor
