/- PrimKnown: its calls, each at its literals. -/
import Derived.Test.YtchjdhlmpdcibaaDoorSb
import Derived.Test.YtchjdhlmpdcibaaDoorMp
namespace Go.Proofs.YtchjdhlmpdcibaaDoor
set_option linter.unusedVariables false
open Go.RowKit Go.Shelf
theorem fail_of {w w' : World} {E n : Int} {L : List Int} {e : Ending} (h : RetL w (orL E L) E e w') (hE : E = n) (hn : n ≠ 0) : ∃ A c, e = .returned (.tuple #[.slice A 0 c, .int .i64 n]) ∧ Below w.heap.size w w' := by
  subst hE
  unfold orL at h
  rw [if_neg hn] at h
  obtain ⟨A, c, h1, _, _, h2⟩ := h
  exact ⟨A, c, h1, h2⟩
/-- The great list: one word more than a list may have, all of them 0. -/
structure Big (Z : List Int) (n : Nat) : Prop where
  len : Z.length = n
  zero : ∀ x ∈ Z, x = 0
theorem Big.word {Z : List Int} {n : Nat} (h : Big Z n) : ∀ x ∈ Z, isW x := fun x hx => by rw [h.zero x hx]; unfold isW; omega
theorem Big.take {Z : List Int} {n : Nat} (h : Big Z n) (k : Nat) (hk : k ≤ n) : Big (Z.take k) k := ⟨by rw [List.length_take, h.len]; omega, fun x hx => h.zero x (List.mem_of_mem_take hx)⟩
theorem big_of (n : Nat) : Big (List.replicate n 0) n := ⟨List.length_replicate, fun x hx => List.eq_of_mem_replicate hx⟩
theorem ls_great {L : List (List Int)} {Z : List Int} (h : Z ∈ L) (hz : 1048576 < Z.length) : lsE L = 3 := by
  unfold lsE
  rw [if_neg]
  intro hall
  have := List.all_eq_true.1 hall Z h
  unfold shortB at this
  simp at this
  omega
theorem ev_ls {L : List (List Int)} {e : Int} (h : lsE L = e) (he : e ≠ 0) : evE L = e := by rw [evE_ne (by rw [h]; exact he), h]
theorem bin_ev' {op e : Int} {a b : List Int} (ho : isOpb op = true) (h : evE [a, b] = e) (he : e ≠ 0) : binE op a b = e := by
  unfold binE; rw [if_pos ho, if_neg (by rw [h]; exact he), h]
theorem big_bin {Z : List Int} (h : Big Z 1048577) (b : List Int) : binE 0 b Z = 3 := bin_ev' rfl (ev_ls (ls_great (Z := Z) (by simp) (by rw [h.len]; omega)) (by decide)) (by decide)
theorem big_no {Z : List Int} (b : List Int) : binE 12 Z b = 1 := by unfold binE; rw [if_neg (by decide)]
theorem big_fil {Z : List Int} (h : Big Z 1048577) (n : Int) : filE n Z = 3 := by
  rw [fil_ls (by rw [ls_great (Z := Z) (by simp) (by rw [h.len]; omega)]; decide), ls_great (Z := Z) (by simp) (by rw [h.len]; omega)]
theorem big_cat {Z : List Int} (h : Big Z 1048577) (b : List Int) : catE Z b = 3 := by
  have hl : lsE [Z, b] = 3 := ls_great (Z := Z) (by simp) (by rw [h.len]; omega)
  unfold catE; rw [if_neg (by rw [hl]; decide), hl]
theorem big_trap {Z : List Int} (h : Big Z 1048577) : trpE Z = 3 := by
  have hl : lsE [Z] = 3 := ls_great (Z := Z) (by simp) (by rw [h.len]; omega)
  unfold trpE; rw [if_neg (by rw [hl]; decide), hl]
theorem full_cat {Z : List Int} (h : Big Z 1048576) : catE Z [1] = 9 ∧ catE Z [] = 0 := by
  have h1 : lsE [Z, [1]] = 0 := ls_of _ (by simp [h.len]) (by
    intro l hl; simp at hl
    rcases hl with rfl | rfl
    · exact h.word
    · intro x hx; simp at hx; subst hx; unfold isW; omega)
  have h2 : lsE [Z, []] = 0 := ls_of _ (by simp [h.len]) (by
    intro l hl; simp at hl
    rcases hl with rfl | rfl
    · exact h.word
    · intro x hx; simp at hx)
  constructor
  · unfold catE; rw [if_pos h1, if_pos (by rw [h.len]; simp)]
  · unfold catE; rw [if_pos h2, if_neg (by rw [h.len]; simp)]
theorem half_weave {Z : List Int} (h : Big Z 524288) : weE [Z, Z, Z] = 9 := by
  have h1 : lsE [Z, Z, Z] = 0 := ls_of _ (by simp [h.len]) (by
    intro l hl; simp at hl; subst hl; exact h.word)
  have h2 : evE [Z, Z, Z] = 0 := by unfold evE; rw [if_pos h1, if_pos (by simp [evenB])]
  unfold weE; rw [if_pos h2, if_neg (by simp), if_pos (by simp [h.len])]
theorem kn3  (w : World) (hI : Inv w)  : Calls Tryd.prog 15 #[.int .i64 (-1), .slice none 0 0, .slice none 0 0] w fun e w' => ∃ A c, e = .returned (.tuple #[.slice A 0 c, .int .i64 1]) ∧ Below w.heap.size w w' :=
  (bin_any (-1) none none 0 0 [] [] w hI (Sl.nil _ _) (Sl.nil _ _) (by decide) (by decide) (by unfold Ok; simp) (by unfold Ok; simp)).mono fun e w' H => fail_of H (by kernel_rfl) (by decide)
theorem kn5 (A0 : Option Addr) (w : World) (hI : Inv w) (h0 : Sl w A0 [2147483648]) : Calls Tryd.prog 15 #[.int .i64 0, .slice A0 1 1, .slice none 0 0] w fun e w' => ∃ A c, e = .returned (.tuple #[.slice A 0 c, .int .i64 2]) ∧ Below w.heap.size w w' :=
  (bin_any (0) A0 none 1 0 [2147483648] [] w hI h0 (Sl.nil _ _) (by decide) (by decide) (by unfold Ok; simp) (by unfold Ok; simp)).mono fun e w' H => fail_of H (by kernel_rfl) (by decide)
theorem kn6 (A0 : Option Addr) (A1 : Option Addr) (w : World) (hI : Inv w) (h0 : Sl w A0 [1, 2]) (h1 : Sl w A1 [0]) : Calls Tryd.prog 15 #[.int .i64 3, .slice A0 2 2, .slice A1 1 1] w fun e w' => ∃ A c, e = .returned (.tuple #[.slice A 0 c, .int .i64 6]) ∧ Below w.heap.size w w' :=
  (bin_any (3) A0 A1 2 1 [1, 2] [0] w hI h0 h1 (by decide) (by decide) (by unfold Ok; simp) (by unfold Ok; simp)).mono fun e w' H => fail_of H (by kernel_rfl) (by decide)
theorem kn7 (A0 : Option Addr) (A1 : Option Addr) (w : World) (hI : Inv w) (h0 : Sl w A0 [1, 2]) (h1 : Sl w A1 [1, 0]) : Calls Tryd.prog 15 #[.int .i64 3, .slice A0 2 2, .slice A1 2 2] w fun e w' => ∃ A c, e = .returned (.tuple #[.slice A 0 c, .int .i64 14]) ∧ Below w.heap.size w w' :=
  (bin_any (3) A0 A1 2 2 [1, 2] [1, 0] w hI h0 h1 (by decide) (by decide) (by unfold Ok; simp) (by unfold Ok; simp)).mono fun e w' H => fail_of H (by kernel_rfl) (by decide)
theorem kn8  (w : World)  : Calls Tryd.prog 13 #[.int .i64 2147483648, .slice none 0 0] w fun e w' => ∃ A c, e = .returned (.tuple #[.slice A 0 c, .int .i64 2]) ∧ Below w.heap.size w w' :=
  (fill_any (2147483648) none 0 [] w (Sl.nil _ _) (by decide) (by unfold Ok; simp)).mono fun e w' H => fail_of H (by kernel_rfl) (by decide)
theorem kn10 (A0 : Option Addr) (A1 : Option Addr) (w : World) (h0 : Sl w A0 [1]) (h1 : Sl w A1 [1]) : Calls Tryd.prog 18 #[.slice A0 1 1, .slice A1 1 1, .slice none 0 0] w fun e w' => ∃ A c, e = .returned (.tuple #[.slice A 0 c, .int .i64 6]) ∧ Below w.heap.size w w' :=
  (pick_any  A0 A1 none 1 1 0 [1] [1] [] w h0 h1 (Sl.nil _ _) (by decide) (by decide) (by decide) (by unfold Ok; simp) (by unfold Ok; simp) (by unfold Ok; simp)).mono fun e w' H => fail_of H (by kernel_rfl) (by decide)
theorem kn11 (A0 : Option Addr) (w : World) (h0 : Sl w A0 [1]) : Calls Tryd.prog 23 #[.slice A0 1 1, .slice none 0 0] w fun e w' => ∃ A c, e = .returned (.tuple #[.slice A 0 c, .int .i64 6]) ∧ Below w.heap.size w w' :=
  (pack_any  A0 none 1 0 [1] [] w h0 (Sl.nil _ _) (by decide) (by decide) (by unfold Ok; simp) (by unfold Ok; simp)).mono fun e w' H => fail_of H (by kernel_rfl) (by decide)
theorem kn12 (A0 : Option Addr) (A1 : Option Addr) (A2 : Option Addr) (w : World) (h0 : Sl w A0 [0, 1]) (h1 : Sl w A1 [1, 2]) (h2 : Sl w A2 [3]) : Calls Tryd.prog 25 #[.slice A0 2 2, .slice A1 2 2, .slice A2 1 1] w fun e w' => ∃ A c, e = .returned (.tuple #[.slice A 0 c, .int .i64 6]) ∧ Below w.heap.size w w' :=
  (merge_any  A0 A1 A2 2 2 1 [0, 1] [1, 2] [3] w h0 h1 h2 (by decide) (by decide) (by decide) (by unfold Ok; simp) (by unfold Ok; simp) (by unfold Ok; simp)).mono fun e w' H => fail_of H (by kernel_rfl) (by decide)
theorem kn13 (A0 : Option Addr) (A1 : Option Addr) (w : World) (h0 : Sl w A0 [1]) (h1 : Sl w A1 [1]) : Calls Tryd.prog 30 #[.slice A0 1 1, .slice A1 1 1] w fun e w' => ∃ A c, e = .returned (.tuple #[.slice A 0 c, .int .i64 14]) ∧ Below w.heap.size w w' :=
  (gather_any  A0 A1 1 1 [1] [1] w h0 h1 (by decide) (by decide) (by unfold Ok; simp) (by unfold Ok; simp)).mono fun e w' H => fail_of H (by kernel_rfl) (by decide)
theorem kn14 (A0 : Option Addr) (A1 : Option Addr) (w : World) (h0 : Sl w A0 [1]) (h1 : Sl w A1 [-1]) : Calls Tryd.prog 30 #[.slice A0 1 1, .slice A1 1 1] w fun e w' => ∃ A c, e = .returned (.tuple #[.slice A 0 c, .int .i64 14]) ∧ Below w.heap.size w w' :=
  (gather_any  A0 A1 1 1 [1] [-1] w h0 h1 (by decide) (by decide) (by unfold Ok; simp) (by unfold Ok; simp)).mono fun e w' H => fail_of H (by kernel_rfl) (by decide)
theorem kn15 (A0 : Option Addr) (A1 : Option Addr) (w : World) (h0 : Sl w A0 [1, 2]) (h1 : Sl w A1 [0]) : Calls Tryd.prog 32 #[.slice A0 2 2, .slice A1 1 1] w fun e w' => ∃ A c, e = .returned (.tuple #[.slice A 0 c, .int .i64 6]) ∧ Below w.heap.size w w' :=
  (put_any  A0 A1 2 1 [1, 2] [0] w h0 h1 (by decide) (by decide) (by unfold Ok; simp) (by unfold Ok; simp)).mono fun e w' H => fail_of H (by kernel_rfl) (by decide)
theorem kn16 (A0 : Option Addr) (A1 : Option Addr) (w : World) (h0 : Sl w A0 [1, 2]) (h1 : Sl w A1 [0, 0]) : Calls Tryd.prog 32 #[.slice A0 2 2, .slice A1 2 2] w fun e w' => ∃ A c, e = .returned (.tuple #[.slice A 0 c, .int .i64 14]) ∧ Below w.heap.size w w' :=
  (put_any  A0 A1 2 2 [1, 2] [0, 0] w h0 h1 (by decide) (by decide) (by unfold Ok; simp) (by unfold Ok; simp)).mono fun e w' H => fail_of H (by kernel_rfl) (by decide)
theorem kn17 (A0 : Option Addr) (A1 : Option Addr) (w : World) (h0 : Sl w A0 [1, 2]) (h1 : Sl w A1 [0, 2]) : Calls Tryd.prog 32 #[.slice A0 2 2, .slice A1 2 2] w fun e w' => ∃ A c, e = .returned (.tuple #[.slice A 0 c, .int .i64 14]) ∧ Below w.heap.size w w' :=
  (put_any  A0 A1 2 2 [1, 2] [0, 2] w h0 h1 (by decide) (by decide) (by unfold Ok; simp) (by unfold Ok; simp)).mono fun e w' H => fail_of H (by kernel_rfl) (by decide)
theorem kn20 (A0 : Option Addr) (w : World) (h0 : Sl w A0 [5, -1]) : Calls Tryd.prog 36 #[.slice A0 2 2] w fun e w' => ∃ A c, e = .returned (.tuple #[.slice A 0 c, .int .i64 14]) ∧ Below w.heap.size w w' :=
  (iota_any  A0 2 [5, -1] w h0 (by decide) (by unfold Ok; simp)).mono fun e w' H => fail_of H (by kernel_rfl) (by decide)
theorem kn21 (A0 : Option Addr) (w : World) (h0 : Sl w A0 [2147483647]) : Calls Tryd.prog 36 #[.slice A0 1 1] w fun e w' => ∃ A c, e = .returned (.tuple #[.slice A 0 c, .int .i64 9]) ∧ Below w.heap.size w w' :=
  (iota_any  A0 1 [2147483647] w h0 (by decide) (by unfold Ok; simp)).mono fun e w' H => fail_of H (by kernel_rfl) (by decide)
theorem kn22 (A0 : Option Addr) (w : World) (h0 : Sl w A0 [2147483647, -1]) : Calls Tryd.prog 36 #[.slice A0 2 2] w fun e w' => ∃ A c, e = .returned (.tuple #[.slice A 0 c, .int .i64 14]) ∧ Below w.heap.size w w' :=
  (iota_any  A0 2 [2147483647, -1] w h0 (by decide) (by unfold Ok; simp)).mono fun e w' H => fail_of H (by kernel_rfl) (by decide)
theorem kn23 (A0 : Option Addr) (A1 : Option Addr) (w : World) (h0 : Sl w A0 [1]) (h1 : Sl w A1 [2, 3]) : Calls Tryd.prog 34 #[.slice A0 1 1, .slice A1 2 2] w fun e w' => ∃ A c, e = .returned (.tuple #[.slice A 0 c, .int .i64 6]) ∧ Below w.heap.size w w' :=
  (rep_any  A0 A1 1 2 [1] [2, 3] w h0 h1 (by decide) (by decide) (by unfold Ok; simp) (by unfold Ok; simp)).mono fun e w' H => fail_of H (by kernel_rfl) (by decide)
theorem kn24 (A0 : Option Addr) (A1 : Option Addr) (w : World) (h0 : Sl w A0 [1]) (h1 : Sl w A1 [-1]) : Calls Tryd.prog 34 #[.slice A0 1 1, .slice A1 1 1] w fun e w' => ∃ A c, e = .returned (.tuple #[.slice A 0 c, .int .i64 14]) ∧ Below w.heap.size w w' :=
  (rep_any  A0 A1 1 1 [1] [-1] w h0 h1 (by decide) (by decide) (by unfold Ok; simp) (by unfold Ok; simp)).mono fun e w' H => fail_of H (by kernel_rfl) (by decide)
theorem kn25 (A0 : Option Addr) (A1 : Option Addr) (w : World) (h0 : Sl w A0 [1]) (h1 : Sl w A1 [1048577]) : Calls Tryd.prog 34 #[.slice A0 1 1, .slice A1 1 1] w fun e w' => ∃ A c, e = .returned (.tuple #[.slice A 0 c, .int .i64 9]) ∧ Below w.heap.size w w' :=
  (rep_any  A0 A1 1 1 [1] [1048577] w h0 h1 (by decide) (by decide) (by unfold Ok; simp) (by unfold Ok; simp)).mono fun e w' H => fail_of H (by kernel_rfl) (by decide)
theorem kn28 (A1 : Option Addr) (w : World) (h1 : Sl w A1 [2147483648]) : Calls Tryd.prog 20 #[.slice none 0 0, .slice A1 1 1] w fun e w' => ∃ A c, e = .returned (.tuple #[.slice A 0 c, .int .i64 2]) ∧ Below w.heap.size w w' :=
  (off_any  none A1 0 1 [] [2147483648] w (Sl.nil _ _) h1 (by decide) (by decide) (by unfold Ok; simp) (by unfold Ok; simp)).mono fun e w' H => fail_of H (by kernel_rfl) (by decide)
theorem kn29 (A0 : Option Addr) (w : World) (h0 : Sl w A0 [2147483648]) : Calls Tryd.prog 40 #[.slice A0 1 1] w fun e w' => ∃ A c, e = .returned (.tuple #[.slice A 0 c, .int .i64 2]) ∧ Below w.heap.size w w' :=
  (len_any  A0 1 [2147483648] w h0 (by decide) (by unfold Ok; simp)).mono fun e w' H => fail_of H (by kernel_rfl) (by decide)
end Go.Proofs.YtchjdhlmpdcibaaDoor
