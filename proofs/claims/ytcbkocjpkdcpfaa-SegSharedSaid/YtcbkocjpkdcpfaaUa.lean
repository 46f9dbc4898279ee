/- The chapter's examples hold. -/
import Derived.Test.YtcbkocjpkdcpfaaTu
import Derived.Test.YtcbkocjpkdcpfaaTq
import Derived.Test.YtcbkocjpkdcpfaaTf
import Derived.Test.YtcbkocjpkdcpfaaTg
import Derived.Test.YtcbkocjpkdcpfaaTb
import Derived.Test.YtcbkocjpkdcpfaaSf
import Derived.Test.YtcbkocjpkdcpfaaSe
namespace Go.Proofs.Ytcbkocjpkdcpfaa
set_option linter.unusedVariables false
open Go.RowKit Go.Shelf

theorem Sl.al {w : World} {A : Option Addr} {zs : List Int} (h : Sl w A zs) (o : Obj) : Sl (w.alloc o) A zs := h.step ((Below.refl _ _).alloc (Nat.le_refl _) o)
theorem SlP.al {w : World} {A : Option Addr} {ps : List (Int × Int)} (h : SlP w A ps) (o : Obj) : SlP (w.alloc o) A ps := h.below ((Below.refl w.heap.size w).alloc (Nat.le_refl _) o) (Nat.le_refl _)
theorem Sl.lit (w : World) (zs : List Int) : Sl (w.alloc (.cells (zs.map (Value.int .i64)).toArray 3)) (some ⟨w.heap.size, 0, none⟩) zs :=
  Full.sl (show Full _ _ _ from Blk.new w 3 _)
theorem retL_lit {w w' : World} {zs : List Int} {er : Int} {e : Ending} (xs : List Int) (n : Nat) (h : RetL w zs er e w') (h1 : zs = xs) (h2 : er = 0) (h3 : xs.length = n) :
    ∃ A c, e = .returned (.tuple #[.slice A n c, .int .i64 0]) ∧ n ≤ c ∧ Sl w' A xs ∧ Below w.heap.size w w' := by
  subst h1; subst h2; subst h3; exact h
theorem retLL_lit {w w' : World} {zs ys : List Int} {er : Int} {e : Ending} (xs us : List Int) (n m : Nat) (h : RetLL w zs ys er e w') (h1 : zs = xs) (h1' : ys = us) (h2 : er = 0) (h3 : xs.length = n) (h4 : us.length = m) :
    ∃ A c A' c', e = .returned (.tuple #[.slice A n c, .slice A' m c', .int .i64 0]) ∧ n ≤ c ∧ m ≤ c' ∧ Sl w' A xs ∧ Sl w' A' us ∧ Below w.heap.size w w' := by
  subst h1; subst h1'; subst h2; subst h3; subst h4; exact h
theorem retPE_lit {w w' : World} {ps : List (Int × Int)} {er : Int} {e : Ending} (xs : List (Int × Int)) (n : Nat) (h : RetPE w ps er e w') (h1 : ps = xs) (h2 : er = 0) (h3 : xs.length = n) :
    ∃ A c, e = .returned (.tuple #[.slice A n c, .int .i64 0]) ∧ n ≤ c ∧ SlP w' A xs ∧ Below w.heap.size w w' := by
  subst h1; subst h2; subst h3; exact h
theorem eq_lit (A A' : Option Addr) (c c' n : Nat) (zs : List Int) (w : World) (hn : zs.length = n) (hx : Sl w A zs) (hy : Sl w A' zs) (hl : zs.length ≤ 9223372036854775807) :
    Calls Try.prog 20 #[.slice A n c, .slice A' n c'] w fun e w' => e = .returned (.bool true) ∧ Below w.heap.size w w' := by
  subst hn
  refine (equal_any A A' c c' zs zs w hx hy hl hl).mono ?_
  rintro e w' ⟨rfl, m, rfl⟩
  exact ⟨by simp, below_drewN w m⟩

theorem k14 (A : Option Addr) (c : Nat) (w : World) (h : Sl w A [2, 0, 3]) : Calls Try.prog 14 #[.slice A 3 c] w fun e w' => ∃ A c, e = .returned (.tuple #[.slice A 3 c, .int .i64 0]) ∧ 3 ≤ c ∧ Sl w' A [0, 2, 2] ∧ Below w.heap.size w w' :=
  (starts_any A c [2, 0, 3] w h (by decide)).mono fun e w' H => retL_lit [0, 2, 2] 3 H (by kernel_rfl) (by kernel_rfl) rfl
theorem k16 (A : Option Addr) (c : Nat) (w : World) (h : Sl w A [2, 0, 3]) : Calls Try.prog 16 #[.slice A 3 c] w fun e w' => ∃ A c, e = .returned (.tuple #[.slice A 6 c, .int .i64 0]) ∧ 6 ≤ c ∧ Sl w' A [1, 0, 2, 0, 0, 0] ∧ Below w.heap.size w w' :=
  (heads_any A c [2, 0, 3] w h (by decide)).mono fun e w' H => retL_lit [1, 0, 2, 0, 0, 0] 6 H (by kernel_rfl) (by kernel_rfl) rfl
theorem k18 (A : Option Addr) (c : Nat) (w : World) (h : Sl w A [2, 0, 3]) : Calls Try.prog 18 #[.slice A 3 c] w fun e w' => ∃ A c, e = .returned (.tuple #[.slice A 5 c, .int .i64 0]) ∧ 5 ≤ c ∧ Sl w' A [0, 0, 2, 2, 2] ∧ Below w.heap.size w w' :=
  (owners_any A c [2, 0, 3] w h (by decide)).mono fun e w' H => retL_lit [0, 0, 2, 2, 2] 5 H (by kernel_rfl) (by kernel_rfl) rfl
theorem k21 (A A' : Option Addr) (c : Nat) (w : World) (h : Sl w A [2, 0, 1]) (h' : Sl w A' [2, 0, 3]) : Calls Try.prog 21 #[.slice A 3 c, .slice A' 3 3] w fun e w' => ∃ A c, e = .returned (.tuple #[.slice A 3 c, .int .i64 0]) ∧ 3 ≤ c ∧ Sl w' A [2, 0, 3] ∧ Below w.heap.size w w' :=
  (nest_any A A' c 3 [2, 0, 1] [2, 0, 3] w h h' (by decide) (by decide) (by decide) (by decide)).mono fun e w' H => retL_lit [2, 0, 3] 3 H (by kernel_rfl) (by kernel_rfl) rfl
theorem k23 (A : Option Addr) (c : Nat) (w : World) (h : Sl w A [5, 0, 2]) : Calls Try.prog 23 #[.slice A 3 c, .int .i64 2] w fun e w' => ∃ A c A' c', e = .returned (.tuple #[.slice A 4 c, .slice A' 3 c', .int .i64 0]) ∧ 4 ≤ c ∧ 3 ≤ c' ∧ Sl w' A [2, 2, 1, 2] ∧ Sl w' A' [3, 0, 1] ∧ Below w.heap.size w w' :=
  (split_any A c [5, 0, 2] 2 w h (by decide)).mono fun e w' H => retLL_lit [2, 2, 1, 2] [3, 0, 1] 4 3 H (by kernel_rfl) (by kernel_rfl) (by kernel_rfl) rfl rfl
theorem hbN : ∀ j, j < ([3, 2, 0] : List Int).length → nth [3, 2, 0] j ≤ 9223372036854775807 := by
  intro j hj
  match j, hj with
  | 0, _ => decide
  | 1, _ => decide
  | 2, _ => decide
theorem k28 (A A' : Option Addr) (c c' : Nat) (w : World) (h : Sl w A [1, 3, 0]) (h' : Sl w A' [3, 2, 0]) : Calls Try.prog 28 #[.slice A 3 c, .slice A' 3 c', .int .i64 6] w fun e w' => e = .returned (.tuple #[.int .i64 2, .int .i64 0]) ∧ Below w.heap.size w w' :=
  (depth_any A A' c c' [1, 3, 0] [3, 2, 0] 6 w h h' (by decide) (by decide) hbN).mono fun e w' ⟨H, hB⟩ => ⟨H.trans (by kernel_rfl), hB⟩
theorem k27 (A A' : Option Addr) (c c' : Nat) (w : World) (h : Sl w A [1, 3, 0]) (h' : Sl w A' [3, 2, 0]) : Calls Try.prog 27 #[.slice A 3 c, .slice A' 3 c', .int .i64 6] w fun e w' => e = .returned (.tuple #[.int .i64 5, .int .i64 0]) ∧ Below w.heap.size w w' :=
  (shared_any A A' c c' [1, 3, 0] [3, 2, 0] 6 w h h' (by decide) (by decide) hbN).mono fun e w' ⟨H, hB⟩ => ⟨H.trans (by kernel_rfl), hB⟩
theorem k12 (A : Option Addr) (c : Nat) (w : World) (h : Sl w A [2, 0, 3]) : Calls Try.prog 12 #[.slice A 3 c] w fun e w' => e = .returned (.tuple #[.int .i64 5, .int .i64 0]) ∧ Below w.heap.size w w' :=
  (check_any A c [2, 0, 3] w h (by decide)).mono fun e w' ⟨H, hB⟩ => ⟨H.trans (by kernel_rfl), hB⟩
theorem k30 (A A' : Option Addr) (c c' : Nat) (w : World) (h : Sl w A [1, 3, 0]) (h' : Sl w A' [3, 2, 0]) : Calls Try.prog 30 #[.slice A 3 c, .slice A' 3 c', .int .i64 6] w fun e w' => ∃ A c, e = .returned (.tuple #[.slice A 1 c, .int .i64 0]) ∧ 1 ≤ c ∧ SlP w' A [(1, 4)] ∧ Below w.heap.size w w' :=
  (touched_any A A' c c' [1, 3, 0] [3, 2, 0] 6 w h h' (by decide) (by decide) hbN).mono fun e w' H => retPE_lit [(1, 4)] 1 H (by kernel_rfl) (by kernel_rfl) rfl
theorem k33 (A A' : Option Addr) (c c' : Nat) (w : World) (h : Sl w A [1, 3, 0]) (h' : Sl w A' [3, 2, 0]) : Calls Try.prog 33 #[.slice A 3 c, .slice A' 3 c', .int .i64 6] w fun e w' => ∃ A c, e = .returned (.tuple #[.slice A 5 c, .int .i64 0]) ∧ 5 ≤ c ∧ Sl w' A [1, 2, 3, 3, 4] ∧ Below w.heap.size w w' :=
  (places_any A A' c c' [1, 3, 0] [3, 2, 0] 6 w h h' (by decide) (by decide) hbN).mono fun e w' H => retL_lit [1, 2, 3, 3, 4] 5 H (by kernel_rfl) (by kernel_rfl) rfl
theorem k35 (A A' : Option Addr) (c c' : Nat) (w : World) (h : Sl w A [1, 3, 0]) (h' : Sl w A' [3, 2, 0]) : Calls Try.prog 35 #[.slice A 3 c, .slice A' 3 c', .int .i64 6] w fun e w' => ∃ A c A' c', e = .returned (.tuple #[.slice A 3 c, .slice A' 4 c', .int .i64 0]) ∧ 3 ≤ c ∧ 4 ≤ c' ∧ Sl w' A [0, 2, 0] ∧ Sl w' A' [1, 2, 3, 4] ∧ Below w.heap.size w w' :=
  (compact_any touched_c A A' c c' [1, 3, 0] [3, 2, 0] 6 w h h' (by decide) (by decide) hbN).mono fun e w' H => retLL_lit [0, 2, 0] [1, 2, 3, 4] 3 4 H (by kernel_rfl) (by kernel_rfl) (by kernel_rfl) rfl rfl
theorem k39 (A : Option Addr) (c : Nat) (w : World) (h : Sl w A [0, 2, 2]) : Calls Try.prog 39 #[.slice A 3 c, .int .i64 5] w fun e w' => ∃ A c, e = .returned (.tuple #[.slice A 3 c, .int .i64 0]) ∧ 3 ≤ c ∧ Sl w' A [2, 0, 3] ∧ Below w.heap.size w w' :=
  (lengths_any A c [2, 0, 3] w h (Fine.of_ck (by kernel_rfl))).mono fun e w' H => retL_lit [2, 0, 3] 3 H rfl rfl rfl
theorem k40 (A : Option Addr) (c : Nat) (w : World) (h : Sl w A [2, 1]) : Calls Try.prog 40 #[.slice A 2 c] w fun e w' => ∃ A c, e = .returned (.tuple #[.slice A 3 c, .int .i64 0]) ∧ 3 ≤ c ∧ Sl w' A [0, 1, 0] ∧ Below w.heap.size w w' :=
  (show Calls Try.prog 40 #[.slice A (hdL [0, 1, 0]).length c] w _ from ofHeads_any A c [0, 1, 0] w h (Fine.of_ck (by kernel_rfl))).mono fun e w' H => retL_lit [0, 1, 0] 3 H rfl rfl rfl
theorem k41 (A : Option Addr) (c : Nat) (w : World) (h : Sl w A [0, 0, 2]) : Calls Try.prog 41 #[.slice A 3 c, .int .i64 4] w fun e w' => ∃ A c, e = .returned (.tuple #[.slice A 4 c, .int .i64 0]) ∧ 4 ≤ c ∧ Sl w' A [2, 0, 1, 0] ∧ Below w.heap.size w w' :=
  (show Calls Try.prog 41 #[.slice A (owL [2, 0, 1, 0]).length c, .int .i64 ([2, 0, 1, 0] : List Int).length] w _ from ofOwners_any A c [2, 0, 1, 0] w h (Fine.of_ck (by kernel_rfl))).mono fun e w' H => retL_lit [2, 0, 1, 0] 4 H rfl rfl rfl
theorem k32 (A A' : Option Addr) (c c' : Nat) (w : World) (h : SlP w A [(1, 4)]) (h' : SlP w A' [(1, 4)]) : Calls Try.prog 32 #[.slice A 1 c, .slice A' 1 c'] w fun e w' => e = .returned (.bool true) ∧ Below w.heap.size w w' := by
  refine (same_any A A' c c' [(1, 4)] [(1, 4)] w h h' (by decide) (by decide)).mono ?_
  rintro e w' ⟨rfl, m, rfl⟩
  exact ⟨rfl, below_drewN w m⟩
theorem SlP.lit1 (w : World) (x y : Int) : SlP (w.alloc (.cells #[.int .i64 x, .int .i64 y] 52)) (some ⟨w.heap.size, 0, none⟩) [(x, y)] := fun _ => by
  refine ⟨w.heap.size, 0, rfl, by simp, fun j hj => ?_⟩
  obtain rfl : j = 0 := by simpa using hj
  exact ⟨cell2a w 52 _ _, cell2b w 52 _ _⟩

end Go.Proofs.Ytcbkocjpkdcpfaa
