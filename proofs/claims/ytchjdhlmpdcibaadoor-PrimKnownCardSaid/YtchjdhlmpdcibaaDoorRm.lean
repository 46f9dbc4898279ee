/- Walks of the specification: Copy, fits, Cat. -/
import Derived.Test.YtchjdhlmpdcibaaDoorRi
namespace Go.Proofs.YtchjdhlmpdcibaaDoor
set_option linter.unusedVariables false
open Go.RowKit Go.Shelf
set_option maxHeartbeats 4000000 in
theorem copy_any (A : Option Addr) (c : Nat) (zs : List Int) (w : World) (h : Sl w A zs) (hn : A = none → c = 0) (hl : zs.length ≤ 1048576) :
    Calls Tryd.prog 78 #[.slice A zs.length c] w fun e w' => ∃ v, e = .returned v ∧ OwnI w' w.heap.size v zs ∧ Below w.heap.size w w' := by
  obtain ⟨i0, hi, hz0, hz1, hz2⟩ := info_parts int_info
  have hown := OwnI.empty w w.heap.size (Nat.le_refl _)
  have hB0 := (Below.refl w.heap.size w).alloc (Nat.le_refl _) (.cells #[] 3)
  have hS := h.step hB0
  go_enter Tryd.func78, Tryd.ntmps78
  cases A with
  | none =>
    obtain rfl := hn rfl
    obtain rfl := h.nil_of
    go_wp2
    go_ret
    exact ⟨_, rfl, hown, hB0⟩
  | some ad =>
    go_wp2_with (at_builtin; refine wpList_append_own _ rfl _ _ 22 rfl w.heap.size 3 i0 (.int .i64 0) 1 8 Tryd.underlying22 hi hz0 hz1 hz2 rfl (by decide) _ _ _ rfl hown ad zs.length c (zs.map (Value.int .i64)) rfl (by simp) (hS.news) (by simp [Value.oneCell']) (by show 0 + _ ≤ _; unfold maxLen; omega) (by show (0 + _) * _ ≤ _; omega) hB0.size ?_; intro v' w2 hown' hgrow _)
    go_ret
    have hown3 := OwnI.app (zs := []) hown' rfl rfl
    exact ⟨_, rfl, hown3, below_app hB0 hB0.size hown hgrow⟩
theorem fits_any (A : Option Addr) (n c : Nat) (w : World) (hn : n ≤ 9223372036854775807) :
    Calls Tryd.prog 77 #[.slice A n c] w fun e w' => e = .returned (if 1048576 < n then .tuple #[.slice none 0 0, .int .i64 9] else .tuple #[.slice A n c, .int .i64 0]) ∧ w = w' := by
  by_cases h : 1048576 < n
  · rw [if_pos h]
    go_enter Tryd.func77, Tryd.ntmps77
    go_wp2
    go_ret2
    exact ⟨rfl, rfl⟩
  · rw [if_neg h]
    go_enter Tryd.func77, Tryd.ntmps77
    go_wp2
    go_ret2
    exact ⟨rfl, rfl⟩
set_option maxRecDepth 100000 in
set_option maxHeartbeats 4000000 in
theorem rcat_any (A1 : Option Addr) (c1 : Nat) (a : List Int) (A2 : Option Addr) (c2 : Nat) (b : List Int) (w : World) (h1 : Sl w A1 a) (hc1 : a.length ≤ c1) (k1 : Ok a) (h2 : Sl w A2 b) (hc2 : b.length ≤ c2) (k2 : Ok b) (hn1 : A1 = none → c1 = 0) (hn2 : A2 = none → c2 = 0) :
    Calls Tryd.prog 39 #[.slice A1 a.length c1, .slice A2 b.length c2] w (RetL w (orL (catE a b) (a ++ b)) (catE a b)) := by
  obtain ⟨i0, hi, hz0, hz1, hz2⟩ := info_parts int_info
  have C1 : ∀ W g, Below w.heap.size w W → Blk W g 22 #[.slice A1 a.length c1, .slice A2 b.length c2] → Calls Tryd.prog 56 #[.slice (some ⟨g, 0, none⟩) 2 2] W (RetV W (.int .i64 (lsE [a, b]))) :=
    fun W g hb hg => (lists_any _ 2 [a, b] W (sll2 hg (h1.step hb) (h2.step hb) hc1 hc2) (by simp) (allShort_of (by unfold Ok at k1 k2; simpa using ⟨k1, k2⟩))).mono fun e w' ⟨he, hw⟩ => ⟨he, hw ▸ Below.refl _ _⟩
  by_cases he : lsE [a, b] = 0
  · have hl := (lsE_ok he).1 a (by simp)
    have hl2 := (lsE_ok he).1 b (by simp)
    have HE0 := Lib.hid he
    have C3 := fun W (hs : Sl W A1 a) => copy_any A1 c1 a W hs hn1 hl
    rw [he] at C1
    have C1 := Lib.hid C1
    have C3 := Lib.hid C3
    clear he
    go_enter Tryd.func39, Tryd.ntmps39
    go_wp2_with fail
    refine (C1.out _ _ (al1 _ _) ?_).mono ?_
    · exact Blk.at (by simp)
    rintro e w1 ⟨rfl, hB⟩
    have hB0 := below_step (al1 _ _) hB
    have hs01 := hB0.size
    go_wp2_with fail
    refine (C3.out _ (h1.step hB0)).mono ?_
    rintro e w2 ⟨v, rfl, hown0, hB1⟩
    have hB2 := below_step hB0 hB1
    have hown : OwnI w2 w.heap.size v a := hown0.lower hs01
    have hS := h2.step hB2
    clear hown0 hB1
    cases A2 with
    | none =>
      obtain rfl := hn2 rfl
      obtain rfl := h2.nil_of
      go_wp2_with (at_builtin; refine wpList_append_own_none rfl _ _ 22 rfl w.heap.size 3 i0 1 Tryd.underlying22 hi _ _ _ rfl hown rfl ?_; have hown3 : OwnI w2 w.heap.size v (a ++ []) := by rw [List.append_nil]; exact hown)
      obtain ⟨A', c', rfl, hcc, hsl⟩ := hown3.form
      have C4 := fits_any A' (a ++ []).length c' w2 (by simp; omega)
      by_cases h9 : 1048576 < (a ++ ([] : List Int)).length
      · rw [if_pos h9] at C4
        have HE := Lib.hid (show catE a [] = 9 by unfold catE; rw [if_pos HE0.out, if_pos (by simpa using h9)])
        have C4 := Lib.hid C4
        clear h9
        go_wp2_with fail
        refine C4.out.mono ?_
        rintro e w' ⟨rfl, rfl⟩
        go_wp2
        go_ret2
        rw [HE.out]
        exact retL_none (by decide) hB2
      · rw [if_neg h9] at C4
        have HE := Lib.hid (show catE a [] = 0 by unfold catE; rw [if_pos HE0.out, if_neg (by simpa using h9)])
        have C4 := Lib.hid C4
        clear h9
        go_wp2_with fail
        refine C4.out.mono ?_
        rintro e w' ⟨rfl, rfl⟩
        go_wp2
        go_ret2
        rw [HE.out, orL_ok]
        exact ⟨A', c', by rw [List.append_nil]; rfl, hcc, hsl, hB2⟩
    | some ad =>
      go_wp2_with (at_builtin; refine wpList_append_own _ rfl _ _ 22 rfl w.heap.size 3 i0 (.int .i64 0) 1 8 Tryd.underlying22 hi hz0 hz1 hz2 rfl (by decide) _ _ _ rfl hown ad b.length c2 (b.map (Value.int .i64)) rfl (by simp) (hS.news) (by simp [Value.oneCell']) (by unfold maxLen; omega) (by omega) hB2.size ?_; intro v' w3 hown' hgrow _; have hown3 := OwnI.app hown' rfl rfl; have hB4 := below_app hB2 hB2.size hown hgrow; clear hown' hgrow; obtain ⟨A', c', rfl, hcc, hsl⟩ := hown3.form)
      have C4 := fits_any A' (a ++ b).length c' w3 (by simp; omega)
      rw [List.length_append] at C4 hcc
      by_cases h9 : 1048576 < a.length + b.length
      · rw [if_pos h9] at C4
        have HE := Lib.hid (show catE a b = 9 by unfold catE; rw [if_pos HE0.out, if_pos h9])
        have C4 := Lib.hid C4
        clear h9
        go_wp2_with fail
        refine C4.out.mono ?_
        rintro e w' ⟨rfl, rfl⟩
        go_wp2
        go_ret2
        rw [HE.out]
        exact retL_none (by decide) hB4
      · rw [if_neg h9] at C4
        have HE := Lib.hid (show catE a b = 0 by unfold catE; rw [if_pos HE0.out, if_neg h9])
        have C4 := Lib.hid C4
        clear h9
        go_wp2_with fail
        refine C4.out.mono ?_
        rintro e w' ⟨rfl, rfl⟩
        go_wp2
        go_ret2
        rw [HE.out, orL_ok]
        exact ⟨A', c', by rw [List.length_append]; rfl, by rw [List.length_append]; exact hcc, hsl, hB4⟩
  · have hd : (lsE [a, b] != 0) = true := by rw [bne_iff_ne]; exact he
    rw [show catE a b = lsE [a, b] by unfold catE; rw [if_neg he]]
    have C1 := Lib.hid C1
    have HE := Lib.hid he
    clear he
    go_enter Tryd.func39, Tryd.ntmps39
    go_wp2_with fail
    refine (C1.out _ _ (al1 _ _) ?_).mono ?_
    · exact Blk.at (by simp)
    rintro e w1 ⟨rfl, hB⟩
    have hB0 := below_step (al1 _ _) hB
    have hs01 := hB0.size
    go_wp2
    go_ret2
    exact retL_none HE.out hB0
end Go.Proofs.YtchjdhlmpdcibaaDoor
