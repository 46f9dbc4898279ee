/- Walks and mathematics of rank, part 28. -/
import Derived.Test.YtgicfgpemcagcaaG27
import Derived.Maps.AppendAt
/- Walks of rank's specification: Merge. -/
namespace Go.Proofs.Ytgicfgpemcagcaa
set_option linter.unusedVariables false
set_option maxRecDepth 100000
open Go.RowKit Go.Shelf
theorem OwnI.beside {w w1 : World} {base base' : Nat} {u v : Value} {xs zs : List Int} {o : Obj} (h : OwnI w base u xs) (hne : u.ownBlock = none ∨ u.ownBlock ≠ v.ownBlock) (hg : (w.alloc o).grownBy w1 v.ownBlock) : OwnI w1 base u xs :=
  (h.alloc o).kept hg hne
def Apart (u v : Value) : Prop := u.ownBlock = none ∨ u.ownBlock ≠ v.ownBlock
theorem Apart.symm_ {u v : Value} (h : Apart u v) : Apart v u := by
  rcases h with h | h
  · by_cases e : v.ownBlock = none
    · exact .inl e
    · exact .inr (fun e' => e (by rw [e', h]))
  · exact .inr (fun e => h e.symm)
/-- What an append hands back lies where its slice lay, or in a new block. -/
theorem apart_append {u v v' : Value} {w : World} {base : Nat} {xs : List Int} {o : Obj} (h : OwnI w base u xs) (ha : Apart u v) (hat : v'.ownBlock = v.ownBlock ∨ v'.ownBlock = some (w.alloc o).heap.size) : Apart u v' := by
  rcases hat with e | e
  · unfold Apart; rw [e]; exact ha
  · refine .inr fun e' => ?_
    rw [e, World.size_alloc] at e'
    have := (h.lt _ e').2
    omega
/-- The place of the number i of a, if k of b are looked at. -/
def meP (o : List Int) (g x : Int) (k : Nat) : Nat := (o.take k).countP (fun y => decide (y < x + g))
theorem meP_succ (o : List Int) (g x : Int) (k : Nat) (h : k < o.length) : meP o g x (k + 1) = meP o g x k + (if nth o k < x + g then 1 else 0) := by
  unfold meP
  rw [take_snoc o k h, List.countP_append, List.countP_singleton]
  simp
theorem meP_le (o : List Int) (g x : Int) (k : Nat) : meP o g x k ≤ k := by
  unfold meP
  have := List.countP_le_length (p := fun y => decide (y < x + g)) (l := o.take k)
  rw [List.length_take] at this
  omega
theorem meP_all (o : List Int) (g x : Int) : meP o g x o.length = o.countP (fun y => decide (y < x + g)) := by unfold meP; rw [List.take_length]
set_option maxHeartbeats 8000000 in
theorem rMerge_any (A A' : Option Addr) (c c' : Nat) (a b : List Int) (w : World) (h : Sl w A a) (k : Ok a) (h' : Sl w A' b) (k' : Ok b) (hsum : a.length + b.length ≤ 9223372036854775807) :
    Calls Try.prog 28 #[.slice A a.length c, .slice A' b.length c'] w (RetLL w (orL (meE a b) (amL a b 0)) (orL (meE a b) (amL b a 1)) (meE a b)) := by
  have hwr : IntKind.i64.wrap ((a.length : Int) + (b.length : Int)) = (a.length : Int) + (b.length : Int) := IntWalk.i64_in _ (by omega)
  by_cases h1 : a.length + b.length ≤ 1048576
  case neg =>
    have hd : decide ((1048576 : Int) < (a.length : Int) + (b.length : Int)) = true := by simp; omega
    rw [meE_3 h1]
    go_enter Try.func28, Try.ntmps28
    go_wp2
    go_ret3
    exact retLL_none (by decide) (Below.refl _ _)
  have hd : decide ((1048576 : Int) < (a.length : Int) + (b.length : Int)) = false := by simp; omega
  have hsh : [a, b].all shortB = true := by simp [shortB]; omega
  have D1 := words_any A c a w h k
  have D2 := words_any A' c' b w h' k'
  cases hwa : wordsB a with
  | false =>
    have hE : meE a b = 2 := by rw [meE_c h1 (by unfold lsE; rw [if_pos hsh]; simp [hwa])]; unfold lsE; rw [if_pos hsh]; simp [hwa]
    rw [hE]
    rw [hwa] at D1
    have D1 := Lib.hid D1
    clear hwa hsh hE D2
    go_enter Try.func28, Try.ntmps28
    go_wp2_with fail
    refine D1.out.mono ?_
    rintro e w1 ⟨rfl, rfl⟩
    go_wp2
    go_ret3
    exact retLL_none (by decide) (Below.refl _ _)
  | true =>
  rw [hwa] at D1
  have D1 := Lib.hid D1
  cases hwb : wordsB b with
  | false =>
    have hE : meE a b = 2 := by rw [meE_c h1 (by unfold lsE; rw [if_pos hsh]; simp [hwb])]; unfold lsE; rw [if_pos hsh]; simp [hwb]
    rw [hE]
    rw [hwb] at D2
    have D2 := Lib.hid D2
    clear hwa hwb hsh hE
    go_enter Try.func28, Try.ntmps28
    go_wp2_with fail
    refine D1.out.mono ?_
    rintro e w1 ⟨rfl, rfl⟩
    go_wp2_with fail
    refine D2.out.mono ?_
    rintro e w1 ⟨rfl, rfl⟩
    go_wp2
    go_ret3
    exact retLL_none (by decide) (Below.refl _ _)
  | true =>
  rw [hwb] at D2
  have D2 := Lib.hid D2
  have h2 : lsE [a, b] = 0 := by unfold lsE; rw [if_pos hsh]; simp [hwa, hwb]
  clear hwa hwb hsh
  have C2 := fun (W : World) (hW : Sl W A a) => risSorted_gen A c a W hW (by omega)
  have C3 := fun (W : World) (hW : Sl W A' b) => risSorted_gen A' c' b W hW (by omega)
  cases h3 : risB a with
  | false =>
    rw [meE_7 h1 h2 (by rw [h3]; rfl)]
    rw [h3] at C2
    have C2 := Lib.hid C2
    clear h2 h3 C3
    go_enter Try.func28, Try.ntmps28
    go_wp2_with fail
    refine D1.out.mono ?_
    rintro e w1 ⟨rfl, rfl⟩
    go_wp2_with fail
    refine D2.out.mono ?_
    rintro e w1 ⟨rfl, rfl⟩
    go_wp2_with fail
    refine (C2.out _ h).mono ?_
    rintro e w2 ⟨rfl, q, rfl⟩
    go_wp2
    go_ret3
    exact retLL_none (by decide) (below_dN _ q)
  | true =>
  rw [h3] at C2
  have C2 := Lib.hid C2
  cases h4 : risB b with
  | false =>
    rw [meE_7 h1 h2 (by rw [h3, h4]; rfl)]
    rw [h4] at C3
    have C3 := Lib.hid C3
    clear h2 h3 h4
    go_enter Try.func28, Try.ntmps28
    go_wp2_with fail
    refine D1.out.mono ?_
    rintro e w1 ⟨rfl, rfl⟩
    go_wp2_with fail
    refine D2.out.mono ?_
    rintro e w1 ⟨rfl, rfl⟩
    go_wp2_with fail
    refine (C2.out _ h).mono ?_
    rintro e w2 ⟨rfl, q, rfl⟩
    have hB2 := below_dN w q
    obtain ⟨wq, hwq⟩ : ∃ wq, w.drewN q = wq := ⟨_, rfl⟩
    rw [hwq] at hB2 ⊢
    clear hwq
    go_wp2_with fail
    refine (C3.out _ (h'.step hB2)).mono ?_
    rintro e w3 ⟨rfl, q2, rfl⟩
    go_wp2
    go_ret3
    exact retLL_none (by decide) (hB2.trans ((below_dN wq q2).mono hB2.size))
  | true =>
  rw [h4] at C3
  have C3 := Lib.hid C3
  rw [meE_0 h1 h2 h3 h4, orL_ok, orL_ok]
  have HF0 : Hid (∀ j, (fun i => ((i + b.countP (fun x => decide (x < nth a i + 0)) : Nat) : Int)) j = ((j + b.countP (fun x => decide (x < nth a j + 0)) : Nat) : Int)) := Lib.hid (fun _ => rfl)
  have HF1 : Hid (∀ j, (fun i => ((i + a.countP (fun x => decide (x < nth b i + 1)) : Nat) : Int)) j = ((j + a.countP (fun x => decide (x < nth b j + 1)) : Nat) : Int)) := Lib.hid (fun _ => rfl)
  have HA0 : Hid (amL a b 0 = mk (fun i => ((i + b.countP (fun x => decide (x < nth a i + 0)) : Nat) : Int)) a.length) := Lib.hid rfl
  have HA1 : Hid (amL b a 1 = mk (fun i => ((i + a.countP (fun x => decide (x < nth b i + 1)) : Nat) : Int)) b.length) := Lib.hid rfl
  obtain ⟨F0, hF0⟩ : ∃ F : Nat → Int, (fun i => ((i + b.countP (fun x => decide (x < nth a i + 0)) : Nat) : Int)) = F := ⟨_, rfl⟩
  rw [hF0] at HF0 HA0
  obtain ⟨F1, hF1⟩ : ∃ F : Nat → Int, (fun i => ((i + a.countP (fun x => decide (x < nth b i + 1)) : Nat) : Int)) = F := ⟨_, rfl⟩
  rw [hF1] at HF1 HA1
  obtain ⟨i0, hi, hz0, hz1, hz2⟩ := info_parts int_info
  clear h2 h3 h4 hF0 hF1
  go_enter Try.func28, Try.ntmps28
  go_wp2_with fail
  refine D1.out.mono ?_
  rintro e w1 ⟨rfl, rfl⟩
  go_wp2_with fail
  refine D2.out.mono ?_
  rintro e w1 ⟨rfl, rfl⟩
  go_wp2_with fail
  refine (C2.out _ h).mono ?_
  rintro e w2 ⟨rfl, q, rfl⟩
  have hB2 := below_dN w q
  obtain ⟨wq, hwq⟩ : ∃ wq, w.drewN q = wq := ⟨_, rfl⟩
  rw [hwq] at hB2 ⊢
  clear hwq
  go_wp2_with fail
  refine (C3.out _ (h'.step hB2)).mono ?_
  rintro e w3 ⟨rfl, q2, rfl⟩
  have hB3 := hB2.trans ((below_dN wq q2).mono hB2.size)
  obtain ⟨w, hwr2⟩ : ∃ w, wq.drewN q2 = w := ⟨_, rfl⟩
  rw [hwr2] at hB3 ⊢
  clear hwr2
  replace h := h.step hB3
  replace h' := h'.step hB3
  have ow1 : OwnI ((w.alloc (.cells #[] 3)).alloc (.cells #[] 3)) w.heap.size (.slice (some ⟨w.heap.size, 0, none⟩) 0 0) [] := (OwnI.empty w w.heap.size (Nat.le_refl _)).alloc _
  have ow2 : OwnI ((w.alloc (.cells #[] 3)).alloc (.cells #[] 3)) w.heap.size (.slice (some ⟨w.heap.size + 1, 0, none⟩) 0 0) [] := by
    have := OwnI.empty (w.alloc (.cells #[] 3)) w.heap.size (by simp)
    rwa [World.size_alloc] at this
  have hB4 : Below w.heap.size w ((w.alloc (.cells #[] 3)).alloc (.cells #[] 3)) := ((Below.refl _ _).alloc (Nat.le_refl _) _).alloc (by simp) _
  have hap0 : Apart (.slice (some ⟨w.heap.size + 1, 0, none⟩) 0 0) (.slice (some ⟨w.heap.size, 0, none⟩) 0 0) := by simp [Apart, Value.ownBlock]
  go_wp2
  go_loopw [7, 9] (fun v i wr => ∃ (j : Nat) (M : List Int), j ≤ a.length ∧ i = .int .i64 (j : Int) ∧ Hid (M = mk F0 j) ∧ M.length = j ∧ OwnI wr w.heap.size v M ∧ OwnI wr w.heap.size (.slice (some ⟨w.heap.size + 1, 0, none⟩) 0 0) ([] : List Int) ∧ Apart (.slice (some ⟨w.heap.size + 1, 0, none⟩) 0 0) v ∧ Below w.heap.size w wr) (fun _ i _ => a.length - (intOf i).toNat)
  case atStart => exact ⟨0, [], Nat.zero_le _, rfl, Lib.hid rfl, rfl, ow1, ow2, hap0, hB4⟩
  case round =>
    clear ow1 ow2 hap0 hB4
    obtain ⟨j, M, hj, rfl, HM, hMl, hown, hou, hap, hB⟩ := hrel
    by_cases hjl : j < a.length
    · obtain ⟨ba, oa, rfl, hba, hca⟩ := h.at_ hjl
      have k1 := (hB.cell (p := ⟨ba, oa + j, none⟩) hba).trans hca
      have g0 : (0 : Int) ≤ (j : Int) := by omega
      have g1 : (j : Int) < (a.length : Int) := by omega
      have HF := Lib.hid (HF0.out j)
      obtain ⟨x, hx⟩ : ∃ x, nth a j = x := ⟨_, rfl⟩
      rw [hx] at hca k1 HF
      clear hx
      go_wp2
      rename World => wi
      go_loopw [10, 11] (fun p k wr => ∃ (kk pp : Nat), kk ≤ b.length ∧ k = .int .i64 (kk : Int) ∧ p = .int .i64 (pp : Int) ∧ Hid (pp = j + meP b 0 x kk) ∧ pp ≤ j + kk ∧ OwnI wr w.heap.size _ M ∧ OwnI wr w.heap.size (.slice (some ⟨w.heap.size + 1, 0, none⟩) 0 0) ([] : List Int) ∧ Below w.heap.size w wr) (fun _ k _ => b.length - (intOf k).toNat)
      case atStart => exact ⟨0, j, Nat.zero_le _, rfl, rfl, Lib.hid (by simp [meP]), by omega, hown, hou, hB⟩
      case round =>
        clear hown hou hB k1
        obtain ⟨kk, pp, hk, rfl, rfl, HP, hp, hown, hou, hB⟩ := hrel
        have k1 := (hB.cell (p := ⟨ba, oa + j, none⟩) hba).trans hca
        by_cases hkl : kk < b.length
        · obtain ⟨bb, ob, rfl, hbb, hcb⟩ := h'.at_ hkl
          have k2 := (hB.cell (p := ⟨bb, ob + kk, none⟩) hbb).trans hcb
          have g2 : (0 : Int) ≤ (kk : Int) := by omega
          have g3 : (kk : Int) < (b.length : Int) := by omega
          have HS := Lib.hid (meP_succ b 0 x kk hkl)
          obtain ⟨y, hy⟩ : ∃ y, nth b kk = y := ⟨_, rfl⟩
          rw [hy] at k2 HS
          clear hy hcb
          by_cases hc : (y : Int) < x
          · have HP2 : Hid (pp + 1 = j + meP b 0 x (kk + 1)) := Lib.hid (by rw [HS.out, if_pos (by omega), HP.out]; omega)
            go_wp2
            go_quiet (fail)
            have hBq : Below w.heap.size w (wr.drewN nq) := below_drewN hB nq
            have hoq := hown.drewN nq
            have huq := hou.drewN nq
            go_wp2
            go_roundw
            case rel => exact ⟨kk + 1, pp + 1, by omega, by go_num, by go_num, HP2, by omega, hoq, huq, hBq⟩
            case measure => simp [intOf]; omega
          · have HP2 : Hid (pp = j + meP b 0 x (kk + 1)) := Lib.hid (by rw [HS.out, if_neg (by omega), HP.out]; omega)
            go_wp2
            go_quiet (fail)
            have hBq : Below w.heap.size w (wr.drewN nq) := below_drewN hB nq
            have hoq := hown.drewN nq
            have huq := hou.drewN nq
            go_wp2
            go_roundw
            case rel => exact ⟨kk + 1, pp, by omega, by go_num, rfl, HP2, by omega, hoq, huq, hBq⟩
            case measure => simp [intOf]; omega
        · have hkk : kk = b.length := by omega
          have HM2 : Hid (M ++ [(pp : Int)] = mk F0 (j + 1)) := Lib.hid (by rw [mk_succ, HF.out, ← HM.out, HP.out, hkk, meP_all])
          have g3 : ¬ ((kk : Int) < (b.length : Int)) := by omega
          clear hkk
          go_wp2_with (at_builtin; (refine wpList_append_own_at _ rfl _ _ 22 rfl w.heap.size 3 i0 (.int .i64 0) 1 8 Try.underlying22 hi hz0 hz1 hz2 rfl (by decide) _ _ _ rfl (hown.alloc _) ⟨wr.heap.size, 0, none⟩ 1 1 [.int .i64 (pp : Int)] rfl rfl (cell_one_new _ _ _) (by simp [Value.oneCell']) (by unfold maxLen; omega) (by omega) (by have := hB.size; simp; omega) ?_; intro v' w1 hown' hgrow _ hat; have hB1 := below_append hB hB.size hown hgrow; have hou1 := hou.beside (base' := 0) (zs := []) hap hgrow; have hap1 := apart_append hou hap hat))
          have hown1 := OwnI.snoc hown'
          clear hown' hgrow
          go_roundw
          case rel => exact ⟨j + 1, _, by omega, by go_num, HM2, by simp; omega, hown1, hou1, hap1, hB1⟩
          case measure => simp [intOf]; omega
    · obtain rfl : j = a.length := by omega
      have g1 : ¬ ((a.length : Int) < (a.length : Int)) := by omega
      have HNA := HM
      have hNl := hMl
      obtain ⟨NA, hNA⟩ : ∃ NA, M = NA := ⟨_, rfl⟩
      rw [hNA] at HNA hNl hown
      clear hNA HM hMl
      obtain ⟨A7, c7, rfl, hcc7, hsl7⟩ := hown.form
      obtain ⟨lA, hlA⟩ : ∃ n, NA.length = n := ⟨_, rfl⟩
      rw [hlA] at hown hap hcc7 ⊢
      have HLA := Lib.hid hlA
      clear hlA hsl7 hNl
      go_wp2
      rename World => wm
      go_loopw [8, 12] (fun v i wr => ∃ (j : Nat) (M : List Int), j ≤ b.length ∧ i = .int .i64 (j : Int) ∧ Hid (M = mk F1 j) ∧ M.length = j ∧ OwnI wr w.heap.size v M ∧ OwnI wr w.heap.size (.slice A7 lA c7) NA ∧ Apart (.slice A7 lA c7) v ∧ Below w.heap.size w wr) (fun _ i _ => b.length - (intOf i).toNat)
      case atStart => exact ⟨0, [], Nat.zero_le _, rfl, Lib.hid rfl, rfl, hou, hown, hap.symm_, hB⟩
      case round =>
        clear hown hou hap hB
        obtain ⟨j, M, hj, rfl, HM, hMl, hown, hou, hap, hB⟩ := hrel
        by_cases hjl : j < b.length
        · obtain ⟨ba, oa, rfl, hba, hca⟩ := h'.at_ hjl
          have k1 := (hB.cell (p := ⟨ba, oa + j, none⟩) hba).trans hca
          have g0 : (0 : Int) ≤ (j : Int) := by omega
          have g1 : (j : Int) < (b.length : Int) := by omega
          have HF := Lib.hid (HF1.out j)
          obtain ⟨x, hx⟩ : ∃ x, nth b j = x := ⟨_, rfl⟩
          rw [hx] at hca k1 HF
          clear hx
          go_wp2
          rename World => wi
          go_loopw [13, 14] (fun p k wr => ∃ (kk pp : Nat), kk ≤ a.length ∧ k = .int .i64 (kk : Int) ∧ p = .int .i64 (pp : Int) ∧ Hid (pp = j + meP a 1 x kk) ∧ pp ≤ j + kk ∧ OwnI wr w.heap.size _ M ∧ OwnI wr w.heap.size (.slice A7 lA c7) NA ∧ Below w.heap.size w wr) (fun _ k _ => a.length - (intOf k).toNat)
          case atStart => exact ⟨0, j, Nat.zero_le _, rfl, rfl, Lib.hid (by simp [meP]), by omega, hown, hou, hB⟩
          case round =>
            clear hown hou hB k1
            obtain ⟨kk, pp, hk, rfl, rfl, HP, hp, hown, hou, hB⟩ := hrel
            have k1 := (hB.cell (p := ⟨ba, oa + j, none⟩) hba).trans hca
            by_cases hkl : kk < a.length
            · obtain ⟨bb, ob, rfl, hbb, hcb⟩ := h.at_ hkl
              have k2 := (hB.cell (p := ⟨bb, ob + kk, none⟩) hbb).trans hcb
              have g2 : (0 : Int) ≤ (kk : Int) := by omega
              have g3 : (kk : Int) < (a.length : Int) := by omega
              have HS := Lib.hid (meP_succ a 1 x kk hkl)
              obtain ⟨y, hy⟩ : ∃ y, nth a kk = y := ⟨_, rfl⟩
              rw [hy] at k2 HS
              clear hy hcb
              by_cases hc : (y : Int) ≤ x
              · have HP2 : Hid (pp + 1 = j + meP a 1 x (kk + 1)) := Lib.hid (by rw [HS.out, if_pos (by omega), HP.out]; omega)
                go_wp2
                go_quiet (fail)
                have hBq : Below w.heap.size w (wr.drewN nq) := below_drewN hB nq
                have hoq := hown.drewN nq
                have huq := hou.drewN nq
                go_wp2
                go_roundw
                case rel => exact ⟨kk + 1, pp + 1, by omega, by go_num, by go_num, HP2, by omega, hoq, huq, hBq⟩
                case measure => simp [intOf]; omega
              · have HP2 : Hid (pp = j + meP a 1 x (kk + 1)) := Lib.hid (by rw [HS.out, if_neg (by omega), HP.out]; omega)
                go_wp2
                go_quiet (fail)
                have hBq : Below w.heap.size w (wr.drewN nq) := below_drewN hB nq
                have hoq := hown.drewN nq
                have huq := hou.drewN nq
                go_wp2
                go_roundw
                case rel => exact ⟨kk + 1, pp, by omega, by go_num, rfl, HP2, by omega, hoq, huq, hBq⟩
                case measure => simp [intOf]; omega
            · have hkk : kk = a.length := by omega
              have HM2 : Hid (M ++ [(pp : Int)] = mk F1 (j + 1)) := Lib.hid (by rw [mk_succ, HF.out, ← HM.out, HP.out, hkk, meP_all])
              have g3 : ¬ ((kk : Int) < (a.length : Int)) := by omega
              clear hkk
              go_wp2_with (at_builtin; (refine wpList_append_own_at _ rfl _ _ 22 rfl w.heap.size 3 i0 (.int .i64 0) 1 8 Try.underlying22 hi hz0 hz1 hz2 rfl (by decide) _ _ _ rfl (hown.alloc _) ⟨wr.heap.size, 0, none⟩ 1 1 [.int .i64 (pp : Int)] rfl rfl (cell_one_new _ _ _) (by simp [Value.oneCell']) (by unfold maxLen; omega) (by omega) (by have := hB.size; simp; omega) ?_; intro v' w1 hown' hgrow _ hat; have hB1 := below_append hB hB.size hown hgrow; have hou1 := hou.beside (base' := 0) (zs := []) hap hgrow; have hap1 := apart_append hou hap hat))
              have hown1 := OwnI.snoc hown'
              clear hown' hgrow
              go_roundw
              case rel => exact ⟨j + 1, _, by omega, by go_num, HM2, by simp; omega, hown1, hou1, hap1, hB1⟩
              case measure => simp [intOf]; omega
        · obtain rfl : j = b.length := by omega
          have g1 : ¬ ((b.length : Int) < (b.length : Int)) := by omega
          obtain ⟨A8, c8, rfl, hc8, hs8⟩ := hown.form
          obtain ⟨A7', c7', e7, hc7, hs7⟩ := hou.form
          cases e7
          go_wp2
          go_ret3
          rw [HA0.out, HA1.out, ← HNA.out, ← HM.out]
          exact ⟨_, _, _, _, by rw [hMl]; rfl, hc7, hc8, hs7, hs8, hB3.trans (hB.mono hB3.size)⟩
end Go.Proofs.Ytgicfgpemcagcaa
