/- Walks of the specification: Merge. -/
import Derived.Test.YtchjdhlmpdcibaaDoorRc
namespace Go.Proofs.YtchjdhlmpdcibaaDoor
set_option linter.unusedVariables false
open Go.RowKit Go.Shelf
set_option maxRecDepth 100000 in
set_option maxHeartbeats 4000000 in
theorem rmerge_any (A1 : Option Addr) (c1 : Nat) (f : List Int) (A2 : Option Addr) (c2 : Nat) (a : List Int) (A3 : Option Addr) (c3 : Nat) (b : List Int) (w : World) (h1 : Sl w A1 f) (hc1 : f.length ≤ c1) (k1 : Ok f) (h2 : Sl w A2 a) (hc2 : a.length ≤ c2) (k2 : Ok a) (h3 : Sl w A3 b) (hc3 : b.length ≤ c3) (k3 : Ok b) :
    Calls Tryd.prog 26 #[.slice A1 f.length c1, .slice A2 a.length c2, .slice A3 b.length c3] w (RetL w (orL (merE f a b) (merL f a b)) (merE f a b)) := by
  obtain ⟨i0, hi, hz0, hz1, hz2⟩ := info_parts int_info
  have C1 : ∀ W g, Below w.heap.size w W → Blk W g 22 #[.slice A1 f.length c1, .slice A2 a.length c2, .slice A3 b.length c3] → Calls Tryd.prog 56 #[.slice (some ⟨g, 0, none⟩) 3 3] W (RetV W (.int .i64 (lsE [f, a, b]))) :=
    fun W g hb hg => (lists_any _ 3 [f, a, b] W (sll3 hg (h1.step hb) (h2.step hb) (h3.step hb) hc1 hc2 hc3) (by simp) (allShort_of (by unfold Ok at k1 k2 k3; simpa using ⟨k1, k2, k3⟩))).mono fun e w' ⟨he, hw⟩ => ⟨he, hw ▸ Below.refl _ _⟩
  by_cases he : lsE [f, a, b] = 0
  · have hl := (lsE_ok he).1 f (by simp)
    have hl2 := (lsE_ok he).1 a (by simp)
    have hl3 := (lsE_ok he).1 b (by simp)
    rw [he] at C1
    have C1 := Lib.hid C1
    by_cases hyes : a.length = cnt f f.length ∧ b.length = f.length - cnt f f.length
    · rw [show merE f a b = 0 by unfold merE; rw [if_pos he, if_pos hyes], orL_ok]
      have hyesH := Lib.hid hyes
      clear he hyes
      go_enter Tryd.func26, Tryd.ntmps26
      go_wp2_with fail
      refine (C1.out _ _ (al1 _ _) ?_).mono ?_
      · exact Blk.at (by simp)
      rintro e w1 ⟨rfl, hB⟩
      have hB0 := below_step (al1 _ _) hB
      have hs01 := hB0.size
      go_wp2
      go_loop [9, 10] (fun t i => ∃ k : Nat, k ≤ f.length ∧ i = .int .i64 k ∧ t = .int .i64 (cnt f k)) (fun _ i => f.length - (intOf i).toNat)
      case atStart => exact ⟨0, Nat.zero_le _, rfl, rfl⟩
      case round =>
        obtain ⟨k, hk, rfl, rfl⟩ := hrel
        by_cases hlt : k < f.length
        · obtain ⟨bf, of_, rfl, hbf, hcf⟩ := (h1.step hB0).at_ hlt
          have q1 : (0 : Int) ≤ (k : Int) := by omega
          have q2 : (k : Int) < (f.length : Int) := by omega
          have hcb := cnt_le f k
          by_cases h0 : nth f k = 0
          · have HS := Lib.hid (show cnt f (k + 1) = cnt f k by simp [cnt, h0])
            rw [h0] at hcf
            clear h0
            obtain ⟨q, hq⟩ : ∃ q, cnt f k = q := ⟨_, rfl⟩
            rw [hq] at HS hcb
            rw [hq]
            clear hq
            go_wp2
            go_round
            case rel => exact ⟨k + 1, by omega, by go_num, by rw [HS.out]⟩
            case measure => simp [intOf]; omega
          · have HS := Lib.hid (show cnt f (k + 1) = cnt f k + 1 by simp [cnt, h0])
            have hd : (nth f k != 0) = true := by rw [bne_iff_ne]; exact h0
            obtain ⟨y, hy⟩ : ∃ y, nth f k = y := ⟨_, rfl⟩
            rw [hy] at hcf hd
            clear h0 hy
            obtain ⟨q, hq⟩ : ∃ q, cnt f k = q := ⟨_, rfl⟩
            rw [hq] at HS hcb
            rw [hq]
            clear hq
            go_wp2
            go_round
            case rel => exact ⟨k + 1, by omega, by go_num, by rw [HS.out]; go_num⟩
            case measure => simp [intOf]; omega
        · obtain rfl : k = f.length := by omega
          obtain ⟨m, hm⟩ : ∃ m, cnt f f.length = m := ⟨_, rfl⟩
          have hmf := cnt_le f f.length
          rw [hm] at hmf
          rw [hm]
          have HN := Lib.hid hyesH.out
          rw [hm] at HN
          have HM := Lib.hid hm
          clear hm
          have hd1 : ((a.length : Int) != (m : Int)) = false := by rw [bne_eq_false_iff_eq]; have := HN.out; omega
          have hd2 : ((b.length : Int) != (f.length : Int) - (m : Int)) = false := by rw [bne_eq_false_iff_eq]; have := HN.out; omega
          go_wp2
          go_loopw [11, 12, 13, 14] (fun v x y i wr => ∃ (k : Nat) (L : List Int), k ≤ f.length ∧ i = .int .i64 k ∧ x = .int .i64 (cnt f k) ∧ y = .int .i64 ((k - cnt f k : Nat) : Int) ∧ Hid (L = merK f a b k) ∧ L.length ≤ k ∧ OwnI wr w.heap.size v L ∧ Below w.heap.size w wr) (fun _ _ _ i _ => f.length - (intOf i).toNat)
          case atStart => exact ⟨0, [], Nat.zero_le _, rfl, rfl, rfl, Lib.hid rfl, by simp, OwnI.empty w1 _ hs01, hB0.alloc hs01 _⟩
          case round =>
            obtain ⟨k, L, hk, rfl, rfl, rfl, HL, hLl, hown, hBr⟩ := hrel
            by_cases hlt : k < f.length
            · obtain ⟨bf, of_, rfl, hbf, hcf⟩ := (h1.step hBr).at_ hlt
              have q1 : (0 : Int) ≤ (k : Int) := by omega
              have q2 : (k : Int) < (f.length : Int) := by omega
              have hcb := cnt_le f k
              have hcm := cnt_mono f (show k + 1 ≤ f.length by omega)
              by_cases h0 : nth f k = 0
              · have hc' : cnt f (k + 1) = cnt f k := by simp [cnt, h0]
                have HC := Lib.hid hc'
                have HS := Lib.hid (show merK f a b (k + 1) = merK f a b k ++ [nth b (k - cnt f k)] by simp [merK, h0])
                rw [hc'] at hcm
                have hjb : k - cnt f k < b.length := by have h3 := HM.out; have h4 := HN.out; omega
                rw [h0] at hcf
                obtain ⟨q, hq⟩ : ∃ q, cnt f k = q := ⟨_, rfl⟩
                rw [hq] at HC HS hcb hjb
                rw [hq]
                obtain ⟨j, hj⟩ : ∃ j, k - q = j := ⟨_, rfl⟩
                have HJ := Lib.hid hj
                rw [hj] at HS hjb
                rw [hj]
                clear hq h0 hc' hcm hj
                obtain ⟨ba, oa, rfl, hba, hca⟩ := (h3.step hBr).at_ hjb
                have q3 : (0 : Int) ≤ (j : Int) := by omega
                have q4 : (j : Int) < (b.length : Int) := by omega
                obtain ⟨x, hx⟩ : ∃ x, nth b j = x := ⟨_, rfl⟩
                rw [hx] at hca HS
                clear hx
                have hjk : j ≤ 1048576 := by have := HJ.out; omega
                go_wp2_with (at_builtin; refine wpList_append_own _ rfl _ _ 22 rfl w.heap.size 3 i0 (.int .i64 0) 1 8 Tryd.underlying22 hi hz0 hz1 hz2 rfl (by decide) _ _ _ rfl (hown.alloc _) ⟨wr.heap.size, 0, none⟩ 1 1 [.int .i64 x] rfl rfl (cell_one_new _ _ _) (by simp [Value.oneCell']) (by unfold maxLen; omega) (by omega) (by have := hBr.size; simp; omega) ?_; intro v' w2 hown' hgrow _; have hB2 := below_append hBr hBr.size hown hgrow)
                have hown2 := OwnI.snoc hown'
                clear hown' hgrow
                go_roundw
                case rel => exact ⟨k + 1, _, by omega, by go_num, by rw [HC.out], by rw [HC.out, show k + 1 - q = j + 1 by have := HJ.out; omega]; go_num, Lib.hid (by rw [HS.out, ← HL.out]), by simp; omega, hown2, hB2⟩
                case measure => simp [intOf]; omega
              · have hc' : cnt f (k + 1) = cnt f k + 1 := by simp [cnt, h0]
                have HC := Lib.hid hc'
                have HS := Lib.hid (show merK f a b (k + 1) = merK f a b k ++ [nth a (cnt f k)] by simp [merK, h0])
                rw [hc'] at hcm
                have hja : cnt f k < a.length := by have h3 := HM.out; have h4 := HN.out; omega
                have hd : (nth f k != 0) = true := by rw [bne_iff_ne]; exact h0
                obtain ⟨y, hy⟩ : ∃ y, nth f k = y := ⟨_, rfl⟩
                rw [hy] at hcf hd
                obtain ⟨q, hq⟩ : ∃ q, cnt f k = q := ⟨_, rfl⟩
                rw [hq] at HC HS hcb hja
                rw [hq]
                obtain ⟨j, hj⟩ : ∃ j, k - q = j := ⟨_, rfl⟩
                have HJ := Lib.hid hj
                rw [hj]
                clear hq h0 hc' hcm hj hy
                obtain ⟨ba, oa, rfl, hba, hca⟩ := (h2.step hBr).at_ hja
                have q3 : (0 : Int) ≤ (q : Int) := by omega
                have q4 : (q : Int) < (a.length : Int) := by omega
                obtain ⟨x, hx⟩ : ∃ x, nth a q = x := ⟨_, rfl⟩
                rw [hx] at hca HS
                clear hx
                go_wp2_with (at_builtin; refine wpList_append_own _ rfl _ _ 22 rfl w.heap.size 3 i0 (.int .i64 0) 1 8 Tryd.underlying22 hi hz0 hz1 hz2 rfl (by decide) _ _ _ rfl (hown.alloc _) ⟨wr.heap.size, 0, none⟩ 1 1 [.int .i64 x] rfl rfl (cell_one_new _ _ _) (by simp [Value.oneCell']) (by unfold maxLen; omega) (by omega) (by have := hBr.size; simp; omega) ?_; intro v' w2 hown' hgrow _; have hB2 := below_append hBr hBr.size hown hgrow)
                have hown2 := OwnI.snoc hown'
                clear hown' hgrow
                go_roundw
                case rel => exact ⟨k + 1, _, by omega, by go_num, by rw [HC.out]; go_num, by rw [HC.out, show k + 1 - (q + 1) = j by have := HJ.out; omega], Lib.hid (by rw [HS.out, ← HL.out]), by simp; omega, hown2, hB2⟩
                case measure => simp [intOf]; omega
            · obtain rfl : k = f.length := by omega
              have HE : Hid (merL f a b = L) := Lib.hid (by rw [HL.out]; rfl)
              obtain ⟨A', c', rfl, hcc, hsl⟩ := hown.form
              go_wp2
              go_ret2
              exact retL_of HE.out hcc hsl hBr
    · rw [show merE f a b = 6 by unfold merE; rw [if_pos he, if_neg hyes]]
      have hnoH := Lib.hid hyes
      clear he hyes
      go_enter Tryd.func26, Tryd.ntmps26
      go_wp2_with fail
      refine (C1.out _ _ (al1 _ _) ?_).mono ?_
      · exact Blk.at (by simp)
      rintro e w1 ⟨rfl, hB⟩
      have hB0 := below_step (al1 _ _) hB
      have hs01 := hB0.size
      go_wp2
      go_loop [9, 10] (fun t i => ∃ k : Nat, k ≤ f.length ∧ i = .int .i64 k ∧ t = .int .i64 (cnt f k)) (fun _ i => f.length - (intOf i).toNat)
      case atStart => exact ⟨0, Nat.zero_le _, rfl, rfl⟩
      case round =>
        obtain ⟨k, hk, rfl, rfl⟩ := hrel
        by_cases hlt : k < f.length
        · obtain ⟨bf, of_, rfl, hbf, hcf⟩ := (h1.step hB0).at_ hlt
          have q1 : (0 : Int) ≤ (k : Int) := by omega
          have q2 : (k : Int) < (f.length : Int) := by omega
          have hcb := cnt_le f k
          by_cases h0 : nth f k = 0
          · have HS := Lib.hid (show cnt f (k + 1) = cnt f k by simp [cnt, h0])
            rw [h0] at hcf
            clear h0
            obtain ⟨q, hq⟩ : ∃ q, cnt f k = q := ⟨_, rfl⟩
            rw [hq] at HS hcb
            rw [hq]
            clear hq
            go_wp2
            go_round
            case rel => exact ⟨k + 1, by omega, by go_num, by rw [HS.out]⟩
            case measure => simp [intOf]; omega
          · have HS := Lib.hid (show cnt f (k + 1) = cnt f k + 1 by simp [cnt, h0])
            have hd : (nth f k != 0) = true := by rw [bne_iff_ne]; exact h0
            obtain ⟨y, hy⟩ : ∃ y, nth f k = y := ⟨_, rfl⟩
            rw [hy] at hcf hd
            clear h0 hy
            obtain ⟨q, hq⟩ : ∃ q, cnt f k = q := ⟨_, rfl⟩
            rw [hq] at HS hcb
            rw [hq]
            clear hq
            go_wp2
            go_round
            case rel => exact ⟨k + 1, by omega, by go_num, by rw [HS.out]; go_num⟩
            case measure => simp [intOf]; omega
        · obtain rfl : k = f.length := by omega
          obtain ⟨m, hm⟩ : ∃ m, cnt f f.length = m := ⟨_, rfl⟩
          have hmf := cnt_le f f.length
          rw [hm] at hmf
          rw [hm]
          have HN := Lib.hid hnoH.out
          rw [hm] at HN
          clear hm
          by_cases hd0 : a.length = m
          · have hd1 : ((a.length : Int) != (m : Int)) = false := by rw [bne_eq_false_iff_eq]; omega
            have hd2 : ((b.length : Int) != (f.length : Int) - (m : Int)) = true := by rw [bne_iff_ne]; have := HN.out; omega
            have Hd := Lib.hid hd0
            clear hd0
            go_wp2
            go_ret2
            exact retL_none (by decide) hB0
          · have hd1 : ((a.length : Int) != (m : Int)) = true := by rw [bne_iff_ne]; omega
            clear hd0
            go_wp2
            go_ret2
            exact retL_none (by decide) hB0
  · have hd : (lsE [f, a, b] != 0) = true := by rw [bne_iff_ne]; exact he
    rw [show merE f a b = lsE [f, a, b] by unfold merE; rw [if_neg he]]
    have C1 := Lib.hid C1
    have HE := Lib.hid he
    clear he
    go_enter Tryd.func26, Tryd.ntmps26
    go_wp2_with fail
    refine (C1.out _ _ (al1 _ _) ?_).mono ?_
    · exact Blk.at (by simp)
    rintro e w1 ⟨rfl, hB⟩
    have hB0 := below_step (al1 _ _) hB
    have hs01 := hB0.size
    go_wp2
    go_ret2
    exact retL_none HE.out hB0
end Go.Proofs.YtchjdhlmpdcibaaDoor
