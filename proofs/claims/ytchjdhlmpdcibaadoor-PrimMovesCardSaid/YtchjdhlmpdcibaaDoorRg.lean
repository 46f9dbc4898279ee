/- Walks of the specification: Rep. -/
import Derived.Test.YtchjdhlmpdcibaaDoorRc
import Derived.Test.YtchjdhlmpdcibaaDoorCh
namespace Go.Proofs.YtchjdhlmpdcibaaDoor
set_option linter.unusedVariables false
open Go.RowKit Go.Shelf
set_option maxRecDepth 100000 in
set_option maxHeartbeats 4000000 in
theorem rrep_any (A1 : Option Addr) (c1 : Nat) (a : List Int) (A2 : Option Addr) (c2 : Nat) (l : List Int) (w : World) (h1 : Sl w A1 a) (hc1 : a.length ≤ c1) (k1 : Ok a) (h2 : Sl w A2 l) (hc2 : l.length ≤ c2) (k2 : Ok l) :
    Calls Tryd.prog 35 #[.slice A1 a.length c1, .slice A2 l.length c2] w (RetL w (orL (repE a l) (repL a l)) (repE a l)) := by
  obtain ⟨i0, hi, hz0, hz1, hz2⟩ := info_parts int_info
  have C1 : ∀ W g, Below w.heap.size w W → Blk W g 22 #[.slice A1 a.length c1, .slice A2 l.length c2] → Calls Tryd.prog 63 #[.slice (some ⟨g, 0, none⟩) 2 2] W (RetV W (.int .i64 (evE [a, l]))) :=
    fun W g hb hg => (alike_any _ 2 [a, l] W (sll2 hg (h1.step hb) (h2.step hb) hc1 hc2) (by simp) (allShort_of (by unfold Ok at k1 k2; simpa using ⟨k1, k2⟩))).mono fun e w' ⟨he, hw⟩ => Drew.retV ⟨he, hw⟩
  by_cases he : evE [a, l] = 0
  · have hl := (lsE_ok (evE_ok he).1).1 a (by simp)
    have E2 := Lib.hid (show l.length = a.length from (evE_ok he).2 l (by simp))
    have hll : l.length ≤ 1048576 := by have := E2.out; omega
    have HWd := (lsE_ok (evE_ok he).1).2 l (by simp)
    have C2 := fun W (hs : Sl W A2 l) => counts_any A2 c2 l W hs hll HWd
    rw [he] at C1
    have C1 := Lib.hid C1
    by_cases ht : totE l = 0
    · rw [show repE a l = 0 by unfold repE; rw [if_pos he]; exact ht, orL_ok]
      rw [ht] at C2
      have C2 := Lib.hid C2
      have HT := Lib.hid ht
      have HP := Lib.hid (fun j hj => posB_of (tot_ok ht).1 j hj)
      clear he ht
      go_enter Tryd.func35, Tryd.ntmps35
      go_wp2_with fail
      refine (C1.out _ _ (al1 _ _) ?_).mono ?_
      · exact Blk.at (by simp)
      rintro e w1 ⟨rfl, hB⟩
      have hB0 := below_step (al1 _ _) hB
      have hs01 := hB0.size
      go_wp2_with fail
      refine (C2.out _ (h2.step hB0)).mono ?_
      rintro e w' ⟨rfl, rfl⟩
      go_wp2
      go_loopw [8, 9] (fun v i wr => ∃ (k : Nat), k ≤ a.length ∧ i = .int .i64 k ∧ OwnI wr w.heap.size v (repK a l k) ∧ Below w.heap.size w wr) (fun _ i _ => a.length - (intOf i).toNat)
      case atStart => exact ⟨0, Nat.zero_le _, rfl, OwnI.empty w1 _ hs01, hB0.alloc hs01 _⟩
      case round =>
        obtain ⟨k, hk, rfl, hown, hBr⟩ := hrel
        by_cases hlt : k < a.length
        · have hlt' : k < l.length := by have := E2.out; omega
          have HL := Lib.hid (fun j hj => rep_len (a := a) HT.out k j hlt' hj)
          have h0 := HP.out k hlt'
          have HK : Hid (repK a l (k + 1) = repK a l k ++ List.replicate (nth l k).toNat (nth a k)) := Lib.hid rfl
          have q1 : (0 : Int) ≤ (k : Int) := by omega
          have q2 : (k : Int) < (l.length : Int) := by omega
          have q3 : (k : Int) < (a.length : Int) := by omega
          obtain ⟨Z, hZ⟩ : ∃ Z, repK a l k = Z := ⟨_, rfl⟩
          rw [hZ] at hown HL HK
          obtain ⟨x, hx⟩ : ∃ x, nth a k = x := ⟨_, rfl⟩
          have HX := Lib.hid hx
          rw [hx] at HK HL
          obtain ⟨N, hN⟩ : ∃ N : Nat, nth l k = (N : Int) := ⟨(nth l k).toNat, by omega⟩
          have HN := Lib.hid hN
          rw [hN] at HK HL h0
          rw [Int.toNat_natCast] at HK
          have hNb : N ≤ 1048576 := by have := HL.out N (by omega); rw [List.length_append, List.length_replicate] at this; omega
          clear hZ hx hN hlt'
          go_wp2
          go_loopw [8, 10] (fun v i wr => ∃ (j : Nat), j ≤ N ∧ i = .int .i64 j ∧ OwnI wr w.heap.size v (Z ++ List.replicate j x) ∧ Below w.heap.size w wr) (fun _ i _ => N - (intOf i).toNat)
          case atStart => exact ⟨0, Nat.zero_le _, rfl, by rw [List.replicate_zero, List.append_nil]; exact hown, hBr⟩
          case round =>
            clear hown hBr
            obtain ⟨j, hj, rfl, hown, hBr⟩ := hrel
            obtain ⟨bl, ol, rfl, hbl, hcl⟩ := (h2.step hBr).at_ (show k < l.length by have := E2.out; omega)
            rw [HN.out] at hcl
            by_cases hjl : j < N
            · have hlen := HL.out j (by omega)
              obtain ⟨ba, oa, rfl, hba, hca⟩ := (h1.step hBr).at_ hlt
              rw [HX.out] at hca
              have HR := Lib.hid (show Z ++ List.replicate (j + 1) x = (Z ++ List.replicate j x) ++ [x] by rw [List.replicate_succ', List.append_assoc])
              obtain ⟨ZZ, hzz⟩ : ∃ ZZ, Z ++ List.replicate j x = ZZ := ⟨_, rfl⟩
              rw [hzz] at hown hlen HR
              clear hzz
              go_wp2_with (at_builtin; refine wpList_append_own _ rfl _ _ 22 rfl w.heap.size 3 i0 (.int .i64 0) 1 8 Tryd.underlying22 hi hz0 hz1 hz2 rfl (by decide) _ _ _ rfl (hown.alloc _) ⟨wr.heap.size, 0, none⟩ 1 1 [.int .i64 x] rfl rfl (cell_one_new _ _ _) (by simp [Value.oneCell']) (by unfold maxLen; omega) (by omega) (by have := hBr.size; simp; omega) ?_; intro v' w2 hown' hgrow _; have hB2 := below_append hBr hBr.size hown hgrow)
              have hown2 := OwnI.snoc hown'
              clear hown' hgrow
              go_roundw
              case rel => exact ⟨j + 1, by omega, by go_num, by rw [HR.out]; exact hown2, hB2⟩
              case measure => simp [intOf]; omega
            · obtain rfl : j = N := by omega
              go_wp2
              go_roundw
              case rel => exact ⟨k + 1, by omega, by go_num, by rw [HK.out]; exact hown, hBr⟩
              case measure => simp [intOf]; omega
        · obtain rfl : k = a.length := by omega
          have HE : Hid (repL a l = repK a l a.length) := Lib.hid rfl
          obtain ⟨A', c', rfl, hcc, hsl⟩ := hown.form
          go_wp2
          go_ret2
          exact retL_of HE.out hcc hsl hBr
    · rw [show repE a l = totE l by unfold repE; rw [if_pos he]]
      have hd : (totE l != 0) = true := by rw [bne_iff_ne]; exact ht
      have HE := Lib.hid ht
      have C2 := Lib.hid C2
      clear he ht
      go_enter Tryd.func35, Tryd.ntmps35
      go_wp2_with fail
      refine (C1.out _ _ (al1 _ _) ?_).mono ?_
      · exact Blk.at (by simp)
      rintro e w1 ⟨rfl, hB⟩
      have hB0 := below_step (al1 _ _) hB
      have hs01 := hB0.size
      go_wp2_with fail
      refine (C2.out _ (h2.step hB0)).mono ?_
      rintro e w' ⟨rfl, rfl⟩
      go_wp2
      go_ret2
      exact retL_none HE.out hB0
  · have hd : (evE [a, l] != 0) = true := by rw [bne_iff_ne]; exact he
    rw [show repE a l = evE [a, l] by unfold repE; rw [if_neg he]]
    have C1 := Lib.hid C1
    have HE := Lib.hid he
    clear he
    go_enter Tryd.func35, Tryd.ntmps35
    go_wp2_with fail
    refine (C1.out _ _ (al1 _ _) ?_).mono ?_
    · exact Blk.at (by simp)
    rintro e w1 ⟨rfl, hB⟩
    have hB0 := below_step (al1 _ _) hB
    have hs01 := hB0.size
    go_wp2
    go_ret2
    exact retL_none HE.out hB0
end Go.Proofs.YtchjdhlmpdcibaaDoor
