/- Walks of the specification: PrimMerged's helpers. -/
import Derived.Test.YtecpanppnljkhaaDoorRi
import Derived.Test.YtecpanppnljkhaaDoorMp
namespace Go.Proofs.YtecpanppnljkhaaDoor
set_option linter.unusedVariables false
open Go.RowKit Go.Shelf
theorem retS_of {w W : World} {A : Option Addr} {c : Nat} {zs L : List Int} (e : zs = L) (hc : L.length ≤ c) (h : Sl W A L) (hB : Below w.heap.size w W) : RetS w zs (.returned (.slice A L.length c)) W := by
  subst e
  exact ⟨_, _, rfl, hc, h, hB⟩
set_option maxHeartbeats 4000000 in
theorem turn_nat (n m : Nat) (hm : 1 ≤ m) (hn : n ≤ 9223372036854775807) (hm2 : m ≤ 9223372036854775807) (w : World) : Calls Tryd.prog 9 #[.int .i64 (n : Int), .int .i64 (m : Int)] w fun e w' => e = .returned (.int .i64 ((n % m : Nat) : Int)) ∧ w = w' := by
  have hm0 : ¬ (m : Int) < 1 := by omega
  have hm1 : (m : Int) ≠ 0 := by omega
  have hr : ((n : Int)).tmod (m : Int) = ((n % m : Nat) : Int) := by rw [Int.tmod_eq_emod_of_nonneg (by omega)]; simp
  have hlt : n % m < m := Nat.mod_lt _ (by omega)
  obtain ⟨r, hr2⟩ : ∃ r, n % m = r := ⟨_, rfl⟩
  rw [hr2] at hr hlt
  rw [hr2]
  have hneg : ¬ (((n : Int)).tmod (m : Int) < 0) := by rw [hr]; omega
  have hb : -9223372036854775808 ≤ ((n : Int)).tmod (m : Int) := by rw [hr]; omega
  have hb2 : ((n : Int)).tmod (m : Int) ≤ 9223372036854775807 := by rw [hr]; omega
  have HR := Lib.hid hr; clear hr hr2
  go_enter Tryd.func9, Tryd.ntmps9
  go_wp2
  go_ret
  exact ⟨ret_int HR.out, rfl⟩
set_option maxHeartbeats 4000000 in
theorem bnth_any (A : Option Addr) (c : Nat) (zs : List Int) (k : Nat) (w : World) (h : Sl w A zs) (hl : zs.length ≤ 9223372036854775807) (hk : k ≤ 9223372036854775807) :
    Calls Tryd.prog 11 #[.slice A zs.length c, .int .i64 (k : Int)] w fun e w' => e = .returned (.int .i64 (nth zs (k % zs.length))) ∧ w = w' := by
  by_cases h0 : zs.length = 0
  · have hd : ((zs.length : Int) == 0) = true := by rw [beq_iff_eq]; omega
    have HE := Lib.hid (show 0 = nth zs (k % zs.length) by rw [List.eq_nil_of_length_eq_zero h0]; simp [nth])
    clear h0
    go_enter Tryd.func11, Tryd.ntmps11
    go_wp2
    go_ret
    exact ⟨ret_int HE.out, rfl⟩
  · have hd : ((zs.length : Int) == 0) = false := by rw [beq_eq_false_iff_ne]; omega
    have hj := Nat.mod_lt k (show 0 < zs.length by omega)
    have C2 := turn_nat k zs.length (by omega) hk hl w
    obtain ⟨j, hj2⟩ : ∃ j, k % zs.length = j := ⟨_, rfl⟩
    rw [hj2] at hj C2
    rw [hj2]
    obtain ⟨b, o, rfl, hb, hc⟩ := h.at_ hj
    have q1 : (0 : Int) ≤ (j : Int) := by omega
    have q2 : (j : Int) < (zs.length : Int) := by omega
    have C2 := Lib.hid C2
    obtain ⟨x, hx⟩ : ∃ x, nth zs j = x := ⟨_, rfl⟩
    rw [hx] at hc
    rw [hx]
    clear h0 hj2 hx
    go_enter Tryd.func11, Tryd.ntmps11
    go_wp2_with fail
    refine C2.out.mono ?_
    rintro e w' ⟨rfl, rfl⟩
    go_wp2
    go_ret
    exact ⟨rfl, rfl⟩
set_option maxHeartbeats 4000000 in
theorem wraps_any (A : Option Addr) (c : Nat) (zs : List Int) (n : Nat) (w : World) (h : Sl w A zs) (hl : zs.length ≤ 9223372036854775807) (hn : n ≤ 1048576) :
    Calls Tryd.prog 17 #[.slice A zs.length c, .int .i64 (n : Int)] w (RetS w (wlL zs n)) := by
  obtain ⟨i0, hi, hz0, hz1, hz2⟩ := info_parts int_info
  go_enter Tryd.func17, Tryd.ntmps17
  go_wp2
  go_loopw [5, 6] (fun v i wr => ∃ (k : Nat) (L : List Int), k ≤ min zs.length n ∧ i = .int .i64 k ∧ Hid (L = mk (fun k => wrap32 (nth zs k)) k) ∧ L.length ≤ k ∧ OwnI wr w.heap.size v L ∧ Below w.heap.size w wr) (fun _ i _ => min zs.length n - (intOf i).toNat)
  case atStart => exact ⟨0, [], Nat.zero_le _, rfl, Lib.hid rfl, by simp, OwnI.empty w _ (Nat.le_refl _), (Below.refl _ _).alloc (Nat.le_refl _) _⟩
  case round =>
    obtain ⟨k, L, hk, rfl, HL, hLl, hown, hBr⟩ := hrel
    by_cases hlt : k < min zs.length n
    · have hkz : k < zs.length := by omega
      have hkn : k < n := by omega
      obtain ⟨ba, oa, rfl, hba, hca⟩ := (h.step hBr).at_ hkz
      have q1 : (0 : Int) ≤ (k : Int) := by omega
      have q3 : (k : Int) < (zs.length : Int) := by omega
      have q4 : (k : Int) < (n : Int) := by omega
      have HS := Lib.hid (mk_succ (fun k => wrap32 (nth zs k)) k)
      obtain ⟨x, hx⟩ : ∃ x, nth zs k = x := ⟨_, rfl⟩
      rw [hx] at hca
      simp only [hx] at HS
      have C2 := bword_any x wr
      obtain ⟨y, hy⟩ : ∃ y, wrap32 x = y := ⟨_, rfl⟩
      rw [hy] at C2 HS
      have C2 := Lib.hid C2
      have Hlt := Lib.hid hlt
      clear hx hy hlt hk
      go_wp2_with (first | (go_at_call 10; refine C2.out.mono ?_; rintro e w' ⟨rfl, rfl⟩) | (at_builtin; refine wpList_append_own _ rfl _ _ 22 rfl w.heap.size 3 i0 (.int .i64 0) 1 8 Tryd.underlying22 hi hz0 hz1 hz2 rfl (by decide) _ _ _ rfl (hown.alloc _) ⟨wr.heap.size, 0, none⟩ 1 1 [.int .i64 y] rfl rfl (cell_one_new _ _ _) (by simp [Value.oneCell']) (by unfold maxLen; omega) (by omega) (by have := hBr.size; simp; omega) ?_; intro v' w2 hown' hgrow _; have hB2 := below_append hBr hBr.size hown hgrow))
      have hown2 := OwnI.snoc hown'
      clear hown' hgrow
      go_roundw
      case rel => exact ⟨k + 1, _, by omega, by go_num, Lib.hid (by rw [HS.out, ← HL.out]), by simp; omega, hown2, hB2⟩
      case measure => have := Hlt.out; simp [intOf]; omega
    · have HE : Hid (wlL zs n = L) := Lib.hid (by rw [HL.out, show k = min zs.length n by omega]; rfl)
      obtain ⟨A', c', rfl, hcc, hsl⟩ := hown.form
      by_cases hkz : k < zs.length
      · have hkn : ¬ k < n := by omega
        clear hlt hk
        go_wp2
        go_ret
        exact retS_of HE.out hcc hsl hBr
      · clear hlt hk
        go_wp2
        go_ret
        exact retS_of HE.out hcc hsl hBr
end Go.Proofs.YtecpanppnljkhaaDoor
