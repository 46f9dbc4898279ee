/- Walks of the specification: Words, Lists, alike, counts, Sum, fits, Copy, Upto. -/
import Derived.Test.YtchjdhlmpdcibaaDoorDf
import Derived.Laws.AppendOwnNone
import Derived.Deep.QuietTactic
import Derived.BigQuiet
namespace Go.Proofs.YtchjdhlmpdcibaaDoor
set_option linter.unusedVariables false
open Go.RowKit Go.Shelf

theorem isword_b (n : Int) (w : World) (b : Bool) (h : isWb n = b) : Calls Tryd.prog 57 #[.int .i64 n] w fun e w' => e = .returned (.bool b) ∧ w = w' := h ▸ isword_any n w
set_option maxHeartbeats 1000000 in
theorem words_any (A : Option Addr) (c : Nat) (zs : List Int) (w : World) (h : Sl w A zs) (hl : zs.length ≤ 9223372036854775807) :
    Calls Tryd.prog 83 #[.slice A zs.length c] w fun e w' => e = .returned (.bool (wordsB zs)) ∧ w = w' := by
  go_enter Tryd.func83, Tryd.ntmps83
  go_wp2
  go_loop [3] (fun i => ∃ k : Nat, k ≤ zs.length ∧ i = .int .i64 k ∧ ∀ j, j < k → isWb (nth zs j) = true) (fun i => zs.length - (intOf i).toNat)
  case atStart => exact ⟨0, Nat.zero_le _, rfl, fun j hj => by omega⟩
  case round =>
    obtain ⟨k, hk, rfl, hq⟩ := hrel
    have HQ := Lib.hid hq; clear hq
    by_cases hlt : k < zs.length
    · obtain ⟨b, off, rfl, hb, hc⟩ := h.at_ hlt
      have HN := Lib.hid (all_not zs isWb (nth zs) (nth_eq zs) k hlt)
      have hk1 : (0 : Int) ≤ (k : Int) := by omega
      have hk2 : (k : Int) < (zs.length : Int) := by omega
      obtain ⟨z, hz⟩ : ∃ z, nth zs k = z := ⟨_, rfl⟩
      have HZ := Lib.hid hz
      rw [hz] at hc HN
      clear hz
      cases hpz : isWb z with
      | true =>
        have C := Lib.hid (isword_b z w _ hpz)
        have HT := Lib.hid hpz
        clear hpz
        go_wp2_with fail
        refine C.out.mono ?_
        rintro e w' ⟨rfl, rfl⟩
        go_wp2
        go_round
        case rel => exact ⟨k + 1, by omega, by go_num, fun j hj => by
                by_cases e : j = k
                · subst e; rw [HZ.out]; exact HT.out
                · exact HQ.out j (by omega)⟩
        case measure => simp [intOf]; omega
      | false =>
        have C := Lib.hid (isword_b z w _ hpz)
        have HT := Lib.hid (show wordsB zs = false from HN.out hpz)
        clear hpz
        go_wp2_with fail
        refine C.out.mono ?_
        rintro e w' ⟨rfl, rfl⟩
        go_wp2
        go_ret
        exact ⟨ret_bool HT.out.symm, rfl⟩
    · obtain rfl : k = zs.length := by omega
      have HT := Lib.hid (show wordsB zs = true from all_of zs isWb (nth zs) (nth_eq zs) HQ.out)
      go_wp2
      go_ret
      exact ⟨ret_bool HT.out.symm, rfl⟩

set_option maxHeartbeats 2000000 in
theorem lists_any (A : Option Addr) (c : Nat) (L : List (List Int)) (w : World) (h : Sll w A L) (hl : L.length ≤ 9223372036854775807) (hs : AllShort L) :
    Calls Tryd.prog 56 #[.slice A L.length c] w fun e w' => e = .returned (.int .i64 (lsE L)) ∧ w = w' := by
  go_enter Tryd.func56, Tryd.ntmps56
  go_wp2
  go_loop [3] (fun i => ∃ k : Nat, k ≤ L.length ∧ i = .int .i64 k ∧ ∀ j, j < k → shortB (nthL L j) = true) (fun i => L.length - (intOf i).toNat)
  case atStart => exact ⟨0, Nat.zero_le _, rfl, fun j hj => by omega⟩
  case round =>
    obtain ⟨k, hk, rfl, hq⟩ := hrel
    have HQ := Lib.hid hq; clear hq
    by_cases hlt : k < L.length
    · obtain ⟨b, off, rfl, hb, hc⟩ := h (by omega)
      obtain ⟨A', c', hc1, hcc, hsl⟩ := hc k hlt
      have HN := Lib.hid (all_not L shortB (nthL L) (nthL_eq L) k hlt)
      have hm := hs k hlt
      have hk1 : (0 : Int) ≤ (k : Int) := by omega
      have hk2 : (k : Int) < (L.length : Int) := by omega
      have HZ := Lib.hid (show shortB (nthL L k) = decide ((nthL L k).length ≤ 1048576) from rfl)
      obtain ⟨n, hn⟩ : ∃ n, (nthL L k).length = n := ⟨_, rfl⟩
      rw [hn] at hc1 hm HZ
      clear hc hcc hsl hn hs
      by_cases hbig : 1048576 < n
      · have hd : decide ((1048576 : Int) < (n : Int)) = true := by simp; omega
        have HT := Lib.hid (show lsE L = 3 by
          have := HN.out (by rw [HZ.out]; simp; omega)
          unfold lsE; rw [this]; rfl)
        go_wp2
        go_ret
        exact ⟨ret_int HT.out.symm, rfl⟩
      · have hd : decide ((1048576 : Int) < (n : Int)) = false := by simp; omega
        have HS := Lib.hid (show shortB (nthL L k) = true by rw [HZ.out]; simp; omega)
        go_wp2
        go_round
        case rel => exact ⟨k + 1, by omega, by go_num, fun j hj => by
                by_cases e : j = k
                · subst e; exact HS.out
                · exact HQ.out j (by omega)⟩
        case measure => simp [intOf]; omega
    · obtain rfl : k = L.length := by omega
      have HA := Lib.hid (all_of L shortB (nthL L) (nthL_eq L) HQ.out)
      go_wp2
      go_loop [4] (fun i => ∃ k : Nat, k ≤ L.length ∧ i = .int .i64 k ∧ ∀ j, j < k → wordsB (nthL L j) = true) (fun i => L.length - (intOf i).toNat)
      case atStart => exact ⟨0, Nat.zero_le _, rfl, fun j hj => by omega⟩
      case round =>
        obtain ⟨k, hk, rfl, hq⟩ := hrel
        have HQ := Lib.hid hq; clear hq
        by_cases hlt : k < L.length
        · obtain ⟨b, off, rfl, hb, hc⟩ := h (by omega)
          obtain ⟨A', c', hc1, hcc, hsl⟩ := hc k hlt
          have HN := Lib.hid (all_not L wordsB (nthL L) (nthL_eq L) k hlt)
          have C := words_any A' c' (nthL L k) w hsl (hs k hlt)
          have hk1 : (0 : Int) ≤ (k : Int) := by omega
          have hk2 : (k : Int) < (L.length : Int) := by omega
          obtain ⟨z, hz⟩ : ∃ z, nthL L k = z := ⟨_, rfl⟩
          have HZ := Lib.hid hz
          rw [hz] at hc1 C HN
          clear hc hcc hsl hs hz
          cases hpz : wordsB z with
          | true =>
            rw [hpz] at C
            have C := Lib.hid C
            have HT := Lib.hid hpz
            clear hpz
            go_wp2_with fail
            refine C.out.mono ?_
            rintro e w' ⟨rfl, rfl⟩
            go_wp2
            go_round
            case rel => exact ⟨k + 1, by omega, by go_num, fun j hj => by
                    by_cases e : j = k
                    · subst e; rw [HZ.out]; exact HT.out
                    · exact HQ.out j (by omega)⟩
            case measure => simp [intOf]; omega
          | false =>
            rw [hpz] at C
            have C := Lib.hid C
            have HT := Lib.hid (show lsE L = 2 by
              have h1 := HN.out hpz
              have h2 := HA.out
              unfold lsE; rw [h1, h2]; rfl)
            clear hpz
            go_wp2_with fail
            refine C.out.mono ?_
            rintro e w' ⟨rfl, rfl⟩
            go_wp2
            go_ret
            exact ⟨ret_int HT.out.symm, rfl⟩
        · obtain rfl : k = L.length := by omega
          have HT := Lib.hid (show lsE L = 0 by
            have h1 := all_of L wordsB (nthL L) (nthL_eq L) HQ.out
            have h2 := HA.out
            unfold lsE; rw [h1, h2]; rfl)
          go_wp2
          go_ret
          exact ⟨ret_int HT.out.symm, rfl⟩

set_option maxHeartbeats 2000000 in
theorem alike_any (A : Option Addr) (c : Nat) (L : List (List Int)) (w : World) (h : Sll w A L) (hl : L.length ≤ 9223372036854775807) (hs : AllShort L) :
    Calls Tryd.prog 63 #[.slice A L.length c] w (Drew w (.int .i64 (evE L))) := by
  have C1 := lists_any A c L w h hl hs
  by_cases he : lsE L = 0
  · rw [he] at C1
    have C1 := Lib.hid C1
    have HE := Lib.hid he
    clear he
    go_enter Tryd.func63, Tryd.ntmps63
    go_wp2_with fail
    refine C1.out.mono ?_
    rintro e w' ⟨rfl, rfl⟩
    go_wp2
    go_loopw [4] (fun i wr => ∃ (k m : Nat), k ≤ L.length ∧ i = .int .i64 k ∧ wr = w.drewN m ∧ ∀ j, j < k → (nthL L j).length = (nthL L 0).length) (fun i _ => L.length - (intOf i).toNat)
    case atStart => exact ⟨0, 0, Nat.zero_le _, rfl, rfl, fun j hj => by omega⟩
    case round =>
      obtain ⟨k, m, hk, rfl, rfl, hq⟩ := hrel
      have HQ := Lib.hid hq; clear hq
      by_cases hlt : k < L.length
      · obtain ⟨b, off, rfl, hb, hc⟩ := h (by omega)
        obtain ⟨A', c', hc1, hcc, hsl⟩ := hc k hlt
        obtain ⟨A0, c0, hc0, hcc0, hsl0⟩ := hc 0 (by omega)
        have hm := hs k hlt
        have hm0 := hs 0 (by omega)
        have hk1 : (0 : Int) ≤ (k : Int) := by omega
        have hk2 : (k : Int) < (L.length : Int) := by omega
        have hk3 : (0 : Int) < (L.length : Int) := by omega
        obtain ⟨n, hn⟩ : ∃ n, (nthL L k).length = n := ⟨_, rfl⟩
        obtain ⟨n0, hn0⟩ : ∃ n, (nthL L 0).length = n := ⟨_, rfl⟩
        rw [hn] at hc1 hm
        rw [hn0] at hc0 hm0 HQ
        simp only [Nat.add_zero] at hc0
        have HNk := Lib.hid hn
        have HN0 := Lib.hid hn0
        clear hc hcc hsl hcc0 hsl0 hn hn0 hs
        by_cases hne : n = n0
        · have hd : ((n : Int) != (n0 : Int)) = false := by rw [bne_eq_false_iff_eq]; omega
          have HNE := Lib.hid hne
          clear hne
          go_wp2
          go_quiet (fail)
          go_wp2
          go_roundw
          case rel => exact ⟨k + 1, _, by omega, by go_num, rfl, fun j hj => by
                by_cases e : j = k
                · subst e; rw [HNk.out, HNE.out, HN0.out]
                · rw [HN0.out]; exact HQ.out j (by omega)⟩
          case measure => simp [intOf]; omega
        · have hd : ((n : Int) != (n0 : Int)) = true := by rw [bne_iff_ne]; omega
          have HT := Lib.hid (show evE L = 6 by
            have : evenB L (L.headD []).length = false := by
              rw [headD_nthL]
              exact all_not L _ (nthL L) (nthL_eq L) k hlt (by simp; rw [HNk.out, HN0.out]; exact hne)
            unfold evE; rw [if_pos HE.out, this]; rfl)
          clear hne
          go_wp2
          go_quiet (fail)
          go_wp2
          go_ret
          exact ⟨ret_int HT.out.symm, _, World.drewN_drewN _ _ _⟩
      · obtain rfl : k = L.length := by omega
        have HT := Lib.hid (show evE L = 0 by
          have : evenB L (L.headD []).length = true := by
            rw [headD_nthL]
            exact all_of L _ (nthL L) (nthL_eq L) (fun j hj => by simpa using HQ.out j hj)
          unfold evE; rw [if_pos HE.out, this]; rfl)
        go_wp2
        go_ret
        exact ⟨ret_int HT.out.symm, m, rfl⟩
  · have hd : (lsE L != 0) = true := by rw [bne_iff_ne]; exact he
    have HE := Lib.hid (evE_ne he)
    have C1 := Lib.hid C1
    clear he
    go_enter Tryd.func63, Tryd.ntmps63
    go_wp2_with fail
    refine C1.out.mono ?_
    rintro e w' ⟨rfl, rfl⟩
    go_wp2
    go_ret
    exact ⟨ret_int HE.out.symm, 0, rfl⟩

/-! ### counts, Sum -/
set_option maxHeartbeats 1000000 in
theorem bsum_any (A : Option Addr) (c : Nat) (zs : List Int) (w : World) (h : Sl w A zs) (hl : zs.length ≤ 1048576) (hw : ∀ j, j < zs.length → isW (nth zs j)) :
    Calls Tryd.prog 51 #[.slice A zs.length c] w fun e w' => e = .returned (.int .i64 zs.sum) ∧ w = w' := by
  have HB := Lib.hid (sum_bound zs hw)
  have HW := Lib.hid hw
  have HS := Lib.hid (psum_all zs)
  clear hw
  go_enter Tryd.func51, Tryd.ntmps51
  go_wp2
  go_loop [3, 4] (fun t i => ∃ k : Nat, k ≤ zs.length ∧ i = .int .i64 k ∧ t = .int .i64 (psum zs k)) (fun _ i => zs.length - (intOf i).toNat)
  case atStart => exact ⟨0, Nat.zero_le _, rfl, by rw [psum_zero]⟩
  case round =>
    obtain ⟨k, hk, rfl, rfl⟩ := hrel
    have hb := HB.out k hk
    by_cases hlt : k < zs.length
    · obtain ⟨bl, off, rfl, hbl, hc⟩ := h.at_ hlt
      have hs' := Lib.hid (psum_succ zs k hlt)
      have h2 := HW.out k hlt
      unfold isW at h2
      go_wp2
      go_round
      case rel => exact ⟨k + 1, by omega, by go_num, by rw [hs'.out]⟩
      case measure => simp [intOf]; omega
    · obtain rfl : k = zs.length := by omega
      go_wp2
      go_ret
      exact ⟨ret_int HS.out, rfl⟩
theorem tot_pos {l : List Int} (h : posB l = true) (h1 : 1048576 < l.sum) : totE l = 9 := by unfold totE; rw [if_pos h, if_pos h1]
theorem tot_fine {l : List Int} (h : posB l = true) (h1 : ¬ 1048576 < l.sum) : totE l = 0 := by unfold totE; rw [if_pos h, if_neg h1]
set_option maxHeartbeats 1000000 in
theorem counts_any (A : Option Addr) (c : Nat) (zs : List Int) (w : World) (h : Sl w A zs) (hl : zs.length ≤ 1048576) (hw : ∀ j, j < zs.length → isW (nth zs j)) :
    Calls Tryd.prog 76 #[.slice A zs.length c] w fun e w' => e = .returned (.int .i64 (totE zs)) ∧ w = w' := by
  have C1 := Lib.hid (bsum_any A c zs w h hl hw)
  have HB := Lib.hid (sum_bound zs hw zs.length (Nat.le_refl _))
  clear hw
  go_enter Tryd.func76, Tryd.ntmps76
  go_wp2
  go_loop [3] (fun i => ∃ k : Nat, k ≤ zs.length ∧ i = .int .i64 k ∧ ∀ j, j < k → 0 ≤ nth zs j) (fun i => zs.length - (intOf i).toNat)
  case atStart => exact ⟨0, Nat.zero_le _, rfl, fun j hj => by omega⟩
  case round =>
    obtain ⟨k, hk, rfl, hq⟩ := hrel
    have HQ := Lib.hid hq; clear hq
    by_cases hlt : k < zs.length
    · obtain ⟨b, off, rfl, hb, hc⟩ := h.at_ hlt
      have HN := Lib.hid (all_not zs (fun n => decide (0 ≤ n)) (nth zs) (nth_eq zs) k hlt)
      have hk1 : (0 : Int) ≤ (k : Int) := by omega
      have hk2 : (k : Int) < (zs.length : Int) := by omega
      obtain ⟨z, hz⟩ : ∃ z, nth zs k = z := ⟨_, rfl⟩
      have HZ := Lib.hid hz
      rw [hz] at hc HN
      clear hz
      by_cases hn : z < 0
      · have HT := Lib.hid (totE_neg (l := zs) (HN.out (by simp; omega)))
        go_wp2
        go_ret
        exact ⟨ret_int HT.out.symm, rfl⟩
      · have hd : decide (z < 0) = false := by simpa using hn
        go_wp2
        go_round
        case rel => exact ⟨k + 1, by omega, by go_num, fun j hj => by
                by_cases e : j = k
                · subst e; rw [HZ.out]; omega
                · exact HQ.out j (by omega)⟩
        case measure => simp [intOf]; omega
    · obtain rfl : k = zs.length := by omega
      have HP := Lib.hid (show posB zs = true from all_of zs _ (nth zs) (nth_eq zs) (fun j hj => by simpa using HQ.out j hj))
      by_cases hbig : 1048576 < zs.sum
      · have HT := Lib.hid (tot_pos HP.out hbig)
        go_wp2_with fail
        refine C1.out.mono ?_
        rintro e w' ⟨rfl, rfl⟩
        go_wp2
        go_ret
        exact ⟨ret_int HT.out.symm, rfl⟩
      · have HT := Lib.hid (tot_fine HP.out hbig)
        have hd : decide (1048576 < zs.sum) = false := by simpa using hbig
        go_wp2_with fail
        refine C1.out.mono ?_
        rintro e w' ⟨rfl, rfl⟩
        go_wp2
        go_ret
        exact ⟨ret_int HT.out.symm, rfl⟩
end Go.Proofs.YtchjdhlmpdcibaaDoor
