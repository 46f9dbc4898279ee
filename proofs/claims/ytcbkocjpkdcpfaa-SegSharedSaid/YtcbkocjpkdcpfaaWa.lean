/- Walks, part a: sum, fit, sizes, Check, and what of the base package is asked. -/
import Derived.Test.YtcbkocjpkdcpfaaProg
import Derived.Test.YtcbkocjpkdcpfaaMa
import Derived.Test.YtcbkocjpkdcpfaaBa
import Derived.WalkKit
import Derived.Laws.EntriesVeiled
import Derived.Deep.QuietTactic
import Derived.BigQuiet
import Derived.Lib.Hide
namespace Go.Proofs.Ytcbkocjpkdcpfaa
open Go.RowKit

theorem ret_int {k : IntKind} {a b : Int} (h : a = b) : Ending.returned (.int k a) = .returned (.int k b) := by rw [h]
theorem ret_bool {a b : Bool} (h : a = b) : Ending.returned (.bool a) = .returned (.bool b) := by rw [h]

theorem lies_any (n lo hi : Int) (w : World) : Calls Try.prog 25 #[.int .i64 n, .int .i64 lo, .int .i64 hi] w fun e w' => e = .returned (.bool (decide (lo ≤ n ∧ n ≤ hi))) ∧ w = w' := by
  go_enter Try.func25, Try.ntmps25
  go_wp2
  all_goals (go_ret; refine ⟨ret_bool ?_, rfl⟩; rw [Bool.eq_iff_iff]; simp; try omega)
theorem isSize_any (n : Int) (w : World) : Calls Try.prog 51 #[.int .i64 n] w fun e w' => e = .returned (.bool (decide (0 ≤ n ∧ n ≤ 1048576))) ∧ w = w' := by
  go_enter Try.func51, Try.ntmps51
  go_wp2
  all_goals (go_ret; refine ⟨ret_bool ?_, rfl⟩; rw [Bool.eq_iff_iff]; simp; try omega)

def SumRel (zs : List Int) (t f i : Value) : Prop := ∃ (k : Nat) (T : Int) (b : Bool), k ≤ zs.length ∧ i = .int .i64 k ∧ t = .int .i64 T ∧ f = .bool b ∧ PosTo zs k ∧ 0 ≤ T ∧ T ≤ 1048576 ∧ T ≤ psum zs k ∧ (b = true → 1048576 < psum zs k) ∧ (b = false → T = psum zs k)

set_option maxHeartbeats 1000000 in
theorem sum_any (A : Option Addr) (c : Nat) (zs : List Int) (w : World) (h : Sl w A zs) (hl : zs.length ≤ 9223372036854775807) :
    Calls Try.prog 47 #[.slice A zs.length c] w fun e w' => e = .returned (.tuple #[.int .i64 (sumN zs), .int .i64 (sumE zs)]) ∧ w = w' := by
  go_enter Try.func47, Try.ntmps47
  go_wp2
  go_loop [4, 5, 10] (fun t f i => SumRel zs t f i) (fun _ _ i => zs.length - (intOf i).toNat)
  case atStart => exact ⟨0, 0, false, Nat.zero_le _, rfl, rfl, rfl, fun j hj => by omega, by omega, by omega, by simp [psum_zero], by simp, by simp [psum_zero]⟩
  case round =>
    obtain ⟨k, T, b, hk, rfl, rfl, rfl, hp, hT0, hT1, hT2, hb1, hb2⟩ := hrel
    by_cases hlt : k < zs.length
    · obtain ⟨bl, off, rfl, hbl, hc⟩ := h.at_ hlt
      have hs := Lib.hid (psum_succ zs k hlt)
      have hp0 := psum_nonneg zs k hk hp
      by_cases hn : nth zs k < 0
      · have hz := isNeg_of zs k hlt hn
        have HE := Lib.hid (sumE_neg hz)
        clear hz hb1 hb2
        go_wp2
        go_ret2
        rw [HE.out.1, HE.out.2]
        exact ⟨rfl, rfl⟩
      · have hn' : 0 ≤ nth zs k := by omega
        cases b with
        | true =>
          have hb := hb1 rfl
          clear hb1 hb2
          go_wp2
          go_round
          case rel => exact ⟨k + 1, T, true, by omega, by go_num, rfl, rfl, fun j hj => by
            by_cases e : j = k
            · subst e; exact hn'
            · exact hp j (by omega), hT0, hT1, by rw [hs.out]; omega, fun _ => by rw [hs.out]; omega, by simp⟩
          case measure => simp [intOf]; omega
        | false =>
          have hb := Lib.hid (hb2 rfl)
          clear hb1 hb2
          by_cases hf : 1048576 - T < nth zs k
          · have hd : decide (1048576 - T < nth zs k) = true := by simpa using hf
            go_wp2
            go_round
            case rel => exact ⟨k + 1, T, true, by omega, by go_num, rfl, rfl, fun j hj => by
                  by_cases e : j = k
                  · subst e; exact hn'
                  · exact hp j (by omega), hT0, hT1, by rw [hs.out]; omega, fun _ => by rw [hs.out]; have := hb.out; omega, by simp⟩
            case measure => simp [intOf]; omega
          · have hd : decide (1048576 - T < nth zs k) = false := by simpa using hf
            go_wp2
            go_round
            case rel => exact ⟨k + 1, T + nth zs k, false, by omega, by go_num, by go_num, rfl, fun j hj => by
                  by_cases e : j = k
                  · subst e; exact hn'
                  · exact hp j (by omega), by omega, by omega, by rw [hs.out]; omega, by simp, fun _ => by rw [hs.out, ← hb.out]⟩
            case measure => simp [intOf]; omega
    · obtain rfl : k = zs.length := by omega
      have hn := isNeg_none zs hp
      cases b with
      | true =>
        have hb := hb1 rfl
        rw [psum_all] at hb
        have HE := Lib.hid (sumE_full hn hb)
        clear hb1 hb2 hn hb
        go_wp2
        go_ret2
        rw [HE.out.1, HE.out.2]
        exact ⟨rfl, rfl⟩
      | false =>
        have hb := hb2 rfl
        rw [psum_all] at hb
        have HE := Lib.hid (sumE_ok hn (by omega))
        have Hb := Lib.hid hb
        clear hb1 hb2 hn hb hT2
        go_wp2
        go_ret2
        rw [HE.out.1, HE.out.2, Hb.out]
        exact ⟨rfl, rfl⟩
end Go.Proofs.Ytcbkocjpkdcpfaa
