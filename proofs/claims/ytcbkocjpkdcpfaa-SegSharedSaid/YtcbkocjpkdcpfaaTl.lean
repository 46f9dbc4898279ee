/- The laws' helpers: some, Upto, great. -/
import Derived.Test.YtcbkocjpkdcpfaaRa
namespace Go.Proofs.Ytcbkocjpkdcpfaa
set_option linter.unusedVariables false
open Go.RowKit Go.Shelf

theorem retS_of {w W : World} {A : Option Addr} {c : Nat} {zs L : List Int} (e : zs = L) (hc : L.length ≤ c) (h : Sl W A L) (hB : Below w.heap.size w W) : RetS w zs (.returned (.slice A L.length c)) W := by
  subst e
  exact ⟨_, _, rfl, hc, h, hB⟩
def smK (l : List Int) (k : Nat) : List Int := (l.take k).map (· % 10)
def smL (l : List Int) : List Int := smK l 40
theorem smK_succ (l : List Int) (k : Nat) (h : k < l.length) : smK l (k + 1) = smK l k ++ [nth l k % 10] := by unfold smK; rw [take_snoc l k h, List.map_append]; rfl
theorem smK_length (l : List Int) (k : Nat) : (smK l k).length ≤ k := by simp [smK]; omega

set_option maxRecDepth 100000 in
set_option maxHeartbeats 1000000 in
theorem some_any (A : Option Addr) (c : Nat) (l : List Int) (w : World) (h : Sl w A l) (hl : l.length ≤ 9223372036854775807) :
    Calls Try.prog 37 #[.slice A l.length c] w (RetS w (smL l)) := by
  obtain ⟨i0, hi, hz0, hz1, hz2⟩ := info_parts int_info
  go_enter Try.func37, Try.ntmps37
  go_wp2
  go_loopw [3, 4] (fun v i wr => ∃ (k : Nat) (L : List Int), k ≤ l.length ∧ k ≤ 40 ∧ i = .int .i64 k ∧ Hid (L = smK l k) ∧ L.length ≤ k ∧ OwnI wr w.heap.size v L ∧ Below w.heap.size w wr) (fun _ i _ => 40 - (intOf i).toNat)
  case atStart => exact ⟨0, [], Nat.zero_le _, by omega, rfl, Lib.hid (by simp [smK]), by simp, OwnI.empty w _ (Nat.le_refl _), (Below.refl _ _).alloc (Nat.le_refl _) _⟩
  case round =>
    obtain ⟨k, L, hk, hk4, rfl, HL, hLl, hown, hB⟩ := hrel
    by_cases hlt : k < l.length
    · have hd1 : decide ((k : Int) < (l.length : Int)) = true := by simp; omega
      by_cases h4 : k < 40
      · have hd2 : decide ((k : Int) < 40) = true := by simp; omega
        obtain ⟨bl, off, rfl, hbl, hc⟩ := (h.step hB).at_ hlt
        have HS := Lib.hid (smK_succ l k hlt)
        have hk1 : (0 : Int) ≤ (k : Int) := by omega
        have hk2 : (k : Int) < (l.length : Int) := by omega
        obtain ⟨x, hx⟩ : ∃ x, nth l k = x := ⟨_, rfl⟩
        rw [hx] at hc HS
        have C1 := turn_any x 10 wr (by omega) (by omega)
        obtain ⟨y, hy⟩ : ∃ y, x % 10 = y := ⟨_, rfl⟩
        rw [hy] at C1 HS
        clear hx hy
        go_wp2_with (first | (go_at_call 42; refine C1.mono ?_; rintro e w' ⟨rfl, rfl⟩) | (at_builtin; refine wpList_append_own _ rfl _ _ 22 rfl w.heap.size 3 i0 (.int .i64 0) 1 8 Try.underlying22 hi hz0 hz1 hz2 rfl (by decide) _ _ _ rfl (hown.alloc _) ⟨wr.heap.size, 0, none⟩ 1 1 [.int .i64 y] rfl rfl (cell_one_new _ _ _) (by simp [Value.oneCell']) (by unfold maxLen; omega) (by omega) (by have := hB.size; simp; omega) ?_; intro v' w1 hown' hgrow _; have hB1 := below_append hB hB.size hown hgrow))
        have hown1 := OwnI.snoc hown'
        clear hown' hgrow
        go_roundw
        case rel => exact ⟨k + 1, _, by omega, by omega, by go_num, Lib.hid (by rw [HS.out, ← HL.out]), by simp; omega, hown1, hB1⟩
        case measure => simp [intOf]; omega
      · obtain rfl : k = 40 := by omega
        obtain ⟨A', c', rfl, hcc, hsl⟩ := hown.form
        have hd2 : decide (((40 : Nat) : Int) < 40) = false := by simp
        go_wp2
        go_ret
        exact retS_of HL.out.symm hcc hsl hB
    · have hd1 : decide ((k : Int) < (l.length : Int)) = false := by simp; omega
      have HE : Hid (L = smL l) := Lib.hid (by rw [HL.out]; unfold smL smK; rw [List.take_of_length_le (by omega), List.take_of_length_le (by omega)])
      obtain ⟨A', c', rfl, hcc, hsl⟩ := hown.form
      go_wp2
      go_ret
      exact retS_of HE.out.symm hcc hsl hB

def upL (n : Nat) : List Int := (List.range n).map fun i : Nat => (i : Int)
set_option maxRecDepth 100000 in
set_option maxHeartbeats 1000000 in
theorem upto_any (n : Nat) (w : World) (hn : n ≤ 1048576) : Calls Try.prog 45 #[.int .i64 n] w (RetS w (upL n)) := by
  obtain ⟨i0, hi, hz0, hz1, hz2⟩ := info_parts int_info
  go_enter Try.func45, Try.ntmps45
  go_wp2
  go_loopw [3, 4] (fun v i wr => ∃ (k : Nat) (L : List Int), k ≤ n ∧ i = .int .i64 k ∧ Hid (L = upL k) ∧ L.length = k ∧ OwnI wr w.heap.size v L ∧ Below w.heap.size w wr) (fun _ i _ => n - (intOf i).toNat)
  case atStart => exact ⟨0, [], Nat.zero_le _, rfl, Lib.hid rfl, rfl, OwnI.empty w _ (Nat.le_refl _), (Below.refl _ _).alloc (Nat.le_refl _) _⟩
  case round =>
    obtain ⟨k, L, hk, rfl, HL, hLl, hown, hB⟩ := hrel
    by_cases hlt : k < n
    · go_wp2_with (at_builtin; refine wpList_append_own _ rfl _ _ 22 rfl w.heap.size 3 i0 (.int .i64 0) 1 8 Try.underlying22 hi hz0 hz1 hz2 rfl (by decide) _ _ _ rfl (hown.alloc _) ⟨wr.heap.size, 0, none⟩ 1 1 [.int .i64 (k : Int)] rfl rfl (cell_one_new _ _ _) (by simp [Value.oneCell']) (by unfold maxLen; omega) (by omega) (by have := hB.size; simp; omega) ?_; intro v' w1 hown' hgrow _; have hB1 := below_append hB hB.size hown hgrow)
      have hown1 := OwnI.snoc hown'
      clear hown' hgrow
      go_roundw
      case rel => exact ⟨k + 1, _, by omega, by go_num, Lib.hid (by rw [HL.out]; simp [upL, List.range_succ]), by simp; omega, hown1, hB1⟩
      case measure => simp [intOf]; omega
    · obtain rfl : k = n := by omega
      obtain ⟨A', c', rfl, hcc, hsl⟩ := hown.form
      go_wp2
      go_ret
      exact retS_of HL.out.symm hcc hsl hB

theorem great_any (A : Option Addr) (c : Nat) (zs : List Int) (w : World) (h : Sl w A zs) (hl : zs.length ≤ 9223372036854775807) :
    Calls Try.prog 10 #[.slice A zs.length c] w fun e w' => e = .returned (.bool (decide ((ckE zs = 0 ∧ 2000 < ckN zs) ∨ 2000 < zs.length))) ∧ w = w' := by
  have C1 := rcheck_any A c zs w h hl
  obtain ⟨E, hE⟩ : ∃ E, ckE zs = E := ⟨_, rfl⟩
  obtain ⟨n, hn⟩ : ∃ n, ckN zs = n := ⟨_, rfl⟩
  rw [hE, hn] at C1
  rw [hE, hn]
  clear hE hn
  go_enter Try.func10, Try.ntmps10
  go_wp2_with (go_at_call 13; refine C1.mono ?_; rintro e w' ⟨rfl, rfl⟩)
  all_goals (go_ret; refine ⟨ret_bool ?_, rfl⟩)
  all_goals (try rw [Bool.eq_iff_iff])
  all_goals (try simp)
  all_goals (try omega)
end Go.Proofs.Ytcbkocjpkdcpfaa
