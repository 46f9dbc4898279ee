/- Put and Union of the base package: a number into a list in order. -/
import Derived.Test.YtcbkocjpkdcpfaaTl
namespace Go.Proofs.Ytcbkocjpkdcpfaa
set_option linter.unusedVariables false
open Go.RowKit Go.Shelf

def ptS (n : Int) (s : List Int × Bool) (x : Int) : List Int × Bool :=
  if s.2 = false ∧ n ≤ x then ((if n < x then s.1 ++ [n] else s.1) ++ [x], true) else (s.1 ++ [x], s.2)
def ptK (l : List Int) (n : Int) (k : Nat) : List Int × Bool := (l.take k).foldl (ptS n) ([], false)
theorem ptK_succ (l : List Int) (n : Int) (k : Nat) (h : k < l.length) : ptK l n (k + 1) = ptS n (ptK l n k) (nth l k) := by
  unfold ptK; rw [take_snoc l k h, List.foldl_append]; rfl
def putL (l : List Int) (n : Int) : List Int := if (ptK l n l.length).2 then (ptK l n l.length).1 else (ptK l n l.length).1 ++ [n]

theorem retS_of' {w W : World} {A : Option Addr} {c T : Nat} {zs L : List Int} (e : zs = L) (hT : L.length = T) (hc : L.length ≤ c) (h : Sl W A L) (hB : Below w.heap.size w W) : RetS w zs (.returned (.slice A T c)) W := by
  subst e; subst hT
  exact ⟨_, _, rfl, hc, h, hB⟩
set_option maxRecDepth 100000 in
set_option maxHeartbeats 2000000 in
theorem put_any (A : Option Addr) (c : Nat) (l : List Int) (n : Int) (w : World) (h : Sl w A l) (hl : l.length ≤ 1048576) :
    Calls Try.prog 62 #[.slice A l.length c, .int .i64 n] w (RetS w (putL l n)) := by
  obtain ⟨i0, hi, hz0, hz1, hz2⟩ := info_parts int_info
  go_enter Try.func62, Try.ntmps62
  go_wp2
  go_loopw [5, 6, 7] (fun v d i wr => ∃ (k : Nat) (L : List Int) (b : Bool), k ≤ l.length ∧ i = .int .i64 k ∧ d = .bool b ∧ Hid (ptK l n k = (L, b)) ∧ L.length ≤ k + k ∧ OwnI wr w.heap.size v L ∧ Below w.heap.size w wr) (fun _ _ i _ => l.length - (intOf i).toNat)
  case atStart => exact ⟨0, [], false, Nat.zero_le _, rfl, rfl, Lib.hid rfl, by simp, OwnI.empty w _ (Nat.le_refl _), (Below.refl _ _).alloc (Nat.le_refl _) _⟩
  case round =>
    obtain ⟨k, L, b, hk, rfl, rfl, HK, hLl, hown, hB⟩ := hrel
    by_cases hlt : k < l.length
    · obtain ⟨bl, off, rfl, hbl, hc⟩ := h.at_ hlt
      have hc1 := (hB.cell (p := ⟨bl, off + k, none⟩) hbl).trans hc
      have HS := Lib.hid (ptK_succ l n k hlt)
      have hk1 : (0 : Int) ≤ (k : Int) := by omega
      have hk2 : (k : Int) < (l.length : Int) := by omega
      obtain ⟨x, hx⟩ : ∃ x, nth l k = x := ⟨_, rfl⟩
      rw [hx, HK.out] at HS
      rw [hx] at hc hc1
      clear hx
      have hbsz := hB.size
      cases b with
      | true =>
        have HS2 : Hid (ptK l n (k + 1) = (L ++ [x], true)) := Lib.hid (by rw [HS.out]; simp [ptS])
        go_wp2_with (at_builtin; refine wpList_append_own _ rfl _ _ 22 rfl w.heap.size 3 i0 (.int .i64 0) 1 8 Try.underlying22 hi hz0 hz1 hz2 rfl (by decide) _ _ _ rfl (hown.alloc _) ⟨wr.heap.size, 0, none⟩ 1 1 [.int .i64 x] rfl rfl (cell_one_new _ _ _) (by simp [Value.oneCell']) (by unfold maxLen; omega) (by omega) (by simp; omega) ?_; intro v' w1 hown' hgrow _; have hB1 := below_append hB hB.size hown hgrow)
        have hown1 := OwnI.snoc hown'
        clear hown' hgrow
        go_roundw
        case rel => exact ⟨k + 1, _, true, by omega, by go_num, rfl, HS2, by simp; omega, hown1, hB1⟩
        case measure => simp [intOf]; omega
      | false =>
        by_cases h1 : n ≤ x
        · have hd1 : decide (n ≤ x) = true := by simpa using h1
          by_cases h2 : n < x
          · have hd2 : decide (n < x) = true := by simpa using h2
            have HS2 : Hid (ptK l n (k + 1) = (L ++ [n] ++ [x], true)) := Lib.hid (by rw [HS.out]; simp [ptS, h1, h2])
            go_wp2_with (at_builtin; refine wpList_append_own _ rfl _ _ 22 rfl w.heap.size 3 i0 (.int .i64 0) 1 8 Try.underlying22 hi hz0 hz1 hz2 rfl (by decide) _ _ _ rfl (hown.alloc _) ⟨wr.heap.size, 0, none⟩ 1 1 [.int .i64 n] rfl rfl (cell_one_new _ _ _) (by simp [Value.oneCell']) (by unfold maxLen; omega) (by omega) (by simp; omega) ?_; intro v1 w1 hown' hgrow _; have hB1 := below_append hB hB.size hown hgrow; have hown1 := OwnI.snoc hown'; have hc3 := (hB1.cell (p := ⟨bl, off + k, none⟩) hbl).trans hc; have hsz1 := hB1.size; clear hown' hgrow hown hB hc1; go_wp2_with (at_builtin; refine wpList_append_own _ rfl _ _ 22 rfl w.heap.size 3 i0 (.int .i64 0) 1 8 Try.underlying22 hi hz0 hz1 hz2 rfl (by decide) _ _ _ rfl (hown1.alloc _) ⟨w1.heap.size, 0, none⟩ 1 1 [.int .i64 x] rfl rfl (cell_one_new _ _ _) (by simp [Value.oneCell']) (by unfold maxLen; simp; omega) (by simp; omega) (by simp; omega) ?_; intro v2 w2 hown' hgrow _; have hB2 := below_append hB1 hB1.size hown1 hgrow))
            have hown2 := OwnI.snoc hown'
            clear hown' hgrow
            go_roundw
            case rel => exact ⟨k + 1, _, true, by omega, by go_num, rfl, HS2, by simp; omega, hown2, hB2⟩
            case measure => simp [intOf]; omega
          · have hd2 : decide (n < x) = false := by simpa using h2
            have HS2 : Hid (ptK l n (k + 1) = (L ++ [x], true)) := Lib.hid (by rw [HS.out]; simp [ptS, h1, h2])
            go_wp2_with (at_builtin; refine wpList_append_own _ rfl _ _ 22 rfl w.heap.size 3 i0 (.int .i64 0) 1 8 Try.underlying22 hi hz0 hz1 hz2 rfl (by decide) _ _ _ rfl (hown.alloc _) ⟨wr.heap.size, 0, none⟩ 1 1 [.int .i64 x] rfl rfl (cell_one_new _ _ _) (by simp [Value.oneCell']) (by unfold maxLen; omega) (by omega) (by simp; omega) ?_; intro v' w1 hown' hgrow _; have hB1 := below_append hB hB.size hown hgrow)
            have hown1 := OwnI.snoc hown'
            clear hown' hgrow
            go_roundw
            case rel => exact ⟨k + 1, _, true, by omega, by go_num, rfl, HS2, by simp; omega, hown1, hB1⟩
            case measure => simp [intOf]; omega
        · have hd1 : decide (n ≤ x) = false := by simpa using h1
          have HS2 : Hid (ptK l n (k + 1) = (L ++ [x], false)) := Lib.hid (by rw [HS.out]; simp [ptS, h1])
          go_wp2_with (at_builtin; refine wpList_append_own _ rfl _ _ 22 rfl w.heap.size 3 i0 (.int .i64 0) 1 8 Try.underlying22 hi hz0 hz1 hz2 rfl (by decide) _ _ _ rfl (hown.alloc _) ⟨wr.heap.size, 0, none⟩ 1 1 [.int .i64 x] rfl rfl (cell_one_new _ _ _) (by simp [Value.oneCell']) (by unfold maxLen; omega) (by omega) (by simp; omega) ?_; intro v' w1 hown' hgrow _; have hB1 := below_append hB hB.size hown hgrow)
          have hown1 := OwnI.snoc hown'
          clear hown' hgrow
          go_roundw
          case rel => exact ⟨k + 1, _, false, by omega, by go_num, rfl, HS2, by simp; omega, hown1, hB1⟩
          case measure => simp [intOf]; omega
    · obtain rfl : k = l.length := by omega
      have hbsz := hB.size
      cases b with
      | true =>
        have HE : Hid (putL l n = L) := Lib.hid (by unfold putL; rw [HK.out]; rfl)
        obtain ⟨A', c', rfl, hcc, hsl⟩ := hown.form
        go_wp2
        go_ret
        exact retS_of HE.out hcc hsl hB
      | false =>
        have HE : Hid (putL l n = L ++ [n]) := Lib.hid (by unfold putL; rw [HK.out]; rfl)
        go_wp2_with (at_builtin; refine wpList_append_own _ rfl _ _ 22 rfl w.heap.size 3 i0 (.int .i64 0) 1 8 Try.underlying22 hi hz0 hz1 hz2 rfl (by decide) _ _ _ rfl (hown.alloc _) ⟨wr.heap.size, 0, none⟩ 1 1 [.int .i64 n] rfl rfl (cell_one_new _ _ _) (by simp [Value.oneCell']) (by unfold maxLen; omega) (by omega) (by simp; omega) ?_; intro v' w1 hown' hgrow _; have hB1 := below_append hB hB.size hown hgrow; have hown1 := OwnI.snoc hown'; obtain ⟨A', c', rfl, hcc, hsl⟩ := hown1.form)
        go_ret
        exact retS_of' HE.out (by simp) hcc hsl hB1
end Go.Proofs.Ytcbkocjpkdcpfaa
