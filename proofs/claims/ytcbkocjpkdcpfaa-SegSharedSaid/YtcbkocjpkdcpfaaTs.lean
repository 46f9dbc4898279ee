/- Union of none and a list. -/
import Derived.Test.YtcbkocjpkdcpfaaTr
namespace Go.Proofs.Ytcbkocjpkdcpfaa
set_option linter.unusedVariables false
open Go.RowKit Go.Shelf

def unK (l : List Int) (k : Nat) : List Int := (l.take k).foldl putL []
def unL (l : List Int) : List Int := unK l l.length
theorem unK_succ (l : List Int) (k : Nat) (h : k < l.length) : unK l (k + 1) = putL (unK l k) (nth l k) := by
  unfold unK; rw [take_snoc l k h, List.foldl_append]; rfl
theorem ptK_length (l : List Int) (n : Int) (k : Nat) (hk : k ≤ l.length) : (ptK l n k).1.length ≤ k + (if (ptK l n k).2 then 1 else 0) := by
  induction k with
  | zero => simp [ptK]
  | succ k ih =>
    have := ih (by omega)
    rw [ptK_succ l n k (by omega)]
    unfold ptS
    generalize ptK l n k = s at *
    obtain ⟨L, b⟩ := s
    cases b <;> simp at this ⊢
    · by_cases h1 : n ≤ nth l k
      · by_cases h2 : n < nth l k <;> simp [h1, h2] <;> omega
      · simp [h1]; omega
    · omega
theorem putL_length (l : List Int) (n : Int) : (putL l n).length ≤ l.length + 1 := by
  have := ptK_length l n l.length (Nat.le_refl _)
  unfold putL
  generalize ptK l n l.length = s at *
  obtain ⟨L, b⟩ := s
  cases b <;> simp at this ⊢ <;> omega
theorem unK_length (l : List Int) (k : Nat) (hk : k ≤ l.length) : (unK l k).length ≤ k := by
  induction k with
  | zero => simp [unK]
  | succ k ih =>
    rw [unK_succ l k (by omega)]
    have := putL_length (unK l k) (nth l k)
    have := ih (by omega)
    omega
set_option maxRecDepth 100000 in
theorem copy_nil (w : World) : Calls Try.prog 61 #[.slice none 0 0] w (RetS w []) := by
  go_enter Try.func61, Try.ntmps61
  go_wp2
  go_ret
  exact ⟨_, _, rfl, by simp, Sl.nil _ _, (Below.refl _ w).alloc (Nat.le_refl _) _⟩
set_option maxRecDepth 100000 in
set_option maxHeartbeats 1000000 in
theorem union_any (A : Option Addr) (c : Nat) (l : List Int) (w : World) (h : Sl w A l) (hl : l.length ≤ 1048576) :
    Calls Try.prog 44 #[.slice none 0 0, .slice A l.length c] w (RetS w (unL l)) := by
  go_enter Try.func44, Try.ntmps44
  go_wp2_with (go_at_call 61; refine (copy_nil _).mono ?_; rintro e w1 ⟨A1, c1, rfl, h11, h12, hB1⟩)
  go_loopw [5, 6] (fun v i wr => ∃ (k : Nat) (B : Option Addr) (cb : Nat) (L : List Int), k ≤ l.length ∧ i = .int .i64 k ∧ v = .slice B L.length cb ∧ Hid (unK l k = L) ∧ Sl wr B L ∧ L.length ≤ k ∧ L.length ≤ cb ∧ Below w.heap.size w wr) (fun _ i _ => l.length - (intOf i).toNat)
  case atStart => exact ⟨0, A1, c1, [], Nat.zero_le _, rfl, rfl, Lib.hid rfl, h12, Nat.le_refl _, by simp, hB1⟩
  case round =>
    obtain ⟨k, B, cb, L, hk, rfl, rfl, HK, hS, hLl, hcb, hB⟩ := hrel
    by_cases hlt : k < l.length
    · obtain ⟨bl, off, rfl, hbl, hc⟩ := (h.step hB).at_ hlt
      have HS := Lib.hid (unK_succ l k hlt)
      have hlen2 := unK_length l (k + 1) (by omega)
      have hk1 : (0 : Int) ≤ (k : Int) := by omega
      have hk2 : (k : Int) < (l.length : Int) := by omega
      obtain ⟨x, hx⟩ : ∃ x, nth l k = x := ⟨_, rfl⟩
      rw [HK.out, hx] at HS
      rw [hx] at hc
      rw [HS.out] at hlen2
      have C1 := put_any B cb L x wr hS (by omega)
      clear hx
      go_wp2_with (go_at_call 62; refine C1.mono ?_; rintro e w2 ⟨B2, c2, rfl, h21, h22, hB2⟩)
      go_roundw
      case rel => exact ⟨k + 1, B2, c2, _, by omega, by go_num, rfl, HS, h22, hlen2, h21, hB.trans (hB2.mono hB.size)⟩
      case measure => simp [intOf]; omega
    · obtain rfl : k = l.length := by omega
      go_wp2
      go_ret
      exact retS_of HK.out hcb hS hB
end Go.Proofs.Ytcbkocjpkdcpfaa
