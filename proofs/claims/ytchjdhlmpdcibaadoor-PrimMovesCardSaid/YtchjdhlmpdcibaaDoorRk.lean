/- Walks of the specification: great. -/
import Derived.Test.YtchjdhlmpdcibaaDoorRc
namespace Go.Proofs.YtchjdhlmpdcibaaDoor
set_option linter.unusedVariables false
open Go.RowKit Go.Shelf
set_option maxRecDepth 100000 in
set_option maxHeartbeats 4000000 in
theorem great_any (A : Option Addr) (c : Nat) (zs : List Int) (w : World) (h : Sl w A zs) (hl : zs.length ≤ 9223372036854775807) :
    Calls Tryd.prog 29 #[.slice A zs.length c] w fun e w' => (∃ g : Bool, e = .returned (.bool g)) ∧ w = w' := by
  go_enter Tryd.func29, Tryd.ntmps29
  go_wp2
  go_loop [3, 4] (fun t i => ∃ (k : Nat) (T : Int), k ≤ zs.length ∧ i = .int .i64 k ∧ t = .int .i64 T ∧ 0 ≤ T ∧ T ≤ 4000000) (fun _ i => zs.length - (intOf i).toNat)
  case atStart => exact ⟨0, 0, Nat.zero_le _, rfl, rfl, by omega, by omega⟩
  case round =>
    obtain ⟨k, T, hk, rfl, rfl, hT0, hT1⟩ := hrel
    have C2 := fun W => lies_any T 4001 1048576 W
    obtain ⟨g, hg⟩ : ∃ g, decide (4001 ≤ T ∧ T ≤ 1048576) = g := ⟨_, rfl⟩
    rw [hg] at C2
    have C2 := Lib.hid C2
    clear hg
    by_cases hlt : k < zs.length
    · by_cases hT : T ≤ 1048576
      · obtain ⟨bl, off, rfl, hbl, hc⟩ := h.at_ hlt
        have hk1 : (0 : Int) ≤ (k : Int) := by omega
        have hk2 : (k : Int) < (zs.length : Int) := by omega
        obtain ⟨x, hx⟩ : ∃ x, nth zs k = x := ⟨_, rfl⟩
        rw [hx] at hc
        clear hx
        have hm0 : 0 ≤ max 0 (min x 2097152) := by omega
        have hm1 : max 0 (min x 2097152) ≤ 2097152 := by omega
        go_wp2
        go_round
        case rel => exact ⟨k + 1, _, by omega, by go_num, rfl, by omega, by omega⟩
        case measure => simp [intOf]; omega
      · go_wp2_with fail
        refine (C2.out _).mono ?_
        rintro e w' ⟨rfl, rfl⟩
        go_wp2
        go_ret
        exact ⟨⟨_, rfl⟩, rfl⟩
    · go_wp2_with fail
      refine (C2.out _).mono ?_
      rintro e w' ⟨rfl, rfl⟩
      go_wp2
      go_ret
      exact ⟨⟨_, rfl⟩, rfl⟩
end Go.Proofs.YtchjdhlmpdcibaaDoor
