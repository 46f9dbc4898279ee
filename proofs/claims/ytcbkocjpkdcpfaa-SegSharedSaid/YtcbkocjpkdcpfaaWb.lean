/- Walks, part b: fit, Check of both sides. -/
import Derived.Test.YtcbkocjpkdcpfaaWa
namespace Go.Proofs.Ytcbkocjpkdcpfaa
open Go.RowKit

def fitE (n m : Nat) : Int := if 1048576 < n ∨ 1048576 < m then 3 else if n ≠ m then 1 else 0

set_option maxHeartbeats 1000000 in
theorem fit1_any (g : Nat) (A : Option Addr) (n c : Nat) (w : World) (hn : n ≤ 9223372036854775807) (hc : w.cell? ⟨g, 0, none⟩ = some (.slice A n c)) :
    Calls Try.prog 46 #[.slice (some ⟨g, 0, none⟩) 1 1] w fun e w' => e = .returned (.int .i64 (if 1048576 < n then 3 else 0)) ∧ w = w' := by
  by_cases hb : 1048576 < n
  · rw [if_pos hb]
    have hd : decide ((1048576 : Int) < (n : Int)) = true := by simp; omega
    go_enter Try.func46, Try.ntmps46
    go_wp2
    go_loop [9] (fun i => i = .int .i64 0) (fun _ => 0)
    case atStart => exact rfl
    case round =>
      obtain rfl := hrel
      go_wp2
      go_ret
      exact ⟨rfl, rfl⟩
  · rw [if_neg hb]
    have hd : decide ((1048576 : Int) < (n : Int)) = false := by simp; omega
    have hd' : ((n : Int) != (n : Int)) = false := by simp
    go_enter Try.func46, Try.ntmps46
    go_wp2
    go_loop [9] (fun i => i = .int .i64 0 ∨ i = .int .i64 1) (fun i => 1 - (intOf i).toNat)
    case atStart => exact .inl rfl
    case round =>
      rcases hrel with rfl | rfl
      · go_wp2
        go_round
        case rel => exact .inr rfl
        case measure => simp [intOf]
      · go_wp2
        go_loop [19] (fun i => i = .int .i64 0 ∨ i = .int .i64 1) (fun i => 1 - (intOf i).toNat)
        case atStart => exact .inl rfl
        case round =>
          rcases hrel with rfl | rfl
          · go_wp2
            go_round
            case rel => exact .inr rfl
            case measure => simp [intOf]
          · go_wp2
            go_ret
            exact ⟨rfl, rfl⟩

set_option maxHeartbeats 2000000 in
theorem fit2_any (g : Nat) (A A' : Option Addr) (n c m c' : Nat) (w : World) (hn : n ≤ 9223372036854775807) (hm : m ≤ 9223372036854775807) (hc : w.cell? ⟨g, 0, none⟩ = some (.slice A n c)) (hc' : w.cell? ⟨g, 1, none⟩ = some (.slice A' m c')) :
    Calls Try.prog 46 #[.slice (some ⟨g, 0, none⟩) 2 2] w fun e w' => e = .returned (.int .i64 (fitE n m)) ∧ w = w' := by
  by_cases hb : 1048576 < n
  · rw [show fitE n m = 3 from by simp [fitE, hb]]
    have hd : decide ((1048576 : Int) < (n : Int)) = true := by simp; omega
    go_enter Try.func46, Try.ntmps46
    go_wp2
    go_loop [9] (fun i => i = .int .i64 0) (fun _ => 0)
    case atStart => exact rfl
    case round =>
      obtain rfl := hrel
      go_wp2
      go_ret
      exact ⟨rfl, rfl⟩
  · have hd : decide ((1048576 : Int) < (n : Int)) = false := by simp; omega
    by_cases hb' : 1048576 < m
    · rw [show fitE n m = 3 from by simp [fitE, hb']]
      have hd1 : decide ((1048576 : Int) < (m : Int)) = true := by simp; omega
      go_enter Try.func46, Try.ntmps46
      go_wp2
      go_loop [9] (fun i => i = .int .i64 0 ∨ i = .int .i64 1) (fun i => 1 - (intOf i).toNat)
      case atStart => exact .inl rfl
      case round =>
        rcases hrel with rfl | rfl
        · go_wp2
          go_round
          case rel => exact .inr rfl
          case measure => simp [intOf]
        · go_wp2
          go_ret
          exact ⟨rfl, rfl⟩
    · have hd1 : decide ((1048576 : Int) < (m : Int)) = false := by simp; omega
      by_cases he : n = m
      · subst he
        rw [show fitE n n = 0 from by simp [fitE, hb]]
        have hd' : ((n : Int) != (n : Int)) = false := by simp
        go_enter Try.func46, Try.ntmps46
        go_wp2
        go_loop [9] (fun i => i = .int .i64 0 ∨ i = .int .i64 1 ∨ i = .int .i64 2) (fun i => 2 - (intOf i).toNat)
        case atStart => exact .inl rfl
        case round =>
          rcases hrel with rfl | rfl | rfl
          · go_wp2
            go_round
            case rel => exact .inr (.inl rfl)
            case measure => simp [intOf]
          · go_wp2
            go_round
            case rel => exact .inr (.inr rfl)
            case measure => simp [intOf]
          · go_wp2
            go_loop [19] (fun i => i = .int .i64 0 ∨ i = .int .i64 1 ∨ i = .int .i64 2) (fun i => 2 - (intOf i).toNat)
            case atStart => exact .inl rfl
            case round =>
              rcases hrel with rfl | rfl | rfl
              · go_wp2
                go_round
                case rel => exact .inr (.inl rfl)
                case measure => simp [intOf]
              · go_wp2
                go_round
                case rel => exact .inr (.inr rfl)
                case measure => simp [intOf]
              · go_wp2
                go_ret
                exact ⟨rfl, rfl⟩
      · rw [show fitE n m = 1 from by simp [fitE, hb, hb', he]]
        have hd' : ((n : Int) != (n : Int)) = false := by simp
        have hd2 : ((m : Int) != (n : Int)) = true := by rw [bne_iff_ne]; omega
        go_enter Try.func46, Try.ntmps46
        go_wp2
        go_loop [9] (fun i => i = .int .i64 0 ∨ i = .int .i64 1 ∨ i = .int .i64 2) (fun i => 2 - (intOf i).toNat)
        case atStart => exact .inl rfl
        case round =>
          rcases hrel with rfl | rfl | rfl
          · go_wp2
            go_round
            case rel => exact .inr (.inl rfl)
            case measure => simp [intOf]
          · go_wp2
            go_round
            case rel => exact .inr (.inr rfl)
            case measure => simp [intOf]
          · go_wp2
            go_loop [19] (fun i => i = .int .i64 0 ∨ i = .int .i64 1) (fun i => 1 - (intOf i).toNat)
            case atStart => exact .inl rfl
            case round =>
              rcases hrel with rfl | rfl
              · go_wp2
                go_round
                case rel => exact .inr rfl
                case measure => simp [intOf]
              · go_wp2
                go_ret
                exact ⟨rfl, rfl⟩

set_option maxHeartbeats 1000000 in
theorem check_any (A : Option Addr) (c : Nat) (zs : List Int) (w : World) (h : Sl w A zs) (hl : zs.length ≤ 9223372036854775807) :
    Calls Try.prog 12 #[.slice A zs.length c] w (RetV w (.tuple #[.int .i64 (ckN zs), .int .i64 (ckE zs)])) := by
  have hs : Sl (w.alloc (.cells #[.slice A zs.length c] 22)) A zs := h.step ((Below.refl _ _).alloc (Nat.le_refl _) _)
  have C1 := Lib.hid (fun c1 => fit1_any w.heap.size A zs.length c (w.alloc (.cells #[.slice A zs.length c] 22)) hl c1)
  by_cases hb : 1048576 < zs.length
  · have HE := Lib.hid (ck_long hb)
    rw [if_pos hb] at C1
    go_enter Try.func12, Try.ntmps12
    go_wp2_with (go_at_call 46; refine (C1.out (cell1 _ _ _)).mono ?_; rintro e w' ⟨rfl, rfl⟩)
    go_ret2
    rw [HE.out.1, HE.out.2]
    exact ⟨rfl, (Below.refl _ _).alloc (Nat.le_refl _) _⟩
  · have HE := Lib.hid (ck_short (show zs.length ≤ 1048576 by omega))
    rw [if_neg hb] at C1
    go_enter Try.func12, Try.ntmps12
    go_wp2_with (first | (go_at_call 46; refine (C1.out (cell1 _ _ _)).mono ?_; rintro e w' ⟨rfl, rfl⟩) | (go_at_call 47; refine (sum_any A c zs _ hs hl).mono ?_; rintro e w' ⟨rfl, rfl⟩))
    go_ret2
    rw [HE.out.1, HE.out.2]
    exact ⟨rfl, (Below.refl _ _).alloc (Nat.le_refl _) _⟩
end Go.Proofs.Ytcbkocjpkdcpfaa
