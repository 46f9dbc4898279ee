/- Walks, part c: what of the base package is asked, and small functions. -/
import Derived.Test.YtcbkocjpkdcpfaaWb
namespace Go.Proofs.Ytcbkocjpkdcpfaa
set_option linter.unusedVariables false
open Go.RowKit

theorem eq_of_nth {xs ys : List Int} (hl : xs.length = ys.length) (h : ∀ j, j < xs.length → nth xs j = nth ys j) : xs = ys := by
  apply List.ext_getElem hl
  intro i h1 h2
  have := h i h1
  rwa [nth_eq xs i h1, nth_eq ys i h2] at this
theorem Sl.drewN {w : World} {A : Option Addr} {zs : List Int} (h : Sl w A zs) (n : Nat) : Sl (w.drewN n) A zs := h
def EqRel (w : World) (xs ys : List Int) (s i : Value) (wr : World) : Prop :=
  ∃ (k m : Nat) (b : Bool), k ≤ xs.length ∧ i = .int .i64 k ∧ s = .bool b ∧ wr = w.drewN m ∧ (b = true → ∀ j, j < k → nth xs j = nth ys j) ∧ (b = false → xs ≠ ys)
def Drew (w : World) (v : Value) (e : Ending) (w' : World) : Prop := e = .returned v ∧ ∃ m, w' = w.drewN m

set_option maxHeartbeats 1000000 in
theorem equal_any (A A' : Option Addr) (c c' : Nat) (xs ys : List Int) (w : World) (hx : Sl w A xs) (hy : Sl w A' ys) (hl : xs.length ≤ 9223372036854775807) (hl' : ys.length ≤ 9223372036854775807) :
    Calls Try.prog 20 #[.slice A xs.length c, .slice A' ys.length c'] w (Drew w (.bool (decide (xs = ys)))) := by
  by_cases hlen : xs.length = ys.length
  · have hd : ((xs.length : Int) == (ys.length : Int)) = true := by rw [beq_iff_eq]; omega
    have Hlen := Lib.hid hlen; clear hlen
    go_enter Try.func20, Try.ntmps20
    go_wp2
    go_loopw [5, 6] (fun s i wr => EqRel w xs ys s i wr) (fun s i _ => (xs.length - (intOf i).toNat))
    case atStart => exact ⟨0, 0, true, Nat.zero_le _, rfl, rfl, rfl, fun _ j hj => by omega, by simp⟩
    case round =>
      obtain ⟨k, m, b, hk, rfl, rfl, rfl, h1, h2⟩ := hrel
      cases b with
      | false =>
        have hne := h2 rfl
        have H := Lib.hid (show decide (xs = ys) = false by simpa using hne)
        clear h1 h2 hne
        go_wp2
        go_ret
        exact ⟨ret_bool H.out.symm, m, rfl⟩
      | true =>
        have ha := h1 rfl
        have H1 := Lib.hid ha
        clear h1 h2 ha
        by_cases hlt : k < xs.length
        · obtain ⟨b1, o1, rfl, hb1, hc1⟩ := hx.at_ hlt
          obtain ⟨b2, o2, rfl, hb2, hc2⟩ := hy.at_ (show k < ys.length by have := Hlen.out; omega)
          have hk1 : (0 : Int) ≤ (k : Int) := by omega
          have hk2 : (k : Int) < (xs.length : Int) := by omega
          have hk3 : (k : Int) < (ys.length : Int) := by have := Hlen.out; omega
          by_cases he : nth xs k = nth ys k
          · have hd1 : (nth xs k == nth ys k) = true := by rw [beq_iff_eq]; exact he
            have He := Lib.hid he; clear he
            go_wp2
            go_quiet (fail)
            go_wp2
            go_roundw
            case rel => exact ⟨k + 1, _, true, by omega, by go_num, rfl, by first | rfl | exact (World.drewN_drewN _ _ _).symm | (simp [World.drewN_add]; done), fun _ j hj => by
                by_cases e : j = k
                · subst e; exact He.out
                · exact H1.out j (by omega), by simp⟩
            case measure => simp [intOf]; omega
          · have hd1 : (nth xs k == nth ys k) = false := by rw [beq_eq_false_iff_ne]; exact he
            have He := Lib.hid he; clear he
            go_wp2
            go_quiet (fail)
            go_wp2
            go_roundw
            case rel => exact ⟨k + 1, _, false, by omega, by go_num, rfl, by first | rfl | exact (World.drewN_drewN _ _ _).symm | (simp [World.drewN_add]; done), by simp, fun _ e => He.out (by rw [e])⟩
            case measure => simp [intOf]; omega
        · obtain rfl : k = xs.length := by omega
          have H := Lib.hid (show decide (xs = ys) = true by simpa using eq_of_nth Hlen.out H1.out)
          go_wp2
          go_ret
          exact ⟨ret_bool H.out.symm, m, rfl⟩
  · have hd : ((xs.length : Int) == (ys.length : Int)) = false := by rw [beq_eq_false_iff_ne]; omega
    have H := Lib.hid (show decide (xs = ys) = false by simp; intro e; exact hlen (by rw [e]))
    clear hlen
    go_enter Try.func20, Try.ntmps20
    go_wp2
    go_loopw [5, 6] (fun s i wr => s = .bool false ∧ i = .int .i64 0 ∧ wr = w) (fun _ _ _ => 0)
    case atStart => exact ⟨rfl, rfl, rfl⟩
    case round =>
      obtain ⟨rfl, rfl, rfl⟩ := hrel
      go_wp2
      go_ret
      exact ⟨ret_bool H.out.symm, 0, rfl⟩

theorem turn_any (n b : Int) (w : World) (hb : 1 ≤ b) (hb2 : b ≤ 1000000) : Calls Try.prog 42 #[.int .i64 n, .int .i64 b] w fun e w' => e = .returned (.int .i64 (n % b)) ∧ w = w' := by
  have h1 : n.tmod b = if 0 ≤ n ∨ n % b = 0 then n % b else n % b - b := by
    rw [Int.tmod_eq_emod]
    have hdv : b ∣ n ↔ n % b = 0 := Int.dvd_iff_emod_eq_zero
    simp only [hdv]
    split <;> omega
  have h2 := Int.emod_nonneg n (show b ≠ 0 by omega)
  have h3 := Int.emod_lt_of_pos n (show 0 < b by omega)
  have H1 := Lib.hid h1
  clear h1
  by_cases hn : 0 ≤ n.tmod b
  · have h4 : n.tmod b = n % b := by
      rw [H1.out] at hn ⊢; split at hn
      · rw [if_pos (by assumption)]
      · omega
    have H4 := Lib.hid h4; clear h4
    have hd : decide (n.tmod b < 0) = false := by simpa using hn
    go_enter Try.func42, Try.ntmps42
    go_wp2
    go_ret
    exact ⟨ret_int H4.out, rfl⟩
  · have h4 : n.tmod b + b = n % b := by
      rw [H1.out] at hn ⊢; split at hn
      · omega
      · rw [if_neg (by assumption)]; omega
    have h5 : -1000000 ≤ n.tmod b := by omega
    have H4 := Lib.hid h4; clear h4
    go_enter Try.func42, Try.ntmps42
    go_wp2
    go_ret
    exact ⟨ret_int H4.out, rfl⟩

theorem end_any (a b : Int) (w : World) (h1 : -1000000000 ≤ a) (h2 : a ≤ 1000000000) (h3 : -1000000000 ≤ b) (h4 : b ≤ 1000000000) : Calls Try.prog 50 #[.agg #[.int .i64 a, .int .i64 b]] w fun e w' => e = .returned (.int .i64 (a + b)) ∧ w' = w.alloc (.cells #[.int .i64 a, .int .i64 b] 52) := by
  go_enter Try.func50, Try.ntmps50
  go_wp2
  go_ret
  exact ⟨rfl, rfl⟩
theorem segments_any (v : Value) (hv : ∃ A n c, v = .slice A n c) (w : World) : Calls Try.prog 48 #[v] w fun e w' => e = .returned (.func (.func 63) #[] #[.pointer (some ⟨w.heap.size, 0, none⟩)]) ∧ w' = w.alloc (.cells #[v] 22) := by
  obtain ⟨A, n, c, rfl⟩ := hv
  go_enter Try.func48, Try.ntmps48
  go_wp2
  go_ret
  exact ⟨rfl, rfl⟩
theorem parts_any (A A' : Option Addr) (n c n' c' : Nat) (w : World) : Calls Try.prog 53 #[.slice A n c, .slice A' n' c'] w fun e w' => e = .returned (.func (.func 64) #[] #[.pointer (some ⟨w.heap.size, 0, none⟩), .pointer (some ⟨w.heap.size + 1, 0, none⟩)]) ∧ w' = (w.alloc (.cells #[.slice A n c] 22)).alloc (.cells #[.slice A' n' c'] 22) := by
  go_enter Try.func53, Try.ntmps53
  go_wp2
  go_ret
  exact ⟨rfl, rfl⟩

set_option maxHeartbeats 1000000 in
theorem bsum_any (A : Option Addr) (c : Nat) (zs : List Int) (w : World) (h : Sl w A zs) (hl : zs.length ≤ 9223372036854775807) (hp : PosTo zs zs.length) (hs : zs.sum ≤ 1000000000000) :
    Calls Try.prog 38 #[.slice A zs.length c] w fun e w' => e = .returned (.int .i64 zs.sum) ∧ w = w' := by
  have HS := Lib.hid (psum_all zs)
  go_enter Try.func38, Try.ntmps38
  go_wp2
  go_loop [3, 4] (fun t i => ∃ k : Nat, k ≤ zs.length ∧ i = .int .i64 k ∧ t = .int .i64 (psum zs k)) (fun _ i => zs.length - (intOf i).toNat)
  case atStart => exact ⟨0, Nat.zero_le _, rfl, by rw [psum_zero]⟩
  case round =>
    obtain ⟨k, hk, rfl, rfl⟩ := hrel
    by_cases hlt : k < zs.length
    · obtain ⟨bl, off, rfl, hbl, hc⟩ := h.at_ hlt
      have h0 := psum_nonneg zs k hk (hp.le hk)
      have h1 := psum_mono zs zs.length (Nat.le_refl _) hp (k + 1) zs.length (by omega) (Nat.le_refl _)
      rw [HS.out, psum_succ zs k hlt] at h1
      have h2 := hp k hlt
      have hs' := Lib.hid (psum_succ zs k hlt)
      go_wp2
      go_round
      case rel => exact ⟨k + 1, by omega, by go_num, by rw [hs'.out]⟩
      case measure => simp [intOf]; omega
    · obtain rfl : k = zs.length := by omega
      go_wp2
      go_ret
      exact ⟨ret_int HS.out, rfl⟩

def CkRel (zs : List Int) (t i : Value) : Prop := ∃ (k : Nat) (T : Int), k ≤ zs.length ∧ i = .int .i64 k ∧ t = .int .i64 T ∧ PosTo zs k ∧ 0 ≤ T ∧ T ≤ 2097152 ∧ T = min (psum zs k) 2097152
set_option maxHeartbeats 1000000 in
theorem rcheck_any (A : Option Addr) (c : Nat) (zs : List Int) (w : World) (h : Sl w A zs) (hl : zs.length ≤ 9223372036854775807) :
    Calls Try.prog 13 #[.slice A zs.length c] w fun e w' => e = .returned (.tuple #[.int .i64 (ckN zs), .int .i64 (ckE zs)]) ∧ w = w' := by
  by_cases hb : 1048576 < zs.length
  · have HE := Lib.hid (ck_long hb)
    go_enter Try.func13, Try.ntmps13
    go_wp2
    go_ret2
    rw [HE.out.1, HE.out.2]
    exact ⟨rfl, rfl⟩
  · have HE := Lib.hid (ck_short (show zs.length ≤ 1048576 by omega))
    go_enter Try.func13, Try.ntmps13
    go_wp2
    go_loop [4, 5] (fun t i => CkRel zs t i) (fun _ i => zs.length - (intOf i).toNat)
    case atStart => exact ⟨0, 0, Nat.zero_le _, rfl, rfl, fun j hj => by omega, by omega, by omega, by rw [psum_zero]; omega⟩
    case round =>
      obtain ⟨k, T, hk, rfl, rfl, hp, hT0, hT1, hT⟩ := hrel
      have HT := Lib.hid hT; clear hT
      by_cases hlt : k < zs.length
      · obtain ⟨bl, off, rfl, hbl, hc⟩ := h.at_ hlt
        by_cases hn : nth zs k < 0
        · have HZ := Lib.hid (sumE_neg (isNeg_of zs k hlt hn))
          go_wp2
          go_ret2
          rw [HE.out.1, HE.out.2, HZ.out.1, HZ.out.2]
          exact ⟨rfl, rfl⟩
        · have hs := Lib.hid (psum_succ zs k hlt)
          have h0 := psum_nonneg zs k hk hp
          have hmn : 0 ≤ min (nth zs k) 2097152 := by omega
          have hmn2 : min (nth zs k) 2097152 ≤ 2097152 := by omega
          go_wp2
          go_round
          case rel => exact ⟨k + 1, min (T + min (nth zs k) 2097152) 2097152, by omega, by go_num, by first | rfl | (congr 1 <;> omega) | simp, fun j hj => by
                    by_cases e : j = k
                    · subst e; omega
                    · exact hp j (by omega), by omega, by omega, by rw [hs.out, HT.out]; omega⟩
          case measure => simp [intOf]; omega
      · obtain rfl : k = zs.length := by omega
        have hn := isNeg_none zs hp
        by_cases hb2 : 1048576 < zs.sum
        · have HZ := Lib.hid (sumE_full hn hb2)
          have hT9 : 1048576 < T := by have := HT.out; rw [psum_all] at this; omega
          go_wp2
          go_ret2
          rw [HE.out.1, HE.out.2, HZ.out.1, HZ.out.2]
          exact ⟨rfl, rfl⟩
        · have HZ := Lib.hid (sumE_ok hn (by omega))
          have hT9 : T ≤ 1048576 := by have := HT.out; rw [psum_all] at this; omega
          have HT8 := Lib.hid (show T = zs.sum by have := HT.out; rw [psum_all] at this; omega)
          go_wp2
          go_ret2
          rw [HE.out.1, HE.out.2, HZ.out.1, HZ.out.2, HT8.out]
          exact ⟨rfl, rfl⟩
end Go.Proofs.Ytcbkocjpkdcpfaa
