/- Walks of scan: check, checked's parts. -/
import Derived.Test.YtecpanppnljkhaaGreatDoorEa
namespace Go.Proofs.YtecpanppnljkhaaGreatDoor
set_option linter.unusedVariables false
set_option maxRecDepth 100000
open Go.RowKit
theorem noWord_any (n : Int) (w : World) : Calls Tryz.prog 111 #[.int .i64 n] w fun e w' => e = .returned (.bool (!isWb n)) ∧ w = w' := by
  have C := Lib.hid (is_any n w)
  go_enter Tryz.func111, Tryz.ntmps111
  go_wp2_with fail
  refine C.out.mono ?_
  rintro e w' ⟨rfl, rfl⟩
  go_wp2
  go_ret
  exact ⟨rfl, rfl⟩

set_option maxHeartbeats 1000000 in
theorem index_words (A : Option Addr) (c : Nat) (zs : List Int) (w : World) (h : Sl w A zs) (hl : zs.length ≤ 9223372036854775807) (p : Int → Bool)
    (hp : ∀ n, Calls Tryz.prog 111 #[.int .i64 n] w fun e w' => e = .returned (.bool (p n)) ∧ w = w') :
    Calls Tryz.prog 127 #[.slice A zs.length c, .func (.func 111) #[] #[]] w (Idx (zs.any p) w) := by
  have HP := Lib.hid hp; clear hp
  go_enter Tryz.func127, Tryz.ntmps127
  go_wp2
  go_loop [8] (fun i => ∃ k : Nat, k ≤ zs.length ∧ i = .int .i64 k ∧ ∀ j, j < k → p (nth zs j) = false) (fun i => zs.length - (intOf i).toNat)
  case atStart => exact ⟨0, Nat.zero_le _, rfl, fun j hj => by omega⟩
  case round =>
    obtain ⟨k, hk, rfl, hq⟩ := hrel
    have HQ := Lib.hid hq; clear hq
    by_cases hlt : k < zs.length
    · obtain ⟨b, off, rfl, hb, hc⟩ := h.at_ hlt
      have C := HP.out (nth zs k)
      have HN := Lib.hid (any_at zs p (nth zs) (nth_eq zs) k hlt)
      have hk1 : (0 : Int) ≤ (k : Int) := by omega
      have hk2 : (k : Int) < (zs.length : Int) := by omega
      obtain ⟨z, hz⟩ : ∃ z, nth zs k = z := ⟨_, rfl⟩
      have HZ := Lib.hid hz
      rw [hz] at hc C HN
      clear hz
      cases hpz : p z with
      | false =>
        rw [hpz] at C
        have C := Lib.hid C
        have HT := Lib.hid hpz
        clear hpz
        go_wp2_with fail
        refine C.out.mono ?_
        rintro e w' ⟨rfl, rfl⟩
        go_wp2
        go_round
        case rel => exact ⟨k + 1, by omega, by go_num, fun j hj => by
                by_cases e : j = k
                · subst e; rw [HZ.out]; exact HT.out
                · exact HQ.out j (by omega)⟩
        case measure => simp [intOf]; omega
      | true =>
        rw [hpz] at C
        have C := Lib.hid C
        have HT := Lib.hid (HN.out hpz)
        clear hpz
        go_wp2_with fail
        refine C.out.mono ?_
        rintro e w' ⟨rfl, rfl⟩
        go_wp2
        go_ret
        exact idx_at HT.out
    · obtain rfl : k = zs.length := by omega
      have HT := Lib.hid (any_no zs p (nth zs) (nth_eq zs) HQ.out)
      go_wp2
      go_ret
      exact idx_no HT.out

theorem contains_words (A : Option Addr) (c : Nat) (zs : List Int) (w : World) (h : Sl w A zs) (hl : zs.length ≤ 9223372036854775807) (p : Int → Bool) (hp : ∀ n, Calls Tryz.prog 111 #[.int .i64 n] w fun e w' => e = .returned (.bool (p n)) ∧ w = w') :
    Calls Tryz.prog 110 #[.slice A zs.length c, .func (.func 111) #[] #[]] w fun e w' => e = .returned (.bool (zs.any p)) ∧ w = w' := by
  have C := Lib.hid (index_words A c zs w h hl p hp)
  go_enter Tryz.func110, Tryz.ntmps110
  go_wp2_with fail
  refine C.out.mono ?_
  rintro e w' ⟨i, rfl, hi, rfl⟩
  have hd : decide (i ≥ 0) = zs.any p := hi
  have HD := Lib.hid hd
  clear hi hd
  go_wp2
  go_ret
  exact ⟨ret_bool HD.out, rfl⟩

theorem hasOthers_any (A : Option Addr) (c : Nat) (zs : List Int) (w : World) (h : Sl w A zs) (hl : zs.length ≤ 9223372036854775807) : Calls Tryz.prog 97 #[.slice A zs.length c] w fun e w' => e = .returned (.bool (!wordsB zs)) ∧ w = w' := by
  have C := contains_words A c zs w h hl (fun n => !isWb n) (fun n => noWord_any n w)
  rw [show (zs.any fun n => !isWb n) = !wordsB zs by unfold wordsB; rw [← List.not_all_eq_any_not]] at C
  have C := Lib.hid C
  go_enter Tryz.func97, Tryz.ntmps97
  go_wp2_with fail
  refine C.out.mono ?_
  rintro e w' ⟨rfl, rfl⟩
  go_wp2
  go_ret
  exact ⟨rfl, rfl⟩
theorem isLong_any (A : Option Addr) (n c : Nat) (w : World) (hn : n ≤ 9223372036854775807) : Calls Tryz.prog 96 #[.slice A n c] w fun e w' => e = .returned (.bool (!decide (n ≤ 1048576))) ∧ w = w' := by
  go_enter Tryz.func96, Tryz.ntmps96
  go_wp2
  go_ret
  exact ⟨ret_bool (by rw [Bool.eq_iff_iff]; simp; try omega), rfl⟩

set_option maxHeartbeats 1000000 in
theorem index_long (A : Option Addr) (c : Nat) (L : List (List Int)) (w : World) (h : Sll w A L) (hl : L.length ≤ 9223372036854775807) (p : List Int → Bool)
    (hp : ∀ A' c' k, k < L.length → Sl w A' (nthL L k) → Calls Tryz.prog 96 #[.slice A' (nthL L k).length c'] w fun e w' => e = .returned (.bool (p (nthL L k))) ∧ w = w') :
    Calls Tryz.prog 109 #[.slice A L.length c, .func (.func 96) #[] #[]] w (Idx (L.any p) w) := by
  have HP := Lib.hid hp; clear hp
  go_enter Tryz.func109, Tryz.ntmps109
  go_wp2
  go_loop [8] (fun i => ∃ k : Nat, k ≤ L.length ∧ i = .int .i64 k ∧ ∀ j, j < k → p (nthL L j) = false) (fun i => L.length - (intOf i).toNat)
  case atStart => exact ⟨0, Nat.zero_le _, rfl, fun j hj => by omega⟩
  case round =>
    obtain ⟨k, hk, rfl, hq⟩ := hrel
    have HQ := Lib.hid hq; clear hq
    by_cases hlt : k < L.length
    · obtain ⟨b, off, rfl, hb, hc⟩ := h (by omega)
      obtain ⟨A', c', hc1, hcc, hs⟩ := hc k hlt
      have C := HP.out A' c' k hlt hs
      have HN := Lib.hid (any_at L p (nthL L) (nthL_eq L) k hlt)
      clear hc hs hcc
      have hk1 : (0 : Int) ≤ (k : Int) := by omega
      have hk2 : (k : Int) < (L.length : Int) := by omega
      obtain ⟨z, hz⟩ : ∃ z, nthL L k = z := ⟨_, rfl⟩
      have HZ := Lib.hid hz
      rw [hz] at hc1 C HN
      clear hz
      cases hpz : p z with
      | false =>
        rw [hpz] at C
        have C := Lib.hid C
        have HT := Lib.hid hpz
        clear hpz
        go_wp2_with fail
        refine C.out.mono ?_
        rintro e w' ⟨rfl, rfl⟩
        go_wp2
        go_round
        case rel => exact ⟨k + 1, by omega, by go_num, fun j hj => by
                by_cases e : j = k
                · subst e; rw [HZ.out]; exact HT.out
                · exact HQ.out j (by omega)⟩
        case measure => simp [intOf]; omega
      | true =>
        rw [hpz] at C
        have C := Lib.hid C
        have HT := Lib.hid (HN.out hpz)
        clear hpz
        go_wp2_with fail
        refine C.out.mono ?_
        rintro e w' ⟨rfl, rfl⟩
        go_wp2
        go_ret
        exact idx_at HT.out
    · obtain rfl : k = L.length := by omega
      have HT := Lib.hid (any_no L p (nthL L) (nthL_eq L) HQ.out)
      go_wp2
      go_ret
      exact idx_no HT.out

theorem contains_long (A : Option Addr) (c : Nat) (L : List (List Int)) (w : World) (h : Sll w A L) (hl : L.length ≤ 9223372036854775807) (p : List Int → Bool) (hp : ∀ A' c' k, k < L.length → Sl w A' (nthL L k) → Calls Tryz.prog 96 #[.slice A' (nthL L k).length c'] w fun e w' => e = .returned (.bool (p (nthL L k))) ∧ w = w') :
    Calls Tryz.prog 95 #[.slice A L.length c, .func (.func 96) #[] #[]] w fun e w' => e = .returned (.bool (L.any p)) ∧ w = w' := by
  have C := Lib.hid (index_long A c L w h hl p hp)
  go_enter Tryz.func95, Tryz.ntmps95
  go_wp2_with fail
  refine C.out.mono ?_
  rintro e w' ⟨i, rfl, hi, rfl⟩
  have hd : decide (i ≥ 0) = L.any p := hi
  have HD := Lib.hid hd
  clear hi hd
  go_wp2
  go_ret
  exact ⟨ret_bool HD.out, rfl⟩

set_option maxHeartbeats 1000000 in
theorem index_others (A : Option Addr) (c : Nat) (L : List (List Int)) (w : World) (h : Sll w A L) (hl : L.length ≤ 9223372036854775807) (p : List Int → Bool)
    (hp : ∀ A' c' k, k < L.length → Sl w A' (nthL L k) → Calls Tryz.prog 97 #[.slice A' (nthL L k).length c'] w fun e w' => e = .returned (.bool (p (nthL L k))) ∧ w = w') :
    Calls Tryz.prog 109 #[.slice A L.length c, .func (.func 97) #[] #[]] w (Idx (L.any p) w) := by
  have HP := Lib.hid hp; clear hp
  go_enter Tryz.func109, Tryz.ntmps109
  go_wp2
  go_loop [8] (fun i => ∃ k : Nat, k ≤ L.length ∧ i = .int .i64 k ∧ ∀ j, j < k → p (nthL L j) = false) (fun i => L.length - (intOf i).toNat)
  case atStart => exact ⟨0, Nat.zero_le _, rfl, fun j hj => by omega⟩
  case round =>
    obtain ⟨k, hk, rfl, hq⟩ := hrel
    have HQ := Lib.hid hq; clear hq
    by_cases hlt : k < L.length
    · obtain ⟨b, off, rfl, hb, hc⟩ := h (by omega)
      obtain ⟨A', c', hc1, hcc, hs⟩ := hc k hlt
      have C := HP.out A' c' k hlt hs
      have HN := Lib.hid (any_at L p (nthL L) (nthL_eq L) k hlt)
      clear hc hs hcc
      have hk1 : (0 : Int) ≤ (k : Int) := by omega
      have hk2 : (k : Int) < (L.length : Int) := by omega
      obtain ⟨z, hz⟩ : ∃ z, nthL L k = z := ⟨_, rfl⟩
      have HZ := Lib.hid hz
      rw [hz] at hc1 C HN
      clear hz
      cases hpz : p z with
      | false =>
        rw [hpz] at C
        have C := Lib.hid C
        have HT := Lib.hid hpz
        clear hpz
        go_wp2_with fail
        refine C.out.mono ?_
        rintro e w' ⟨rfl, rfl⟩
        go_wp2
        go_round
        case rel => exact ⟨k + 1, by omega, by go_num, fun j hj => by
                by_cases e : j = k
                · subst e; rw [HZ.out]; exact HT.out
                · exact HQ.out j (by omega)⟩
        case measure => simp [intOf]; omega
      | true =>
        rw [hpz] at C
        have C := Lib.hid C
        have HT := Lib.hid (HN.out hpz)
        clear hpz
        go_wp2_with fail
        refine C.out.mono ?_
        rintro e w' ⟨rfl, rfl⟩
        go_wp2
        go_ret
        exact idx_at HT.out
    · obtain rfl : k = L.length := by omega
      have HT := Lib.hid (any_no L p (nthL L) (nthL_eq L) HQ.out)
      go_wp2
      go_ret
      exact idx_no HT.out

theorem contains_others (A : Option Addr) (c : Nat) (L : List (List Int)) (w : World) (h : Sll w A L) (hl : L.length ≤ 9223372036854775807) (p : List Int → Bool) (hp : ∀ A' c' k, k < L.length → Sl w A' (nthL L k) → Calls Tryz.prog 97 #[.slice A' (nthL L k).length c'] w fun e w' => e = .returned (.bool (p (nthL L k))) ∧ w = w') :
    Calls Tryz.prog 95 #[.slice A L.length c, .func (.func 97) #[] #[]] w fun e w' => e = .returned (.bool (L.any p)) ∧ w = w' := by
  have C := Lib.hid (index_others A c L w h hl p hp)
  go_enter Tryz.func95, Tryz.ntmps95
  go_wp2_with fail
  refine C.out.mono ?_
  rintro e w' ⟨i, rfl, hi, rfl⟩
  have hd : decide (i ≥ 0) = L.any p := hi
  have HD := Lib.hid hd
  clear hi hd
  go_wp2
  go_ret
  exact ⟨ret_bool HD.out, rfl⟩

set_option maxHeartbeats 1000000 in
theorem scheck_any (A : Option Addr) (c : Nat) (L : List (List Int)) (w : World) (h : Sll w A L) (hl : L.length ≤ 9223372036854775807) (hs : AllShort L) :
    Calls Tryz.prog 76 #[.slice A L.length c] w fun e w' => e = .returned (.int .i64 (lsE L)) ∧ w = w' := by
  have C1 := contains_long A c L w h hl (fun l => !shortB l) (fun A' c' k hk hS => isLong_any A' _ c' w (hs k hk))
  have C2 := contains_others A c L w h hl (fun l => !wordsB l) (fun A' c' k hk hS => hasOthers_any A' c' (nthL L k) w hS (hs k hk))
  rw [← List.not_all_eq_any_not] at C1 C2
  cases h1 : L.all shortB with
  | false =>
    rw [h1] at C1
    have HE := Lib.hid (show lsE L = 3 by simp [lsE, h1])
    have C1 := Lib.hid C1
    clear C2 h1
    go_enter Tryz.func76, Tryz.ntmps76
    go_wp2_with fail
    refine C1.out.mono ?_
    rintro e w' ⟨rfl, rfl⟩
    go_wp2
    go_ret
    rw [HE.out]
    exact ⟨rfl, rfl⟩
  | true =>
    rw [h1] at C1
    cases h2 : L.all wordsB with
    | false =>
      rw [h2] at C2
      have HE := Lib.hid (show lsE L = 2 by simp only [lsE, h1, h2]; rfl)
      have C1 := Lib.hid C1
      have C2 := Lib.hid C2
      clear h1 h2
      go_enter Tryz.func76, Tryz.ntmps76
      go_wp2_with fail
      refine C1.out.mono ?_
      rintro e w' ⟨rfl, rfl⟩
      go_wp2_with fail
      refine C2.out.mono ?_
      rintro e w' ⟨rfl, rfl⟩
      go_wp2
      go_ret
      rw [HE.out]
      exact ⟨rfl, rfl⟩
    | true =>
      rw [h2] at C2
      have HE := Lib.hid (show lsE L = 0 by simp only [lsE, h1, h2]; rfl)
      have C1 := Lib.hid C1
      have C2 := Lib.hid C2
      clear h1 h2
      go_enter Tryz.func76, Tryz.ntmps76
      go_wp2_with fail
      refine C1.out.mono ?_
      rintro e w' ⟨rfl, rfl⟩
      go_wp2_with fail
      refine C2.out.mono ?_
      rintro e w' ⟨rfl, rfl⟩
      go_wp2
      go_ret
      rw [HE.out]
      exact ⟨rfl, rfl⟩
end Go.Proofs.YtecpanppnljkhaaGreatDoor
