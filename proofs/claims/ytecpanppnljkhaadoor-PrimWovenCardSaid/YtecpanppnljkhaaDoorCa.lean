/- Walks of prim: all, at both its types. -/
import Derived.Test.YtecpanppnljkhaaDoorWe
import Derived.Test.YtecpanppnljkhaaDoorBa
namespace Go.Proofs.YtecpanppnljkhaaDoor
set_option linter.unusedVariables false
open Go.RowKit

/-- 'Returned this value', and only draws were made. -/
def Drew (w : World) (v : Value) (e : Ending) (w' : World) : Prop := e = .returned v ∧ ∃ m, w' = w.drewN m
theorem Drew.of {w : World} {u v : Value} (h : u = v) (m : Nat) : Drew w v (.returned u) (w.drewN m) := ⟨by rw [h], m, rfl⟩
/-- The slice value at A holds lists, in blocks that are there. -/
def Sll (w : World) (A : Option Addr) (L : List (List Int)) : Prop :=
  0 < L.length → ∃ b off, A = some ⟨b, off, none⟩ ∧ b < w.heap.size ∧ ∀ j, j < L.length → ∃ A' c', w.cell? ⟨b, off + j, none⟩ = some (.slice A' (nthL L j).length c') ∧ (nthL L j).length ≤ c' ∧ Sl w A' (nthL L j)

set_option maxHeartbeats 1000000 in
theorem all_words (p : Int → Bool) (A : Option Addr) (c : Nat) (zs : List Int) (w : World) (h : Sl w A zs) (hl : zs.length ≤ 9223372036854775807)
    (hp : ∀ n, Calls Tryd.prog 104 #[.int .i64 n] w fun e w' => e = .returned (.bool (p n)) ∧ w = w') :
    Calls Tryd.prog 111 #[.func (.func 104) #[] #[], .slice A zs.length c] w fun e w' => e = .returned (.bool (zs.all p)) ∧ w = w' := by
  have HP := Lib.hid hp; clear hp
  go_enter Tryd.func111, Tryd.ntmps111
  go_wp2
  go_loop [9] (fun i => ∃ k : Nat, k ≤ zs.length ∧ i = .int .i64 k ∧ ∀ j, j < k → p (nth zs j) = true) (fun i => zs.length - (intOf i).toNat)
  case atStart => exact ⟨0, Nat.zero_le _, rfl, fun j hj => by omega⟩
  case round =>
    obtain ⟨k, hk, rfl, hq⟩ := hrel
    have HQ := Lib.hid hq; clear hq
    by_cases hlt : k < zs.length
    · obtain ⟨b, off, rfl, hb, hc⟩ := h.at_ hlt
      have C := HP.out (nth zs k)
      have HN := Lib.hid (all_not zs p (nth zs) (nth_eq zs) k hlt)
      have hk1 : (0 : Int) ≤ (k : Int) := by omega
      have hk2 : (k : Int) < (zs.length : Int) := by omega
      obtain ⟨z, hz⟩ : ∃ z, nth zs k = z := ⟨_, rfl⟩
      have HZ := Lib.hid hz
      rw [hz] at hc C HN
      clear hz
      cases hpz : p z with
      | true =>
        rw [hpz] at C
        have C := Lib.hid C
        have HT := Lib.hid hpz
        clear hpz
        go_wp2_with fail
        refine C.out.mono ?_
        rintro e w' ⟨rfl, rfl⟩
        go_wp2
        go_round
        case rel => exact ⟨k + 1, by omega, by go_num, fun j hj => by
                by_cases e : j = k
                · subst e; rw [HZ.out]; exact HT.out
                · exact HQ.out j (by omega)⟩
        case measure => simp [intOf]; omega
      | false =>
        rw [hpz] at C
        have C := Lib.hid C
        have HT := Lib.hid (HN.out hpz)
        clear hpz
        go_wp2_with fail
        refine C.out.mono ?_
        rintro e w' ⟨rfl, rfl⟩
        go_wp2
        go_ret
        exact ⟨ret_bool HT.out.symm, rfl⟩
    · obtain rfl : k = zs.length := by omega
      have HT := Lib.hid (all_of zs p (nth zs) (nth_eq zs) HQ.out)
      go_wp2
      go_ret
      exact ⟨ret_bool HT.out.symm, rfl⟩
set_option maxHeartbeats 1000000 in
theorem all_times (p : Int → Bool) (A : Option Addr) (c : Nat) (zs : List Int) (w : World) (h : Sl w A zs) (hl : zs.length ≤ 9223372036854775807)
    (hp : ∀ n, Calls Tryd.prog 112 #[.int .i64 n] w fun e w' => e = .returned (.bool (p n)) ∧ w = w') :
    Calls Tryd.prog 111 #[.func (.func 112) #[] #[], .slice A zs.length c] w fun e w' => e = .returned (.bool (zs.all p)) ∧ w = w' := by
  have HP := Lib.hid hp; clear hp
  go_enter Tryd.func111, Tryd.ntmps111
  go_wp2
  go_loop [9] (fun i => ∃ k : Nat, k ≤ zs.length ∧ i = .int .i64 k ∧ ∀ j, j < k → p (nth zs j) = true) (fun i => zs.length - (intOf i).toNat)
  case atStart => exact ⟨0, Nat.zero_le _, rfl, fun j hj => by omega⟩
  case round =>
    obtain ⟨k, hk, rfl, hq⟩ := hrel
    have HQ := Lib.hid hq; clear hq
    by_cases hlt : k < zs.length
    · obtain ⟨b, off, rfl, hb, hc⟩ := h.at_ hlt
      have C := HP.out (nth zs k)
      have HN := Lib.hid (all_not zs p (nth zs) (nth_eq zs) k hlt)
      have hk1 : (0 : Int) ≤ (k : Int) := by omega
      have hk2 : (k : Int) < (zs.length : Int) := by omega
      obtain ⟨z, hz⟩ : ∃ z, nth zs k = z := ⟨_, rfl⟩
      have HZ := Lib.hid hz
      rw [hz] at hc C HN
      clear hz
      cases hpz : p z with
      | true =>
        rw [hpz] at C
        have C := Lib.hid C
        have HT := Lib.hid hpz
        clear hpz
        go_wp2_with fail
        refine C.out.mono ?_
        rintro e w' ⟨rfl, rfl⟩
        go_wp2
        go_round
        case rel => exact ⟨k + 1, by omega, by go_num, fun j hj => by
                by_cases e : j = k
                · subst e; rw [HZ.out]; exact HT.out
                · exact HQ.out j (by omega)⟩
        case measure => simp [intOf]; omega
      | false =>
        rw [hpz] at C
        have C := Lib.hid C
        have HT := Lib.hid (HN.out hpz)
        clear hpz
        go_wp2_with fail
        refine C.out.mono ?_
        rintro e w' ⟨rfl, rfl⟩
        go_wp2
        go_ret
        exact ⟨ret_bool HT.out.symm, rfl⟩
    · obtain rfl : k = zs.length := by omega
      have HT := Lib.hid (all_of zs p (nth zs) (nth_eq zs) HQ.out)
      go_wp2
      go_ret
      exact ⟨ret_bool HT.out.symm, rfl⟩
theorem isShort_any (A : Option Addr) (n c : Nat) (w : World) (hn : n ≤ 9223372036854775807) : Calls Tryd.prog 107 #[.slice A n c] w fun e w' => e = .returned (.bool (decide (n ≤ 1048576))) ∧ w = w' := by
  go_enter Tryd.func107, Tryd.ntmps107
  go_wp2
  go_ret
  exact ⟨ret_bool (by first | rfl | (rw [Bool.eq_iff_iff]; simp; done) | (rw [Bool.eq_iff_iff]; simp; omega)), rfl⟩
theorem isTimes_any (n : Int) (w : World) : Calls Tryd.prog 112 #[.int .i64 n] w fun e w' => e = .returned (.bool (decide (0 ≤ n))) ∧ w = w' := by
  go_enter Tryd.func112, Tryd.ntmps112
  go_wp2
  go_ret
  exact ⟨ret_bool (by first | rfl | (rw [Bool.eq_iff_iff]; simp; done) | (rw [Bool.eq_iff_iff]; simp; omega)), rfl⟩
theorem isPlace_any (n : Int) (A : Option Addr) (m c : Nat) (w : World) (hm : m ≤ 9223372036854775807) : Calls Tryd.prog 36 #[.int .i64 n, .slice A m c] w fun e w' => e = .returned (.bool (plB n m)) ∧ w = w' := by
  go_enter Tryd.func36, Tryd.ntmps36
  go_wp2
  all_goals (go_ret; refine ⟨ret_bool ?_, rfl⟩; unfold plB; rw [Bool.eq_iff_iff]; simp; try omega)
theorem hasWords_any (A : Option Addr) (c : Nat) (zs : List Int) (w : World) (h : Sl w A zs) (hl : zs.length ≤ 9223372036854775807) : Calls Tryd.prog 108 #[.slice A zs.length c] w fun e w' => e = .returned (.bool (wordsB zs)) ∧ w = w' := by
  have C := Lib.hid (all_words isWb A c zs w h hl (fun n => is_any n w))
  go_enter Tryd.func108, Tryd.ntmps108
  go_wp2_with (go_at_call 111; refine C.out.mono ?_; rintro e w' ⟨rfl, rfl⟩)
  go_ret
  exact ⟨rfl, rfl⟩
set_option maxHeartbeats 1000000 in
theorem all_short (p : List Int → Bool) (A : Option Addr) (c : Nat) (L : List (List Int)) (w : World) (h : Sll w A L) (hl : L.length ≤ 9223372036854775807)
    (hp : ∀ m A' c' k, k < L.length → Sl w A' (nthL L k) → Calls Tryd.prog 107 #[.slice A' (nthL L k).length c'] (w.drewN m) (Drew (w.drewN m) (.bool (p (nthL L k))))) :
    Calls Tryd.prog 76 #[.func (.func 107) #[] #[], .slice A L.length c] w (Drew w (.bool (L.all p))) := by
  have HP := Lib.hid hp; clear hp
  go_enter Tryd.func76, Tryd.ntmps76
  go_wp2
  go_loopw [9] (fun i wr => ∃ (k m : Nat), k ≤ L.length ∧ i = .int .i64 k ∧ wr = w.drewN m ∧ ∀ j, j < k → p (nthL L j) = true) (fun i _ => L.length - (intOf i).toNat)
  case atStart => exact ⟨0, 0, Nat.zero_le _, rfl, rfl, fun j hj => by omega⟩
  case round =>
    obtain ⟨k, m, hk, rfl, rfl, hq⟩ := hrel
    have HQ := Lib.hid hq; clear hq
    by_cases hlt : k < L.length
    · obtain ⟨b, off, rfl, hb, hc⟩ := h (by omega)
      obtain ⟨A', c', hc1, hcc, hs⟩ := hc k hlt
      have C := HP.out m A' c' k hlt hs
      have HN := Lib.hid (all_not L p (nthL L) (nthL_eq L) k hlt)
      clear hc hs hcc
      have hk1 : (0 : Int) ≤ (k : Int) := by omega
      have hk2 : (k : Int) < (L.length : Int) := by omega
      obtain ⟨z, hz⟩ : ∃ z, nthL L k = z := ⟨_, rfl⟩
      have HZ := Lib.hid hz
      rw [hz] at hc1 C HN
      clear hz
      cases hpz : p z with
      | true =>
        rw [hpz] at C
        have C := Lib.hid C
        have HT := Lib.hid hpz
        clear hpz
        go_wp2_with fail
        refine C.out.mono ?_
        rintro e w' ⟨rfl, m', rfl⟩
        go_wp2
        go_roundw
        case rel => exact ⟨k + 1, _, by omega, by go_num, by first | rfl | exact (World.drewN_drewN _ _ _).symm | (simp [World.drewN_add]; done), fun j hj => by
                by_cases e : j = k
                · subst e; rw [HZ.out]; exact HT.out
                · exact HQ.out j (by omega)⟩
        case measure => simp [intOf]; omega
      | false =>
        rw [hpz] at C
        have C := Lib.hid C
        have HT := Lib.hid (HN.out hpz)
        clear hpz
        go_wp2_with fail
        refine C.out.mono ?_
        rintro e w' ⟨rfl, m', rfl⟩
        go_wp2
        go_ret
        exact ⟨ret_bool HT.out.symm, _, by first | rfl | exact (World.drewN_drewN _ _ _).symm | (simp [World.drewN_add]; done)⟩
    · obtain rfl : k = L.length := by omega
      have HT := Lib.hid (all_of L p (nthL L) (nthL_eq L) HQ.out)
      go_wp2
      go_ret
      exact ⟨ret_bool HT.out.symm, m, rfl⟩
set_option maxHeartbeats 1000000 in
theorem all_haveWords (p : List Int → Bool) (A : Option Addr) (c : Nat) (L : List (List Int)) (w : World) (h : Sll w A L) (hl : L.length ≤ 9223372036854775807)
    (hp : ∀ m A' c' k, k < L.length → Sl w A' (nthL L k) → Calls Tryd.prog 108 #[.slice A' (nthL L k).length c'] (w.drewN m) (Drew (w.drewN m) (.bool (p (nthL L k))))) :
    Calls Tryd.prog 76 #[.func (.func 108) #[] #[], .slice A L.length c] w (Drew w (.bool (L.all p))) := by
  have HP := Lib.hid hp; clear hp
  go_enter Tryd.func76, Tryd.ntmps76
  go_wp2
  go_loopw [9] (fun i wr => ∃ (k m : Nat), k ≤ L.length ∧ i = .int .i64 k ∧ wr = w.drewN m ∧ ∀ j, j < k → p (nthL L j) = true) (fun i _ => L.length - (intOf i).toNat)
  case atStart => exact ⟨0, 0, Nat.zero_le _, rfl, rfl, fun j hj => by omega⟩
  case round =>
    obtain ⟨k, m, hk, rfl, rfl, hq⟩ := hrel
    have HQ := Lib.hid hq; clear hq
    by_cases hlt : k < L.length
    · obtain ⟨b, off, rfl, hb, hc⟩ := h (by omega)
      obtain ⟨A', c', hc1, hcc, hs⟩ := hc k hlt
      have C := HP.out m A' c' k hlt hs
      have HN := Lib.hid (all_not L p (nthL L) (nthL_eq L) k hlt)
      clear hc hs hcc
      have hk1 : (0 : Int) ≤ (k : Int) := by omega
      have hk2 : (k : Int) < (L.length : Int) := by omega
      obtain ⟨z, hz⟩ : ∃ z, nthL L k = z := ⟨_, rfl⟩
      have HZ := Lib.hid hz
      rw [hz] at hc1 C HN
      clear hz
      cases hpz : p z with
      | true =>
        rw [hpz] at C
        have C := Lib.hid C
        have HT := Lib.hid hpz
        clear hpz
        go_wp2_with fail
        refine C.out.mono ?_
        rintro e w' ⟨rfl, m', rfl⟩
        go_wp2
        go_roundw
        case rel => exact ⟨k + 1, _, by omega, by go_num, by first | rfl | exact (World.drewN_drewN _ _ _).symm | (simp [World.drewN_add]; done), fun j hj => by
                by_cases e : j = k
                · subst e; rw [HZ.out]; exact HT.out
                · exact HQ.out j (by omega)⟩
        case measure => simp [intOf]; omega
      | false =>
        rw [hpz] at C
        have C := Lib.hid C
        have HT := Lib.hid (HN.out hpz)
        clear hpz
        go_wp2_with fail
        refine C.out.mono ?_
        rintro e w' ⟨rfl, m', rfl⟩
        go_wp2
        go_ret
        exact ⟨ret_bool HT.out.symm, _, by first | rfl | exact (World.drewN_drewN _ _ _).symm | (simp [World.drewN_add]; done)⟩
    · obtain rfl : k = L.length := by omega
      have HT := Lib.hid (all_of L p (nthL L) (nthL_eq L) HQ.out)
      go_wp2
      go_ret
      exact ⟨ret_bool HT.out.symm, m, rfl⟩
set_option maxHeartbeats 1000000 in
theorem all_even (G : Addr) (p : List Int → Bool) (A : Option Addr) (c : Nat) (L : List (List Int)) (w : World) (h : Sll w A L) (hl : L.length ≤ 9223372036854775807)
    (hp : ∀ m A' c' k, k < L.length → Sl w A' (nthL L k) → Calls Tryd.prog 75 #[.slice A' (nthL L k).length c', .pointer (some G)] (w.drewN m) (Drew (w.drewN m) (.bool (p (nthL L k))))) :
    Calls Tryd.prog 76 #[.func (.func 75) #[] #[.pointer (some G)], .slice A L.length c] w (Drew w (.bool (L.all p))) := by
  have HP := Lib.hid hp; clear hp
  go_enter Tryd.func76, Tryd.ntmps76
  go_wp2
  go_loopw [9] (fun i wr => ∃ (k m : Nat), k ≤ L.length ∧ i = .int .i64 k ∧ wr = w.drewN m ∧ ∀ j, j < k → p (nthL L j) = true) (fun i _ => L.length - (intOf i).toNat)
  case atStart => exact ⟨0, 0, Nat.zero_le _, rfl, rfl, fun j hj => by omega⟩
  case round =>
    obtain ⟨k, m, hk, rfl, rfl, hq⟩ := hrel
    have HQ := Lib.hid hq; clear hq
    by_cases hlt : k < L.length
    · obtain ⟨b, off, rfl, hb, hc⟩ := h (by omega)
      obtain ⟨A', c', hc1, hcc, hs⟩ := hc k hlt
      have C := HP.out m A' c' k hlt hs
      have HN := Lib.hid (all_not L p (nthL L) (nthL_eq L) k hlt)
      clear hc hs hcc
      have hk1 : (0 : Int) ≤ (k : Int) := by omega
      have hk2 : (k : Int) < (L.length : Int) := by omega
      obtain ⟨z, hz⟩ : ∃ z, nthL L k = z := ⟨_, rfl⟩
      have HZ := Lib.hid hz
      rw [hz] at hc1 C HN
      clear hz
      cases hpz : p z with
      | true =>
        rw [hpz] at C
        have C := Lib.hid C
        have HT := Lib.hid hpz
        clear hpz
        go_wp2_with fail
        refine C.out.mono ?_
        rintro e w' ⟨rfl, m', rfl⟩
        go_wp2
        go_roundw
        case rel => exact ⟨k + 1, _, by omega, by go_num, by first | rfl | exact (World.drewN_drewN _ _ _).symm | (simp [World.drewN_add]; done), fun j hj => by
                by_cases e : j = k
                · subst e; rw [HZ.out]; exact HT.out
                · exact HQ.out j (by omega)⟩
        case measure => simp [intOf]; omega
      | false =>
        rw [hpz] at C
        have C := Lib.hid C
        have HT := Lib.hid (HN.out hpz)
        clear hpz
        go_wp2_with fail
        refine C.out.mono ?_
        rintro e w' ⟨rfl, m', rfl⟩
        go_wp2
        go_ret
        exact ⟨ret_bool HT.out.symm, _, by first | rfl | exact (World.drewN_drewN _ _ _).symm | (simp [World.drewN_add]; done)⟩
    · obtain rfl : k = L.length := by omega
      have HT := Lib.hid (all_of L p (nthL L) (nthL_eq L) HQ.out)
      go_wp2
      go_ret
      exact ⟨ret_bool HT.out.symm, m, rfl⟩
end Go.Proofs.YtecpanppnljkhaaDoor
