/- Lengths: the mathematics of their check, and its walk. -/
import Derived.Test.YtecpanppnljkhaaGreatDoorEa
namespace Go.Proofs.YtecpanppnljkhaaGreatDoor
set_option linter.unusedVariables false
open Go.RowKit
set_option maxRecDepth 100000
def isNeg (zs : List Int) : Bool := zs.any fun z => decide (z < 0)
/-- None of the first k is below 0. -/
def PosTo (zs : List Int) (k : Nat) : Prop := ∀ j, j < k → 0 ≤ nth zs j
theorem isNeg_of (zs : List Int) (k : Nat) (h : k < zs.length) (hn : nth zs k < 0) : isNeg zs = true := by
  unfold isNeg; rw [List.any_eq_true]; exact ⟨_, nth_mem zs k h, by simpa using hn⟩
theorem isNeg_none (zs : List Int) (h : PosTo zs zs.length) : isNeg zs = false := by
  unfold isNeg; rw [List.any_eq_false]
  intro x hx
  obtain ⟨j, hj, rfl⟩ := List.getElem_of_mem hx
  have := h j hj
  rw [nth_eq zs j hj] at this
  simpa using this
theorem posTo_of (zs : List Int) (h : isNeg zs = false) : PosTo zs zs.length := by
  intro j hj
  unfold isNeg at h; rw [List.any_eq_false] at h
  have := h _ (nth_mem zs j hj)
  simpa using this
theorem PosTo.le {zs : List Int} {k m : Nat} (h : PosTo zs k) (hm : m ≤ k) : PosTo zs m := fun j hj => h j (by omega)
theorem psum_monoP (zs : List Int) (n : Nat) (hn : n ≤ zs.length) (h : PosTo zs n) (a b : Nat) (hab : a ≤ b) (hb : b ≤ n) : psum zs a ≤ psum zs b := by
  induction b with
  | zero => obtain rfl : a = 0 := by omega
            exact Int.le_refl _
  | succ b ih =>
    by_cases e : a = b + 1
    · subst e; exact Int.le_refl _
    · have := ih (by omega) (by omega)
      rw [psum_succ zs b (by omega)]
      have := h b (by omega)
      omega
theorem psum_nonneg (zs : List Int) (k : Nat) (hk : k ≤ zs.length) (h : PosTo zs k) : 0 ≤ psum zs k := by
  have := psum_monoP zs k hk h 0 k (by omega) (by omega)
  rwa [psum_zero] at this

/-- The error and the sum of numbers (VecMost is 2^20). -/
def sumE (zs : List Int) : Int := if isNeg zs then 2 else if 1048576 < zs.sum then 9 else 0
def sumN (zs : List Int) : Int := if isNeg zs then 0 else if 1048576 < zs.sum then 0 else zs.sum
theorem sumE_neg {zs : List Int} (h : isNeg zs = true) : sumE zs = 2 ∧ sumN zs = 0 := by simp [sumE, sumN, h]
theorem sumE_full {zs : List Int} (h : isNeg zs = false) (hs : 1048576 < zs.sum) : sumE zs = 9 ∧ sumN zs = 0 := by simp [sumE, sumN, h, hs]
theorem sumE_ok {zs : List Int} (h : isNeg zs = false) (hs : zs.sum ≤ 1048576) : sumE zs = 0 ∧ sumN zs = zs.sum := by
  have : ¬ 1048576 < zs.sum := by omega
  simp [sumE, sumN, h, this]

def ckE (zs : List Int) : Int := if 1048576 < zs.length then 3 else sumE zs
def ckN (zs : List Int) : Int := if 1048576 < zs.length then 0 else sumN zs
theorem ck_long {zs : List Int} (h : 1048576 < zs.length) : ckE zs = 3 ∧ ckN zs = 0 := by simp [ckE, ckN, h]
theorem ck_short {zs : List Int} (h : zs.length ≤ 1048576) : ckE zs = sumE zs ∧ ckN zs = sumN zs := by
  have : ¬ 1048576 < zs.length := by omega
  simp [ckE, ckN, this]
/-- What a check that passes says. -/
theorem ck_ok {zs : List Int} (h : ckE zs = 0) : zs.length ≤ 1048576 ∧ isNeg zs = false ∧ zs.sum ≤ 1048576 ∧ 0 ≤ zs.sum ∧ ckN zs = zs.sum := by
  unfold ckE at h
  split at h
  · simp at h
  · rename_i hl
    unfold sumE at h
    split at h
    · simp at h
    · rename_i hn
      split at h
      · simp at h
      · rename_i hs
        have hn' : isNeg zs = false := by simpa using hn
        have hp := posTo_of zs hn'
        have h0 := psum_nonneg zs zs.length (Nat.le_refl _) hp
        rw [psum_all] at h0
        refine ⟨by omega, hn', by omega, h0, ?_⟩
        rw [(ck_short (by omega)).2, (sumE_ok hn' (by omega)).2]
theorem ck_err {zs : List Int} (h : ckE zs ≠ 0) : ckN zs = 0 := by
  unfold ckN; unfold ckE at h
  split
  · rfl
  · rename_i hl
    rw [if_neg hl] at h
    unfold sumE at h; unfold sumN
    split
    · rfl
    · rename_i hn
      rw [if_neg hn] at h
      split
      · rfl
      · rename_i hs
        rw [if_neg hs] at h
        exact absurd rfl h
theorem ckE_cases (zs : List Int) : ckE zs = 0 ∨ ckE zs = 2 ∨ ckE zs = 3 ∨ ckE zs = 9 := by
  unfold ckE sumE; split
  · simp
  · split
    · simp
    · split <;> simp
def SumRel (zs : List Int) (t f i : Value) : Prop := ∃ (k : Nat) (T : Int) (b : Bool), k ≤ zs.length ∧ i = .int .i64 k ∧ t = .int .i64 T ∧ f = .bool b ∧ PosTo zs k ∧ 0 ≤ T ∧ T ≤ 1048576 ∧ T ≤ psum zs k ∧ (b = true → 1048576 < psum zs k) ∧ (b = false → T = psum zs k)

set_option maxHeartbeats 1000000 in
theorem sgsum_any (A : Option Addr) (c : Nat) (zs : List Int) (w : World) (h : Sl w A zs) (hl : zs.length ≤ 9223372036854775807) :
    Calls Tryz.prog 93 #[.slice A zs.length c] w fun e w' => e = .returned (.tuple #[.int .i64 (sumN zs), .int .i64 (sumE zs)]) ∧ w = w' := by
  go_enter Tryz.func93, Tryz.ntmps93
  go_wp2
  go_loop [4, 5, 10] (fun t f i => SumRel zs t f i) (fun _ _ i => zs.length - (intOf i).toNat)
  case atStart => exact ⟨0, 0, false, Nat.zero_le _, rfl, rfl, rfl, fun j hj => by omega, by omega, by omega, by simp [psum_zero], by simp, by simp [psum_zero]⟩
  case round =>
    obtain ⟨k, T, b, hk, rfl, rfl, rfl, hp, hT0, hT1, hT2, hb1, hb2⟩ := hrel
    by_cases hlt : k < zs.length
    · obtain ⟨bl, off, rfl, hbl, hc⟩ := h.at_ hlt
      have hs := Lib.hid (psum_succ zs k hlt)
      have hp0 := psum_nonneg zs k hk hp
      by_cases hn : nth zs k < 0
      · have hz := isNeg_of zs k hlt hn
        have HE := Lib.hid (sumE_neg hz)
        clear hz hb1 hb2
        go_wp2
        go_ret2
        rw [HE.out.1, HE.out.2]
        exact ⟨rfl, rfl⟩
      · have hn' : 0 ≤ nth zs k := by omega
        cases b with
        | true =>
          have hb := hb1 rfl
          clear hb1 hb2
          go_wp2
          go_round
          case rel => exact ⟨k + 1, T, true, by omega, by go_num, rfl, rfl, fun j hj => by
            by_cases e : j = k
            · subst e; exact hn'
            · exact hp j (by omega), hT0, hT1, by rw [hs.out]; omega, fun _ => by rw [hs.out]; omega, by simp⟩
          case measure => simp [intOf]; omega
        | false =>
          have hb := Lib.hid (hb2 rfl)
          clear hb1 hb2
          by_cases hf : 1048576 - T < nth zs k
          · have hd : decide (1048576 - T < nth zs k) = true := by simpa using hf
            go_wp2
            go_round
            case rel => exact ⟨k + 1, T, true, by omega, by go_num, rfl, rfl, fun j hj => by
                  by_cases e : j = k
                  · subst e; exact hn'
                  · exact hp j (by omega), hT0, hT1, by rw [hs.out]; omega, fun _ => by rw [hs.out]; have := hb.out; omega, by simp⟩
            case measure => simp [intOf]; omega
          · have hd : decide (1048576 - T < nth zs k) = false := by simpa using hf
            go_wp2
            go_round
            case rel => exact ⟨k + 1, T + nth zs k, false, by omega, by go_num, by go_num, rfl, fun j hj => by
                  by_cases e : j = k
                  · subst e; exact hn'
                  · exact hp j (by omega), by omega, by omega, by rw [hs.out]; omega, by simp, fun _ => by rw [hs.out, ← hb.out]⟩
            case measure => simp [intOf]; omega
    · obtain rfl : k = zs.length := by omega
      have hn := isNeg_none zs hp
      cases b with
      | true =>
        have hb := hb1 rfl
        rw [psum_all] at hb
        have HE := Lib.hid (sumE_full hn hb)
        clear hb1 hb2 hn hb
        go_wp2
        go_ret2
        rw [HE.out.1, HE.out.2]
        exact ⟨rfl, rfl⟩
      | false =>
        have hb := hb2 rfl
        rw [psum_all] at hb
        have HE := Lib.hid (sumE_ok hn (by omega))
        have Hb := Lib.hid hb
        clear hb1 hb2 hn hb hT2
        go_wp2
        go_ret2
        rw [HE.out.1, HE.out.2, Hb.out]
        exact ⟨rfl, rfl⟩
set_option maxHeartbeats 1000000 in
theorem fit1_any (g : Nat) (A : Option Addr) (n c : Nat) (w : World) (hn : n ≤ 9223372036854775807) (hc : w.cell? ⟨g, 0, none⟩ = some (.slice A n c)) :
    Calls Tryz.prog 92 #[.slice (some ⟨g, 0, none⟩) 1 1] w fun e w' => e = .returned (.int .i64 (if 1048576 < n then 3 else 0)) ∧ w = w' := by
  by_cases hb : 1048576 < n
  · rw [if_pos hb]
    have hd : decide ((1048576 : Int) < (n : Int)) = true := by simp; omega
    go_enter Tryz.func92, Tryz.ntmps92
    go_wp2
    go_loop [9] (fun i => i = .int .i64 0) (fun _ => 0)
    case atStart => exact rfl
    case round =>
      obtain rfl := hrel
      go_wp2
      go_ret
      exact ⟨rfl, rfl⟩
  · rw [if_neg hb]
    have hd : decide ((1048576 : Int) < (n : Int)) = false := by simp; omega
    have hd' : ((n : Int) != (n : Int)) = false := by simp
    go_enter Tryz.func92, Tryz.ntmps92
    go_wp2
    go_loop [9] (fun i => i = .int .i64 0 ∨ i = .int .i64 1) (fun i => 1 - (intOf i).toNat)
    case atStart => exact .inl rfl
    case round =>
      rcases hrel with rfl | rfl
      · go_wp2
        go_round
        case rel => exact .inr rfl
        case measure => simp [intOf]
      · go_wp2
        go_loop [19] (fun i => i = .int .i64 0 ∨ i = .int .i64 1) (fun i => 1 - (intOf i).toNat)
        case atStart => exact .inl rfl
        case round =>
          rcases hrel with rfl | rfl
          · go_wp2
            go_round
            case rel => exact .inr rfl
            case measure => simp [intOf]
          · go_wp2
            go_ret
            exact ⟨rfl, rfl⟩

set_option maxHeartbeats 1000000 in
theorem sgcheck_any (A : Option Addr) (c : Nat) (zs : List Int) (w : World) (h : Sl w A zs) (hl : zs.length ≤ 9223372036854775807) :
    Calls Tryz.prog 69 #[.slice A zs.length c] w (RetV w (.tuple #[.int .i64 (ckN zs), .int .i64 (ckE zs)])) := by
  have hs : Sl (w.alloc (.cells #[.slice A zs.length c] 22)) A zs := h.step ((Below.refl _ _).alloc (Nat.le_refl _) _)
  have C1 := Lib.hid (fun c1 => fit1_any w.heap.size A zs.length c (w.alloc (.cells #[.slice A zs.length c] 22)) hl c1)
  by_cases hb : 1048576 < zs.length
  · have HE := Lib.hid (ck_long hb)
    rw [if_pos hb] at C1
    go_enter Tryz.func69, Tryz.ntmps69
    go_wp2_with (go_at_call 92; refine (C1.out (cell1 _ _ _)).mono ?_; rintro e w' ⟨rfl, rfl⟩)
    go_ret2
    rw [HE.out.1, HE.out.2]
    exact ⟨rfl, (Below.refl _ _).alloc (Nat.le_refl _) _⟩
  · have HE := Lib.hid (ck_short (show zs.length ≤ 1048576 by omega))
    rw [if_neg hb] at C1
    go_enter Tryz.func69, Tryz.ntmps69
    go_wp2_with (first | (go_at_call 92; refine (C1.out (cell1 _ _ _)).mono ?_; rintro e w' ⟨rfl, rfl⟩) | (go_at_call 93; refine (sgsum_any A c zs _ hs hl).mono ?_; rintro e w' ⟨rfl, rfl⟩))
    go_ret2
    rw [HE.out.1, HE.out.2]
    exact ⟨rfl, (Below.refl _ _).alloc (Nat.le_refl _) _⟩

theorem ck_fine {lens : List Int} (h : ckE lens = 0) : posB lens = true ∧ lens.length ≤ 1048576 ∧ ckN lens = lens.sum := by
  obtain ⟨h1, h2, h3, h4, h5⟩ := ck_ok h
  refine ⟨?_, h1, h5⟩
  have hp := posTo_of lens h2
  unfold posB
  rw [List.all_eq_true]
  intro x hx
  obtain ⟨j, hj, rfl⟩ := List.getElem_of_mem hx
  have := hp j hj
  rw [nth_eq lens j hj] at this
  simpa using this
end Go.Proofs.YtecpanppnljkhaaGreatDoor
