/- Walks and mathematics of rank, part 17. -/
import Derived.Test.YtgicfgpemcagcaaG09
import Derived.Test.YtgicfgpemcagcaaG14
import Derived.Test.YtgicfgpemcagcaaG11
import Derived.Test.YtgicfgpemcagcaaG16
import Derived.WalkMore
/- Lengths: the mathematics of their check, and its walk. -/
namespace Go.Proofs.Ytgicfgpemcagcaa
set_option linter.unusedVariables false
open Go.RowKit
set_option maxRecDepth 100000
def isNeg (zs : List Int) : Bool := zs.any fun z => decide (z < 0)
/-- None of the first k is below 0. -/
def PosTo (zs : List Int) (k : Nat) : Prop := ∀ j, j < k → 0 ≤ nth zs j
theorem isNeg_of (zs : List Int) (k : Nat) (h : k < zs.length) (hn : nth zs k < 0) : isNeg zs = true := by
  unfold isNeg; rw [List.any_eq_true]; exact ⟨_, nth_mem zs k h, by simpa using hn⟩
theorem isNeg_none (zs : List Int) (h : PosTo zs zs.length) : isNeg zs = false := by
  unfold isNeg; rw [List.any_eq_false]
  intro x hx
  obtain ⟨j, hj, rfl⟩ := List.getElem_of_mem hx
  have := h j hj
  rw [nth_eq zs j hj] at this
  simpa using this
theorem posTo_of (zs : List Int) (h : isNeg zs = false) : PosTo zs zs.length := by
  intro j hj
  unfold isNeg at h; rw [List.any_eq_false] at h
  have := h _ (nth_mem zs j hj)
  simpa using this
theorem PosTo.le {zs : List Int} {k m : Nat} (h : PosTo zs k) (hm : m ≤ k) : PosTo zs m := fun j hj => h j (by omega)
theorem psum_monoP (zs : List Int) (n : Nat) (hn : n ≤ zs.length) (h : PosTo zs n) (a b : Nat) (hab : a ≤ b) (hb : b ≤ n) : psum zs a ≤ psum zs b := by
  induction b with
  | zero => obtain rfl : a = 0 := by omega
            exact Int.le_refl _
  | succ b ih =>
    by_cases e : a = b + 1
    · subst e; exact Int.le_refl _
    · have := ih (by omega) (by omega)
      rw [psum_succ zs b (by omega)]
      have := h b (by omega)
      omega
theorem psum_nonneg (zs : List Int) (k : Nat) (hk : k ≤ zs.length) (h : PosTo zs k) : 0 ≤ psum zs k := by
  have := psum_monoP zs k hk h 0 k (by omega) (by omega)
  rwa [psum_zero] at this

/-- The error and the sum of numbers (VecMost is 2^20). -/
def sumE (zs : List Int) : Int := if isNeg zs then 2 else if 1048576 < zs.sum then 9 else 0
def sumN (zs : List Int) : Int := if isNeg zs then 0 else if 1048576 < zs.sum then 0 else zs.sum
theorem sumE_neg {zs : List Int} (h : isNeg zs = true) : sumE zs = 2 ∧ sumN zs = 0 := by simp [sumE, sumN, h]
theorem sumE_full {zs : List Int} (h : isNeg zs = false) (hs : 1048576 < zs.sum) : sumE zs = 9 ∧ sumN zs = 0 := by simp [sumE, sumN, h, hs]
theorem sumE_ok {zs : List Int} (h : isNeg zs = false) (hs : zs.sum ≤ 1048576) : sumE zs = 0 ∧ sumN zs = zs.sum := by
  have : ¬ 1048576 < zs.sum := by omega
  simp [sumE, sumN, h, this]

def ckE (zs : List Int) : Int := if 1048576 < zs.length then 3 else sumE zs
def ckN (zs : List Int) : Int := if 1048576 < zs.length then 0 else sumN zs
theorem ck_long {zs : List Int} (h : 1048576 < zs.length) : ckE zs = 3 ∧ ckN zs = 0 := by simp [ckE, ckN, h]
theorem ck_short {zs : List Int} (h : zs.length ≤ 1048576) : ckE zs = sumE zs ∧ ckN zs = sumN zs := by
  have : ¬ 1048576 < zs.length := by omega
  simp [ckE, ckN, this]
/-- What a check that passes says. -/
theorem ck_ok {zs : List Int} (h : ckE zs = 0) : zs.length ≤ 1048576 ∧ isNeg zs = false ∧ zs.sum ≤ 1048576 ∧ 0 ≤ zs.sum ∧ ckN zs = zs.sum := by
  unfold ckE at h
  split at h
  · simp at h
  · rename_i hl
    unfold sumE at h
    split at h
    · simp at h
    · rename_i hn
      split at h
      · simp at h
      · rename_i hs
        have hn' : isNeg zs = false := by simpa using hn
        have hp := posTo_of zs hn'
        have h0 := psum_nonneg zs zs.length (Nat.le_refl _) hp
        rw [psum_all] at h0
        refine ⟨by omega, hn', by omega, h0, ?_⟩
        rw [(ck_short (by omega)).2, (sumE_ok hn' (by omega)).2]
theorem ck_err {zs : List Int} (h : ckE zs ≠ 0) : ckN zs = 0 := by
  unfold ckN; unfold ckE at h
  split
  · rfl
  · rename_i hl
    rw [if_neg hl] at h
    unfold sumE at h; unfold sumN
    split
    · rfl
    · rename_i hn
      rw [if_neg hn] at h
      split
      · rfl
      · rename_i hs
        rw [if_neg hs] at h
        exact absurd rfl h
theorem ckE_cases (zs : List Int) : ckE zs = 0 ∨ ckE zs = 2 ∨ ckE zs = 3 ∨ ckE zs = 9 := by
  unfold ckE sumE; split
  · simp
  · split
    · simp
    · split <;> simp
def SumRel (zs : List Int) (t f i : Value) : Prop := ∃ (k : Nat) (T : Int) (b : Bool), k ≤ zs.length ∧ i = .int .i64 k ∧ t = .int .i64 T ∧ f = .bool b ∧ PosTo zs k ∧ 0 ≤ T ∧ T ≤ 1048576 ∧ T ≤ psum zs k ∧ (b = true → 1048576 < psum zs k) ∧ (b = false → T = psum zs k)

set_option maxHeartbeats 1000000 in
theorem sgsum_any (A : Option Addr) (c : Nat) (zs : List Int) (w : World) (h : Sl w A zs) (hl : zs.length ≤ 9223372036854775807) :
    Calls Try.prog 81 #[.slice A zs.length c] w fun e w' => e = .returned (.tuple #[.int .i64 (sumN zs), .int .i64 (sumE zs)]) ∧ w = w' := by
  go_enter Try.func81, Try.ntmps81
  go_wp2
  go_loop [4, 5, 10] (fun t f i => SumRel zs t f i) (fun _ _ i => zs.length - (intOf i).toNat)
  case atStart => exact ⟨0, 0, false, Nat.zero_le _, rfl, rfl, rfl, fun j hj => by omega, by omega, by omega, by simp [psum_zero], by simp, by simp [psum_zero]⟩
  case round =>
    obtain ⟨k, T, b, hk, rfl, rfl, rfl, hp, hT0, hT1, hT2, hb1, hb2⟩ := hrel
    by_cases hlt : k < zs.length
    · obtain ⟨bl, off, rfl, hbl, hc⟩ := h.at_ hlt
      have hs := Lib.hid (psum_succ zs k hlt)
      have hp0 := psum_nonneg zs k hk hp
      by_cases hn : nth zs k < 0
      · have hz := isNeg_of zs k hlt hn
        have HE := Lib.hid (sumE_neg hz)
        clear hz hb1 hb2
        go_wp2
        go_ret2
        rw [HE.out.1, HE.out.2]
        exact ⟨rfl, rfl⟩
      · have hn' : 0 ≤ nth zs k := by omega
        cases b with
        | true =>
          have hb := hb1 rfl
          clear hb1 hb2
          go_wp2
          go_round
          case rel => exact ⟨k + 1, T, true, by omega, by go_num, rfl, rfl, fun j hj => by
            by_cases e : j = k
            · subst e; exact hn'
            · exact hp j (by omega), hT0, hT1, by rw [hs.out]; omega, fun _ => by rw [hs.out]; omega, by simp⟩
          case measure => simp [intOf]; omega
        | false =>
          have hb := Lib.hid (hb2 rfl)
          clear hb1 hb2
          by_cases hf : 1048576 - T < nth zs k
          · have hd : decide (1048576 - T < nth zs k) = true := by simpa using hf
            go_wp2
            go_round
            case rel => exact ⟨k + 1, T, true, by omega, by go_num, rfl, rfl, fun j hj => by
                  by_cases e : j = k
                  · subst e; exact hn'
                  · exact hp j (by omega), hT0, hT1, by rw [hs.out]; omega, fun _ => by rw [hs.out]; have := hb.out; omega, by simp⟩
            case measure => simp [intOf]; omega
          · have hd : decide (1048576 - T < nth zs k) = false := by simpa using hf
            go_wp2
            go_round
            case rel => exact ⟨k + 1, T + nth zs k, false, by omega, by go_num, by go_num, rfl, fun j hj => by
                  by_cases e : j = k
                  · subst e; exact hn'
                  · exact hp j (by omega), by omega, by omega, by rw [hs.out]; omega, by simp, fun _ => by rw [hs.out, ← hb.out]⟩
            case measure => simp [intOf]; omega
    · obtain rfl : k = zs.length := by omega
      have hn := isNeg_none zs hp
      cases b with
      | true =>
        have hb := hb1 rfl
        rw [psum_all] at hb
        have HE := Lib.hid (sumE_full hn hb)
        clear hb1 hb2 hn hb
        go_wp2
        go_ret2
        rw [HE.out.1, HE.out.2]
        exact ⟨rfl, rfl⟩
      | false =>
        have hb := hb2 rfl
        rw [psum_all] at hb
        have HE := Lib.hid (sumE_ok hn (by omega))
        have Hb := Lib.hid hb
        clear hb1 hb2 hn hb hT2
        go_wp2
        go_ret2
        rw [HE.out.1, HE.out.2, Hb.out]
        exact ⟨rfl, rfl⟩
set_option maxHeartbeats 1000000 in
theorem fit1_any (g : Nat) (A : Option Addr) (n c : Nat) (w : World) (hn : n ≤ 9223372036854775807) (hc : w.cell? ⟨g, 0, none⟩ = some (.slice A n c)) :
    Calls Try.prog 80 #[.slice (some ⟨g, 0, none⟩) 1 1] w fun e w' => e = .returned (.int .i64 (if 1048576 < n then 3 else 0)) ∧ w = w' := by
  by_cases hb : 1048576 < n
  · rw [if_pos hb]
    have hd : decide ((1048576 : Int) < (n : Int)) = true := by simp; omega
    go_enter Try.func80, Try.ntmps80
    go_wp2
    go_loop [9] (fun i => i = .int .i64 0) (fun _ => 0)
    case atStart => exact rfl
    case round =>
      obtain rfl := hrel
      go_wp2
      go_ret
      exact ⟨rfl, rfl⟩
  · rw [if_neg hb]
    have hd : decide ((1048576 : Int) < (n : Int)) = false := by simp; omega
    have hd' : ((n : Int) != (n : Int)) = false := by simp
    go_enter Try.func80, Try.ntmps80
    go_wp2
    go_loop [9] (fun i => i = .int .i64 0 ∨ i = .int .i64 1) (fun i => 1 - (intOf i).toNat)
    case atStart => exact .inl rfl
    case round =>
      rcases hrel with rfl | rfl
      · go_wp2
        go_round
        case rel => exact .inr rfl
        case measure => simp [intOf]
      · go_wp2
        go_loop [19] (fun i => i = .int .i64 0 ∨ i = .int .i64 1) (fun i => 1 - (intOf i).toNat)
        case atStart => exact .inl rfl
        case round =>
          rcases hrel with rfl | rfl
          · go_wp2
            go_round
            case rel => exact .inr rfl
            case measure => simp [intOf]
          · go_wp2
            go_ret
            exact ⟨rfl, rfl⟩

set_option maxHeartbeats 1000000 in
theorem sgcheck_any (A : Option Addr) (c : Nat) (zs : List Int) (w : World) (h : Sl w A zs) (hl : zs.length ≤ 9223372036854775807) :
    Calls Try.prog 68 #[.slice A zs.length c] w (RetV w (.tuple #[.int .i64 (ckN zs), .int .i64 (ckE zs)])) := by
  have hs : Sl (w.alloc (.cells #[.slice A zs.length c] 22)) A zs := h.step ((Below.refl _ _).alloc (Nat.le_refl _) _)
  have C1 := Lib.hid (fun c1 => fit1_any w.heap.size A zs.length c (w.alloc (.cells #[.slice A zs.length c] 22)) hl c1)
  by_cases hb : 1048576 < zs.length
  · have HE := Lib.hid (ck_long hb)
    rw [if_pos hb] at C1
    go_enter Try.func68, Try.ntmps68
    go_wp2_with (go_at_call 80; refine (C1.out (cell1 _ _ _)).mono ?_; rintro e w' ⟨rfl, rfl⟩)
    go_ret2
    rw [HE.out.1, HE.out.2]
    exact ⟨rfl, (Below.refl _ _).alloc (Nat.le_refl _) _⟩
  · have HE := Lib.hid (ck_short (show zs.length ≤ 1048576 by omega))
    rw [if_neg hb] at C1
    go_enter Try.func68, Try.ntmps68
    go_wp2_with (first | (go_at_call 80; refine (C1.out (cell1 _ _ _)).mono ?_; rintro e w' ⟨rfl, rfl⟩) | (go_at_call 81; refine (sgsum_any A c zs _ hs hl).mono ?_; rintro e w' ⟨rfl, rfl⟩))
    go_ret2
    rw [HE.out.1, HE.out.2]
    exact ⟨rfl, (Below.refl _ _).alloc (Nat.le_refl _) _⟩

theorem ck_fine {lens : List Int} (h : ckE lens = 0) : posB lens = true ∧ lens.length ≤ 1048576 ∧ ckN lens = lens.sum := by
  obtain ⟨h1, h2, h3, h4, h5⟩ := ck_ok h
  refine ⟨?_, h1, h5⟩
  have hp := posTo_of lens h2
  unfold posB
  rw [List.all_eq_true]
  intro x hx
  obtain ⟨j, hj, rfl⟩ := List.getElem_of_mem hx
  have := hp j hj
  rw [nth_eq lens j hj] at this
  simpa using this
end Go.Proofs.Ytgicfgpemcagcaa
/- Walks of rank's specification: Check of lengths, segments. -/
namespace Go.Proofs.Ytgicfgpemcagcaa
set_option linter.unusedVariables false
set_option maxRecDepth 100000
open Go.RowKit Go.Shelf
set_option maxHeartbeats 4000000 in
def CkRel (zs : List Int) (t i : Value) : Prop := ∃ (k : Nat) (T : Int), k ≤ zs.length ∧ i = .int .i64 k ∧ t = .int .i64 T ∧ PosTo zs k ∧ 0 ≤ T ∧ T ≤ 2097152 ∧ T = min (psum zs k) 2097152
set_option maxHeartbeats 1000000 in
theorem rcheck_any (A : Option Addr) (c : Nat) (zs : List Int) (w : World) (h : Sl w A zs) (hl : zs.length ≤ 9223372036854775807) :
    Calls Try.prog 70 #[.slice A zs.length c] w fun e w' => e = .returned (.tuple #[.int .i64 (ckN zs), .int .i64 (ckE zs)]) ∧ w = w' := by
  by_cases hb : 1048576 < zs.length
  · have HE := Lib.hid (ck_long hb)
    go_enter Try.func70, Try.ntmps70
    go_wp2
    go_ret2
    rw [HE.out.1, HE.out.2]
    exact ⟨rfl, rfl⟩
  · have HE := Lib.hid (ck_short (show zs.length ≤ 1048576 by omega))
    go_enter Try.func70, Try.ntmps70
    go_wp2
    go_loop [4, 5] (fun t i => CkRel zs t i) (fun _ i => zs.length - (intOf i).toNat)
    case atStart => exact ⟨0, 0, Nat.zero_le _, rfl, rfl, fun j hj => by omega, by omega, by omega, by rw [psum_zero]; omega⟩
    case round =>
      obtain ⟨k, T, hk, rfl, rfl, hp, hT0, hT1, hT⟩ := hrel
      have HT := Lib.hid hT; clear hT
      by_cases hlt : k < zs.length
      · obtain ⟨bl, off, rfl, hbl, hc⟩ := h.at_ hlt
        by_cases hn : nth zs k < 0
        · have HZ := Lib.hid (sumE_neg (isNeg_of zs k hlt hn))
          go_wp2
          go_ret2
          rw [HE.out.1, HE.out.2, HZ.out.1, HZ.out.2]
          exact ⟨rfl, rfl⟩
        · have hs := Lib.hid (psum_succ zs k hlt)
          have h0 := psum_nonneg zs k hk hp
          have hmn : 0 ≤ min (nth zs k) 2097152 := by omega
          have hmn2 : min (nth zs k) 2097152 ≤ 2097152 := by omega
          go_wp2
          go_round
          case rel => exact ⟨k + 1, min (T + min (nth zs k) 2097152) 2097152, by omega, by go_num, by first | rfl | (congr 1 <;> omega) | simp, fun j hj => by
                    by_cases e : j = k
                    · subst e; omega
                    · exact hp j (by omega), by omega, by omega, by rw [hs.out, HT.out]; omega⟩
          case measure => simp [intOf]; omega
      · obtain rfl : k = zs.length := by omega
        have hn := isNeg_none zs hp
        by_cases hb2 : 1048576 < zs.sum
        · have HZ := Lib.hid (sumE_full hn hb2)
          have hT9 : 1048576 < T := by have := HT.out; rw [psum_all] at this; omega
          go_wp2
          go_ret2
          rw [HE.out.1, HE.out.2, HZ.out.1, HZ.out.2]
          exact ⟨rfl, rfl⟩
        · have HZ := Lib.hid (sumE_ok hn (by omega))
          have hT9 : T ≤ 1048576 := by have := HT.out; rw [psum_all] at this; omega
          have HT8 := Lib.hid (show T = zs.sum by have := HT.out; rw [psum_all] at this; omega)
          go_wp2
          go_ret2
          rw [HE.out.1, HE.out.2, HZ.out.1, HZ.out.2, HT8.out]
          exact ⟨rfl, rfl⟩
/-- The error of a list in segments. -/
def sgE (l lens : List Int) : Int := if lsE [l, lens] = 0 then (if ckE lens = 0 ∧ lens.sum = l.length then 0 else 6) else lsE [l, lens]
set_option maxHeartbeats 4000000 in
theorem rsg_1 (A A' : Option Addr) (c cl : Nat) (l lens : List Int) (w : World) (h : Sl w A l) (k1 : l.length ≤ 9223372036854775807) (h' : Sl w A' lens) (k2 : lens.length ≤ 9223372036854775807) (hs1 : ¬ l.length ≤ 1048576) :
    Calls Try.prog 53 #[.slice A l.length cl, .slice A' lens.length c] w (RetV w (.int .i64 3)) := by
  have g1 : (1048576 : Int) < (l.length : Int) := by omega
  go_enter Try.func53, Try.ntmps53
  go_wp2
  go_ret
  exact ⟨rfl, Below.refl _ _⟩
set_option maxHeartbeats 4000000 in
theorem rsg_2 (A A' : Option Addr) (c cl : Nat) (l lens : List Int) (w : World) (h : Sl w A l) (k1 : l.length ≤ 9223372036854775807) (h' : Sl w A' lens) (k2 : lens.length ≤ 9223372036854775807) (hs1 : l.length ≤ 1048576) (hs2 : ¬ lens.length ≤ 1048576) :
    Calls Try.prog 53 #[.slice A l.length cl, .slice A' lens.length c] w (RetV w (.int .i64 3)) := by
  have g1 : ¬ ((1048576 : Int) < (l.length : Int)) := by omega
  have g2 : (1048576 : Int) < (lens.length : Int) := by omega
  go_enter Try.func53, Try.ntmps53
  go_wp2
  go_ret
  exact ⟨rfl, Below.refl _ _⟩
set_option maxHeartbeats 4000000 in
theorem rsg_3 (A A' : Option Addr) (c cl : Nat) (l lens : List Int) (w : World) (h : Sl w A l) (k1 : l.length ≤ 9223372036854775807) (h' : Sl w A' lens) (k2 : lens.length ≤ 9223372036854775807) (hs1 : l.length ≤ 1048576) (hs2 : lens.length ≤ 1048576) (hw1 : wordsB l = false) :
    Calls Try.prog 53 #[.slice A l.length cl, .slice A' lens.length c] w (RetV w (.int .i64 2)) := by
  have g1 : ¬ ((1048576 : Int) < (l.length : Int)) := by omega
  have g2 : ¬ ((1048576 : Int) < (lens.length : Int)) := by omega
  have D1 := words_any A cl l w h k1
  rw [hw1] at D1
  have D1 := Lib.hid D1
  clear hw1
  go_enter Try.func53, Try.ntmps53
  go_wp2_with fail
  refine (D1.out).mono ?_
  rintro e w' ⟨rfl, rfl⟩
  go_wp2
  go_ret
  exact ⟨rfl, Below.refl _ _⟩
set_option maxHeartbeats 4000000 in
theorem rsg_4 (A A' : Option Addr) (c cl : Nat) (l lens : List Int) (w : World) (h : Sl w A l) (k1 : l.length ≤ 9223372036854775807) (h' : Sl w A' lens) (k2 : lens.length ≤ 9223372036854775807) (hs1 : l.length ≤ 1048576) (hs2 : lens.length ≤ 1048576) (hw1 : wordsB l = true) (hw2 : wordsB lens = false) :
    Calls Try.prog 53 #[.slice A l.length cl, .slice A' lens.length c] w (RetV w (.int .i64 2)) := by
  have g1 : ¬ ((1048576 : Int) < (l.length : Int)) := by omega
  have g2 : ¬ ((1048576 : Int) < (lens.length : Int)) := by omega
  have D1 := words_any A cl l w h k1
  rw [hw1] at D1
  have D1 := Lib.hid D1
  have D2 := words_any A' c lens w h' k2
  rw [hw2] at D2
  have D2 := Lib.hid D2
  clear hw1 hw2
  go_enter Try.func53, Try.ntmps53
  go_wp2_with fail
  refine (D1.out).mono ?_
  rintro e w' ⟨rfl, rfl⟩
  go_wp2_with fail
  refine (D2.out).mono ?_
  rintro e w' ⟨rfl, rfl⟩
  go_wp2
  go_ret
  exact ⟨rfl, Below.refl _ _⟩
set_option maxHeartbeats 4000000 in
theorem rsg_5 (A A' : Option Addr) (c cl : Nat) (l lens : List Int) (w : World) (h : Sl w A l) (k1 : l.length ≤ 9223372036854775807) (h' : Sl w A' lens) (k2 : lens.length ≤ 9223372036854775807) (hs1 : l.length ≤ 1048576) (hs2 : lens.length ≤ 1048576) (hw1 : wordsB l = true) (hw2 : wordsB lens = true) (hck : ckE lens ≠ 0) :
    Calls Try.prog 53 #[.slice A l.length cl, .slice A' lens.length c] w (RetV w (.int .i64 6)) := by
  have g1 : ¬ ((1048576 : Int) < (l.length : Int)) := by omega
  have g2 : ¬ ((1048576 : Int) < (lens.length : Int)) := by omega
  have D1 := words_any A cl l w h k1
  rw [hw1] at D1
  have D1 := Lib.hid D1
  have D2 := words_any A' c lens w h' k2
  rw [hw2] at D2
  have D2 := Lib.hid D2
  have D3 := rcheck_any A' c lens w h' k2
  have hd : (ckE lens != 0) = true := by rw [bne_iff_ne]; exact hck
  have D3 := Lib.hid D3
  clear hw1 hw2 hck
  go_enter Try.func53, Try.ntmps53
  go_wp2_with fail
  refine (D1.out).mono ?_
  rintro e w' ⟨rfl, rfl⟩
  go_wp2_with fail
  refine (D2.out).mono ?_
  rintro e w' ⟨rfl, rfl⟩
  go_wp2_with fail
  refine (D3.out).mono ?_
  rintro e w' ⟨rfl, rfl⟩
  go_wp2
  go_ret
  exact ⟨rfl, Below.refl _ _⟩
set_option maxHeartbeats 4000000 in
theorem rsg_6 (A A' : Option Addr) (c cl : Nat) (l lens : List Int) (w : World) (h : Sl w A l) (k1 : l.length ≤ 9223372036854775807) (h' : Sl w A' lens) (k2 : lens.length ≤ 9223372036854775807) (hs1 : l.length ≤ 1048576) (hs2 : lens.length ≤ 1048576) (hw1 : wordsB l = true) (hw2 : wordsB lens = true) (hck : ckE lens = 0) (hsm : ¬ lens.sum = (l.length : Int)) :
    Calls Try.prog 53 #[.slice A l.length cl, .slice A' lens.length c] w (RetV w (.int .i64 6)) := by
  have g1 : ¬ ((1048576 : Int) < (l.length : Int)) := by omega
  have g2 : ¬ ((1048576 : Int) < (lens.length : Int)) := by omega
  have D1 := words_any A cl l w h k1
  rw [hw1] at D1
  have D1 := Lib.hid D1
  have D2 := words_any A' c lens w h' k2
  rw [hw2] at D2
  have D2 := Lib.hid D2
  have D3 := rcheck_any A' c lens w h' k2
  have hd : (lens.sum != (l.length : Int)) = true := by rw [bne_iff_ne]; exact hsm
  rw [hck, (ck_ok hck).2.2.2.2] at D3
  have D3 := Lib.hid D3
  clear hw1 hw2 hck
  go_enter Try.func53, Try.ntmps53
  go_wp2_with fail
  refine (D1.out).mono ?_
  rintro e w' ⟨rfl, rfl⟩
  go_wp2_with fail
  refine (D2.out).mono ?_
  rintro e w' ⟨rfl, rfl⟩
  go_wp2_with fail
  refine (D3.out).mono ?_
  rintro e w' ⟨rfl, rfl⟩
  go_wp2
  go_ret
  exact ⟨rfl, Below.refl _ _⟩
set_option maxHeartbeats 4000000 in
theorem rsg_7 (A A' : Option Addr) (c cl : Nat) (l lens : List Int) (w : World) (h : Sl w A l) (k1 : l.length ≤ 9223372036854775807) (h' : Sl w A' lens) (k2 : lens.length ≤ 9223372036854775807) (hs1 : l.length ≤ 1048576) (hs2 : lens.length ≤ 1048576) (hw1 : wordsB l = true) (hw2 : wordsB lens = true) (hck : ckE lens = 0) (hsm : lens.sum = (l.length : Int)) :
    Calls Try.prog 53 #[.slice A l.length cl, .slice A' lens.length c] w (RetV w (.int .i64 0)) := by
  have g1 : ¬ ((1048576 : Int) < (l.length : Int)) := by omega
  have g2 : ¬ ((1048576 : Int) < (lens.length : Int)) := by omega
  have D1 := words_any A cl l w h k1
  rw [hw1] at D1
  have D1 := Lib.hid D1
  have D2 := words_any A' c lens w h' k2
  rw [hw2] at D2
  have D2 := Lib.hid D2
  have D3 := rcheck_any A' c lens w h' k2
  have hd : ((l.length : Int) != (l.length : Int)) = false := by simp
  rw [hck, (ck_ok hck).2.2.2.2, hsm] at D3
  have D3 := Lib.hid D3
  clear hw1 hw2 hck hsm
  go_enter Try.func53, Try.ntmps53
  go_wp2_with fail
  refine (D1.out).mono ?_
  rintro e w' ⟨rfl, rfl⟩
  go_wp2_with fail
  refine (D2.out).mono ?_
  rintro e w' ⟨rfl, rfl⟩
  go_wp2_with fail
  refine (D3.out).mono ?_
  rintro e w' ⟨rfl, rfl⟩
  go_wp2
  go_ret
  exact ⟨rfl, Below.refl _ _⟩
theorem rsg_any (A A' : Option Addr) (c cl : Nat) (l lens : List Int) (w : World) (h : Sl w A l) (k1 : l.length ≤ 9223372036854775807) (h' : Sl w A' lens) (k2 : lens.length ≤ 9223372036854775807) :
    Calls Try.prog 53 #[.slice A l.length cl, .slice A' lens.length c] w (RetV w (.int .i64 (sgE l lens))) := by
  by_cases hs1 : l.length ≤ 1048576
  case neg =>
    rw [show sgE l lens = 3 by unfold sgE; have : lsE [l, lens] = 3 := (by unfold lsE; rw [if_neg (by simp [shortB, hs1])]); rw [this]; rfl]
    exact rsg_1 A A' c cl l lens w h k1 h' k2 hs1
  by_cases hs2 : lens.length ≤ 1048576
  case neg =>
    rw [show sgE l lens = 3 by unfold sgE; have : lsE [l, lens] = 3 := (by unfold lsE; rw [if_neg (by simp [shortB, hs2])]); rw [this]; rfl]
    exact rsg_2 A A' c cl l lens w h k1 h' k2 hs1 hs2
  cases hw1 : wordsB l with
  | false =>
    rw [show sgE l lens = 2 by unfold sgE; have : lsE [l, lens] = 2 := (by unfold lsE; rw [if_pos (by simp [shortB, hs1, hs2]), if_neg (by simp [hw1])]); rw [this]; rfl]
    exact rsg_3 A A' c cl l lens w h k1 h' k2 hs1 hs2 hw1
  | true =>
    cases hw2 : wordsB lens with
    | false =>
      rw [show sgE l lens = 2 by unfold sgE; have : lsE [l, lens] = 2 := (by unfold lsE; rw [if_pos (by simp [shortB, hs1, hs2]), if_neg (by simp [hw2])]); rw [this]; rfl]
      exact rsg_4 A A' c cl l lens w h k1 h' k2 hs1 hs2 hw1 hw2
    | true =>
      have h0 : lsE [l, lens] = 0 := by unfold lsE; rw [if_pos (by simp [shortB, hs1, hs2]), if_pos (by simp [hw1, hw2])]
      by_cases hck : ckE lens = 0
      case neg =>
        rw [show sgE l lens = 6 by unfold sgE; rw [if_pos h0, if_neg (fun x => hck x.1)]]
        exact rsg_5 A A' c cl l lens w h k1 h' k2 hs1 hs2 hw1 hw2 hck
      by_cases hsm : lens.sum = (l.length : Int)
      case neg =>
        rw [show sgE l lens = 6 by unfold sgE; rw [if_pos h0, if_neg (fun x => hsm x.2)]]
        exact rsg_6 A A' c cl l lens w h k1 h' k2 hs1 hs2 hw1 hw2 hck hsm
      rw [show sgE l lens = 0 by unfold sgE; rw [if_pos h0, if_pos ⟨hck, hsm⟩]]
      exact rsg_7 A A' c cl l lens w h k1 h' k2 hs1 hs2 hw1 hw2 hck hsm
end Go.Proofs.Ytgicfgpemcagcaa
/- Walks of rank: rowOf, where it fails. -/
namespace Go.Proofs.Ytgicfgpemcagcaa
set_option linter.unusedVariables false
set_option maxRecDepth 100000
open Go.RowKit Go.Shelf
attribute [local go_sem] Oper.semAt_some
theorem rkcheck2_any (g : Nat) (A A' : Option Addr) (c cl : Nat) (l lens : List Int) (W : World) (hb : Blk W g 22 #[.slice A l.length cl, .slice A' lens.length c]) (h : Sl W A l) (h' : Sl W A' lens) (hcl : l.length ≤ cl) (hc' : lens.length ≤ c) :
    Calls Try.prog 58 #[.slice (some ⟨g, 0, none⟩) 2 2] W (RetV W (.int .i64 (lsE [l, lens]))) :=
  rkcheck_any (some ⟨g, 0, none⟩) 2 [l, lens] W (sll2 hb h h' hcl hc') (by simp)
/-- 'Returned nothing, and an error.' -/
def RetN (w : World) (er : Int) (e : Ending) (w' : World) : Prop := e = .returned (.tuple #[.pointer none, .int .i64 er]) ∧ Below w.heap.size w w'
set_option maxHeartbeats 4000000 in
theorem rowOf_e1 (A A' : Option Addr) (c cl : Nat) (l lens : List Int) (w : World) (h : Sl w A l) (hcl : l.length ≤ cl) (h' : Sl w A' lens) (hc' : lens.length ≤ c) (he : lsE [l, lens] ≠ 0) :
    Calls Try.prog 49 #[.slice A l.length cl, .slice A' lens.length c] w (RetN w (lsE [l, lens])) := by
  have hd : (lsE [l, lens] != 0) = true := by rw [bne_iff_ne]; exact he
  have C1 := Lib.hid (fun g W (hb : Blk W g 22 #[.slice A l.length cl, .slice A' lens.length c]) hW hW' => rkcheck2_any g A A' c cl l lens W hb hW hW' hcl hc')
  obtain ⟨er, her⟩ : ∃ er, lsE [l, lens] = er := ⟨_, rfl⟩
  rw [her] at C1 hd
  rw [her]
  clear he her
  refine (callsIn_wide (n := 8)).1 ?_
  refine callsIn_of_wp_marks Try.func49 rfl trivial ?_ rfl
  simp only [Try.ntmps49, List.size_toArray, List.length_cons, List.length_nil, Nat.reduceAdd, Nat.reduceSub, Array.replicate_succ, Array.replicate_zero, List.push_toArray, List.append_toArray, List.nil_append, List.cons_append]
  gi_wp2
  refine wpIn_scope ?_
  have hB0 : Below w.heap.size w ((w.alloc (.cells #[.slice A l.length cl] 22)).alloc (.cells #[.slice A l.length cl, .slice A' lens.length c] 22)) := ((Below.refl _ _).alloc (Nat.le_refl _) _).alloc (by simp) _
  have bA := Blk.new (w.alloc (.cells #[.slice A l.length cl] 22)) 22 #[.slice A l.length cl, .slice A' lens.length c]
  simp only [World.size_alloc] at bA
  gi_wp2_with (refine ⟨trivial, ?_⟩; gi_at_call 58; refine (callsIn_wide.2 (C1.out _ _ bA (h.step hB0) (h'.step hB0))).mono ?_; rintro e w1 ⟨rfl, hB1⟩)
  have hB := hB0.trans (hB1.mono hB0.size)
  exact ⟨.tuple #[.pointer none, .int .i64 er], by simp [results, Try.f49, go_sem], rfl, hB⟩
set_option maxHeartbeats 4000000 in
theorem rowOf_e2 (A A' : Option Addr) (c cl : Nat) (l lens : List Int) (w : World) (h : Sl w A l) (hcl : l.length ≤ cl) (k : Ok l) (h' : Sl w A' lens) (hc' : lens.length ≤ c) (k' : Ok lens) (he : lsE [l, lens] = 0) (hk : ¬ (ckE lens = 0 ∧ lens.sum = l.length)) :
    Calls Try.prog 49 #[.slice A l.length cl, .slice A' lens.length c] w (RetN w 6) := by
  have C1 := Lib.hid (fun g W (hb : Blk W g 22 #[.slice A l.length cl, .slice A' lens.length c]) hW hW' => rkcheck2_any g A A' c cl l lens W hb hW hW' hcl hc')
  have C2 := Lib.hid (fun W (hW : Sl W A' lens) => sgcheck_any A' c lens W hW k')
  rw [he] at C1
  have hd : (ckE lens != 0) = true ∨ (ckE lens != 0) = false ∧ (ckN lens != (l.length : Int)) = true := by
    by_cases e : ckE lens = 0
    · refine .inr ⟨by rw [e]; rfl, ?_⟩
      rw [(ck_ok e).2.2.2.2, bne_iff_ne]
      exact fun e2 => hk ⟨e, e2⟩
    · exact .inl (by rw [bne_iff_ne]; exact e)
  obtain ⟨er, her⟩ : ∃ er, ckE lens = er := ⟨_, rfl⟩
  obtain ⟨nn, hnn⟩ : ∃ nn, ckN lens = nn := ⟨_, rfl⟩
  rw [her, hnn] at C2 hd
  clear he her hnn hk
  refine (callsIn_wide (n := 8)).1 ?_
  refine callsIn_of_wp_marks Try.func49 rfl trivial ?_ rfl
  simp only [Try.ntmps49, List.size_toArray, List.length_cons, List.length_nil, Nat.reduceAdd, Nat.reduceSub, Array.replicate_succ, Array.replicate_zero, List.push_toArray, List.append_toArray, List.nil_append, List.cons_append]
  have hB0 : Below w.heap.size w ((w.alloc (.cells #[.slice A l.length cl] 22)).alloc (.cells #[.slice A l.length cl, .slice A' lens.length c] 22)) := ((Below.refl _ _).alloc (Nat.le_refl _) _).alloc (by simp) _
  have bL := (Blk.new w 22 #[.slice A l.length cl]).alloc (.cells #[.slice A l.length cl, .slice A' lens.length c] 22)
  have bA := Blk.new (w.alloc (.cells #[.slice A l.length cl] 22)) 22 #[.slice A l.length cl, .slice A' lens.length c]
  simp only [World.size_alloc] at bA
  rcases hd with hd | ⟨hd, hd2⟩
  · gi_wp2
    refine wpIn_scope ?_
    gi_wp2_with (first | (refine ⟨trivial, ?_⟩; gi_at_call 58; refine (callsIn_wide.2 (C1.out _ _ bA (h.step hB0) (h'.step hB0))).mono ?_; rintro e w1 ⟨rfl, hB1⟩; have hB := hB0.trans (hB1.mono hB0.size); have cL := (bL.below hB1 bL.lt).cell 0; simp at cL) | (refine ⟨trivial, ?_⟩; gi_at_call 68; refine (callsIn_wide.2 (C2.out _ (h'.step hB))).mono ?_; rintro e w2 ⟨rfl, hB2⟩; have hBB := hB.trans (hB2.mono hB.size)))
    exact ⟨.tuple #[.pointer none, .int .i64 6], by simp [results, Try.f49, go_sem], rfl, hBB⟩
  · gi_wp2
    refine wpIn_scope ?_
    gi_wp2_with (first | (refine ⟨trivial, ?_⟩; gi_at_call 58; refine (callsIn_wide.2 (C1.out _ _ bA (h.step hB0) (h'.step hB0))).mono ?_; rintro e w1 ⟨rfl, hB1⟩; have hB := hB0.trans (hB1.mono hB0.size); have cL := (bL.below hB1 bL.lt)) | (refine ⟨trivial, ?_⟩; gi_at_call 68; refine (callsIn_wide.2 (C2.out _ (h'.step hB))).mono ?_; rintro e w2 ⟨rfl, hB2⟩; have hBB := hB.trans (hB2.mono hB.size); have cL2 := (cL.below hB2 cL.lt).cell 0; simp at cL2))
    exact ⟨.tuple #[.pointer none, .int .i64 6], by simp [results, Try.f49, go_sem], rfl, hBB⟩
end Go.Proofs.Ytgicfgpemcagcaa
