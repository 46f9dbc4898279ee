/- Walks of the specification: Len, Trap. -/
import Derived.Test.YtchjdhlmpdcibaaDoorRc
namespace Go.Proofs.YtchjdhlmpdcibaaDoor
set_option linter.unusedVariables false
open Go.RowKit Go.Shelf
set_option maxRecDepth 100000 in
set_option maxHeartbeats 4000000 in
theorem rlen_any (A1 : Option Addr) (c1 : Nat) (a : List Int) (w : World) (h1 : Sl w A1 a) (hc1 : a.length ≤ c1) (k1 : Ok a) :
    Calls Tryd.prog 41 #[.slice A1 a.length c1] w (RetL w (orL (lenE a) ([(a.length : Int)])) (lenE a)) := by
  obtain ⟨i0, hi, hz0, hz1, hz2⟩ := info_parts int_info
  have C1 : ∀ W g, Below w.heap.size w W → Blk W g 22 #[.slice A1 a.length c1] → Calls Tryd.prog 56 #[.slice (some ⟨g, 0, none⟩) 1 1] W (RetV W (.int .i64 (lsE [a]))) :=
    fun W g hb hg => (lists_any _ 1 [a] W (sll1 hg (h1.step hb) hc1) (by simp) (allShort_of (by unfold Ok at k1; simpa using k1))).mono fun e w' ⟨he, hw⟩ => ⟨he, hw ▸ Below.refl _ _⟩
  by_cases he : lsE [a] = 0
  · have hl := (lsE_ok he).1 a (by simp)
    rw [he] at C1
    rw [show lenE a = 0 from he, orL_ok]
    have C1 := Lib.hid C1
    clear he
    go_enter Tryd.func41, Tryd.ntmps41
    go_wp2_with fail
    refine (C1.out _ _ (al1 _ _) ?_).mono ?_
    · exact Blk.at (by simp)
    rintro e w1 ⟨rfl, hB⟩
    have hB0 := below_step (al1 _ _) hB
    have hs01 := hB0.size
    go_wp2
    go_ret2
    exact ⟨_, 1, rfl, Nat.le_refl _, Full.sl (zs := [(a.length : Int)]) (Blk.new w1 3 _), hB0.alloc hs01 _⟩
  · have hd : (lsE [a] != 0) = true := by rw [bne_iff_ne]; exact he
    rw [show lenE a = lsE [a] from rfl]
    have C1 := Lib.hid C1
    have HE := Lib.hid he
    clear he
    go_enter Tryd.func41, Tryd.ntmps41
    go_wp2_with fail
    refine (C1.out _ _ (al1 _ _) ?_).mono ?_
    · exact Blk.at (by simp)
    rintro e w1 ⟨rfl, hB⟩
    have hB0 := below_step (al1 _ _) hB
    have hs01 := hB0.size
    go_wp2
    go_ret2
    exact retL_none HE.out hB0
set_option maxRecDepth 100000 in
set_option maxHeartbeats 4000000 in
theorem cnt_pos (f : List Int) (k : Nat) (h : ∀ j, j < k → nth f j = 0) : cnt f k = 0 := by
  induction k with
  | zero => rfl
  | succ k ih => simp [cnt, h k (by omega), ih (fun j hj => h j (by omega))]
theorem cnt_some (f : List Int) (k : Nat) (hk : k < f.length) (h : nth f k ≠ 0) : cnt f f.length ≠ 0 := by
  have h1 : cnt f (k + 1) = cnt f k + 1 := by simp [cnt, h]
  have h2 := (cnt_mono f (show k + 1 ≤ f.length by omega)).1
  omega
set_option maxRecDepth 100000 in
set_option maxHeartbeats 4000000 in
theorem rtrap_any (A1 : Option Addr) (c1 : Nat) (f : List Int) (w : World) (h1 : Sl w A1 f) (hc1 : f.length ≤ c1) (k1 : Ok f) :
    Calls Tryd.prog 43 #[.slice A1 f.length c1] w (RetV w (.int .i64 (trpE f))) := by
  have C1 : ∀ W g, Below w.heap.size w W → Blk W g 22 #[.slice A1 f.length c1] → Calls Tryd.prog 56 #[.slice (some ⟨g, 0, none⟩) 1 1] W (RetV W (.int .i64 (lsE [f]))) :=
    fun W g hb hg => (lists_any _ 1 [f] W (sll1 hg (h1.step hb) hc1) (by simp) (allShort_of (by unfold Ok at k1; simpa using k1))).mono fun e w' ⟨he, hw⟩ => ⟨he, hw ▸ Below.refl _ _⟩
  by_cases he : lsE [f] = 0
  · have hl := (lsE_ok he).1 f (by simp)
    rw [he] at C1
    have HE := Lib.hid (show trpE f = if cnt f f.length = 0 then 0 else 14 by unfold trpE; rw [if_pos he])
    have C1 := Lib.hid C1
    clear he
    go_enter Tryd.func43, Tryd.ntmps43
    go_wp2_with fail
    refine (C1.out _ _ (al1 _ _) ?_).mono ?_
    · exact Blk.at (by simp)
    rintro e w1 ⟨rfl, hB⟩
    have hB0 := below_step (al1 _ _) hB
    have hs01 := hB0.size
    go_wp2
    go_loop [4] (fun i => ∃ k : Nat, k ≤ f.length ∧ i = .int .i64 k ∧ Hid (∀ j, j < k → nth f j = 0)) (fun i => f.length - (intOf i).toNat)
    case atStart => exact ⟨0, Nat.zero_le _, rfl, Lib.hid (fun j hj => by omega)⟩
    case round =>
      obtain ⟨k, hk, rfl, HZ⟩ := hrel
      by_cases hlt : k < f.length
      · obtain ⟨bf, of_, rfl, hbf, hcf⟩ := (h1.step hB0).at_ hlt
        have q1 : (0 : Int) ≤ (k : Int) := by omega
        have q2 : (k : Int) < (f.length : Int) := by omega
        by_cases h0 : nth f k = 0
        · have H0 := Lib.hid h0
          rw [h0] at hcf
          clear h0
          go_wp2
          go_round
          case rel => exact ⟨k + 1, by omega, by go_num, Lib.hid (fun j hj => by
            by_cases e : j = k
            · subst e; exact H0.out
            · exact HZ.out j (by omega))⟩
          case measure => simp [intOf]; omega
        · have hd : (nth f k != 0) = true := by rw [bne_iff_ne]; exact h0
          have HS := Lib.hid (cnt_some f k hlt h0)
          obtain ⟨y, hy⟩ : ∃ y, nth f k = y := ⟨_, rfl⟩
          rw [hy] at hcf hd
          clear h0 hy
          go_wp2
          go_ret
          rw [HE.out, if_neg HS.out]
          exact ⟨rfl, hB0⟩
      · obtain rfl : k = f.length := by omega
        have HS := Lib.hid (cnt_pos f f.length HZ.out)
        go_wp2
        go_ret
        rw [HE.out, if_pos HS.out]
        exact ⟨rfl, hB0⟩
  · have hd : (lsE [f] != 0) = true := by rw [bne_iff_ne]; exact he
    rw [show trpE f = lsE [f] by unfold trpE; rw [if_neg he]]
    have C1 := Lib.hid C1
    clear he
    go_enter Tryd.func43, Tryd.ntmps43
    go_wp2_with fail
    refine (C1.out _ _ (al1 _ _) ?_).mono ?_
    · exact Blk.at (by simp)
    rintro e w1 ⟨rfl, hB⟩
    have hB0 := below_step (al1 _ _) hB
    have hs01 := hB0.size
    go_wp2
    go_ret
    exact ⟨rfl, hB0⟩
end Go.Proofs.YtchjdhlmpdcibaaDoor
