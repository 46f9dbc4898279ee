/- OfOwners: lengths out of owners. -/
import Derived.Test.YtcbkocjpkdcpfaaSh
namespace Go.Proofs.Ytcbkocjpkdcpfaa
set_option linter.unusedVariables false
open Go.RowKit Go.Shelf

theorem owF_fr_lt (zs : List Int) (k : Nat) (hk : k ≤ zs.length) : ∀ x ∈ owF zs (fr zs.length k), 0 ≤ x ∧ x < (k : Int) := by
  induction k with
  | zero => intro x hx; simp [owF, fr] at hx
  | succ k ih =>
    intro x hx
    rw [fr_succ _ k (by omega), owF_snoc, List.mem_append] at hx
    rcases hx with hx | hx
    · have := ih (by omega) x hx; omega
    · have := List.eq_of_mem_replicate hx; simp only at this; omega
theorem owF_fr_sorted (zs : List Int) (k : Nat) (hk : k ≤ zs.length) : (owF zs (fr zs.length k)).Pairwise (· ≤ ·) := by
  induction k with
  | zero => simp [owF, fr]
  | succ k ih =>
    rw [fr_succ _ k (by omega), owF_snoc, List.pairwise_append]
    refine ⟨ih (by omega), ?_, fun a ha b hb => ?_⟩
    · rw [List.pairwise_replicate]; exact .inr (Int.le_refl _)
    · have h1 := owF_fr_lt zs k (by omega) a ha
      have h2 := List.eq_of_mem_replicate hb
      simp only at h2; omega
theorem owF_fr_count (zs : List Int) (k : Nat) (hk : k ≤ zs.length) (p : Nat) : (owF zs (fr zs.length k)).count (p : Int) = if p < k then (nth zs p).toNat else 0 := by
  induction k with
  | zero => simp [owF, fr]
  | succ k ih =>
    rw [fr_succ _ k (by omega), owF_snoc, List.count_append, ih (by omega), List.count_replicate]
    by_cases e : p = k
    · subst e; simp
    · have : ¬ ((k : Int) == (p : Int)) = true := by simp; omega
      rw [if_neg this]
      by_cases h1 : p < k
      · rw [if_pos h1, if_pos (by omega)]; omega
      · rw [if_neg h1, if_neg (by omega)]
theorem owL_count (zs : List Int) (p : Nat) : (owL zs).count (p : Int) = if p < zs.length then (nth zs p).toNat else 0 := by
  have := owF_fr_count zs zs.length (Nat.le_refl _) p
  rwa [fr_all] at this
theorem owL_mem (zs : List Int) : ∀ x ∈ owL zs, 0 ≤ x ∧ x < (zs.length : Int) := by
  have := owF_fr_lt zs zs.length (Nat.le_refl _)
  rwa [fr_all] at this
theorem owL_sorted (zs : List Int) : (owL zs).Pairwise (· ≤ ·) := by
  have := owF_fr_sorted zs zs.length (Nat.le_refl _)
  rwa [fr_all] at this
theorem rising_of_sorted {l : List Int} (h : l.Pairwise (· ≤ ·)) : Rising l := fun j hj => by
  rw [nth_eq l j (by omega), nth_eq l (j + 1) hj]
  exact List.pairwise_iff_getElem.1 h j (j + 1) (by omega) hj (by omega)
theorem cnt_owL {zs : List Int} (hz : PosTo zs zs.length) : cntL zs.length (owL zs) = zs := by
  refine eq_of_nth (by rw [cntL_length]) fun j hj => ?_
  rw [cntL_length] at hj
  rw [nth_cntL _ _ _ hj, owL_count, if_pos hj]
  have := hz j hj
  omega

set_option maxRecDepth 100000 in
set_option maxHeartbeats 4000000 in
theorem ofOwners_cnt (A : Option Addr) (c n : Nat) (l : List Int) (w : World) (h : Sl w A l) (hl : l.length ≤ 1048576) (hn : n ≤ 1048576) (hb : ∀ x ∈ l, 0 ≤ x ∧ x < (n : Int)) (hr : Rising l) :
    Calls Try.prog 41 #[.slice A l.length c, .int .i64 n] w (RetL w (cntL n l) 0) := by
  obtain ⟨i0, hi, hz0, hz1, hz2⟩ := info_parts int_info
  have C1 := fit1_any w.heap.size A l.length c (w.alloc (.cells #[.slice A l.length c] 22)) (by omega) (cell1 _ _ _)
  rw [if_neg (by omega)] at C1
  have C2 := isSize_any n (w.alloc (.cells #[.slice A l.length c] 22))
  rw [decide_eq_true (by omega)] at C2
  have hmk := fun W => run_make_row (P := Try.prog) 22 3 i0 (.int .i64 0) Try.underlying22 hi hz0 hz1 rfl .i64 .i64 n (by rw [hz2]; omega) (by omega) W
  have hB0 : Below w.heap.size w (w.alloc (.cells #[.slice A l.length c] 22)) := (Below.refl _ _).alloc (Nat.le_refl _) _
  have HR := Lib.hid hr
  have HB := Lib.hid hb
  clear hr hb
  go_enter Try.func41, Try.ntmps41
  go_wp2_with (first | (go_at_call 46; refine C1.mono ?_; rintro e w' ⟨rfl, rfl⟩) | (go_at_call 51; refine C2.mono ?_; rintro e w' ⟨rfl, rfl⟩))
  have hBW : Below w.heap.size w ((w.alloc (.cells #[.slice A l.length c] 22)).alloc (.cells (madeCells #[.int .i64 0] n) 3)) := hB0.alloc (by simp) _
  have fS := Full.made (w.alloc (.cells #[.slice A l.length c] 22)) n (by unfold maxLen; omega)
  simp only [World.size_alloc] at fS
  clear C1 C2 hmk
  go_loopw [8, 24] (fun q i wr => ∃ (k : Nat) (x : Int), k ≤ l.length ∧ i = .int .i64 k ∧ q = .int .i64 x ∧ (k < l.length → x ≤ nth l k) ∧ Full wr (w.heap.size + 1) (cntL n (l.take k)) ∧ Below w.heap.size w wr) (fun _ i _ => l.length - (intOf i).toNat)
  case atStart => exact ⟨0, 0, Nat.zero_le _, rfl, rfl, fun hk => (HB.out _ (nth_mem l 0 hk)).1, by rw [List.take_zero, cntL_nil]; exact fS, hBW⟩
  case round =>
    obtain ⟨k, x, hk, rfl, rfl, hx, hf, hB⟩ := hrel
    by_cases hlt : k < l.length
    · have hxk := hx hlt
      clear hx
      obtain ⟨b, off, rfl, hbl, hc⟩ := (h.step hB).at_ hlt
      have hm := HB.out _ (nth_mem l k hlt)
      obtain ⟨p, hp⟩ : ∃ p : Nat, nth l k = (p : Int) := ⟨(nth l k).toNat, by omega⟩
      have HRk := Lib.hid (fun hk' : k + 1 < l.length => HR.out k hk')
      rw [hp] at hxk hm hc HRk
      have HTK := Lib.hid (show l.take (k + 1) = l.take k ++ [(p : Int)] by rw [take_snoc _ _ hlt, hp])
      have hpn : p < n := by omega
      have c3 := hf.cell p (by rw [cntL_length]; exact hpn)
      have f3 := hf.frozen p
      have hxx : 0 ≤ nth (cntL n (l.take k)) p ∧ nth (cntL n (l.take k)) p ≤ 1048576 := by
        rw [nth_cntL _ _ _ hpn]
        have := List.count_le_length (a := (p : Int)) (l := l.take k)
        rw [List.length_take] at this
        omega
      have hp1 : (0 : Int) ≤ (p : Int) := by omega
      have hp2 : (p : Int) < (n : Int) := by omega
      have HP := Lib.hid hp
      clear hp hm
      obtain ⟨y, hy⟩ : ∃ y, Hid (y = nth (cntL n (l.take k)) p) := ⟨_, Lib.hid rfl⟩
      rw [← hy.out] at c3 hxx
      have hd1 : decide ((p : Int) < 0) = false := by simp
      have hd2 : decide ((n : Int) ≤ (p : Int)) = false := by simpa using hpn
      have hd3 : decide ((p : Int) < x) = false := by simpa using hxk
      go_wp2
      go_roundw
      case rel => exact ⟨k + 1, (p : Int), by omega, by go_num, rfl, fun hk' => HRk.out hk', by rw [HTK.out, cntL_snoc _ _ _ hpn, ← hy.out]; exact hf.set_ p (y + 1), hB.setCell (p := ⟨w.heap.size + 1, p, none⟩) (by simp) _⟩
      case measure => simp [intOf]; omega
    · obtain rfl : k = l.length := by omega
      rw [List.take_length] at hf
      clear hx
      go_wp2
      go_ret2
      exact retL_full hf hB (by rw [cntL_length])

theorem ofOwners_any (A : Option Addr) (c : Nat) (zs : List Int) (w : World) (h : Sl w A (owL zs)) (hF : Fine zs) :
    Calls Try.prog 41 #[.slice A (owL zs).length c, .int .i64 zs.length] w (RetL w zs 0) := by
  have h1 := owL_length hF
  have h2 := hF.sum
  have h3 := ofOwners_cnt A c zs.length (owL zs) w h (by omega) hF.len (owL_mem zs) (rising_of_sorted (owL_sorted zs))
  rwa [cnt_owL hF.pos] at h3
end Go.Proofs.Ytcbkocjpkdcpfaa
