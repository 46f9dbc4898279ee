/- OfHeads: lengths out of heads. -/
import Derived.Test.YtcbkocjpkdcpfaaTa
namespace Go.Proofs.Ytcbkocjpkdcpfaa
set_option linter.unusedVariables false
open Go.RowKit Go.Shelf

theorem hdL_length (zs : List Int) : (hdL zs).length = zs.sum.toNat + 1 := cntL_length _ _
theorem nth_hdL (zs : List Int) (p : Nat) (h : p < zs.sum.toNat + 1) : nth (hdL zs) p = (((stL zs).count (p : Int) : Nat) : Int) := nth_cntL _ _ _ h
theorem hdL_pos (zs : List Int) : PosTo (hdL zs) (hdL zs).length := fun j hj => by
  rw [hdL_length] at hj; rw [nth_hdL zs j hj]; omega
theorem stL_mem {zs : List Int} (hF : Fine zs) : ∀ x ∈ stL zs, 0 ≤ x ∧ x ≤ zs.sum := by
  intro x hx
  obtain ⟨j, hj, rfl⟩ := List.getElem_of_mem hx
  have e := nth_eq (stL zs) j hj
  rw [stL_length] at hj
  rw [← e, nth_stL zs j hj]
  have h1 := hF.psum j (by omega)
  have h2 := psum_mono zs zs.length (Nat.le_refl _) hF.pos j zs.length (by omega) (Nat.le_refl _)
  rw [psum_all] at h2
  exact ⟨h1.1, h2⟩
theorem sorted_of_rising {l : List Int} (h : Rising l) : l.Pairwise (· ≤ ·) := by
  rw [List.pairwise_iff_getElem]
  have key : ∀ d i, i + d + 1 < l.length → nth l i ≤ nth l (i + d + 1) := by
    intro d
    induction d with
    | zero => intro i hi; exact h i hi
    | succ d ih => intro i hi; exact Int.le_trans (ih i (by omega)) (h (i + d + 1) (by omega))
  intro i j hi hj hij
  have := key (j - i - 1) i (by omega)
  rw [show i + (j - i - 1) + 1 = j by omega, nth_eq l i hi, nth_eq l j hj] at this
  exact this
theorem owL_hdL {zs : List Int} (hF : Fine zs) : owL (hdL zs) = stL zs := by
  refine List.Perm.eq_of_pairwise (le := (· ≤ ·)) (fun a b _ _ h1 h2 => Int.le_antisymm h1 h2) (owL_sorted _) (sorted_of_rising (rising_stL hF)) (List.perm_iff_count.2 fun x => ?_)
  have hs := hF.psum zs.length (Nat.le_refl _)
  rw [psum_all] at hs
  by_cases h : 0 ≤ x
  · obtain ⟨p, rfl⟩ : ∃ p : Nat, x = (p : Int) := ⟨x.toNat, by omega⟩
    rw [owL_count, hdL_length]
    by_cases hp : p < zs.sum.toNat + 1
    · rw [if_pos hp, nth_hdL zs p hp]; omega
    · rw [if_neg hp, eq_comm, List.count_eq_zero]
      intro hm
      have := stL_mem hF _ hm
      omega
  · rw [List.count_eq_zero.2 (fun hm => h (owL_mem _ _ hm).1), List.count_eq_zero.2 (fun hm => h (stL_mem hF _ hm).1)]
theorem owF_fr_len2 {zs : List Int} (hz : PosTo zs zs.length) (k : Nat) (hk : k ≤ zs.length) : ((owF zs (fr zs.length k)).length : Int) = psum zs k := by
  induction k with
  | zero => simp [fr, owF, psum_zero]
  | succ k ih =>
    have hn := hz k (by omega)
    rw [fr_succ _ k (by omega), owF_snoc, List.length_append, List.length_replicate, psum_succ zs k (by omega), ← ih (by omega)]
    simp only [Int.natCast_add]
    omega
theorem hdL_sum {zs : List Int} (hF : Fine zs) : (hdL zs).sum = (zs.length : Int) := by
  have h1 := owF_fr_len2 (hdL_pos zs) (hdL zs).length (Nat.le_refl _)
  rw [fr_all, psum_all] at h1
  rw [← h1, ← stL_length zs, ← owL_hdL hF]
  rfl

set_option maxRecDepth 100000 in
set_option maxHeartbeats 4000000 in
theorem ofHeads_gen (A : Option Addr) (c T m : Nat) (hs zs : List Int) (w : World) (h : Sl w A hs) (hF : Fine zs) (hp : PosTo hs hs.length) (hE : owF hs (fr hs.length hs.length) = stL zs) (hlT : hs.length = T + 1) (hT : zs.sum = (T : Int)) (hsu : hs.sum = (m : Int)) (hm : zs.length = m) :
    Calls Try.prog 40 #[.slice A hs.length c] w (RetL w zs 0) := by
  obtain ⟨i0, hi, hz0, hz1, hz2⟩ := info_parts int_info
  have hlen := hF.len
  have hsum := hF.sum
  have C1 := sum_any A c hs w h (by omega)
  rw [(sumE_ok (isNeg_none _ hp) (by omega)).1, (sumE_ok (isNeg_none _ hp) (by omega)).2, hsu] at C1
  have HFr := Lib.hid (fun k hk => owF_fr_len2 hp k hk)
  have HM := Lib.hid (fun k (hk : k ≤ hs.length) => psum_mono hs hs.length (Nat.le_refl _) hp k hs.length hk (Nat.le_refl _))
  have C3 := fun A c W (h : Sl W A (stL zs)) => lengths_any A c zs W h hF
  rw [hT] at C3 hsum
  rw [stL_length] at C3
  rw [hm] at C3 hlen
  have HSU := Lib.hid hsu
  have HT := Lib.hid hT
  have HE := Lib.hid hE
  have HL := Lib.hid hlT
  have HZ := Lib.hid hm
  have HP := Lib.hid hp
  clear hT hE hsu hm hp
  have hT1 : T ≤ 1048576 := by omega
  rw [hlT] at C1 ⊢
  clear hlT
  have hd0 : ((T : Int) + 1 == 0) = false := by rw [beq_eq_false_iff_ne]; omega
  have hd1 : decide ((1048577 : Int) < (T : Int) + 1) = false := by simp; omega
  go_enter Try.func40, Try.ntmps40
  go_wp2_with (first | (go_at_call 47; refine C1.mono ?_; rintro e w' ⟨rfl, rfl⟩) | (at_make; refine wpList_make_own _ rfl _ _ 22 rfl w.heap.size 3 i0 (.int .i64 0) 1 Try.underlying22 hi hz0 hz1 _ _ _ m rfl rfl rfl (by rw [hz2]; omega) (by unfold maxLen; omega) (Nat.le_refl _) ?_; intro w2 hown2 hg2))
  have hB2 : Below w.heap.size w w2 := (Below.refl _ _).grown hg2 (Nat.le_refl _) (fun k e => by cases e)
  have oO : OwnI w2 w.heap.size (.slice (some ⟨w.heap.size, 0, none⟩) 0 m) (owF hs (fr hs.length 0)) := hown2
  clear C1 hown2 hg2
  go_loopw [6, 27] (fun v i wr => ∃ k : Nat, k ≤ T + 1 ∧ i = .int .i64 k ∧ OwnI wr w.heap.size v (owF hs (fr hs.length k)) ∧ Below w.heap.size w wr) (fun _ i _ => T + 1 - (intOf i).toNat)
  case atStart => exact ⟨0, Nat.zero_le _, rfl, oO, hB2⟩
  case round =>
    obtain ⟨k, hk, rfl, hown, hB⟩ := hrel
    by_cases hlt : k < T + 1
    · have hkl : k < hs.length := by rw [HL.out]; exact hlt
      have hn := HP.out k hkl
      have hO := HFr.out k (by omega)
      have hP := HM.out (k + 1) (by omega)
      rw [psum_succ hs k hkl, psum_all, HSU.out] at hP
      have hLb : ((owF hs (fr hs.length k)).length : Int) + nth hs k ≤ (m : Int) := by rw [hO]; exact hP
      have HF := Lib.hid (show owF hs (fr hs.length (k + 1)) = owF hs (fr hs.length k) ++ List.replicate (nth hs k).toNat (k : Int) by rw [fr_succ _ k hkl, owF_snoc])
      clear hO hP
      obtain ⟨bl, off, rfl, hbl, hc⟩ := (h.step hB).at_ hkl
      obtain ⟨wo, rfl⟩ : ∃ wo : World, wo = wr := ⟨_, rfl⟩
      have HO := Lib.hid (show (owF hs (fr hs.length k)).length = (owF hs (fr hs.length k)).length from rfl)
      obtain ⟨L0, HL0⟩ : ∃ L0, Hid (owF hs (fr hs.length k) = L0) := ⟨_, Lib.hid rfl⟩
      rw [HL0.out] at hLb hown HF
      have hk1 : (0 : Int) ≤ (k : Int) := by omega
      have hk2 : (k : Int) < (T : Int) + 1 := by omega
      clear hkl
      go_wp2
      go_loopw [6, 33] (fun v j wr => ∃ (q : Nat) (L : List Int), (q : Int) ≤ nth hs k ∧ j = .int .i64 q ∧ Hid (L = L0 ++ List.replicate q (k : Int)) ∧ (L.length : Int) + (nth hs k - q) ≤ (m : Int) ∧ OwnI wr w.heap.size v L ∧ Below w.heap.size w wr) (fun _ j _ => (nth hs k).toNat - (intOf j).toNat)
      case atStart => exact ⟨0, _, hn, rfl, Lib.hid (by simp), by omega, hown, hB⟩
      case round =>
        obtain ⟨q, L, hq, rfl, HLq, hLb2, hown2, hB2⟩ := hrel
        by_cases hml : (q : Int) < nth hs k
        · go_wp2_with (at_builtin; refine wpList_append_own _ rfl _ _ 22 rfl w.heap.size 3 i0 (.int .i64 0) 1 8 Try.underlying22 hi hz0 hz1 hz2 rfl (by decide) _ _ _ rfl (hown2.alloc _) ⟨wr.heap.size, 0, none⟩ 1 1 [.int .i64 (k : Int)] rfl rfl (cell_one_new _ _ _) (by simp [Value.oneCell']) (by unfold maxLen; omega) (by omega) (by have := hB2.size; simp; omega) ?_; intro v' w1 hown' hgrow _; have hB1 := below_append hB2 hB2.size hown2 hgrow)
          have hown1 : OwnI w1 w.heap.size v' (L ++ [(k : Int)]) := OwnI.snoc hown'
          clear hown' hgrow
          go_roundw
          case rel => exact ⟨q + 1, L ++ [(k : Int)], by omega, by go_num, Lib.hid (by rw [HLq.out, List.append_assoc, List.replicate_succ']), by rw [List.length_append]; simp only [List.length_cons, List.length_nil]; omega, hown1, hB1⟩
          case measure => simp [intOf]; omega
        · have hme : (nth hs k).toNat = q := by omega
          have HL2 := Lib.hid (show L = owF hs (fr hs.length (k + 1)) by rw [HF.out, HLq.out, hme])
          clear hme
          go_wp2
          go_roundw
          case rel => exact ⟨k + 1, by omega, by go_num, by rw [← HL2.out]; exact hown2, hB2⟩
          case measure => simp [intOf]; omega
    · obtain rfl : k = T + 1 := by omega
      rw [show T + 1 = hs.length from HL.out.symm, HE.out] at hown
      obtain ⟨A', c', rfl, hcc, hsl⟩ := hown.form
      have C4 := C3 A' c' wr hsl
      rw [stL_length, HZ.out]
      have hw1 : IntKind.i64.wrap (T : Int) = (T : Int) := IntWalk.i64_in _ (by omega)
      go_wp2_with (go_at_call 39; refine C4.mono ?_; rintro e w3 ⟨A3, c3, rfl, h31, h32, h33⟩)
      go_ret2
      exact ⟨A3, c3, rfl, h31, h32, hB.trans (h33.mono hB.size)⟩

theorem ofHeads_any (A : Option Addr) (c : Nat) (zs : List Int) (w : World) (h : Sl w A (hdL zs)) (hF : Fine zs) :
    Calls Try.prog 40 #[.slice A (hdL zs).length c] w (RetL w zs 0) := by
  have hs0 := hF.psum zs.length (Nat.le_refl _)
  rw [psum_all] at hs0
  refine ofHeads_gen A c zs.sum.toNat zs.length (hdL zs) zs w h hF (hdL_pos zs) ?_ (hdL_length zs) (by omega) (hdL_sum hF) rfl
  rw [fr_all]; exact owL_hdL hF
end Go.Proofs.Ytcbkocjpkdcpfaa
