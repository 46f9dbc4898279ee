/- Compact (the program's side), out of Touched's contract. -/
import Derived.Test.YtcbkocjpkdcpfaaTn
import Derived.Test.YtcbkocjpkdcpfaaSd
import Derived.Test.YtcbkocjpkdcpfaaRb
namespace Go.Proofs.Ytcbkocjpkdcpfaa
set_option linter.unusedVariables false
open Go.RowKit Go.Shelf

/-- Touched's contract. -/
def TouchedC : Prop := ∀ (A A' : Option Addr) (c c' : Nat) (ss ls : List Int) (n : Int) (w : World), Sl w A ss → Sl w A' ls → ss.length ≤ 9223372036854775807 → ls.length ≤ 9223372036854775807 → (∀ j, j < ls.length → nth ls j ≤ 9223372036854775807) →
  Calls Try.prog 30 #[.slice A ss.length c, .slice A' ls.length c', .int .i64 n] w (RetPE w (if shE ss ls n = 0 then tsL ss ls n.toNat else []) (shE ss ls n))
theorem retLL_mk {w W : World} {A A' : Option Addr} {T c c' : Nat} {xs ys : List Int} {er : Int} (hT : xs.length = T) (hc : T ≤ c) (hc' : ys.length ≤ c') (h : Sl W A xs) (h' : Sl W A' ys) (hB : Below w.heap.size w W) : RetLL w xs ys er (.returned (.tuple #[.slice A T c, .slice A' ys.length c', .int .i64 er])) W := by
  subst hT
  exact ⟨_, _, _, _, rfl, hc, hc', h, h', hB⟩
theorem tsL_bnd {ss ls : List Int} {N : Nat} (hN : N ≤ 1048576) : (tsL ss ls N).length ≤ 1048576 ∧ ∀ x ∈ tsL ss ls N, 0 ≤ x.1 ∧ x.1 ≤ 1048576 ∧ 0 ≤ x.2 ∧ x.2 ≤ 1048576 := by
  have h := tsF_inv (cntL N (plL ss ls)) N
  refine ⟨by have := h.many; unfold tsL; omega, fun x hx => ?_⟩
  have h1 := h.bnd x hx
  have h2 := h.ends x hx
  have h3 := h.canon.pos x hx
  omega
theorem bgL_length (ss ls : List Int) (N : Nat) : (bgL ss ls N).length = ss.length := by simp [bgL]
theorem nth_bgL (ss ls : List Int) (N k : Nat) (h : k < ss.length) : nth (bgL ss ls N) k = adK (cntL N (plL ss ls)) (nth ss k).toNat := by
  rw [nth_eq _ _ (by rw [bgL_length]; exact h), nth_eq _ _ h]; simp [bgL]

set_option maxRecDepth 100000 in
set_option maxHeartbeats 4000000 in
theorem compact_any (HT : TouchedC) (A A' : Option Addr) (c c' : Nat) (ss ls : List Int) (n : Int) (w : World) (h : Sl w A ss) (h' : Sl w A' ls) (hls : ss.length ≤ 9223372036854775807) (hll : ls.length ≤ 9223372036854775807) (hb : ∀ j, j < ls.length → nth ls j ≤ 9223372036854775807) :
    Calls Try.prog 35 #[.slice A ss.length c, .slice A' ls.length c', .int .i64 n] w (RetLL w (orL (shE ss ls n) (bgL ss ls n.toNat)) (orL (shE ss ls n) (pcK (cntL n.toNat (plL ss ls)) n.toNat)) (shE ss ls n)) := by
  obtain ⟨i0, hi, hz0, hz1, hz2⟩ := info_parts int_info
  have C1 := HT A A' c c' ss ls n w h h' hls hll hb
  clear hb HT
  by_cases he : shE ss ls n = 0
  · rw [if_pos he, he] at C1
    have HE := Lib.hid he
    obtain ⟨N, rfl, hP, _⟩ := Pool.of he
    rw [he]
    clear he
    simp only [Int.toNat_natCast] at C1 ⊢
    have hN := hP.size
    have hM := hP.many
    have HP := Lib.hid hP
    obtain ⟨hb1, hb2⟩ := tsL_bnd (ss := ss) (ls := ls) hN
    have hmk := fun W => run_make_row (P := Try.prog) 22 3 i0 (.int .i64 0) Try.underlying22 hi hz0 hz1 rfl .i64 .i64 ss.length (by rw [hz2]; omega) (by omega) W
    have C2 := fun A c W (hs : SlP W A (tsL ss ls N)) => placesVals A c (tsL ss ls N) W hs hb1 hb2
    rw [ppL_tsL] at C2
    obtain ⟨ps, hps⟩ : ∃ ps, tsL ss ls N = ps := ⟨_, rfl⟩
    rw [hps] at C1 C2
    obtain ⟨m, hm⟩ : ∃ m, ss.length = m := ⟨_, rfl⟩
    have HM := Lib.hid hm
    rw [hm] at C1 hmk hM ⊢
    clear hb1 hb2 hps hm hP
    go_enter Try.func35, Try.ntmps35
    go_wp2_with (first | (go_at_call 30; refine C1.mono ?_; rintro e w1 ⟨A1, c1, rfl, h11, h12, hB1⟩) | (go_at_call 57; refine (values_any _ _ _ _).mono ?_; rintro e w' ⟨rfl, rfl⟩) | (go_at_call 56; refine (C2 _ _ _ h12).mono ?_; rintro e w2 ⟨A2, c2, rfl, h21, h22, hB2⟩))
    have hBw : Below w.heap.size w w2 := hB1.trans (hB2.mono hB1.size)
    have fS := Full.made w2 m (by unfold maxLen; omega)
    have hb3 : Below w2.heap.size w2 (w2.alloc (.cells (madeCells #[.int .i64 0] m) 3)) := (Below.refl _ _).alloc (Nat.le_refl _) _
    have hbl := bgL_length ss ls N
    rw [HM.out] at hbl
    clear C1 C2 hmk
    go_loopw [31] (fun i wr => ∃ k : Nat, k ≤ m ∧ i = .int .i64 k ∧ Full wr w2.heap.size (partL (bgL ss ls N) k) ∧ Below w2.heap.size w2 wr) (fun i _ => m - (intOf i).toNat)
    case atStart => exact ⟨0, Nat.zero_le _, rfl, by rw [partL_zero, hbl]; exact fS, hb3⟩
    case round =>
      obtain ⟨k, hk, rfl, hf, hB⟩ := hrel
      by_cases hlt : k < m
      · have hks : k < ss.length := by rw [HM.out]; exact hlt
        obtain ⟨b, off, rfl, hbb, hc⟩ := ((h.step hBw).step hB).at_ hks
        have hat := HP.out.at_ k hks
        have HBG := Lib.hid (nth_bgL ss ls N k hks)
        obtain ⟨s, hs⟩ : ∃ s : Nat, nth ss k = (s : Int) := ⟨(nth ss k).toNat, by omega⟩
        rw [hs] at hc hat HBG
        have hsN : s ≤ N := by omega
        have HCP := Lib.hid (count_pcK (cntL N (plL ss ls)) N s hsN)
        have C3 := search_any A2 c2 (pcK (cntL N (plL ss ls)) N) s wr (h22.step hB) (by have := pcK_length (cntL N (plL ss ls)) N; have := adK_bnd (cntL N (plL ss ls)) N; omega) ((pcK_sorted _ _).imp (fun h => Int.le_of_lt h))
        obtain ⟨y, hy⟩ : ∃ y, (((pcK (cntL N (plL ss ls)) N).countP (· < (s : Int)) : Nat) : Int) = y := ⟨_, rfl⟩
        rw [hy] at C3 HCP
        have HY : Hid (nth (bgL ss ls N) k = y) := Lib.hid (by rw [HBG.out, HCP.out, Int.toNat_natCast])
        have HPS := Lib.hid (partL_succ (bgL ss ls N) k (by omega))
        have f3 := hf.frozen k
        have c3 := hf.cell k (by rw [partL_length _ _ (by omega)]; omega)
        have hk1 : (0 : Int) ≤ (k : Int) := by omega
        have hk2 : (k : Int) < (m : Int) := by omega
        have hszr := hB.size
        clear hs hy hat
        go_wp2_with (go_at_call 58; refine C3.mono ?_; rintro e w' ⟨⟨fl, rfl⟩, q, rfl⟩)
        go_roundw
        case rel => exact ⟨k + 1, by omega, by go_num, by rw [← HPS.out, HY.out]; exact Full.set_ (w := wr.drewN q) hf k y, (hB.trans ((show Below wr.heap.size wr (wr.drewN q) from below_drewN wr q).mono hszr)).setCell (p := ⟨w2.heap.size, k, none⟩) (Nat.le_refl _) _⟩
        case measure => simp [intOf]; omega
      · obtain rfl : k = m := by omega
        have HA := Lib.hid (show partL (bgL ss ls N) k = bgL ss ls N by rw [← hbl, partL_all])
        rw [HA.out] at hf
        have h23 := h22.step hB
        have hBf : Below w.heap.size w wr := hBw.trans (hB.mono hBw.size)
        have HBL := Lib.hid hbl
        clear hbl
        go_wp2
        go_ret3
        rw [show orL 0 (bgL ss ls N) = bgL ss ls N from rfl, show orL 0 (pcK (cntL N (plL ss ls)) N) = pcK (cntL N (plL ss ls)) N from rfl]
        exact retLL_mk HBL.out (Nat.le_refl _) h21 hf.sl h23 hBf
  · rw [if_neg he] at C1
    have hd : (shE ss ls n != 0) = true := by rw [bne_iff_ne]; exact he
    have HE1 := Lib.hid (show orL (shE ss ls n) (bgL ss ls n.toNat) = [] by simp [orL, he])
    have HE2 := Lib.hid (show orL (shE ss ls n) (pcK (cntL n.toNat (plL ss ls)) n.toNat) = [] by simp [orL, he])
    clear he
    go_enter Try.func35, Try.ntmps35
    go_wp2_with (go_at_call 30; refine C1.mono ?_; rintro e w1 ⟨A1, c1, rfl, h11, h12, hB1⟩)
    go_ret3
    rw [HE1.out, HE2.out]
    exact retLL_nil hB1
end Go.Proofs.Ytcbkocjpkdcpfaa
