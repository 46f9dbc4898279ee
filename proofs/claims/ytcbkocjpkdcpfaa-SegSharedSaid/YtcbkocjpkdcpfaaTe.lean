/- The specification's counts, Depth, Places. -/
import Derived.Test.YtcbkocjpkdcpfaaTd
import Derived.Test.YtcbkocjpkdcpfaaRa
namespace Go.Proofs.Ytcbkocjpkdcpfaa
set_option linter.unusedVariables false
open Go.RowKit Go.Shelf

def RetF (w : World) (zs : List Int) (e : Ending) (w' : World) : Prop := ∃ g n, n = zs.length ∧ e = .returned (.slice (some ⟨g, 0, none⟩) n n) ∧ w.heap.size ≤ g ∧ Full w' g zs ∧ Below w.heap.size w w'
theorem below_drewN (w : World) (m : Nat) : Below w.heap.size w (w.drewN m) := ⟨rfl, rfl, rfl, Nat.le_refl _, fun _ _ => rfl⟩
theorem plL_count_le {ss ls : List Int} {N : Nat} (h : Pool ss ls N) (k : Nat) (hk : k < ss.length) (j : Nat) (hj : (j : Int) ≤ nth ls k) : (plP ss ls (fr ss.length k) ++ plJ (nth ss k) j).length ≤ 1048576 := by
  have h1 := plP_length h k (by omega)
  have hl := h.len
  have h2 := psum_mono ls ls.length (Nat.le_refl _) h.pos (k + 1) ls.length (by omega) (Nat.le_refl _)
  rw [psum_succ ls k (by omega), psum_all] at h2
  have := h.sum
  rw [List.length_append, plJ_length]
  omega

set_option maxRecDepth 100000 in
set_option maxHeartbeats 4000000 in
theorem counts_any (A A' : Option Addr) (c c' N : Nat) (ss ls : List Int) (w : World) (h : Sl w A ss) (h' : Sl w A' ls) (hP : Pool ss ls N) :
    Calls Try.prog 54 #[.slice A ss.length c, .slice A' ls.length c', .int .i64 N] w (RetF w (cntL N (plL ss ls))) := by
  obtain ⟨i0, hi, hz0, hz1, hz2⟩ := info_parts int_info
  have hN := hP.size
  have hmk := fun W => run_make_row (P := Try.prog) 22 3 i0 (.int .i64 0) Try.underlying22 hi hz0 hz1 rfl .i64 .i64 N (by rw [hz2]; omega) (by omega) W
  have hM := hP.many
  have HL := Lib.hid hP.len
  obtain ⟨m, hm⟩ : ∃ m, ss.length = m := ⟨_, rfl⟩
  have HM := Lib.hid hm
  rw [show ls.length = m by rw [hP.len, hm], hm]
  rw [hm] at hM
  clear hm
  go_enter Try.func54, Try.ntmps54
  go_wp2
  have fS := Full.made w N (by unfold maxLen; omega)
  have hB0 : Below w.heap.size w (w.alloc (.cells (madeCells #[.int .i64 0] N) 3)) := (Below.refl _ _).alloc (Nat.le_refl _) _
  go_loopw [8] (fun i wr => ∃ k : Nat, k ≤ m ∧ i = .int .i64 k ∧ Full wr w.heap.size (cntL N (plP ss ls (fr ss.length k))) ∧ Below w.heap.size w wr) (fun i _ => m - (intOf i).toNat)
  case atStart => exact ⟨0, Nat.zero_le _, rfl, by rw [show plP ss ls (fr ss.length 0) = [] from rfl, cntL_nil]; exact fS, hB0⟩
  case round =>
    obtain ⟨k, hk, rfl, hf, hB⟩ := hrel
    by_cases hlt : k < m
    · have hks : k < ss.length := by rw [HM.out]; exact hlt
      have hkl : k < ls.length := by rw [HL.out]; exact hks
      have hat := hP.at_ k hks
      have HLE := Lib.hid (plL_count_le hP k hks)
      obtain ⟨s, hs⟩ : ∃ s : Nat, nth ss k = (s : Int) := ⟨(nth ss k).toNat, by omega⟩
      obtain ⟨l, hl⟩ : ∃ l : Nat, nth ls k = (l : Int) := ⟨(nth ls k).toNat, by omega⟩
      have HSN := Lib.hid (show plP ss ls (fr ss.length (k + 1)) = plP ss ls (fr ss.length k) ++ plJ (s : Int) l by rw [fr_succ _ k hks, plP_snoc, plJ_all, hs, hl, Int.toNat_natCast])
      obtain ⟨b, off, rfl, hb, hc⟩ := h.at_ hks
      obtain ⟨b', off', rfl, hb', hc'⟩ := h'.at_ hkl
      rw [hs] at hc hat HLE
      rw [hl] at hc' hat HLE
      have hsl : s + l ≤ N := by omega
      have hl1 : l ≤ 1048576 := by omega
      have hk1 : (0 : Int) ≤ (k : Int) := by omega
      have hk2 : (k : Int) < (m : Int) := by omega
      obtain ⟨L0, HL0⟩ : ∃ L0, Hid (plP ss ls (fr ss.length k) = L0) := ⟨_, Lib.hid rfl⟩
      rw [HL0.out] at hf HSN HLE
      clear hs hl hat hks hkl
      go_wp2
      go_loopw [9] (fun i wr => ∃ j : Nat, j ≤ l ∧ i = .int .i64 j ∧ Full wr w.heap.size (cntL N (L0 ++ plJ (s : Int) j)) ∧ Below w.heap.size w wr) (fun i _ => l - (intOf i).toNat)
      case atStart => exact ⟨0, Nat.zero_le _, rfl, by rw [plJ_zero, List.append_nil]; exact hf, hB⟩
      case round =>
        obtain ⟨j, hj, rfl, hf2, hB2⟩ := hrel
        have hc1 := (hB2.cell (p := ⟨b, off + k, none⟩) hb).trans hc
        have hc2 := (hB2.cell (p := ⟨b', off' + k, none⟩) hb').trans hc'
        by_cases hjl : j < l
        · have hp : s + j < N := by omega
          have c3 := hf2.cell (s + j) (by rw [cntL_length]; exact hp)
          have f3 := hf2.frozen (s + j)
          have hle := HLE.out j (by omega)
          have hxx : 0 ≤ nth (cntL N (L0 ++ plJ (s : Int) j)) (s + j) ∧ nth (cntL N (L0 ++ plJ (s : Int) j)) (s + j) ≤ 1048576 := by
            rw [nth_cntL _ _ _ hp]
            have := List.count_le_length (a := ((s + j : Nat) : Int)) (l := L0 ++ plJ (s : Int) j)
            omega
          have HT := Lib.hid (show cntL N (L0 ++ plJ (s : Int) (j + 1)) = (cntL N (L0 ++ plJ (s : Int) j)).set (s + j) (nth (cntL N (L0 ++ plJ (s : Int) j)) (s + j) + 1) by
            rw [plJ_succ, ← List.append_assoc, show ((s : Int) + (j : Int)) = ((s + j : Nat) : Int) by omega, cntL_snoc _ _ _ hp])
          obtain ⟨y, hy⟩ : ∃ y, Hid (y = nth (cntL N (L0 ++ plJ (s : Int) j)) (s + j)) := ⟨_, Lib.hid rfl⟩
          rw [← hy.out] at c3 hxx HT
          have e1 : ((s : Int) + (j : Int)).toNat = s + j := by omega
          have g1 : (0 : Int) ≤ (s : Int) + (j : Int) := by omega
          have g2 : (s : Int) + (j : Int) < (N : Int) := by omega
          have hw1 : IntKind.i64.wrap ((s : Int) + (j : Int)) = (s : Int) + (j : Int) := IntWalk.i64_in _ (by omega)
          clear hle
          go_wp2
          go_roundw
          case rel => exact ⟨j + 1, by omega, by go_num, by rw [HT.out]; exact hf2.set_ (s + j) (y + 1), hB2.setCell (p := ⟨w.heap.size, s + j, none⟩) (Nat.le_refl _) _⟩
          case measure => simp [intOf]; omega
        · obtain rfl : j = l := by omega
          go_wp2
          go_roundw
          case rel => exact ⟨k + 1, by omega, by go_num, by rw [HSN.out]; exact hf2, hB2⟩
          case measure => simp [intOf]; omega
    · obtain rfl : k = m := by omega
      have HA := Lib.hid (show plP ss ls (fr ss.length k) = plL ss ls by rw [← HM.out, fr_all]; rfl)
      rw [HA.out] at hf
      go_wp2
      go_ret
      exact ⟨_, _, (cntL_length _ _).symm, rfl, Nat.le_refl _, hf, hB⟩

/-! ### the greatest -/
def mxK (l : List Int) (k : Nat) : Int := (l.take k).foldl max 0
def mxL (l : List Int) : Int := mxK l l.length
theorem mxK_zero (l : List Int) : mxK l 0 = 0 := rfl
theorem mxK_succ (l : List Int) (k : Nat) (h : k < l.length) : mxK l (k + 1) = max (mxK l k) (nth l k) := by
  unfold mxK; rw [take_snoc l k h, List.foldl_append]; rfl

set_option maxRecDepth 100000 in
set_option maxHeartbeats 4000000 in
theorem rdepth_any (A A' : Option Addr) (c c' : Nat) (ss ls : List Int) (n : Int) (w : World) (h : Sl w A ss) (h' : Sl w A' ls) (hls : ss.length ≤ 9223372036854775807) (hll : ls.length ≤ 9223372036854775807) (hb : ∀ j, j < ls.length → nth ls j ≤ 9223372036854775807) :
    Calls Try.prog 29 #[.slice A ss.length c, .slice A' ls.length c', .int .i64 n] w (RetV w (.tuple #[.int .i64 (if shE ss ls n = 0 then mxL (cntL n.toNat (plL ss ls)) else 0), .int .i64 (shE ss ls n)])) := by
  have C1 := rshared_any A A' c c' ss ls n w h h' hls hll hb
  clear hb
  by_cases he : shE ss ls n = 0
  · rw [if_pos he, he]
    obtain ⟨N, rfl, hP, hs⟩ := Pool.of he
    rw [he] at C1
    have C2 := fun m => counts_any A A' c c' N ss ls (w.drewN m) h h' hP
    have hN := hP.size
    clear he
    simp only [Int.toNat_natCast]
    go_enter Try.func29, Try.ntmps29
    go_wp2_with (first | (go_at_call 26; refine C1.mono ?_; rintro e w' ⟨rfl, m, rfl⟩) | (go_at_call 54; refine (C2 _).mono ?_; rintro e w2 ⟨g, q, hq, rfl, hg, hf, hB⟩; rw [cntL_length] at hq; obtain rfl := hq))
    have hB2 : Below w.heap.size w w2 := (below_drewN w m).trans hB
    have HLN := cntL_length q (plL ss ls)
    go_loopw [11, 12] (fun t i wr => ∃ k : Nat, k ≤ q ∧ i = .int .i64 k ∧ t = .int .i64 (mxK (cntL q (plL ss ls)) k) ∧ wr = w2) (fun _ i _ => q - (intOf i).toNat)
    case atStart => exact ⟨0, Nat.zero_le _, rfl, rfl, rfl⟩
    case round =>
      obtain ⟨k, hk, rfl, rfl, rfl⟩ := hrel
      by_cases hlt : k < q
      · have c1 := hf.cell k (by rw [HLN]; exact hlt)
        have HX := Lib.hid (mxK_succ (cntL q (plL ss ls)) k (by rw [HLN]; exact hlt))
        obtain ⟨a, ha⟩ : ∃ a, mxK (cntL q (plL ss ls)) k = a := ⟨_, rfl⟩
        obtain ⟨b, hb⟩ : ∃ b, nth (cntL q (plL ss ls)) k = b := ⟨_, rfl⟩
        rw [ha, hb] at HX
        rw [hb] at c1
        rw [ha]
        clear ha hb HLN
        have hk1 : (0 : Int) ≤ (k : Int) := by omega
        have hk2 : (k : Int) < (q : Int) := by omega
        by_cases hab : a ≤ b
        · have HX2 : Hid (mxK (cntL q (plL ss ls)) (k + 1) = b) := Lib.hid (by rw [HX.out]; omega)
          go_wp2
          go_roundw
          case rel => exact ⟨k + 1, by omega, by go_num, by rw [HX2.out]; go_num, trivial⟩
          case measure => simp [intOf]; omega
        · have HX2 : Hid (mxK (cntL q (plL ss ls)) (k + 1) = a) := Lib.hid (by rw [HX.out]; omega)
          go_wp2
          go_roundw
          case rel => exact ⟨k + 1, by omega, by go_num, by rw [HX2.out]; go_num, trivial⟩
          case measure => simp [intOf]; omega
      · obtain rfl : k = q := by omega
        have HX : Hid (mxK (cntL k (plL ss ls)) k = mxL (cntL k (plL ss ls))) := Lib.hid (by unfold mxL; rw [HLN])
        go_wp2
        go_ret2
        rw [HX.out]
        exact ⟨rfl, hB2⟩
  · have hd : (shE ss ls n != 0) = true := by rw [bne_iff_ne]; exact he
    rw [if_neg he]
    clear he
    go_enter Try.func29, Try.ntmps29
    go_wp2_with (first | (go_at_call 26; refine C1.mono ?_; rintro e w' ⟨rfl, m, rfl⟩))
    go_ret2
    exact ⟨rfl, ⟨rfl, rfl, rfl, Nat.le_refl _, fun _ _ => rfl⟩⟩

set_option maxRecDepth 100000 in
set_option maxHeartbeats 4000000 in
theorem rplaces_any (A A' : Option Addr) (c c' : Nat) (ss ls : List Int) (n : Int) (w : World) (h : Sl w A ss) (h' : Sl w A' ls) (hls : ss.length ≤ 9223372036854775807) (hll : ls.length ≤ 9223372036854775807) (hb : ∀ j, j < ls.length → nth ls j ≤ 9223372036854775807) :
    Calls Try.prog 34 #[.slice A ss.length c, .slice A' ls.length c', .int .i64 n] w (RetL w (orL (shE ss ls n) (plL ss ls)) (shE ss ls n)) := by
  obtain ⟨i0, hi, hz0, hz1, hz2⟩ := info_parts int_info
  have C1 := rshared_any A A' c c' ss ls n w h h' hls hll hb
  clear hb
  by_cases he : shE ss ls n = 0
  · obtain ⟨N, rfl, hP, hs⟩ := Pool.of he
    have HE := Lib.hid he
    rw [he] at C1 
    have hN := hP.size
    have hM := hP.many
    have HL := Lib.hid hP.len
    obtain ⟨m, hm⟩ : ∃ m, ss.length = m := ⟨_, rfl⟩
    have HM := Lib.hid hm
    have hlm : ls.length = m := by rw [hP.len, hm]
    rw [hm] at hM
    rw [hlm, hm] at C1
    rw [hlm, hm]
    clear hm he hlm hs
    go_enter Try.func34, Try.ntmps34
    go_wp2_with (go_at_call 26; refine C1.mono ?_; rintro e w' ⟨rfl, q, rfl⟩)
    have hB0 : Below w.heap.size w ((w.drewN q).alloc (.cells #[] 3)) := (show Below w.heap.size w (w.drewN q) from ⟨rfl, rfl, rfl, Nat.le_refl _, fun _ _ => rfl⟩).alloc (Nat.le_refl _) _
    go_loopw [10, 11] (fun v i wr => ∃ k : Nat, k ≤ m ∧ i = .int .i64 k ∧ OwnI wr w.heap.size v (plP ss ls (fr ss.length k)) ∧ Below w.heap.size w wr) (fun _ i _ => m - (intOf i).toNat)
    case atStart => exact ⟨0, Nat.zero_le _, rfl, OwnI.empty (w.drewN q) w.heap.size (Nat.le_refl _), hB0⟩
    case round =>
      obtain ⟨k, hk, rfl, hown, hB⟩ := hrel
      by_cases hlt : k < m
      · have hks : k < ss.length := by rw [HM.out]; exact hlt
        have hkl : k < ls.length := by rw [HL.out]; exact hks
        have hat := hP.at_ k hks
        have HLE := Lib.hid (plL_count_le hP k hks)
        obtain ⟨s, hs⟩ : ∃ s : Nat, nth ss k = (s : Int) := ⟨(nth ss k).toNat, by omega⟩
        obtain ⟨l, hl⟩ : ∃ l : Nat, nth ls k = (l : Int) := ⟨(nth ls k).toNat, by omega⟩
        have HSN := Lib.hid (show plP ss ls (fr ss.length (k + 1)) = plP ss ls (fr ss.length k) ++ plJ (s : Int) l by rw [fr_succ _ k hks, plP_snoc, plJ_all, hs, hl, Int.toNat_natCast])
        obtain ⟨b, off, rfl, hb, hc⟩ := h.at_ hks
        obtain ⟨b', off', rfl, hb', hc'⟩ := h'.at_ hkl
        rw [hs] at hc hat HLE
        rw [hl] at hc' hat HLE
        have hsl : s + l ≤ N := by omega
        have hl1 : l ≤ 1048576 := by omega
        have hk1 : (0 : Int) ≤ (k : Int) := by omega
        have hk2 : (k : Int) < (m : Int) := by omega
        obtain ⟨L0, HL0⟩ : ∃ L0, Hid (plP ss ls (fr ss.length k) = L0) := ⟨_, Lib.hid rfl⟩
        rw [HL0.out] at hown HSN HLE
        clear hs hl hat hks hkl
        go_wp2
        go_loopw [10, 12] (fun v i wr => ∃ (j : Nat) (L : List Int), j ≤ l ∧ i = .int .i64 j ∧ Hid (L = L0 ++ plJ (s : Int) j) ∧ OwnI wr w.heap.size v L ∧ Below w.heap.size w wr) (fun _ i _ => l - (intOf i).toNat)
        case atStart => exact ⟨0, _, Nat.zero_le _, rfl, Lib.hid (by rw [plJ_zero, List.append_nil]), hown, hB⟩
        case round =>
          obtain ⟨j, L, hj, rfl, HLj, hown2, hB2⟩ := hrel
          have hc1 := (hB2.cell (p := ⟨b, off + k, none⟩) hb).trans hc
          have hc2 := (hB2.cell (p := ⟨b', off' + k, none⟩) hb').trans hc'
          by_cases hjl : j < l
          · have hle : L.length ≤ 1048576 := by rw [HLj.out]; exact HLE.out j (by omega)
            have hw1 : IntKind.i64.wrap ((s : Int) + (j : Int)) = (s : Int) + (j : Int) := IntWalk.i64_in _ (by omega)
            go_wp2_with (at_builtin; refine wpList_append_own _ rfl _ _ 22 rfl w.heap.size 3 i0 (.int .i64 0) 1 8 Try.underlying22 hi hz0 hz1 hz2 rfl (by decide) _ _ _ rfl (hown2.alloc _) ⟨wr.heap.size, 0, none⟩ 1 1 [.int .i64 ((s : Int) + (j : Int))] rfl rfl (cell_one_new _ _ _) (by simp [Value.oneCell']) (by unfold maxLen; omega) (by omega) (by have := hB2.size; simp; omega) ?_; intro v' w1 hown' hgrow _; have hB1 := below_append hB2 hB2.size hown2 hgrow)
            have hown1 : OwnI w1 w.heap.size v' (L ++ [(s : Int) + (j : Int)]) := OwnI.snoc hown'
            clear hown' hgrow
            go_roundw
            case rel => exact ⟨j + 1, _, by omega, by go_num, Lib.hid (by rw [HLj.out, List.append_assoc, plJ_succ]), hown1, hB1⟩
            case measure => simp [intOf]; omega
          · obtain rfl : j = l := by omega
            have HL2 := Lib.hid (show L = plP ss ls (fr ss.length (k + 1)) by rw [HSN.out, HLj.out])
            go_wp2
            go_roundw
            case rel => exact ⟨k + 1, by omega, by go_num, by rw [← HL2.out]; exact hown2, hB2⟩
            case measure => simp [intOf]; omega
      · obtain rfl : k = m := by omega
        have HA := Lib.hid (show plP ss ls (fr ss.length k) = plL ss ls by rw [← HM.out, fr_all]; rfl)
        rw [HA.out] at hown
        obtain ⟨A', c', rfl, hcc, hsl⟩ := hown.form
        go_wp2
        go_ret2
        rw [HE.out]
        exact ⟨A', c', rfl, hcc, hsl, hB⟩
  · have hd : (shE ss ls n != 0) = true := by rw [bne_iff_ne]; exact he
    have HE := Lib.hid (show orL (shE ss ls n) (plL ss ls) = [] by simp [orL, he])
    clear he
    go_enter Try.func34, Try.ntmps34
    go_wp2_with (go_at_call 26; refine C1.mono ?_; rintro e w' ⟨rfl, m, rfl⟩)
    go_ret2
    rw [HE.out]
    exact retL_nil ⟨rfl, rfl, rfl, Nat.le_refl _, fun _ _ => rfl⟩
end Go.Proofs.Ytcbkocjpkdcpfaa
