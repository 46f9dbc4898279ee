/- The specification's Starts, Heads, Owners. -/
import Derived.Test.YtcbkocjpkdcpfaaSc
import Derived.Deep.DeepCutAuto
import Derived.IntWalk
import Derived.Deep.RegionWith
namespace Go.Proofs.Ytcbkocjpkdcpfaa
set_option linter.unusedVariables false
open Go.RowKit

theorem retS_retL {w w' w1 : World} {A : Option Addr} {c : Nat} {zs : List Int} {er : Int} (hc : zs.length ≤ c) (h : Sl w' A zs) (hB : Below w.heap.size w w') : RetL w zs er (.returned (.tuple #[.slice A zs.length c, .int .i64 er])) w' := ⟨A, c, rfl, hc, h, hB⟩

set_option maxRecDepth 100000 in
set_option maxHeartbeats 1000000 in
theorem rstarts_any (A : Option Addr) (c : Nat) (zs : List Int) (w : World) (h : Sl w A zs) (hl : zs.length ≤ 9223372036854775807) :
    Calls Try.prog 15 #[.slice A zs.length c] w (RetL w (orL (ckE zs) (stL zs)) (ckE zs)) := by
  have C1 := rcheck_any A c zs w h hl
  by_cases he : ckE zs = 0
  · have hF := Fine.of_ck he
    have C2 := begin_any A c zs w h hF.len hF.pos hF.sum
    have HE := Lib.hid he
    rw [he] at C1
    clear he
    go_enter Try.func15, Try.ntmps15
    go_wp2_with (first | (go_at_call 13; refine C1.mono ?_; rintro e w' ⟨rfl, rfl⟩) | (go_at_call 49; refine C2.mono ?_; rintro e w' ⟨A', c', rfl, hc', hs', hB'⟩))
    go_ret2
    rw [HE.out]
    exact ⟨A', c', rfl, hc', hs', hB'⟩
  · have hd : (ckE zs != 0) = true := by rw [bne_iff_ne]; exact he
    have HE := Lib.hid (show orL (ckE zs) (stL zs) = [] by simp [orL, he])
    clear he
    go_enter Try.func15, Try.ntmps15
    go_wp2_with (go_at_call 13; refine C1.mono ?_; rintro e w' ⟨rfl, rfl⟩)
    go_ret2
    rw [HE.out]
    exact retL_nil (Below.refl _ _)

theorem Full.drew_ {w : World} {g : Nat} {zs : List Int} (h : Full w g zs) : Full w.drew g zs := h
/-- How often each place comes. -/
def cntL (n : Nat) (l : List Int) : List Int := (List.range n).map fun p : Nat => ((l.count (p : Int) : Nat) : Int)
theorem cntL_length (n : Nat) (l : List Int) : (cntL n l).length = n := by simp [cntL]
theorem nth_cntL (n : Nat) (l : List Int) (p : Nat) (h : p < n) : nth (cntL n l) p = ((l.count (p : Int) : Nat) : Int) := by
  rw [nth_eq _ _ (by rw [cntL_length]; exact h)]; simp [cntL]
theorem cntL_nil (n : Nat) : cntL n [] = List.replicate n 0 := by
  apply List.ext_getElem
  · simp [cntL]
  · intro i h1 h2; simp [cntL]
theorem cntL_snoc (n : Nat) (l : List Int) (s : Nat) (h : s < n) : cntL n (l ++ [(s : Int)]) = (cntL n l).set s (nth (cntL n l) s + 1) := by
  apply List.ext_getElem
  · simp [cntL]
  · intro i h1 h2
    rw [cntL_length] at h1
    simp only [nth_cntL n l s h, List.getElem_set]
    by_cases e : s = i
    · subst e; simp [cntL]
    · have : ¬ (s : Int) = (i : Int) := by omega
      simp [cntL, e, List.count_append, this]
/-- The heads: of each place how many segments begin there. -/
def hdL (zs : List Int) : List Int := cntL (zs.sum.toNat + 1) (stL zs)


set_option maxRecDepth 100000 in
set_option maxHeartbeats 4000000 in
theorem rheads_any (A : Option Addr) (c : Nat) (zs : List Int) (w : World) (h : Sl w A zs) (hl : zs.length ≤ 9223372036854775807) :
    Calls Try.prog 17 #[.slice A zs.length c] w (RetL w (orL (ckE zs) (hdL zs)) (ckE zs)) := by
  obtain ⟨i0, hi, hz0, hz1, hz2⟩ := info_parts int_info
  have C1 := rcheck_any A c zs w h hl
  by_cases he : ckE zs = 0
  · have hF := Fine.of_ck he
    obtain ⟨T, hT⟩ : ∃ T : Nat, zs.sum = (T : Int) := ⟨zs.sum.toNat, by have := hF.psum zs.length (Nat.le_refl _); rw [psum_all] at this; omega⟩
    have hT1 : T ≤ 1048576 := by have := hF.sum; omega
    have C2 := fun W (hB : Below w.heap.size w W) => begin_own A c zs W (h.step hB) hF.len hF.pos hF.sum
    have hmk := fun W => run_make_row (P := Try.prog) 22 3 i0 (.int .i64 0) Try.underlying22 hi hz0 hz1 rfl .i64 .i64 (T + 1) (by rw [hz2]; omega) (by omega) W
    have HE := Lib.hid he
    rw [he, (ck_ok he).2.2.2.2, hT] at C1
    have HT := Lib.hid hT
    clear he hT
    simp only [Int.natCast_add, Int.cast_ofNat_Int] at hmk
    have hw1 : IntKind.i64.wrap ((T : Int) + 1) = (T : Int) + 1 := IntWalk.i64_in _ (by omega)
    go_enter Try.func17, Try.ntmps17
    go_upto_region 4 with (go_at_call 13; refine C1.mono ?_; rintro e w' ⟨rfl, rfl⟩)
    go_cut [6, 7] (fun a b wx => ∃ g A' c', a = .slice (some ⟨g, 0, none⟩) (T + 1) (T + 1) ∧ b = .slice A' (stL zs).length c' ∧ Full wx g (List.replicate (T + 1) 0) ∧ Sl wx A' (stL zs) ∧ NotAt A' g ∧ w.heap.size ≤ g ∧ Below w.heap.size w wx)
    case first =>
      go_region_with (go_at_call 49; refine (C2 _ (by repeat (first | exact Below.refl _ _ | refine Below.drew ?_ | refine Below.alloc ?_ (by simp) _))).mono ?_; rintro e w2 ⟨v, rfl, ho, hb⟩)
      · obtain ⟨A', c', rfl, hcc, hsl, hfr⟩ := ho.form'
        go_wp2_with fail
        go_meet
        exact ⟨w.heap.size, A', c', rfl, rfl, ((Full.drew_ (Full.made w (T + 1) (by unfold maxLen; omega))).below hb (Nat.le_refl _)), hsl, fun a e => by have := (hfr a e).1; simp at this; omega, Nat.le_refl _, (((Below.refl w.heap.size w).alloc (Nat.le_refl _) _).drew).trans (hb.mono (B' := w.heap.size) (by simp))⟩
      · obtain ⟨A', c', rfl, hcc, hsl, hfr⟩ := ho.form'
        go_wp2_with fail
        go_meet
        exact ⟨w2.heap.size, A', c', rfl, rfl, (Full.made w2 (T + 1) (by unfold maxLen; omega)), hsl.step ((Below.refl _ _).alloc (Nat.le_refl _) _), fun a e => by have := (hfr a e).2; omega, hb.size, ((Below.refl w.heap.size w).drew.trans hb).alloc hb.size _⟩
    case rest =>
      obtain ⟨g, A', c', rfl, rfl, hf, hs, hna, hg, hB⟩ := hcut
      have hF' := Lib.hid hF
      have hlen := hF.len
      have HLs := Lib.hid (stL_length zs)
      clear hF C1 C2 hmk h
      go_wp2
      go_loopw [8] (fun i wr => ∃ k : Nat, k ≤ (stL zs).length ∧ i = .int .i64 k ∧ Full wr g (cntL (T + 1) ((stL zs).take k)) ∧ Sl wr A' (stL zs) ∧ Below w.heap.size w wr) (fun i _ => (stL zs).length - (intOf i).toNat)
      case atStart => exact ⟨0, Nat.zero_le _, rfl, by rw [List.take_zero, cntL_nil]; exact hf, hs, hB⟩
      case round =>
        obtain ⟨k, hk, rfl, hfr, hsr, hBr⟩ := hrel
        by_cases hlt : k < (stL zs).length
        · obtain ⟨b1, o1, rfl, hb1, hc1⟩ := hsr.at_ hlt
          have hk' : k < zs.length := by rw [HLs.out] at hlt; exact hlt
          obtain ⟨p, hp⟩ : ∃ p : Nat, psum zs k = (p : Int) := ⟨(psum zs k).toNat, by have := hF'.out.psum k (by omega); omega⟩
          have hpT : p ≤ T := by
            have h1 := psum_mono zs zs.length (Nat.le_refl _) hF'.out.pos k zs.length (by omega) (Nat.le_refl _)
            rw [psum_all, HT.out] at h1; omega
          rw [nth_stL zs k hk', hp] at hc1
          have HTK := Lib.hid (show (stL zs).take (k + 1) = (stL zs).take k ++ [(p : Int)] by rw [take_snoc _ _ hlt, nth_stL zs k hk', hp])
          have c3 := hfr.cell p (by rw [cntL_length]; omega)
          have f3 := hfr.frozen p
          have hxx : 0 ≤ nth (cntL (T + 1) ((stL zs).take k)) p ∧ nth (cntL (T + 1) ((stL zs).take k)) p ≤ 1048576 := by
            rw [nth_cntL _ _ _ (by omega)]
            have := List.count_le_length (a := (p : Int)) (l := (stL zs).take k)
            rw [List.length_take] at this
            have := HLs.out
            omega
          have hp1 : (0 : Int) ≤ (p : Int) := by omega
          have hp2 : (p : Int) < (T : Int) + 1 := by omega
          clear hp
          obtain ⟨y, hy⟩ : ∃ y, Hid (y = nth (cntL (T + 1) ((stL zs).take k)) p) := ⟨_, Lib.hid rfl⟩
          rw [← hy.out] at c3 hxx
          go_wp2
          go_roundw
          case rel => exact ⟨k + 1, by omega, by go_num, by rw [HTK.out, cntL_snoc _ _ _ (by omega), ← hy.out]; exact hfr.set_ p (y + 1), hsr.far hna _, hBr.setCell (p := ⟨g, p, none⟩) hg _⟩
          case measure => simp [intOf]; omega
        · obtain rfl : k = (stL zs).length := by omega
          have HD := Lib.hid (show cntL (T + 1) ((stL zs).take (stL zs).length) = hdL zs by rw [List.take_length]; unfold hdL; rw [HT.out]; rfl)
          rw [HD.out] at hfr
          go_wp2
          go_ret2
          rw [HE.out]
          exact retL_full hfr hBr (by show T + 1 = (hdL zs).length; unfold hdL; rw [cntL_length, HT.out]; rfl)
  · have hd : (ckE zs != 0) = true := by rw [bne_iff_ne]; exact he
    have HE := Lib.hid (show orL (ckE zs) (hdL zs) = [] by simp [orL, he])
    clear he
    go_enter Try.func17, Try.ntmps17
    go_wp2_with (go_at_call 13; refine C1.mono ?_; rintro e w' ⟨rfl, rfl⟩)
    go_ret2
    rw [HE.out]
    exact retL_nil (Below.refl _ _)

set_option maxRecDepth 100000 in
set_option maxHeartbeats 4000000 in
theorem rowners_any (A : Option Addr) (c : Nat) (zs : List Int) (w : World) (h : Sl w A zs) (hl : zs.length ≤ 9223372036854775807) :
    Calls Try.prog 19 #[.slice A zs.length c] w (RetL w (orL (ckE zs) (owL zs)) (ckE zs)) := by
  obtain ⟨i0, hi, hz0, hz1, hz2⟩ := info_parts int_info
  have C1 := rcheck_any A c zs w h hl
  by_cases he : ckE zs = 0
  · have hF := Fine.of_ck he
    have hlen := hF.len
    have HE := Lib.hid he
    rw [he] at C1
    have hsum := hF.sum
    clear he
    go_enter Try.func19, Try.ntmps19
    go_wp2_with (go_at_call 13; refine C1.mono ?_; rintro e w' ⟨rfl, rfl⟩)
    go_loopw [6, 7] (fun v i wr => ∃ k : Nat, k ≤ zs.length ∧ i = .int .i64 k ∧ OwnI wr w.heap.size v (owF zs (fr zs.length k)) ∧ Below w.heap.size w wr) (fun _ i _ => zs.length - (intOf i).toNat)
    case atStart => exact ⟨0, Nat.zero_le _, rfl, OwnI.empty w _ (Nat.le_refl _), (Below.refl _ _).alloc (Nat.le_refl _) _⟩
    case round =>
      obtain ⟨k, hk, rfl, hown, hB⟩ := hrel
      by_cases hlt : k < zs.length
      · have hn := hF.nth k hlt
        have hO := owF_fr_length hF k hk
        have hP := (hF.psum (k + 1) (by omega)).2
        rw [psum_succ zs k hlt] at hP
        have hLb : ((owF zs (fr zs.length k)).length : Int) + nth zs k ≤ 1048576 := by rw [hO]; exact hP
        have HF := Lib.hid (show owF zs (fr zs.length (k + 1)) = owF zs (fr zs.length k) ++ List.replicate (nth zs k).toNat (k : Int) by rw [fr_succ _ k hlt, owF_snoc])
        clear hO hP
        obtain ⟨bl, off, rfl, hbl, hc⟩ := h.at_ hlt
        obtain ⟨wo, rfl⟩ : ∃ wo : World, wo = wr := ⟨_, rfl⟩
        go_wp2
        go_loopw [6, 8] (fun v j wr => ∃ (m : Nat) (L : List Int), (m : Int) ≤ nth zs k ∧ j = .int .i64 m ∧ Hid (L = owF zs (fr zs.length k) ++ List.replicate m (k : Int)) ∧ (L.length : Int) + (nth zs k - m) ≤ 1048576 ∧ OwnI wr w.heap.size v L ∧ Below w.heap.size w wr) (fun _ j _ => (nth zs k).toNat - (intOf j).toNat)
        case atStart => exact ⟨0, _, hn.1, rfl, Lib.hid (by simp), by omega, hown, hB⟩
        case round =>
          obtain ⟨m, L, hm, rfl, HL, hLb2, hown2, hB2⟩ := hrel
          have hc1 := (hB2.cell (p := ⟨bl, off + k, none⟩) hbl).trans hc
          by_cases hml : (m : Int) < nth zs k
          · go_wp2_with (at_builtin; refine wpList_append_own _ rfl _ _ 22 rfl w.heap.size 3 i0 (.int .i64 0) 1 8 Try.underlying22 hi hz0 hz1 hz2 rfl (by decide) _ _ _ rfl (hown2.alloc _) ⟨wr.heap.size, 0, none⟩ 1 1 [.int .i64 (k : Int)] rfl rfl (cell_one_new _ _ _) (by simp [Value.oneCell']) (by unfold maxLen; omega) (by omega) (by have := hB2.size; simp; omega) ?_; intro v' w1 hown' hgrow _; have hB1 := below_append hB2 hB2.size hown2 hgrow)
            have hown1 : OwnI w1 w.heap.size v' (L ++ [(k : Int)]) := OwnI.snoc hown'
            clear hown' hgrow
            go_roundw
            case rel => exact ⟨m + 1, L ++ [(k : Int)], by omega, by go_num, Lib.hid (by rw [HL.out, List.append_assoc, List.replicate_succ']), by rw [List.length_append]; simp only [List.length_cons, List.length_nil]; omega, hown1, hB1⟩
            case measure => simp [intOf]; omega
          · have hme : (nth zs k).toNat = m := by omega
            have HL2 := Lib.hid (show L = owF zs (fr zs.length (k + 1)) by rw [HF.out, HL.out, hme])
            clear hme
            go_wp2
            go_roundw
            case rel => exact ⟨k + 1, by omega, by go_num, by rw [← HL2.out]; exact hown2, hB2⟩
            case measure => simp [intOf]; omega
      · obtain rfl : k = zs.length := by omega
        obtain ⟨A', c', rfl, hcc, hsl⟩ := hown.form
        go_wp2
        go_ret2
        rw [HE.out]
        have e : owF zs (fr zs.length zs.length) = owL zs := by rw [fr_all]; rfl
        rw [e] at hcc hsl ⊢
        exact ⟨A', c', rfl, hcc, hsl, hB⟩
  · have hd : (ckE zs != 0) = true := by rw [bne_iff_ne]; exact he
    have HE := Lib.hid (show orL (ckE zs) (owL zs) = [] by simp [orL, he])
    clear he
    go_enter Try.func19, Try.ntmps19
    go_wp2_with (go_at_call 13; refine C1.mono ?_; rintro e w' ⟨rfl, rfl⟩)
    go_ret2
    rw [HE.out]
    exact retL_nil (Below.refl _ _)
end Go.Proofs.Ytcbkocjpkdcpfaa
