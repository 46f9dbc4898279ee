/- SegThere: its walk. -/
import Derived.Test.YtcbkocjpkdcpfaaMh
namespace Go.Proofs.Ytcbkocjpkdcpfaa
set_option linter.unusedVariables false
open Go.RowKit Go.Shelf
theorem ow_at {zs : List Int} (hz : Fine zs) (j : Nat) (hj : j ≤ zs.length) (k : Nat) (hk : (k : Int) < psum zs j) : ∃ o : Nat, nth (owF zs (fr zs.length j)) k = (o : Int) ∧ o < j ∧ psum zs o ≤ (k : Int) ∧ (k : Int) < psum zs (o + 1) := by
  induction j with
  | zero => rw [psum_zero] at hk; omega
  | succ j ih =>
    have hl := owF_fr_length hz j (by omega)
    have hn := hz.nth j (by omega)
    have hps := psum_succ zs j (by omega)
    rw [fr_succ _ j (by omega), owF_snoc]
    by_cases h : (k : Int) < psum zs j
    · obtain ⟨o, h1, h2, h3, h4⟩ := ih (by omega) h
      refine ⟨o, ?_, by omega, h3, h4⟩
      rw [← h1]
      unfold nth
      rw [List.getD_eq_getElem?_getD, List.getElem?_append_left (by omega), List.getD_eq_getElem?_getD]
    · refine ⟨j, ?_, by omega, by omega, hk⟩
      unfold nth
      rw [List.getD_eq_getElem?_getD, List.getElem?_append_right (by omega), List.getElem?_replicate]
      have e : k - (owF zs (fr zs.length j)).length < (nth zs j).toNat := by omega
      exact congrArg (fun o : Option Int => o.getD 0) (if_pos e)
theorem retL_lit2 {w w' : World} {zs : List Int} {er : Int} {e : Ending} (n : Nat) (h : RetL w zs er e w') (h2 : er = 0) (h3 : zs.length = n) :
    ∃ A c, e = .returned (.tuple #[.slice A n c, .int .i64 0]) ∧ n ≤ c ∧ Sl w' A zs ∧ Below w.heap.size w w' := retL_lit zs n h rfl h2 h3
set_option maxRecDepth 100000 in
set_option maxHeartbeats 80000000 in
theorem law6 (A : Option Addr) (c : Nat) (l : List Int) (w : World) (h : Sl w A l) (hl : l.length ≤ 9223372036854775807) :
    Calls Try.prog 6 #[.slice A l.length c] w (Good w) := by
  obtain ⟨i0, hi, hz0, hz1, hz2⟩ := info_parts int_info
  obtain ⟨hF, hlen, hsum⟩ := smL_fine l
  have D37 := some_any A c l w h hl
  obtain ⟨zs, hzs⟩ : ∃ zs, smL l = zs := ⟨_, rfl⟩
  rw [hzs] at D37 hF hlen hsum
  clear hzs
  obtain ⟨N, hN⟩ : ∃ N : Nat, zs.sum = (N : Int) := ⟨zs.sum.toNat, by have := hF.sum_nonneg; omega⟩
  obtain ⟨m, hm⟩ : ∃ m, zs.length = m := ⟨_, rfl⟩
  have hN2 : N ≤ 400 := by omega
  have hm2 : m ≤ 40 := by omega
  have hck := ck_fine hF
  have hsl : (stL zs).length = m := by rw [stL_length, hm]
  have hhl : (hdL zs).length = N + 1 := by rw [hdL_length, hN]; rfl
  have hol : (owL zs).length = N := by have := owL_length hF; omega
  rw [hN] at hck
  have C37 : Calls Try.prog 37 #[.slice A l.length c] w fun e w' => ∃ A c, e = .returned (.slice A m c) ∧ m ≤ c ∧ Sl w' A zs ∧ Below w.heap.size w w' := by
    rw [← hm]; exact D37
  have C12 : ∀ A c W, Sl W A zs → Calls Try.prog 12 #[.slice A m c] W (RetV W (.tuple #[.int .i64 (N : Int), .int .i64 0])) := fun A c W h => by
    have := check_any A c zs W h (by omega)
    rwa [hck.1, hck.2, hm] at this
  have C14 : ∀ A c W, Sl W A zs → Calls Try.prog 14 #[.slice A m c] W (fun e w' => ∃ A c, e = .returned (.tuple #[.slice A m c, .int .i64 0]) ∧ m ≤ c ∧ Sl w' A (stL zs) ∧ Below W.heap.size W w') := fun A c W h => by
    have := starts_any A c zs W h (by omega)
    rw [hck.1, hm] at this
    exact this.mono fun e w' H => retL_lit2 m H rfl hsl
  have C16 : ∀ A c W, Sl W A zs → Calls Try.prog 16 #[.slice A m c] W (fun e w' => ∃ A c, e = .returned (.tuple #[.slice A (N + 1) c, .int .i64 0]) ∧ N + 1 ≤ c ∧ Sl w' A (hdL zs) ∧ Below W.heap.size W w') := fun A c W h => by
    have := heads_any A c zs W h (by omega)
    rw [hck.1, hm] at this
    exact this.mono fun e w' H => retL_lit2 (N + 1) H rfl hhl
  have C18 : ∀ A c W, Sl W A zs → Calls Try.prog 18 #[.slice A m c] W (fun e w' => ∃ A c, e = .returned (.tuple #[.slice A N c, .int .i64 0]) ∧ N ≤ c ∧ Sl w' A (owL zs) ∧ Below W.heap.size W w') := fun A c W h => by
    have := owners_any A c zs W h (by omega)
    rw [hck.1, hm] at this
    exact this.mono fun e w' H => retL_lit2 N H rfl hol
  have C38 : ∀ A c W, Sl W A zs → Calls Try.prog 38 #[.slice A m c] W fun e w' => e = .returned (.int .i64 (N : Int)) ∧ W = w' := fun A c W h => by
    have := bsum_any A c zs W h (by omega) hF.pos (by omega)
    rwa [hN, hm] at this
  have C39 : ∀ A c W, Sl W A (stL zs) → Calls Try.prog 39 #[.slice A m c, .int .i64 (N : Int)] W (fun e w' => ∃ A c, e = .returned (.tuple #[.slice A m c, .int .i64 0]) ∧ m ≤ c ∧ Sl w' A zs ∧ Below W.heap.size W w') := fun A c W h => by
    have := lengths_any A c zs W h hF
    rw [hN, hsl] at this
    exact this.mono fun e w' H => retL_lit2 m H rfl hm
  have C40 : ∀ A c W, Sl W A (hdL zs) → Calls Try.prog 40 #[.slice A (N + 1) c] W (fun e w' => ∃ A c, e = .returned (.tuple #[.slice A m c, .int .i64 0]) ∧ m ≤ c ∧ Sl w' A zs ∧ Below W.heap.size W w') := fun A c W h => by
    have := ofHeads_any A c zs W h hF
    rw [hhl] at this
    exact this.mono fun e w' H => retL_lit2 m H rfl hm
  have C41 : ∀ A c W, Sl W A (owL zs) → Calls Try.prog 41 #[.slice A N c, .int .i64 (m : Int)] W (fun e w' => ∃ A c, e = .returned (.tuple #[.slice A m c, .int .i64 0]) ∧ m ≤ c ∧ Sl w' A zs ∧ Below W.heap.size W w') := fun A c W h => by
    have := ofOwners_any A c zs W h hF
    rw [hol, hm] at this
    exact this.mono fun e w' H => retL_lit2 m H rfl hm
  have l1 : zs.length ≤ 9223372036854775807 := by omega
  have hmk := fun W => run_make_row (P := Try.prog) 22 3 i0 (.int .i64 0) Try.underlying22 hi hz0 hz1 rfl .i64 .i64 (N + 1) (by rw [hz2]; omega) (by omega) W
  simp only [Int.natCast_add, Int.cast_ofNat_Int] at hmk
  have hw1 : IntKind.i64.wrap ((N : Int) + 1) = (N : Int) + 1 := IntWalk.i64_in _ (by omega)
  have HF := Lib.hid hF
  have HN := Lib.hid hN
  have HM := Lib.hid hm
  have HSL := Lib.hid hsl
  have HHL := Lib.hid hhl
  have HOL := Lib.hid hol
  have HHD := Lib.hid (show hdL zs = cntL (N + 1) (stL zs) by unfold hdL; rw [hN]; rfl)
  clear hN hsl hhl hol hck hsum hlen hF D37
  go_enter Try.func6, Try.ntmps6
  have hBB : Below w.heap.size w w := Below.refl _ _
  go_wp2_with fail
  refine (C37).mono ?_
  rintro e w1 ⟨A1, c1, rfl, hc1, hz, hB⟩
  have h := h.step hB
  have hBB := hBB.trans (hB.mono hBB.size)
  clear h
  go_wp2_with fail
  refine (C12 _ _ _ hz).mono ?_
  rintro e w2 ⟨rfl, hB⟩
  have hz := hz.step hB
  have hBB := hBB.trans (hB.mono hBB.size)
  go_wp2_with fail
  refine (C14 _ _ _ hz).mono ?_
  rintro e w3 ⟨A2, c2, rfl, hc2, hs, hB⟩
  have hz := hz.step hB
  have hBB := hBB.trans (hB.mono hBB.size)
  go_wp2_with fail
  refine (C16 _ _ _ hz).mono ?_
  rintro e w4 ⟨A3, c3, rfl, hc3, hd, hB⟩
  have hz := hz.step hB
  have hs := hs.step hB
  have hBB := hBB.trans (hB.mono hBB.size)
  go_wp2_with fail
  refine (C18 _ _ _ hz).mono ?_
  rintro e w5 ⟨A4, c4, rfl, hc4, ho, hB⟩
  have hz := hz.step hB
  have hs := hs.step hB
  have hd := hd.step hB
  have hBB := hBB.trans (hB.mono hBB.size)
  go_wp2_with fail
  refine (C38 _ _ _ hz).mono ?_
  rintro e w' ⟨rfl, rfl⟩
  go_wp2_with fail
  refine (C39 _ _ _ hs).mono ?_
  rintro e w6 ⟨Aha, cha, rfl, hcha, ha, hB⟩
  have hz := hz.step hB
  have hs := hs.step hB
  have hd := hd.step hB
  have ho := ho.step hB
  have hBB := hBB.trans (hB.mono hBB.size)
  go_wp2_with fail
  refine (C40 _ _ _ hd).mono ?_
  rintro e w7 ⟨Ahb, chb, rfl, hchb, hb, hB⟩
  have hz := hz.step hB
  have hs := hs.step hB
  have hd := hd.step hB
  have ho := ho.step hB
  have ha := ha.step hB
  have hBB := hBB.trans (hB.mono hBB.size)
  go_wp2_with fail
  refine (C41 _ _ _ ho).mono ?_
  rintro e w8 ⟨Ahk, chk, rfl, hchk, hk, hB⟩
  have hz := hz.step hB
  have hs := hs.step hB
  have hd := hd.step hB
  have ho := ho.step hB
  have ha := ha.step hB
  have hb := hb.step hB
  have hBB := hBB.trans (hB.mono hBB.size)
  go_wp2_with fail
  refine (eq_lit _ _ _ _ m zs _ hm ha hz l1).mono ?_
  rintro e w9 ⟨rfl, hB⟩
  have hz := hz.step hB
  have hs := hs.step hB
  have hd := hd.step hB
  have ho := ho.step hB
  have ha := ha.step hB
  have hb := hb.step hB
  have hk := hk.step hB
  have hBB := hBB.trans (hB.mono hBB.size)
  clear ha
  go_wp2_with fail
  refine (eq_lit _ _ _ _ m zs _ hm hb hz l1).mono ?_
  rintro e w10 ⟨rfl, hB⟩
  have hz := hz.step hB
  have hs := hs.step hB
  have hd := hd.step hB
  have ho := ho.step hB
  have hb := hb.step hB
  have hk := hk.step hB
  have hBB := hBB.trans (hB.mono hBB.size)
  clear hb
  go_wp2_with fail
  refine (eq_lit _ _ _ _ m zs _ hm hk hz l1).mono ?_
  rintro e w11 ⟨rfl, hB⟩
  have hz := hz.step hB
  have hs := hs.step hB
  have hd := hd.step hB
  have ho := ho.step hB
  have hk := hk.step hB
  have hBB := hBB.trans (hB.mono hBB.size)
  clear hk
  go_wp2
  have fS := Full.made w11 (N + 1) (by unfold maxLen; omega)
  have hB0 := hBB.alloc hBB.size (.cells (madeCells #[.int .i64 0] (N + 1)) 3)
  have hsW := hBB.size
  obtain ⟨g, hgg⟩ : ∃ g, w11.heap.size = g := ⟨_, rfl⟩
  rw [hgg] at fS hsW ⊢
  obtain ⟨wL, hwL⟩ : ∃ wL, w11.alloc (.cells (madeCells #[.int .i64 0] (N + 1)) 3) = wL := ⟨_, rfl⟩
  have hBL : Below g w11 wL := by rw [← hwL, ← hgg]; exact (Below.refl _ _).alloc (Nat.le_refl _) _
  have hle : w11.heap.size ≤ g := Nat.le_of_eq hgg
  rw [hwL] at fS hB0 ⊢
  have hgL : g ≤ wL.heap.size := by rw [← hwL]; simp; omega
  clear hwL hgg hBB hmk C12 C14 C16 C18 C37 C38 C39 C40 C41
  go_loopw [16] (fun i wr => ∃ k : Nat, k ≤ m ∧ i = .int .i64 k ∧ Full wr g (cntL (N + 1) ((stL zs).take k)) ∧ Below g wL wr) (fun i _ => m - (intOf i).toNat)
  case atStart => exact ⟨0, Nat.zero_le _, rfl, by rw [List.take_zero, cntL_nil]; exact fS, Below.refl _ _⟩
  case round =>
    obtain ⟨k, hk, rfl, hfr, hBr⟩ := hrel
    by_cases hlt : k < m
    · have hkz : k < zs.length := by have := HM.out; omega
      have hks : k < (stL zs).length := by rw [HSL.out]; exact hlt
      obtain ⟨b1, o1, e1, hb1, hc1⟩ := (hs.below (hBL.trans hBr) hle).at_ hks
      subst e1
      obtain ⟨p, hp⟩ : ∃ p : Nat, psum zs k = (p : Int) := ⟨(psum zs k).toNat, by have := HF.out.psum k (by omega); omega⟩
      have hpT : p ≤ N := by
        have h1 := psum_mono zs zs.length (Nat.le_refl _) HF.out.pos k zs.length (by omega) (Nat.le_refl _)
        rw [psum_all, HN.out] at h1; omega
      rw [nth_stL zs k hkz, hp] at hc1
      have HTK := Lib.hid (show (stL zs).take (k + 1) = (stL zs).take k ++ [(p : Int)] by rw [take_snoc _ _ hks, nth_stL zs k hkz, hp])
      have cP := hfr.cell p (by rw [cntL_length]; omega)
      have fP := hfr.frozen p
      have hxx : 0 ≤ nth (cntL (N + 1) ((stL zs).take k)) p ∧ nth (cntL (N + 1) ((stL zs).take k)) p ≤ 1048576 := by
        rw [nth_cntL _ _ _ (by omega)]
        have := List.count_le_length (a := (p : Int)) (l := (stL zs).take k)
        rw [List.length_take] at this
        omega
      have hp1 : (0 : Int) ≤ (p : Int) := by omega
      have hp2 : (p : Int) < (N : Int) + 1 := by omega
      have hk1 : (0 : Int) ≤ (k : Int) := by omega
      have hk2 : (k : Int) < (m : Int) := by omega
      clear hp
      obtain ⟨y, hy⟩ : ∃ y, Hid (y = nth (cntL (N + 1) ((stL zs).take k)) p) := ⟨_, Lib.hid rfl⟩
      rw [← hy.out] at cP hxx
      have CL : ∀ W, Calls Try.prog 25 #[.int .i64 (p : Int), .int .i64 0, .int .i64 (N : Int)] W fun e w' => e = .returned (.bool true) ∧ W = w' := fun W => by
        have := lies_any (p : Int) 0 (N : Int) W
        rwa [decide_eq_true (by omega)] at this
      go_wp2_with (go_at_call 25; refine (CL _).mono ?_; rintro e w' ⟨rfl, rfl⟩)
      go_roundw
      case rel => exact ⟨k + 1, by omega, by go_num, by rw [HTK.out, cntL_snoc _ _ _ (by omega), ← hy.out]; exact hfr.set_ p (y + 1), hBr.setCell (p := ⟨g, p, none⟩) (Nat.le_refl _) _⟩
      case measure => simp [intOf]; omega
    · obtain rfl : k = m := by omega
      have HD := Lib.hid (show cntL (N + 1) ((stL zs).take k) = hdL zs by rw [List.take_of_length_le (by rw [HSL.out]; exact Nat.le_refl _), HHD.out])
      rw [HD.out] at hfr
      obtain ⟨wM, rfl⟩ : ∃ wM, wM = wr := ⟨_, rfl⟩
      have hBM : Below w.heap.size w wM := hB0.trans (hBr.mono hsW)
      have hs := hs.below (hBL.trans hBr) hle
      have hz := hz.below (hBL.trans hBr) hle
      have hd := hd.below (hBL.trans hBr) hle
      have ho := ho.below (hBL.trans hBr) hle
      clear hB0 fS hBr hBL hle
      go_wp2
      go_loopw [17, 18] (fun i o wr => ∃ (q : Nat), q ≤ N ∧ i = .int .i64 q ∧ Below wM.heap.size wM wr) (fun i _ _ => N - (intOf i).toNat)
      case atStart => exact ⟨0, Nat.zero_le _, rfl, Below.refl _ _⟩
      case round =>
        obtain ⟨q, hq, rfl, hBr⟩ := hrel
        by_cases hlt : q < N
        · have hqo : q < (owL zs).length := by rw [HOL.out]; exact hlt
          obtain ⟨o, h1, h2, h3, h4⟩ := ow_at HF.out zs.length (Nat.le_refl _) q (by rw [psum_all, HN.out]; omega)
          rw [fr_all] at h1
          have h1' : nth (owL zs) q = (o : Int) := h1
          have hok : o < k := by have := HM.out; omega
          have hps := psum_succ zs o h2
          have hnn := HF.out.nth o h2
          have hpn := HF.out.psum o (by omega)
          obtain ⟨p, hp⟩ : ∃ p, psum zs o = p := ⟨_, rfl⟩
          obtain ⟨r, hr⟩ : ∃ r, nth zs o = r := ⟨_, rfl⟩
          obtain ⟨b1, o1, e1, hb1, hc1⟩ := (ho.step hBr).at_ hqo
          obtain ⟨b2, o2, e2, hb2, hc2⟩ := (hs.step hBr).at_ (k := o) (by rw [HSL.out]; exact hok)
          obtain ⟨b3, o3, e3, hb3, hc3⟩ := (hz.step hBr).at_ (k := o) (by rw [HM.out]; exact hok)
          subst e1; subst e2; subst e3
          rw [h1'] at hc1
          rw [nth_stL zs o h2, hp] at hc2
          rw [hr] at hc3 hnn hps
          rw [hp] at h3 hps hpn
          rw [hps] at h4
          have hk1 : (0 : Int) ≤ (q : Int) := by omega
          have hk2 : (q : Int) < (N : Int) := by omega
          have ho1 : (0 : Int) ≤ (o : Int) := by omega
          have ho2 : (o : Int) < (k : Int) := by omega
          have hw2 : IntKind.i64.wrap ((k : Int) - 1) = (k : Int) - 1 := IntWalk.i64_in _ (by omega)
          have hw3 : IntKind.i64.wrap (p + r) = p + r := IntWalk.i64_in _ (by omega)
          have hw4 : IntKind.i64.wrap (p + r - 1) = p + r - 1 := IntWalk.i64_in _ (by omega)
          have D1 : liesB (o : Int) 0 ((k : Int) - 1) = true := decide_eq_true (by omega)
          have D2 : liesB (q : Int) p (p + r - 1) = true := decide_eq_true (by omega)
          clear h1 h1' hp hr hps hqo
          go_wp2
          go_quiet ((go_at_call 25; exact Calls.quiet_of_same (lies_b _ _ _ _)))
          go_wp2
          go_roundw
          case rel => exact ⟨q + 1, by omega, by go_num, hBr.trans (below_drewN _ _ |>.mono hBr.size)⟩
          case measure => simp [intOf]; omega
        · have hBw : Below w.heap.size w wr := hBM.trans (hBr.mono hBM.size)
          have hfr2 := (hfr.sl).step hBr
          have hd2 := hd.step hBr
          have l2 : (hdL zs).length ≤ 9223372036854775807 := by rw [HHL.out]; omega
          have CE := fun W h h' => eq_lit (some ⟨g, 0, none⟩) A3 (N + 1) c3 (N + 1) (hdL zs) W HHL.out h h' l2
          go_wp2_with fail
          refine (CE _ hfr2 hd2).mono ?_
          rintro e wx ⟨rfl, hB⟩
          have hBw := hBw.trans (hB.mono hBw.size)
          go_wp2_with fail
          refine (cut_any _).mono ?_
          rintro e wy ⟨rfl, hB⟩
          have hBw := hBw.trans (hB.mono hBw.size)
          go_wp2
          go_ret
          exact ⟨rfl, hBw⟩
end Go.Proofs.Ytcbkocjpkdcpfaa
