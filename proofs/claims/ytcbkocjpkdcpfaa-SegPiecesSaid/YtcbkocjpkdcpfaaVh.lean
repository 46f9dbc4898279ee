/- SegPieces: its walk. -/
import Derived.Test.YtcbkocjpkdcpfaaMi
import Derived.Test.YtcbkocjpkdcpfaaVg
namespace Go.Proofs.Ytcbkocjpkdcpfaa
set_option linter.unusedVariables false
open Go.RowKit Go.Shelf
theorem nest_ok {zs ys : List Int} (hN : Nests zs ys) (R : List Int) (hR : nsL zs ys = R) (k p : Nat) (hk : zs.length = k) (hp : ys.length = p) (A A' : Option Addr) (c c' : Nat) (W : World) (h : Sl W A zs) (h' : Sl W A' ys) (hc' : p ≤ c') (hc2 : c' ≤ 9223372036854775807) :
    Calls Try.prog 21 #[.slice A k c, .slice A' p c'] W fun e w' => ∃ A c, e = .returned (.tuple #[.slice A k c, .int .i64 0]) ∧ k ≤ c ∧ Sl w' A R ∧ Below W.heap.size W w' := by
  have := nest_any A A' c c' zs ys W h h' (by have := hN.outer.len; omega) (by have := hN.inner.len; omega) (by omega) hc2
  rw [hN.err, hk, hp] at this
  exact this.mono fun e w' H => retL_lit R k H hR rfl (by rw [← hR, nsL_length, hk])
set_option maxRecDepth 100000 in
set_option maxHeartbeats 80000000 in
theorem law7 (A : Option Addr) (c : Nat) (l : List Int) (n : Int) (w : World) (h : Sl w A l) (hl : l.length ≤ 9223372036854775807) :
    Calls Try.prog 7 #[.slice A l.length c, .int .i64 n] w (Good w) := by
  obtain ⟨hF, hlen, hsum⟩ := smL_fine l
  have D37 := some_cap A c l w h hl
  obtain ⟨zs, hzs⟩ : ∃ zs, smL l = zs := ⟨_, rfl⟩
  rw [hzs] at D37 hF hlen hsum
  clear hzs
  obtain ⟨m1, hm1⟩ : ∃ m, zs.length = m := ⟨_, rfl⟩
  have hm40 : m1 ≤ 40 := by omega
  have hr0 : 0 ≤ n % 11 ∧ n % 11 ≤ 10 := by omega
  have C42 := fun W => turn_any n 11 W (by omega) (by omega)
  obtain ⟨r, hrr⟩ : ∃ r, n % 11 = r := ⟨_, rfl⟩
  rw [hrr] at C42 hr0
  clear hrr
  obtain ⟨m, hr⟩ : ∃ m : Nat, 1 + r = (m : Int) := ⟨(1 + r).toNat, by omega⟩
  have hm : 1 ≤ m := by omega
  have hm11 : m ≤ 11 := by omega
  have N1 := sp_nests hF hm
  have hPp := spP_pos hF hm
  have hPs := spP_sum hF hm
  have hPl := spP_len hF hm
  have hb1 := sp_back hF hm
  have hse := sp_err hF hm (x := (m : Int)) rfl (by omega)
  obtain ⟨m2, hm2e⟩ : ∃ m2, 1 + m / 2 = m2 := ⟨_, rfl⟩
  have hm2 : 1 ≤ m2 := by omega
  have hm2b : m2 ≤ 11 := by omega
  have N2 := sp_nests N1.inner hm2
  have hSl := spP_len N1.inner hm2
  have hb2 := sp_back N1.inner hm2
  have hse2 := sp_err N1.inner hm2 (x := (m2 : Int)) rfl (by omega)
  have hol : (spO zs m).length = m1 := by simp [spO, hm1]
  have HPK := Lib.hid (show ∀ i k, i < m1 → k < chN (nth zs i).toNat m → nth (spP zs m) ((spPK zs m i).length + k) = nth (chL (nth zs i).toNat m) k from fun i k hi hk => nth_spP hF hm i k (by omega) hk)
  have HOK := Lib.hid (show ∀ i, i < m1 → nth (spO zs m) i = ((chN (nth zs i).toNat m : Nat) : Int) from fun i hi => by rw [nth_eq _ _ (by omega)]; simp [spO])
  have HLE := Lib.hid (show ∀ i, i ≤ m1 → (spPK zs m i).length ≤ (spP zs m).length from fun i hi => by
    obtain ⟨R, h⟩ := sp_pre hF hm i (by omega)
    rw [h, List.length_append]; omega)
  have HEND := Lib.hid (show (spPK zs m m1).length = (spP zs m).length by rw [← hm1]; rfl)
  have HSC := Lib.hid (fun i => spPK_succ zs m i)
  obtain ⟨P, hPe⟩ : ∃ P, spP zs m = P := ⟨_, rfl⟩
  rw [hPe] at N1 hPp hPs hPl hb1 N2 hSl hb2 hse2 HPK HLE HEND
  obtain ⟨O, hOe⟩ : ∃ O, spO zs m = O := ⟨_, rfl⟩
  rw [hOe] at N1 hb1 hol HOK
  obtain ⟨p, hpl⟩ : ∃ p, P.length = p := ⟨_, rfl⟩
  obtain ⟨S, hSe⟩ : ∃ S, spP P m2 = S := ⟨_, rfl⟩
  have hgl : (spO P m2).length = p := by simp [spO, hpl]
  obtain ⟨G, hGe⟩ : ∃ G, spO P m2 = G := ⟨_, rfl⟩
  rw [hSe, hGe] at N2 hb2
  rw [hSe] at hSl
  rw [hGe] at hgl
  obtain ⟨s, hsl⟩ : ∃ s, S.length = s := ⟨_, rfl⟩
  have hp400 : p ≤ 400 := by omega
  have hs400 : s ≤ 400 := by omega
  obtain ⟨hCf, hCs⟩ := gr_fine (m1 : Int) n (by omega) (by omega)
  have hCe := gr_end (m1 : Int) n (by omega) (by omega)
  have hCl := (gr_inv (m1 : Int) n (by omega) 1000).2.1
  have D43 := fun W => groups_any (m1 : Int) n W (by omega) (by omega)
  rw [hCe] at D43
  obtain ⟨C, hC⟩ : ∃ C, (grK (m1 : Int) n 1000).1 = C := ⟨_, rfl⟩
  rw [hC] at hCf hCs hCl D43
  obtain ⟨q, hql⟩ : ∃ q, C.length = q := ⟨_, rfl⟩
  have N3 : Nests O G := ⟨N1.outer, N2.outer, by rw [N1.sum, hpl, hgl]⟩
  have N4 : Nests (nsL O G) S := ⟨N3.fine, N2.inner, by rw [N3.total, N2.sum]⟩
  have N5 : Nests C O := ⟨hCf, N1.outer, by rw [hCs, hol]⟩
  have N6 : Nests (nsL C O) P := ⟨N5.fine, N1.inner, by rw [N5.total, N1.sum]⟩
  have N7 : Nests C zs := ⟨hCf, hF, by rw [hCs, hm1]⟩
  have hb4 : nsL (nsL O G) S = zs := by rw [ns_assoc N3, hb2, hb1]
  have hb6' : nsL (nsL C O) P = nsL C zs := by rw [ns_assoc N5, hb1]
  have hal : (nsL O G).length = m1 := by rw [nsL_length, hol]
  have hcl : (nsL C O).length = q := by rw [nsL_length, hql]
  have hxl' : (nsL C zs).length = q := by rw [nsL_length, hql]
  obtain ⟨xs, hb7⟩ : ∃ xs, nsL C zs = xs := ⟨_, rfl⟩
  have hb6 := hb6'.trans hb7
  have hxl : xs.length = q := by rw [← hb7]; exact hxl'
  have C37 : Calls Try.prog 37 #[.slice A l.length c] w fun e w' => ∃ A c, e = .returned (.slice A m1 c) ∧ m1 ≤ c ∧ c ≤ 9223372036854775807 ∧ Sl w' A zs ∧ Below w.heap.size w w' := by
    rw [← hm1]; exact D37
  have C23 : ∀ A c W, Sl W A zs → Calls Try.prog 23 #[.slice A m1 c, .int .i64 (m : Int)] W (fun e w' => ∃ A A', e = .returned (.tuple #[.slice A p p, .slice A' m1 m1, .int .i64 0]) ∧ Sl w' A P ∧ Sl w' A' O ∧ Below W.heap.size W w') := fun A c W h => by
    have := split_cap A c zs (m : Int) W h (by omega)
    rw [hse, Int.toNat_natCast, hPe, hOe, hm1, show orL 0 P = P from rfl, show orL 0 O = O from rfl] at this
    unfold RetLC at this
    rw [hpl, hol] at this
    exact this
  have C23b : ∀ A c W, Sl W A P → Calls Try.prog 23 #[.slice A p c, .int .i64 (1 + (m : Int) / 2)] W (fun e w' => ∃ A A', e = .returned (.tuple #[.slice A s s, .slice A' p p, .int .i64 0]) ∧ Sl w' A S ∧ Sl w' A' G ∧ Below W.heap.size W w') := fun A c W h => by
    have := split_cap A c P (m2 : Int) W h (by omega)
    rw [show (1 + (m : Int) / 2) = (m2 : Int) by omega]
    rw [hse2, Int.toNat_natCast, hSe, hGe, hpl, show orL 0 S = S from rfl, show orL 0 G = G from rfl] at this
    unfold RetLC at this
    rw [hsl, hgl] at this
    exact this
  have C43 : ∀ W, Calls Try.prog 43 #[.int .i64 (m1 : Int), .int .i64 n] W (fun e w' => ∃ A c, e = .returned (.tuple #[.slice A q c, .bool true]) ∧ q ≤ c ∧ Sl w' A C ∧ Below W.heap.size W w') := fun W => by
    have := D43 W
    rw [hql] at this
    exact this
  have hz400 : zs.length ≤ 9223372036854775807 := by omega
  have hx400 : xs.length ≤ 9223372036854775807 := by omega
  have HPL := Lib.hid hpl
  have HOL := Lib.hid hol
  have HM1 := Lib.hid hm1
  clear D37 D43 hb6' hxl' hCe hCl hCs hCf hC hSe hGe hOe hPe hse hse2 hb2 hPs hPl hSl hPp hF hsum hlen
  go_enter Try.func7, Try.ntmps7
  have hBB : Below w.heap.size w w := Below.refl _ _
  go_wp2_with fail
  refine (C37).mono ?_
  rintro e w1 ⟨A1, c1, rfl, hc1, hx1, hz, hB⟩
  have h := h.step hB
  have hBB := hBB.trans (hB.mono hBB.size)
  clear h
  go_wp2_with fail
  refine (C42 _).mono ?_
  rintro e w' ⟨rfl, rfl⟩
  go_wp2_with fail
  refine (C23 _ _ _ hz).mono ?_
  rintro e w2 ⟨A2, A3, rfl, hP, hO, hB⟩
  have hz := hz.step hB
  have hBB := hBB.trans (hB.mono hBB.size)
  go_wp2_with fail
  refine (nest_ok N1 zs hb1 m1 p hol hpl _ _ _ _ _ hO hP (Nat.le_refl _) (by omega)).mono ?_
  rintro e w3 ⟨Aha, cha, rfl, hcha, ha, hB⟩
  have hz := hz.step hB
  have hP := hP.step hB
  have hO := hO.step hB
  have hBB := hBB.trans (hB.mono hBB.size)
  go_wp2_with fail
  refine (eq_lit _ _ _ _ m1 zs _ hm1 ha hz (by omega)).mono ?_
  rintro e w4 ⟨rfl, hB⟩
  have hz := hz.step hB
  have hP := hP.step hB
  have hO := hO.step hB
  have ha := ha.step hB
  have hBB := hBB.trans (hB.mono hBB.size)
  clear ha
  go_wp2
  go_loopw [12, 13, 14] (fun t i k wr => ∃ (j b : Nat), j ≤ m1 ∧ i = .int .i64 j ∧ t = .int .i64 b ∧ Hid ((spPK zs m j).length = b) ∧ b ≤ p ∧ Below w4.heap.size w4 wr) (fun _ i _ _ => m1 - (intOf i).toNat)
  case atStart => exact ⟨0, 0, Nat.zero_le _, rfl, rfl, Lib.hid rfl, Nat.zero_le _, Below.refl _ _⟩
  case round =>
    obtain ⟨j, b, hj, rfl, rfl, HB, hbp, hBr⟩ := hrel
    by_cases hlt : j < m1
    · have hcv := HOK.out j hlt
      have hch := nth_chL (nth zs j).toNat m
      have hle := HLE.out (j + 1) (by omega)
      rw [HSC.out, List.length_append, chL_length, HB.out, HPL.out] at hle
      have HNX := Lib.hid (show (spPK zs m (j + 1)).length = b + chN (nth zs j).toNat m by rw [HSC.out, List.length_append, chL_length, HB.out])
      have HV := Lib.hid (fun k hk => HPK.out j k hlt hk)
      obtain ⟨cn, hcn⟩ : ∃ cn, chN (nth zs j).toNat m = cn := ⟨_, rfl⟩
      rw [hcn] at hcv hch hle HNX HV
      rw [HB.out] at HV
      have HCH := Lib.hid hch
      have HCN := Lib.hid hcn
      obtain ⟨b1, o1, e1, hb1', hc1'⟩ := (hO.step hBr).at_ (k := j) (by rw [HOL.out]; exact hlt)
      rw [hcv] at hc1'
      have hk1 : (0 : Int) ≤ (j : Int) := by omega
      have hk2 : (j : Int) < (m1 : Int) := by omega
      clear hcv hcn hch
      subst e1
      go_wp2
      go_loopw [12, 14] (fun t k wr => ∃ (i a : Nat), i ≤ cn ∧ k = .int .i64 i ∧ t = .int .i64 a ∧ Hid (a = b + i) ∧ Below w4.heap.size w4 wr) (fun _ k _ => cn - (intOf k).toNat)
      case atStart => exact ⟨0, b, Nat.zero_le _, rfl, rfl, Lib.hid rfl, hBr⟩
      case round =>
        obtain ⟨i, a, hi, rfl, rfl, hab, hBr2⟩ := hrel
        have hcr := ((hO.step hBr2).at_ (k := j) (by rw [HOL.out]; exact hlt))
        obtain ⟨b2, o2, e2, hb2', hc2'⟩ := hcr
        injection e2 with e2
        injection e2 with e3 e4
        subst e3; subst e4
        rw [HOK.out j hlt, HCN.out] at hc2'
        by_cases hic : i < cn
        · have hap : a < p := by have := hab.out; omega
          obtain ⟨b3, o3, e5, hb3', hc3'⟩ := (hP.step hBr2).at_ (k := a) (by rw [HPL.out]; exact hap)
          subst e5
          have hPa : nth P a = nth (chL (nth zs j).toNat m) i := by rw [hab.out]; exact HV.out i hic
          have hva := HCH.out i hm hic
          rw [hPa] at hc3'
          obtain ⟨v, hv⟩ : ∃ v, nth (chL (nth zs j).toNat m) i = v := ⟨_, rfl⟩
          rw [hv] at hc3' hva
          obtain ⟨hv1, hv2, hv3⟩ := hva
          clear hv hPa
          have hk3 : (0 : Int) ≤ (a : Int) := by omega
          have hk4 : (a : Int) < (p : Int) := by omega
          have CL : ∀ W, Calls Try.prog 25 #[.int .i64 v, .int .i64 1, .int .i64 (m : Int)] W fun e w' => e = .returned (.bool true) ∧ W = w' := fun W => by
            have := lies_any v 1 (m : Int) W
            rwa [decide_eq_true (by omega)] at this
          by_cases h2 : i + 1 < cn
          · have hd : decide ((i : Int) + 1 < (cn : Int)) = true := by simp; omega
            have hve := hv3 h2
            subst hve
            clear hv3
            go_wp2_with (go_at_call 25; refine (CL _).mono ?_; rintro e w' ⟨rfl, rfl⟩)
            go_roundw
            case rel => exact ⟨i + 1, a + 1, by omega, by go_num, by go_num, Lib.hid (by have := hab.out; omega), hBr2⟩
            case measure => simp [intOf]; omega
          · have hd : decide ((i : Int) + 1 < (cn : Int)) = false := by simp; omega
            clear hv3
            go_wp2_with (go_at_call 25; refine (CL _).mono ?_; rintro e w' ⟨rfl, rfl⟩)
            go_roundw
            case rel => exact ⟨i + 1, a + 1, by omega, by go_num, by go_num, Lib.hid (by have := hab.out; omega), hBr2⟩
            case measure => simp [intOf]; omega
        · obtain rfl : i = cn := by omega
          go_wp2
          go_roundw
          case rel => exact ⟨j + 1, a, by omega, by go_num, rfl, Lib.hid (by rw [HNX.out]; exact hab.out.symm), by have := hab.out; omega, hBr2⟩
          case measure => simp [intOf]; omega
    · obtain rfl : m1 = j := by omega
      obtain rfl : p = b := by have := HEND.out; rw [HB.out, HPL.out] at this; exact this.symm
      obtain ⟨wE, rfl⟩ : ∃ wE, wE = wr := ⟨_, rfl⟩
      have hz := hz.step hBr
      have hP := hP.step hBr
      have hO := hO.step hBr
      have hBB := hBB.trans (hBr.mono hBB.size)
      go_wp2_with fail
      refine (C23b _ _ _ hP).mono ?_
      rintro e w21 ⟨A4, A5, rfl, hS, hG, hB⟩
      have hz := hz.step hB
      have hP := hP.step hB
      have hO := hO.step hB
      have hBB := hBB.trans (hB.mono hBB.size)
      go_wp2_with fail
      refine (C43 _).mono ?_
      rintro e w22 ⟨A6, c6, rfl, hc6, hC, hB⟩
      have hz := hz.step hB
      have hP := hP.step hB
      have hO := hO.step hB
      have hS := hS.step hB
      have hG := hG.step hB
      have hBB := hBB.trans (hB.mono hBB.size)
      go_wp2_with fail
      refine (nest_ok N3 _ rfl m1 p hol hgl _ _ _ _ _ hO hG (Nat.le_refl _) (by omega)).mono ?_
      rintro e w23 ⟨Aha, cha, rfl, hcha, ha, hB⟩
      have hz := hz.step hB
      have hP := hP.step hB
      have hO := hO.step hB
      have hS := hS.step hB
      have hG := hG.step hB
      have hC := hC.step hB
      have hBB := hBB.trans (hB.mono hBB.size)
      go_wp2_with fail
      refine (nest_ok N4 zs hb4 m1 s hal hsl _ _ _ _ _ ha hS (Nat.le_refl _) (by omega)).mono ?_
      rintro e w24 ⟨Ahb, chb, rfl, hchb, hb, hB⟩
      have hz := hz.step hB
      have hP := hP.step hB
      have hO := hO.step hB
      have hS := hS.step hB
      have hG := hG.step hB
      have hC := hC.step hB
      have ha := ha.step hB
      have hBB := hBB.trans (hB.mono hBB.size)
      go_wp2_with fail
      refine (nest_ok N5 _ rfl q m1 hql hol _ _ _ _ _ hC hO (Nat.le_refl _) (by omega)).mono ?_
      rintro e w25 ⟨Ahc, chc, rfl, hchc, hc, hB⟩
      have hz := hz.step hB
      have hP := hP.step hB
      have hO := hO.step hB
      have hS := hS.step hB
      have hG := hG.step hB
      have hC := hC.step hB
      have ha := ha.step hB
      have hb := hb.step hB
      have hBB := hBB.trans (hB.mono hBB.size)
      go_wp2_with fail
      refine (nest_ok N6 xs hb6 q p hcl hpl _ _ _ _ _ hc hP (Nat.le_refl _) (by omega)).mono ?_
      rintro e w26 ⟨Ahd, chd, rfl, hchd, hd, hB⟩
      have hz := hz.step hB
      have hP := hP.step hB
      have hO := hO.step hB
      have hS := hS.step hB
      have hG := hG.step hB
      have hC := hC.step hB
      have ha := ha.step hB
      have hb := hb.step hB
      have hc := hc.step hB
      have hBB := hBB.trans (hB.mono hBB.size)
      go_wp2_with fail
      refine (nest_ok N7 xs hb7 q m1 hql hm1 _ _ _ _ _ hC hz hc1 hx1).mono ?_
      rintro e w27 ⟨Ahx, chx, rfl, hchx, hx, hB⟩
      have hz := hz.step hB
      have hP := hP.step hB
      have hO := hO.step hB
      have hS := hS.step hB
      have hG := hG.step hB
      have hC := hC.step hB
      have ha := ha.step hB
      have hb := hb.step hB
      have hc := hc.step hB
      have hd := hd.step hB
      have hBB := hBB.trans (hB.mono hBB.size)
      go_wp2_with fail
      refine (eq_lit _ _ _ _ m1 zs _ hm1 hb hz (by omega)).mono ?_
      rintro e w28 ⟨rfl, hB⟩
      have hz := hz.step hB
      have hP := hP.step hB
      have hO := hO.step hB
      have hS := hS.step hB
      have hG := hG.step hB
      have hC := hC.step hB
      have ha := ha.step hB
      have hb := hb.step hB
      have hc := hc.step hB
      have hd := hd.step hB
      have hx := hx.step hB
      have hBB := hBB.trans (hB.mono hBB.size)
      go_wp2_with fail
      refine (eq_lit _ _ _ _ q xs _ hxl hd hx (by omega)).mono ?_
      rintro e w29 ⟨rfl, hB⟩
      have hz := hz.step hB
      have hP := hP.step hB
      have hO := hO.step hB
      have hS := hS.step hB
      have hG := hG.step hB
      have hC := hC.step hB
      have ha := ha.step hB
      have hb := hb.step hB
      have hc := hc.step hB
      have hd := hd.step hB
      have hx := hx.step hB
      have hBB := hBB.trans (hB.mono hBB.size)
      go_wp2_with fail
      refine (cut_any _).mono ?_
      rintro e w30 ⟨rfl, hB⟩
      have hz := hz.step hB
      have hP := hP.step hB
      have hO := hO.step hB
      have hS := hS.step hB
      have hG := hG.step hB
      have hC := hC.step hB
      have ha := ha.step hB
      have hb := hb.step hB
      have hc := hc.step hB
      have hd := hd.step hB
      have hx := hx.step hB
      have hBB := hBB.trans (hB.mono hBB.size)
      go_wp2
      go_ret
      exact ⟨rfl, hBB⟩
end Go.Proofs.Ytcbkocjpkdcpfaa
