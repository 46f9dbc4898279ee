/- ScanBlocks: the theorem of the blocks, for any two numbers, and any slice of ints that can be read: the law's call returns true, and they read as they did. No condition but the row's own (the listed table holds what the text says). -/
import Derived.Test.YtecpanppnljkhaaDoorKa3
import Derived.Test.YtecpanppnljkhaaDoorKa4
import Derived.Test.YtecpanppnljkhaaDoorEx
import Derived.Test.YtecpanppnljkhaaDoorTie
import Derived.Test.YtecpanppnljkhaaDoorCards
import Derived.ChangeMaps5
namespace Go.Proofs.YtecpanppnljkhaaDoor.scanBlocks
open Go.ChangeShapes Go.WideShapes Go.ChangeAt Go.RowKit Go.ChangeMaps
set_option linter.unusedVariables false
theorem ofs_ch {N m q : Nat} (hm : 1 ≤ m) (hq : q < (chL N m).length) : ofs (chL N m) q = q * m ∧ ofs (chL N m) (q + 1) = min N ((q + 1) * m) := by
  have hl : (chL N m).length = spN N m := chK_len _ _ _
  rw [hl] at hq
  have ht : ∀ j, j ≤ spN N m → psum (chL N m) j = min (N : Int) ((j * m : Nat) : Int) := fun j hj => by
    rw [← chK_sum hm j hj]
    unfold psum chL
    congr 1
    unfold chK
    rw [← List.map_take, List.take_range, Nat.min_eq_left hj]
  have h1 := ht q (by omega)
  have h2 := ht (q + 1) (by omega)
  have h3 := sp_lt hm hq
  unfold ofs
  rw [h1, h2]
  constructor <;> omega
theorem seg_ch {N m k : Nat} {l : List Int} (hl : l.length = N) (hm : 1 ≤ m) (hN : N ≤ 1048576) (hk : k < N) : k / m < (chL N m).length ∧ ofs (chL N m) (k / m) + k % m = k ∧ k % m < (sgL l (chL N m) (k / m)).length := by
  have hd := Nat.div_add_mod k m
  have hmod := Nat.mod_lt k (show 0 < m by omega)
  have hlen : (chL N m).length = spN N m := chK_len _ _ _
  have hlt : k / m < spN N m := by
    have h1 := sp_ge (n := N) hm
    rw [Nat.div_lt_iff_lt_mul (by omega)]
    omega
  obtain ⟨h1, h2⟩ := ofs_ch (N := N) (m := m) (q := k / m) hm (by rw [hlen]; exact hlt)
  rw [Nat.mul_comm] at hd
  subst hl
  have hz := blocks_segs l m hm hN
  refine ⟨by rw [hlen]; exact hlt, by rw [h1]; exact hd, ?_⟩
  rw [seg_len hz _ (by rw [hlen]; exact hlt), h1, h2, Nat.succ_mul]
  omega
theorem pad_pad {x : Int} {d : Nat} {l : List Int} (h : l.length = 2 ^ d) : padL x d l = l := by unfold padL; rw [h, Nat.sub_self]; simp
theorem isD_pow {n d : Nat} (h : IsD n d) : IsD (2 ^ d) d := ⟨Nat.le_refl _, fun j hj => Nat.pow_lt_pow_right (by omega) hj, h.2.2⟩
set_option maxRecDepth 100000 in
set_option maxHeartbeats 40000000 in
theorem walk (o : Int) (A1 : Option Addr) (c1 : Nat) (z1 : List Int) (n : Int) (w : World) (hI : Inv w) (h1 : Sl w A1 z1) (hc1 : z1.length ≤ c1) (k1 : Ok z1) :
    Calls Tryd.prog 5 #[.int .i64 o, .slice A1 z1.length c1, .int .i64 n] w (Ret (.bool true) w) := by
  obtain ⟨i0, hi, hzz0, hzz1, hzz2⟩ := info_parts int_info
  have haB := opN_aB o
  have M := mon_op haB
  have COp := Lib.hid (opOf_any o w)
  have CW := Lib.hid (fun W hW => wraps_any A1 c1 z1 60 W hW (by unfold Ok at k1; omega) (by omega))
  obtain ⟨t, ht, ht20⟩ : ∃ t : Nat, n % 20 = (t : Int) ∧ t < 20 := ⟨(n % 20).toNat, by omega, by omega⟩
  have CTn := fun W => turn_any n 20 (by omega) (by omega) W
  rw [ht] at CTn
  have CTn := Lib.hid CTn
  have hwl := wl_len z1 60
  have hww := wl_word z1 60
  obtain ⟨ws, hws⟩ : ∃ ws, wlL z1 60 = ws := ⟨_, rfl⟩
  obtain ⟨op, hop⟩ : ∃ op, opN o = op := ⟨_, rfl⟩
  rw [hws] at CW hwl hww
  rw [hop] at COp haB M
  have hn60 : ws.length ≤ 60 := by omega
  obtain ⟨m, hm⟩ : ∃ m, 1 + t = m := ⟨_, rfl⟩
  have hm1 : 1 ≤ m := by omega
  have hm20 : m ≤ 20 := by omega
  have hmI : (1 : Int) + (t : Int) = (m : Int) := by omega
  have hcE := cE_good haB hww (by omega)
  have hz := blocks_segs ws m hm1 (by omega)
  -- the values
  have hBL : blL op ws m = ahL (doN op) (neN op) ws := M.blocks_all hww hz
  have hBSw : Wds (blS op ws m) := M.fold_word hww
  have hBSl : (blS op ws m).length = (chL ws.length m).length := kp_len_one (fun _ => rfl) _ _ _
  have CB := fun A c W (hI' : Inv W) hA hcl => blocks_ok op m A c ws W hI' hA hcl (by unfold Ok; omega) hcE hm1 (by omega)
  rw [hBL] at CB
  have CS := fun A A' c cl W (hI' : Inv W) hA hcl hA' hc' => scan_any op A A' c cl ws [(ws.length : Int)] W hI' hA hcl (by unfold Ok; omega) hA' hc' (by unfold Ok; simp)
  rw [fsE_good haB hww (segs_one ws (by omega)), orL_ok, kp_one] at CS
  have CF := fun A A' c cl W (hI' : Inv W) hA hcl hA' hc' => fold_any op A A' c cl ws (chL ws.length m) W hI' hA hcl (by unfold Ok; omega) hA' hc' (by have := hz.few; unfold Ok; omega)
  rw [fsE_good haB hww hz, orL_ok] at CF
  have hCF : kpK (whL (doN op) (neN op)) ws (chL ws.length m) (chL ws.length m).length = blS op ws m := rfl
  rw [hCF] at CF
  have CP := fun A A' c cl W (hI' : Inv W) hA hcl hA' hc' => scan_any op A A' c cl ws (chL ws.length m) W hI' hA hcl (by unfold Ok; omega) hA' hc' (by have := hz.few; unfold Ok; omega)
  rw [fsE_good haB hww hz, orL_ok] at CP
  have hsm : (blS op ws m).length ≤ 1048576 := by rw [hBSl]; exact hz.few
  have CA := fun A A' c cl W (hI' : Inv W) hA hcl hA' hc' => scan_any op A A' c cl (blS op ws m) [((blS op ws m).length : Int)] W hI' hA hcl (by unfold Ok; omega) hA' hc' (by unfold Ok; simp)
  rw [fsE_good haB hBSw (segs_one _ hsm), orL_ok, kp_one] at CA
  obtain ⟨d, hd⟩ := exD ws.length (by omega)
  have CL := Lib.hid (fun A c W (hI' : Inv W) hA hcl => levels_ok op d A c ws W hI' hA hcl (by unfold Ok; omega) hd hcE)
  have hpl := padL_len (x := neN op) hd
  have hL0 : nthL (lvs (doN op) (padL (neN op) d ws) d) 0 = padL (neN op) d ws := lvs_nth _ _ _ _ (by omega)
  have hpw : 2 ^ d ≤ 1048576 := by
    have : 2 ^ d ≤ 2 ^ 20 := Nat.pow_le_pow_right (by omega) hd.2.2
    omega
  have CDn := fun A c W (hI' : Inv W) (hA : Sll W A (lvs (doN op) (padL (neN op) d ws) d)) hcl => down_ok op d ws.length A c (lvs (doN op) (padL (neN op) d ws) d) W hI' hA hcl (lvs_short _ hpl hd.2.2) (aB_neE haB) (by intro e; have := congrArg List.length e; rw [lvs_len] at this; simp at this) (by rw [hL0]; exact ls_of' _ (by simp; omega) (by intro y hy; simp at hy; subst hy; exact wds_mem (padL_word M hww d))) (by rw [hL0, hpl]; exact isD_pow hd) (by rw [hL0, pad_pad hpl]) (by exact hd.1)
  rw [M.down hww hd, lvs_len] at CDn
  have HAT : Hid (∀ k, k < ws.length → doN op (nth (ahL (doN op) (neN op) (blS op ws m)) (k / m)) (nth (kpK (ahL (doN op) (neN op)) ws (chL ws.length m) (chL ws.length m).length) k) = nth (ahL (doN op) (neN op) ws) k ∧ k / m < (blS op ws m).length) := Lib.hid (fun k hk => by
    obtain ⟨s1, s2, s3⟩ := seg_ch (l := ws) rfl hm1 (by omega) hk
    have := M.block_at hww hz (k / m) (k % m) s1 s3
    rw [s2] at this
    exact ⟨this, by rw [hBSl]; exact s1⟩)
  have hPl : (kpK (ahL (doN op) (neN op)) ws (chL ws.length m) (chL ws.length m).length).length = ws.length := by
    rw [hz.kp_len (f := ahL (doN op) (neN op)) (fun s => mk_length _ _) _ (Nat.le_refl _), hz.ofs_all]
  have hAl : (ahL (doN op) (neN op) (blS op ws m)).length = (blS op ws m).length := mk_length _ _
  have hWl : (ahL (doN op) (neN op) ws).length = ws.length := mk_length _ _
  have hPw : Wds (kpK (ahL (doN op) (neN op)) ws (chL ws.length m) (chL ws.length m).length) := fun j hj => by
    rw [hPl] at hj
    obtain ⟨s1, s2, s3⟩ := seg_ch (l := ws) rfl hm1 (by omega) hj
    have := kp_ah_nth (doN op) (neN op) hz (j / m) (j % m) s1 s3
    rw [s2] at this
    rw [this]
    exact M.sc (sg_word hww _ _) M.one _
  have hAw : Wds (ahL (doN op) (neN op) (blS op ws m)) := fun j hj => by
    rw [hAl] at hj
    unfold ahL
    rw [nth_mk _ _ _ hj]
    exact M.sc hBSw M.one _
  obtain ⟨Wh, hWh⟩ : ∃ Wh, ahL (doN op) (neN op) ws = Wh := ⟨_, rfl⟩
  obtain ⟨Ah, hAh⟩ : ∃ Ah, ahL (doN op) (neN op) (blS op ws m) = Ah := ⟨_, rfl⟩
  obtain ⟨Pt, hPt⟩ : ∃ Pt, kpK (ahL (doN op) (neN op)) ws (chL ws.length m) (chL ws.length m).length = Pt := ⟨_, rfl⟩
  obtain ⟨S, hS⟩ : ∃ S, blS op ws m = S := ⟨_, rfl⟩
  obtain ⟨LV, hLV⟩ : ∃ LV, lvs (doN op) (padL (neN op) d ws) d = LV := ⟨_, rfl⟩
  have HTS : Hid (∀ w' G vs, TreeAt w' w.heap.size G vs (lvK (doN op) (padL (neN op) d ws)) → True) := Lib.hid (fun _ _ _ _ => trivial)
  have HSLL := Lib.hid (fun (W : World) (b G : Nat) (vs : Nat → Value) (hT : TreeAt W b G vs (lvK (doN op) (padL (neN op) d ws))) => tree_sll (d := d) hT hd.2.2)
  rw [hS] at HAT hBSl hsm hAl hAw CA CF CB hAh
  rw [hAh] at HAT hAl hAw CA
  rw [hPt] at HAT hPl hPw CP
  rw [hWh] at HAT hWl CB CS CDn
  rw [hLV] at HSLL CDn
  have CB := Lib.hid CB; have CS := Lib.hid CS; have CF := Lib.hid CF; have CP := Lib.hid CP; have CA := Lib.hid CA; have CDn := Lib.hid CDn
  have HAw := Lib.hid hAw
  have HPw := Lib.hid hPw
  have HaB := Lib.hid haB
  clear hwl hws hop M hww hBL hBSw hCF hd hpl hL0 hpw hWh hAh hPt hS hLV hAw hPw haB hcE hz ht
  obtain ⟨N, hN⟩ : ∃ N, ws.length = N := ⟨_, rfl⟩
  rw [hN] at CB CS CF CP CL CDn HAT hPl hWl hBSl hn60
  obtain ⟨LN, hLN⟩ : ∃ LN, chL N m = LN := ⟨_, rfl⟩
  rw [hLN] at CF CP hBSl
  have hLNl : LN.length = spN N m := by rw [← hLN]; exact chK_len _ _ _
  have hLNs : LN.length ≤ 60 := by rw [hLNl]; have := spN_small N m hm1; omega
  have HLN := Lib.hid hLN
  clear hLN hLNl
  have HPl := Lib.hid hPl; have HWl := Lib.hid hWl; have HAl := Lib.hid hAl; have HBSl := Lib.hid hBSl; have HN := Lib.hid hN
  clear hPl hWl hAl hBSl
  have HM := Lib.hid hm
  clear hm
  go_enter Tryd.func5, Tryd.ntmps5
  go_wp2_with fail
  refine COp.out.mono ?_
  rintro e w1 ⟨rfl, hB1⟩
  go_wp2_with fail
  refine (CW.out _ (h1.step hB1)).mono ?_
  rintro e w2 ⟨A4, c4, rfl, hc4, hs4, hB2⟩
  rw [hN] at hc4 ⊢
  clear hN
  replace hB2 := hB1.trans (hB2.mono hB1.size)
  clear hB1
  go_wp2_with fail
  refine (CTn.out _).mono ?_
  rintro e w' ⟨rfl, rfl⟩
  go_wp2_with fail
  refine (CB.out A4 c4 _ (hI.below hB2) hs4 hc4).mono ?_
  rintro e w3 ⟨A5, c5, A6, c6, rfl, hc5, hc6, hs5, hs6, hB⟩
  rw [HWl.out] at hc6 ⊢
  replace hs4 := hs4.step hB
  replace hB2 := hB2.trans (hB.mono hB2.size)
  clear hB
  replace hB2 := hB2.alloc hB2.size (.cells #[.int .i64 (N : Int)] 3)
  have bN := Blk.new w3 3 #[.int .i64 (N : Int)]
  replace hs4 := hs4.al (.cells #[.int .i64 (N : Int)] 3)
  replace hs5 := hs5.al (.cells #[.int .i64 (N : Int)] 3)
  replace hs6 := hs6.al (.cells #[.int .i64 (N : Int)] 3)
  go_wp2_with fail
  refine (CS.out A4 (some ⟨w3.heap.size, 0, none⟩) 1 c4 _ (hI.below hB2) hs4 hc4 (sl_one bN) (by simp)).mono ?_
  rintro e w4 ⟨A7, c7, rfl, hc7, hs7, hB⟩
  rw [HWl.out] at hc7 ⊢
  replace hs4 := hs4.step hB
  replace hs5 := hs5.step hB
  replace hs6 := hs6.step hB
  replace hB2 := hB2.trans (hB.mono hB2.size)
  clear hB bN CS CB COp CW CTn
  go_wp2
  go_loopw [15, 16] (fun v i wr => ∃ (j : Nat) (L : Int) (Z : List Int), i = .int .i64 L ∧ Hid (L = (N : Int) - (j : Int) * (m : Int)) ∧ -20 ≤ L ∧ L ≤ N ∧ (j : Int) + L ≤ N ∧ Hid (j = 0 ∨ (j - 1) * m < N) ∧ j ≤ N ∧ Hid (Z = chK N m j) ∧ Z.length ≤ j ∧ OwnI wr w4.heap.size v Z ∧ Below w4.heap.size w4 wr) (fun _ i _ => (intOf i).toNat)
  case atStart => exact ⟨0, N, [], rfl, Lib.hid (by simp), by omega, by omega, by omega, Lib.hid (.inl rfl), by omega, Lib.hid rfl, by simp, OwnI.empty w4 _ (Nat.le_refl _), (Below.refl _ _).alloc (Nat.le_refl _) _⟩
  case round =>
    obtain ⟨j, L, Z, rfl, HL, hL1, hL2, hL3, HJ, hjn, HZ, hZ, hown, hBr⟩ := hrel
    by_cases hpos : 0 < L
    · have HJ' : Hid (j + 1 = 0 ∨ (j + 1 - 1) * m < N) := Lib.hid (.inr (by
        have h1 := HL.out
        rw [Nat.add_sub_cancel]
        have h2 : ((j * m : Nat) : Int) = (j : Int) * (m : Int) := by simp
        omega))
      have HZ' : Hid (Z ++ [min L (m : Int)] = chK N m (j + 1)) := Lib.hid (by rw [HZ.out, chK_succ, ← HL.out])
      have HL' : Hid (L - (m : Int) = (N : Int) - ((j + 1 : Nat) : Int) * (m : Int)) := Lib.hid (by
        rw [HL.out, Int.natCast_add, Int.add_mul]; simp; omega)
      by_cases hmin : L ≤ (m : Int)
      · rw [Int.min_eq_left hmin] at HZ'
        have hmn := Int.min_eq_left hmin
        go_wp2_with (at_builtin; refine wpList_append_own _ rfl _ _ 22 rfl w4.heap.size 3 i0 (.int .i64 0) 1 8 Tryd.underlying22 hi hzz0 hzz1 hzz2 rfl (by decide) _ _ _ rfl (hown.alloc _) ⟨wr.heap.size, 0, none⟩ 1 1 [.int .i64 L] rfl rfl (cell_one_new _ _ _) (by simp [Value.oneCell']) (by unfold maxLen; omega) (by omega) (by have := hBr.size; simp; omega) ?_; intro v' w2' hown' hgrow _; have hB2' := below_append hBr hBr.size hown hgrow)
        have hown2 := OwnI.snoc hown'
        clear hown' hgrow
        go_roundw
        case rel => exact ⟨j + 1, L - (m : Int), Z ++ [L], rfl, HL', by omega, by omega, by omega, HJ', by omega, HZ', by rw [List.length_append]; simp; omega, hown2, hB2'⟩
        case measure => simp [intOf]; omega
      · have hmin' : (m : Int) ≤ L := by omega
        rw [Int.min_eq_right hmin'] at HZ'
        have hmn := Int.min_eq_right hmin'
        go_wp2_with (at_builtin; refine wpList_append_own _ rfl _ _ 22 rfl w4.heap.size 3 i0 (.int .i64 0) 1 8 Tryd.underlying22 hi hzz0 hzz1 hzz2 rfl (by decide) _ _ _ rfl (hown.alloc _) ⟨wr.heap.size, 0, none⟩ 1 1 [.int .i64 (m : Int)] rfl rfl (cell_one_new _ _ _) (by simp [Value.oneCell']) (by unfold maxLen; omega) (by omega) (by have := hBr.size; simp; omega) ?_; intro v' w2' hown' hgrow _; have hB2' := below_append hBr hBr.size hown hgrow)
        have hown2 := OwnI.snoc hown'
        clear hown' hgrow
        go_roundw
        case rel => exact ⟨j + 1, L - (m : Int), Z ++ [(m : Int)], rfl, HL', by omega, by omega, by omega, HJ', by omega, HZ', by rw [List.length_append]; simp; omega, hown2, hB2'⟩
        case measure => simp [intOf]; omega
    · have HJN : Hid (j = spN N m) := Lib.hid (spN_eq hm1 (by
        have h1 := HL.out
        have h2 : ((j * m : Nat) : Int) = (j : Int) * (m : Int) := by simp
        omega) HJ.out)
      have hZL : Z = LN := by rw [HZ.out, HJN.out]; exact HLN.out
      subst hZL
      obtain ⟨A8, c8, rfl, hc8, hs8⟩ := hown.form
      replace hs4 := hs4.step hBr
      replace hs5 := hs5.step hBr
      replace hs6 := hs6.step hBr
      replace hs7 := hs7.step hBr
      have hB := hB2.trans (hBr.mono hB2.size)
      clear hB2 hBr hown
      go_wp2_with fail
      refine (CF.out A4 A8 c8 c4 _ (hI.below hB) hs4 hc4 hs8 hc8).mono ?_
      rintro e w5 ⟨A9, c9, rfl, hc9, hs9, hBx⟩
      replace hs4 := hs4.step hBx
      replace hs5 := hs5.step hBx
      replace hs6 := hs6.step hBx
      replace hs7 := hs7.step hBx
      replace hs8 := hs8.step hBx
      replace hB := hB.trans (hBx.mono hB.size)
      clear hBx
      go_wp2_with fail
      refine (CP.out A4 A8 c8 c4 _ (hI.below hB) hs4 hc4 hs8 hc8).mono ?_
      rintro e w6 ⟨A10, c10, rfl, hc10, hs10, hBx⟩
      rw [HPl.out] at hc10 ⊢
      replace hs4 := hs4.step hBx
      replace hs5 := hs5.step hBx
      replace hs6 := hs6.step hBx
      replace hs7 := hs7.step hBx
      replace hs8 := hs8.step hBx
      replace hs9 := hs9.step hBx
      replace hB := hB.trans (hBx.mono hB.size)
      clear hBx
      have bS := Blk.new w6 3 #[.int .i64 (S.length : Int)]
      replace hs4 := hs4.al (.cells #[.int .i64 (S.length : Int)] 3)
      replace hs5 := hs5.al (.cells #[.int .i64 (S.length : Int)] 3)
      replace hs6 := hs6.al (.cells #[.int .i64 (S.length : Int)] 3)
      replace hs7 := hs7.al (.cells #[.int .i64 (S.length : Int)] 3)
      replace hs8 := hs8.al (.cells #[.int .i64 (S.length : Int)] 3)
      replace hs9 := hs9.al (.cells #[.int .i64 (S.length : Int)] 3)
      replace hs10 := hs10.al (.cells #[.int .i64 (S.length : Int)] 3)
      replace hB := hB.alloc hB.size (.cells #[.int .i64 (S.length : Int)] 3)
      go_wp2_with fail
      refine (CA.out A5 (some ⟨w6.heap.size, 0, none⟩) 1 c5 _ (hI.below hB) hs5 hc5 (sl_one bS) (by simp)).mono ?_
      rintro e w7 ⟨A11, c11, rfl, hc11, hs11, hBx⟩
      rw [HAl.out] at hc11 ⊢
      replace hs4 := hs4.step hBx
      replace hs5 := hs5.step hBx
      replace hs6 := hs6.step hBx
      replace hs7 := hs7.step hBx
      replace hs8 := hs8.step hBx
      replace hs9 := hs9.step hBx
      replace hs10 := hs10.step hBx
      replace hB := hB.trans (hBx.mono hB.size)
      clear hBx
      clear bS
      go_wp2_with fail
      refine (CL.out A4 c4 _ (hI.below hB) hs4 hc4).mono ?_
      rintro e w8 ⟨G, vs, rfl, hT, hBx⟩
      replace hs4 := hs4.step hBx
      replace hs5 := hs5.step hBx
      replace hs6 := hs6.step hBx
      replace hs7 := hs7.step hBx
      replace hs8 := hs8.step hBx
      replace hs9 := hs9.step hBx
      replace hs10 := hs10.step hBx
      replace hs11 := hs11.step hBx
      replace hB := hB.trans (hBx.mono hB.size)
      clear hBx
      have hSL := HSLL.out w8 _ G vs hT
      clear hT
      go_wp2_with fail
      refine (CDn.out (some ⟨G, 0, none⟩) (d + 1) _ (hI.below hB) hSL (Nat.le_refl _)).mono ?_
      rintro e w9 ⟨A12, c12, rfl, hc12, hs12, hBx⟩
      replace hs4 := hs4.step hBx
      replace hs5 := hs5.step hBx
      replace hs6 := hs6.step hBx
      replace hs7 := hs7.step hBx
      replace hs8 := hs8.step hBx
      replace hs9 := hs9.step hBx
      replace hs10 := hs10.step hBx
      replace hs11 := hs11.step hBx
      replace hB := hB.trans (hBx.mono hB.size)
      clear hBx
      clear hSL CF CP CA CL CDn
      have t1 : ((S.length : Int) != (Z.length : Int)) = false := by rw [HBSl.out]; simp
      have hWb : Wh.length ≤ 9223372036854775807 := by rw [HWl.out]; omega
      go_wp2_with fail
      refine (eq_lit A6 A7 c6 c7 (N) Wh _ HWl.out hs6 hs7 (by omega)).mono ?_
      rintro e w10 ⟨rfl, hBx⟩
      replace hs4 := hs4.step hBx
      replace hs5 := hs5.step hBx
      replace hs6 := hs6.step hBx
      replace hs7 := hs7.step hBx
      replace hs8 := hs8.step hBx
      replace hs9 := hs9.step hBx
      replace hs10 := hs10.step hBx
      replace hs11 := hs11.step hBx
      replace hs12 := hs12.step hBx
      replace hB := hB.trans (hBx.mono hB.size)
      clear hBx
      go_wp2_with fail
      refine (eq_lit A5 A9 c5 c9 (S.length) S _ rfl hs5 hs9 (by omega)).mono ?_
      rintro e w11 ⟨rfl, hBx⟩
      replace hs4 := hs4.step hBx
      replace hs5 := hs5.step hBx
      replace hs6 := hs6.step hBx
      replace hs7 := hs7.step hBx
      replace hs8 := hs8.step hBx
      replace hs9 := hs9.step hBx
      replace hs10 := hs10.step hBx
      replace hs11 := hs11.step hBx
      replace hs12 := hs12.step hBx
      replace hB := hB.trans (hBx.mono hB.size)
      clear hBx
      go_wp2_with fail
      refine (eq_lit A12 A7 c12 c7 (N) Wh _ HWl.out hs12 hs7 (by omega)).mono ?_
      rintro e w12 ⟨rfl, hBx⟩
      replace hs4 := hs4.step hBx
      replace hs5 := hs5.step hBx
      replace hs6 := hs6.step hBx
      replace hs7 := hs7.step hBx
      replace hs8 := hs8.step hBx
      replace hs9 := hs9.step hBx
      replace hs10 := hs10.step hBx
      replace hs11 := hs11.step hBx
      replace hs12 := hs12.step hBx
      replace hB := hB.trans (hBx.mono hB.size)
      clear hBx
      go_wp2
      go_loopw [27] (fun i wr => ∃ k : Nat, k ≤ N ∧ i = .int .i64 k ∧ Below w12.heap.size w12 wr) (fun i _ => N - (intOf i).toNat)
      case atStart => exact ⟨0, Nat.zero_le _, rfl, Below.refl _ _⟩
      case round =>
        obtain ⟨k, hk, rfl, hX⟩ := hrel
        by_cases hlt : k < N
        · obtain ⟨hv1, hv2⟩ := HAT.out k hlt
          have hx1 := HAw.out (k / m) (by rw [HAl.out]; exact hv2)
          have hx2 := HPw.out k (by rw [HPl.out]; exact hlt)
          obtain ⟨b1, o1, rfl, hb1, hq1⟩ := (hs11.step hX).at_ (k := k / m) (by rw [HAl.out]; exact hv2)
          obtain ⟨b2, o2, rfl, hb2, hq2⟩ := (hs10.step hX).at_ (k := k) (by rw [HPl.out]; exact hlt)
          obtain ⟨b3, o3, rfl, hb3, hq3⟩ := (hs7.step hX).at_ (k := k) (by rw [HWl.out]; exact hlt)
          obtain ⟨x1, hx1'⟩ : ∃ x1, nth Ah (k / m) = x1 := ⟨_, rfl⟩
          obtain ⟨x2, hx2'⟩ : ∃ x2, nth Pt k = x2 := ⟨_, rfl⟩
          obtain ⟨x3, hx3'⟩ : ∃ x3, nth Wh k = x3 := ⟨_, rfl⟩
          rw [hx1'] at hq1 hv1 hx1
          rw [hx2'] at hq2 hv1 hx2
          rw [hx3'] at hq3 hv1
          have CV := fun W => value_ok HaB.out hx1 hx2 W
          rw [hv1] at CV
          have CV := Lib.hid CV
          obtain ⟨q, hq⟩ : ∃ q, k / m = q := ⟨_, rfl⟩
          have hqd : ((k : Nat) : Int).tdiv (m : Int) = (q : Int) := by rw [← hq, Int.tdiv_eq_ediv_of_nonneg (by omega)]; simp
          have hqe : ((k : Nat) : Int) / (m : Int) = (q : Int) := by rw [← hq]; simp
          rw [hq] at hq1 hv2
          have q0 : (0 : Int) ≤ (q : Int) := by omega
          have q1 : (q : Int) < (S.length : Int) := by omega
          have q2 : (0 : Int) ≤ (k : Int) := by omega
          have q3 : (k : Int) < (N : Int) := by omega
          have q4 : (m : Int) ≠ 0 := by omega
          have q5 : ((m : Int) == 0) = false := by rw [beq_eq_false_iff_ne]; omega
          have q7 : m ≠ 0 := by omega
          have q6 : IntKind.i64.wrap (q : Int) = (q : Int) := IntWalk.i64_in _ (by omega)
          clear hx1 hx2 hx1' hx2' hx3' hv1 hv2 hq hlt hk
          go_wp2
          refine wp_region_mix' (fun W' => Below wr.heap.size wr W') [false, false, false, false, false, false, false, false, false, false, false, true, false, false, false, false] (by kernel_rfl) (by kernel_rfl) (Below.refl _ _).drew ?_
          simp only [mixT, mixH, mixD]
          have LT : ∀ W', Below wr.heap.size wr W' → W'.cell? ⟨b1, o1 + q, none⟩ = some (.int .i64 x1) ∧ W'.cell? ⟨b2, o2 + k, none⟩ = some (.int .i64 x2) ∧ W'.cell? ⟨b3, o3 + k, none⟩ = some (.int .i64 x3) := fun W' hW => ⟨(hW.cell (p := ⟨b1, o1 + q, none⟩) hb1).trans hq1, (hW.cell (p := ⟨b2, o2 + k, none⟩) hb2).trans hq2, (hW.cell (p := ⟨b3, o3 + k, none⟩) hb3).trans hq3⟩
          iterate 11 (refine wpLts_light ?_ (fun W' hW => ?_) ?_; rotate_left; (obtain ⟨p0, p1, p2⟩ := LT W' hW; go_simp; try with_reducible rfl); simp only [Act.put, List.setIfInBounds_toArray, List.set_cons_zero, List.set_cons_succ])
          refine wpLts_heavy ?_
          iterate 4 (refine wpLts_light ?_ (fun W' hW => ?_) ?_; rotate_left; (obtain ⟨p0, p1, p2⟩ := LT W' hW; go_simp; try with_reducible rfl); simp only [Act.put, List.setIfInBounds_toArray, List.set_cons_zero, List.set_cons_succ])
          refine wpLts_nil ?_
          refine wpHvP_call 25 #[.int .i64 op, .int .i64 x1, .int .i64 x2] (by go_simp) ?_
          refine (CV.out _).mono ?_
          rintro e w13 ⟨rfl, hBx⟩
          have hBy : Below wr.heap.size wr w13 := (Below.refl _ wr).drew.trans hBx
          refine ⟨_, rfl, hBy, ?_⟩
          simp only [Act.put, List.setIfInBounds_toArray, List.set_cons_zero, List.set_cons_succ]
          refine wpHvP_nil ?_
          clear CV LT hqd hqe q6 hBx
          go_wp2
          go_roundw
          case rel => exact ⟨k + 1, by omega, by go_num, hX.trans (hBy.mono hX.size)⟩
          case measure => simp [intOf]; omega
        · obtain rfl : k = N := by omega
          have hBe := hB.trans (hX.mono hB.size)
          go_wp2_with fail
          refine (joined_any _ (hI.below hBe)).mono ?_
          rintro e w13 ⟨rfl, hBx⟩
          go_wp2
          go_ret
          exact ⟨rfl, hBe.trans (hBx.mono hBe.size)⟩

/-! ### the row and the card -/
set_option maxRecDepth 100000
theorem own : ownKnob Tryd.prog.godebug = none := by kernel_rfl
theorem door_met (os : Os) (args : Array Value) : laidMetH Tryd.prog Rows.scanBlocksRow.laid ((World.doorLaid Tryd.prog 61 os).forCall (fun _ _ => 0) ⟨#[], args, []⟩).memory :=
  laidMetH_of_parts3 (fuel := 8) (laidMet_of_run' 8 (by kernel_rfl) (by kernel_rfl)) (by kernel_rfl) (by kernel_rfl)
theorem lifted (os : Os) (started : os.Started) (H : Type) (enc : TypeId × Value → H) :
    ReturnsInHanded {} Tryd.checked os 5 .any (fun w args => (Rows.scanBlocksSpec.pre enc Tryd.prog Tryd.f5 [] false w args ∧ laidMetH Tryd.prog Rows.scanBlocksRow.laid w) ∧ sizedMet enc Tryd.prog Tryd.f5 (OpenSpec.ofChange Rows.scanBlocksSpec) false w args)
      (Rows.scanBlocksSpec.post enc Tryd.prog Tryd.f5 false true false false) := by
  refine returnsInHanded_of_change_and (C := Tryd.checked) (X := fun w _ => laidMetH Tryd.prog Rows.scanBlocksRow.laid w) (fun _ _ _ hh h => h.of_heap hh) own started (by kernel_rfl) Tryd.func5
    (ChangeSpec.witness_shaped (enc := enc) (C := Tryd.checked) (os := os) (X := fun w _ => laidMetH Tryd.prog Rows.scanBlocksRow.laid w) false (World.doorLaid Tryd.prog 61 os) #[.int .i64 0, .slice none 0 0, .int .i64 0] 8 rfl (World.shaped_of_RefB (by kernel_rfl) (by kernel_rfl)) (by kernel_rfl) (by kernel_rfl) (by kernel_rfl) (door_met os _)) ?_
  intro W base args ds gs before hval0 hW _ _ hL _
  have hval : ∀ (j : Nat) t v, Tryd.f5.params[j]? = some t → args[j]? = some v → Value.okWide Tryd.prog W .any base t v := hval0
  have hW' := hW
  obtain ⟨p, q, hA0, hV, rfl, hfz, hnd⟩ := hW
  have hA : DataW.TrodAll enc Tryd.prog W 0 (fun _ => true) true Tryd.f5.params.toList args.toList ds p := hA0
  rw [Tryd.params5] at hA hval
  obtain ⟨v0, vs0, d0, ds0, p0, q0, hargs, rfl, rfl, h0, r0⟩ := trodAll_cons hA
  obtain ⟨v1, vs1, d1, ds1, p1, q1, rfl, rfl, rfl, h1, r1⟩ := trodAll_cons r0
  obtain ⟨v2, vs2, d2, ds2, p2, q2, rfl, rfl, rfl, h2, r2⟩ := trodAll_cons r1
  obtain ⟨rfl, rfl, rfl⟩ := trodAll_nil r2
  obtain rfl : args = #[v0, v1, v2] := by cases args; simp_all
  obtain ⟨rfl, rfl⟩ := trodVars_none hV
  clear hA0 hval0
  simp only [List.append_nil] at hW'
  obtain ⟨a0, rfl, rfl, rfl, w0⟩ := open_int Tryd.underlying3 (hval 0 3 v0 rfl rfl) h0
  have hlt1 : ∀ x ∈ p1, x.block < W.heap.size := fun x hx => by simpa using hW'.lt x (by simp [hx])
  have hg1 : ∀ (W' : World), Below W.heap.size W W' → DataW.Trod enc Tryd.prog W' 0 (fun b => decide (b < W.heap.size)) true 22 v1 d1 p1 :=
    fun W' hn => Below.trod Tryd.laidOut (by kernel_rfl) (of_decide_eq_true (by kernel_rfl)) h1 hn hlt1
  obtain ⟨A1, c1, z1, rfl, hle1, hmx1, hS1, hR1⟩ := open_sl (hval 1 22 v1 rfl rfl) h1 hlt1
  obtain ⟨a2, rfl, rfl, rfl, w2⟩ := open_int Tryd.underlying3 (hval 2 3 v2 rfl rfl) h2
  refine (walk a0 A1 c1 z1 a2 W (of_laid hL) hS1 hle1 (by unfold Ok; omega)).mono fun e W' ⟨he, hB⟩ => ?_
  subst he
  exact ⟨_, rfl, _, _, _, [], _, [], hW', trodAll_cons_mk (shut_bool Tryd.underlying4 _) trodAll_mk0, trodAll_cons_mk (shut_int Tryd.underlying3 w0) (trodAll_cons_mk (hg1 _ hB) (trodAll_cons_mk (shut_int Tryd.underlying3 w2) trodAll_mk0)), rfl, hB.frame _, fun h => by cases h⟩
theorem holds : Rows.ScanBlocksSaid :=
  OpenClaim.holds_of_wide 5 Tryd.f5 rfl rfl rfl rfl rfl rfl rfl ⟨rfl, rfl, rfl, rfl, rfl⟩ rfl rfl rfl rfl rfl (by kernel_rfl) Tryd.func5 (by kernel_rfl)
    (of_decide_eq_true (by kernel_rfl)) (by unfold Func.isWrapper; first | (rw [if_pos (by decide +kernel)]; kernel_rfl) | (rw [if_neg (by decide +kernel)]; exact ⟨rfl, rfl⟩))
    (fun os started H enc _ => lifted os started H enc)
theorem proved : Rows.ScanBlocksCardSaid :=
  Claim7.holds_tied_plain_at .later [] [.data] true (true, "165e170aa6ce182620764f5d03f9346384cc021ccbd43512c2f1c96f23b5a8e5") false
    holds (fun _ h => by cases h) (by kernel_rfl) (fun _ h => by cases h) scanBlocks_row_tie rfl ⟨rfl, rfl⟩ (by kernel_rfl) rfl
    (fun f fn hf hfn => by
      obtain rfl : f = 5 := Option.some.inj ((show Tryd.prog.funcNamed "sheafworks/sheafworkslaw05.ScanBlocks" = some 5 by kernel_rfl).symm.trans hf) |>.symm
      obtain rfl : fn = Tryd.f5 := (Option.some.inj (Tryd.func5.symm.trans hfn)).symm
      exact ⟨by kernel_rfl, fun j t ht => by
        rw [Tryd.params5] at ht
        have hm : t ∈ [3, 22, 3] := by
          have := Array.mem_of_getElem? ht
          simpa using this
        have hall : ([3, 22, 3].all fun u => !Tryd.prog.wantsStandIn u) = true := by kernel_rfl
        exact (show Tryd.prog.wantsStandIn t = false by simpa using List.all_eq_true.1 hall t hm)⟩)
    (by kernel_rfl)
#print axioms proved
end Go.Proofs.YtecpanppnljkhaaDoor.scanBlocks
