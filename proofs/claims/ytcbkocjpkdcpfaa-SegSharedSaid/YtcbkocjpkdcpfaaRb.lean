/- The specification's Nest and Split. -/
import Derived.Test.YtcbkocjpkdcpfaaSx
import Derived.Test.YtcbkocjpkdcpfaaMb
namespace Go.Proofs.Ytcbkocjpkdcpfaa
set_option linter.unusedVariables false
open Go.RowKit

def nsKL (zs ys : List Int) (k : Nat) : List Int := (List.range k).map (nsK zs ys)
theorem nsKL_succ (zs ys : List Int) (k : Nat) : nsKL zs ys (k + 1) = nsKL zs ys k ++ [nsK zs ys k] := by simp [nsKL, List.range_succ]
theorem nsKL_length (zs ys : List Int) (k : Nat) : (nsKL zs ys k).length = k := by simp [nsKL]
theorem sub_pos {ys : List Int} (hF : Fine ys) (lo m : Nat) (h : lo + m ≤ ys.length) : PosTo (sub ys lo m) (sub ys lo m).length := fun j hj => by
  rw [sub_length ys lo m h] at hj
  rw [nth_sub ys lo m j h hj]
  exact (hF.nth (lo + j) (by omega)).1
theorem sub_sum {ys : List Int} (hF : Fine ys) (lo m : Nat) (h : lo + m ≤ ys.length) : (sub ys lo m).sum = sg ys lo (lo + m) ∧ 0 ≤ sg ys lo (lo + m) ∧ sg ys lo (lo + m) ≤ 1048576 := by
  have h1 := psum_all (sub ys lo m)
  have hl := sub_length ys lo m h
  rw [hl, psum_sub ys lo m m h (Nat.le_refl _)] at h1
  have h2 := psum_mono ys ys.length (Nat.le_refl _) hF.pos lo (lo + m) (by omega) (by omega)
  have h3 := hF.psum lo (by omega)
  have h4 := hF.psum (lo + m) (by omega)
  exact ⟨h1.symm, by unfold sg; omega, by unfold sg; omega⟩

set_option maxRecDepth 100000 in
set_option maxHeartbeats 2000000 in
theorem rnest_any (A A' : Option Addr) (c c' : Nat) (zs ys : List Int) (w : World) (h : Sl w A zs) (h' : Sl w A' ys) (hl : zs.length ≤ 9223372036854775807) (hl' : ys.length ≤ 9223372036854775807) (hc' : ys.length ≤ c') (hc2 : c' ≤ 9223372036854775807) :
    Calls Try.prog 22 #[.slice A zs.length c, .slice A' ys.length c'] w (RetL w (orL (nsE zs ys) (nsL zs ys)) (nsE zs ys)) := by
  obtain ⟨i0, hi, hz0, hz1, hz2⟩ := info_parts int_info
  have C1 := rcheck_any A c zs w h hl
  have C2 := rcheck_any A' c' ys w h' hl'
  by_cases he : ckE zs = 0
  · have hF := Fine.of_ck he
    have hlen := hF.len
    rw [he, (ck_ok he).2.2.2.2] at C1
    by_cases he' : ckE ys = 0
    · have hF' := Fine.of_ck he'
      have hlen' := hF'.len
      rw [he', (ck_ok he').2.2.2.2] at C2
      by_cases hT : zs.sum = (ys.length : Int)
      · have HE := Lib.hid (show nsE zs ys = 0 by simp [nsE, he, he', hT])
        have HT := Lib.hid hT
        have hd : (zs.sum != (ys.length : Int)) = false := by rw [bne_eq_false_iff_eq]; exact hT
        clear he he' hT
        go_enter Try.func22, Try.ntmps22
        go_wp2_with fail
        refine C1.mono ?_
        rintro e w1 ⟨rfl, rfl⟩
        go_wp2_with fail
        refine C2.mono ?_
        rintro e w1 ⟨rfl, rfl⟩
        clear C1 C2
        go_wp2
        go_loopw [10, 11, 12] (fun v t i wr => ∃ k lo : Nat, k ≤ zs.length ∧ i = .int .i64 k ∧ t = .int .i64 lo ∧ Hid (psum zs k = (lo : Int)) ∧ OwnI wr w.heap.size v (nsKL zs ys k) ∧ Below w.heap.size w wr) (fun _ _ i _ => zs.length - (intOf i).toNat)
        case atStart => exact ⟨0, 0, Nat.zero_le _, rfl, rfl, Lib.hid (psum_zero _), OwnI.empty w _ (Nat.le_refl _), (Below.refl _ _).alloc (Nat.le_refl _) _⟩
        case round =>
          obtain ⟨k, lo, hk, rfl, rfl, Hlo, hown, hB⟩ := hrel
          by_cases hlt : k < zs.length
          · obtain ⟨bl, off, rfl, hbl, hcl⟩ := h.at_ hlt
            obtain ⟨m, hm⟩ : ∃ m : Nat, nth zs k = (m : Int) := ⟨(nth zs k).toNat, by have := hF.nth k hlt; omega⟩
            have hlm : lo + m ≤ ys.length := by
              have h1 := psum_mono zs zs.length (Nat.le_refl _) hF.pos (k + 1) zs.length (by omega) (Nat.le_refl _)
              rw [psum_succ zs k hlt, psum_all, HT.out, Hlo.out, hm] at h1
              omega
            have HP := Lib.hid (show psum zs (k + 1) = ((lo + m : Nat) : Int) by rw [psum_succ zs k hlt, Hlo.out, hm]; simp)
            have HK := Lib.hid (show nsKL zs ys (k + 1) = nsKL zs ys k ++ [sg ys lo (lo + m)] by rw [nsKL_succ]; unfold nsK; rw [HP.out, Hlo.out]; rfl)
            rw [hm] at hcl
            clear hm
            obtain ⟨B, C, hsl, hSB, hmC⟩ := slice_eq A' c' lo m ys w h' hlm hc'
            have hss := sub_sum hF' lo m hlm
            have HSS := Lib.hid hss.1
            have hsb := hss.2
            clear hss
            have hcr := (hB.cell (p := ⟨bl, off + k, none⟩) hbl).trans hcl
            have hsz := hB.size
            have HL := Lib.hid (nsKL_length zs ys k)
            have CS : Hid (∀ W, Below w.heap.size w W → Calls Try.prog 38 #[.slice B m C] W fun e w' => e = .returned (.int .i64 (sg ys lo (lo + m))) ∧ W = w') := Lib.hid (fun W hW => by
              have := bsum_any B C (sub ys lo m) W (hSB.step hW) (by rw [sub_length ys lo m hlm]; omega) (sub_pos hF' lo m hlm) (by rw [HSS.out]; omega)
              rw [sub_length ys lo m hlm, HSS.out] at this
              exact this)
            obtain ⟨z, hz⟩ : ∃ z, sg ys lo (lo + m) = z := ⟨_, rfl⟩
            rw [hz] at CS hsb HK
            clear hz HSS
            go_wp2_with (first | (go_at_call 38; refine (CS.out _ hB).mono ?_; rintro e w' ⟨rfl, rfl⟩) | (at_builtin; refine wpList_append_own _ rfl _ _ 22 rfl w.heap.size 3 i0 (.int .i64 0) 1 8 Try.underlying22 hi hz0 hz1 hz2 rfl (by decide) _ _ _ rfl (hown.alloc _) ⟨wr.heap.size, 0, none⟩ 1 1 [.int .i64 z] rfl rfl (cell_one_new _ _ _) (by simp [Value.oneCell']) (by rw [HL.out]; unfold maxLen; omega) (by rw [HL.out]; omega) (by simp; omega) ?_; intro v' w1 hown' hgrow _; have hB1 := below_append hB hsz hown hgrow; have hc1 := (hB1.cell (p := ⟨bl, off + k, none⟩) hbl).trans hcl))
            have hown1 : OwnI w1 w.heap.size v' (nsKL zs ys (k + 1)) := by rw [HK.out]; exact OwnI.snoc hown'
            clear hown' hgrow
            go_roundw
            case rel => exact ⟨k + 1, lo + m, by omega, by go_num, by go_num, HP, hown1, hB1⟩
            case measure => simp [intOf]; omega
          · obtain rfl : k = zs.length := by omega
            obtain ⟨A2, c2, rfl, hcc, hsl⟩ := hown.form
            go_wp2
            go_ret2
            rw [HE.out]
            exact ⟨A2, c2, rfl, hcc, hsl, hB⟩
      · have HE := Lib.hid (show nsE zs ys = 1 by simp [nsE, he, he', hT])
        have hd : (zs.sum != (ys.length : Int)) = true := by rw [bne_iff_ne]; exact hT
        clear he he' hT
        go_enter Try.func22, Try.ntmps22
        go_wp2_with fail
        refine C1.mono ?_
        rintro e w1 ⟨rfl, rfl⟩
        go_wp2_with fail
        refine C2.mono ?_
        rintro e w1 ⟨rfl, rfl⟩
        go_wp2
        go_ret2
        rw [HE.out]
        exact retL_nil (Below.refl _ _)
    · have hd : (ckE ys != 0) = true := by rw [bne_iff_ne]; exact he'
      have HE := Lib.hid (show nsE zs ys = ckE ys by simp [nsE, he, he'])
      have HO := Lib.hid (show orL (ckE ys) (nsL zs ys) = [] by simp [orL, he'])
      clear he he'
      go_enter Try.func22, Try.ntmps22
      go_wp2_with fail
      refine C1.mono ?_
      rintro e w1 ⟨rfl, rfl⟩
      go_wp2_with fail
      refine C2.mono ?_
      rintro e w1 ⟨rfl, rfl⟩
      go_wp2
      go_ret2
      rw [HE.out, HO.out]
      exact retL_nil (Below.refl _ _)
  · have hd : (ckE zs != 0) = true := by rw [bne_iff_ne]; exact he
    have HE := Lib.hid (show nsE zs ys = ckE zs by simp [nsE, he])
    have HO := Lib.hid (show orL (ckE zs) (nsL zs ys) = [] by simp [orL, he])
    clear he
    go_enter Try.func22, Try.ntmps22
    go_wp2_with fail
    refine C1.mono ?_
    rintro e w1 ⟨rfl, rfl⟩
    go_wp2
    go_ret2
    rw [HE.out, HO.out]
    exact retL_nil (Below.refl _ _)

theorem retLL_nil {w W : World} {er : Int} (hB : Below w.heap.size w W) : RetLL w [] [] er (.returned (.tuple #[.slice none 0 0, .slice none 0 0, .int .i64 er])) W :=
  ⟨_, _, _, _, rfl, Nat.le_refl _, Nat.le_refl _, Sl.nil _ _, Sl.nil _ _, hB⟩
/-- A row that is kept while another one is written. -/
theorem OwnI.beside {w w1 : World} {base base' : Nat} {u v : Value} {xs zs : List Int} {o : Obj} (h : OwnI w base u xs) (hne : u.ownBlock = none ∨ u.ownBlock ≠ v.ownBlock) (hg : (w.alloc o).grownBy w1 v.ownBlock) : OwnI w1 base u xs :=
  (h.alloc o).kept hg hne
def Apart (u v : Value) : Prop := u.ownBlock = none ∨ u.ownBlock ≠ v.ownBlock
theorem Apart.symm_ {u v : Value} (h : Apart u v) : Apart v u := by
  rcases h with h | h
  · by_cases e : v.ownBlock = none
    · exact .inl e
    · exact .inr (fun e' => e (by rw [e', h]))
  · exact .inr (fun e => h e.symm)
/-- What an append hands back lies where its slice lay, or in a new block. -/
theorem apart_append {u v v' : Value} {w : World} {base : Nat} {xs : List Int} {o : Obj} (h : OwnI w base u xs) (ha : Apart u v) (hat : v'.ownBlock = v.ownBlock ∨ v'.ownBlock = some (w.alloc o).heap.size) : Apart u v' := by
  rcases hat with e | e
  · unfold Apart; rw [e]; exact ha
  · refine .inr fun e' => ?_
    rw [e, World.size_alloc] at e'
    have := (h.lt _ e').2
    omega

set_option maxRecDepth 100000 in
set_option maxHeartbeats 4000000 in
theorem rsplit_any (A : Option Addr) (c : Nat) (zs : List Int) (most : Int) (w : World) (h : Sl w A zs) (hl : zs.length ≤ 9223372036854775807) :
    Calls Try.prog 24 #[.slice A zs.length c, .int .i64 most] w (RetLL w (orL (spE zs most) (spP zs most.toNat)) (orL (spE zs most) (spO zs most.toNat)) (spE zs most)) := by
  obtain ⟨i0, hi, hz0, hz1, hz2⟩ := info_parts int_info
  have C1 := rcheck_any A c zs w h hl
  by_cases he : ckE zs = 0
  · have hF := Fine.of_ck he
    have hlen := hF.len
    rw [he] at C1
    by_cases hb : 1 ≤ most ∧ most ≤ 1048576
    · have HE := Lib.hid (show spE zs most = 0 by simp [spE, he, hb])
      obtain ⟨m, rfl⟩ : ∃ m : Nat, most = (m : Int) := ⟨most.toNat, by omega⟩
      have hm1 : 1 ≤ m := by omega
      have hm2 : m ≤ 1048576 := by omega
      have C2 : ∀ w, Calls Try.prog 25 #[.int .i64 (m : Int), .int .i64 1, .int .i64 1048576] w fun e w' => e = .returned (.bool true) ∧ w = w' := fun w => by
        have := lies_any (m : Int) 1 1048576 w
        rw [decide_eq_true (by omega)] at this
        exact this
      clear he hb
      rw [Int.toNat_natCast]
      go_enter Try.func24, Try.ntmps24
      go_wp2_with fail
      refine C1.mono ?_
      rintro e w1 ⟨rfl, rfl⟩
      go_wp2_with fail
      refine (C2 _).mono ?_
      rintro e w1 ⟨rfl, rfl⟩
      clear C1 C2
      go_wp2
      go_loopw [9, 10, 11] (fun v u i wr => ∃ k : Nat, k ≤ zs.length ∧ i = .int .i64 k ∧ OwnI wr w.heap.size v (spPK zs m k) ∧ OwnI wr w.heap.size u (spOK zs m k) ∧ Apart u v ∧ Below w.heap.size w wr) (fun _ _ i _ => zs.length - (intOf i).toNat)
      case atStart => exact ⟨0, Nat.zero_le _, rfl, (OwnI.empty w _ (Nat.le_refl _)).alloc _, by simpa [spOK] using OwnI.empty (w.alloc (.cells #[] 3)) w.heap.size (by simp), by simp [Apart, Value.ownBlock], ((Below.refl _ _).alloc (Nat.le_refl _) _).alloc (by simp) _⟩
      case round =>
        obtain ⟨k, hk, rfl, hown, hown2, hap, hB⟩ := hrel
        by_cases hlt : k < zs.length
        · obtain ⟨bl, off, rfl, hbl, hcl⟩ := h.at_ hlt
          obtain ⟨n, hn⟩ : ∃ n : Nat, nth zs k = (n : Int) := ⟨(nth zs k).toNat, by have := hF.nth k hlt; omega⟩
          have hn2 : n ≤ 1048576 := by have := (hF.nth k hlt).2; omega
          have HPL := spPK_length zs m k hm1 hk (fun j hj => by have := (hF.nth j hj).2; omega)
          have hPL : (spPK zs m k).length ≤ 1099511627776 := by omega
          have HP := Lib.hid (show spPK zs m (k + 1) = spPK zs m k ++ chL n m by rw [spPK_succ, hn]; rfl)
          have HO := Lib.hid (show spOK zs m (k + 1) = spOK zs m k ++ [((chN n m : Nat) : Int)] by rw [spOK_succ, hn]; rfl)
          have HOL := Lib.hid (spOK_length zs m k)
          rw [hn] at hcl
          clear hn HPL
          have hcr := (hB.cell (p := ⟨bl, off + k, none⟩) hbl).trans hcl
          obtain ⟨wo, rfl⟩ : ∃ wo : World, wo = wr := ⟨_, rfl⟩
          obtain ⟨P0, hP0⟩ : ∃ P0, P0 = spPK zs m k := ⟨_, rfl⟩
          rw [← hP0] at hown HP hPL
          have HP0 := Lib.hid hP0
          clear hP0
          go_wp2
          go_loopw [9, 12, 13] (fun v q y wr => ∃ (j : Nat) (L : Int) (Z : List Int), q = .int .i64 j ∧ y = .int .i64 L ∧ Hid (L = (n : Int) - (j : Int) * (m : Int)) ∧ -1048576 ≤ L ∧ L ≤ (n : Int) ∧ (j : Int) + L ≤ (n : Int) ∧ Hid (j = 0 ∨ (j - 1) * m < n) ∧ j ≤ n ∧ Hid (Z = P0 ++ chK n m j) ∧ Z.length ≤ P0.length + j ∧ OwnI wr w.heap.size v Z ∧ OwnI wr w.heap.size u10 (spOK zs m k) ∧ Apart u10 v ∧ Below w.heap.size w wr) (fun _ _ y _ => (intOf y).toNat)
          case atStart => exact ⟨0, n, P0, rfl, rfl, Lib.hid (by simp), by omega, by omega, by omega, Lib.hid (.inl rfl), by omega, Lib.hid (by simp [chK_zero]), by omega, hown, hown2, hap, hB⟩
          case round =>
            obtain ⟨j, L, Z, rfl, rfl, HL, hL1, hL2, hL3, HJ, hjn, HZ, hZ, hv, hu, ha, hB2⟩ := hrel
            by_cases hpos : 0 < L
            · have hB2s := hB2.size
              have HJ' : Hid (j + 1 = 0 ∨ (j + 1 - 1) * m < n) := Lib.hid (.inr (by
                have h1 := HL.out
                rw [Nat.add_sub_cancel]
                have h2 : ((j * m : Nat) : Int) = (j : Int) * (m : Int) := by simp
                omega))
              have HZ' : Hid (Z ++ [min L (m : Int)] = P0 ++ chK n m (j + 1)) := Lib.hid (by rw [HZ.out, chK_succ, ← HL.out, List.append_assoc])
              have HL' : Hid (L - (m : Int) = (n : Int) - ((j + 1 : Nat) : Int) * (m : Int)) := Lib.hid (by
                rw [HL.out, Int.natCast_add, Int.add_mul]; simp; omega)
              by_cases hmin : L ≤ (m : Int)
              · rw [Int.min_eq_left hmin] at HZ'
                go_wp2_with (at_builtin; refine wpList_append_own_at _ rfl _ _ 22 rfl w.heap.size 3 i0 (.int .i64 0) 1 8 Try.underlying22 hi hz0 hz1 hz2 rfl (by decide) _ _ _ rfl (hv.alloc _) ⟨wr.heap.size, 0, none⟩ 1 1 [.int .i64 L] rfl rfl (cell_one_new _ _ _) (by simp [Value.oneCell']) (by unfold maxLen; omega) (by omega) (by simp; omega) ?_; intro v' w1 hown' hgrow _ hat)
                have hv1 : OwnI w1 w.heap.size v' (Z ++ [L]) := OwnI.snoc hown'
                have hu1 := hu.beside (zs := Z) (base' := 0) ha hgrow
                have ha1 := apart_append hu ha hat
                have hB3 := below_append hB2 hB2s hv hgrow
                clear hown' hgrow hat
                go_roundw
                case rel => exact ⟨j + 1, L - m, Z ++ [L], by go_num, rfl, HL', by omega, by omega, by omega, HJ', by omega, HZ', by rw [List.length_append]; simp only [List.length_cons, List.length_nil]; omega, hv1, hu1, ha1, hB3⟩
                case measure => simp [intOf]; omega
              · have hmin' : (m : Int) ≤ L := by omega
                rw [Int.min_eq_right hmin'] at HZ'
                go_wp2_with (at_builtin; refine wpList_append_own_at _ rfl _ _ 22 rfl w.heap.size 3 i0 (.int .i64 0) 1 8 Try.underlying22 hi hz0 hz1 hz2 rfl (by decide) _ _ _ rfl (hv.alloc _) ⟨wr.heap.size, 0, none⟩ 1 1 [.int .i64 (m : Int)] rfl rfl (cell_one_new _ _ _) (by simp [Value.oneCell']) (by unfold maxLen; omega) (by omega) (by simp; omega) ?_; intro v' w1 hown' hgrow _ hat)
                have hv1 : OwnI w1 w.heap.size v' (Z ++ [(m : Int)]) := OwnI.snoc hown'
                have hu1 := hu.beside (zs := Z) (base' := 0) ha hgrow
                have ha1 := apart_append hu ha hat
                have hB3 := below_append hB2 hB2s hv hgrow
                clear hown' hgrow hat
                go_roundw
                case rel => exact ⟨j + 1, L - m, Z ++ [(m : Int)], by go_num, rfl, HL', by omega, by omega, by omega, HJ', by omega, HZ', by rw [List.length_append]; simp only [List.length_cons, List.length_nil]; omega, hv1, hu1, ha1, hB3⟩
                case measure => simp [intOf]; omega
            · have HJN : Hid (j = chN n m) := Lib.hid (chN_eq hm1 (by
                have h1 := HL.out
                have h2 : ((j * m : Nat) : Int) = (j : Int) * (m : Int) := by simp
                omega) HJ.out)
              have hB2s := hB2.size
              have HZ' : Hid (Z = spPK zs m (k + 1)) := Lib.hid (by rw [HZ.out, HP.out, HJN.out]; rfl)
              have HO' : Hid (spOK zs m k ++ [(j : Int)] = spOK zs m (k + 1)) := Lib.hid (by rw [HO.out, ← HJN.out])
              go_wp2_with (at_builtin; refine wpList_append_own_at _ rfl _ _ 22 rfl w.heap.size 3 i0 (.int .i64 0) 1 8 Try.underlying22 hi hz0 hz1 hz2 rfl (by decide) _ _ _ rfl (hu.alloc _) ⟨wr.heap.size, 0, none⟩ 1 1 [.int .i64 (j : Int)] rfl rfl (cell_one_new _ _ _) (by simp [Value.oneCell']) (by rw [HOL.out]; unfold maxLen; omega) (by rw [HOL.out]; omega) (by simp; omega) ?_; intro u' w1 hown' hgrow _ hat)
              have hu1 : OwnI w1 w.heap.size u' (spOK zs m (k + 1)) := by rw [← HO'.out]; exact OwnI.snoc hown'
              have hv1 := hv.beside (zs := Z) (base' := 0) ha.symm_ hgrow
              have ha1 := (apart_append hv ha.symm_ hat).symm_
              have hB3 := below_append hB2 hB2s hu hgrow
              clear hown' hgrow hat
              go_roundw
              case rel => exact ⟨k + 1, by omega, by go_num, by rw [← HZ'.out]; exact hv1, hu1, ha1, hB3⟩
              case measure => simp [intOf]; omega
        · obtain rfl : k = zs.length := by omega
          obtain ⟨A2, c2, rfl, hcc, hsl⟩ := hown.form
          obtain ⟨A3, c3, rfl, hcc3, hsl3⟩ := hown2.form
          go_wp2
          go_ret3
          rw [HE.out]
          exact ⟨A2, c2, A3, c3, rfl, hcc, hcc3, hsl, hsl3, hB⟩
    · have HE := Lib.hid (show spE zs most = 2 by simp only [spE, he, if_neg hb]; simp)
      have C2 : ∀ w, Calls Try.prog 25 #[.int .i64 most, .int .i64 1, .int .i64 1048576] w fun e w' => e = .returned (.bool false) ∧ w = w' := fun w => by
        have := lies_any most 1 1048576 w
        rw [decide_eq_false hb] at this
        exact this
      clear he hb
      go_enter Try.func24, Try.ntmps24
      go_wp2_with fail
      refine C1.mono ?_
      rintro e w1 ⟨rfl, rfl⟩
      go_wp2_with fail
      refine (C2 _).mono ?_
      rintro e w1 ⟨rfl, rfl⟩
      go_wp2
      go_ret3
      rw [HE.out]
      exact retLL_nil (Below.refl _ _)
  · have hd : (ckE zs != 0) = true := by rw [bne_iff_ne]; exact he
    have HE := Lib.hid (show spE zs most = ckE zs by simp [spE, he])
    have HO := Lib.hid (show ∀ l, orL (ckE zs) l = [] by simp [orL, he])
    clear he
    go_enter Try.func24, Try.ntmps24
    go_wp2_with fail
    refine C1.mono ?_
    rintro e w1 ⟨rfl, rfl⟩
    go_wp2
    go_ret3
    rw [HE.out, HO.out, HO.out]
    exact retLL_nil (Below.refl _ _)
end Go.Proofs.Ytcbkocjpkdcpfaa
