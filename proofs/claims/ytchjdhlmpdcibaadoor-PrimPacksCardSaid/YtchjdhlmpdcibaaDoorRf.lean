/- Walks of the specification: Weave. -/
import Derived.Test.YtchjdhlmpdcibaaDoorRc
import Derived.Test.YtchjdhlmpdcibaaDoorCi
namespace Go.Proofs.YtchjdhlmpdcibaaDoor
set_option linter.unusedVariables false
open Go.RowKit Go.Shelf
set_option maxRecDepth 100000 in
set_option maxHeartbeats 4000000 in
theorem rweave_any (A : Option Addr) (c : Nat) (L : List (List Int)) (w : World) (h : Sll w A L) (hl : L.length ≤ 1048576) (hs : AllShort L) :
    Calls Tryd.prog 28 #[.slice A L.length c] w (RetL w (orL (weE L) (weL L)) (weE L)) := by
  obtain ⟨i0, hi, hz0, hz1, hz2⟩ := info_parts int_info
  have C1 : Calls Tryd.prog 63 #[.slice A L.length c] w (RetV w (.int .i64 (evE L))) := (alike_any A c L w h (by omega) hs).mono fun e w' ⟨he, hw⟩ => Drew.retV ⟨he, hw⟩
  by_cases he : evE L = 0
  · rw [he] at C1
    have C1 := Lib.hid C1
    by_cases h0 : L.length = 0
    · obtain ⟨g1, g2⟩ := we_nil he h0
      rw [g1, g2, orL_ok]
      have hd : ((L.length : Int) == 0) = true := by rw [beq_iff_eq]; omega
      have H0 := Lib.hid h0
      clear he h0 g1 g2
      go_enter Tryd.func28, Tryd.ntmps28
      go_wp2_with fail
      refine C1.out.mono ?_
      rintro e w1 ⟨rfl, hB0⟩
      have hs01 := hB0.size
      go_wp2
      go_ret2
      exact ⟨none, 0, rfl, Nat.le_refl _, Sl.nil _ _, hB0⟩
    · have hd : ((L.length : Int) == 0) = false := by rw [beq_eq_false_iff_ne]; omega
      have hl0 : 0 < L.length := by omega
      obtain ⟨b, off, rfl, hb, hc⟩ := h hl0
      obtain ⟨A0, c0, q0, q1, q2⟩ := hc 0 hl0
      have hm := (lsE_ok (evE_ok he).1).1 (nthL L 0) (nthL_mem L 0 hl0)
      have HEV := Lib.hid (fun k (hk : k < L.length) => show (nthL L k).length = (nthL L 0).length from by rw [← headD_nthL]; exact (evE_ok he).2 _ (nthL_mem L k hk))
      obtain ⟨n, hn⟩ : ∃ n, (nthL L 0).length = n := ⟨_, rfl⟩
      have hmul : ((L.length : Int) * (n : Int)) = ((L.length * n : Nat) : Int) := by simp
      have hmb : L.length * n ≤ 1048576 * 1048576 := Nat.mul_le_mul hl (by omega)
      by_cases hbig : 1048576 < L.length * n
      · have HE := Lib.hid (we_big he h0 (by rw [hn]; exact hbig))
        rw [HE.out]
        have hd2 : decide ((1048576 : Int) < (L.length : Int) * (n : Int)) = true := by rw [hmul]; simp; omega
        have hw : IntKind.i64.wrap ((L.length : Int) * (n : Int)) = (L.length : Int) * (n : Int) := by rw [hmul]; exact IntWalk.i64_in _ (by omega)
        rw [hn] at q0 hm
        have Hb := Lib.hid hbig
        clear he h0 hn HEV hc q1 q2 hmul hmb hbig
        go_enter Tryd.func28, Tryd.ntmps28
        go_wp2_with fail
        refine C1.out.mono ?_
        rintro e w1 ⟨rfl, hB0⟩
        have hs01 := hB0.size
        have q3 := (hB0.cell (p := ⟨b, off + 0, none⟩) hb).trans q0
        simp at q3
        go_wp2
        go_ret2
        exact retL_none (by decide) hB0
      · have HE := Lib.hid (we_ok he h0 (by rw [hn]; exact hbig))
        have HW := Lib.hid (we_list L)
        rw [HE.out, orL_ok]
        obtain ⟨T, hT⟩ : ∃ T, L.length * n = T := ⟨_, rfl⟩
        rw [hT] at hmul hbig hmb
        have hd2 : decide ((1048576 : Int) < (L.length : Int) * (n : Int)) = false := by rw [hmul]; simp; omega
        have hw : IntKind.i64.wrap ((L.length : Int) * (n : Int)) = (T : Int) := by rw [hmul]; exact IntWalk.i64_in _ (by omega)
        have hd3 : decide ((1048576 : Int) < (T : Int)) = false := by simp; omega
        have hTT : T ≤ 1048576 := by omega
        have HT := Lib.hid hT
        have HM := Lib.hid hmul
        rw [hn] at q0 hm
        rw [hn] at HEV HW
        have HC := Lib.hid hc
        have HN := Lib.hid hn
        clear he h0 hn hc q1 q2 hmul hbig hmb hT hd2
        go_enter Tryd.func28, Tryd.ntmps28
        go_wp2_with fail
        refine C1.out.mono ?_
        rintro e w1 ⟨rfl, hB0⟩
        have hs01 := hB0.size
        have q3 := (hB0.cell (p := ⟨b, off + 0, none⟩) hb).trans q0
        simp at q3
        go_wp2
        clear q3
        go_loopw [5, 6] (fun v i wr => ∃ (k : Nat), k ≤ n ∧ i = .int .i64 k ∧ OwnI wr w.heap.size v (weK L k) ∧ Below w.heap.size w wr) (fun _ i _ => n - (intOf i).toNat)
        case atStart => exact ⟨0, Nat.zero_le _, rfl, OwnI.empty w1 _ hs01, hB0.alloc hs01 _⟩
        case round =>
          obtain ⟨k, hk, rfl, hown, hBr⟩ := hrel
          have q3 := (hBr.cell (p := ⟨b, off + 0, none⟩) hb).trans q0
          simp at q3
          by_cases hlt : k < n
          · have HL := Lib.hid (fun j hj => we_len L k j n hlt hj)
            rw [HT.out] at HL
            have HK : Hid (weK L (k + 1) = weK L k ++ weR L k L.length) := Lib.hid rfl
            have HMo := Lib.hid (we_more L k)
            obtain ⟨wo, hwo⟩ : ∃ wo : World, wo = wr := ⟨_, rfl⟩
            subst hwo
            go_wp2
            go_loopw [5, 7] (fun v i wr => ∃ (j : Nat), j ≤ L.length ∧ i = .int .i64 j ∧ OwnI wr w.heap.size v (weK L k ++ weR L k j) ∧ Below w.heap.size w wr) (fun _ i _ => L.length - (intOf i).toNat)
            case atStart => exact ⟨0, Nat.zero_le _, rfl, by rw [show weR L k 0 = [] from rfl, List.append_nil]; exact hown, hBr⟩
            case round =>
              clear q3 hown hBr
              obtain ⟨j, hj, rfl, hown, hBr⟩ := hrel
              by_cases hjl : j < L.length
              · have hll := HL.out j (by omega)
                obtain ⟨A', c', r0, r1, r2⟩ := HC.out j hjl
                have r3 := (hBr.cell (p := ⟨b, off + j, none⟩) hb).trans r0
                have hnl := HEV.out j hjl
                obtain ⟨bl, off1, rfl, hb1, hcc1⟩ := (r2.step hBr).at_ (show k < (nthL L j).length by omega)
                rw [hnl] at r3
                have hk1 : (0 : Int) ≤ (k : Int) := by omega
                have hk2 : (k : Int) < (n : Int) := by omega
                have hk3 : (0 : Int) ≤ (j : Int) := by omega
                have hk4 : (j : Int) < (L.length : Int) := by omega
                have HX := Lib.hid (HMo.out j)
                obtain ⟨x, hx⟩ : ∃ x, nth (nthL L j) k = x := ⟨_, rfl⟩
                rw [hx] at hcc1 HX
                obtain ⟨ZZ, hzz⟩ : ∃ ZZ, weK L k ++ weR L k j = ZZ := ⟨_, rfl⟩
                rw [hzz] at hown hll HX
                clear hx hnl r0 r1 r2 hzz
                go_wp2_with (at_builtin; refine wpList_append_own _ rfl _ _ 22 rfl w.heap.size 3 i0 (.int .i64 0) 1 8 Tryd.underlying22 hi hz0 hz1 hz2 rfl (by decide) _ _ _ rfl (hown.alloc _) ⟨wr.heap.size, 0, none⟩ 1 1 [.int .i64 x] rfl rfl (cell_one_new _ _ _) (by simp [Value.oneCell']) (by unfold maxLen; omega) (by omega) (by have := hBr.size; simp; omega) ?_; intro v' w2 hown' hgrow _; have hB2 := below_append hBr hBr.size hown hgrow)
                have hown2 := OwnI.snoc hown'
                clear hown' hgrow
                go_roundw
                case rel => exact ⟨j + 1, by omega, by go_num, by rw [HX.out]; exact hown2, hB2⟩
                case measure => simp [intOf]; omega
              · obtain rfl : j = L.length := by omega
                go_wp2
                go_roundw
                case rel => exact ⟨k + 1, by omega, by go_num, by rw [HK.out]; exact hown, hBr⟩
                case measure => simp [intOf]; omega
          · obtain rfl : k = n := by omega
            obtain ⟨A', c', rfl, hcc, hsl⟩ := hown.form
            go_wp2
            go_ret2
            rw [HW.out]
            exact ⟨_, _, rfl, hcc, hsl, hBr⟩
  · have hd : (evE L != 0) = true := by rw [bne_iff_ne]; exact he
    rw [we_ev he]
    have C1 := Lib.hid C1
    have HE := Lib.hid he
    clear he
    go_enter Tryd.func28, Tryd.ntmps28
    go_wp2_with fail
    refine C1.out.mono ?_
    rintro e w1 ⟨rfl, hB0⟩
    have hs01 := hB0.size
    go_wp2
    go_ret2
    exact retL_none HE.out hB0
end Go.Proofs.YtchjdhlmpdcibaaDoor
