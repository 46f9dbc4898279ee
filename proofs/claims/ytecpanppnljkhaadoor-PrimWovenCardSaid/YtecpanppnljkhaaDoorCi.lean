/- Walks of prim: Weave. -/
import Derived.Test.YtecpanppnljkhaaDoorCh
namespace Go.Proofs.YtecpanppnljkhaaDoor
set_option linter.unusedVariables false
open Go.RowKit

theorem we_ev {L : List (List Int)} (h : evE L ≠ 0) : weE L = evE L := by unfold weE; rw [if_neg h]
theorem we_nil {L : List (List Int)} (h : evE L = 0) (h0 : L.length = 0) : weE L = 0 ∧ weL L = [] := by
  have : L = [] := List.eq_nil_of_length_eq_zero h0
  subst this
  exact ⟨by unfold weE; rw [if_pos h]; rfl, rfl⟩
theorem we_big {L : List (List Int)} (h : evE L = 0) (h0 : L.length ≠ 0) (h1 : 1048576 < L.length * (nthL L 0).length) : weE L = 9 := by
  unfold weE; rw [if_pos h, if_neg h0, headD_nthL, if_pos h1]
theorem we_ok {L : List (List Int)} (h : evE L = 0) (h0 : L.length ≠ 0) (h1 : ¬ 1048576 < L.length * (nthL L 0).length) : weE L = 0 := by
  unfold weE; rw [if_pos h, if_neg h0, headD_nthL, if_neg h1]
theorem we_list (L : List (List Int)) : weL L = weK L (nthL L 0).length := by unfold weL; rw [headD_nthL]
theorem we_more (L : List (List Int)) (i k : Nat) : weK L i ++ weR L i (k + 1) = (weK L i ++ weR L i k) ++ [nth (nthL L k) i] := by
  rw [show weR L i (k + 1) = weR L i k ++ [wv L k i] from mk_succ _ _, ← List.append_assoc]; rfl
theorem we_len (L : List (List Int)) (i k n : Nat) (hi : i < n) (hk : k ≤ L.length) : (weK L i ++ weR L i k).length ≤ L.length * n := by
  rw [List.length_append, weK_length, weR, mk_length]
  have : (i + 1) * L.length ≤ n * L.length := Nat.mul_le_mul_right _ hi
  rw [Nat.mul_comm L.length n, Nat.add_mul] at *
  omega
set_option maxRecDepth 100000 in
set_option maxHeartbeats 4000000 in
theorem weave_any (A : Option Addr) (c : Nat) (L : List (List Int)) (w : World) (h : Sll w A L) (hl : L.length ≤ 1048576) (hs : AllShort L) :
    Calls Tryd.prog 12 #[.slice A L.length c] w (RetL w (orL (weE L) (weL L)) (weE L)) := by
  obtain ⟨i0, hi, hz0, hz1, hz2⟩ := info_parts int_info
  have C1 := checkEven_any A c L w h (by omega) hs
  by_cases he : evE L = 0
  · rw [he] at C1
    have C1 := Lib.hid C1
    by_cases h0 : L.length = 0
    · obtain ⟨g1, g2⟩ := we_nil he h0
      rw [g1, g2, orL_ok]
      have hd : ((L.length : Int) == 0) = true := by rw [beq_iff_eq]; omega
      have H0 := Lib.hid h0
      clear he h0 g1 g2
      go_enter Tryd.func12, Tryd.ntmps12
      go_wp2_with fail
      refine C1.out.mono ?_
      rintro e w1 ⟨rfl, hB⟩
      go_wp2
      go_ret2
      exact ⟨none, 0, rfl, Nat.le_refl _, Sl.nil _ _, hB⟩
    · have hd : ((L.length : Int) == 0) = false := by rw [beq_eq_false_iff_ne]; omega
      have hl0 : 0 < L.length := by omega
      obtain ⟨b, off, rfl, hb, hc⟩ := h hl0
      obtain ⟨A0, c0, q0, q1, q2⟩ := hc 0 hl0
      have hm := (lsE_ok (evE_ok he).1).1 (nthL L 0) (nthL_mem L 0 hl0)
      have HEV := Lib.hid (fun k (hk : k < L.length) => show (nthL L k).length = (nthL L 0).length from by rw [← headD_nthL]; exact (evE_ok he).2 _ (nthL_mem L k hk))
      obtain ⟨n, hn⟩ : ∃ n, (nthL L 0).length = n := ⟨_, rfl⟩
      have hmul : ((L.length : Int) * (n : Int)) = ((L.length * n : Nat) : Int) := by simp
      have hmb : L.length * n ≤ 1048576 * 1048576 := Nat.mul_le_mul hl (by omega)
      by_cases hbig : 1048576 < L.length * n
      · have HE := Lib.hid (we_big he h0 (by rw [hn]; exact hbig))
        rw [HE.out]
        have hd2 : decide ((1048576 : Int) < (L.length : Int) * (n : Int)) = true := by rw [hmul]; simp; omega
        have hw : IntKind.i64.wrap ((L.length : Int) * (n : Int)) = (L.length : Int) * (n : Int) := by rw [hmul]; exact IntWalk.i64_in _ (by omega)
        rw [hn] at q0 hm
        have Hb := Lib.hid hbig
        clear he h0 hn HEV hc q1 q2 hmul hmb hbig
        go_enter Tryd.func12, Tryd.ntmps12
        go_wp2_with fail
        refine C1.out.mono ?_
        rintro e w1 ⟨rfl, hB⟩
        have q3 := (hB.cell (p := ⟨b, off + 0, none⟩) hb).trans q0
        simp at q3
        go_wp2
        go_ret2
        exact retL_none (by decide) hB
      · have HE := Lib.hid (we_ok he h0 (by rw [hn]; exact hbig))
        have HW := Lib.hid (we_list L)
        rw [HE.out, orL_ok]
        obtain ⟨T, hT⟩ : ∃ T, L.length * n = T := ⟨_, rfl⟩
        rw [hT] at hmul hbig hmb
        have hd2 : decide ((1048576 : Int) < (L.length : Int) * (n : Int)) = false := by rw [hmul]; simp; omega
        have hw : IntKind.i64.wrap ((L.length : Int) * (n : Int)) = (T : Int) := by rw [hmul]; exact IntWalk.i64_in _ (by omega)
        have hd3 : decide ((1048576 : Int) < (T : Int)) = false := by simp; omega
        have hTT : T ≤ 1048576 := by omega
        have HT := Lib.hid hT
        have HM := Lib.hid hmul
        rw [hn] at q0 hm
        rw [hn] at HEV HW
        have HC := Lib.hid hc
        have HN := Lib.hid hn
        clear he h0 hn hc q1 q2 hmul hbig hmb hT hd2
        go_enter Tryd.func12, Tryd.ntmps12
        go_wp2_with fail
        refine C1.out.mono ?_
        rintro e w1 ⟨rfl, hB0⟩
        have q3 := (hB0.cell (p := ⟨b, off + 0, none⟩) hb).trans q0
        simp at q3
        have hs01 := hB0.size
        go_wp2_with (at_make; refine wpList_make_own _ rfl _ _ 63 rfl w1.heap.size 3 i0 (.int .i64 0) 1 Tryd.underlying63 hi hz0 hz1 .i64 .i64 _ T rfl rfl rfl (by rw [hz2]; omega) (by unfold maxLen; omega) (Nat.le_refl _) ?_; intro w2 hown2 hg2; have hsz2 := hg2.size)
        have hB2 : Below w.heap.size w w2 := hB0.grown hg2 (by omega) (fun k e => by cases e)
        go_loopw [34] (fun i wr => ∃ (k : Nat) (v : Value), k ≤ n ∧ i = .int .i64 k ∧ Blk wr w2.heap.size 63 #[v] ∧ OwnI wr w1.heap.size v (weK L k) ∧ Below w.heap.size w wr) (fun i _ => n - (intOf i).toNat)
        case atStart => exact ⟨0, _, Nat.zero_le _, rfl, Blk.new _ _ _, (OwnI.made0 hown2).alloc _, hB2.alloc (by omega) _⟩
        case round =>
          obtain ⟨k, v, hk, rfl, hbl, hown, hBr⟩ := hrel
          by_cases hlt : k < n
          · have HL := Lib.hid (fun j hj => we_len L k j n hlt hj)
            rw [HT.out] at HL
            have HK : Hid (weK L (k + 1) = weK L k ++ weR L k L.length) := Lib.hid rfl
            have HMo := Lib.hid (we_more L k)
            obtain ⟨wo, hwo⟩ : ∃ wo : World, wo = wr := ⟨_, rfl⟩
            subst hwo
            go_wp2
            go_loopw [39] (fun i wr => ∃ (j : Nat) (v : Value), j ≤ L.length ∧ i = .int .i64 j ∧ Blk wr w2.heap.size 63 #[v] ∧ OwnI wr w1.heap.size v (weK L k ++ weR L k j) ∧ Below w.heap.size w wr) (fun i _ => L.length - (intOf i).toNat)
            case atStart => exact ⟨0, v, Nat.zero_le _, rfl, hbl, by rw [show weR L k 0 = [] from rfl, List.append_nil]; exact hown, hBr⟩
            case round =>
              obtain ⟨j, v', hj, rfl, hbl', hown', hBr'⟩ := hrel
              by_cases hjl : j < L.length
              · have hll := HL.out j (by omega)
                obtain ⟨A', c', r0, r1, r2⟩ := HC.out j hjl
                have r3 := (hBr'.cell (p := ⟨b, off + j, none⟩) hb).trans r0
                have hnl := HEV.out j hjl
                obtain ⟨bl, off1, rfl, hb1, hcc1⟩ := (r2.step hBr').at_ (show k < (nthL L j).length by omega)
                rw [hnl] at r3
                have hk1 : (0 : Int) ≤ (k : Int) := by omega
                have hk2 : (k : Int) < (n : Int) := by omega
                have hk3 : (0 : Int) ≤ (j : Int) := by omega
                have hk4 : (j : Int) < (L.length : Int) := by omega
                have HX := Lib.hid (HMo.out j)
                obtain ⟨x, hx⟩ : ∃ x, nth (nthL L j) k = x := ⟨_, rfl⟩
                rw [hx] at hcc1 HX
                have C3 := Lib.hid (add_any w1.heap.size w2.heap.size 0 63 _ v' _ x _ hbl' rfl (by decide) hown' (by have := hbl'.lt; omega) (by omega))
                have hsb := hbl'.lt
                clear hx hnl r0 r1 r2
                go_wp2_with fail
                refine C3.out.mono ?_
                rintro e w3 ⟨⟨u, rfl⟩, v3, hA⟩
                go_wp2
                go_roundw
                case rel => exact ⟨j + 1, v3, by omega, by go_num, hA.box, by rw [HX.out]; exact hA.own, hBr'.trans (hA.below _ (by omega) (by omega) (by omega))⟩
                case measure => simp [intOf]; omega
              · obtain rfl : j = L.length := by omega
                go_wp2
                go_roundw
                case rel => exact ⟨k + 1, v', by omega, by go_num, hbl', by rw [HK.out]; exact hown', hBr'⟩
                case measure => simp [intOf]; omega
          · obtain rfl : k = n := by omega
            obtain ⟨A', c', rfl, hcc, hcm, hA', hsl⟩ := hown.form3
            have C3 := Lib.hid (result_any w2.heap.size 0 63 _ A' _ c' _ hbl rfl hcc hcm hA')
            go_wp2_with fail
            refine C3.out.mono ?_
            rintro e w' ⟨rfl, rfl⟩
            go_wp2
            go_ret2
            rw [HW.out]
            exact ⟨A', _, rfl, Nat.le_refl _, hsl, hBr⟩
  · have hd : (evE L != 0) = true := by rw [bne_iff_ne]; exact he
    rw [we_ev he]
    have C1 := Lib.hid C1
    have HE := Lib.hid he
    clear he
    go_enter Tryd.func12, Tryd.ntmps12
    go_wp2_with fail
    refine C1.out.mono ?_
    rintro e w1 ⟨rfl, hB⟩
    go_wp2
    go_ret2
    exact retL_none HE.out hB
end Go.Proofs.YtecpanppnljkhaaDoor
