/- Walks of prim: Iota, Rep, Len. -/
import Derived.Test.YtecpanppnljkhaaDoorCg
namespace Go.Proofs.YtecpanppnljkhaaDoor
set_option linter.unusedVariables false
open Go.RowKit

theorem OwnI.made0 {w2 : World} {base T g : Nat} (h : w2.ownsRow base 3 1 (.slice (some ⟨g, 0, none⟩) 0 T) 0 []) : OwnI w2 base (.slice (some ⟨g, 0, none⟩) 0 T) [] := by unfold OwnI; simpa using h
theorem iot_err {l : List Int} (h : lsE [l] = 0) : iotE l = totE l := by unfold iotE; rw [if_pos h]
theorem iot_ls {l : List Int} (h : lsE [l] ≠ 0) : iotE l = lsE [l] := by unfold iotE; rw [if_neg h]
theorem rep_err {a l : List Int} (h : evE [a, l] = 0) : repE a l = totE l := by unfold repE; rw [if_pos h]
theorem rep_ev {a l : List Int} (h : evE [a, l] ≠ 0) : repE a l = evE [a, l] := by unfold repE; rw [if_neg h]
theorem totN_err {l : List Int} (h : totE l ≠ 0) : totN l = 0 := by unfold totN; rw [if_neg h]
theorem totN_ok {l : List Int} (h : totE l = 0) : totN l = l.sum := by unfold totN; rw [if_pos h]
theorem iot_more (l : List Int) (k j : Nat) : iotK l k ++ upL (j + 1) = (iotK l k ++ upL j) ++ [(j : Int)] := by rw [upL, mk_succ, ← List.append_assoc]; rfl
theorem iot_len {l : List Int} (h : totE l = 0) (k j : Nat) (hk : k < l.length) (hj : (j : Int) ≤ nth l k) : (iotK l k ++ upL j).length ≤ 1048576 := by
  obtain ⟨hp, h0, hs, hm⟩ := tot_ok h
  have h1 := iotK_length hp k (by omega)
  have h2 := hm (k + 1) (by omega)
  rw [psum_succ l k hk] at h2
  rw [List.length_append, upL, mk_length]; omega
theorem rep_more (a l : List Int) (k j : Nat) : repK a l k ++ List.replicate (j + 1) (nth a k) = (repK a l k ++ List.replicate j (nth a k)) ++ [nth a k] := by rw [List.replicate_succ', ← List.append_assoc]
theorem rep_len {a l : List Int} (h : totE l = 0) (k j : Nat) (hk : k < l.length) (hj : (j : Int) ≤ nth l k) : (repK a l k ++ List.replicate j (nth a k)).length ≤ 1048576 := by
  obtain ⟨hp, h0, hs, hm⟩ := tot_ok h
  have h1 := repK_length (a := a) hp k (by omega)
  have h2 := hm (k + 1) (by omega)
  rw [psum_succ l k hk] at h2
  rw [List.length_append, List.length_replicate]; omega

set_option maxRecDepth 100000 in
set_option maxHeartbeats 4000000 in
theorem len_any (A : Option Addr) (c : Nat) (l : List Int) (w : World) (h : Sl w A l) (hc : l.length ≤ c) (k1 : Ok l) :
    Calls Tryd.prog 46 #[.slice A l.length c] w (RetL w (orL (lenE l) [(l.length : Int)]) (lenE l)) := by
  have C1 : ∀ W g, Below w.heap.size w W → Blk W g 22 #[.slice A l.length c] → Calls Tryd.prog 74 #[.slice (some ⟨g, 0, none⟩) 1 1] W (RetV W (.int .i64 (lenE l))) :=
    fun W g hb hg => check1 g A c l W hg (h.step hb) hc k1
  by_cases he : lenE l = 0
  · rw [he] at C1 ⊢
    rw [orL_ok]
    have C1 := Lib.hid C1
    have hl := (lsE_ok he).1 l (by simp)
    clear he
    go_enter Tryd.func46, Tryd.ntmps46
    go_wp2_with fail
    refine (C1.out _ _ (al1 _ _) ?_).mono ?_
    · exact Blk.at (by simp)
    rintro e w1 ⟨rfl, hB⟩
    have hB0 := below_step (al1 _ _) hB
    go_wp2
    go_ret2
    exact ⟨_, 1, rfl, Nat.le_refl _, (Blk.at rfl).sl1, below_step hB0 (al1 _ _)⟩
  · have hd : (lenE l != 0) = true := by rw [bne_iff_ne]; exact he
    have C1 := Lib.hid C1
    have HE := Lib.hid he
    clear he
    go_enter Tryd.func46, Tryd.ntmps46
    go_wp2_with fail
    refine (C1.out _ _ (al1 _ _) ?_).mono ?_
    · exact Blk.at (by simp)
    rintro e w1 ⟨rfl, hB⟩
    have hB0 := below_step (al1 _ _) hB
    go_wp2
    go_ret2
    exact retL_none HE.out hB0

set_option maxRecDepth 100000 in
set_option maxHeartbeats 4000000 in
theorem iota_any (A : Option Addr) (c : Nat) (l : List Int) (w : World) (h : Sl w A l) (hc : l.length ≤ c) (k1 : Ok l) :
    Calls Tryd.prog 41 #[.slice A l.length c] w (RetL w (orL (iotE l) (iotL l)) (iotE l)) := by
  obtain ⟨i0, hi, hz0, hz1, hz2⟩ := info_parts int_info
  have C1 : ∀ W g, Below w.heap.size w W → Blk W g 22 #[.slice A l.length c] → Calls Tryd.prog 74 #[.slice (some ⟨g, 0, none⟩) 1 1] W (RetV W (.int .i64 (lsE [l]))) :=
    fun W g hb hg => check1 g A c l W hg (h.step hb) hc k1
  by_cases he : lsE [l] = 0
  · have hl := (lsE_ok he).1 l (by simp)
    have C2 := fun W hb => total_any A c l W (h.step hb) hl ((lsE_ok he).2 l (by simp))
    rw [he] at C1
    rw [iot_err he]
    have C1 := Lib.hid C1
    clear he
    by_cases ht : totE l = 0
    · obtain ⟨hp, hs0, hs1, hm⟩ := tot_ok ht
      obtain ⟨T, hT⟩ : ∃ T : Nat, l.sum = (T : Int) := ⟨l.sum.toNat, by omega⟩
      rw [totN_ok ht, ht, hT] at C2
      rw [ht, orL_ok]
      have C2 := Lib.hid C2
      have hT1 : T ≤ 1048576 := by omega
      have HT := Lib.hid ht
      have HP := Lib.hid (fun k hk => posB_of hp k hk)
      clear hT ht hp hs0 hs1 hm
      go_enter Tryd.func41, Tryd.ntmps41
      go_wp2_with fail
      refine (C1.out _ _ (al1 _ _) ?_).mono ?_
      · exact Blk.at (by simp)
      rintro e w1 ⟨rfl, hB⟩
      have hB0 := below_step (al1 _ _) hB
      have hs01 := hB0.size
      clear hB
      go_wp2_with fail
      refine (C2.out w1 hB0).mono ?_
      rintro e w' ⟨rfl, rfl⟩
      go_wp2_with (at_make; refine wpList_make_own _ rfl _ _ 63 rfl w1.heap.size 3 i0 (.int .i64 0) 1 Tryd.underlying63 hi hz0 hz1 .i64 .i64 _ T rfl rfl rfl (by rw [hz2]; omega) (by unfold maxLen; omega) (Nat.le_refl _) ?_; intro w2 hown2 hg2; have hsz2 := hg2.size)
      have hB2 : Below w.heap.size w w2 := hB0.grown hg2 (by omega) (fun k e => by cases e)
      go_loopw [31] (fun i wr => ∃ (k : Nat) (v : Value), k ≤ l.length ∧ i = .int .i64 k ∧ Blk wr w2.heap.size 63 #[v] ∧ OwnI wr w1.heap.size v (iotK l k) ∧ Below w.heap.size w wr) (fun i _ => l.length - (intOf i).toNat)
      case atStart => exact ⟨0, _, Nat.zero_le _, rfl, Blk.new _ _ _, (OwnI.made0 hown2).alloc _, hB2.alloc (by omega) _⟩
      case round =>
        obtain ⟨k, v, hk, rfl, hbl, hown, hBr⟩ := hrel
        by_cases hlt : k < l.length
        · obtain ⟨bl, off, rfl, hb0, hcc⟩ := (h.step hBr).at_ hlt
          have hk1 : (0 : Int) ≤ (k : Int) := by omega
          have hk2 : (k : Int) < (l.length : Int) := by omega
          have hn0 := HP.out k hlt
          have HL := Lib.hid (fun j hj => iot_len HT.out k j hlt hj)
          have HK : Hid (iotK l (k + 1) = iotK l k ++ upL (nth l k).toNat) := Lib.hid rfl
          have HM := Lib.hid (iot_more l k)
          obtain ⟨n, hn⟩ : ∃ n : Nat, nth l k = n := ⟨(nth l k).toNat, by omega⟩
          rw [hn] at hcc HL HK
          clear hn hn0
          have hn63 : n ≤ 1048576 := by have := HL.out n (Int.le_refl _); rw [List.length_append, upL, mk_length] at this; omega
          obtain ⟨wo, hwo⟩ : ∃ wo : World, wo = wr := ⟨_, rfl⟩
          subst hwo
          go_wp2
          go_loopw [36] (fun i wr => ∃ (j : Nat) (v : Value), j ≤ n ∧ i = .int .i64 j ∧ Blk wr w2.heap.size 63 #[v] ∧ OwnI wr w1.heap.size v (iotK l k ++ upL j) ∧ Below w.heap.size w wr) (fun i _ => n - (intOf i).toNat)
          case atStart => exact ⟨0, v, Nat.zero_le _, rfl, hbl, by rw [show upL 0 = [] from rfl, List.append_nil]; exact hown, hBr⟩
          case round =>
            obtain ⟨j, v', hj, rfl, hbl', hown', hBr'⟩ := hrel
            by_cases hjl : j < n
            · have hll := HL.out j (by omega)
              have C3 := Lib.hid (add_any w1.heap.size w2.heap.size 0 63 _ v' _ (j : Int) _ hbl' rfl (by decide) hown' (by have := hbl'.lt; omega) (by omega))
              have hsb := hbl'.lt
              go_wp2_with fail
              refine C3.out.mono ?_
              rintro e w3 ⟨⟨u, rfl⟩, v3, hA⟩
              go_wp2
              go_roundw
              case rel => exact ⟨j + 1, v3, by omega, by go_num, hA.box, by rw [HM.out]; exact hA.own, hBr'.trans (hA.below _ (by omega) (by omega) (by omega))⟩
              case measure => simp [intOf]; omega
            · obtain rfl : j = n := by omega
              go_wp2
              go_roundw
              case rel => exact ⟨k + 1, v', by omega, by go_num, hbl', by rw [HK.out]; simpa using hown', hBr'⟩
              case measure => simp [intOf]; omega
        · obtain rfl : k = l.length := by omega
          obtain ⟨A', c', rfl, hcc, hcm, hA', hsl⟩ := hown.form3
          have C3 := Lib.hid (result_any w2.heap.size 0 63 _ A' _ c' _ hbl rfl hcc hcm hA')
          go_wp2_with fail
          refine C3.out.mono ?_
          rintro e w' ⟨rfl, rfl⟩
          go_wp2
          go_ret2
          exact ⟨A', _, rfl, Nat.le_refl _, hsl, hBr⟩
    · have hd : (totE l != 0) = true := by rw [bne_iff_ne]; exact ht
      have HE := Lib.hid ht
      rw [totN_err ht] at C2
      have C2 := Lib.hid C2
      clear ht
      go_enter Tryd.func41, Tryd.ntmps41
      go_wp2_with fail
      refine (C1.out _ _ (al1 _ _) ?_).mono ?_
      · exact Blk.at (by simp)
      rintro e w1 ⟨rfl, hB⟩
      have hB0 := below_step (al1 _ _) hB
      go_wp2_with fail
      refine (C2.out w1 hB0).mono ?_
      rintro e w' ⟨rfl, rfl⟩
      go_wp2
      go_ret2
      exact retL_none HE.out hB0
  · have hd : (lsE [l] != 0) = true := by rw [bne_iff_ne]; exact he
    rw [iot_ls he]
    have C1 := Lib.hid C1
    have HE := Lib.hid he
    clear he
    go_enter Tryd.func41, Tryd.ntmps41
    go_wp2_with fail
    refine (C1.out _ _ (al1 _ _) ?_).mono ?_
    · exact Blk.at (by simp)
    rintro e w1 ⟨rfl, hB⟩
    have hB0 := below_step (al1 _ _) hB
    go_wp2
    go_ret2
    exact retL_none HE.out hB0

set_option maxRecDepth 100000 in
set_option maxHeartbeats 4000000 in
theorem rep_any (A1 A2 : Option Addr) (c1 c2 : Nat) (a l : List Int) (w : World) (h1 : Sl w A1 a) (h : Sl w A2 l) (hc1 : a.length ≤ c1) (hc : l.length ≤ c2) (k1 : Ok a) (k2 : Ok l) :
    Calls Tryd.prog 43 #[.slice A1 a.length c1, .slice A2 l.length c2] w (RetL w (orL (repE a l) (repL a l)) (repE a l)) := by
  obtain ⟨i0, hi, hz0, hz1, hz2⟩ := info_parts int_info
  have C1 : ∀ W g, Below w.heap.size w W → Blk W g 22 #[.slice A1 a.length c1, .slice A2 l.length c2] → Calls Tryd.prog 33 #[.slice (some ⟨g, 0, none⟩) 2 2] W (RetV W (.int .i64 (evE [a, l]))) :=
    fun W g hb hg => even2 g A1 A2 c1 c2 a l W hg (h1.step hb) (h.step hb) hc1 hc k1 k2
  by_cases he : evE [a, l] = 0
  · have hl := (lsE_ok (evE_ok he).1).1 l (by simp)
    have ha := (lsE_ok (evE_ok he).1).1 a (by simp)
    have E2 := Lib.hid (show l.length = a.length from (evE_ok he).2 l (by simp))
    have C2 := fun W hb => total_any A2 c2 l W (h.step hb) hl ((lsE_ok (evE_ok he).1).2 l (by simp))
    rw [he] at C1
    rw [rep_err he]
    have C1 := Lib.hid C1
    clear he
    by_cases ht : totE l = 0
    · obtain ⟨hp, hs0, hs1, hm⟩ := tot_ok ht
      obtain ⟨T, hT⟩ : ∃ T : Nat, l.sum = (T : Int) := ⟨l.sum.toNat, by omega⟩
      rw [totN_ok ht, ht, hT] at C2
      rw [ht, orL_ok]
      have C2 := Lib.hid C2
      have hT1 : T ≤ 1048576 := by omega
      have HT := Lib.hid ht
      have HP := Lib.hid (fun k hk => posB_of hp k hk)
      clear hT ht hp hs0 hs1 hm
      go_enter Tryd.func43, Tryd.ntmps43
      go_wp2_with fail
      refine (C1.out _ _ (al1 _ _) ?_).mono ?_
      · exact Blk.at (by simp)
      rintro e w1 ⟨rfl, hB⟩
      have hB0 := below_step (al1 _ _) hB
      have hs01 := hB0.size
      clear hB
      go_wp2_with fail
      refine (C2.out w1 hB0).mono ?_
      rintro e w' ⟨rfl, rfl⟩
      go_wp2_with (at_make; refine wpList_make_own _ rfl _ _ 63 rfl w1.heap.size 3 i0 (.int .i64 0) 1 Tryd.underlying63 hi hz0 hz1 .i64 .i64 _ T rfl rfl rfl (by rw [hz2]; omega) (by unfold maxLen; omega) (Nat.le_refl _) ?_; intro w2 hown2 hg2; have hsz2 := hg2.size)
      have hB2 : Below w.heap.size w w2 := hB0.grown hg2 (by omega) (fun k e => by cases e)
      go_loopw [33] (fun i wr => ∃ (k : Nat) (v : Value), k ≤ a.length ∧ i = .int .i64 k ∧ Blk wr w2.heap.size 63 #[v] ∧ OwnI wr w1.heap.size v (repK a l k) ∧ Below w.heap.size w wr) (fun i _ => a.length - (intOf i).toNat)
      case atStart => exact ⟨0, _, Nat.zero_le _, rfl, Blk.new _ _ _, (OwnI.made0 hown2).alloc _, hB2.alloc (by omega) _⟩
      case round =>
        obtain ⟨k, v, hk, rfl, hbl, hown, hBr⟩ := hrel
        by_cases hlt : k < a.length
        · have hlt' : k < l.length := by have := E2.out; omega
          obtain ⟨bl, off, rfl, hb0, hcc⟩ := (h.step hBr).at_ hlt'
          obtain ⟨bl1, off1, rfl, hb1, hcc1⟩ := (h1.step hBr).at_ hlt
          have hk1 : (0 : Int) ≤ (k : Int) := by omega
          have hk2 : (k : Int) < (l.length : Int) := by omega
          have hk3 : (k : Int) < (a.length : Int) := by omega
          have hn0 := HP.out k hlt'
          have HL := Lib.hid (fun j hj => rep_len (a := a) HT.out k j hlt' hj)
          have HK : Hid (repK a l (k + 1) = repK a l k ++ List.replicate (nth l k).toNat (nth a k)) := Lib.hid rfl
          have HM := Lib.hid (rep_more a l k)
          obtain ⟨n, hn⟩ : ∃ n : Nat, nth l k = n := ⟨(nth l k).toNat, by omega⟩
          obtain ⟨x, hx⟩ : ∃ x, nth a k = x := ⟨_, rfl⟩
          rw [hn] at hcc HL HK
          rw [hx] at hcc1 HL HK HM
          clear hn hn0 hx hlt'
          have hn63 : n ≤ 1048576 := by have := HL.out n (Int.le_refl _); rw [List.length_append, List.length_replicate] at this; omega
          obtain ⟨wo, hwo⟩ : ∃ wo : World, wo = wr := ⟨_, rfl⟩
          subst hwo
          go_wp2
          go_loopw [42] (fun i wr => ∃ (j : Nat) (v : Value), j ≤ n ∧ i = .int .i64 j ∧ Blk wr w2.heap.size 63 #[v] ∧ OwnI wr w1.heap.size v (repK a l k ++ List.replicate j x) ∧ Below w.heap.size w wr) (fun i _ => n - (intOf i).toNat)
          case atStart => exact ⟨0, v, Nat.zero_le _, rfl, hbl, by rw [List.replicate_zero, List.append_nil]; exact hown, hBr⟩
          case round =>
            obtain ⟨j, v', hj, rfl, hbl', hown', hBr'⟩ := hrel
            by_cases hjl : j < n
            · have hll := HL.out j (by omega)
              have C3 := Lib.hid (add_any w1.heap.size w2.heap.size 0 63 _ v' _ x _ hbl' rfl (by decide) hown' (by have := hbl'.lt; omega) (by omega))
              have hsb := hbl'.lt
              go_wp2_with fail
              refine C3.out.mono ?_
              rintro e w3 ⟨⟨u, rfl⟩, v3, hA⟩
              go_wp2
              go_roundw
              case rel => exact ⟨j + 1, v3, by omega, by go_num, hA.box, by rw [HM.out]; exact hA.own, hBr'.trans (hA.below _ (by omega) (by omega) (by omega))⟩
              case measure => simp [intOf]; omega
            · obtain rfl : j = n := by omega
              go_wp2
              go_roundw
              case rel => exact ⟨k + 1, v', by omega, by go_num, hbl', by rw [HK.out]; simpa using hown', hBr'⟩
              case measure => simp [intOf]; omega
        · obtain rfl : k = a.length := by omega
          obtain ⟨A', c', rfl, hcc, hcm, hA', hsl⟩ := hown.form3
          have C3 := Lib.hid (result_any w2.heap.size 0 63 _ A' _ c' _ hbl rfl hcc hcm hA')
          go_wp2_with fail
          refine C3.out.mono ?_
          rintro e w' ⟨rfl, rfl⟩
          go_wp2
          go_ret2
          exact ⟨A', _, rfl, Nat.le_refl _, hsl, hBr⟩
    · have hd : (totE l != 0) = true := by rw [bne_iff_ne]; exact ht
      have HE := Lib.hid ht
      rw [totN_err ht] at C2
      have C2 := Lib.hid C2
      clear ht
      go_enter Tryd.func43, Tryd.ntmps43
      go_wp2_with fail
      refine (C1.out _ _ (al1 _ _) ?_).mono ?_
      · exact Blk.at (by simp)
      rintro e w1 ⟨rfl, hB⟩
      have hB0 := below_step (al1 _ _) hB
      go_wp2_with fail
      refine (C2.out w1 hB0).mono ?_
      rintro e w' ⟨rfl, rfl⟩
      go_wp2
      go_ret2
      exact retL_none HE.out hB0
  · have hd : (evE [a, l] != 0) = true := by rw [bne_iff_ne]; exact he
    rw [rep_ev he]
    have C1 := Lib.hid C1
    have HE := Lib.hid he
    clear he
    go_enter Tryd.func43, Tryd.ntmps43
    go_wp2_with fail
    refine (C1.out _ _ (al1 _ _) ?_).mono ?_
    · exact Blk.at (by simp)
    rintro e w1 ⟨rfl, hB⟩
    have hB0 := below_step (al1 _ _) hB
    go_wp2
    go_ret2
    exact retL_none HE.out hB0
end Go.Proofs.YtecpanppnljkhaaDoor
