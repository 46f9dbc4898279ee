/- Walks of the specification: a slice appended; Upto, Copy; Iota, Cat. -/
import Derived.Test.YtchjdhlmpdcibaaDoorRc
import Derived.Test.YtchjdhlmpdcibaaDoorCh
import Derived.Laws.AppendOwnNone
namespace Go.Proofs.YtchjdhlmpdcibaaDoor
set_option linter.unusedVariables false
open Go.RowKit Go.Shelf
theorem Sl.news {w : World} {ad : Addr} {zs : List Int} (h : Sl w (some ad) zs) : ∀ j u, (zs.map (Value.int .i64))[j]? = some u → w.cell? (ad.add j) = some u := by
  intro j u hj
  have hjl : j < zs.length := by
    have := (List.getElem?_eq_some_iff.1 hj).1
    simpa using this
  obtain ⟨b, o, e, hb, hc⟩ := h.at_ hjl
  cases e
  rw [List.getElem?_map, List.getElem?_eq_getElem hjl] at hj
  simp at hj
  subst hj
  rw [nth_eq zs j hjl] at hc
  have he : (⟨b, o, none⟩ : Addr).add j = ⟨b, o + j, none⟩ := by unfold Addr.add; split <;> simp_all
  rw [he]; exact hc
theorem OwnI.app {w : World} {base n m : Nat} {v : Value} {zs ys : List Int} (h : w.ownsRow base 3 1 v (n + m) (zs.map (Value.int .i64) ++ ys.map (Value.int .i64))) (hn : zs.length = n) (hm : ys.length = m) : OwnI w base v (zs ++ ys) := by
  unfold OwnI
  rw [List.length_append, List.map_append, hn, hm]
  exact h
theorem below_app {w wr w1 : World} {base : Nat} {v : Value} {zs : List Int} (hB : Below base w wr) (hb : base ≤ wr.heap.size) (h : OwnI wr base v zs) (hg : wr.grownBy w1 v.ownBlock) : Below base w w1 :=
  hB.grown hg hb (fun k e => (h.lt k e).1)
theorem Sl.nil_of {w : World} {zs : List Int} (h : Sl w none zs) : zs = [] := by
  apply Classical.byContradiction
  intro hne
  obtain ⟨b, o, e, _⟩ := h (List.length_pos_iff.2 hne)
  cases e
set_option maxHeartbeats 4000000 in
theorem upto_any (n : Nat) (w : World) (hn : n ≤ 1048576) : Calls Tryd.prog 49 #[.int .i64 n] w fun e w' => ∃ A c, e = .returned (.slice A n c) ∧ n ≤ c ∧ (A = none → n = 0 ∧ c = 0) ∧ Sl w' A (upL n) ∧ Below w.heap.size w w' := by
  obtain ⟨i0, hi, hz0, hz1, hz2⟩ := info_parts int_info
  go_enter Tryd.func49, Tryd.ntmps49
  go_wp2
  go_loopw [3, 4] (fun v i wr => ∃ (k : Nat) (L : List Int), k ≤ n ∧ i = .int .i64 k ∧ Hid (L = upL k) ∧ L.length = k ∧ OwnI wr w.heap.size v L ∧ Below w.heap.size w wr) (fun _ i _ => n - (intOf i).toNat)
  case atStart => exact ⟨0, [], Nat.zero_le _, rfl, Lib.hid rfl, rfl, OwnI.empty w _ (Nat.le_refl _), (Below.refl _ _).alloc (Nat.le_refl _) _⟩
  case round =>
    obtain ⟨k, L, hk, rfl, HL, hLl, hown, hBr⟩ := hrel
    by_cases hlt : k < n
    · go_wp2_with (at_builtin; refine wpList_append_own _ rfl _ _ 22 rfl w.heap.size 3 i0 (.int .i64 0) 1 8 Tryd.underlying22 hi hz0 hz1 hz2 rfl (by decide) _ _ _ rfl (hown.alloc _) ⟨wr.heap.size, 0, none⟩ 1 1 [.int .i64 (k : Int)] rfl rfl (cell_one_new _ _ _) (by simp [Value.oneCell']) (by unfold maxLen; omega) (by omega) (by have := hBr.size; simp; omega) ?_; intro v' w2 hown' hgrow _; have hB2 := below_append hBr hBr.size hown hgrow)
      have hown2 := OwnI.snoc hown'
      clear hown' hgrow
      go_roundw
      case rel => exact ⟨k + 1, _, by omega, by go_num, Lib.hid (by rw [HL.out]; simp [upL, mk_succ]), by simp; omega, hown2, hB2⟩
      case measure => simp [intOf]; omega
    · obtain rfl : k = n := by omega
      obtain ⟨A', c', rfl, hcc, hcm, hA', hsl⟩ := hown.form3
      have HE := Lib.hid HL.out.symm
      rw [hLl] at hcc hA'
      go_wp2
      go_ret
      exact ⟨A', c', by first | rfl | (rw [hLl]; rfl), hcc, hA', by rw [HE.out]; exact hsl, hBr⟩
set_option maxRecDepth 100000 in
set_option maxHeartbeats 4000000 in
theorem riota_any (A1 : Option Addr) (c1 : Nat) (l : List Int) (w : World) (h1 : Sl w A1 l) (hc1 : l.length ≤ c1) (k1 : Ok l) :
    Calls Tryd.prog 37 #[.slice A1 l.length c1] w (RetL w (orL (iotE l) (iotL l)) (iotE l)) := by
  obtain ⟨i0, hi, hz0, hz1, hz2⟩ := info_parts int_info
  have C1 : ∀ W g, Below w.heap.size w W → Blk W g 22 #[.slice A1 l.length c1] → Calls Tryd.prog 56 #[.slice (some ⟨g, 0, none⟩) 1 1] W (RetV W (.int .i64 (lsE [l]))) :=
    fun W g hb hg => (lists_any _ 1 [l] W (sll1 hg (h1.step hb) hc1) (by simp) (allShort_of (by unfold Ok at k1; simpa using k1))).mono fun e w' ⟨he, hw⟩ => ⟨he, hw ▸ Below.refl _ _⟩
  by_cases he : lsE [l] = 0
  · have hl := (lsE_ok he).1 l (by simp)
    have HWd := (lsE_ok he).2 l (by simp)
    have C2 := fun W (hs : Sl W A1 l) => counts_any A1 c1 l W hs hl HWd
    rw [he] at C1
    have C1 := Lib.hid C1
    rw [iot_err he]
    clear he HWd
    by_cases ht : totE l = 0
    · rw [ht] at C2
      rw [ht, orL_ok]
      have C2 := Lib.hid C2
      have HT := Lib.hid ht
      have HP := Lib.hid (fun j hj => posB_of (tot_ok ht).1 j hj)
      clear ht
      go_enter Tryd.func37, Tryd.ntmps37
      go_wp2_with fail
      refine (C1.out _ _ (al1 _ _) ?_).mono ?_
      · exact Blk.at (by simp)
      rintro e w1 ⟨rfl, hB⟩
      have hB0 := below_step (al1 _ _) hB
      have hs01 := hB0.size
      go_wp2_with fail
      refine (C2.out _ (h1.step hB0)).mono ?_
      rintro e w' ⟨rfl, rfl⟩
      go_wp2
      go_loopw [6, 7] (fun v i wr => ∃ (k : Nat), k ≤ l.length ∧ i = .int .i64 k ∧ OwnI wr w.heap.size v (iotK l k) ∧ Below w.heap.size w wr) (fun _ i _ => l.length - (intOf i).toNat)
      case atStart => exact ⟨0, Nat.zero_le _, rfl, OwnI.empty w1 _ hs01, hB0.alloc hs01 _⟩
      case round =>
        obtain ⟨k, hk, rfl, hown, hBr⟩ := hrel
        by_cases hlt : k < l.length
        · have HL := Lib.hid (fun j hj => iot_len HT.out k j hlt hj)
          have h0 := HP.out k hlt
          have HK : Hid (iotK l (k + 1) = iotK l k ++ upL (nth l k).toNat) := Lib.hid rfl
          obtain ⟨bl, ol, rfl, hbl, hcl⟩ := (h1.step hBr).at_ hlt
          have q1 : (0 : Int) ≤ (k : Int) := by omega
          have q2 : (k : Int) < (l.length : Int) := by omega
          obtain ⟨Z, hZ⟩ : ∃ Z, iotK l k = Z := ⟨_, rfl⟩
          rw [hZ] at hown HL HK
          obtain ⟨N, hN⟩ : ∃ N : Nat, nth l k = (N : Int) := ⟨(nth l k).toNat, by omega⟩
          rw [hN] at HK HL h0 hcl
          rw [Int.toNat_natCast] at HK
          have hZN : (Z ++ upL N).length ≤ 1048576 := HL.out N (Int.le_refl _)
          have hul : (upL N).length = N := by unfold upL; rw [mk_length]
          rw [List.length_append, hul] at hZN
          have C3 := Lib.hid (fun W => upto_any N W (by omega))
          clear hZ hN
          go_wp2_with fail
          refine (C3.out _).mono ?_
          rintro e w2 ⟨A3, c3, rfl, hc3, hA3, hS3, hB3⟩
          have hB2 := below_step hBr hB3
          have hown2 := hown.below hB3 (Nat.le_refl _)
          clear hown hB3
          cases A3 with
          | none =>
            obtain ⟨rfl, rfl⟩ := hA3 rfl
            go_wp2_with (at_builtin; refine wpList_append_own_none rfl _ _ 22 rfl w.heap.size 3 i0 1 Tryd.underlying22 hi _ _ _ rfl hown2 rfl ?_)
            go_roundw
            case rel => exact ⟨k + 1, by omega, by go_num, by rw [HK.out]; simpa [upL, mk] using hown2, hB2⟩
            case measure => simp [intOf]; omega
          | some ad =>
            go_wp2_with (at_builtin; refine wpList_append_own _ rfl _ _ 22 rfl w.heap.size 3 i0 (.int .i64 0) 1 8 Tryd.underlying22 hi hz0 hz1 hz2 rfl (by decide) _ _ _ rfl hown2 ad N c3 ((upL N).map (Value.int .i64)) rfl (by rw [List.length_map, hul, Nat.mul_one]) (hS3.news) (by simp [Value.oneCell']) (by unfold maxLen; omega) (by omega) (by have := hB2.size; simp; omega) ?_; intro v' w3 hown' hgrow _)
            have hown3 := OwnI.app hown' rfl hul
            have hB4 := below_app hB2 hB2.size hown2 hgrow
            clear hown' hgrow hown2
            go_roundw
            case rel => exact ⟨k + 1, by omega, by go_num, by rw [HK.out]; exact hown3, hB4⟩
            case measure => simp [intOf]; omega
        · obtain rfl : k = l.length := by omega
          have HE : Hid (iotL l = iotK l l.length) := Lib.hid rfl
          obtain ⟨A', c', rfl, hcc, hsl⟩ := hown.form
          go_wp2
          go_ret2
          exact retL_of HE.out hcc hsl hBr
    · have hd : (totE l != 0) = true := by rw [bne_iff_ne]; exact ht
      have HE := Lib.hid ht
      have C2 := Lib.hid C2
      clear ht
      go_enter Tryd.func37, Tryd.ntmps37
      go_wp2_with fail
      refine (C1.out _ _ (al1 _ _) ?_).mono ?_
      · exact Blk.at (by simp)
      rintro e w1 ⟨rfl, hB⟩
      have hB0 := below_step (al1 _ _) hB
      have hs01 := hB0.size
      go_wp2_with fail
      refine (C2.out _ (h1.step hB0)).mono ?_
      rintro e w' ⟨rfl, rfl⟩
      go_wp2
      go_ret2
      exact retL_none HE.out hB0
  · have hd : (lsE [l] != 0) = true := by rw [bne_iff_ne]; exact he
    rw [iot_ls he]
    have C1 := Lib.hid C1
    have HE := Lib.hid he
    clear he
    go_enter Tryd.func37, Tryd.ntmps37
    go_wp2_with fail
    refine (C1.out _ _ (al1 _ _) ?_).mono ?_
    · exact Blk.at (by simp)
    rintro e w1 ⟨rfl, hB⟩
    have hB0 := below_step (al1 _ _) hB
    have hs01 := hB0.size
    go_wp2
    go_ret2
    exact retL_none HE.out hB0
end Go.Proofs.YtchjdhlmpdcibaaDoor
