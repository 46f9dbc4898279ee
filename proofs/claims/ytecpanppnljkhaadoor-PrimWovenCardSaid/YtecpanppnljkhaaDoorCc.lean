/- Walks of prim: placewise.first, at each of its closures. -/
import Derived.Test.YtecpanppnljkhaaDoorCb
import Derived.Deep.CutRange
import Derived.Laws.MakeOwn
namespace Go.Proofs.YtecpanppnljkhaaDoor
set_option linter.unusedVariables false
open Go.RowKit

set_option maxRecDepth 100000 in
set_option maxHeartbeats 2000000 in
theorem first_fill (G0 : Addr) (f er : Nat → Int) (many : Nat) (w : World) (hm : many ≤ 1048576)
    (hp : ∀ k W, k < many → Below w.heap.size w W → Calls Tryd.prog 87 #[.int .i64 (k : Int), .pointer (some G0)] W (Ret (.tuple #[.int .i64 (f k), .int .i64 (er k)]) W)) :
    Calls Tryd.prog 79 #[.agg #[.slice none 0 0, .func (.func 87) #[] #[.pointer (some G0)]], .int .i64 (many : Int)] w (RetL w (orL (fe er many) (mk f many)) (fe er many)) := by
  obtain ⟨i0, hi, hz0, hz1, hz2⟩ := info_parts int_info
  have HP := Lib.hid hp; clear hp
  go_enter Tryd.func79, Tryd.ntmps79
  go_wp2_with (at_make; refine wpList_make_own _ rfl _ _ 63 rfl (w.heap.size + 1) 3 i0 (.int .i64 0) 1 Tryd.underlying63 hi hz0 hz1 .i64 .i64 _ many rfl rfl rfl (by rw [hz2]; omega) (by unfold maxLen; omega) (by simp) ?_; intro w2 hown2 hg2; have bP := (Blk.new w 110 #[.slice none 0 0, .func (.func 87) #[] #[.pointer (some G0)]]).grown hg2 (by simp); have cP := bP.cell 0; have fP := bP.frozen 0; simp at cP; have hsz2 := hg2.size; simp at hsz2)
  go_loopw [13] (fun i wr => ∃ (k : Nat) (v : Value), k ≤ many ∧ i = .int .i64 k ∧ Hid (fe er k = 0) ∧ Blk wr w.heap.size 110 #[v, .func (.func 87) #[] #[.pointer (some G0)]] ∧ OwnI wr (w.heap.size + 1) v (mk f k) ∧ Below w.heap.size w wr) (fun i _ => many - (intOf i).toNat)
  case atStart =>
    refine ⟨0, .slice (some ⟨w.heap.size + 1, 0, none⟩) 0 many, Nat.zero_le _, rfl, Lib.hid (fe_zero er), ?_, ?_, ?_⟩
    · exact bP.set_ 0 _
    · have h0 : OwnI w2 (w.heap.size + 1) (.slice (some ⟨w.heap.size + 1, 0, none⟩) 0 many) [] := by unfold OwnI; simpa using hown2
      exact h0.kept (grownBy_set w2 ⟨w.heap.size, 0, none⟩ _) (.inr (by simp [Value.ownBlock]))
    · exact (((Below.refl _ _).alloc (Nat.le_refl _) _).grown hg2 (by simp) (fun k e => by cases e)).setCell (Nat.le_refl _) _
  case round =>
    obtain ⟨k, v, hk, rfl, HE, hbl, hown, hB⟩ := hrel
    have hl : (mk f k).length ≤ 16777216 := by rw [mk_length]; omega
    have hszr := hB.size
    have hlt' := hbl.lt
    by_cases hlt : k < many
    · have hc1 := hbl.cell 1
      simp at hc1
      have C := HP.out k wr hlt hB
      obtain ⟨z, hz⟩ : ∃ z, f k = z := ⟨_, rfl⟩
      obtain ⟨y, hy⟩ : ∃ y, er k = y := ⟨_, rfl⟩
      rw [hz, hy] at C
      have C := Lib.hid C
      have HZ := Lib.hid hz
      have HY := Lib.hid hy
      clear hz hy
      by_cases hy0 : y = 0
      · subst hy0
        have HN := Lib.hid (fe_go HE.out HY.out)
        have HM := Lib.hid (mk_succ f k)
        go_wp2_with fail
        refine C.out.mono ?_
        rintro e w' ⟨rfl, hB2⟩
        have hbl2 := hbl.below hB2 hbl.lt
        have hown2 := hown.below hB2 (Nat.le_refl _)
        have C2 := Lib.hid (add_any (w.heap.size + 1) w.heap.size 0 110 _ v (mk f k) z w' hbl2 rfl (by decide) hown2 (by have := hB2.size; omega) hl)
        go_wp2_with (go_at_call 34; refine C2.out.mono ?_; rintro e w3 ⟨⟨u, rfl⟩, v', hA⟩)
        go_roundw
        case rel => exact ⟨k + 1, v', by omega, by go_num, HN, hA.box, by rw [HM.out, HZ.out]; exact hA.own, hB.trans ((hB2.mono hszr).trans (hA.below _ (by omega) (Nat.le_refl _) (by have := hB2.size; omega)))⟩
        case measure => simp [intOf]; omega
      · have hd : (y != 0) = true := by rw [bne_iff_ne]; exact hy0
        have HN : Hid (fe er many = y) := Lib.hid (by rw [fe_stop HE.out (by rw [HY.out]; exact hy0) hlt, HY.out])
        have HO : Hid (orL y (mk f many) = []) := Lib.hid (orL_err _ hy0)
        clear hy0
        go_wp2_with fail
        refine C.out.mono ?_
        rintro e w' ⟨rfl, hB2⟩
        go_wp2
        go_ret2
        rw [HN.out, HO.out]
        exact ⟨none, 0, rfl, Nat.le_refl _, Sl.nil _ _, hB.trans (hB2.mono hszr)⟩
    · obtain rfl : k = many := by omega
      obtain ⟨A, c, rfl, hc, hcm, hA, hsl⟩ := hown.form3
      have C2 := Lib.hid (result_any w.heap.size 0 110 _ A (mk f k).length c wr hbl rfl hc (by omega) hA)
      have HO : Hid (orL 0 (mk f k) = mk f k) := Lib.hid rfl
      go_wp2_with (go_at_call 35; refine C2.out.mono ?_; rintro e w' ⟨rfl, rfl⟩)
      go_ret2
      rw [HE.out, HO.out]
      exact ⟨A, _, rfl, Nat.le_refl _, hsl, hB⟩
set_option maxRecDepth 100000 in
set_option maxHeartbeats 2000000 in
theorem first_bin (G0 G1 G2 : Addr) (f er : Nat → Int) (many : Nat) (w : World) (hm : many ≤ 1048576)
    (hp : ∀ k W, k < many → Below w.heap.size w W → Calls Tryd.prog 78 #[.int .i64 (k : Int), .pointer (some G0), .pointer (some G1), .pointer (some G2)] W (Ret (.tuple #[.int .i64 (f k), .int .i64 (er k)]) W)) :
    Calls Tryd.prog 79 #[.agg #[.slice none 0 0, .func (.func 78) #[] #[.pointer (some G0), .pointer (some G1), .pointer (some G2)]], .int .i64 (many : Int)] w (RetL w (orL (fe er many) (mk f many)) (fe er many)) := by
  obtain ⟨i0, hi, hz0, hz1, hz2⟩ := info_parts int_info
  have HP := Lib.hid hp; clear hp
  go_enter Tryd.func79, Tryd.ntmps79
  go_wp2_with (at_make; refine wpList_make_own _ rfl _ _ 63 rfl (w.heap.size + 1) 3 i0 (.int .i64 0) 1 Tryd.underlying63 hi hz0 hz1 .i64 .i64 _ many rfl rfl rfl (by rw [hz2]; omega) (by unfold maxLen; omega) (by simp) ?_; intro w2 hown2 hg2; have bP := (Blk.new w 110 #[.slice none 0 0, .func (.func 78) #[] #[.pointer (some G0), .pointer (some G1), .pointer (some G2)]]).grown hg2 (by simp); have cP := bP.cell 0; have fP := bP.frozen 0; simp at cP; have hsz2 := hg2.size; simp at hsz2)
  go_loopw [13] (fun i wr => ∃ (k : Nat) (v : Value), k ≤ many ∧ i = .int .i64 k ∧ Hid (fe er k = 0) ∧ Blk wr w.heap.size 110 #[v, .func (.func 78) #[] #[.pointer (some G0), .pointer (some G1), .pointer (some G2)]] ∧ OwnI wr (w.heap.size + 1) v (mk f k) ∧ Below w.heap.size w wr) (fun i _ => many - (intOf i).toNat)
  case atStart =>
    refine ⟨0, .slice (some ⟨w.heap.size + 1, 0, none⟩) 0 many, Nat.zero_le _, rfl, Lib.hid (fe_zero er), ?_, ?_, ?_⟩
    · exact bP.set_ 0 _
    · have h0 : OwnI w2 (w.heap.size + 1) (.slice (some ⟨w.heap.size + 1, 0, none⟩) 0 many) [] := by unfold OwnI; simpa using hown2
      exact h0.kept (grownBy_set w2 ⟨w.heap.size, 0, none⟩ _) (.inr (by simp [Value.ownBlock]))
    · exact (((Below.refl _ _).alloc (Nat.le_refl _) _).grown hg2 (by simp) (fun k e => by cases e)).setCell (Nat.le_refl _) _
  case round =>
    obtain ⟨k, v, hk, rfl, HE, hbl, hown, hB⟩ := hrel
    have hl : (mk f k).length ≤ 16777216 := by rw [mk_length]; omega
    have hszr := hB.size
    have hlt' := hbl.lt
    by_cases hlt : k < many
    · have hc1 := hbl.cell 1
      simp at hc1
      have C := HP.out k wr hlt hB
      obtain ⟨z, hz⟩ : ∃ z, f k = z := ⟨_, rfl⟩
      obtain ⟨y, hy⟩ : ∃ y, er k = y := ⟨_, rfl⟩
      rw [hz, hy] at C
      have C := Lib.hid C
      have HZ := Lib.hid hz
      have HY := Lib.hid hy
      clear hz hy
      by_cases hy0 : y = 0
      · subst hy0
        have HN := Lib.hid (fe_go HE.out HY.out)
        have HM := Lib.hid (mk_succ f k)
        go_wp2_with fail
        refine C.out.mono ?_
        rintro e w' ⟨rfl, hB2⟩
        have hbl2 := hbl.below hB2 hbl.lt
        have hown2 := hown.below hB2 (Nat.le_refl _)
        have C2 := Lib.hid (add_any (w.heap.size + 1) w.heap.size 0 110 _ v (mk f k) z w' hbl2 rfl (by decide) hown2 (by have := hB2.size; omega) hl)
        go_wp2_with (go_at_call 34; refine C2.out.mono ?_; rintro e w3 ⟨⟨u, rfl⟩, v', hA⟩)
        go_roundw
        case rel => exact ⟨k + 1, v', by omega, by go_num, HN, hA.box, by rw [HM.out, HZ.out]; exact hA.own, hB.trans ((hB2.mono hszr).trans (hA.below _ (by omega) (Nat.le_refl _) (by have := hB2.size; omega)))⟩
        case measure => simp [intOf]; omega
      · have hd : (y != 0) = true := by rw [bne_iff_ne]; exact hy0
        have HN : Hid (fe er many = y) := Lib.hid (by rw [fe_stop HE.out (by rw [HY.out]; exact hy0) hlt, HY.out])
        have HO : Hid (orL y (mk f many) = []) := Lib.hid (orL_err _ hy0)
        clear hy0
        go_wp2_with fail
        refine C.out.mono ?_
        rintro e w' ⟨rfl, hB2⟩
        go_wp2
        go_ret2
        rw [HN.out, HO.out]
        exact ⟨none, 0, rfl, Nat.le_refl _, Sl.nil _ _, hB.trans (hB2.mono hszr)⟩
    · obtain rfl : k = many := by omega
      obtain ⟨A, c, rfl, hc, hcm, hA, hsl⟩ := hown.form3
      have C2 := Lib.hid (result_any w.heap.size 0 110 _ A (mk f k).length c wr hbl rfl hc (by omega) hA)
      have HO : Hid (orL 0 (mk f k) = mk f k) := Lib.hid rfl
      go_wp2_with (go_at_call 35; refine C2.out.mono ?_; rintro e w' ⟨rfl, rfl⟩)
      go_ret2
      rw [HE.out, HO.out]
      exact ⟨A, _, rfl, Nat.le_refl _, hsl, hB⟩
set_option maxRecDepth 100000 in
set_option maxHeartbeats 2000000 in
theorem first_pick (G0 G1 G2 : Addr) (f er : Nat → Int) (many : Nat) (w : World) (hm : many ≤ 1048576)
    (hp : ∀ k W, k < many → Below w.heap.size w W → Calls Tryd.prog 80 #[.int .i64 (k : Int), .pointer (some G0), .pointer (some G1), .pointer (some G2)] W (Ret (.tuple #[.int .i64 (f k), .int .i64 (er k)]) W)) :
    Calls Tryd.prog 79 #[.agg #[.slice none 0 0, .func (.func 80) #[] #[.pointer (some G0), .pointer (some G1), .pointer (some G2)]], .int .i64 (many : Int)] w (RetL w (orL (fe er many) (mk f many)) (fe er many)) := by
  obtain ⟨i0, hi, hz0, hz1, hz2⟩ := info_parts int_info
  have HP := Lib.hid hp; clear hp
  go_enter Tryd.func79, Tryd.ntmps79
  go_wp2_with (at_make; refine wpList_make_own _ rfl _ _ 63 rfl (w.heap.size + 1) 3 i0 (.int .i64 0) 1 Tryd.underlying63 hi hz0 hz1 .i64 .i64 _ many rfl rfl rfl (by rw [hz2]; omega) (by unfold maxLen; omega) (by simp) ?_; intro w2 hown2 hg2; have bP := (Blk.new w 110 #[.slice none 0 0, .func (.func 80) #[] #[.pointer (some G0), .pointer (some G1), .pointer (some G2)]]).grown hg2 (by simp); have cP := bP.cell 0; have fP := bP.frozen 0; simp at cP; have hsz2 := hg2.size; simp at hsz2)
  go_loopw [13] (fun i wr => ∃ (k : Nat) (v : Value), k ≤ many ∧ i = .int .i64 k ∧ Hid (fe er k = 0) ∧ Blk wr w.heap.size 110 #[v, .func (.func 80) #[] #[.pointer (some G0), .pointer (some G1), .pointer (some G2)]] ∧ OwnI wr (w.heap.size + 1) v (mk f k) ∧ Below w.heap.size w wr) (fun i _ => many - (intOf i).toNat)
  case atStart =>
    refine ⟨0, .slice (some ⟨w.heap.size + 1, 0, none⟩) 0 many, Nat.zero_le _, rfl, Lib.hid (fe_zero er), ?_, ?_, ?_⟩
    · exact bP.set_ 0 _
    · have h0 : OwnI w2 (w.heap.size + 1) (.slice (some ⟨w.heap.size + 1, 0, none⟩) 0 many) [] := by unfold OwnI; simpa using hown2
      exact h0.kept (grownBy_set w2 ⟨w.heap.size, 0, none⟩ _) (.inr (by simp [Value.ownBlock]))
    · exact (((Below.refl _ _).alloc (Nat.le_refl _) _).grown hg2 (by simp) (fun k e => by cases e)).setCell (Nat.le_refl _) _
  case round =>
    obtain ⟨k, v, hk, rfl, HE, hbl, hown, hB⟩ := hrel
    have hl : (mk f k).length ≤ 16777216 := by rw [mk_length]; omega
    have hszr := hB.size
    have hlt' := hbl.lt
    by_cases hlt : k < many
    · have hc1 := hbl.cell 1
      simp at hc1
      have C := HP.out k wr hlt hB
      obtain ⟨z, hz⟩ : ∃ z, f k = z := ⟨_, rfl⟩
      obtain ⟨y, hy⟩ : ∃ y, er k = y := ⟨_, rfl⟩
      rw [hz, hy] at C
      have C := Lib.hid C
      have HZ := Lib.hid hz
      have HY := Lib.hid hy
      clear hz hy
      by_cases hy0 : y = 0
      · subst hy0
        have HN := Lib.hid (fe_go HE.out HY.out)
        have HM := Lib.hid (mk_succ f k)
        go_wp2_with fail
        refine C.out.mono ?_
        rintro e w' ⟨rfl, hB2⟩
        have hbl2 := hbl.below hB2 hbl.lt
        have hown2 := hown.below hB2 (Nat.le_refl _)
        have C2 := Lib.hid (add_any (w.heap.size + 1) w.heap.size 0 110 _ v (mk f k) z w' hbl2 rfl (by decide) hown2 (by have := hB2.size; omega) hl)
        go_wp2_with (go_at_call 34; refine C2.out.mono ?_; rintro e w3 ⟨⟨u, rfl⟩, v', hA⟩)
        go_roundw
        case rel => exact ⟨k + 1, v', by omega, by go_num, HN, hA.box, by rw [HM.out, HZ.out]; exact hA.own, hB.trans ((hB2.mono hszr).trans (hA.below _ (by omega) (Nat.le_refl _) (by have := hB2.size; omega)))⟩
        case measure => simp [intOf]; omega
      · have hd : (y != 0) = true := by rw [bne_iff_ne]; exact hy0
        have HN : Hid (fe er many = y) := Lib.hid (by rw [fe_stop HE.out (by rw [HY.out]; exact hy0) hlt, HY.out])
        have HO : Hid (orL y (mk f many) = []) := Lib.hid (orL_err _ hy0)
        clear hy0
        go_wp2_with fail
        refine C.out.mono ?_
        rintro e w' ⟨rfl, hB2⟩
        go_wp2
        go_ret2
        rw [HN.out, HO.out]
        exact ⟨none, 0, rfl, Nat.le_refl _, Sl.nil _ _, hB.trans (hB2.mono hszr)⟩
    · obtain rfl : k = many := by omega
      obtain ⟨A, c, rfl, hc, hcm, hA, hsl⟩ := hown.form3
      have C2 := Lib.hid (result_any w.heap.size 0 110 _ A (mk f k).length c wr hbl rfl hc (by omega) hA)
      have HO : Hid (orL 0 (mk f k) = mk f k) := Lib.hid rfl
      go_wp2_with (go_at_call 35; refine C2.out.mono ?_; rintro e w' ⟨rfl, rfl⟩)
      go_ret2
      rw [HE.out, HO.out]
      exact ⟨A, _, rfl, Nat.le_refl _, hsl, hB⟩
set_option maxRecDepth 100000 in
set_option maxHeartbeats 2000000 in
theorem first_off (G0 G1 : Addr) (f er : Nat → Int) (many : Nat) (w : World) (hm : many ≤ 1048576)
    (hp : ∀ k W, k < many → Below w.heap.size w W → Calls Tryd.prog 86 #[.int .i64 (k : Int), .pointer (some G0), .pointer (some G1)] W (Ret (.tuple #[.int .i64 (f k), .int .i64 (er k)]) W)) :
    Calls Tryd.prog 79 #[.agg #[.slice none 0 0, .func (.func 86) #[] #[.pointer (some G0), .pointer (some G1)]], .int .i64 (many : Int)] w (RetL w (orL (fe er many) (mk f many)) (fe er many)) := by
  obtain ⟨i0, hi, hz0, hz1, hz2⟩ := info_parts int_info
  have HP := Lib.hid hp; clear hp
  go_enter Tryd.func79, Tryd.ntmps79
  go_wp2_with (at_make; refine wpList_make_own _ rfl _ _ 63 rfl (w.heap.size + 1) 3 i0 (.int .i64 0) 1 Tryd.underlying63 hi hz0 hz1 .i64 .i64 _ many rfl rfl rfl (by rw [hz2]; omega) (by unfold maxLen; omega) (by simp) ?_; intro w2 hown2 hg2; have bP := (Blk.new w 110 #[.slice none 0 0, .func (.func 86) #[] #[.pointer (some G0), .pointer (some G1)]]).grown hg2 (by simp); have cP := bP.cell 0; have fP := bP.frozen 0; simp at cP; have hsz2 := hg2.size; simp at hsz2)
  go_loopw [13] (fun i wr => ∃ (k : Nat) (v : Value), k ≤ many ∧ i = .int .i64 k ∧ Hid (fe er k = 0) ∧ Blk wr w.heap.size 110 #[v, .func (.func 86) #[] #[.pointer (some G0), .pointer (some G1)]] ∧ OwnI wr (w.heap.size + 1) v (mk f k) ∧ Below w.heap.size w wr) (fun i _ => many - (intOf i).toNat)
  case atStart =>
    refine ⟨0, .slice (some ⟨w.heap.size + 1, 0, none⟩) 0 many, Nat.zero_le _, rfl, Lib.hid (fe_zero er), ?_, ?_, ?_⟩
    · exact bP.set_ 0 _
    · have h0 : OwnI w2 (w.heap.size + 1) (.slice (some ⟨w.heap.size + 1, 0, none⟩) 0 many) [] := by unfold OwnI; simpa using hown2
      exact h0.kept (grownBy_set w2 ⟨w.heap.size, 0, none⟩ _) (.inr (by simp [Value.ownBlock]))
    · exact (((Below.refl _ _).alloc (Nat.le_refl _) _).grown hg2 (by simp) (fun k e => by cases e)).setCell (Nat.le_refl _) _
  case round =>
    obtain ⟨k, v, hk, rfl, HE, hbl, hown, hB⟩ := hrel
    have hl : (mk f k).length ≤ 16777216 := by rw [mk_length]; omega
    have hszr := hB.size
    have hlt' := hbl.lt
    by_cases hlt : k < many
    · have hc1 := hbl.cell 1
      simp at hc1
      have C := HP.out k wr hlt hB
      obtain ⟨z, hz⟩ : ∃ z, f k = z := ⟨_, rfl⟩
      obtain ⟨y, hy⟩ : ∃ y, er k = y := ⟨_, rfl⟩
      rw [hz, hy] at C
      have C := Lib.hid C
      have HZ := Lib.hid hz
      have HY := Lib.hid hy
      clear hz hy
      by_cases hy0 : y = 0
      · subst hy0
        have HN := Lib.hid (fe_go HE.out HY.out)
        have HM := Lib.hid (mk_succ f k)
        go_wp2_with fail
        refine C.out.mono ?_
        rintro e w' ⟨rfl, hB2⟩
        have hbl2 := hbl.below hB2 hbl.lt
        have hown2 := hown.below hB2 (Nat.le_refl _)
        have C2 := Lib.hid (add_any (w.heap.size + 1) w.heap.size 0 110 _ v (mk f k) z w' hbl2 rfl (by decide) hown2 (by have := hB2.size; omega) hl)
        go_wp2_with (go_at_call 34; refine C2.out.mono ?_; rintro e w3 ⟨⟨u, rfl⟩, v', hA⟩)
        go_roundw
        case rel => exact ⟨k + 1, v', by omega, by go_num, HN, hA.box, by rw [HM.out, HZ.out]; exact hA.own, hB.trans ((hB2.mono hszr).trans (hA.below _ (by omega) (Nat.le_refl _) (by have := hB2.size; omega)))⟩
        case measure => simp [intOf]; omega
      · have hd : (y != 0) = true := by rw [bne_iff_ne]; exact hy0
        have HN : Hid (fe er many = y) := Lib.hid (by rw [fe_stop HE.out (by rw [HY.out]; exact hy0) hlt, HY.out])
        have HO : Hid (orL y (mk f many) = []) := Lib.hid (orL_err _ hy0)
        clear hy0
        go_wp2_with fail
        refine C.out.mono ?_
        rintro e w' ⟨rfl, hB2⟩
        go_wp2
        go_ret2
        rw [HN.out, HO.out]
        exact ⟨none, 0, rfl, Nat.le_refl _, Sl.nil _ _, hB.trans (hB2.mono hszr)⟩
    · obtain rfl : k = many := by omega
      obtain ⟨A, c, rfl, hc, hcm, hA, hsl⟩ := hown.form3
      have C2 := Lib.hid (result_any w.heap.size 0 110 _ A (mk f k).length c wr hbl rfl hc (by omega) hA)
      have HO : Hid (orL 0 (mk f k) = mk f k) := Lib.hid rfl
      go_wp2_with (go_at_call 35; refine C2.out.mono ?_; rintro e w' ⟨rfl, rfl⟩)
      go_ret2
      rw [HE.out, HO.out]
      exact ⟨A, _, rfl, Nat.le_refl _, hsl, hB⟩
set_option maxRecDepth 100000 in
set_option maxHeartbeats 2000000 in
theorem first_gather (G0 G1 : Addr) (f er : Nat → Int) (many : Nat) (w : World) (hm : many ≤ 1048576)
    (hp : ∀ k W, k < many → Below w.heap.size w W → Calls Tryd.prog 84 #[.int .i64 (k : Int), .pointer (some G0), .pointer (some G1)] W (Ret (.tuple #[.int .i64 (f k), .int .i64 (er k)]) W)) :
    Calls Tryd.prog 79 #[.agg #[.slice none 0 0, .func (.func 84) #[] #[.pointer (some G0), .pointer (some G1)]], .int .i64 (many : Int)] w (RetL w (orL (fe er many) (mk f many)) (fe er many)) := by
  obtain ⟨i0, hi, hz0, hz1, hz2⟩ := info_parts int_info
  have HP := Lib.hid hp; clear hp
  go_enter Tryd.func79, Tryd.ntmps79
  go_wp2_with (at_make; refine wpList_make_own _ rfl _ _ 63 rfl (w.heap.size + 1) 3 i0 (.int .i64 0) 1 Tryd.underlying63 hi hz0 hz1 .i64 .i64 _ many rfl rfl rfl (by rw [hz2]; omega) (by unfold maxLen; omega) (by simp) ?_; intro w2 hown2 hg2; have bP := (Blk.new w 110 #[.slice none 0 0, .func (.func 84) #[] #[.pointer (some G0), .pointer (some G1)]]).grown hg2 (by simp); have cP := bP.cell 0; have fP := bP.frozen 0; simp at cP; have hsz2 := hg2.size; simp at hsz2)
  go_loopw [13] (fun i wr => ∃ (k : Nat) (v : Value), k ≤ many ∧ i = .int .i64 k ∧ Hid (fe er k = 0) ∧ Blk wr w.heap.size 110 #[v, .func (.func 84) #[] #[.pointer (some G0), .pointer (some G1)]] ∧ OwnI wr (w.heap.size + 1) v (mk f k) ∧ Below w.heap.size w wr) (fun i _ => many - (intOf i).toNat)
  case atStart =>
    refine ⟨0, .slice (some ⟨w.heap.size + 1, 0, none⟩) 0 many, Nat.zero_le _, rfl, Lib.hid (fe_zero er), ?_, ?_, ?_⟩
    · exact bP.set_ 0 _
    · have h0 : OwnI w2 (w.heap.size + 1) (.slice (some ⟨w.heap.size + 1, 0, none⟩) 0 many) [] := by unfold OwnI; simpa using hown2
      exact h0.kept (grownBy_set w2 ⟨w.heap.size, 0, none⟩ _) (.inr (by simp [Value.ownBlock]))
    · exact (((Below.refl _ _).alloc (Nat.le_refl _) _).grown hg2 (by simp) (fun k e => by cases e)).setCell (Nat.le_refl _) _
  case round =>
    obtain ⟨k, v, hk, rfl, HE, hbl, hown, hB⟩ := hrel
    have hl : (mk f k).length ≤ 16777216 := by rw [mk_length]; omega
    have hszr := hB.size
    have hlt' := hbl.lt
    by_cases hlt : k < many
    · have hc1 := hbl.cell 1
      simp at hc1
      have C := HP.out k wr hlt hB
      obtain ⟨z, hz⟩ : ∃ z, f k = z := ⟨_, rfl⟩
      obtain ⟨y, hy⟩ : ∃ y, er k = y := ⟨_, rfl⟩
      rw [hz, hy] at C
      have C := Lib.hid C
      have HZ := Lib.hid hz
      have HY := Lib.hid hy
      clear hz hy
      by_cases hy0 : y = 0
      · subst hy0
        have HN := Lib.hid (fe_go HE.out HY.out)
        have HM := Lib.hid (mk_succ f k)
        go_wp2_with fail
        refine C.out.mono ?_
        rintro e w' ⟨rfl, hB2⟩
        have hbl2 := hbl.below hB2 hbl.lt
        have hown2 := hown.below hB2 (Nat.le_refl _)
        have C2 := Lib.hid (add_any (w.heap.size + 1) w.heap.size 0 110 _ v (mk f k) z w' hbl2 rfl (by decide) hown2 (by have := hB2.size; omega) hl)
        go_wp2_with (go_at_call 34; refine C2.out.mono ?_; rintro e w3 ⟨⟨u, rfl⟩, v', hA⟩)
        go_roundw
        case rel => exact ⟨k + 1, v', by omega, by go_num, HN, hA.box, by rw [HM.out, HZ.out]; exact hA.own, hB.trans ((hB2.mono hszr).trans (hA.below _ (by omega) (Nat.le_refl _) (by have := hB2.size; omega)))⟩
        case measure => simp [intOf]; omega
      · have hd : (y != 0) = true := by rw [bne_iff_ne]; exact hy0
        have HN : Hid (fe er many = y) := Lib.hid (by rw [fe_stop HE.out (by rw [HY.out]; exact hy0) hlt, HY.out])
        have HO : Hid (orL y (mk f many) = []) := Lib.hid (orL_err _ hy0)
        clear hy0
        go_wp2_with fail
        refine C.out.mono ?_
        rintro e w' ⟨rfl, hB2⟩
        go_wp2
        go_ret2
        rw [HN.out, HO.out]
        exact ⟨none, 0, rfl, Nat.le_refl _, Sl.nil _ _, hB.trans (hB2.mono hszr)⟩
    · obtain rfl : k = many := by omega
      obtain ⟨A, c, rfl, hc, hcm, hA, hsl⟩ := hown.form3
      have C2 := Lib.hid (result_any w.heap.size 0 110 _ A (mk f k).length c wr hbl rfl hc (by omega) hA)
      have HO : Hid (orL 0 (mk f k) = mk f k) := Lib.hid rfl
      go_wp2_with (go_at_call 35; refine C2.out.mono ?_; rintro e w' ⟨rfl, rfl⟩)
      go_ret2
      rw [HE.out, HO.out]
      exact ⟨A, _, rfl, Nat.le_refl _, hsl, hB⟩
end Go.Proofs.YtecpanppnljkhaaDoor
