/- Walks of prim: Trap, Cat. -/
import Derived.Test.YtecpanppnljkhaaDoorDf
namespace Go.Proofs.YtecpanppnljkhaaDoor
set_option linter.unusedVariables false
open Go.RowKit Go.Shelf

theorem trp_ls {f : List Int} (h : lsE [f] ≠ 0) : trpE f = lsE [f] := by unfold trpE; rw [if_neg h]
theorem trp_ok {f : List Int} (h : lsE [f] = 0) (h1 : 0 = cnt f f.length) : trpE f = 0 := by unfold trpE; rw [if_pos h, if_pos h1.symm]
theorem trp_no {f : List Int} (h : lsE [f] = 0) (h1 : ¬ 0 = cnt f f.length) : trpE f = 14 := by unfold trpE; rw [if_pos h, if_neg (fun e => h1 e.symm)]
set_option maxRecDepth 100000 in
set_option maxHeartbeats 4000000 in
theorem trap_any (A : Option Addr) (c : Nat) (f : List Int) (w : World) (h : Sl w A f) (hc : f.length ≤ c) (k1 : Ok f) :
    Calls Tryd.prog 48 #[.slice A f.length c] w (RetV w (.int .i64 (trpE f))) := by
  have C1 : ∀ W g, Below w.heap.size w W → Blk W g 22 #[.slice A f.length c] → Calls Tryd.prog 74 #[.slice (some ⟨g, 0, none⟩) 1 1] W (RetV W (.int .i64 (lsE [f]))) :=
    fun W g hb hg => check1 g A c f W hg (h.step hb) hc k1
  by_cases he : lsE [f] = 0
  · have hl := (lsE_ok he).1 f (by simp)
    rw [he] at C1
    have C1 := Lib.hid C1
    have C2 : ∀ W, Below w.heap.size w W → Calls Tryd.prog 81 #[.slice A f.length c, .int .i64 0] W (RetV W (.bool (decide (0 = cnt f f.length)))) :=
      fun W hb => areSet_any A c f 0 W (h.step hb) hl (by omega)
    by_cases h0 : 0 = cnt f f.length
    · rw [decide_eq_true h0] at C2
      have C2 := Lib.hid C2
      rw [trp_ok he h0]
      clear he h0
      go_enter Tryd.func48, Tryd.ntmps48
      go_wp2_with fail
      refine (C1.out _ _ (al1 _ _) ?_).mono ?_
      · exact Blk.at (by simp)
      rintro e w1 ⟨rfl, hB⟩
      have hB0 := below_step (al1 _ _) hB
      go_wp2_with fail
      refine (C2.out w1 hB0).mono ?_
      rintro e w2 ⟨rfl, hB2⟩
      go_wp2
      go_ret
      exact ⟨rfl, below_step hB0 hB2⟩
    · rw [decide_eq_false h0] at C2
      have C2 := Lib.hid C2
      rw [trp_no he h0]
      clear he h0
      go_enter Tryd.func48, Tryd.ntmps48
      go_wp2_with fail
      refine (C1.out _ _ (al1 _ _) ?_).mono ?_
      · exact Blk.at (by simp)
      rintro e w1 ⟨rfl, hB⟩
      have hB0 := below_step (al1 _ _) hB
      go_wp2_with fail
      refine (C2.out w1 hB0).mono ?_
      rintro e w2 ⟨rfl, hB2⟩
      go_wp2
      go_ret
      exact ⟨rfl, below_step hB0 hB2⟩
  · have hd : (lsE [f] != 0) = true := by rw [bne_iff_ne]; exact he
    rw [trp_ls he]
    have C1 := Lib.hid C1
    clear he
    go_enter Tryd.func48, Tryd.ntmps48
    go_wp2_with fail
    refine (C1.out _ _ (al1 _ _) ?_).mono ?_
    · exact Blk.at (by simp)
    rintro e w1 ⟨rfl, hB⟩
    have hB0 := below_step (al1 _ _) hB
    go_wp2
    go_ret
    exact ⟨rfl, hB0⟩

theorem cat_ls {a b : List Int} (h : lsE [a, b] ≠ 0) : catE a b = lsE [a, b] := by unfold catE; rw [if_neg h]
theorem cat_full {a b : List Int} (h : lsE [a, b] = 0) (h1 : 1048576 < a.length + b.length) : catE a b = 9 := by unfold catE; rw [if_pos h, if_pos h1]
theorem cat_ok {a b : List Int} (h : lsE [a, b] = 0) (h1 : ¬ 1048576 < a.length + b.length) : catE a b = 0 := by unfold catE; rw [if_pos h, if_neg h1]
set_option maxRecDepth 100000 in
set_option maxHeartbeats 4000000 in
theorem cat_any (A1 A2 : Option Addr) (c1 c2 : Nat) (a b : List Int) (w : World) (h1 : Sl w A1 a) (h2 : Sl w A2 b) (hc1 : a.length ≤ c1) (hc2 : b.length ≤ c2) (k1 : Ok a) (k2 : Ok b) :
    Calls Tryd.prog 45 #[.slice A1 a.length c1, .slice A2 b.length c2] w (RetL w (orL (catE a b) (a ++ b)) (catE a b)) := by
  obtain ⟨i0, hi, hz0, hz1, hz2⟩ := info_parts int_info
  have C1 : ∀ W g, Below w.heap.size w W → Blk W g 22 #[.slice A1 a.length c1, .slice A2 b.length c2] → Calls Tryd.prog 74 #[.slice (some ⟨g, 0, none⟩) 2 2] W (RetV W (.int .i64 (lsE [a, b]))) :=
    fun W g hb hg => check2 g A1 A2 c1 c2 a b W hg (h1.step hb) (h2.step hb) hc1 hc2 k1 k2
  by_cases he : lsE [a, b] = 0
  · have hl := (lsE_ok he).1 a (by simp)
    have hl2 := (lsE_ok he).1 b (by simp)
    rw [he] at C1
    have C1 := Lib.hid C1
    by_cases hbig : 1048576 < a.length + b.length
    · rw [cat_full he hbig]
      have hd2 : decide ((1048576 : Int) < (a.length : Int) + (b.length : Int)) = true := by simp; omega
      clear he hbig
      go_enter Tryd.func45, Tryd.ntmps45
      go_wp2_with fail
      refine (C1.out _ _ (al1 _ _) ?_).mono ?_
      · exact Blk.at (by simp)
      rintro e w1 ⟨rfl, hB⟩
      have hB0 := below_step (al1 _ _) hB
      go_wp2
      go_ret2
      exact retL_none (by decide) hB0
    · rw [cat_ok he hbig, orL_ok]
      obtain ⟨T, hT⟩ : ∃ T, a.length + b.length = T := ⟨_, rfl⟩
      have hTi : (a.length : Int) + (b.length : Int) = (T : Int) := by omega
      have hT1 : T ≤ 1048576 := by omega
      have hw : IntKind.i64.wrap ((a.length : Int) + (b.length : Int)) = (T : Int) := by rw [hTi]; exact IntWalk.i64_in _ (by omega)
      have hd3 : decide ((1048576 : Int) < (T : Int)) = false := by simp; omega
      have HT := Lib.hid hT
      clear he hbig hT
      go_enter Tryd.func45, Tryd.ntmps45
      go_wp2_with fail
      refine (C1.out _ _ (al1 _ _) ?_).mono ?_
      · exact Blk.at (by simp)
      rintro e w1 ⟨rfl, hB⟩
      have hB0 := below_step (al1 _ _) hB
      have hs01 := hB0.size
      clear hB
      go_wp2_with (at_make; refine wpList_make_own _ rfl _ _ 63 rfl w1.heap.size 3 i0 (.int .i64 0) 1 Tryd.underlying63 hi hz0 hz1 .i64 .i64 _ T rfl rfl rfl (by rw [hz2]; omega) (by unfold maxLen; omega) (Nat.le_refl _) ?_; intro w2 hown2 hg2; have hsz2 := hg2.size)
      have hB2 : Below w.heap.size w w2 := hB0.grown hg2 (by omega) (fun k e => by cases e)
      have hB3 := below_step hB2 (al1 w2 (.cells #[.slice (some ⟨w1.heap.size, 0, none⟩) 0 T] 63))
      have bG := Blk.new w2 63 #[.slice (some ⟨w1.heap.size, 0, none⟩) 0 T]
      have oG := (OwnI.made0 hown2).alloc (.cells #[.slice (some ⟨w1.heap.size, 0, none⟩) 0 T] 63)
      have C2 := addAll_any w1.heap.size w2.heap.size 0 w1.heap.size T 63 _ [] a A1 c1 _ bG rfl (by decide) oG (by simp; omega) w hB3 (by omega) h1 (by have := HT.out; simp; omega) (by omega)
      unfold AddAll at C2
      rw [show ([] : List Int).length = 0 from rfl, Nat.zero_add] at C2
      have C2 := Lib.hid C2
      clear hown2 hg2
      go_wp2_with fail
      refine C2.out.mono ?_
      rintro e w3 ⟨⟨u, rfl⟩, hA⟩
      have b3 : Blk w3 w2.heap.size 63 #[.slice (some ⟨w1.heap.size, 0, none⟩) a.length T] := hA.box
      have o3 : OwnI w3 w1.heap.size (.slice (some ⟨w1.heap.size, 0, none⟩) a.length T) a := hA.own
      have hB4 := hB3.trans (hA.below w.heap.size (by omega) (by omega) (by simp; omega))
      have C3 := addAll_any w1.heap.size w2.heap.size 0 w1.heap.size T 63 _ a b A2 c2 _ b3 rfl (by decide) o3 (by have := b3.lt; omega) w hB4 (by omega) h2 (by have := HT.out; omega) (by omega)
      unfold AddAll at C3
      rw [HT.out] at C3
      have C3 := Lib.hid C3
      have hs3 := b3.lt
      clear C2 hA
      go_wp2_with fail
      refine C3.out.mono ?_
      rintro e w4 ⟨⟨u', rfl⟩, hA⟩
      have b4 : Blk w4 w2.heap.size 63 #[.slice (some ⟨w1.heap.size, 0, none⟩) T T] := hA.box
      have o4 : OwnI w4 w1.heap.size (.slice (some ⟨w1.heap.size, 0, none⟩) T T) (a ++ b) := hA.own
      have hB5 := hB4.trans (hA.below w.heap.size (by omega) (by omega) (by omega))
      obtain ⟨A'', c'', he, _, hsl'⟩ := o4.form
      have hAA : A'' = some ⟨w1.heap.size, 0, none⟩ := by injection he with h1 h2 h3; exact h1.symm
      subst hAA
      have HL : Hid ((a ++ b).length = T) := Lib.hid (by rw [List.length_append]; exact HT.out)
      have C4 := Lib.hid (result_any w2.heap.size 0 63 _ (some ⟨w1.heap.size, 0, none⟩) T T w4 b4 rfl (Nat.le_refl _) (by omega) (fun h => by cases h))
      clear he hA C3
      go_wp2_with fail
      refine C4.out.mono ?_
      rintro e w' ⟨rfl, rfl⟩
      go_wp2
      go_ret2
      exact ⟨some ⟨w1.heap.size, 0, none⟩, T, (by rw [HL.out]; rfl), by rw [HL.out]; exact Nat.le_refl _, hsl', hB5⟩
  · have hd : (lsE [a, b] != 0) = true := by rw [bne_iff_ne]; exact he
    rw [cat_ls he]
    have C1 := Lib.hid C1
    have HE := Lib.hid he
    clear he
    go_enter Tryd.func45, Tryd.ntmps45
    go_wp2_with fail
    refine (C1.out _ _ (al1 _ _) ?_).mono ?_
    · exact Blk.at (by simp)
    rintro e w1 ⟨rfl, hB⟩
    have hB0 := below_step (al1 _ _) hB
    go_wp2
    go_ret2
    exact retL_none HE.out hB0
end Go.Proofs.YtecpanppnljkhaaDoor
