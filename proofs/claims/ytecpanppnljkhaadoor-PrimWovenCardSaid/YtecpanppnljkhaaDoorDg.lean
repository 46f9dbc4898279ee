/- Walks of prim: Merge. -/
import Derived.Test.YtecpanppnljkhaaDoorDf
import Derived.Shelf.RegionOpen
namespace Go.Proofs.YtecpanppnljkhaaDoor
set_option linter.unusedVariables false
open Go.RowKit Go.Shelf

attribute [local go_sem] Oper.semAt_some
/-- A boxed slice that came in: it holds these words. -/
def BoxA (w W : World) (g : Nat) (ys : List Int) : Prop := ∃ A c, Blk W g 22 #[.slice A ys.length c] ∧ Sl w A ys ∧ ys.length ≤ c
/-- What stands when the first q flags are done. -/
structure MI (w W : World) (gm r : Nat) (f a b : List Int) (q : Nat) : Prop where
  qle : q ≤ f.length
  back : q = 0 ∨ nth f (q - 1) ≠ 0
  boxA : BoxA w W w.heap.size (a.drop (cnt f q))
  boxB : BoxA w W (w.heap.size + 1) (b.drop (q - cnt f q))
  box : Blk W gm 63 #[.slice (some ⟨r, 0, none⟩) q f.length]
  own : OwnI W r (.slice (some ⟨r, 0, none⟩) q f.length) (merK f a b q)
  low : Below w.heap.size w W
theorem BoxA.aside {w X Y : World} {g B : Nat} {ys : List Int} {row : Option Nat} (h : BoxA w X g ys) (hg : X.grownBy Y row) (hr : Aside B X row) : BoxA w Y g ys := by
  obtain ⟨A, c, h1, h2, h3⟩ := h
  exact ⟨A, c, h1.aside hg hr, h2, h3⟩
theorem MI.aside {w X Y : World} {gm r q B : Nat} {f a b : List Int} {row : Option Nat} (h : MI w X gm r f a b q) (hB : w.heap.size ≤ B) (hg : X.grownBy Y row) (hr : Aside B X row) : MI w Y gm r f a b q :=
  ⟨h.qle, h.back, h.boxA.aside hg hr, h.boxB.aside hg hr, h.box.aside hg hr, h.own.aside hg hr, below_aside h.low (Nat.le_refl _) hB hg hr⟩
/-- What is owed behind a round. -/
def MI' (w W0 : World) (f a b : List Int) (r gm q : Nat) (x : Fin f.length) (W W' : World) : Prop :=
  KeepsFrom W0.heap.size W W' ∧ Below w.heap.size W W' ∧ ∃ q', setF f q ++ [x] = setF f q' ∧ MI w W' gm r f a b q'
def MIx (f : List Int) (q x : Nat) : Prop := q ≤ x ∧ nth f x ≠ 0

set_option maxRecDepth 100000 in
set_option maxHeartbeats 4000000 in
theorem merge_any (A1 A2 A3 : Option Addr) (c1 c2 c3 : Nat) (f a b : List Int) (w : World) (h1 : Sl w A1 f) (h2 : Sl w A2 a) (h3 : Sl w A3 b) (hc1 : f.length ≤ c1) (hc2 : a.length ≤ c2) (hc3 : b.length ≤ c3) (k1 : Ok f) (k2 : Ok a) (k3 : Ok b) :
    Calls Tryd.prog 39 #[.slice A1 f.length c1, .slice A2 a.length c2, .slice A3 b.length c3] w (RetL w (orL (merE f a b) (merL f a b)) (merE f a b)) := by
  obtain ⟨i0, hi, hz0, hz1, hz2⟩ := info_parts int_info
  have C1 : ∀ W g, Below w.heap.size w W → Blk W g 22 #[.slice A1 f.length c1, .slice A2 a.length c2, .slice A3 b.length c3] → Calls Tryd.prog 74 #[.slice (some ⟨g, 0, none⟩) 3 3] W (RetV W (.int .i64 (lsE [f, a, b]))) :=
    fun W g hb hg => check3 g A1 A2 A3 c1 c2 c3 f a b W hg (h1.step hb) (h2.step hb) (h3.step hb) hc1 hc2 hc3 k1 k2 k3
  have bx1 := ((Blk.new w 22 #[.slice A2 a.length c2]).alloc (.cells #[.slice A3 b.length c3] 22)).alloc (.cells #[.slice A1 f.length c1, .slice A2 a.length c2, .slice A3 b.length c3] 22)
  have bx2 : Blk _ (w.heap.size + 1) _ _ := (Blk.at (t := 22) (cs := #[.slice A3 b.length c3]) (show (w.alloc (.cells #[.slice A2 a.length c2] 22)).heap.size = w.heap.size + 1 by simp)).alloc (.cells #[.slice A1 f.length c1, .slice A2 a.length c2, .slice A3 b.length c3] 22)
  by_cases he : lsE [f, a, b] = 0
  · have hl := (lsE_ok he).1 f (by simp)
    have hl2 := (lsE_ok he).1 a (by simp)
    have hl3 := (lsE_ok he).1 b (by simp)
    rw [he] at C1
    have C1 := Lib.hid C1
    have C2 : ∀ W, Below w.heap.size w W → Calls Tryd.prog 81 #[.slice A1 f.length c1, .int .i64 (a.length : Int)] W (RetV W (.bool (decide (a.length = cnt f f.length)))) :=
      fun W hb => areSet_any A1 c1 f a.length W (h1.step hb) hl hl2
    by_cases hlen : f.length = a.length + b.length
    · have hd : ((f.length : Int) != (a.length : Int) + (b.length : Int)) = false := by rw [bne_eq_false_iff_eq]; omega
      by_cases hcnt : a.length = cnt f f.length
      · rw [decide_eq_true hcnt] at C2
        have C2 := Lib.hid C2
        rw [mer_ok he hlen hcnt, orL_ok]
        have HL := Lib.hid hlen
        have HC := Lib.hid hcnt
        clear he hlen hcnt
        refine (callsIn_wide (n := 8)).1 ?_
        refine callsIn_of_wp_marks Tryd.func39 rfl trivial ?_ rfl
        simp only [Tryd.ntmps39, List.size_toArray, List.length_cons, List.length_nil, Nat.reduceAdd, Nat.reduceSub, Array.replicate_succ, Array.replicate_zero, List.push_toArray, List.append_toArray, List.nil_append, List.cons_append]
        gi_wp2_with fail
        refine ⟨trivial, ?_⟩
        refine (callsIn_wide.2 (C1.out _ _ (al3 _ _ _ _) ?_)).mono ?_
        · exact Blk.at (by simp)
        rintro e w1 ⟨rfl, hB⟩
        have hB0 := below_step (al3 _ _ _ _) hB
        have b1 := bx1.below hB bx1.lt
        have b2 := bx2.below hB bx2.lt
        have d1 := b1.cell 0
        have d2 := b2.cell 0
        simp at d1 d2
        clear bx1 bx2 hB
        gi_wp2_with fail
        refine ⟨trivial, ?_⟩
        refine (callsIn_wide.2 (C2.out w1 hB0)).mono ?_
        rintro e w2 ⟨rfl, hB⟩
        have hB2 := below_step hB0 hB
        have b1 := b1.below hB b1.lt
        have b2 := b2.below hB b2.lt
        have hs2 := hB2.size
        have b2x := b2.lt
        clear hB hB0 d1 d2
        gi_wp2_with (first | (gi_at_make; refine wpListIn_make_own _ rfl _ _ 63 rfl w2.heap.size 3 i0 (.int .i64 0) 1 Tryd.underlying63 hi hz0 hz1 .i64 .i64 _ f.length rfl rfl rfl (by rw [hz2]; omega) (by unfold maxLen; omega) (Nat.le_refl _) ?_; intro w3 hown3 hg3; have hs3 := hg3.size) | (refine ⟨trivial, ?_⟩; gi_at_call 82; refine (callsIn_wide.2 (set_any _ ⟨_, _, _, rfl⟩ _)).mono ?_; rintro e w' ⟨rfl, rfl⟩))
        have bP := (Blk.new w3 63 #[.slice (some ⟨w2.heap.size, 0, none⟩) 0 f.length]).alloc (.cells #[.slice A1 f.length c1] 22)
        have bF : Blk _ (w3.heap.size + 1) _ _ := Blk.at (t := 22) (cs := #[.slice A1 f.length c1]) (show (w3.alloc (.cells #[.slice (some ⟨w2.heap.size, 0, none⟩) 0 f.length] 63)).heap.size = w3.heap.size + 1 by simp)
        have b1 := ((b1.grown hg3 (by simp)).alloc (.cells #[.slice (some ⟨w2.heap.size, 0, none⟩) 0 f.length] 63)).alloc (.cells #[.slice A1 f.length c1] 22)
        have b2 := ((b2.grown hg3 (by simp)).alloc (.cells #[.slice (some ⟨w2.heap.size, 0, none⟩) 0 f.length] 63)).alloc (.cells #[.slice A1 f.length c1] 22)
        have o0 := ((OwnI.made0 hown3).alloc (.cells #[.slice (some ⟨w2.heap.size, 0, none⟩) 0 f.length] 63)).alloc (.cells #[.slice A1 f.length c1] 22)
        have hB3 : Below w.heap.size w w3 := hB2.grown hg3 (by omega) (fun k e => by cases e)
        have hB4 := below_step hB3 (al2 w3 (.cells #[.slice (some ⟨w2.heap.size, 0, none⟩) 0 f.length] 63) (.cells #[.slice A1 f.length c1] 22))
        have hsz : ((w3.alloc (.cells #[.slice (some ⟨w2.heap.size, 0, none⟩) 0 f.length] 63)).alloc (.cells #[.slice A1 f.length c1] 22)).heap.size = w3.heap.size + 2 := by simp
        have hg0 : w.heap.size + 1 < w2.heap.size := by have := b2x; omega
        obtain ⟨W0, hW0⟩ : ∃ W0, (w3.alloc (.cells #[.slice (some ⟨w2.heap.size, 0, none⟩) 0 f.length] 63)).alloc (.cells #[.slice A1 f.length c1] 22) = W0 := ⟨_, rfl⟩
        rw [hW0] at bP bF b1 b2 o0 hB4 hsz ⊢
        clear hW0
        have hsz1 : w3.heap.size + 2 ≤ W0.heap.size := by omega
        clear hsz hown3 hg3
        refine range_next rfl (by omega) (gf := 109) (lb := #[.pointer (some ⟨w3.heap.size + 1, 0, none⟩)]) rfl trivial (enters_of Tryd.func109 (by kernel_rfl) rfl)
          (set_nexts Fence.wide (8 - 1) trivial rfl (by omega) (w3.heap.size + 1) w.heap.size c1 A1 f hl W0 w (by omega) rfl hB4 (by omega) (bF.cell 0) h1) (by omega) (fun _ => rfl)
          (fun pre W => ∃ q, pre = setF f q ∧ MI w W w3.heap.size w2.heap.size f a b q)
          (fun _ X Y row hs hg hr => by
            obtain ⟨q, e, m⟩ := hs
            exact ⟨q, e, m.aside (by omega) hg hr⟩)
          ⟨0, by rw [setF_zero], by omega, .inl rfl, ⟨A2, c2, by simpa [cnt] using b1, by simpa [cnt] using h2, by simpa [cnt] using hc2⟩, ⟨A3, c3, by simpa [cnt] using b2, by simpa [cnt] using h3, by simpa [cnt] using hc3⟩, bP, o0, hB4⟩
          (fun x => ⟨#[Value.slice A1 f.length c1, Value.slice A2 a.length c2, Value.slice A3 b.length c3, undef,
          Value.pointer (some { block := w.heap.size, off := 0 }),
          Value.pointer (some { block := w.heap.size + 1, off := 0 }), Value.slice none 0 0, Value.int IntKind.i64 0,
          Value.int IntKind.i64 0, Value.pointer (some { block := w3.heap.size, off := 0 }), .int .i64 ((x.val : Nat) : Int), undef,
          Value.slice A1 f.length c1, Value.slice A2 a.length c2, Value.slice A3 b.length c3,
          Value.slice (some { block := w.heap.size + 1 + 1, off := 0 }) 3 3, Value.int IntKind.i64 0,
          Value.int IntKind.i64 0, Value.bool false, undef, Value.slice A1 f.length c1, Value.int IntKind.i64 ↑f.length,
          Value.slice A2 a.length c2, Value.int IntKind.i64 ↑a.length, Value.slice A3 b.length c3,
          Value.int IntKind.i64 ↑b.length, Value.int IntKind.i64 (↑a.length + ↑b.length), Value.bool false,
          Value.bool false, Value.slice A1 f.length c1, Value.slice A2 a.length c2, Value.int IntKind.i64 ↑a.length,
          Value.bool true, Value.bool false, Value.bool false, Value.slice A1 f.length c1,
          Value.int IntKind.i64 ↑f.length, Value.slice (some { block := w2.heap.size, off := 0 }) 0 f.length,
          Value.slice A1 f.length c1,
          Value.func (Fn.func 109) #[] #[Value.pointer (some { block := w3.heap.size + 1, off := 0 })], .int .i64 ((x.val : Nat) : Int), undef,
          undef, undef, undef, undef, undef, undef, undef, undef, undef, undef, undef, undef, undef, undef, undef, undef, undef, undef, undef], []⟩)
          ?assign ?body ?done
        case assign =>
          rintro l x W K hK
          simp only [setV]
          gi_wp2
          exact hK
        case body =>
          rintro l pre x W ⟨hpre, hx0⟩ ⟨q, hq, m⟩
          subst hq
          have hx := x.isLt
          have hce : cnt f q = cnt f x.val := by rw [← setF_length f q m.qle, hpre, setF_length f x.val (by omega)]
          have hqx := cnt_back hce m.back
          have g1 := cnt_set hx0
          have g2 := cnt_mono f (show x.val + 1 ≤ f.length by omega)
          have g3 := cnt_le f q
          have g4 := HL.out
          have g5 := HC.out
          have hM1 := mer_next (a := a) (b := b) x.val hqx hce (by omega)
          obtain ⟨p, hp⟩ : ∃ p, x.val = q + p := ⟨x.val - q, by omega⟩
          have hpY : p ≤ (b.drop (q - cnt f q)).length := by rw [List.length_drop]; omega
          have hZpos : 1 ≤ (a.drop (cnt f q)).length := by rw [List.length_drop]; omega
          have hML := merK_length f a b q
          have hZ1 : (a.drop (cnt f q)).drop 1 = a.drop (cnt f (x.val + 1)) := by rw [List.drop_drop]; congr 1; omega
          have hY1 : (b.drop (q - cnt f q)).drop p = b.drop ((x.val + 1) - cnt f (x.val + 1)) := by rw [List.drop_drop]; congr 1; omega
          have hMs := mer_set (a := a) (b := b) hx0
          rw [← hce, show nth a (cnt f q) = nth (a.drop (cnt f q)) 0 by rw [nth_drop]; rfl] at hMs
          rw [show x.val - q = p by omega] at hM1
          obtain ⟨Aa, ca, u1, u2, u3⟩ := m.boxA
          obtain ⟨Ab, cb, v1, v2, v3⟩ := m.boxB
          have mbox := m.box
          have mown := m.own
          have mlow := m.low
          obtain ⟨Z, hZ⟩ : ∃ Z, a.drop (cnt f q) = Z := ⟨_, rfl⟩
          obtain ⟨Y, hY⟩ : ∃ Y, b.drop (q - cnt f q) = Y := ⟨_, rfl⟩
          obtain ⟨M, hM⟩ : ∃ M, merK f a b q = M := ⟨_, rfl⟩
          obtain ⟨N, hN⟩ : ∃ N, merK f a b x.val = N := ⟨_, rfl⟩
          have hNL := merK_length f a b x.val
          rw [hZ] at hZpos hZ1 hMs u1 u2 u3
          rw [hY] at hpY hY1 hM1 v1 v2 v3
          rw [hM] at hML hM1 mown
          rw [hN] at hM1 hMs hNL
          have HPre : Hid (setF f q = setF f x.val) := Lib.hid hpre
          have HNext : Hid (MIx f q x.val) := Lib.hid ⟨by omega, hx0⟩
          have HSet := Lib.hid (setF_set f x.val hx hx0)
          have HZ1 := Lib.hid hZ1
          have HY1 := Lib.hid hY1
          have HMs := Lib.hid hMs
          have hq1 := m.qle
          obtain ⟨Bt, ht, hst⟩ := slice_to Ab cb p Y w v2 hpY v3
          obtain ⟨Bb, hbb, hsb⟩ := slice_from Ab cb p Y w v2 hpY v3
          obtain ⟨Ba, hba, hsa⟩ := slice_from Aa ca 1 Z w u2 hZpos u3
          have e1 : ((p : Nat) : Int) = ((x.val : Nat) : Int) - ((q : Nat) : Int) := by omega
          rw [e1] at ht hbb
          rw [show ((1 : Nat) : Int) = 1 from rfl] at hba
          have hPL : (Y.take p).length = p := by rw [List.length_take]; omega
          have hgw : w.heap.size ≤ w3.heap.size := by omega
          have hn0 : w.heap.size ≠ w3.heap.size := by omega
          have hn1 : w.heap.size + 1 ≠ w3.heap.size := by omega
          have hr0 : some w.heap.size ≠ (Value.slice (some ⟨w2.heap.size, 0, none⟩) q f.length).ownBlock := by simp [Value.ownBlock]; omega
          have hr1 : some (w.heap.size + 1) ≠ (Value.slice (some ⟨w2.heap.size, 0, none⟩) q f.length).ownBlock := by simp [Value.ownBlock]; omega
          have hr0' : some w.heap.size ≠ (Value.slice (some ⟨w2.heap.size, 0, none⟩) x.val f.length).ownBlock := by simp [Value.ownBlock]; omega
          have hr1' : some (w.heap.size + 1) ≠ (Value.slice (some ⟨w2.heap.size, 0, none⟩) x.val f.length).ownBlock := by simp [Value.ownBlock]; omega
          have C3 := addAll_any w2.heap.size w3.heap.size 0 w2.heap.size f.length 63 #[.slice (some ⟨w2.heap.size, 0, none⟩) q f.length] M (Y.take p) Bt cb W mbox (by rw [hML]; rfl) (by decide) (by rw [hML]; exact mown) (by have := mbox.lt; omega) w mlow hgw hst (by rw [hML, hPL]; omega) (by omega)
          unfold AddAll at C3
          rw [hML, hPL, ← hp] at C3
          have C3 := Lib.hid C3
          have cA := u1.cell 0
          have cB := v1.cell 0
          have cM := mbox.cell 0
          simp at cA cB cM
          have k1 : (0 : Int) ≤ (x.val : Int) - (q : Int) := by omega
          have k2 : (x.val : Int) ≤ 1048576 := by omega
          have k3 : (0 : Int) ≤ (x.val : Int) := by omega
          have k4 : (q : Int) ≤ 1048576 := by omega
          have HP := Lib.hid hp
          have HM1 := Lib.hid hM1
          have HNL := Lib.hid hNL
          clear hp hM1 hNL hML hPL e1 hZ1 hY1 hMs hce g1 g2 g3 g4 g5 hqx hpre hZ hY hM hN
          gi_wp2_with fail
          refine ⟨trivial, ?_⟩
          refine (CallsIn.inRound l (callsIn_wide.2 C3.out)).mono ?_
          rintro e w4 ⟨⟨u, rfl⟩, hA⟩
          have q1 : Blk w4 w3.heap.size 63 #[.slice (some ⟨w2.heap.size, 0, none⟩) x.val f.length] := hA.box
          have q2 : OwnI w4 w2.heap.size (.slice (some ⟨w2.heap.size, 0, none⟩) x.val f.length) N := by rw [HM1.out]; exact hA.own
          have q3 := hA.keep _ _ _ u1 hn0 hr0
          have q4 := hA.keep _ _ _ v1 hn1 hr1
          have q5 := hA.below w.heap.size (by omega) (by omega) (by have := mlow.size; omega)
          have q6 := hA.others
          have qs := q1.lt
          clear hA C3 cA cB cM mbox mown u1 v1
          obtain ⟨ba, oa, rfl, hba1, hca⟩ := u2 (by omega)
          have r1 := ((mlow.trans q5).cell (p := ⟨ba, oa + 0, none⟩) hba1).trans (hca 0 (by omega))
          obtain ⟨y, hy⟩ : ∃ y, nth Z 0 = y := ⟨_, rfl⟩
          rw [hy] at r1 HMs
          simp only [Nat.add_zero] at r1
          clear hy hca
          have C4 := addFit_any w2.heap.size w3.heap.size 0 w2.heap.size f.length 63 #[.slice (some ⟨w2.heap.size, 0, none⟩) x.val f.length] N y w4 q1 (by rw [HNL.out]; rfl) (by decide) (by rw [HNL.out]; exact q2) (by omega) (by rw [HNL.out]; omega)
          unfold AddAll at C4
          rw [HNL.out, show [y].length = 1 from rfl] at C4
          have C4 := Lib.hid C4
          have cA := q3.cell 0
          simp at cA
          have hZi : (0 : Int) < (Z.length : Int) := by omega
          gi_wp2_with fail
          refine ⟨trivial, ?_⟩
          refine (CallsIn.inRound l (callsIn_wide.2 C4.out)).mono ?_
          rintro e w5 ⟨⟨u', rfl⟩, hA⟩
          have t1 : Blk w5 w3.heap.size 63 #[.slice (some ⟨w2.heap.size, 0, none⟩) (x.val + 1) f.length] := hA.box
          have t2 : OwnI w5 w2.heap.size (.slice (some ⟨w2.heap.size, 0, none⟩) (x.val + 1) f.length) (merK f a b (x.val + 1)) := by rw [HMs.out]; exact hA.own
          have t3 := hA.keep _ _ _ q3 hn0 hr0'
          have t4 := hA.keep _ _ _ q4 hn1 hr1'
          have t5 := q5.trans (hA.below w.heap.size (by omega) (by omega) (by have := (mlow.trans q5).size; omega))
          have t6 := q6.trans hA.others
          clear hA C4 cA q1 q2 q3 q4 q5 q6 r1
          have cA := t3.cell 0
          have cB := t4.cell 0
          have fA := t3.frozen 0
          have fB := t4.frozen 0
          simp at cA cB
          have HFin : Hid (MI' w W0 f a b w2.heap.size w3.heap.size q x W (((w5.setCell ⟨w.heap.size, 0, none⟩ (.slice Ba (Z.length - 1) (ca - 1))).setCell ⟨w.heap.size + 1, 0, none⟩ (.slice Bb (Y.length - p) (cb - p))).drew)) := Lib.hid (by
            have e1 : (Z.drop 1).length = Z.length - 1 := List.length_drop
            have e2 : (Y.drop p).length = Y.length - p := List.length_drop
            have n1 : w.heap.size ≠ w.heap.size + 1 := by omega
            have y1 := t3.set_ 0 (.slice Ba (Z.length - 1) (ca - 1))
            have y2 := y1.far (p := ⟨w.heap.size + 1, 0, none⟩) n1 (.slice Bb (Y.length - p) (cb - p))
            have y3 := (t4.far (p := ⟨w.heap.size, 0, none⟩) n1.symm (.slice Ba (Z.length - 1) (ca - 1))).set_ 0 (.slice Bb (Y.length - p) (cb - p))
            have y4 := (t1.far (p := ⟨w.heap.size, 0, none⟩) hn0.symm (.slice Ba (Z.length - 1) (ca - 1))).far (p := ⟨w.heap.size + 1, 0, none⟩) hn1.symm (.slice Bb (Y.length - p) (cb - p))
            have y5 := (t2.kept (grownBy_set w5 ⟨w.heap.size, 0, none⟩ (.slice Ba (Z.length - 1) (ca - 1))) (.inr (by simp [Value.ownBlock]; omega))).kept (grownBy_set _ ⟨w.heap.size + 1, 0, none⟩ (.slice Bb (Y.length - p) (cb - p))) (.inr (by simp [Value.ownBlock]; omega))
            have y6 := (t5.setCell (p := ⟨w.heap.size, 0, none⟩) (Nat.le_refl _) (.slice Ba (Z.length - 1) (ca - 1))).setCell (p := ⟨w.heap.size + 1, 0, none⟩) (by show w.heap.size ≤ w.heap.size + 1; omega) (.slice Bb (Y.length - p) (cb - p))
            refine ⟨((t6.trans (KeepsOthers.setCell _ _ _)).trans (KeepsOthers.setCell _ _ _)).trans (KeepsOthers.drew _) |>.from _, y6.drew, x.val + 1, by rw [HPre.out, HSet.out], ⟨by omega, .inr (by rw [Nat.add_sub_cancel]; exact HNext.out.2), ⟨Ba, ca - 1, ?_, by rw [← HZ1.out]; exact hsa, ?_⟩, ⟨Bb, cb - p, ?_, by rw [← HY1.out]; exact hsb, ?_⟩, y4.drew, y5.drew, mlow.trans y6.drew⟩⟩
            · rw [← HZ1.out, e1]; exact y2.drew
            · rw [← HZ1.out, e1]; omega
            · rw [← HY1.out, e2]; exact y3.drew
            · rw [← HY1.out, e2]; omega)
          have hmix : Tryd.prog.follows .mixedOrders = true := by kernel_rfl
          clear t1 t2 t3 t4 t5 t6 HPre HSet HNext HZ1 HY1 HMs HM1 HNL HP hsa hsb hst u2 u3 v2 v3 h1 h2 h3 C1 C2 mlow m hB2 hB3 hB4 bF bP b1 b2 o0 ht hx0
          gi_wp2
          gi_region_with_o (fail)
          all_goals exact HFin.out
        case done =>
          rintro D ys W hD rfl ⟨q, hq, m⟩ hK
          have hce : cnt f q = cnt f f.length := by rw [← setF_length f q m.qle, ← hq, setF_length f f.length (Nat.le_refl _)]
          have g1 := cnt_mono f m.qle
          have g3 := cnt_le f q
          have g4 := HL.out
          have g5 := HC.out
          have hM1 := mer_next (a := a) (b := b) f.length m.qle hce (by omega)
          have hYL : (b.drop (q - cnt f q)).length = f.length - q := by rw [List.length_drop]; omega
          rw [List.take_of_length_le (by omega)] at hM1
          obtain ⟨Ab, cb, v1, v2, v3⟩ := m.boxB
          have hML := merK_length f a b q
          obtain ⟨Y, hY⟩ : ∃ Y, b.drop (q - cnt f q) = Y := ⟨_, rfl⟩
          obtain ⟨M, hM⟩ : ∃ M, merK f a b q = M := ⟨_, rfl⟩
          have mown := m.own
          rw [hY] at hYL hM1 v1 v2 v3
          rw [hM] at hM1 hML mown
          have hqn := m.qle
          have C5 := addAll_any w2.heap.size w3.heap.size 0 w2.heap.size f.length 63 #[.slice (some ⟨w2.heap.size, 0, none⟩) q f.length] M Y Ab cb W m.box (by rw [hML]; rfl) (by decide) (by rw [hML]; exact mown) (by have := m.box.lt; omega) w m.low (by omega) v2 (by rw [hML, hYL]; omega) (by omega)
          unfold AddAll at C5
          rw [hML, hYL, show q + (f.length - q) = f.length by omega] at C5
          have C5 := Lib.hid C5
          rw [hYL] at v1
          have cB := v1.cell 0
          simp at cB
          have mlow := m.low
          have hgm := m.box.lt
          have hlen : Hid ((merL f a b).length = f.length) := Lib.hid (merK_length f a b f.length)
          have HM1 : Hid (merL f a b = M ++ Y) := Lib.hid hM1
          clear hM1 hYL hML hM hY hce hq g1 g3 g4 g5 v1 v2 v3 mown m
          gi_wp2_with fail
          refine ⟨trivial, ?_⟩
          refine (callsIn_wide.2 C5.out).mono ?_
          rintro e w6 ⟨⟨u, rfl⟩, hA⟩
          have q1 : Blk w6 w3.heap.size 63 #[.slice (some ⟨w2.heap.size, 0, none⟩) f.length f.length] := hA.box
          have q2 : OwnI w6 w2.heap.size (.slice (some ⟨w2.heap.size, 0, none⟩) f.length f.length) (merL f a b) := by rw [HM1.out]; exact hA.own
          have hK6 := hA.others.same D _ hK rfl
          have q3 := mlow.trans (hA.below w.heap.size (by omega) (by omega) (by have := mlow.size; omega))
          have C6 := Lib.hid (result_any w3.heap.size 0 63 _ (some ⟨w2.heap.size, 0, none⟩) f.length f.length w6 q1 rfl (Nat.le_refl _) (by omega) (fun h => by cases h))
          have q2' := q2.aside (grownBy_putObj' w6 D (.deferred none)) (B := 0) (fun r e => by cases e; exact ⟨Nat.zero_le _, _, hK6, rfl⟩)
          have q3' := below_aside (B := w.heap.size) q3 (Nat.le_refl _) (Nat.le_refl _) (grownBy_putObj' w6 D (.deferred none)) (fun r e => by cases e; exact ⟨by omega, _, hK6, rfl⟩)
          obtain ⟨A'', c'', he, _, hsl'⟩ := q2'.form
          have hAA : A'' = some ⟨w2.heap.size, 0, none⟩ := by injection he with h1 h2 h3; exact h1.symm
          subst hAA
          clear he hA C5 cB
          gi_wp2_with fail
          refine ⟨trivial, ?_⟩
          refine (callsIn_wide.2 C6.out).mono ?_
          rintro e w' ⟨rfl, rfl⟩
          gi_wp2
          refine ⟨by simp, .inl ⟨_, _, rfl, run_takeDeferred hK6, ?_⟩⟩
          refine ⟨.tuple #[.slice (some ⟨w2.heap.size, 0, none⟩) f.length f.length, .int .i64 0], by simp [results, Tryd.f39, go_sem], ?_⟩
          exact ⟨some ⟨w2.heap.size, 0, none⟩, f.length, by rw [hlen.out], by rw [hlen.out]; exact Nat.le_refl _, hsl', q3'⟩
      · rw [decide_eq_false hcnt] at C2
        have C2 := Lib.hid C2
        rw [mer_no he (fun h => hcnt h.2)]
        clear he hcnt hlen
        go_enter Tryd.func39, Tryd.ntmps39
        go_wp2_with fail
        refine (C1.out _ _ (al3 _ _ _ _) ?_).mono ?_
        · exact Blk.at (by simp)
        rintro e w1 ⟨rfl, hB⟩
        have hB0 := below_step (al3 _ _ _ _) hB
        have d1 := (bx1.below hB bx1.lt).cell 0
        have d2 := (bx2.below hB bx2.lt).cell 0
        simp at d1 d2
        clear bx1 bx2
        go_wp2_with fail
        refine (C2.out w1 hB0).mono ?_
        rintro e w2 ⟨rfl, hB2⟩
        go_wp2
        go_ret2
        exact retL_none (by decide) (below_step hB0 hB2)
    · have hd : ((f.length : Int) != (a.length : Int) + (b.length : Int)) = true := by rw [bne_iff_ne]; omega
      rw [mer_no he (fun h => hlen h.1)]
      clear he hlen C2
      go_enter Tryd.func39, Tryd.ntmps39
      go_wp2_with fail
      refine (C1.out _ _ (al3 _ _ _ _) ?_).mono ?_
      · exact Blk.at (by simp)
      rintro e w1 ⟨rfl, hB⟩
      have hB0 := below_step (al3 _ _ _ _) hB
      have d1 := (bx1.below hB bx1.lt).cell 0
      have d2 := (bx2.below hB bx2.lt).cell 0
      simp at d1 d2
      clear bx1 bx2
      go_wp2
      go_ret2
      exact retL_none (by decide) hB0
  · have hd : (lsE [f, a, b] != 0) = true := by rw [bne_iff_ne]; exact he
    rw [mer_ls he]
    have C1 := Lib.hid C1
    have HE := Lib.hid he
    clear he bx1 bx2
    go_enter Tryd.func39, Tryd.ntmps39
    go_wp2_with fail
    refine (C1.out _ _ (al3 _ _ _ _) ?_).mono ?_
    · exact Blk.at (by simp)
    rintro e w1 ⟨rfl, hB⟩
    have hB0 := below_step (al3 _ _ _ _) hB
    go_wp2
    go_ret2
    exact retL_none HE.out hB0
end Go.Proofs.YtecpanppnljkhaaDoor
