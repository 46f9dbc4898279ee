/- Touched (the program's side). -/
import Derived.Test.YtcbkocjpkdcpfaaMe
import Derived.Test.YtcbkocjpkdcpfaaTj
import Derived.Deep.RegionHeld3
import Derived.RegionTactic
import Derived.Test.YtcbkocjpkdcpfaaQa
namespace Go.Proofs.Ytcbkocjpkdcpfaa
set_option linter.unusedVariables false
open Go.RowKit Go.Shelf

theorem SlP.cell_of {w2 wr : World} {A : Option Addr} {ps : List (Int × Int)} {Ba lo : Nat} (h : SlP w2 A ps) (hlo : ∀ a, A = some a → lo ≤ a.block) (hBa : Ba < lo) (hg : w2.grownBy wr (some Ba)) {k : Nat} (hk : k < ps.length) :
    ∃ b off, A = some ⟨b, off, none⟩ ∧ b < wr.heap.size ∧ wr.cell? ⟨b, off + k * 2, none⟩ = some (.int .i64 (pth ps k).1) ∧ wr.cell? ⟨b, off + k * 2 + 1, none⟩ = some (.int .i64 (pth ps k).2) := by
  obtain ⟨b, off, e, hb, hc⟩ := h (by omega)
  have hl := hlo _ e
  have hne : b ≠ Ba := by simp only at hl; omega
  exact ⟨b, off, e, Nat.lt_of_lt_of_le hb hg.size, (hg.cell_far ⟨b, off + k * 2, none⟩ hb (by simpa using hne)).trans (hc k hk).1, (hg.cell_far ⟨b, off + k * 2 + 1, none⟩ hb (by simpa using hne)).trans (hc k hk).2⟩

theorem cell_lt {w : World} {b o : Nat} {v : Value} (h : w.cell? ⟨b, o, none⟩ = some v) : b < w.heap.size := by
  obtain ⟨c, e, fr, hb, _⟩ := Go.Sort.cells_of_cell? h
  rcases Nat.lt_or_ge b w.heap.size with hlt | hge
  · exact hlt
  · rw [Array.getElem?_eq_none hge] at hb; cases hb
theorem endB (a b : Int) (w : World) (h1 : -1000000000 ≤ a) (h2 : a ≤ 1000000000) (h3 : -1000000000 ≤ b) (h4 : b ≤ 1000000000) : Calls Try.prog 50 #[.agg #[.int .i64 a, .int .i64 b]] w fun e w' => e = .returned (.int .i64 (a + b)) ∧ Below w.heap.size w w' :=
  (end_any a b w h1 h2 h3 h4).mono fun _ _ ⟨x, y⟩ => ⟨x, by rw [y]; exact (Below.refl _ _).alloc (Nat.le_refl _) _⟩
theorem OwnP.below {w w' : World} {base B : Nat} {v : Value} {ps : List (Int × Int)} (h : OwnP w base v ps) (hb : Below B w w') (hB : w.heap.size ≤ B) : OwnP w' base v ps := by
  refine ⟨h.1, ?_⟩
  rcases h.2 with h0 | ⟨g, cap, cur, e, h1, h2, h3⟩
  · exact .inl h0
  · exact .inr ⟨g, cap, cur, e, h1, (hb.block g (Nat.lt_of_lt_of_le (Array.getElem?_eq_some_iff.1 h2).1 hB)).trans h2, h3⟩
theorem keepT {Wm W y : World} {b0 o0 b1 o1 b2 o2 b3 o3 : Nat} {v0 v1 v2 v3 : Value} (h : W.cell? ⟨b0, o0, none⟩ = some v0 ∧ W.cell? ⟨b1, o1, none⟩ = some v1 ∧ W.cell? ⟨b2, o2, none⟩ = some v2 ∧ W.cell? ⟨b3, o3, none⟩ = some v3 ∧ Below Wm.heap.size Wm W) (hb : Below W.heap.size W y) :
    y.cell? ⟨b0, o0, none⟩ = some v0 ∧ y.cell? ⟨b1, o1, none⟩ = some v1 ∧ y.cell? ⟨b2, o2, none⟩ = some v2 ∧ y.cell? ⟨b3, o3, none⟩ = some v3 ∧ Below Wm.heap.size Wm y := by
  obtain ⟨h0, h1, h2, h3, hs⟩ := h
  exact ⟨(hb.cell (p := ⟨b0, o0, none⟩) (cell_lt h0)).trans h0, (hb.cell (p := ⟨b1, o1, none⟩) (cell_lt h1)).trans h1, (hb.cell (p := ⟨b2, o2, none⟩) (cell_lt h2)).trans h2, (hb.cell (p := ⟨b3, o3, none⟩) (cell_lt h3)).trans h3, hs.trans (hb.mono hs.size)⟩
set_option maxRecDepth 100000 in
set_option maxHeartbeats 40000000 in
theorem touched_ok (A A' : Option Addr) (c c' N : Nat) (ss ls : List Int) (w : World) (h : Sl w A ss) (h' : Sl w A' ls) (hP : Pool ss ls N) (he : shE ss ls N = 0) (hb : ∀ j, j < ls.length → nth ls j ≤ 9223372036854775807) :
    Calls Try.prog 30 #[.slice A ss.length c, .slice A' ls.length c', .int .i64 N] w (RetPE w (tsL ss ls N) 0) := by
  obtain ⟨i0, hi, hz0, hz1, hz2⟩ := info_parts span_info
  have hM := hP.many
  have hN := hP.size
  have C1 := shared_any A A' c c' ss ls N w h h' (by omega) (by rw [hP.len]; omega) hb
  rw [he] at C1
  have C2 := fun W (hB : Below w.heap.size w W) => sorted_any A A' c c' N ss ls W (h.step hB) (h'.step hB) hP
  have HP := Lib.hid hP
  clear hb he h h' hP
  obtain ⟨T, hT⟩ : ∃ T, shN ss ls N = T := ⟨_, rfl⟩
  rw [hT] at C1
  clear hT
  go_enter Try.func30, Try.ntmps30
  go_wp2_with (first | (go_at_call 27; refine C1.mono ?_; rintro e w1 ⟨rfl, hB1⟩; have hB1' := hB1.alloc hB1.size (.cells #[.int .i64 0, .int .i64 0] 52)) | (go_at_call 55; refine (C2 _ hB1').mono ?_; rintro e w2 ⟨ps, hp1, hp2, A2, c2, rfl, hcc, hsl, hlo, hB2⟩))
  have hpl : ps.length ≤ ss.length := by rw [hp1.length_eq]; have := spS_length ss ls (List.finRange ss.length); rwa [List.length_finRange] at this
  have hps := parts_spS HP.out hp1 hp2
  have HA := Lib.hid (tm_all HP.out hp1 hp2)
  have hg0 : w2.grownBy w2 (some w1.heap.size) := World.grownBy.refl _ _
  have bA : Blk w2 w1.heap.size 52 #[.int .i64 0, .int .i64 0] := (Blk.new w1 52 #[.int .i64 0, .int .i64 0]).below hB2 (by simp)
  have hs1 := hB1.size
  have hs2 := hB2.size
  simp at hs2 hlo
  have hBw : Below w.heap.size w w2 := hB1'.trans (hB2.mono (by simp; omega))
  clear C1 C2 hp1 hp2 hB1' hB2
  go_loopw [10, 30] (fun v i wr => ∃ (k : Nat) (a1 a2 : Int), k ≤ ps.length ∧ i = .int .i64 k ∧ Hid ((tmK ps k).2 = (a1, a2)) ∧ OwnP wr w2.heap.size v (tmK ps k).1 ∧ Blk wr w1.heap.size 52 #[.int .i64 a1, .int .i64 a2] ∧ w2.grownBy wr (some w1.heap.size)) (fun _ i _ => ps.length - (intOf i).toNat)
  case atStart => exact ⟨0, 0, 0, Nat.zero_le _, rfl, Lib.hid rfl, OwnP.nil _ _, bA, hg0⟩
  case round =>
    obtain ⟨k, a1, a2, hk, rfl, Ha, hown, hbx, hg⟩ := hrel
    by_cases hlt : k < ps.length
    · obtain ⟨b, off, rfl, hbl, cx1, cx2⟩ := hsl.cell_of hlo (by omega) hg hlt
      have hinv := Lib.hid (tm_inv hps k hk)
      have hmany := hinv.out.many
      rw [List.length_take] at hmany
      have HS := Lib.hid (tmK_succ ps k hlt)
      obtain ⟨hx2, hx0, hxN⟩ := hps.each (pth ps k) (by rw [pth_eq ps k hlt]; exact List.getElem_mem hlt)
      obtain ⟨⟨x1, x2⟩, hx⟩ : ∃ x, pth ps k = x := ⟨_, rfl⟩
      rw [hx] at cx1 cx2 HS
      rw [hx] at hx2 hx0 hxN
      have lB := hbx.lt
      have ca1 := hbx.cell 0
      have ca2 := hbx.cell 1
      simp at ca1 ca2
      have hk1 : (0 : Int) ≤ (k : Int) := by omega
      have hk2 : (k : Int) < (ps.length : Int) := by omega
      obtain ⟨J, hJ⟩ : ∃ J, (tmK ps k).1 = J := ⟨_, rfl⟩
      rw [hJ] at hown hmany
      have fa1 := hbx.frozen 0
      have fa2 := hbx.frozen 1
      by_cases hxa : x1 = a1 ∧ x2 = a2
      · obtain ⟨e1, e2⟩ := hxa
        have HS2 : Hid (tmK ps (k + 1) = tmK ps k) := Lib.hid (by rw [HS.out]; unfold tmS; rw [if_pos (by rw [Ha.out, e1, e2])])
        go_wp2
        go_roundw
        case rel => exact ⟨k + 1, a1, a2, by omega, by go_num, by rw [HS2.out]; exact Ha, by rw [HS2.out, hJ]; exact hown.alloc _, hbx.alloc _, hg.trans (World.grownBy_alloc _ _ _)⟩
        case measure => simp [intOf]; omega
      · have HS2 : Hid (tmK ps (k + 1) = (tmJ J (x1, x2), (x1, x2))) := Lib.hid (by
          rw [HS.out]; unfold tmS
          rw [if_neg (fun e => hxa (by rw [Ha.out] at e; exact ⟨congrArg Prod.fst e, congrArg Prod.snd e⟩)), hJ])
        have bm : Blk (((wr.setCell ⟨w1.heap.size, 0, none⟩ (.int .i64 x1)).setCell ⟨w1.heap.size, 1, none⟩ (.int .i64 x2)).alloc (.cells #[.int .i64 x1, .int .i64 x2] 52)) w1.heap.size 52 #[.int .i64 x1, .int .i64 x2] := ((hbx.set_ 0 (.int .i64 x1)).set_ 1 (.int .i64 x2)).alloc _
        have bX := Blk.new ((wr.setCell ⟨w1.heap.size, 0, none⟩ (.int .i64 x1)).setCell ⟨w1.heap.size, 1, none⟩ (.int .i64 x2)) 52 #[.int .i64 x1, .int .i64 x2]
        have gm : wr.grownBy (((wr.setCell ⟨w1.heap.size, 0, none⟩ (.int .i64 x1)).setCell ⟨w1.heap.size, 1, none⟩ (.int .i64 x2)).alloc (.cells #[.int .i64 x1, .int .i64 x2] 52)) (some w1.heap.size) :=
          (⟨rfl, rfl, rfl, by simp, fun i _ hne => (Below.heap_setCell _ _ _ _ (fun e => hne (by rw [e]))).trans (Below.heap_setCell _ _ _ _ (fun e => hne (by rw [e])))⟩ : wr.grownBy ((wr.setCell ⟨w1.heap.size, 0, none⟩ (.int .i64 x1)).setCell ⟨w1.heap.size, 1, none⟩ (.int .i64 x2)) (some w1.heap.size)).trans (World.grownBy_alloc _ _ _)
        have om := hown.kept gm (by
          rcases hown.form with ⟨c, _, rfl⟩ | ⟨g, c, rfl, _, hgb, _⟩
          · exact .inl rfl
          · exact .inr (by simp [Value.ownBlock]; omega))
        have gt := hg.trans gm
        rw [show ((wr.setCell ⟨w1.heap.size, 0, none⟩ (.int .i64 x1)).setCell ⟨w1.heap.size, 1, none⟩ (.int .i64 x2)).heap.size = wr.heap.size by simp] at bX
        obtain ⟨Wm, hWm⟩ : ∃ Wm, (((wr.setCell ⟨w1.heap.size, 0, none⟩ (.int .i64 x1)).setCell ⟨w1.heap.size, 1, none⟩ (.int .i64 x2)).alloc (.cells #[.int .i64 x1, .int .i64 x2] 52)) = Wm := ⟨_, rfl⟩
        rw [hWm] at bm bX gm om gt
        have HWm := Lib.hid hWm
        clear hWm
        have hB : ¬ x1 = a1 ∨ (x1 = a1 ∧ ¬ x2 = a2) := by omega
        have hgt2 := gt.size
        have lX := bX.lt
        by_cases hJ0 : J = []
        · subst hJ0
          obtain ⟨Av, cv, rfl, _, _⟩ := om.sl
          have HJ : Hid (tmJ [] (x1, x2) = [] ++ [(x1, x2)]) := Lib.hid (by simp [tmJ])
          rcases hB with hx1 | ⟨hx1, hx3⟩
          case' inr => subst hx1
          all_goals
            go_wp2
            rw [HWm.out]
            go_quiet (fail)
            obtain ⟨Wd, hWd⟩ : ∃ Wd, Wm.drewN nq = Wd := ⟨_, rfl⟩
            have od : OwnP Wd w2.heap.size (.slice Av 0 cv) [] := by rw [← hWd]; exact om
            have bd : Blk Wd w1.heap.size 52 #[.int .i64 x1, .int .i64 x2] := by rw [← hWd]; exact bm
            have bXd : Blk Wd wr.heap.size 52 #[.int .i64 x1, .int .i64 x2] := by rw [← hWd]; exact bX
            have gd : w2.grownBy Wd (some w1.heap.size) := by rw [← hWd]; exact ⟨gt.os, gt.tape, gt.output, gt.size, gt.block⟩
            rw [hWd]
            clear hWd
            have c7 := bXd.cell 0
            have c8 := bXd.cell 1
            simp at c7 c8
            go_wp2_with (at_builtin; refine wpList_append_own _ rfl _ _ 37 rfl w2.heap.size 52 i0 (.agg #[.int .i64 0, .int .i64 0]) 2 16 Try.underlying37 hi hz0 hz1 hz2 rfl (by decide) _ _ _ rfl (od.alloc _) ⟨Wd.heap.size, 0, none⟩ 1 1 [.int .i64 x1, .int .i64 x2] rfl rfl (cell_two_new Wd 52 (.int .i64 x1) (.int .i64 x2)) (by simp [Value.oneCell']) (by unfold maxLen; simp) (by simp) (by have := gd.size; simp; omega) ?_; intro v' w3 hown' hgrow _)
            have od3 : OwnP w3 w2.heap.size v' ([] ++ [(x1, x2)]) := OwnP.snoc (ps := []) hown'
            have gd3 : w2.grownBy w3 (some w1.heap.size) := (gd.trans (World.grownBy_alloc _ _ _)).andThen hgrow (fun j e => .inl (od.lt j e).1)
            have bd3 : Blk w3 w1.heap.size 52 #[.int .i64 x1, .int .i64 x2] := (bd.alloc _).grown hgrow (fun e => by have := (od.lt _ e.symm).1; omega)
            clear hown' hgrow
            go_roundw
            case rel => exact ⟨k + 1, x1, x2, by omega, by go_num, Lib.hid (by rw [HS2.out]), by rw [HS2.out, HJ.out]; exact od3, bd3, gd3⟩
            case measure => simp [intOf]; omega
        · obtain ⟨L, ⟨t1, t2⟩, rfl⟩ := eq_snoc J hJ0
          have hJl : (L ++ [(t1, t2)]).length = L.length + 1 := by simp
          have omU := om
          unfold OwnP at omU
          rw [hJl] at omU
          obtain ⟨g', cap', rfl⟩ := ownsRow_succP omU
          clear omU
          have hg1 := (om.lt g' rfl).1
          obtain ⟨c5, c6, f6⟩ := om.cellAt' hJl L.length (by simp) (pth_last L (t1, t2))
          have hTm := hinv.out
          rw [hJ] at hTm
          have hbt := hTm.bnd (t1, t2) (List.mem_append.2 (.inr (List.mem_singleton.2 rfl)))
          have hpt := hTm.canon.pos (t1, t2) (List.mem_append.2 (.inr (List.mem_singleton.2 rfl)))
          clear hTm
          simp only at hbt hpt c5 c6 hx2 hx0 hxN
          rw [hJl] at hmany
          have c7 := bX.cell 0
          have c8 := bX.cell 1
          simp at c7 c8
          have hd0 : decide ((L.length : Int) < 0) = false := by simp
          have hL1 : (0 : Int) ≤ (L.length : Int) := by omega
          have hL2 : (L.length : Int) < (L.length : Int) + 1 := by omega
          have HJ : Hid (tmJ (L ++ [(t1, t2)]) (x1, x2) = if t1 + t2 < x1 then L ++ [(t1, t2)] ++ [(x1, x2)] else setLen (L ++ [(t1, t2)]) (max (t1 + t2) (x1 + x2) - t1)) := Lib.hid (by
            unfold tmJ
            rw [lst_snoc]
            by_cases h : t1 + t2 < x1
            · rw [if_pos (.inr h), if_pos h]
            · rw [if_neg (fun e => e.elim (by simp) h), if_neg h])
          go_upto_region 9 with fail
          go_cut [36] from 34 to 36 (fun s36 wx => s36 = .bool false ∧ wx = (wr.alloc (.cells #[.int .i64 x1, .int .i64 x2] 52)))
          case first =>
            rcases hB with hx1 | ⟨hx1, hx3⟩
            · go_wp2_with fail
              go_meet
              exact ⟨rfl, rfl⟩
            · subst hx1
              go_wp2_with fail
              go_meet
              exact ⟨rfl, rfl⟩
          case rest =>
            obtain ⟨rfl, rfl⟩ := hcut
            go_wp2
            rw [HWm.out]
            go_cut [52] from 41 to 52 (fun s52 wx => s52 = .bool (decide (t1 + t2 < x1)) ∧ (wx.cell? ⟨g', L.length * 2, none⟩ = some (.int .i64 t1) ∧ wx.cell? ⟨g', L.length * 2 + 1, none⟩ = some (.int .i64 t2) ∧ wx.cell? ⟨wr.heap.size, 0, none⟩ = some (.int .i64 x1) ∧ wx.cell? ⟨wr.heap.size, 1, none⟩ = some (.int .i64 x2) ∧ Below Wm.heap.size Wm wx))
            case first =>
              go_region_held3 (fun W => W.cell? ⟨g', L.length * 2, none⟩ = some (.int .i64 t1) ∧ W.cell? ⟨g', L.length * 2 + 1, none⟩ = some (.int .i64 t2) ∧ W.cell? ⟨wr.heap.size, 0, none⟩ = some (.int .i64 x1) ∧ W.cell? ⟨wr.heap.size, 1, none⟩ = some (.int .i64 x2) ∧ Below Wm.heap.size Wm W) (first | exact keepT ⟨c5, c6, c7, c8, Below.refl _ _⟩ (Below.drew (Below.refl _ _)) | exact keepT (by assumption) h1) (first | (go_at_call 50; refine (endB _ _ _ (by omega) (by omega) (by omega) (by omega)).mono ?_; rintro e y ⟨rfl, h1⟩))
              rename_i hH
              go_wp2_with fail
              go_meet
              exact ⟨rfl, hH⟩
            case rest =>
              obtain ⟨rfl, d5, d6, d7, d8, hBc⟩ := hcut
              have omc := om.below hBc (Nat.le_refl _)
              have bmc := bm.below hBc bm.lt
              have bXc := bX.below hBc bX.lt
              have gtc : w2.grownBy wc (some w1.heap.size) := gt.trans (by obtain ⟨q1, q2, q3, q4, q5⟩ := hBc; exact ⟨q1, q2, q3, q4, fun i hi _ => q5 i hi⟩)
              have lXc := bXc.lt
              by_cases hend : t1 + t2 < x1
              · have hdx : decide (t1 + t2 < x1) = true := by simpa using hend
                have HJ2 : Hid (tmJ (L ++ [(t1, t2)]) (x1, x2) = L ++ [(t1, t2)] ++ [(x1, x2)]) := Lib.hid (by rw [HJ.out, if_pos hend])
                go_wp2_with (at_builtin; refine wpList_append_own _ rfl _ _ 37 rfl w2.heap.size 52 i0 (.agg #[.int .i64 0, .int .i64 0]) 2 16 Try.underlying37 hi hz0 hz1 hz2 rfl (by decide) _ _ _ rfl (omc.alloc _) ⟨wc.heap.size, 0, none⟩ 1 1 [.int .i64 x1, .int .i64 x2] rfl rfl (cell_two_new wc 52 (.int .i64 x1) (.int .i64 x2)) (by simp [Value.oneCell']) (by rw [hJl]; unfold maxLen; omega) (by rw [hJl]; omega) (by have := gtc.size; simp; omega) ?_; intro v' w3 hown' hgrow _)
                have od3 : OwnP w3 w2.heap.size v' (L ++ [(t1, t2)] ++ [(x1, x2)]) := OwnP.snoc (ps := L ++ [(t1, t2)]) hown'
                have gd3 : w2.grownBy w3 (some w1.heap.size) := (gtc.trans (World.grownBy_alloc _ _ _)).andThen hgrow (fun j e => .inl (omc.lt j e).1)
                have bd3 : Blk w3 w1.heap.size 52 #[.int .i64 x1, .int .i64 x2] := (bmc.alloc _).grown hgrow (fun e => by have := (omc.lt _ e.symm).1; omega)
                clear hown' hgrow
                go_roundw
                case rel => exact ⟨k + 1, x1, x2, by omega, by go_num, Lib.hid (by rw [HS2.out]), by rw [HS2.out, HJ2.out]; exact od3, bd3, gd3⟩
                case measure => simp [intOf]; omega
              · have hdx : decide (t1 + t2 < x1) = false := by simpa using hend
                have HJ2 : Hid (tmJ (L ++ [(t1, t2)]) (x1, x2) = setLen (L ++ [(t1, t2)]) (max (t1 + t2) (x1 + x2) - t1)) := Lib.hid (by rw [HJ.out, if_neg hend])
                have f6c := (hBc.frozen (p := ⟨g', L.length * 2 + 1, none⟩) (omc.lt g' rfl |>.2 |> fun _ => (om.lt g' rfl).2)).trans f6
                have lgc := (omc.lt g' rfl).2
                have e5 : -1000000000 ≤ t1 ∧ t1 ≤ 1000000000 ∧ -1000000000 ≤ t2 ∧ t2 ≤ 1000000000 ∧ -1000000000 ≤ x1 ∧ x1 ≤ 1000000000 ∧ -1000000000 ≤ x2 ∧ x2 ≤ 1000000000 := by omega
                obtain ⟨m, hm⟩ : ∃ m, (if t1 + t2 < x1 + x2 then x1 + x2 else t1 + t2) = m := ⟨_, rfl⟩
                have HV := Lib.hid (show max (t1 + t2) (x1 + x2) = m by rw [← hm]; split <;> omega)
                have hmb : -2000000000 ≤ m ∧ m ≤ 2000000000 := by rw [← hm]; split <;> omega
                have hwm : IntKind.i64.wrap (m - t1) = m - t1 := IntWalk.i64_in _ (by omega)
                go_wp2
                obtain ⟨e51, e52, e53, e54, e55, e56, e57, e58⟩ := e5
                refine wp_region_tab (fun W => W.cell? ⟨g', L.length * 2, none⟩ = some (.int .i64 t1) ∧ W.cell? ⟨g', L.length * 2 + 1, none⟩ = some (.int .i64 t2) ∧ W.cell? ⟨wr.heap.size, 0, none⟩ = some (.int .i64 x1) ∧ W.cell? ⟨wr.heap.size, 1, none⟩ = some (.int .i64 x2) ∧ Below wc.heap.size wc W) 18 (by kernel_rfl) (by kernel_rfl) (keepT ⟨d5, d6, d7, d8, Below.refl _ _⟩ (Below.drew (Below.refl _ _))) ?_
                simp only [List.take_succ_cons, List.take_zero, List.drop_succ_cons, List.drop_zero]
                iterate 6 ((refine wpTab_value (v := ?_) (fun W hW => ?_) ?_; rotate_left; · (obtain ⟨q1, q2, q3, q4, q5⟩ := hW; go_simp; try with_reducible rfl)); simp only [Act.put, List.setIfInBounds_toArray, List.set_cons_zero, List.set_cons_succ])
                refine wpTab_call (f := ?_) (args := ?_) (v := .int .i64 (t1 + t2)) (fun W => ?_) (fun W hW => ?_) ?_
                rotate_left 2
                · go_simp; refine ⟨?_, ?_⟩ <;> rfl
                · refine (endB t1 t2 W e51 e52 e53 e54).mono ?_; rintro e y ⟨rfl, hb⟩; exact ⟨rfl, keepT hW hb⟩
                simp only [Act.put, List.setIfInBounds_toArray, List.set_cons_zero, List.set_cons_succ]
                iterate 1 ((refine wpTab_value (v := ?_) (fun W hW => ?_) ?_; rotate_left; · (obtain ⟨q1, q2, q3, q4, q5⟩ := hW; go_simp; try with_reducible rfl)); simp only [Act.put, List.setIfInBounds_toArray, List.set_cons_zero, List.set_cons_succ])
                refine wpTab_call (f := ?_) (args := ?_) (v := .int .i64 (x1 + x2)) (fun W => ?_) (fun W hW => ?_) ?_
                rotate_left 2
                · go_simp; refine ⟨?_, ?_⟩ <;> rfl
                · refine (endB x1 x2 W e55 e56 e57 e58).mono ?_; rintro e y ⟨rfl, hb⟩; exact ⟨rfl, keepT hW hb⟩
                simp only [Act.put, List.setIfInBounds_toArray, List.set_cons_zero, List.set_cons_succ]
                iterate 9 ((refine wpTab_value (v := ?_) (fun W hW => ?_) ?_; rotate_left; · (obtain ⟨q1, q2, q3, q4, q5⟩ := hW; go_simp; try with_reducible rfl)); simp only [Act.put, List.setIfInBounds_toArray, List.set_cons_zero, List.set_cons_succ])
                refine wpTab_nil (fun wz hz => ?_)
                obtain ⟨k5, k6, k7, k8, hBz⟩ := hz
                have omz := omc.below hBz (Nat.le_refl _)
                have bmz := bmc.below hBz bmc.lt
                have gtz : w2.grownBy wz (some w1.heap.size) := gtc.trans (by obtain ⟨q1, q2, q3, q4, q5⟩ := hBz; exact ⟨q1, q2, q3, q4, fun i hi _ => q5 i hi⟩)
                have f6z := (hBz.frozen (p := ⟨g', L.length * 2 + 1, none⟩) lgc).trans f6c
                have hst := omz.storedLen' hJl (by omega) (max (t1 + t2) (x1 + x2) - t1)
                rw [Nat.add_sub_cancel] at hst
                have gd := gtz.andThen hst.2 (fun j e => by cases e; exact .inl hg1)
                go_wp2
                go_roundw
                case rel => exact ⟨k + 1, x1, x2, by omega, by go_num, Lib.hid (by rw [HS2.out]), by rw [HS2.out, HJ2.out]; exact hst.1, bmz.far (p := ⟨g', L.length * 2 + 1, none⟩) (by show w1.heap.size ≠ g'; omega) _, gd⟩
                case measure => simp [intOf]; omega
    · obtain rfl : k = ps.length := by omega
      obtain ⟨A3, c3, rfl, h31, h32⟩ := hown.sl
      rw [HA.out] at h31 h32
      have h32' : SlP wr A3 (tsL ss ls N) := h32
      have hBr : Below w.heap.size w wr := hBw.grown hg (by omega) (fun k e => by cases e; omega)
      obtain ⟨q, hq⟩ : ∃ q, (tsL ss ls N).length = q := ⟨_, rfl⟩
      have HQ := Lib.hid hq
      rw [hq] at h31
      rw [HA.out, hq]
      have hcT : (q : Int) ≤ (c3 : Int) := by omega
      clear hq h32
      go_wp2
      go_ret2
      exact ⟨A3, q, by rw [HQ.out]; rfl, by rw [HQ.out]; exact Nat.le_refl _, h32', hBr⟩
end Go.Proofs.Ytcbkocjpkdcpfaa
