/- The specification's Touched. -/
import Derived.Test.YtcbkocjpkdcpfaaMd
namespace Go.Proofs.Ytcbkocjpkdcpfaa
set_option linter.unusedVariables false
open Go.RowKit Go.Shelf

theorem OwnP.cellAt' {w : World} {base g c n : Nat} {ps : List (Int × Int)} (h : OwnP w base (.slice (some ⟨g, 0, none⟩) n c) ps) (hn : ps.length = n) (j : Nat) (hj : j < ps.length) {x : Int × Int} (hx : pth ps j = x) : w.cell? ⟨g, j * 2, none⟩ = some (.int .i64 x.1) ∧ w.cell? ⟨g, j * 2 + 1, none⟩ = some (.int .i64 x.2) ∧ w.frozen? ⟨g, j * 2 + 1, none⟩ = false := by
  subst hn; subst hx; exact h.cellAt j hj
theorem OwnP.storedLen' {w : World} {base g c n : Nat} {ps : List (Int × Int)} (h : OwnP w base (.slice (some ⟨g, 0, none⟩) n c) ps) (hn : ps.length = n) (hn0 : 0 < n) (v : Int) :
    OwnP (w.setCell ⟨g, (n - 1) * 2 + 1, none⟩ (.int .i64 v)) base (.slice (some ⟨g, 0, none⟩) n c) (setLen ps v) ∧ w.grownBy (w.setCell ⟨g, (n - 1) * 2 + 1, none⟩ (.int .i64 v)) (some g) := by
  subst hn
  exact h.storedLen (ps.length - 1) (by omega) v
theorem Full.kept {w w' : World} {g : Nat} {zs : List Int} {row : Option Nat} (h : Full w g zs) (hb : w.grownBy w' row) (hg : some g ≠ row) : Full w' g zs := Full.grown h hb hg
theorem Full.lt_base {w : World} {g base : Nat} {v : Value} {ps : List (Int × Int)} (h : OwnP w base v ps) (hg : g < base) : some g ≠ v.ownBlock := fun e => by have := (h.lt g e.symm).1; omega
theorem pth_snoc (J : List (Int × Int)) (x : Int × Int) : pth (J ++ [x]) J.length = x := pth_last J x

theorem below_appendP {w wr w1 : World} {base : Nat} {v : Value} {ps : List (Int × Int)} {o : Obj} (hB : Below w.heap.size w wr) (hwb : w.heap.size ≤ base) (h : OwnP wr base v ps) (hg : (wr.alloc o).grownBy w1 v.ownBlock) : Below w.heap.size w w1 :=
  (hB.alloc hB.size o).grown hg (by have := hB.size; simp; omega) (fun k e => by have := (h.lt k e).1; omega)
set_option maxRecDepth 100000 in
set_option maxHeartbeats 4000000 in
theorem rtouched_any (A A' : Option Addr) (c c' : Nat) (ss ls : List Int) (n : Int) (w : World) (h : Sl w A ss) (h' : Sl w A' ls) (hls : ss.length ≤ 9223372036854775807) (hll : ls.length ≤ 9223372036854775807) (hb : ∀ j, j < ls.length → nth ls j ≤ 9223372036854775807) :
    Calls Try.prog 31 #[.slice A ss.length c, .slice A' ls.length c', .int .i64 n] w (RetPE w (if shE ss ls n = 0 then tsL ss ls n.toNat else []) (shE ss ls n)) := by
  obtain ⟨i0, hi, hz0, hz1, hz2⟩ := info_parts span_info
  have C1 := rshared_any A A' c c' ss ls n w h h' hls hll hb
  clear hb
  by_cases he : shE ss ls n = 0
  · rw [if_pos he, he]
    obtain ⟨N, rfl, hP, hs⟩ := Pool.of he
    rw [he] at C1
    have C2 := fun m => counts_any A A' c c' N ss ls (w.drewN m) h h' hP
    have hN := hP.size
    clear he
    simp only [Int.toNat_natCast]
    have hcb : ∀ k, 0 ≤ nth (cntL N (plL ss ls)) k := fun k => by
      by_cases hk : k < N
      · rw [nth_cntL _ _ _ hk]; omega
      · unfold nth; rw [List.getD_eq_getElem?_getD, List.getElem?_eq_none (by rw [cntL_length]; omega)]; simp
    have HLN := Lib.hid (cntL_length N (plL ss ls))
    unfold tsL
    go_enter Try.func31, Try.ntmps31
    go_wp2_with (first | (go_at_call 26; refine C1.mono ?_; rintro e w' ⟨rfl, m, rfl⟩) | (go_at_call 54; refine (C2 _).mono ?_; rintro e w2 ⟨g, q, hq, rfl, hg, hf, hB⟩; rw [cntL_length] at hq; obtain rfl := hq))
    have hB2 : Below w.heap.size w w2 := (below_drewN w m).trans hB
    have hs2 := hB2.size
    have hB3 := hB2.alloc hs2 (.cells #[] 52)
    have hf3 := hf.alloc (.cells #[] 52)
    have hgl := hf.lt
    obtain ⟨cnt, hcnt⟩ : ∃ cnt, cntL q (plL ss ls) = cnt := ⟨_, rfl⟩
    rw [hcnt] at hf3 hcb HLN
    have HC := Lib.hid hcnt
    clear hf hcnt C1 C2 hB h h' hP
    go_loopw [11, 12] (fun v i wr => ∃ k : Nat, k ≤ q ∧ i = .int .i64 k ∧ OwnP wr w2.heap.size v (tsF cnt k) ∧ Full wr g cnt ∧ Below w.heap.size w wr ∧ w2.heap.size ≤ wr.heap.size) (fun _ i _ => q - (intOf i).toNat)
    case atStart => exact ⟨0, Nat.zero_le _, rfl, OwnP.empty w2 _ (Nat.le_refl _), hf3, hB3, by simp⟩
    case round =>
      obtain ⟨k, hk, rfl, hown, hfr, hBr, hsr⟩ := hrel
      by_cases hlt : k < q
      · have c1 := hfr.cell k (by rw [HLN.out]; exact hlt)
        have hinv := tsF_inv cnt k
        have hmany := hinv.many
        have hbnd := Lib.hid hinv
        have HS : Hid (tsF cnt (k + 1) = if nth cnt k = 0 then tsF cnt k else if k = 0 ∨ nth cnt (k - 1) = 0 then tsF cnt k ++ [((k : Int), 1)] else setLen (tsF cnt k) ((pth (tsF cnt k) ((tsF cnt k).length - 1)).2 + 1)) := Lib.hid rfl
        have hk1 : (0 : Int) ≤ (k : Int) := by omega
        have hk2 : (k : Int) < (q : Int) := by omega
        obtain ⟨J, hJ⟩ : ∃ J, tsF cnt k = J := ⟨_, rfl⟩
        rw [hJ] at hown HS hmany hbnd
        clear hJ hinv
        by_cases h0 : nth cnt k = 0
        · have hd0 : (nth cnt k == 0) = true := by rw [beq_iff_eq]; exact h0
          have HS2 : Hid (tsF cnt (k + 1) = J) := Lib.hid (by rw [HS.out, if_pos h0])
          clear h0 hcb
          go_wp2
          go_roundw
          case rel => exact ⟨k + 1, by omega, by go_num, by rw [HS2.out]; exact hown, hfr, hBr, hsr⟩
          case measure => simp [intOf]; omega
        · have hd0 : (nth cnt k == 0) = false := by rw [beq_eq_false_iff_ne]; exact h0
          have HN0 := Lib.hid h0
          clear h0
          have happ : ∀ v' w1, w1.ownsRow w2.heap.size 52 2 v' (J.length + 1) (fl J ++ [.int .i64 (k : Int), .int .i64 0]) → ∃ g' cap', v' = .slice (some ⟨g', 0, none⟩) (J.length + 1) cap' ∧ OwnP w1 w2.heap.size (.slice (some ⟨g', 0, none⟩) (J.length + 1) cap') (J ++ [((k : Int), 0)]) := fun v' w1 ho => by
            obtain ⟨g', cap', rfl⟩ := ownsRow_succP ho
            exact ⟨g', cap', rfl, OwnP.snoc ho⟩
          by_cases h1 : k = 0
          · have hkz : ((k : Int) == 0) = true := by rw [beq_iff_eq]; omega
            have HS2 : Hid (tsF cnt (k + 1) = setLen (J ++ [((k : Int), 0)]) 1) := Lib.hid (by rw [HS.out, if_neg HN0.out, if_pos (.inl h1), setLen_snoc])
            clear h1 hcb HS
            go_wp2_with (at_builtin; refine wpList_append_own _ rfl _ _ 37 rfl w2.heap.size 52 i0 (.agg #[.int .i64 0, .int .i64 0]) 2 16 Try.underlying37 hi hz0 hz1 hz2 rfl (by decide) _ _ _ rfl (hown.alloc _) ⟨wr.heap.size, 0, none⟩ 1 1 [.int .i64 (k : Int), .int .i64 0] rfl rfl (cell_two_new wr 52 (.int .i64 (k : Int)) (.int .i64 0)) (by simp [Value.oneCell']) (by unfold maxLen; omega) (by omega) (by simp; omega) ?_; intro v' w1 hown' hgrow _; have hB1 := below_appendP hBr hs2 hown hgrow; have hsz1 := hgrow.size; simp at hsz1; have hfr1 := (hfr.alloc (.cells #[.int .i64 (k : Int), .int .i64 0] 52)).kept hgrow (Full.lt_base hown hgl); obtain ⟨g', cap', rfl, hown1⟩ := happ _ _ hown'; have hg1 := (hown1.lt g' rfl).1; obtain ⟨c5, c6, f6⟩ := hown1.cellAt' (by simp) J.length (by simp) (pth_snoc J _); have hst := hown1.storedLen' (by simp) (by omega) 1; rw [Nat.add_sub_cancel] at hst; simp at c6)
            go_roundw
            case rel => exact ⟨k + 1, by omega, by go_num, by rw [HS2.out]; exact hst.1, hfr1.kept hst.2 (fun e => by injection e; omega), hB1.setCell (p := ⟨g', J.length * 2 + 1, none⟩) (by show w.heap.size ≤ g'; omega) _, by simp; omega⟩
            case measure => simp [intOf]; omega
          · have hkz : ((k : Int) == 0) = false := by rw [beq_eq_false_iff_ne]; omega
            obtain ⟨r, rfl⟩ : ∃ r, k = r + 1 := ⟨k - 1, by omega⟩
            have c2 := hfr.cell r (by rw [HLN.out]; omega)
            have hr1 : (0 : Int) ≤ (r : Int) := by omega
            have hr2 : (r : Int) < (q : Int) := by omega
            have e0 : ((r + 1 : Nat) : Int) = (r : Int) + 1 := by omega
            by_cases h2 : nth cnt r = 0
            · have hd2 : (nth cnt r == 0) = true := by rw [beq_iff_eq]; exact h2
              have HS2 : Hid (tsF cnt (r + 1 + 1) = setLen (J ++ [(((r + 1 : Nat) : Int), 0)]) 1) := Lib.hid (by rw [HS.out, if_neg HN0.out, if_pos (.inr h2), setLen_snoc])
              rw [e0] at HS2 happ
              clear h1 h2 hcb HS e0
              go_wp2_with (at_builtin; refine wpList_append_own _ rfl _ _ 37 rfl w2.heap.size 52 i0 (.agg #[.int .i64 0, .int .i64 0]) 2 16 Try.underlying37 hi hz0 hz1 hz2 rfl (by decide) _ _ _ rfl (hown.alloc _) ⟨wr.heap.size, 0, none⟩ 1 1 [.int .i64 ((r : Int) + 1), .int .i64 0] rfl rfl (cell_two_new wr 52 (.int .i64 ((r : Int) + 1)) (.int .i64 0)) (by simp [Value.oneCell']) (by unfold maxLen; omega) (by omega) (by simp; omega) ?_; intro v' w1 hown' hgrow _; have hB1 := below_appendP hBr hs2 hown hgrow; have hsz1 := hgrow.size; simp at hsz1; have hfr1 := (hfr.alloc (.cells #[.int .i64 ((r : Int) + 1), .int .i64 0] 52)).kept hgrow (Full.lt_base hown hgl); obtain ⟨g', cap', rfl, hown1⟩ := happ _ _ hown'; have hg1 := (hown1.lt g' rfl).1; obtain ⟨c5, c6, f6⟩ := hown1.cellAt' (by simp) J.length (by simp) (pth_snoc J _); have hst := hown1.storedLen' (by simp) (by omega) 1; rw [Nat.add_sub_cancel] at hst; simp at c6)
              go_roundw
              case rel => exact ⟨r + 1 + 1, by omega, by go_num, by rw [HS2.out]; exact hst.1, hfr1.kept hst.2 (fun e => by injection e; omega), hB1.setCell (p := ⟨g', J.length * 2 + 1, none⟩) (by show w.heap.size ≤ g'; omega) _, by simp; omega⟩
              case measure => simp [intOf]; omega
            · have hd2 : (nth cnt r == 0) = false := by rw [beq_eq_false_iff_ne]; exact h2
              have hrun := hbnd.out.run (fun h => h.elim (by omega) h2)
              obtain ⟨L, t, rfl, ht⟩ := hrun
              have hbt := hbnd.out.bnd t (List.mem_append.2 (.inr (List.mem_singleton.2 rfl)))
              obtain ⟨u, hu⟩ : ∃ u, t.2 = u := ⟨_, rfl⟩
              have hpos := hbnd.out.canon.pos t (List.mem_append.2 (.inr (List.mem_singleton.2 rfl)))
              rw [hu] at ht hpos
              have hlenS : (L ++ [t]).length = L.length + 1 := by simp
              have HS2 : Hid (tsF cnt (r + 1 + 1) = setLen (L ++ [t]) (u + 1)) := Lib.hid (by rw [HS.out, if_neg HN0.out, if_neg (fun h => h.elim (by omega) h2), hlenS, Nat.add_sub_cancel, pth_last, hu])
              have hownU := hown
              unfold OwnP at hownU
              rw [hlenS] at hownU
              obtain ⟨g', cap', rfl⟩ := ownsRow_succP hownU
              have hg1 := (hown.lt g' rfl).1
              obtain ⟨c5, c6, f6⟩ := hown.cellAt' hlenS L.length (by simp) (pth_last L t)
              have hst := hown.storedLen' hlenS (by omega) (u + 1)
              rw [Nat.add_sub_cancel] at hst
              rw [hu] at c6
              have hlm : L.length ≤ 1048576 := by omega
              have hut : 0 ≤ u ∧ u ≤ 1048577 := by omega
              clear h1 h2 hcb HS e0 hownU hbt hpos ht hmany happ
              go_wp2
              go_roundw
              case rel => exact ⟨r + 1 + 1, by omega, by go_num, by rw [HS2.out]; exact hst.1, hfr.kept hst.2 (fun e => by injection e; omega), hBr.setCell (p := ⟨g', L.length * 2 + 1, none⟩) (by show w.heap.size ≤ g'; omega) _, by simp; omega⟩
              case measure => simp [intOf]; omega
      · obtain rfl : k = q := by omega
        obtain ⟨A2, c2, rfl, hcc, hsl⟩ := hown.sl
        clear hcb
        go_wp2
        go_ret2
        rw [HC.out]
        exact ⟨A2, c2, rfl, hcc, hsl, hBr⟩
  · have hd : (shE ss ls n != 0) = true := by rw [bne_iff_ne]; exact he
    rw [if_neg he]
    clear he
    go_enter Try.func31, Try.ntmps31
    go_wp2_with (go_at_call 26; refine C1.mono ?_; rintro e w' ⟨rfl, m, rfl⟩)
    go_ret2
    exact ⟨none, 0, rfl, Nat.le_refl _, SlP.nil _ _, below_drewN w m⟩
end Go.Proofs.Ytcbkocjpkdcpfaa
