/- ScanParts: the theorem of joined lists, for any number that chooses an operation, and any three slices of ints that can be read: the law's call returns true, and they read as they did. No condition but the row's own (the listed table holds what the text says). -/
import Derived.Test.YtecpanppnljkhaaDoorKa3
import Derived.Test.YtecpanppnljkhaaDoorKa4
import Derived.Test.YtecpanppnljkhaaDoorPa
import Derived.Test.YtecpanppnljkhaaDoorTie
import Derived.Test.YtecpanppnljkhaaDoorCards
import Derived.ChangeMaps5
namespace Go.Proofs.YtecpanppnljkhaaDoor.scanParts
open Go.ChangeShapes Go.WideShapes Go.ChangeAt Go.RowKit Go.ChangeMaps
set_option linter.unusedVariables false
/-- Lengths so far: none below 0, and what is left. -/
def Lens (N : Nat) (Z : List Int) (L : Int) : Prop := posB Z = true ∧ Z.sum + L = N
theorem Lens.snoc {N : Nat} {Z : List Int} {L r : Int} (h : Lens N Z L) (h0 : 0 ≤ r) : Lens N (Z ++ [r]) (L - r) := by
  refine ⟨?_, by rw [List.sum_append]; have := h.2; simp; omega⟩
  have := h.1
  unfold posB at *
  rw [List.all_append, this]
  simpa using h0
theorem Lens.segs {l : List Int} {Z : List Int} (h : Lens l.length Z 0) (h1 : Z.length ≤ 1048576) (h2 : l.length ≤ 1048576) : Segs l Z := ⟨h.1, h1, h2, by have := h.2; omega⟩
theorem fold_one {op : Int} (haB : aB op = true) (l : List Int) (n : Nat) (hn : l.length = n) (hw : Wds l) (hl : n ≤ 1000) (A A' : Option Addr) (c cl : Nat) (W : World) (hI : Inv W) (hA : Sl W A l) (hcl : n ≤ cl) (hA' : Sl W A' [(n : Int)]) (hc' : 1 ≤ c) :
    Calls Tryd.prog 19 #[.int .i64 op, .slice A n cl, .slice A' 1 c] W (RetL W [scN (doN op) (neN op) l n] 0) := by
  subst hn
  have := fold_any op A A' c cl l [(l.length : Int)] W hI hA hcl (by unfold Ok; omega) hA' hc' (by unfold Ok; simp)
  rw [fsE_good haB hw (segs_one l (by omega)), orL_ok, kp_one] at this
  exact this
theorem scan_one {op : Int} (haB : aB op = true) (l : List Int) (n : Nat) (hn : l.length = n) (hw : Wds l) (hl : n ≤ 1000) (A A' : Option Addr) (c cl : Nat) (W : World) (hI : Inv W) (hA : Sl W A l) (hcl : n ≤ cl) (hA' : Sl W A' [(n : Int)]) (hc' : 1 ≤ c) :
    Calls Tryd.prog 23 #[.int .i64 op, .slice A n cl, .slice A' 1 c] W (RetL W (ahL (doN op) (neN op) l) 0) := by
  subst hn
  have := scan_any op A A' c cl l [(l.length : Int)] W hI hA hcl (by unfold Ok; omega) hA' hc' (by unfold Ok; simp)
  rw [fsE_good haB hw (segs_one l (by omega)), orL_ok, kp_one] at this
  exact this
theorem scan_segs {op : Int} (haB : aB op = true) (l lens : List Int) (n k : Nat) (hn : l.length = n) (hk : lens.length = k) (hw : Wds l) (hz : Segs l lens) (A A' : Option Addr) (c cl : Nat) (W : World) (hI : Inv W) (hA : Sl W A l) (hcl : n ≤ cl) (hA' : Sl W A' lens) (hc' : k ≤ c) :
    Calls Tryd.prog 23 #[.int .i64 op, .slice A n cl, .slice A' k c] W (RetL W (kpK (ahL (doN op) (neN op)) l lens lens.length) 0) := by
  subst hn; subst hk
  have := scan_any op A A' c cl l lens W hI hA hcl (by have := hz.short; unfold Ok; omega) hA' hc' (by have := hz.few; unfold Ok; omega)
  rw [fsE_good haB hw hz, orL_ok] at this
  exact this
theorem thru_segs {op : Int} (haB : aB op = true) (l lens : List Int) (n k : Nat) (hn : l.length = n) (hk : lens.length = k) (hw : Wds l) (hz : Segs l lens) (A A' : Option Addr) (c cl : Nat) (W : World) (hI : Inv W) (hA : Sl W A l) (hcl : n ≤ cl) (hA' : Sl W A' lens) (hc' : k ≤ c) :
    Calls Tryd.prog 27 #[.int .i64 op, .slice A n cl, .slice A' k c] W (RetL W (kpK (upL' (doN op) (neN op)) l lens lens.length) 0) := by
  subst hn; subst hk
  have := through_any op A A' c cl l lens W hI hA hcl (by have := hz.short; unfold Ok; omega) hA' hc' (by have := hz.few; unfold Ok; omega)
  rw [fsE_good haB hw hz, orL_ok] at this
  exact this
/-- A guarded operation that runs is the operation without its guard. -/
theorem wpList_unguard {P : Program} {ops : Array Oper} {Q : Exit → Act → World → Prop} {rest : List Oper} {a : Act} {w : World} {d : Option Nat} {op : Op} {t : TypeId} {p : String} {af : Array Edge} {g : Nat × Bool}
    (h : Region.wanted ⟨d, op, t, p, af, some g⟩ (yielded ops a.tmps) = true) (H : wpList P ops Q (⟨d, op, t, p, af, none⟩ :: rest) a w) : wpList P ops Q (⟨d, op, t, p, af, some g⟩ :: rest) a w := by
  unfold wpList at H ⊢
  rw [if_pos h]
  rw [if_pos (by rfl)] at H
  exact H
theorem kp_word {f : Int → Int → Int} {x : Int} (M : Mon f x) {l : List Int} (hw : Wds l) (lens : List Int) : ∀ i, Wds (kpK (ahL f x) l lens i)
  | 0 => fun j hj => by simp [kpK] at hj
  | i + 1 => wds_app (kp_word M hw lens i) (fun j hj => by
    unfold ahL at hj ⊢
    rw [mk_length] at hj
    rw [nth_mk _ _ _ hj]
    exact M.sc (sg_word hw _ _) M.one _)
set_option maxRecDepth 100000 in
set_option maxHeartbeats 40000000 in
theorem walk (o : Int) (A1 : Option Addr) (c1 : Nat) (z1 : List Int) (A2 : Option Addr) (c2 : Nat) (z2 : List Int) (A3 : Option Addr) (c3 : Nat) (z3 : List Int) (w : World) (hI : Inv w) (h1 : Sl w A1 z1) (hc1 : z1.length ≤ c1) (k1 : Ok z1) (h2 : Sl w A2 z2) (hc2 : z2.length ≤ c2) (k2 : Ok z2) (h3 : Sl w A3 z3) (hc3 : z3.length ≤ c3) (k3 : Ok z3) :
    Calls Tryd.prog 6 #[.int .i64 o, .slice A1 z1.length c1, .slice A2 z2.length c2, .slice A3 z3.length c3] w (Ret (.bool true) w) := by
  obtain ⟨i0, hi, hzz0, hzz1, hzz2⟩ := info_parts int_info
  have haB := opN_aB o
  have M := mon_op haB
  have COp := Lib.hid (opOf_any o w)
  have CW1 := Lib.hid (fun W hW => wraps_any A1 c1 z1 60 W hW (by unfold Ok at k1; omega) (by omega))
  have CW2 := Lib.hid (fun W hW => wraps_any A2 c2 z2 60 W hW (by unfold Ok at k2; omega) (by omega))
  have hal := wl_len z1 60
  have haw := wl_word z1 60
  have hbl := wl_len z2 60
  have hbw := wl_word z2 60
  obtain ⟨a, ha⟩ : ∃ a, wlL z1 60 = a := ⟨_, rfl⟩
  obtain ⟨b, hb⟩ : ∃ b, wlL z2 60 = b := ⟨_, rfl⟩
  obtain ⟨op, hop⟩ : ∃ op, opN o = op := ⟨_, rfl⟩
  rw [ha] at CW1 hal haw
  rw [hb] at CW2 hbl hbw
  rw [hop] at COp haB M
  have ha60 : a.length ≤ 60 := by omega
  have hb60 : b.length ≤ 60 := by omega
  have HV : Hid (doN op (scN (doN op) (neN op) a a.length) (scN (doN op) (neN op) b b.length) = scN (doN op) (neN op) (a ++ b) (a ++ b).length) := Lib.hid (M.fold_app haw hbw).symm
  have HaB := Lib.hid haB; have HM := Lib.hid M; have Haw := Lib.hid haw; have Hbw := Lib.hid hbw
  have hz3 : z3.length ≤ 9223372036854775807 := by unfold Ok at k3; omega
  clear hal hbl ha hb hop haB M haw hbw
  go_enter Tryd.func6, Tryd.ntmps6
  go_wp2_with fail
  refine COp.out.mono ?_
  rintro e w1 ⟨rfl, hB1⟩
  go_wp2_with fail
  refine (CW1.out _ (h1.step hB1)).mono ?_
  rintro e w2 ⟨A4, c4, rfl, hc4, hs4, hB⟩
  replace hB1 := hB1.trans (hB.mono hB1.size)
  clear hB
  go_wp2_with fail
  refine (CW2.out _ (h2.step hB1)).mono ?_
  rintro e w3 ⟨A5, c5, rfl, hc5, hs5, hB⟩
  replace hs4 := hs4.step hB
  replace hB1 := hB1.trans (hB.mono hB1.size)
  clear hB COp CW1 CW2
  obtain ⟨N, hN⟩ : ∃ N, a.length = N := ⟨_, rfl⟩
  have HN := Lib.hid hN
  rw [hN] at hc4 ha60 ⊢
  clear hN
  go_wp2
  go_loopw [12, 13, 14] (fun v l i wr => ∃ (j : Nat) (L : Int) (Z : List Int), i = .int .i64 j ∧ l = .int .i64 L ∧ j ≤ 200 ∧ 0 ≤ L ∧ L ≤ N ∧ Hid (Lens N Z L) ∧ Z.length = j ∧ OwnI wr w3.heap.size v Z ∧ Below w3.heap.size w3 wr) (fun _ _ i _ => 200 - (intOf i).toNat)
  case atStart => exact ⟨0, N, [], rfl, rfl, by omega, by omega, by omega, Lib.hid ⟨rfl, by simp⟩, rfl, OwnI.empty w3 _ (Nat.le_refl _), (Below.refl _ _).alloc (Nat.le_refl _) _⟩
  case round =>
    obtain ⟨j, L, Z, rfl, rfl, hj, hL0, hL1, HLn, hZl, hown, hBr⟩ := hrel
    by_cases hgo : 0 < L ∧ j < 200
    · obtain ⟨hg1, hg2⟩ := hgo
      have C1 := bnth_any A3 c3 z3 j wr ((h3.step hB1).step hBr) hz3 (by omega)
      obtain ⟨y, hy⟩ : ∃ y, nth z3 (j % z3.length) = y := ⟨_, rfl⟩
      rw [hy] at C1
      have C1 := Lib.hid C1
      have C2 : ∀ (x : Int) (W : World), Calls Tryd.prog 9 #[.int .i64 x, .int .i64 6] W (TurnR 5 W) := fun x W => turnR_any x 7 (by omega) (by omega) W
      have C2 := Lib.hid C2
      have hZ200 : Z.length ≤ 200 := by omega
      have HZl := Lib.hid hZl
      have p1 : ((j : Nat) : Int) < 200 := by omega
      clear hy hZl
      go_wp2_with fail
      refine C1.out.mono ?_
      rintro e w' ⟨rfl, rfl⟩
      go_wp2_with fail
      refine (C2.out _ _).mono ?_
      rintro e w' ⟨r, hr0, hr1, rfl, hk⟩
      subst hk
      obtain ⟨n, hn⟩ : ∃ n, min L r = n := ⟨_, rfl⟩
      have hn0 : 0 ≤ n := by omega
      have hn1 : n ≤ L := by omega
      have HLn' := Lib.hid (HLn.out.snoc hn0)
      by_cases hmin : L ≤ r
      · obtain rfl : n = L := by omega
        have hmn := Int.min_eq_left hmin
        have HLn' : Hid (Lens N (Z ++ [n]) 0) := Lib.hid (by have := HLn'.out; rw [Int.sub_self] at this; exact this)
        clear hn
        go_wp2_with (at_builtin; refine wpList_append_own _ rfl _ _ 22 rfl w3.heap.size 3 i0 (.int .i64 0) 1 8 Tryd.underlying22 hi hzz0 hzz1 hzz2 rfl (by decide) _ _ _ rfl (hown.alloc _) ⟨_, 0, none⟩ 1 1 [.int .i64 n] rfl rfl (cell_one_new _ _ _) (by simp [Value.oneCell']) (by unfold maxLen; omega) (by omega) (by have := hBr.size; simp; omega) ?_; intro v' w2' hown' hgrow _; have hB2' := below_append hBr hBr.size hown hgrow)
        have hown2 := OwnI.snoc hown'
        clear hown' hgrow
        go_roundw
        case rel => exact ⟨j + 1, _, Z ++ [n], by go_num, rfl, by omega, by omega, by omega, HLn', by rw [List.length_append, HZl.out]; rfl, hown2, hB2'⟩
        case measure => simp [intOf]; omega
      · have hmin' : r ≤ L := by omega
        obtain rfl : n = r := by omega
        have hmn := Int.min_eq_right hmin'
        clear hn
        go_wp2_with (at_builtin; refine wpList_append_own _ rfl _ _ 22 rfl w3.heap.size 3 i0 (.int .i64 0) 1 8 Tryd.underlying22 hi hzz0 hzz1 hzz2 rfl (by decide) _ _ _ rfl (hown.alloc _) ⟨_, 0, none⟩ 1 1 [.int .i64 n] rfl rfl (cell_one_new _ _ _) (by simp [Value.oneCell']) (by unfold maxLen; omega) (by omega) (by have := hBr.size; simp; omega) ?_; intro v' w2' hown' hgrow _; have hB2' := below_append hBr hBr.size hown hgrow)
        have hown2 := OwnI.snoc hown'
        clear hown' hgrow
        go_roundw
        case rel => exact ⟨j + 1, _, Z ++ [n], by go_num, rfl, by omega, by omega, by omega, HLn', by rw [List.length_append, HZl.out]; rfl, hown2, hB2'⟩
        case measure => simp [intOf]; omega
    · have hB := hB1.trans (hBr.mono hB1.size)
      have hs4w := hs4
      have hs5w := hs5
      replace hs4 := hs4.step hBr
      replace hs5 := hs5.step hBr
      by_cases hL : 0 < L
      · have hj2 : ¬ (j : Int) < 200 := by omega
        have hZ2 : Z.length ≤ 200 := by omega
        have hd0 : decide ((0 : Int) < L) = true := by simpa using hL
        clear hgo hZl hj
        go_wp2_with (at_builtin; refine wpList_append_own _ rfl _ _ 22 rfl w3.heap.size 3 i0 (.int .i64 0) 1 8 Tryd.underlying22 hi hzz0 hzz1 hzz2 rfl (by decide) _ _ _ rfl (hown.alloc _) ⟨_, 0, none⟩ 1 1 [.int .i64 L] rfl rfl (cell_one_new _ _ _) (by simp [Value.oneCell']) (by unfold maxLen; omega) (by omega) (by have := hBr.size; simp; omega) ?_; intro v' wq hown' hgrow _; have hB2' := below_append hBr hBr.size hown hgrow)
        have hown2 := OwnI.snoc hown'
        have HLnq : Hid (Lens N (Z ++ [L]) 0) := Lib.hid (by have := HLn.out.snoc (r := L) (by omega); rw [Int.sub_self] at this; exact this)
        obtain ⟨Zq, hZq⟩ : ∃ Zq, Z ++ [L] = Zq := ⟨_, rfl⟩
        have hZ2 : Zq.length ≤ 201 := by rw [← hZq, List.length_append]; simp; omega
        rw [hZq] at hown2 HLnq
        clear hown' hgrow hown HLn hB hs4 hs5 hZq
        have hB := hB1.trans (hB2'.mono hB1.size)
        have hs4 := hs4w.step hB2'
        have hs5 := hs5w.step hB2'
        have hown := hown2
        have HLn := HLnq
        clear hown2 HLnq hs4w hs5w hBr hB2'
        have HZZ := Lib.hid (show Segs a Zq from Lens.segs (by rw [HN.out]; exact HLn.out) (by omega) (by have := HN.out; omega))
        obtain ⟨A6, c6, rfl, hc6, hs6⟩ := hown.form
        clear hown HLn
        obtain ⟨NB, hNB⟩ : ∃ NB, b.length = NB := ⟨_, rfl⟩
        have HNB := Lib.hid hNB
        rw [hNB] at hc5 hb60 ⊢
        clear hNB
        obtain ⟨K, hK⟩ : ∃ K, Zq.length = K := ⟨_, rfl⟩
        have HK := Lib.hid hK
        rw [hK] at hc6 hZ2 ⊢
        clear hK
        have CC := copy_gen A4 c4 a wq hs4 (by rw [HN.out]; omega)
        rw [HN.out] at CC
        have CC := Lib.hid CC
        refine CC.out.mono ?_
        rintro e w4 ⟨v4, rfl, hown4, hBc⟩
        have hs5c := hs5.step hBc
        have hszc := hBc.size
        obtain ⟨ab, hab⟩ : ∃ ab, a ++ b = ab := ⟨_, rfl⟩
        have hlab : ab.length = N + NB := by rw [← hab, List.length_append, HN.out, HNB.out]
        have HAB := Lib.hid hab
        have HLAB := Lib.hid hlab
        clear CC hab hlab
        have hNN := Lib.hid (show a.length + b.length ≤ 1000000 by rw [HN.out, HNB.out]; omega)
        have hx5 := Lib.hid (show Value.slice A5 NB c5 = .slice A5 b.length c5 by rw [HNB.out])
        go_wp2_with (at_builtin; refine wpList_append_sl rfl _ _ rfl wq.heap.size _ a rfl hown4 A5 c5 b hx5.out hs5c hNN.out hBc hszc ?_; intro v5 w5 hown5 hBx)
        replace hs4 := hs4.step hBx
        replace hs5 := hs5.step hBx
        replace hs6 := hs6.step hBx
        replace hB := hB.trans (hBx.mono hB.size)
        rw [HAB.out] at hown5
        obtain ⟨A7, c7, rfl, hc7, hs7⟩ := hown5.form
        obtain ⟨Q, hQ⟩ : ∃ Q, N + NB = Q := ⟨_, rfl⟩
        have HQ : Hid (ab.length = Q) := Lib.hid (HLAB.out.trans hQ)
        have hQ120 : Q ≤ 120 := by omega
        have HQN := Lib.hid hQ
        rw [HQ.out] at hc7 ⊢
        clear hown4 hown5 hBc hs5c hszc hBx hx5 hNN hQ
        have HABw : Hid (Wds ab) := Lib.hid (by rw [← HAB.out]; exact wds_app Haw.out Hbw.out)
        have CFa := fold_one HaB.out a N HN.out Haw.out (by omega)
        have CFb := fold_one HaB.out b NB HNB.out Hbw.out (by omega)
        have CFc := fold_one HaB.out ab Q HQ.out HABw.out (by omega)
        have HV2 : doN op (scN (doN op) (neN op) a N) (scN (doN op) (neN op) b NB) = scN (doN op) (neN op) ab Q := by
          have := HV.out
          rw [HAB.out, HQ.out, HN.out, HNB.out] at this
          exact this
        obtain ⟨X, hX⟩ : ∃ X, scN (doN op) (neN op) a N = X := ⟨_, rfl⟩
        obtain ⟨Y, hY⟩ : ∃ Y, scN (doN op) (neN op) b NB = Y := ⟨_, rfl⟩
        obtain ⟨V, hV⟩ : ∃ V, scN (doN op) (neN op) ab Q = V := ⟨_, rfl⟩
        have HXw : Hid (isW X) := Lib.hid (by rw [← hX]; exact HM.out.sc Haw.out HM.out.one _)
        have HYw : Hid (isW Y) := Lib.hid (by rw [← hY]; exact HM.out.sc Hbw.out HM.out.one _)
        rw [hX, hY, hV] at HV2
        rw [hX] at CFa
        rw [hY] at CFb
        rw [hV] at CFc
        clear hX hY hV
        have HV2 := Lib.hid HV2; have CFa := Lib.hid CFa; have CFb := Lib.hid CFb; have CFc := Lib.hid CFc
        clear HV
        have bN := Blk.new w5 3 #[.int .i64 (N : Int)]
        replace hB := hB.alloc hB.size (.cells #[.int .i64 (N : Int)] 3)
        replace hs4 := hs4.al (.cells #[.int .i64 (N : Int)] 3)
        replace hs5 := hs5.al (.cells #[.int .i64 (N : Int)] 3)
        replace hs6 := hs6.al (.cells #[.int .i64 (N : Int)] 3)
        replace hs7 := hs7.al (.cells #[.int .i64 (N : Int)] 3)
        go_wp2_with fail
        refine (CFa.out A4 (some ⟨w5.heap.size, 0, none⟩) 1 c4 _ (hI.below hB) hs4 hc4 (sl_one bN) (by omega)).mono ?_
        rintro e w6 ⟨A8, c8, rfl, hc8, hs8, hBx⟩
        rw [List.length_singleton] at hc8 ⊢
        replace hs4 := hs4.step hBx
        replace hs5 := hs5.step hBx
        replace hs6 := hs6.step hBx
        replace hs7 := hs7.step hBx
        replace hB := hB.trans (hBx.mono hB.size)
        clear hBx bN
        have bN := Blk.new w6 3 #[.int .i64 (NB : Int)]
        replace hB := hB.alloc hB.size (.cells #[.int .i64 (NB : Int)] 3)
        replace hs4 := hs4.al (.cells #[.int .i64 (NB : Int)] 3)
        replace hs5 := hs5.al (.cells #[.int .i64 (NB : Int)] 3)
        replace hs6 := hs6.al (.cells #[.int .i64 (NB : Int)] 3)
        replace hs7 := hs7.al (.cells #[.int .i64 (NB : Int)] 3)
        replace hs8 := hs8.al (.cells #[.int .i64 (NB : Int)] 3)
        go_wp2_with fail
        refine (CFb.out A5 (some ⟨w6.heap.size, 0, none⟩) 1 c5 _ (hI.below hB) hs5 hc5 (sl_one bN) (by omega)).mono ?_
        rintro e w7 ⟨A9, c9, rfl, hc9, hs9, hBx⟩
        rw [List.length_singleton] at hc9 ⊢
        replace hs4 := hs4.step hBx
        replace hs5 := hs5.step hBx
        replace hs6 := hs6.step hBx
        replace hs7 := hs7.step hBx
        replace hs8 := hs8.step hBx
        replace hB := hB.trans (hBx.mono hB.size)
        clear hBx bN
        have bN := Blk.new w7 3 #[.int .i64 (Q : Int)]
        replace hB := hB.alloc hB.size (.cells #[.int .i64 (Q : Int)] 3)
        replace hs4 := hs4.al (.cells #[.int .i64 (Q : Int)] 3)
        replace hs5 := hs5.al (.cells #[.int .i64 (Q : Int)] 3)
        replace hs6 := hs6.al (.cells #[.int .i64 (Q : Int)] 3)
        replace hs7 := hs7.al (.cells #[.int .i64 (Q : Int)] 3)
        replace hs8 := hs8.al (.cells #[.int .i64 (Q : Int)] 3)
        replace hs9 := hs9.al (.cells #[.int .i64 (Q : Int)] 3)
        go_wp2_with fail
        refine (CFc.out A7 (some ⟨w7.heap.size, 0, none⟩) 1 c7 _ (hI.below hB) hs7 hc7 (sl_one bN) (by omega)).mono ?_
        rintro e w8 ⟨A10, c10, rfl, hc10, hs10, hBx⟩
        rw [List.length_singleton] at hc10 ⊢
        replace hs4 := hs4.step hBx
        replace hs5 := hs5.step hBx
        replace hs6 := hs6.step hBx
        replace hs7 := hs7.step hBx
        replace hs8 := hs8.step hBx
        replace hs9 := hs9.step hBx
        replace hB := hB.trans (hBx.mono hB.size)
        clear hBx bN CFa CFb CFc
        have CV := fun W => value_ok HaB.out HXw.out HYw.out W
        rw [HV2.out] at CV
        have CV := Lib.hid CV
        obtain ⟨b8, o8, rfl, hb8, hq8⟩ := hs8.at_ (k := 0) (by simp)
        obtain ⟨b9, o9, rfl, hb9, hq9⟩ := hs9.at_ (k := 0) (by simp)
        obtain ⟨b10, o10, rfl, hb10, hq10⟩ := hs10.at_ (k := 0) (by simp)
        replace hq8 : w8.cell? ⟨b8, o8, none⟩ = some (.int .i64 X) := hq8
        replace hq9 : w8.cell? ⟨b9, o9, none⟩ = some (.int .i64 Y) := hq9
        replace hq10 : w8.cell? ⟨b10, o10, none⟩ = some (.int .i64 V) := hq10
        go_wp2_with fail
        obtain ⟨VS, hVS⟩ : ∃ VS : List Value, VS = [.int .i64 0, .bool false, .bool false, .int .i64 0, .bool false, .bool false, .bool false, .int .i64 0, .bool false, .bool false, .bool false, .slice (some ⟨b8, o8, none⟩) 1 c8, .int .i64 1, .bool false, .bool false, .bool false, .slice (some ⟨b9, o9, none⟩) 1 c9, .int .i64 1, .bool false, .bool false, .bool false, .slice (some ⟨b10, o10, none⟩) 1 c10, .int .i64 1, .bool false, .bool false, .bool false, .int .i64 op, .slice (some ⟨b8, o8, none⟩) 1 c8, .pointer (some ⟨b8, o8, none⟩), .int .i64 X, .slice (some ⟨b9, o9, none⟩) 1 c9, .pointer (some ⟨b9, o9, none⟩), .int .i64 Y, .int .i64 V, .slice (some ⟨b10, o10, none⟩) 1 c10, .pointer (some ⟨b10, o10, none⟩), .int .i64 V, .bool false, .bool false] := ⟨_, rfl⟩
        refine wp_region_owv VS (by kernel_rfl) (by kernel_rfl) (by rw [hVS]; rfl) ?_ ?_ ?_
        · subst hVS
          exact v_guard (by kernel_rfl)
        · intro iK oK ho a W hW hdf hin hout
          subst hVS
          match iK, ho with
          | 0, ho =>
            obtain rfl := Option.some.inj ho
            have s18 : a.tmps.getD 18 undef = .int .i64 0 := hout 18 (noDst_spec (by kernel_rfl))
            refine .inl ⟨.int .i64 0, W, ?_, Below.refl _ _, rfl⟩
            go_simp
          | 1, ho =>
            obtain rfl := Option.some.inj ho
            have e0 : a.tmps.getD 98 undef = .int .i64 0 := hin 0 98 rfl (by kernel_rfl)
            refine .inl ⟨.bool false, W, ?_, Below.refl _ _, rfl⟩
            go_simp
          | 2, ho =>
            obtain rfl := Option.some.inj ho
            have e1 : a.tmps.getD 99 undef = .bool false := hin 1 99 rfl (by kernel_rfl)
            refine .inl ⟨.bool false, W, ?_, Below.refl _ _, rfl⟩
            go_simp
          | 3, ho =>
            obtain rfl := Option.some.inj ho
            have s20 : a.tmps.getD 20 undef = .int .i64 0 := hout 20 (noDst_spec (by kernel_rfl))
            refine .inl ⟨.int .i64 0, W, ?_, Below.refl _ _, rfl⟩
            go_simp
          | 4, ho =>
            obtain rfl := Option.some.inj ho
            have e3 : a.tmps.getD 101 undef = .int .i64 0 := hin 3 101 rfl (by kernel_rfl)
            refine .inl ⟨.bool false, W, ?_, Below.refl _ _, rfl⟩
            go_simp
          | 5, ho =>
            obtain rfl := Option.some.inj ho
            have e2 : a.tmps.getD 100 undef = .bool false := hin 2 100 rfl (by kernel_rfl)
            have e4 : a.tmps.getD 102 undef = .bool false := hin 4 102 rfl (by kernel_rfl)
            refine .inl ⟨.bool false, W, ?_, Below.refl _ _, rfl⟩
            go_simp
          | 6, ho =>
            obtain rfl := Option.some.inj ho
            have e5 : a.tmps.getD 103 undef = .bool false := hin 5 103 rfl (by kernel_rfl)
            refine .inl ⟨.bool false, W, ?_, Below.refl _ _, rfl⟩
            go_simp
          | 7, ho =>
            obtain rfl := Option.some.inj ho
            have s22 : a.tmps.getD 22 undef = .int .i64 0 := hout 22 (noDst_spec (by kernel_rfl))
            refine .inl ⟨.int .i64 0, W, ?_, Below.refl _ _, rfl⟩
            go_simp
          | 8, ho =>
            obtain rfl := Option.some.inj ho
            have e7 : a.tmps.getD 105 undef = .int .i64 0 := hin 7 105 rfl (by kernel_rfl)
            refine .inl ⟨.bool false, W, ?_, Below.refl _ _, rfl⟩
            go_simp
          | 9, ho =>
            obtain rfl := Option.some.inj ho
            have e6 : a.tmps.getD 104 undef = .bool false := hin 6 104 rfl (by kernel_rfl)
            have e8 : a.tmps.getD 106 undef = .bool false := hin 8 106 rfl (by kernel_rfl)
            refine .inl ⟨.bool false, W, ?_, Below.refl _ _, rfl⟩
            go_simp
          | 10, ho =>
            obtain rfl := Option.some.inj ho
            have e9 : a.tmps.getD 107 undef = .bool false := hin 9 107 rfl (by kernel_rfl)
            refine .inl ⟨.bool false, W, ?_, Below.refl _ _, rfl⟩
            go_simp
          | 11, ho =>
            obtain rfl := Option.some.inj ho
            have s17 : a.tmps.getD 17 undef = .slice (some ⟨b8, o8, none⟩) 1 c8 := hout 17 (noDst_spec (by kernel_rfl))
            refine .inl ⟨.slice (some ⟨b8, o8, none⟩) 1 c8, W, ?_, Below.refl _ _, rfl⟩
            go_simp
          | 12, ho =>
            obtain rfl := Option.some.inj ho
            have e11 : a.tmps.getD 109 undef = .slice (some ⟨b8, o8, none⟩) 1 c8 := hin 11 109 rfl (by kernel_rfl)
            refine .inl ⟨.int .i64 1, W, ?_, Below.refl _ _, rfl⟩
            go_simp
          | 13, ho =>
            obtain rfl := Option.some.inj ho
            have e12 : a.tmps.getD 110 undef = .int .i64 1 := hin 12 110 rfl (by kernel_rfl)
            refine .inl ⟨.bool false, W, ?_, Below.refl _ _, rfl⟩
            go_simp
          | 14, ho =>
            obtain rfl := Option.some.inj ho
            have e10 : a.tmps.getD 108 undef = .bool false := hin 10 108 rfl (by kernel_rfl)
            have e13 : a.tmps.getD 111 undef = .bool false := hin 13 111 rfl (by kernel_rfl)
            refine .inl ⟨.bool false, W, ?_, Below.refl _ _, rfl⟩
            go_simp
          | 15, ho =>
            obtain rfl := Option.some.inj ho
            have e14 : a.tmps.getD 112 undef = .bool false := hin 14 112 rfl (by kernel_rfl)
            refine .inl ⟨.bool false, W, ?_, Below.refl _ _, rfl⟩
            go_simp
          | 16, ho =>
            obtain rfl := Option.some.inj ho
            have s19 : a.tmps.getD 19 undef = .slice (some ⟨b9, o9, none⟩) 1 c9 := hout 19 (noDst_spec (by kernel_rfl))
            refine .inl ⟨.slice (some ⟨b9, o9, none⟩) 1 c9, W, ?_, Below.refl _ _, rfl⟩
            go_simp
          | 17, ho =>
            obtain rfl := Option.some.inj ho
            have e16 : a.tmps.getD 114 undef = .slice (some ⟨b9, o9, none⟩) 1 c9 := hin 16 114 rfl (by kernel_rfl)
            refine .inl ⟨.int .i64 1, W, ?_, Below.refl _ _, rfl⟩
            go_simp
          | 18, ho =>
            obtain rfl := Option.some.inj ho
            have e17 : a.tmps.getD 115 undef = .int .i64 1 := hin 17 115 rfl (by kernel_rfl)
            refine .inl ⟨.bool false, W, ?_, Below.refl _ _, rfl⟩
            go_simp
          | 19, ho =>
            obtain rfl := Option.some.inj ho
            have e15 : a.tmps.getD 113 undef = .bool false := hin 15 113 rfl (by kernel_rfl)
            have e18 : a.tmps.getD 116 undef = .bool false := hin 18 116 rfl (by kernel_rfl)
            refine .inl ⟨.bool false, W, ?_, Below.refl _ _, rfl⟩
            go_simp
          | 20, ho =>
            obtain rfl := Option.some.inj ho
            have e19 : a.tmps.getD 117 undef = .bool false := hin 19 117 rfl (by kernel_rfl)
            refine .inl ⟨.bool false, W, ?_, Below.refl _ _, rfl⟩
            go_simp
          | 21, ho =>
            obtain rfl := Option.some.inj ho
            have s21 : a.tmps.getD 21 undef = .slice (some ⟨b10, o10, none⟩) 1 c10 := hout 21 (noDst_spec (by kernel_rfl))
            refine .inl ⟨.slice (some ⟨b10, o10, none⟩) 1 c10, W, ?_, Below.refl _ _, rfl⟩
            go_simp
          | 22, ho =>
            obtain rfl := Option.some.inj ho
            have e21 : a.tmps.getD 119 undef = .slice (some ⟨b10, o10, none⟩) 1 c10 := hin 21 119 rfl (by kernel_rfl)
            refine .inl ⟨.int .i64 1, W, ?_, Below.refl _ _, rfl⟩
            go_simp
          | 23, ho =>
            obtain rfl := Option.some.inj ho
            have e22 : a.tmps.getD 120 undef = .int .i64 1 := hin 22 120 rfl (by kernel_rfl)
            refine .inl ⟨.bool false, W, ?_, Below.refl _ _, rfl⟩
            go_simp
          | 24, ho =>
            obtain rfl := Option.some.inj ho
            have e20 : a.tmps.getD 118 undef = .bool false := hin 20 118 rfl (by kernel_rfl)
            have e23 : a.tmps.getD 121 undef = .bool false := hin 23 121 rfl (by kernel_rfl)
            refine .inl ⟨.bool false, W, ?_, Below.refl _ _, rfl⟩
            go_simp
          | 25, ho =>
            obtain rfl := Option.some.inj ho
            have e24 : a.tmps.getD 122 undef = .bool false := hin 24 122 rfl (by kernel_rfl)
            refine .inl ⟨.bool false, W, ?_, Below.refl _ _, rfl⟩
            go_simp
          | 26, ho =>
            obtain rfl := Option.some.inj ho
            have s9 : a.tmps.getD 9 undef = .int .i64 op := hout 9 (noDst_spec (by kernel_rfl))
            refine .inl ⟨.int .i64 op, W, ?_, Below.refl _ _, rfl⟩
            go_simp
          | 27, ho =>
            obtain rfl := Option.some.inj ho
            have s17 : a.tmps.getD 17 undef = .slice (some ⟨b8, o8, none⟩) 1 c8 := hout 17 (noDst_spec (by kernel_rfl))
            refine .inl ⟨.slice (some ⟨b8, o8, none⟩) 1 c8, W, ?_, Below.refl _ _, rfl⟩
            go_simp
          | 28, ho =>
            obtain rfl := Option.some.inj ho
            have e27 : a.tmps.getD 125 undef = .slice (some ⟨b8, o8, none⟩) 1 c8 := hin 27 125 rfl (by kernel_rfl)
            refine .inl ⟨.pointer (some ⟨b8, o8, none⟩), W, ?_, Below.refl _ _, rfl⟩
            go_simp
          | 29, ho =>
            obtain rfl := Option.some.inj ho
            have e28 : a.tmps.getD 126 undef = .pointer (some ⟨b8, o8, none⟩) := hin 28 126 rfl (by kernel_rfl)
            have q0 : W.cell? ⟨b8, o8, none⟩ = some (.int .i64 X) := (hW.cell (p := ⟨b8, o8, none⟩) hb8).trans hq8
            refine .inl ⟨.int .i64 X, W, ?_, Below.refl _ _, rfl⟩
            go_simp
          | 30, ho =>
            obtain rfl := Option.some.inj ho
            have s19 : a.tmps.getD 19 undef = .slice (some ⟨b9, o9, none⟩) 1 c9 := hout 19 (noDst_spec (by kernel_rfl))
            refine .inl ⟨.slice (some ⟨b9, o9, none⟩) 1 c9, W, ?_, Below.refl _ _, rfl⟩
            go_simp
          | 31, ho =>
            obtain rfl := Option.some.inj ho
            have e30 : a.tmps.getD 128 undef = .slice (some ⟨b9, o9, none⟩) 1 c9 := hin 30 128 rfl (by kernel_rfl)
            refine .inl ⟨.pointer (some ⟨b9, o9, none⟩), W, ?_, Below.refl _ _, rfl⟩
            go_simp
          | 32, ho =>
            obtain rfl := Option.some.inj ho
            have e31 : a.tmps.getD 129 undef = .pointer (some ⟨b9, o9, none⟩) := hin 31 129 rfl (by kernel_rfl)
            have q0 : W.cell? ⟨b9, o9, none⟩ = some (.int .i64 Y) := (hW.cell (p := ⟨b9, o9, none⟩) hb9).trans hq9
            refine .inl ⟨.int .i64 Y, W, ?_, Below.refl _ _, rfl⟩
            go_simp
          | 33, ho =>
            obtain rfl := Option.some.inj ho
            have e26 : a.tmps.getD 124 undef = .int .i64 op := hin 26 124 rfl (by kernel_rfl)
            have e29 : a.tmps.getD 127 undef = .int .i64 X := hin 29 127 rfl (by kernel_rfl)
            have e32 : a.tmps.getD 130 undef = .int .i64 Y := hin 32 130 rfl (by kernel_rfl)
            refine .inr ⟨25, #[.int .i64 op, .int .i64 X, .int .i64 Y], W, ?_, ?_⟩
            · go_simp
            · refine (CV.out W).mono ?_
              rintro e W' ⟨rfl, hB⟩
              exact ⟨_, rfl, hB, rfl⟩
          | 34, ho =>
            obtain rfl := Option.some.inj ho
            have s21 : a.tmps.getD 21 undef = .slice (some ⟨b10, o10, none⟩) 1 c10 := hout 21 (noDst_spec (by kernel_rfl))
            refine .inl ⟨.slice (some ⟨b10, o10, none⟩) 1 c10, W, ?_, Below.refl _ _, rfl⟩
            go_simp
          | 35, ho =>
            obtain rfl := Option.some.inj ho
            have e34 : a.tmps.getD 132 undef = .slice (some ⟨b10, o10, none⟩) 1 c10 := hin 34 132 rfl (by kernel_rfl)
            refine .inl ⟨.pointer (some ⟨b10, o10, none⟩), W, ?_, Below.refl _ _, rfl⟩
            go_simp
          | 36, ho =>
            obtain rfl := Option.some.inj ho
            have e35 : a.tmps.getD 133 undef = .pointer (some ⟨b10, o10, none⟩) := hin 35 133 rfl (by kernel_rfl)
            have q0 : W.cell? ⟨b10, o10, none⟩ = some (.int .i64 V) := (hW.cell (p := ⟨b10, o10, none⟩) hb10).trans hq10
            refine .inl ⟨.int .i64 V, W, ?_, Below.refl _ _, rfl⟩
            go_simp
          | 37, ho =>
            obtain rfl := Option.some.inj ho
            have e33 : a.tmps.getD 131 undef = .int .i64 V := hin 33 131 rfl (by kernel_rfl)
            have e36 : a.tmps.getD 134 undef = .int .i64 V := hin 36 134 rfl (by kernel_rfl)
            refine .inl ⟨.bool false, W, ?_, Below.refl _ _, rfl⟩
            go_simp
          | 38, ho =>
            obtain rfl := Option.some.inj ho
            have e25 : a.tmps.getD 123 undef = .bool false := hin 25 123 rfl (by kernel_rfl)
            have e37 : a.tmps.getD 135 undef = .bool false := hin 37 135 rfl (by kernel_rfl)
            refine .inl ⟨.bool false, W, ?_, Below.refl _ _, rfl⟩
            go_simp
          | iK + 39, ho => cases ho
        intro W1 hW1
        subst hVS
        simp only [putAll, Act.put, List.setIfInBounds_toArray, List.set_cons_zero, List.set_cons_succ]
        clear CV HXw HYw HV2 hq8 hq9 hq10 hb8 hb9 hb10 hs8 hs9 hs10
        replace hs4 := hs4.step hW1
        replace hs5 := hs5.step hW1
        replace hs6 := hs6.step hW1
        replace hs7 := hs7.step hW1
        replace hB := hB.trans (hW1.mono hB.size)
        clear hW1
        have HZ2 : Hid (Segs ab (Zq ++ [(NB : Int)])) := Lib.hid (by have := segs_snoc b HZZ.out (by rw [HK.out]; omega) (by rw [HN.out, HNB.out]; omega); rw [HAB.out, HNB.out] at this; exact this)
        have hkb : kpK (ahL (doN op) (neN op)) ab (Zq ++ [(NB : Int)]) (Zq ++ [(NB : Int)]).length = kpK (ahL (doN op) (neN op)) a Zq Zq.length ++ ahL (doN op) (neN op) b := by have := kp_snoc (ahL (doN op) (neN op)) a b Zq HZZ.out; rw [HAB.out, HNB.out] at this; exact this
        have CP := scan_segs HaB.out a Zq N K HN.out HK.out Haw.out HZZ.out
        have CT := thru_segs HaB.out a Zq N K HN.out HK.out Haw.out HZZ.out
        have CO := scan_one HaB.out b NB HNB.out Hbw.out (by omega)
        have CB := scan_segs HaB.out ab (Zq ++ [(NB : Int)]) Q (K + 1) HQ.out (by rw [List.length_append, HK.out]; rfl) HABw.out HZ2.out
        rw [hkb] at CB
        have hOWl : (kpK (ahL (doN op) (neN op)) a Zq Zq.length).length = N := by rw [HZZ.out.kp_len (f := ahL (doN op) (neN op)) (fun s => mk_length _ _) _ (Nat.le_refl _), HZZ.out.ofs_all, HN.out]
        have hOTl : (ahL (doN op) (neN op) b).length = NB := (mk_length _ _).trans HNB.out
        have hTHl : (kpK (upL' (doN op) (neN op)) a Zq Zq.length).length = N := by rw [HZZ.out.kp_len (f := upL' (doN op) (neN op)) (fun s => mk_length _ _) _ (Nat.le_refl _), HZZ.out.ofs_all, HN.out]
        have HAT : Hid (∀ k, k < N → doN op (nth (kpK (ahL (doN op) (neN op)) a Zq Zq.length) k) (nth a k) = nth (kpK (upL' (doN op) (neN op)) a Zq Zq.length) k ∧ isW (nth (kpK (ahL (doN op) (neN op)) a Zq Zq.length) k) ∧ isW (nth a k)) := Lib.hid (fun k hk => ⟨by
          rw [kp_thru (doN op) (neN op) HZZ.out _ (Nat.le_refl _), nth_mk _ _ _ (by rw [HZZ.out.ofs_all, HN.out]; exact hk)], (kp_word HM.out Haw.out Zq _).at k, Haw.out.at k⟩)
        obtain ⟨OW, hOW⟩ : ∃ OW, kpK (ahL (doN op) (neN op)) a Zq Zq.length = OW := ⟨_, rfl⟩
        obtain ⟨OT, hOT⟩ : ∃ OT, ahL (doN op) (neN op) b = OT := ⟨_, rfl⟩
        obtain ⟨TH, hTH⟩ : ∃ TH, kpK (upL' (doN op) (neN op)) a Zq Zq.length = TH := ⟨_, rfl⟩
        rw [hTH] at CT hTHl HAT
        rw [hOT] at CO hOTl CB
        rw [hOW] at CP hOWl HAT CB
        have hOBl : (OW ++ OT).length = Q := by rw [List.length_append, hOWl, hOTl]; exact HQN.out
        have CP := Lib.hid CP; have CT := Lib.hid CT; have CO := Lib.hid CO; have CB := Lib.hid CB
        have HOWl := Lib.hid hOWl; have HOTl := Lib.hid hOTl; have HTHl := Lib.hid hTHl; have HOBl := Lib.hid hOBl
        have hZ200 : Zq.length ≤ 201 := by rw [HK.out]; exact hZ2
        clear hkb hOWl hOTl hTHl hOBl hOW hOT hTH HZ2
        go_wp2_with fail
        refine (CP.out A4 A6 c6 c4 _ (hI.below hB) hs4 hc4 hs6 hc6).mono ?_
        rintro e w9 ⟨A11, c11, rfl, hc11, hs11, hBx⟩
        rw [HOWl.out] at hc11 ⊢
        replace hs4 := hs4.step hBx
        replace hs5 := hs5.step hBx
        replace hs6 := hs6.step hBx
        replace hs7 := hs7.step hBx
        replace hB := hB.trans (hBx.mono hB.size)
        clear hBx CP
        have bN := Blk.new w9 3 #[.int .i64 (NB : Int)]
        replace hB := hB.alloc hB.size (.cells #[.int .i64 (NB : Int)] 3)
        replace hs4 := hs4.al (.cells #[.int .i64 (NB : Int)] 3)
        replace hs5 := hs5.al (.cells #[.int .i64 (NB : Int)] 3)
        replace hs6 := hs6.al (.cells #[.int .i64 (NB : Int)] 3)
        replace hs7 := hs7.al (.cells #[.int .i64 (NB : Int)] 3)
        replace hs11 := hs11.al (.cells #[.int .i64 (NB : Int)] 3)
        go_wp2_with fail
        refine (CO.out A5 (some ⟨w9.heap.size, 0, none⟩) 1 c5 _ (hI.below hB) hs5 hc5 (sl_one bN) (by omega)).mono ?_
        rintro e w10 ⟨A12, c12, rfl, hc12, hs12, hBx⟩
        rw [HOTl.out] at hc12 ⊢
        replace hs4 := hs4.step hBx
        replace hs5 := hs5.step hBx
        replace hs6 := hs6.step hBx
        replace hs7 := hs7.step hBx
        replace hs11 := hs11.step hBx
        replace hB := hB.trans (hBx.mono hB.size)
        clear hBx CO bN
        have CC := copy_gen A6 c6 Zq w10 hs6 (by omega)
        rw [HK.out] at CC
        have CC := Lib.hid CC
        go_wp2_with fail
        refine CC.out.mono ?_
        rintro e w11 ⟨v13, rfl, hown, hBr⟩
        go_wp2_with (at_builtin; refine wpList_append_own _ rfl _ _ 22 rfl w10.heap.size 3 i0 (.int .i64 0) 1 8 Tryd.underlying22 hi hzz0 hzz1 hzz2 rfl (by decide) _ _ _ rfl (hown.alloc _) ⟨_, 0, none⟩ 1 1 [.int .i64 NB] rfl rfl (cell_one_new _ _ _) (by simp [Value.oneCell']) (by unfold maxLen; omega) (by omega) (by have := hBr.size; simp; omega) ?_; intro v' w2' hown' hgrow _; have hBx := below_append hBr hBr.size hown hgrow)
        have hown2 := OwnI.snoc hown'
        clear hown' hgrow hown hBr CC
        obtain ⟨A13, c13, rfl, hc13, hs13⟩ := hown2.form
        rw [show (Zq ++ [(NB : Int)]).length = K + 1 by rw [List.length_append, HK.out]; rfl] at hc13 ⊢
        clear hown2
        replace hs4 := hs4.step hBx
        replace hs5 := hs5.step hBx
        replace hs6 := hs6.step hBx
        replace hs7 := hs7.step hBx
        replace hs11 := hs11.step hBx
        replace hs12 := hs12.step hBx
        replace hB := hB.trans (hBx.mono hB.size)
        clear hBx
        go_wp2_with fail
        refine (CB.out A7 A13 c13 c7 _ (hI.below hB) hs7 hc7 hs13 hc13).mono ?_
        rintro e w12 ⟨A14, c14, rfl, hc14, hs14, hBx⟩
        rw [HOBl.out] at hc14 ⊢
        replace hs4 := hs4.step hBx
        replace hs5 := hs5.step hBx
        replace hs6 := hs6.step hBx
        replace hs7 := hs7.step hBx
        replace hs11 := hs11.step hBx
        replace hs12 := hs12.step hBx
        replace hB := hB.trans (hBx.mono hB.size)
        clear hBx CB hs13
        go_wp2_with fail
        refine (CT.out A4 A6 c6 c4 _ (hI.below hB) hs4 hc4 hs6 hc6).mono ?_
        rintro e w13 ⟨A15, c15, rfl, hc15, hs15, hBx⟩
        rw [HTHl.out] at hc15 ⊢
        replace hs4 := hs4.step hBx
        replace hs5 := hs5.step hBx
        replace hs6 := hs6.step hBx
        replace hs7 := hs7.step hBx
        replace hs11 := hs11.step hBx
        replace hs12 := hs12.step hBx
        replace hs14 := hs14.step hBx
        replace hB := hB.trans (hBx.mono hB.size)
        clear hBx CT
        go_wp2_with fail
        have CC := copy_gen A11 c11 OW w13 hs11 (by rw [HOWl.out]; omega)
        rw [HOWl.out] at CC
        have CC := Lib.hid CC
        refine CC.out.mono ?_
        rintro e w14 ⟨v16, rfl, hown4, hBc⟩
        have hs12c := hs12.step hBc
        have hszc := hBc.size
        have hNN := Lib.hid (show OW.length + OT.length ≤ 1000000 by rw [HOWl.out, HOTl.out]; omega)
        have hx12 := Lib.hid (show Value.slice A12 NB c12 = .slice A12 OT.length c12 by rw [HOTl.out])
        go_wp2_with (at_builtin; refine wpList_unguard (by kernel_rfl) ?_; refine wpList_append_sl rfl _ _ rfl w13.heap.size _ OW rfl hown4 A12 c12 OT hx12.out hs12c hNN.out hBc hszc ?_; intro v17 w15 hown5 hBx)
        obtain ⟨A16, c16, rfl, hc16, hs16⟩ := hown5.form
        rw [HOBl.out] at hc16 ⊢
        clear hown4 hown5 hBc hs12c hszc hx12 hNN CC
        replace hs4 := hs4.step hBx
        replace hs11 := hs11.step hBx
        replace hs14 := hs14.step hBx
        replace hs15 := hs15.step hBx
        replace hB := hB.trans (hBx.mono hB.size)
        clear hBx
        go_wp2_with fail
        refine (eq_lit A14 A16 c14 c16 Q (OW ++ OT) _ HOBl.out hs14 hs16 (by rw [HOBl.out]; omega)).mono ?_
        rintro e w16 ⟨rfl, hBx⟩
        replace hs4 := hs4.step hBx
        replace hs11 := hs11.step hBx
        replace hs15 := hs15.step hBx
        replace hB := hB.trans (hBx.mono hB.size)
        clear hBx hs14 hs16 hs12 hs5 hs6 hs7
        go_wp2
        go_loopw [28] (fun i wq => ∃ k : Nat, k ≤ N ∧ i = .int .i64 k ∧ Below w16.heap.size w16 wq) (fun i _ => N - (intOf i).toNat)
        case atStart => exact ⟨0, Nat.zero_le _, rfl, Below.refl _ _⟩
        case round =>
          obtain ⟨k, hk, rfl, hX⟩ := hrel
          by_cases hlt : k < N
          · obtain ⟨hv1, hx1, hx2⟩ := HAT.out k hlt
            obtain ⟨b1, o1, rfl, hb1, hq1⟩ := (hs11.step hX).at_ (k := k) (by rw [HOWl.out]; exact hlt)
            obtain ⟨b2, o2, rfl, hb2, hq2⟩ := (hs4.step hX).at_ (k := k) (by rw [HN.out]; exact hlt)
            obtain ⟨b3, o3, rfl, hb3, hq3⟩ := (hs15.step hX).at_ (k := k) (by rw [HTHl.out]; exact hlt)
            obtain ⟨x1, hx1'⟩ : ∃ x1, nth OW k = x1 := ⟨_, rfl⟩
            obtain ⟨x2, hx2'⟩ : ∃ x2, nth a k = x2 := ⟨_, rfl⟩
            obtain ⟨x3, hx3'⟩ : ∃ x3, nth TH k = x3 := ⟨_, rfl⟩
            rw [hx1'] at hq1 hv1 hx1
            rw [hx2'] at hq2 hv1 hx2
            rw [hx3'] at hq3 hv1
            have CV := fun W => value_ok HaB.out hx1 hx2 W
            rw [hv1] at CV
            have CV := Lib.hid CV
            have q2 : (0 : Int) ≤ (k : Int) := by omega
            have q3 : (k : Int) < (N : Int) := by omega
            clear hx1 hx2 hx1' hx2' hx3' hv1 hlt hk
            go_wp2
            obtain ⟨VS, hVS⟩ : ∃ VS : List Value, VS = [.int .i64 op, .slice (some ⟨b1, o1, none⟩) N c11, .int .i64 (k : Int), .pointer (some ⟨b1, o1 + k, none⟩), .int .i64 x1, .slice (some ⟨b2, o2, none⟩) N c4, .int .i64 (k : Int), .pointer (some ⟨b2, o2 + k, none⟩), .int .i64 x2, .int .i64 x3, .slice (some ⟨b3, o3, none⟩) N c15, .int .i64 (k : Int), .pointer (some ⟨b3, o3 + k, none⟩), .int .i64 x3, .bool false] := ⟨_, rfl⟩
            refine wp_region_owv VS (by kernel_rfl) (by kernel_rfl) (by rw [hVS]; rfl) ?_ ?_ ?_
            · subst hVS
              exact v_guard (by kernel_rfl)
            · intro iK oK ho a W hW hdf hin hout
              subst hVS
              match iK, ho with
              | 0, ho =>
                obtain rfl := Option.some.inj ho
                have s9 : a.tmps.getD 9 undef = .int .i64 op := hout 9 (noDst_spec (by kernel_rfl))
                refine .inl ⟨.int .i64 op, W, ?_, Below.refl _ _, rfl⟩
                go_simp
              | 1, ho =>
                obtain rfl := Option.some.inj ho
                have s23 : a.tmps.getD 23 undef = .slice (some ⟨b1, o1, none⟩) N c11 := hout 23 (noDst_spec (by kernel_rfl))
                refine .inl ⟨.slice (some ⟨b1, o1, none⟩) N c11, W, ?_, Below.refl _ _, rfl⟩
                go_simp
              | 2, ho =>
                obtain rfl := Option.some.inj ho
                have s28 : a.tmps.getD 28 undef = .int .i64 (k : Int) := hout 28 (noDst_spec (by kernel_rfl))
                refine .inl ⟨.int .i64 (k : Int), W, ?_, Below.refl _ _, rfl⟩
                go_simp
              | 3, ho =>
                obtain rfl := Option.some.inj ho
                have e1 : a.tmps.getD 216 undef = .slice (some ⟨b1, o1, none⟩) N c11 := hin 1 216 rfl (by kernel_rfl)
                have e2 : a.tmps.getD 217 undef = .int .i64 (k : Int) := hin 2 217 rfl (by kernel_rfl)
                refine .inl ⟨.pointer (some ⟨b1, o1 + k, none⟩), W, ?_, Below.refl _ _, rfl⟩
                go_simp
              | 4, ho =>
                obtain rfl := Option.some.inj ho
                have e3 : a.tmps.getD 218 undef = .pointer (some ⟨b1, o1 + k, none⟩) := hin 3 218 rfl (by kernel_rfl)
                have q0 : W.cell? ⟨b1, o1 + k, none⟩ = some (.int .i64 x1) := (hW.cell (p := ⟨b1, o1 + k, none⟩) hb1).trans hq1
                refine .inl ⟨.int .i64 x1, W, ?_, Below.refl _ _, rfl⟩
                go_simp
              | 5, ho =>
                obtain rfl := Option.some.inj ho
                have s10 : a.tmps.getD 10 undef = .slice (some ⟨b2, o2, none⟩) N c4 := hout 10 (noDst_spec (by kernel_rfl))
                refine .inl ⟨.slice (some ⟨b2, o2, none⟩) N c4, W, ?_, Below.refl _ _, rfl⟩
                go_simp
              | 6, ho =>
                obtain rfl := Option.some.inj ho
                have s28 : a.tmps.getD 28 undef = .int .i64 (k : Int) := hout 28 (noDst_spec (by kernel_rfl))
                refine .inl ⟨.int .i64 (k : Int), W, ?_, Below.refl _ _, rfl⟩
                go_simp
              | 7, ho =>
                obtain rfl := Option.some.inj ho
                have e5 : a.tmps.getD 220 undef = .slice (some ⟨b2, o2, none⟩) N c4 := hin 5 220 rfl (by kernel_rfl)
                have e6 : a.tmps.getD 221 undef = .int .i64 (k : Int) := hin 6 221 rfl (by kernel_rfl)
                refine .inl ⟨.pointer (some ⟨b2, o2 + k, none⟩), W, ?_, Below.refl _ _, rfl⟩
                go_simp
              | 8, ho =>
                obtain rfl := Option.some.inj ho
                have e7 : a.tmps.getD 222 undef = .pointer (some ⟨b2, o2 + k, none⟩) := hin 7 222 rfl (by kernel_rfl)
                have q0 : W.cell? ⟨b2, o2 + k, none⟩ = some (.int .i64 x2) := (hW.cell (p := ⟨b2, o2 + k, none⟩) hb2).trans hq2
                refine .inl ⟨.int .i64 x2, W, ?_, Below.refl _ _, rfl⟩
                go_simp
              | 9, ho =>
                obtain rfl := Option.some.inj ho
                have e0 : a.tmps.getD 215 undef = .int .i64 op := hin 0 215 rfl (by kernel_rfl)
                have e4 : a.tmps.getD 219 undef = .int .i64 x1 := hin 4 219 rfl (by kernel_rfl)
                have e8 : a.tmps.getD 223 undef = .int .i64 x2 := hin 8 223 rfl (by kernel_rfl)
                refine .inr ⟨25, #[.int .i64 op, .int .i64 x1, .int .i64 x2], W, ?_, ?_⟩
                · go_simp
                · refine (CV.out W).mono ?_
                  rintro e W' ⟨rfl, hB⟩
                  exact ⟨_, rfl, hB, rfl⟩
              | 10, ho =>
                obtain rfl := Option.some.inj ho
                have s26 : a.tmps.getD 26 undef = .slice (some ⟨b3, o3, none⟩) N c15 := hout 26 (noDst_spec (by kernel_rfl))
                refine .inl ⟨.slice (some ⟨b3, o3, none⟩) N c15, W, ?_, Below.refl _ _, rfl⟩
                go_simp
              | 11, ho =>
                obtain rfl := Option.some.inj ho
                have s28 : a.tmps.getD 28 undef = .int .i64 (k : Int) := hout 28 (noDst_spec (by kernel_rfl))
                refine .inl ⟨.int .i64 (k : Int), W, ?_, Below.refl _ _, rfl⟩
                go_simp
              | 12, ho =>
                obtain rfl := Option.some.inj ho
                have e10 : a.tmps.getD 225 undef = .slice (some ⟨b3, o3, none⟩) N c15 := hin 10 225 rfl (by kernel_rfl)
                have e11 : a.tmps.getD 226 undef = .int .i64 (k : Int) := hin 11 226 rfl (by kernel_rfl)
                refine .inl ⟨.pointer (some ⟨b3, o3 + k, none⟩), W, ?_, Below.refl _ _, rfl⟩
                go_simp
              | 13, ho =>
                obtain rfl := Option.some.inj ho
                have e12 : a.tmps.getD 227 undef = .pointer (some ⟨b3, o3 + k, none⟩) := hin 12 227 rfl (by kernel_rfl)
                have q0 : W.cell? ⟨b3, o3 + k, none⟩ = some (.int .i64 x3) := (hW.cell (p := ⟨b3, o3 + k, none⟩) hb3).trans hq3
                refine .inl ⟨.int .i64 x3, W, ?_, Below.refl _ _, rfl⟩
                go_simp
              | 14, ho =>
                obtain rfl := Option.some.inj ho
                have e9 : a.tmps.getD 224 undef = .int .i64 x3 := hin 9 224 rfl (by kernel_rfl)
                have e13 : a.tmps.getD 228 undef = .int .i64 x3 := hin 13 228 rfl (by kernel_rfl)
                refine .inl ⟨.bool false, W, ?_, Below.refl _ _, rfl⟩
                go_simp
              | iK + 15, ho => cases ho
            intro W1 hW1
            subst hVS
            simp only [putAll, Act.put, List.setIfInBounds_toArray, List.set_cons_zero, List.set_cons_succ]
            clear CV
            go_wp2
            go_roundw
            case rel => exact ⟨k + 1, by omega, by go_num, hX.trans (hW1.mono hX.size)⟩
            case measure => simp [intOf]; omega
          · obtain rfl : k = N := by omega
            have hBe := hB.trans (hX.mono hB.size)
            go_wp2_with fail
            refine (joined_any _ (hI.below hBe)).mono ?_
            rintro e w17 ⟨rfl, hBx⟩
            go_wp2
            go_ret
            exact ⟨rfl, hBe.trans (hBx.mono hBe.size)⟩
      · obtain rfl : L = 0 := by omega
        have hZ2 : Z.length ≤ 201 := by omega
        clear hgo hZl hj hL hL0 hL1
        have HZZ := Lib.hid (show Segs a Z from Lens.segs (by rw [HN.out]; exact HLn.out) (by omega) (by have := HN.out; omega))
        obtain ⟨A6, c6, rfl, hc6, hs6⟩ := hown.form
        clear hown HLn
        obtain ⟨NB, hNB⟩ : ∃ NB, b.length = NB := ⟨_, rfl⟩
        have HNB := Lib.hid hNB
        rw [hNB] at hc5 hb60 ⊢
        clear hNB
        obtain ⟨K, hK⟩ : ∃ K, Z.length = K := ⟨_, rfl⟩
        have HK := Lib.hid hK
        rw [hK] at hc6 hZ2 ⊢
        clear hK
        have CC := copy_gen A4 c4 a wr hs4 (by rw [HN.out]; omega)
        rw [HN.out] at CC
        have CC := Lib.hid CC
        go_wp2_with fail
        refine CC.out.mono ?_
        rintro e w4 ⟨v4, rfl, hown4, hBc⟩
        have hs5c := hs5.step hBc
        have hszc := hBc.size
        obtain ⟨ab, hab⟩ : ∃ ab, a ++ b = ab := ⟨_, rfl⟩
        have hlab : ab.length = N + NB := by rw [← hab, List.length_append, HN.out, HNB.out]
        have HAB := Lib.hid hab
        have HLAB := Lib.hid hlab
        clear CC hab hlab
        have hNN := Lib.hid (show a.length + b.length ≤ 1000000 by rw [HN.out, HNB.out]; omega)
        have hx5 := Lib.hid (show Value.slice A5 NB c5 = .slice A5 b.length c5 by rw [HNB.out])
        go_wp2_with (at_builtin; refine wpList_append_sl rfl _ _ rfl wr.heap.size _ a rfl hown4 A5 c5 b hx5.out hs5c hNN.out hBc hszc ?_; intro v5 w5 hown5 hBx)
        replace hs4 := hs4.step hBx
        replace hs5 := hs5.step hBx
        replace hs6 := hs6.step hBx
        replace hB := hB.trans (hBx.mono hB.size)
        rw [HAB.out] at hown5
        obtain ⟨A7, c7, rfl, hc7, hs7⟩ := hown5.form
        obtain ⟨Q, hQ⟩ : ∃ Q, N + NB = Q := ⟨_, rfl⟩
        have HQ : Hid (ab.length = Q) := Lib.hid (HLAB.out.trans hQ)
        have hQ120 : Q ≤ 120 := by omega
        have HQN := Lib.hid hQ
        rw [HQ.out] at hc7 ⊢
        clear hown4 hown5 hBc hs5c hszc hBx hx5 hNN hQ
        have HABw : Hid (Wds ab) := Lib.hid (by rw [← HAB.out]; exact wds_app Haw.out Hbw.out)
        have CFa := fold_one HaB.out a N HN.out Haw.out (by omega)
        have CFb := fold_one HaB.out b NB HNB.out Hbw.out (by omega)
        have CFc := fold_one HaB.out ab Q HQ.out HABw.out (by omega)
        have HV2 : doN op (scN (doN op) (neN op) a N) (scN (doN op) (neN op) b NB) = scN (doN op) (neN op) ab Q := by
          have := HV.out
          rw [HAB.out, HQ.out, HN.out, HNB.out] at this
          exact this
        obtain ⟨X, hX⟩ : ∃ X, scN (doN op) (neN op) a N = X := ⟨_, rfl⟩
        obtain ⟨Y, hY⟩ : ∃ Y, scN (doN op) (neN op) b NB = Y := ⟨_, rfl⟩
        obtain ⟨V, hV⟩ : ∃ V, scN (doN op) (neN op) ab Q = V := ⟨_, rfl⟩
        have HXw : Hid (isW X) := Lib.hid (by rw [← hX]; exact HM.out.sc Haw.out HM.out.one _)
        have HYw : Hid (isW Y) := Lib.hid (by rw [← hY]; exact HM.out.sc Hbw.out HM.out.one _)
        rw [hX, hY, hV] at HV2
        rw [hX] at CFa
        rw [hY] at CFb
        rw [hV] at CFc
        clear hX hY hV
        have HV2 := Lib.hid HV2; have CFa := Lib.hid CFa; have CFb := Lib.hid CFb; have CFc := Lib.hid CFc
        clear HV
        have bN := Blk.new w5 3 #[.int .i64 (N : Int)]
        replace hB := hB.alloc hB.size (.cells #[.int .i64 (N : Int)] 3)
        replace hs4 := hs4.al (.cells #[.int .i64 (N : Int)] 3)
        replace hs5 := hs5.al (.cells #[.int .i64 (N : Int)] 3)
        replace hs6 := hs6.al (.cells #[.int .i64 (N : Int)] 3)
        replace hs7 := hs7.al (.cells #[.int .i64 (N : Int)] 3)
        go_wp2_with fail
        refine (CFa.out A4 (some ⟨w5.heap.size, 0, none⟩) 1 c4 _ (hI.below hB) hs4 hc4 (sl_one bN) (by omega)).mono ?_
        rintro e w6 ⟨A8, c8, rfl, hc8, hs8, hBx⟩
        rw [List.length_singleton] at hc8 ⊢
        replace hs4 := hs4.step hBx
        replace hs5 := hs5.step hBx
        replace hs6 := hs6.step hBx
        replace hs7 := hs7.step hBx
        replace hB := hB.trans (hBx.mono hB.size)
        clear hBx bN
        have bN := Blk.new w6 3 #[.int .i64 (NB : Int)]
        replace hB := hB.alloc hB.size (.cells #[.int .i64 (NB : Int)] 3)
        replace hs4 := hs4.al (.cells #[.int .i64 (NB : Int)] 3)
        replace hs5 := hs5.al (.cells #[.int .i64 (NB : Int)] 3)
        replace hs6 := hs6.al (.cells #[.int .i64 (NB : Int)] 3)
        replace hs7 := hs7.al (.cells #[.int .i64 (NB : Int)] 3)
        replace hs8 := hs8.al (.cells #[.int .i64 (NB : Int)] 3)
        go_wp2_with fail
        refine (CFb.out A5 (some ⟨w6.heap.size, 0, none⟩) 1 c5 _ (hI.below hB) hs5 hc5 (sl_one bN) (by omega)).mono ?_
        rintro e w7 ⟨A9, c9, rfl, hc9, hs9, hBx⟩
        rw [List.length_singleton] at hc9 ⊢
        replace hs4 := hs4.step hBx
        replace hs5 := hs5.step hBx
        replace hs6 := hs6.step hBx
        replace hs7 := hs7.step hBx
        replace hs8 := hs8.step hBx
        replace hB := hB.trans (hBx.mono hB.size)
        clear hBx bN
        have bN := Blk.new w7 3 #[.int .i64 (Q : Int)]
        replace hB := hB.alloc hB.size (.cells #[.int .i64 (Q : Int)] 3)
        replace hs4 := hs4.al (.cells #[.int .i64 (Q : Int)] 3)
        replace hs5 := hs5.al (.cells #[.int .i64 (Q : Int)] 3)
        replace hs6 := hs6.al (.cells #[.int .i64 (Q : Int)] 3)
        replace hs7 := hs7.al (.cells #[.int .i64 (Q : Int)] 3)
        replace hs8 := hs8.al (.cells #[.int .i64 (Q : Int)] 3)
        replace hs9 := hs9.al (.cells #[.int .i64 (Q : Int)] 3)
        go_wp2_with fail
        refine (CFc.out A7 (some ⟨w7.heap.size, 0, none⟩) 1 c7 _ (hI.below hB) hs7 hc7 (sl_one bN) (by omega)).mono ?_
        rintro e w8 ⟨A10, c10, rfl, hc10, hs10, hBx⟩
        rw [List.length_singleton] at hc10 ⊢
        replace hs4 := hs4.step hBx
        replace hs5 := hs5.step hBx
        replace hs6 := hs6.step hBx
        replace hs7 := hs7.step hBx
        replace hs8 := hs8.step hBx
        replace hs9 := hs9.step hBx
        replace hB := hB.trans (hBx.mono hB.size)
        clear hBx bN CFa CFb CFc
        have CV := fun W => value_ok HaB.out HXw.out HYw.out W
        rw [HV2.out] at CV
        have CV := Lib.hid CV
        obtain ⟨b8, o8, rfl, hb8, hq8⟩ := hs8.at_ (k := 0) (by simp)
        obtain ⟨b9, o9, rfl, hb9, hq9⟩ := hs9.at_ (k := 0) (by simp)
        obtain ⟨b10, o10, rfl, hb10, hq10⟩ := hs10.at_ (k := 0) (by simp)
        replace hq8 : w8.cell? ⟨b8, o8, none⟩ = some (.int .i64 X) := hq8
        replace hq9 : w8.cell? ⟨b9, o9, none⟩ = some (.int .i64 Y) := hq9
        replace hq10 : w8.cell? ⟨b10, o10, none⟩ = some (.int .i64 V) := hq10
        go_wp2_with fail
        obtain ⟨VS, hVS⟩ : ∃ VS : List Value, VS = [.int .i64 0, .bool false, .bool false, .int .i64 0, .bool false, .bool false, .bool false, .int .i64 0, .bool false, .bool false, .bool false, .slice (some ⟨b8, o8, none⟩) 1 c8, .int .i64 1, .bool false, .bool false, .bool false, .slice (some ⟨b9, o9, none⟩) 1 c9, .int .i64 1, .bool false, .bool false, .bool false, .slice (some ⟨b10, o10, none⟩) 1 c10, .int .i64 1, .bool false, .bool false, .bool false, .int .i64 op, .slice (some ⟨b8, o8, none⟩) 1 c8, .pointer (some ⟨b8, o8, none⟩), .int .i64 X, .slice (some ⟨b9, o9, none⟩) 1 c9, .pointer (some ⟨b9, o9, none⟩), .int .i64 Y, .int .i64 V, .slice (some ⟨b10, o10, none⟩) 1 c10, .pointer (some ⟨b10, o10, none⟩), .int .i64 V, .bool false, .bool false] := ⟨_, rfl⟩
        refine wp_region_owv VS (by kernel_rfl) (by kernel_rfl) (by rw [hVS]; rfl) ?_ ?_ ?_
        · subst hVS
          exact v_guard (by kernel_rfl)
        · intro iK oK ho a W hW hdf hin hout
          subst hVS
          match iK, ho with
          | 0, ho =>
            obtain rfl := Option.some.inj ho
            have s18 : a.tmps.getD 18 undef = .int .i64 0 := hout 18 (noDst_spec (by kernel_rfl))
            refine .inl ⟨.int .i64 0, W, ?_, Below.refl _ _, rfl⟩
            go_simp
          | 1, ho =>
            obtain rfl := Option.some.inj ho
            have e0 : a.tmps.getD 98 undef = .int .i64 0 := hin 0 98 rfl (by kernel_rfl)
            refine .inl ⟨.bool false, W, ?_, Below.refl _ _, rfl⟩
            go_simp
          | 2, ho =>
            obtain rfl := Option.some.inj ho
            have e1 : a.tmps.getD 99 undef = .bool false := hin 1 99 rfl (by kernel_rfl)
            refine .inl ⟨.bool false, W, ?_, Below.refl _ _, rfl⟩
            go_simp
          | 3, ho =>
            obtain rfl := Option.some.inj ho
            have s20 : a.tmps.getD 20 undef = .int .i64 0 := hout 20 (noDst_spec (by kernel_rfl))
            refine .inl ⟨.int .i64 0, W, ?_, Below.refl _ _, rfl⟩
            go_simp
          | 4, ho =>
            obtain rfl := Option.some.inj ho
            have e3 : a.tmps.getD 101 undef = .int .i64 0 := hin 3 101 rfl (by kernel_rfl)
            refine .inl ⟨.bool false, W, ?_, Below.refl _ _, rfl⟩
            go_simp
          | 5, ho =>
            obtain rfl := Option.some.inj ho
            have e2 : a.tmps.getD 100 undef = .bool false := hin 2 100 rfl (by kernel_rfl)
            have e4 : a.tmps.getD 102 undef = .bool false := hin 4 102 rfl (by kernel_rfl)
            refine .inl ⟨.bool false, W, ?_, Below.refl _ _, rfl⟩
            go_simp
          | 6, ho =>
            obtain rfl := Option.some.inj ho
            have e5 : a.tmps.getD 103 undef = .bool false := hin 5 103 rfl (by kernel_rfl)
            refine .inl ⟨.bool false, W, ?_, Below.refl _ _, rfl⟩
            go_simp
          | 7, ho =>
            obtain rfl := Option.some.inj ho
            have s22 : a.tmps.getD 22 undef = .int .i64 0 := hout 22 (noDst_spec (by kernel_rfl))
            refine .inl ⟨.int .i64 0, W, ?_, Below.refl _ _, rfl⟩
            go_simp
          | 8, ho =>
            obtain rfl := Option.some.inj ho
            have e7 : a.tmps.getD 105 undef = .int .i64 0 := hin 7 105 rfl (by kernel_rfl)
            refine .inl ⟨.bool false, W, ?_, Below.refl _ _, rfl⟩
            go_simp
          | 9, ho =>
            obtain rfl := Option.some.inj ho
            have e6 : a.tmps.getD 104 undef = .bool false := hin 6 104 rfl (by kernel_rfl)
            have e8 : a.tmps.getD 106 undef = .bool false := hin 8 106 rfl (by kernel_rfl)
            refine .inl ⟨.bool false, W, ?_, Below.refl _ _, rfl⟩
            go_simp
          | 10, ho =>
            obtain rfl := Option.some.inj ho
            have e9 : a.tmps.getD 107 undef = .bool false := hin 9 107 rfl (by kernel_rfl)
            refine .inl ⟨.bool false, W, ?_, Below.refl _ _, rfl⟩
            go_simp
          | 11, ho =>
            obtain rfl := Option.some.inj ho
            have s17 : a.tmps.getD 17 undef = .slice (some ⟨b8, o8, none⟩) 1 c8 := hout 17 (noDst_spec (by kernel_rfl))
            refine .inl ⟨.slice (some ⟨b8, o8, none⟩) 1 c8, W, ?_, Below.refl _ _, rfl⟩
            go_simp
          | 12, ho =>
            obtain rfl := Option.some.inj ho
            have e11 : a.tmps.getD 109 undef = .slice (some ⟨b8, o8, none⟩) 1 c8 := hin 11 109 rfl (by kernel_rfl)
            refine .inl ⟨.int .i64 1, W, ?_, Below.refl _ _, rfl⟩
            go_simp
          | 13, ho =>
            obtain rfl := Option.some.inj ho
            have e12 : a.tmps.getD 110 undef = .int .i64 1 := hin 12 110 rfl (by kernel_rfl)
            refine .inl ⟨.bool false, W, ?_, Below.refl _ _, rfl⟩
            go_simp
          | 14, ho =>
            obtain rfl := Option.some.inj ho
            have e10 : a.tmps.getD 108 undef = .bool false := hin 10 108 rfl (by kernel_rfl)
            have e13 : a.tmps.getD 111 undef = .bool false := hin 13 111 rfl (by kernel_rfl)
            refine .inl ⟨.bool false, W, ?_, Below.refl _ _, rfl⟩
            go_simp
          | 15, ho =>
            obtain rfl := Option.some.inj ho
            have e14 : a.tmps.getD 112 undef = .bool false := hin 14 112 rfl (by kernel_rfl)
            refine .inl ⟨.bool false, W, ?_, Below.refl _ _, rfl⟩
            go_simp
          | 16, ho =>
            obtain rfl := Option.some.inj ho
            have s19 : a.tmps.getD 19 undef = .slice (some ⟨b9, o9, none⟩) 1 c9 := hout 19 (noDst_spec (by kernel_rfl))
            refine .inl ⟨.slice (some ⟨b9, o9, none⟩) 1 c9, W, ?_, Below.refl _ _, rfl⟩
            go_simp
          | 17, ho =>
            obtain rfl := Option.some.inj ho
            have e16 : a.tmps.getD 114 undef = .slice (some ⟨b9, o9, none⟩) 1 c9 := hin 16 114 rfl (by kernel_rfl)
            refine .inl ⟨.int .i64 1, W, ?_, Below.refl _ _, rfl⟩
            go_simp
          | 18, ho =>
            obtain rfl := Option.some.inj ho
            have e17 : a.tmps.getD 115 undef = .int .i64 1 := hin 17 115 rfl (by kernel_rfl)
            refine .inl ⟨.bool false, W, ?_, Below.refl _ _, rfl⟩
            go_simp
          | 19, ho =>
            obtain rfl := Option.some.inj ho
            have e15 : a.tmps.getD 113 undef = .bool false := hin 15 113 rfl (by kernel_rfl)
            have e18 : a.tmps.getD 116 undef = .bool false := hin 18 116 rfl (by kernel_rfl)
            refine .inl ⟨.bool false, W, ?_, Below.refl _ _, rfl⟩
            go_simp
          | 20, ho =>
            obtain rfl := Option.some.inj ho
            have e19 : a.tmps.getD 117 undef = .bool false := hin 19 117 rfl (by kernel_rfl)
            refine .inl ⟨.bool false, W, ?_, Below.refl _ _, rfl⟩
            go_simp
          | 21, ho =>
            obtain rfl := Option.some.inj ho
            have s21 : a.tmps.getD 21 undef = .slice (some ⟨b10, o10, none⟩) 1 c10 := hout 21 (noDst_spec (by kernel_rfl))
            refine .inl ⟨.slice (some ⟨b10, o10, none⟩) 1 c10, W, ?_, Below.refl _ _, rfl⟩
            go_simp
          | 22, ho =>
            obtain rfl := Option.some.inj ho
            have e21 : a.tmps.getD 119 undef = .slice (some ⟨b10, o10, none⟩) 1 c10 := hin 21 119 rfl (by kernel_rfl)
            refine .inl ⟨.int .i64 1, W, ?_, Below.refl _ _, rfl⟩
            go_simp
          | 23, ho =>
            obtain rfl := Option.some.inj ho
            have e22 : a.tmps.getD 120 undef = .int .i64 1 := hin 22 120 rfl (by kernel_rfl)
            refine .inl ⟨.bool false, W, ?_, Below.refl _ _, rfl⟩
            go_simp
          | 24, ho =>
            obtain rfl := Option.some.inj ho
            have e20 : a.tmps.getD 118 undef = .bool false := hin 20 118 rfl (by kernel_rfl)
            have e23 : a.tmps.getD 121 undef = .bool false := hin 23 121 rfl (by kernel_rfl)
            refine .inl ⟨.bool false, W, ?_, Below.refl _ _, rfl⟩
            go_simp
          | 25, ho =>
            obtain rfl := Option.some.inj ho
            have e24 : a.tmps.getD 122 undef = .bool false := hin 24 122 rfl (by kernel_rfl)
            refine .inl ⟨.bool false, W, ?_, Below.refl _ _, rfl⟩
            go_simp
          | 26, ho =>
            obtain rfl := Option.some.inj ho
            have s9 : a.tmps.getD 9 undef = .int .i64 op := hout 9 (noDst_spec (by kernel_rfl))
            refine .inl ⟨.int .i64 op, W, ?_, Below.refl _ _, rfl⟩
            go_simp
          | 27, ho =>
            obtain rfl := Option.some.inj ho
            have s17 : a.tmps.getD 17 undef = .slice (some ⟨b8, o8, none⟩) 1 c8 := hout 17 (noDst_spec (by kernel_rfl))
            refine .inl ⟨.slice (some ⟨b8, o8, none⟩) 1 c8, W, ?_, Below.refl _ _, rfl⟩
            go_simp
          | 28, ho =>
            obtain rfl := Option.some.inj ho
            have e27 : a.tmps.getD 125 undef = .slice (some ⟨b8, o8, none⟩) 1 c8 := hin 27 125 rfl (by kernel_rfl)
            refine .inl ⟨.pointer (some ⟨b8, o8, none⟩), W, ?_, Below.refl _ _, rfl⟩
            go_simp
          | 29, ho =>
            obtain rfl := Option.some.inj ho
            have e28 : a.tmps.getD 126 undef = .pointer (some ⟨b8, o8, none⟩) := hin 28 126 rfl (by kernel_rfl)
            have q0 : W.cell? ⟨b8, o8, none⟩ = some (.int .i64 X) := (hW.cell (p := ⟨b8, o8, none⟩) hb8).trans hq8
            refine .inl ⟨.int .i64 X, W, ?_, Below.refl _ _, rfl⟩
            go_simp
          | 30, ho =>
            obtain rfl := Option.some.inj ho
            have s19 : a.tmps.getD 19 undef = .slice (some ⟨b9, o9, none⟩) 1 c9 := hout 19 (noDst_spec (by kernel_rfl))
            refine .inl ⟨.slice (some ⟨b9, o9, none⟩) 1 c9, W, ?_, Below.refl _ _, rfl⟩
            go_simp
          | 31, ho =>
            obtain rfl := Option.some.inj ho
            have e30 : a.tmps.getD 128 undef = .slice (some ⟨b9, o9, none⟩) 1 c9 := hin 30 128 rfl (by kernel_rfl)
            refine .inl ⟨.pointer (some ⟨b9, o9, none⟩), W, ?_, Below.refl _ _, rfl⟩
            go_simp
          | 32, ho =>
            obtain rfl := Option.some.inj ho
            have e31 : a.tmps.getD 129 undef = .pointer (some ⟨b9, o9, none⟩) := hin 31 129 rfl (by kernel_rfl)
            have q0 : W.cell? ⟨b9, o9, none⟩ = some (.int .i64 Y) := (hW.cell (p := ⟨b9, o9, none⟩) hb9).trans hq9
            refine .inl ⟨.int .i64 Y, W, ?_, Below.refl _ _, rfl⟩
            go_simp
          | 33, ho =>
            obtain rfl := Option.some.inj ho
            have e26 : a.tmps.getD 124 undef = .int .i64 op := hin 26 124 rfl (by kernel_rfl)
            have e29 : a.tmps.getD 127 undef = .int .i64 X := hin 29 127 rfl (by kernel_rfl)
            have e32 : a.tmps.getD 130 undef = .int .i64 Y := hin 32 130 rfl (by kernel_rfl)
            refine .inr ⟨25, #[.int .i64 op, .int .i64 X, .int .i64 Y], W, ?_, ?_⟩
            · go_simp
            · refine (CV.out W).mono ?_
              rintro e W' ⟨rfl, hB⟩
              exact ⟨_, rfl, hB, rfl⟩
          | 34, ho =>
            obtain rfl := Option.some.inj ho
            have s21 : a.tmps.getD 21 undef = .slice (some ⟨b10, o10, none⟩) 1 c10 := hout 21 (noDst_spec (by kernel_rfl))
            refine .inl ⟨.slice (some ⟨b10, o10, none⟩) 1 c10, W, ?_, Below.refl _ _, rfl⟩
            go_simp
          | 35, ho =>
            obtain rfl := Option.some.inj ho
            have e34 : a.tmps.getD 132 undef = .slice (some ⟨b10, o10, none⟩) 1 c10 := hin 34 132 rfl (by kernel_rfl)
            refine .inl ⟨.pointer (some ⟨b10, o10, none⟩), W, ?_, Below.refl _ _, rfl⟩
            go_simp
          | 36, ho =>
            obtain rfl := Option.some.inj ho
            have e35 : a.tmps.getD 133 undef = .pointer (some ⟨b10, o10, none⟩) := hin 35 133 rfl (by kernel_rfl)
            have q0 : W.cell? ⟨b10, o10, none⟩ = some (.int .i64 V) := (hW.cell (p := ⟨b10, o10, none⟩) hb10).trans hq10
            refine .inl ⟨.int .i64 V, W, ?_, Below.refl _ _, rfl⟩
            go_simp
          | 37, ho =>
            obtain rfl := Option.some.inj ho
            have e33 : a.tmps.getD 131 undef = .int .i64 V := hin 33 131 rfl (by kernel_rfl)
            have e36 : a.tmps.getD 134 undef = .int .i64 V := hin 36 134 rfl (by kernel_rfl)
            refine .inl ⟨.bool false, W, ?_, Below.refl _ _, rfl⟩
            go_simp
          | 38, ho =>
            obtain rfl := Option.some.inj ho
            have e25 : a.tmps.getD 123 undef = .bool false := hin 25 123 rfl (by kernel_rfl)
            have e37 : a.tmps.getD 135 undef = .bool false := hin 37 135 rfl (by kernel_rfl)
            refine .inl ⟨.bool false, W, ?_, Below.refl _ _, rfl⟩
            go_simp
          | iK + 39, ho => cases ho
        intro W1 hW1
        subst hVS
        simp only [putAll, Act.put, List.setIfInBounds_toArray, List.set_cons_zero, List.set_cons_succ]
        clear CV HXw HYw HV2 hq8 hq9 hq10 hb8 hb9 hb10 hs8 hs9 hs10
        replace hs4 := hs4.step hW1
        replace hs5 := hs5.step hW1
        replace hs6 := hs6.step hW1
        replace hs7 := hs7.step hW1
        replace hB := hB.trans (hW1.mono hB.size)
        clear hW1
        have HZ2 : Hid (Segs ab (Z ++ [(NB : Int)])) := Lib.hid (by have := segs_snoc b HZZ.out (by rw [HK.out]; omega) (by rw [HN.out, HNB.out]; omega); rw [HAB.out, HNB.out] at this; exact this)
        have hkb : kpK (ahL (doN op) (neN op)) ab (Z ++ [(NB : Int)]) (Z ++ [(NB : Int)]).length = kpK (ahL (doN op) (neN op)) a Z Z.length ++ ahL (doN op) (neN op) b := by have := kp_snoc (ahL (doN op) (neN op)) a b Z HZZ.out; rw [HAB.out, HNB.out] at this; exact this
        have CP := scan_segs HaB.out a Z N K HN.out HK.out Haw.out HZZ.out
        have CT := thru_segs HaB.out a Z N K HN.out HK.out Haw.out HZZ.out
        have CO := scan_one HaB.out b NB HNB.out Hbw.out (by omega)
        have CB := scan_segs HaB.out ab (Z ++ [(NB : Int)]) Q (K + 1) HQ.out (by rw [List.length_append, HK.out]; rfl) HABw.out HZ2.out
        rw [hkb] at CB
        have hOWl : (kpK (ahL (doN op) (neN op)) a Z Z.length).length = N := by rw [HZZ.out.kp_len (f := ahL (doN op) (neN op)) (fun s => mk_length _ _) _ (Nat.le_refl _), HZZ.out.ofs_all, HN.out]
        have hOTl : (ahL (doN op) (neN op) b).length = NB := (mk_length _ _).trans HNB.out
        have hTHl : (kpK (upL' (doN op) (neN op)) a Z Z.length).length = N := by rw [HZZ.out.kp_len (f := upL' (doN op) (neN op)) (fun s => mk_length _ _) _ (Nat.le_refl _), HZZ.out.ofs_all, HN.out]
        have HAT : Hid (∀ k, k < N → doN op (nth (kpK (ahL (doN op) (neN op)) a Z Z.length) k) (nth a k) = nth (kpK (upL' (doN op) (neN op)) a Z Z.length) k ∧ isW (nth (kpK (ahL (doN op) (neN op)) a Z Z.length) k) ∧ isW (nth a k)) := Lib.hid (fun k hk => ⟨by
          rw [kp_thru (doN op) (neN op) HZZ.out _ (Nat.le_refl _), nth_mk _ _ _ (by rw [HZZ.out.ofs_all, HN.out]; exact hk)], (kp_word HM.out Haw.out Z _).at k, Haw.out.at k⟩)
        obtain ⟨OW, hOW⟩ : ∃ OW, kpK (ahL (doN op) (neN op)) a Z Z.length = OW := ⟨_, rfl⟩
        obtain ⟨OT, hOT⟩ : ∃ OT, ahL (doN op) (neN op) b = OT := ⟨_, rfl⟩
        obtain ⟨TH, hTH⟩ : ∃ TH, kpK (upL' (doN op) (neN op)) a Z Z.length = TH := ⟨_, rfl⟩
        rw [hTH] at CT hTHl HAT
        rw [hOT] at CO hOTl CB
        rw [hOW] at CP hOWl HAT CB
        have hOBl : (OW ++ OT).length = Q := by rw [List.length_append, hOWl, hOTl]; exact HQN.out
        have CP := Lib.hid CP; have CT := Lib.hid CT; have CO := Lib.hid CO; have CB := Lib.hid CB
        have HOWl := Lib.hid hOWl; have HOTl := Lib.hid hOTl; have HTHl := Lib.hid hTHl; have HOBl := Lib.hid hOBl
        have hZ200 : Z.length ≤ 201 := by rw [HK.out]; exact hZ2
        clear hkb hOWl hOTl hTHl hOBl hOW hOT hTH HZ2
        go_wp2_with fail
        refine (CP.out A4 A6 c6 c4 _ (hI.below hB) hs4 hc4 hs6 hc6).mono ?_
        rintro e w9 ⟨A11, c11, rfl, hc11, hs11, hBx⟩
        rw [HOWl.out] at hc11 ⊢
        replace hs4 := hs4.step hBx
        replace hs5 := hs5.step hBx
        replace hs6 := hs6.step hBx
        replace hs7 := hs7.step hBx
        replace hB := hB.trans (hBx.mono hB.size)
        clear hBx CP
        have bN := Blk.new w9 3 #[.int .i64 (NB : Int)]
        replace hB := hB.alloc hB.size (.cells #[.int .i64 (NB : Int)] 3)
        replace hs4 := hs4.al (.cells #[.int .i64 (NB : Int)] 3)
        replace hs5 := hs5.al (.cells #[.int .i64 (NB : Int)] 3)
        replace hs6 := hs6.al (.cells #[.int .i64 (NB : Int)] 3)
        replace hs7 := hs7.al (.cells #[.int .i64 (NB : Int)] 3)
        replace hs11 := hs11.al (.cells #[.int .i64 (NB : Int)] 3)
        go_wp2_with fail
        refine (CO.out A5 (some ⟨w9.heap.size, 0, none⟩) 1 c5 _ (hI.below hB) hs5 hc5 (sl_one bN) (by omega)).mono ?_
        rintro e w10 ⟨A12, c12, rfl, hc12, hs12, hBx⟩
        rw [HOTl.out] at hc12 ⊢
        replace hs4 := hs4.step hBx
        replace hs5 := hs5.step hBx
        replace hs6 := hs6.step hBx
        replace hs7 := hs7.step hBx
        replace hs11 := hs11.step hBx
        replace hB := hB.trans (hBx.mono hB.size)
        clear hBx CO bN
        have CC := copy_gen A6 c6 Z w10 hs6 (by omega)
        rw [HK.out] at CC
        have CC := Lib.hid CC
        go_wp2_with fail
        refine CC.out.mono ?_
        rintro e w11 ⟨v13, rfl, hown, hBr⟩
        go_wp2_with (at_builtin; refine wpList_append_own _ rfl _ _ 22 rfl w10.heap.size 3 i0 (.int .i64 0) 1 8 Tryd.underlying22 hi hzz0 hzz1 hzz2 rfl (by decide) _ _ _ rfl (hown.alloc _) ⟨_, 0, none⟩ 1 1 [.int .i64 NB] rfl rfl (cell_one_new _ _ _) (by simp [Value.oneCell']) (by unfold maxLen; omega) (by omega) (by have := hBr.size; simp; omega) ?_; intro v' w2' hown' hgrow _; have hBx := below_append hBr hBr.size hown hgrow)
        have hown2 := OwnI.snoc hown'
        clear hown' hgrow hown hBr CC
        obtain ⟨A13, c13, rfl, hc13, hs13⟩ := hown2.form
        rw [show (Z ++ [(NB : Int)]).length = K + 1 by rw [List.length_append, HK.out]; rfl] at hc13 ⊢
        clear hown2
        replace hs4 := hs4.step hBx
        replace hs5 := hs5.step hBx
        replace hs6 := hs6.step hBx
        replace hs7 := hs7.step hBx
        replace hs11 := hs11.step hBx
        replace hs12 := hs12.step hBx
        replace hB := hB.trans (hBx.mono hB.size)
        clear hBx
        go_wp2_with fail
        refine (CB.out A7 A13 c13 c7 _ (hI.below hB) hs7 hc7 hs13 hc13).mono ?_
        rintro e w12 ⟨A14, c14, rfl, hc14, hs14, hBx⟩
        rw [HOBl.out] at hc14 ⊢
        replace hs4 := hs4.step hBx
        replace hs5 := hs5.step hBx
        replace hs6 := hs6.step hBx
        replace hs7 := hs7.step hBx
        replace hs11 := hs11.step hBx
        replace hs12 := hs12.step hBx
        replace hB := hB.trans (hBx.mono hB.size)
        clear hBx CB hs13
        go_wp2_with fail
        refine (CT.out A4 A6 c6 c4 _ (hI.below hB) hs4 hc4 hs6 hc6).mono ?_
        rintro e w13 ⟨A15, c15, rfl, hc15, hs15, hBx⟩
        rw [HTHl.out] at hc15 ⊢
        replace hs4 := hs4.step hBx
        replace hs5 := hs5.step hBx
        replace hs6 := hs6.step hBx
        replace hs7 := hs7.step hBx
        replace hs11 := hs11.step hBx
        replace hs12 := hs12.step hBx
        replace hs14 := hs14.step hBx
        replace hB := hB.trans (hBx.mono hB.size)
        clear hBx CT
        go_wp2_with fail
        have CC := copy_gen A11 c11 OW w13 hs11 (by rw [HOWl.out]; omega)
        rw [HOWl.out] at CC
        have CC := Lib.hid CC
        refine CC.out.mono ?_
        rintro e w14 ⟨v16, rfl, hown4, hBc⟩
        have hs12c := hs12.step hBc
        have hszc := hBc.size
        have hNN := Lib.hid (show OW.length + OT.length ≤ 1000000 by rw [HOWl.out, HOTl.out]; omega)
        have hx12 := Lib.hid (show Value.slice A12 NB c12 = .slice A12 OT.length c12 by rw [HOTl.out])
        go_wp2_with (at_builtin; refine wpList_unguard (by kernel_rfl) ?_; refine wpList_append_sl rfl _ _ rfl w13.heap.size _ OW rfl hown4 A12 c12 OT hx12.out hs12c hNN.out hBc hszc ?_; intro v17 w15 hown5 hBx)
        obtain ⟨A16, c16, rfl, hc16, hs16⟩ := hown5.form
        rw [HOBl.out] at hc16 ⊢
        clear hown4 hown5 hBc hs12c hszc hx12 hNN CC
        replace hs4 := hs4.step hBx
        replace hs11 := hs11.step hBx
        replace hs14 := hs14.step hBx
        replace hs15 := hs15.step hBx
        replace hB := hB.trans (hBx.mono hB.size)
        clear hBx
        go_wp2_with fail
        refine (eq_lit A14 A16 c14 c16 Q (OW ++ OT) _ HOBl.out hs14 hs16 (by rw [HOBl.out]; omega)).mono ?_
        rintro e w16 ⟨rfl, hBx⟩
        replace hs4 := hs4.step hBx
        replace hs11 := hs11.step hBx
        replace hs15 := hs15.step hBx
        replace hB := hB.trans (hBx.mono hB.size)
        clear hBx hs14 hs16 hs12 hs5 hs6 hs7
        go_wp2
        go_loopw [28] (fun i wr => ∃ k : Nat, k ≤ N ∧ i = .int .i64 k ∧ Below w16.heap.size w16 wr) (fun i _ => N - (intOf i).toNat)
        case atStart => exact ⟨0, Nat.zero_le _, rfl, Below.refl _ _⟩
        case round =>
          obtain ⟨k, hk, rfl, hX⟩ := hrel
          by_cases hlt : k < N
          · obtain ⟨hv1, hx1, hx2⟩ := HAT.out k hlt
            obtain ⟨b1, o1, rfl, hb1, hq1⟩ := (hs11.step hX).at_ (k := k) (by rw [HOWl.out]; exact hlt)
            obtain ⟨b2, o2, rfl, hb2, hq2⟩ := (hs4.step hX).at_ (k := k) (by rw [HN.out]; exact hlt)
            obtain ⟨b3, o3, rfl, hb3, hq3⟩ := (hs15.step hX).at_ (k := k) (by rw [HTHl.out]; exact hlt)
            obtain ⟨x1, hx1'⟩ : ∃ x1, nth OW k = x1 := ⟨_, rfl⟩
            obtain ⟨x2, hx2'⟩ : ∃ x2, nth a k = x2 := ⟨_, rfl⟩
            obtain ⟨x3, hx3'⟩ : ∃ x3, nth TH k = x3 := ⟨_, rfl⟩
            rw [hx1'] at hq1 hv1 hx1
            rw [hx2'] at hq2 hv1 hx2
            rw [hx3'] at hq3 hv1
            have CV := fun W => value_ok HaB.out hx1 hx2 W
            rw [hv1] at CV
            have CV := Lib.hid CV
            have q2 : (0 : Int) ≤ (k : Int) := by omega
            have q3 : (k : Int) < (N : Int) := by omega
            clear hx1 hx2 hx1' hx2' hx3' hv1 hlt hk
            go_wp2
            obtain ⟨VS, hVS⟩ : ∃ VS : List Value, VS = [.int .i64 op, .slice (some ⟨b1, o1, none⟩) N c11, .int .i64 (k : Int), .pointer (some ⟨b1, o1 + k, none⟩), .int .i64 x1, .slice (some ⟨b2, o2, none⟩) N c4, .int .i64 (k : Int), .pointer (some ⟨b2, o2 + k, none⟩), .int .i64 x2, .int .i64 x3, .slice (some ⟨b3, o3, none⟩) N c15, .int .i64 (k : Int), .pointer (some ⟨b3, o3 + k, none⟩), .int .i64 x3, .bool false] := ⟨_, rfl⟩
            refine wp_region_owv VS (by kernel_rfl) (by kernel_rfl) (by rw [hVS]; rfl) ?_ ?_ ?_
            · subst hVS
              exact v_guard (by kernel_rfl)
            · intro iK oK ho a W hW hdf hin hout
              subst hVS
              match iK, ho with
              | 0, ho =>
                obtain rfl := Option.some.inj ho
                have s9 : a.tmps.getD 9 undef = .int .i64 op := hout 9 (noDst_spec (by kernel_rfl))
                refine .inl ⟨.int .i64 op, W, ?_, Below.refl _ _, rfl⟩
                go_simp
              | 1, ho =>
                obtain rfl := Option.some.inj ho
                have s23 : a.tmps.getD 23 undef = .slice (some ⟨b1, o1, none⟩) N c11 := hout 23 (noDst_spec (by kernel_rfl))
                refine .inl ⟨.slice (some ⟨b1, o1, none⟩) N c11, W, ?_, Below.refl _ _, rfl⟩
                go_simp
              | 2, ho =>
                obtain rfl := Option.some.inj ho
                have s28 : a.tmps.getD 28 undef = .int .i64 (k : Int) := hout 28 (noDst_spec (by kernel_rfl))
                refine .inl ⟨.int .i64 (k : Int), W, ?_, Below.refl _ _, rfl⟩
                go_simp
              | 3, ho =>
                obtain rfl := Option.some.inj ho
                have e1 : a.tmps.getD 216 undef = .slice (some ⟨b1, o1, none⟩) N c11 := hin 1 216 rfl (by kernel_rfl)
                have e2 : a.tmps.getD 217 undef = .int .i64 (k : Int) := hin 2 217 rfl (by kernel_rfl)
                refine .inl ⟨.pointer (some ⟨b1, o1 + k, none⟩), W, ?_, Below.refl _ _, rfl⟩
                go_simp
              | 4, ho =>
                obtain rfl := Option.some.inj ho
                have e3 : a.tmps.getD 218 undef = .pointer (some ⟨b1, o1 + k, none⟩) := hin 3 218 rfl (by kernel_rfl)
                have q0 : W.cell? ⟨b1, o1 + k, none⟩ = some (.int .i64 x1) := (hW.cell (p := ⟨b1, o1 + k, none⟩) hb1).trans hq1
                refine .inl ⟨.int .i64 x1, W, ?_, Below.refl _ _, rfl⟩
                go_simp
              | 5, ho =>
                obtain rfl := Option.some.inj ho
                have s10 : a.tmps.getD 10 undef = .slice (some ⟨b2, o2, none⟩) N c4 := hout 10 (noDst_spec (by kernel_rfl))
                refine .inl ⟨.slice (some ⟨b2, o2, none⟩) N c4, W, ?_, Below.refl _ _, rfl⟩
                go_simp
              | 6, ho =>
                obtain rfl := Option.some.inj ho
                have s28 : a.tmps.getD 28 undef = .int .i64 (k : Int) := hout 28 (noDst_spec (by kernel_rfl))
                refine .inl ⟨.int .i64 (k : Int), W, ?_, Below.refl _ _, rfl⟩
                go_simp
              | 7, ho =>
                obtain rfl := Option.some.inj ho
                have e5 : a.tmps.getD 220 undef = .slice (some ⟨b2, o2, none⟩) N c4 := hin 5 220 rfl (by kernel_rfl)
                have e6 : a.tmps.getD 221 undef = .int .i64 (k : Int) := hin 6 221 rfl (by kernel_rfl)
                refine .inl ⟨.pointer (some ⟨b2, o2 + k, none⟩), W, ?_, Below.refl _ _, rfl⟩
                go_simp
              | 8, ho =>
                obtain rfl := Option.some.inj ho
                have e7 : a.tmps.getD 222 undef = .pointer (some ⟨b2, o2 + k, none⟩) := hin 7 222 rfl (by kernel_rfl)
                have q0 : W.cell? ⟨b2, o2 + k, none⟩ = some (.int .i64 x2) := (hW.cell (p := ⟨b2, o2 + k, none⟩) hb2).trans hq2
                refine .inl ⟨.int .i64 x2, W, ?_, Below.refl _ _, rfl⟩
                go_simp
              | 9, ho =>
                obtain rfl := Option.some.inj ho
                have e0 : a.tmps.getD 215 undef = .int .i64 op := hin 0 215 rfl (by kernel_rfl)
                have e4 : a.tmps.getD 219 undef = .int .i64 x1 := hin 4 219 rfl (by kernel_rfl)
                have e8 : a.tmps.getD 223 undef = .int .i64 x2 := hin 8 223 rfl (by kernel_rfl)
                refine .inr ⟨25, #[.int .i64 op, .int .i64 x1, .int .i64 x2], W, ?_, ?_⟩
                · go_simp
                · refine (CV.out W).mono ?_
                  rintro e W' ⟨rfl, hB⟩
                  exact ⟨_, rfl, hB, rfl⟩
              | 10, ho =>
                obtain rfl := Option.some.inj ho
                have s26 : a.tmps.getD 26 undef = .slice (some ⟨b3, o3, none⟩) N c15 := hout 26 (noDst_spec (by kernel_rfl))
                refine .inl ⟨.slice (some ⟨b3, o3, none⟩) N c15, W, ?_, Below.refl _ _, rfl⟩
                go_simp
              | 11, ho =>
                obtain rfl := Option.some.inj ho
                have s28 : a.tmps.getD 28 undef = .int .i64 (k : Int) := hout 28 (noDst_spec (by kernel_rfl))
                refine .inl ⟨.int .i64 (k : Int), W, ?_, Below.refl _ _, rfl⟩
                go_simp
              | 12, ho =>
                obtain rfl := Option.some.inj ho
                have e10 : a.tmps.getD 225 undef = .slice (some ⟨b3, o3, none⟩) N c15 := hin 10 225 rfl (by kernel_rfl)
                have e11 : a.tmps.getD 226 undef = .int .i64 (k : Int) := hin 11 226 rfl (by kernel_rfl)
                refine .inl ⟨.pointer (some ⟨b3, o3 + k, none⟩), W, ?_, Below.refl _ _, rfl⟩
                go_simp
              | 13, ho =>
                obtain rfl := Option.some.inj ho
                have e12 : a.tmps.getD 227 undef = .pointer (some ⟨b3, o3 + k, none⟩) := hin 12 227 rfl (by kernel_rfl)
                have q0 : W.cell? ⟨b3, o3 + k, none⟩ = some (.int .i64 x3) := (hW.cell (p := ⟨b3, o3 + k, none⟩) hb3).trans hq3
                refine .inl ⟨.int .i64 x3, W, ?_, Below.refl _ _, rfl⟩
                go_simp
              | 14, ho =>
                obtain rfl := Option.some.inj ho
                have e9 : a.tmps.getD 224 undef = .int .i64 x3 := hin 9 224 rfl (by kernel_rfl)
                have e13 : a.tmps.getD 228 undef = .int .i64 x3 := hin 13 228 rfl (by kernel_rfl)
                refine .inl ⟨.bool false, W, ?_, Below.refl _ _, rfl⟩
                go_simp
              | iK + 15, ho => cases ho
            intro W1 hW1
            subst hVS
            simp only [putAll, Act.put, List.setIfInBounds_toArray, List.set_cons_zero, List.set_cons_succ]
            clear CV
            go_wp2
            go_roundw
            case rel => exact ⟨k + 1, by omega, by go_num, hX.trans (hW1.mono hX.size)⟩
            case measure => simp [intOf]; omega
          · obtain rfl : k = N := by omega
            have hBe := hB.trans (hX.mono hB.size)
            go_wp2_with fail
            refine (joined_any _ (hI.below hBe)).mono ?_
            rintro e w17 ⟨rfl, hBx⟩
            go_wp2
            go_ret
            exact ⟨rfl, hBe.trans (hBx.mono hBe.size)⟩

/-! ### the row and the card -/
set_option maxRecDepth 100000
theorem own : ownKnob Tryd.prog.godebug = none := by kernel_rfl
theorem door_met (os : Os) (args : Array Value) : laidMetH Tryd.prog Rows.scanPartsRow.laid ((World.doorLaid Tryd.prog 61 os).forCall (fun _ _ => 0) ⟨#[], args, []⟩).memory :=
  laidMetH_of_parts3 (fuel := 8) (laidMet_of_run' 8 (by kernel_rfl) (by kernel_rfl)) (by kernel_rfl) (by kernel_rfl)
theorem lifted (os : Os) (started : os.Started) (H : Type) (enc : TypeId × Value → H) :
    ReturnsInHanded {} Tryd.checked os 6 .any (fun w args => (Rows.scanPartsSpec.pre enc Tryd.prog Tryd.f6 [] false w args ∧ laidMetH Tryd.prog Rows.scanPartsRow.laid w) ∧ sizedMet enc Tryd.prog Tryd.f6 (OpenSpec.ofChange Rows.scanPartsSpec) false w args)
      (Rows.scanPartsSpec.post enc Tryd.prog Tryd.f6 false true false false) := by
  refine returnsInHanded_of_change_and (C := Tryd.checked) (X := fun w _ => laidMetH Tryd.prog Rows.scanPartsRow.laid w) (fun _ _ _ hh h => h.of_heap hh) own started (by kernel_rfl) Tryd.func6
    (ChangeSpec.witness_shaped (enc := enc) (C := Tryd.checked) (os := os) (X := fun w _ => laidMetH Tryd.prog Rows.scanPartsRow.laid w) false (World.doorLaid Tryd.prog 61 os) #[.int .i64 0, .slice none 0 0, .slice none 0 0, .slice none 0 0] 8 rfl (World.shaped_of_RefB (by kernel_rfl) (by kernel_rfl)) (by kernel_rfl) (by kernel_rfl) (by kernel_rfl) (door_met os _)) ?_
  intro W base args ds gs before hval0 hW _ _ hL _
  have hval : ∀ (j : Nat) t v, Tryd.f6.params[j]? = some t → args[j]? = some v → Value.okWide Tryd.prog W .any base t v := hval0
  have hW' := hW
  obtain ⟨p, q, hA0, hV, rfl, hfz, hnd⟩ := hW
  have hA : DataW.TrodAll enc Tryd.prog W 0 (fun _ => true) true Tryd.f6.params.toList args.toList ds p := hA0
  rw [Tryd.params6] at hA hval
  obtain ⟨v0, vs0, d0, ds0, p0, q0, hargs, rfl, rfl, h0, r0⟩ := trodAll_cons hA
  obtain ⟨v1, vs1, d1, ds1, p1, q1, rfl, rfl, rfl, h1, r1⟩ := trodAll_cons r0
  obtain ⟨v2, vs2, d2, ds2, p2, q2, rfl, rfl, rfl, h2, r2⟩ := trodAll_cons r1
  obtain ⟨v3, vs3, d3, ds3, p3, q3, rfl, rfl, rfl, h3, r3⟩ := trodAll_cons r2
  obtain ⟨rfl, rfl, rfl⟩ := trodAll_nil r3
  obtain rfl : args = #[v0, v1, v2, v3] := by cases args; simp_all
  obtain ⟨rfl, rfl⟩ := trodVars_none hV
  clear hA0 hval0
  simp only [List.append_nil] at hW'
  obtain ⟨a0, rfl, rfl, rfl, w0⟩ := open_int Tryd.underlying3 (hval 0 3 v0 rfl rfl) h0
  have hlt1 : ∀ x ∈ p1, x.block < W.heap.size := fun x hx => by simpa using hW'.lt x (by simp [hx])
  have hg1 : ∀ (W' : World), Below W.heap.size W W' → DataW.Trod enc Tryd.prog W' 0 (fun b => decide (b < W.heap.size)) true 22 v1 d1 p1 :=
    fun W' hn => Below.trod Tryd.laidOut (by kernel_rfl) (of_decide_eq_true (by kernel_rfl)) h1 hn hlt1
  obtain ⟨A1, c1, z1, rfl, hle1, hmx1, hS1, hR1⟩ := open_sl (hval 1 22 v1 rfl rfl) h1 hlt1
  have hlt2 : ∀ x ∈ p2, x.block < W.heap.size := fun x hx => by simpa using hW'.lt x (by simp [hx])
  have hg2 : ∀ (W' : World), Below W.heap.size W W' → DataW.Trod enc Tryd.prog W' 0 (fun b => decide (b < W.heap.size)) true 22 v2 d2 p2 :=
    fun W' hn => Below.trod Tryd.laidOut (by kernel_rfl) (of_decide_eq_true (by kernel_rfl)) h2 hn hlt2
  obtain ⟨A2, c2, z2, rfl, hle2, hmx2, hS2, hR2⟩ := open_sl (hval 2 22 v2 rfl rfl) h2 hlt2
  have hlt3 : ∀ x ∈ p3, x.block < W.heap.size := fun x hx => by simpa using hW'.lt x (by simp [hx])
  have hg3 : ∀ (W' : World), Below W.heap.size W W' → DataW.Trod enc Tryd.prog W' 0 (fun b => decide (b < W.heap.size)) true 22 v3 d3 p3 :=
    fun W' hn => Below.trod Tryd.laidOut (by kernel_rfl) (of_decide_eq_true (by kernel_rfl)) h3 hn hlt3
  obtain ⟨A3, c3, z3, rfl, hle3, hmx3, hS3, hR3⟩ := open_sl (hval 3 22 v3 rfl rfl) h3 hlt3
  refine (walk a0 A1 c1 z1 A2 c2 z2 A3 c3 z3 W (of_laid hL) hS1 hle1 (by unfold Ok; omega) hS2 hle2 (by unfold Ok; omega) hS3 hle3 (by unfold Ok; omega)).mono fun e W' ⟨he, hB⟩ => ?_
  subst he
  exact ⟨_, rfl, _, _, _, [], _, [], hW', trodAll_cons_mk (shut_bool Tryd.underlying4 _) trodAll_mk0, trodAll_cons_mk (shut_int Tryd.underlying3 w0) (trodAll_cons_mk (hg1 _ hB) (trodAll_cons_mk (hg2 _ hB) (trodAll_cons_mk (hg3 _ hB) trodAll_mk0))), rfl, hB.frame _, fun h => by cases h⟩
theorem holds : Rows.ScanPartsSaid :=
  OpenClaim.holds_of_wide 6 Tryd.f6 rfl rfl rfl rfl rfl rfl rfl ⟨rfl, rfl, rfl, rfl, rfl⟩ rfl rfl rfl rfl rfl (by kernel_rfl) Tryd.func6 (by kernel_rfl)
    (of_decide_eq_true (by kernel_rfl)) (by unfold Func.isWrapper; first | (rw [if_pos (by decide +kernel)]; kernel_rfl) | (rw [if_neg (by decide +kernel)]; exact ⟨rfl, rfl⟩))
    (fun os started H enc _ => lifted os started H enc)
theorem proved : Rows.ScanPartsCardSaid :=
  Claim7.holds_tied_plain_at .later [] [.data] true (true, "165e170aa6ce182620764f5d03f9346384cc021ccbd43512c2f1c96f23b5a8e5") false
    holds (fun _ h => by cases h) (by kernel_rfl) (fun _ h => by cases h) scanParts_row_tie rfl ⟨rfl, rfl⟩ (by kernel_rfl) rfl
    (fun f fn hf hfn => by
      obtain rfl : f = 6 := Option.some.inj ((show Tryd.prog.funcNamed "sheafworks/sheafworkslaw05.ScanParts" = some 6 by kernel_rfl).symm.trans hf) |>.symm
      obtain rfl : fn = Tryd.f6 := (Option.some.inj (Tryd.func6.symm.trans hfn)).symm
      exact ⟨by kernel_rfl, fun j t ht => by
        rw [Tryd.params6] at ht
        have hm : t ∈ [3, 22, 22, 22] := by
          have := Array.mem_of_getElem? ht
          simpa using this
        have hall : ([3, 22, 22, 22].all fun u => !Tryd.prog.wantsStandIn u) = true := by kernel_rfl
        exact (show Tryd.prog.wantsStandIn t = false by simpa using List.all_eq_true.1 hall t hm)⟩)
    (by kernel_rfl)
#print axioms proved
end Go.Proofs.YtecpanppnljkhaaDoor.scanParts
