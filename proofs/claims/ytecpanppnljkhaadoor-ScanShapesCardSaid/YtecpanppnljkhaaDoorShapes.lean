/- ScanShapes: the theorem of the shapes, for any number that chooses an operation, and any three slices of ints that can be read: the law's call returns true, and they read as they did. No condition but the row's own (the listed table holds what the text says). -/
import Derived.Test.YtecpanppnljkhaaDoorKa3
import Derived.Test.YtecpanppnljkhaaDoorKa4
import Derived.Test.YtecpanppnljkhaaDoorTie
import Derived.Test.YtecpanppnljkhaaDoorCards
import Derived.ChangeMaps5
namespace Go.Proofs.YtecpanppnljkhaaDoor.scanShapes
open Go.ChangeShapes Go.WideShapes Go.ChangeAt Go.RowKit Go.ChangeMaps
set_option linter.unusedVariables false
set_option maxRecDepth 100000 in
set_option maxHeartbeats 40000000 in
theorem walk (o : Int) (A1 : Option Addr) (c1 : Nat) (z1 : List Int) (A2 : Option Addr) (c2 : Nat) (z2 : List Int) (A3 : Option Addr) (c3 : Nat) (z3 : List Int) (w : World) (hI : Inv w) (h1 : Sl w A1 z1) (hc1 : z1.length ≤ c1) (k1 : Ok z1) (hz2 : Sl w A2 z2) (hc2 : z2.length ≤ c2) (k2 : Ok z2) (hz3 : Sl w A3 z3) (hc3 : z3.length ≤ c3) (k3 : Ok z3) :
    Calls Tryd.prog 4 #[.int .i64 o, .slice A1 z1.length c1, .slice A2 z2.length c2, .slice A3 z3.length c3] w (Ret (.bool true) w) := by
  obtain ⟨i0, hi, hzz0, hzz1, hzz2⟩ := info_parts int_info
  have haB := opN_aB o
  have M := mon_op haB
  have COp := Lib.hid (opOf_any o w)
  have CW := Lib.hid (fun W hW => wraps_any A1 c1 z1 60 W hW (by unfold Ok at k1; omega) (by omega))
  have hwl := wl_len z1 60
  have hww := wl_word z1 60
  obtain ⟨ws, hws⟩ : ∃ ws, wlL z1 60 = ws := ⟨_, rfl⟩
  obtain ⟨op, hop⟩ : ∃ op, opN o = op := ⟨_, rfl⟩
  rw [hws] at CW hwl hww
  rw [hop] at COp haB M
  have hn60 : ws.length ≤ 60 := by omega
  have CF := Lib.hid (fun A A' c cl W (hI' : Inv W) hA hcl hA' hc' => fold_any op A A' c cl ws [(ws.length : Int)] W hI' hA hcl (by unfold Ok; omega) hA' hc' (by unfold Ok; simp))
  rw [fsE_good haB hww (segs_one ws (by omega)), orL_ok, kp_one] at CF
  obtain ⟨d, hd⟩ := exD ws.length (by omega)
  have CL := Lib.hid (fun A c W (hI' : Inv W) hA hcl => levels_ok op d A c ws W hI' hA hcl (by unfold Ok; omega) hd (cE_good haB hww (by omega)))
  have CT := fun A A' c c' S W (hI' : Inv W) hA hcl hA' (hSl : S.length ≤ 9223372036854775807) hn hs => tree_ok op d A A' c c' ws S W hI' hA hcl (by unfold Ok; omega) hA' hSl (cE_good haB hww (by omega)) hd hn hs
  have CT2 := Lib.hid (fun S hn hs => M.tree (shape := S) hww hd hs hn)
  have CT := Lib.hid CT
  have HTop := M.top hww hd
  have HD := Lib.hid hd
  have hwh : whL (doN op) (neN op) ws = [scN (doN op) (neN op) ws ws.length] := rfl
  obtain ⟨Fv, hF⟩ : ∃ Fv, scN (doN op) (neN op) ws ws.length = Fv := ⟨_, rfl⟩
  rw [hF] at HTop CT2 hwh
  rw [hwh] at CF
  have HTop := Lib.hid HTop
  clear hwl hws hop hF hwh M
  have HW := Lib.hid hww
  clear hww hd
  go_enter Tryd.func4, Tryd.ntmps4
  go_wp2_with fail
  refine COp.out.mono ?_
  rintro e w1 ⟨rfl, hB1⟩
  go_wp2_with fail
  refine (CW.out _ (h1.step hB1)).mono ?_
  rintro e w2 ⟨A4, c4, rfl, hc4, hs4, hB2⟩
  replace hB2 := hB1.trans (hB2.mono hB1.size)
  clear hB1
  by_cases h0 : ws.length = 0
  · have hd0 : ((ws.length : Int) == 0) = true := by rw [beq_iff_eq]; omega
    clear h0
    go_wp2_with fail
    refine (joined_any _ (hI.below hB2)).mono ?_
    rintro e w3 ⟨rfl, hB3⟩
    go_wp2
    go_ret
    exact ⟨rfl, hB2.trans (hB3.mono hB2.size)⟩
  · have hd0 : ((ws.length : Int) == 0) = false := by rw [beq_eq_false_iff_ne]; omega
    have hpos : 0 < ws.length := by omega
    obtain ⟨N, hN⟩ : ∃ N, ws.length = N := ⟨_, rfl⟩
    rw [hN] at CF CL CT CT2 hn60 hd0 hpos hc4 ⊢
    have HN := Lib.hid hN
    clear h0 hN
    have hB3 := hB2.alloc hB2.size (.cells #[.int .i64 (N : Int)] 3)
    have bN := Blk.new w2 3 #[.int .i64 (N : Int)]
    have hs4' := hs4.al (.cells #[.int .i64 (N : Int)] 3)
    go_wp2_with fail
    refine (CF.out A4 (some ⟨w2.heap.size, 0, none⟩) 1 c4 _ (hI.below hB3) hs4' hc4 (sl_one bN) (by simp)).mono ?_
    rintro e w3 ⟨A5, c5, rfl, hc5, hs5, hB4⟩
    replace hs4' := hs4'.step hB4
    replace hB4 := hB3.trans (hB4.mono hB3.size)
    clear hB3 bN hB2 hs4 CF
    go_wp2_with fail
    refine (CL.out A4 c4 _ (hI.below hB4) hs4' hc4).mono ?_
    rintro e w4 ⟨G, vs, rfl, hT, hB5⟩
    replace hs4' := hs4'.step hB5
    replace hs5 := hs5.step hB5
    replace hB5 := hB4.trans (hB5.mono hB4.size)
    clear hB4 CL
    have hSl := tree_sll (d := d) hT HD.out.2.2
    obtain ⟨b', o', e', hb', hcs⟩ := hSl (by rw [lvs_len]; omega)
    cases e'
    obtain ⟨A6, c6, hc6, hc6', hs6⟩ := hcs d (by rw [lvs_len]; omega)
    rw [lvs_nth _ _ _ _ (by omega), HTop.out] at hc6 hc6' hs6
    have hc6 : w4.cell? ⟨G, d, none⟩ = some (.slice A6 1 c6) := by rw [Nat.zero_add] at hc6; exact hc6
    have hd20 : d ≤ 20 := HD.out.2.2
    have d1 : (0 : Int) ≤ (d : Int) := by omega
    have d2 : (d : Int) < (d : Int) + 1 := by omega
    have d3 : (((d : Int) + 1) == 0) = false := by rw [beq_eq_false_iff_ne]; omega
    have d4 : (d : Int) + 1 - 1 = (d : Int) := by omega
    clear hSl hcs hc6' hT
    go_wp2_with fail
    refine (eq_lit A6 A5 c6 c5 1 [Fv] _ rfl hs6 hs5 (by simp)).mono ?_
    rintro e w5 ⟨rfl, hB6⟩
    replace hs4' := hs4'.step hB6
    replace hs5 := hs5.step hB6
    replace hB6 := hB5.trans (hB6.mono hB5.size)
    clear hB5 hs6 hc6 d1 d2 d3 d4
    obtain ⟨W0, hW0⟩ : ∃ W0, w5 = W0 := ⟨_, rfl⟩
    subst hW0
    go_wp2
    go_loopw [15] (fun i wr => ∃ q : Nat, q ≤ 2 ∧ i = .int .i64 q ∧ Below w5.heap.size w5 wr) (fun i _ => 2 - (intOf i).toNat)
    case atStart => exact ⟨0, by omega, rfl, Below.refl _ _⟩
    case round =>
      obtain ⟨q, hq, rfl, hX⟩ := hrel
      have hB1 : Below w.heap.size w wr := hB6.trans (hX.mono hB6.size)
      have hs4r := hs4'.step hX
      have hs5r := hs5.step hX
      rename World => Wq
      rcases (show q = 0 ∨ q = 1 ∨ q = 2 by omega) with rfl | rfl | rfl
      · simp only [show ((0 : Nat) : Int) = 0 from rfl]
        have hlenz : z2.length ≤ 9223372036854775807 := (by unfold Ok at k2; omega)
        go_wp2
        go_loopw [16, 17] (fun v i wr => ∃ (j : Nat) (S : List Int), j + 1 ≤ N ∧ i = .int .i64 ((N - j : Nat) : Int) ∧ S.length = j ∧ Hid (ShapeK S N j) ∧ OwnI wr Wq.heap.size v S ∧ Below Wq.heap.size Wq wr) (fun _ i _ => (intOf i).toNat)
        case atStart => exact ⟨0, [], by omega, by simp, rfl, Lib.hid (fun k hk => absurd hk (Nat.not_lt_zero k)), OwnI.empty Wq _ (Nat.le_refl _), (Below.refl _ _).alloc (Nat.le_refl _) _⟩
        case round =>
          obtain ⟨j, S, hj, rfl, hSl, HSh, hown, hBr⟩ := hrel
          by_cases hlt : j + 1 < N
          · obtain ⟨m, hm⟩ : ∃ m, N - j = m := ⟨_, rfl⟩
            rw [hm]
            have hm2 : 2 ≤ m := by omega
            have hm60 : m ≤ 60 := by omega
            have hz : Sl (wr.alloc (.cells #[.slice A2 z2.length c2, .slice A3 z3.length c3] 22)) A2 z2 := (hz2.step (hB1.trans (hBr.mono hB1.size))).below ((Below.refl wr.heap.size wr).alloc (Nat.le_refl _) _) (Nat.le_refl _)
            have C1 := bnth_any A2 c2 z2 m _ hz hlenz (by omega)
            obtain ⟨y, hy⟩ : ∃ y, nth z2 (m % z2.length) = y := ⟨_, rfl⟩
            rw [hy] at C1
            have C1 := Lib.hid C1
            have C2 : ∀ (x : Int) (W : World), Calls Tryd.prog 9 #[.int .i64 x, .int .i64 ((m : Int) - 1)] W (TurnR ((m : Int) - 2) W) := fun x W => turnR_any x (m : Int) (by omega) (by omega) W
            have C2 := Lib.hid C2
            have p1 : (1 : Int) < (m : Int) := by omega
            have hM := Lib.hid hm
            have hSl' := Lib.hid hSl
            have hSlb : S.length ≤ 60 := by omega
            clear hy hm hSl hlt hj
            go_wp2_with fail
            refine C1.out.mono ?_
            rintro e w' ⟨rfl, rfl⟩
            go_wp2_with fail
            refine (C2.out _ _).mono ?_
            rintro e w' ⟨r, hr0, hr1, rfl, hk⟩
            have hcn : ∀ (k : Nat) (u : Value), [Value.int .i64 r][k]? = some u → ((wr.alloc (.cells #[.slice A2 z2.length c2, .slice A3 z3.length c3] 22)).alloc (.cells #[.int .i64 r] 3)).cell? ((⟨wr.heap.size + 1, 0, none⟩ : Addr).add k) = some u := by
              have := cell_one_new (wr.alloc (.cells #[.slice A2 z2.length c2, .slice A3 z3.length c3] 22)) (.int .i64 r) 3
              rw [World.size_alloc] at this; exact this
            have hw := hk
            clear hk
            subst hw
            have hbx := hBr.alloc hBr.size (.cells #[.slice A2 z2.length c2, .slice A3 z3.length c3] 22)
            have hox := hown.alloc (.cells #[.slice A2 z2.length c2, .slice A3 z3.length c3] 22)
            go_wp2_with (at_builtin; refine wpList_append_own _ rfl _ _ 22 rfl Wq.heap.size 3 i0 (.int .i64 0) 1 8 Tryd.underlying22 hi hzz0 hzz1 hzz2 rfl (by decide) _ _ _ rfl (hox.alloc _) ⟨wr.heap.size + 1, 0, none⟩ 1 1 [.int .i64 r] rfl rfl hcn (by simp [Value.oneCell']) (by unfold maxLen; omega) (by omega) (by have := hBr.size; simp; omega) ?_; intro v' w2' hown' hgrow _; have hB2' := below_append hbx hbx.size hox hgrow)
            have hown2 := OwnI.snoc hown'
            clear hown' hgrow hcn hbx hox
            go_roundw
            case rel => exact ⟨j + 1, S ++ [r], by have := hM.out; omega, by rw [show ((N - (j + 1) : Nat) : Int) = (m : Int) - 1 by have := hM.out; omega], by rw [List.length_append, hSl'.out]; rfl, Lib.hid (shapeK_snoc hSl'.out HSh.out hr0 (by have := hM.out; omega)), hown2, hB2'⟩
            case measure => simp [intOf]; omega
          · have hNj : N - j = 1 := by omega
            have hSN : S.length + 1 = N := by omega
            have hShape : Shape S N := ⟨by omega, by rw [hSl]; exact HSh.out⟩
            rw [hNj]
            obtain ⟨A7, c7, rfl, hc7, hs7⟩ := hown.form
            have CTr := CT.out A4 A7 c4 c7 S wr (hI.below (hB1.trans (hBr.mono hB1.size))) (hs4r.step hBr) hc4 hs7 (by omega) hpos hShape
            rw [CT2.out S hpos hShape] at CTr
            have CTr := Lib.hid CTr
            clear hNj hSN hSl hlt hShape
            go_wp2_with fail
            refine CTr.out.mono ?_
            rintro e w6 ⟨rfl, hB7⟩
            have hX2 := hBr.trans (hB7.mono hBr.size)
            obtain ⟨b5, o5, rfl, hb5, hc5'⟩ := (hs5r.step hX2).at_ (k := 0) (by simp)
            have hc5' : w6.cell? ⟨b5, o5, none⟩ = some (.int .i64 Fv) := hc5'
            clear CTr
            go_wp2
            go_roundw
            case rel => exact ⟨0 + 1, by omega, by rfl, hX.trans (hX2.mono hX.size)⟩
            case measure => simp [intOf]
      · simp only [show ((1 : Nat) : Int) = 1 from rfl]
        have hlenz : z3.length ≤ 9223372036854775807 := (by unfold Ok at k3; omega)
        go_wp2
        go_loopw [16, 17] (fun v i wr => ∃ (j : Nat) (S : List Int), j + 1 ≤ N ∧ i = .int .i64 ((N - j : Nat) : Int) ∧ S.length = j ∧ Hid (ShapeK S N j) ∧ OwnI wr Wq.heap.size v S ∧ Below Wq.heap.size Wq wr) (fun _ i _ => (intOf i).toNat)
        case atStart => exact ⟨0, [], by omega, by simp, rfl, Lib.hid (fun k hk => absurd hk (Nat.not_lt_zero k)), OwnI.empty Wq _ (Nat.le_refl _), (Below.refl _ _).alloc (Nat.le_refl _) _⟩
        case round =>
          obtain ⟨j, S, hj, rfl, hSl, HSh, hown, hBr⟩ := hrel
          by_cases hlt : j + 1 < N
          · obtain ⟨m, hm⟩ : ∃ m, N - j = m := ⟨_, rfl⟩
            rw [hm]
            have hm2 : 2 ≤ m := by omega
            have hm60 : m ≤ 60 := by omega
            have hz : Sl (wr.alloc (.cells #[.slice A2 z2.length c2, .slice A3 z3.length c3] 22)) A3 z3 := (hz3.step (hB1.trans (hBr.mono hB1.size))).below ((Below.refl wr.heap.size wr).alloc (Nat.le_refl _) _) (Nat.le_refl _)
            have C1 := bnth_any A3 c3 z3 m _ hz hlenz (by omega)
            obtain ⟨y, hy⟩ : ∃ y, nth z3 (m % z3.length) = y := ⟨_, rfl⟩
            rw [hy] at C1
            have C1 := Lib.hid C1
            have C2 : ∀ (x : Int) (W : World), Calls Tryd.prog 9 #[.int .i64 x, .int .i64 ((m : Int) - 1)] W (TurnR ((m : Int) - 2) W) := fun x W => turnR_any x (m : Int) (by omega) (by omega) W
            have C2 := Lib.hid C2
            have p1 : (1 : Int) < (m : Int) := by omega
            have hM := Lib.hid hm
            have hSl' := Lib.hid hSl
            have hSlb : S.length ≤ 60 := by omega
            clear hy hm hSl hlt hj
            go_wp2_with fail
            refine C1.out.mono ?_
            rintro e w' ⟨rfl, rfl⟩
            go_wp2_with fail
            refine (C2.out _ _).mono ?_
            rintro e w' ⟨r, hr0, hr1, rfl, hk⟩
            have hcn : ∀ (k : Nat) (u : Value), [Value.int .i64 r][k]? = some u → ((wr.alloc (.cells #[.slice A2 z2.length c2, .slice A3 z3.length c3] 22)).alloc (.cells #[.int .i64 r] 3)).cell? ((⟨wr.heap.size + 1, 0, none⟩ : Addr).add k) = some u := by
              have := cell_one_new (wr.alloc (.cells #[.slice A2 z2.length c2, .slice A3 z3.length c3] 22)) (.int .i64 r) 3
              rw [World.size_alloc] at this; exact this
            have hw := hk
            clear hk
            subst hw
            have hbx := hBr.alloc hBr.size (.cells #[.slice A2 z2.length c2, .slice A3 z3.length c3] 22)
            have hox := hown.alloc (.cells #[.slice A2 z2.length c2, .slice A3 z3.length c3] 22)
            go_wp2_with (at_builtin; refine wpList_append_own _ rfl _ _ 22 rfl Wq.heap.size 3 i0 (.int .i64 0) 1 8 Tryd.underlying22 hi hzz0 hzz1 hzz2 rfl (by decide) _ _ _ rfl (hox.alloc _) ⟨wr.heap.size + 1, 0, none⟩ 1 1 [.int .i64 r] rfl rfl hcn (by simp [Value.oneCell']) (by unfold maxLen; omega) (by omega) (by have := hBr.size; simp; omega) ?_; intro v' w2' hown' hgrow _; have hB2' := below_append hbx hbx.size hox hgrow)
            have hown2 := OwnI.snoc hown'
            clear hown' hgrow hcn hbx hox
            go_roundw
            case rel => exact ⟨j + 1, S ++ [r], by have := hM.out; omega, by rw [show ((N - (j + 1) : Nat) : Int) = (m : Int) - 1 by have := hM.out; omega], by rw [List.length_append, hSl'.out]; rfl, Lib.hid (shapeK_snoc hSl'.out HSh.out hr0 (by have := hM.out; omega)), hown2, hB2'⟩
            case measure => simp [intOf]; omega
          · have hNj : N - j = 1 := by omega
            have hSN : S.length + 1 = N := by omega
            have hShape : Shape S N := ⟨by omega, by rw [hSl]; exact HSh.out⟩
            rw [hNj]
            obtain ⟨A7, c7, rfl, hc7, hs7⟩ := hown.form
            have CTr := CT.out A4 A7 c4 c7 S wr (hI.below (hB1.trans (hBr.mono hB1.size))) (hs4r.step hBr) hc4 hs7 (by omega) hpos hShape
            rw [CT2.out S hpos hShape] at CTr
            have CTr := Lib.hid CTr
            clear hNj hSN hSl hlt hShape
            go_wp2_with fail
            refine CTr.out.mono ?_
            rintro e w6 ⟨rfl, hB7⟩
            have hX2 := hBr.trans (hB7.mono hBr.size)
            obtain ⟨b5, o5, rfl, hb5, hc5'⟩ := (hs5r.step hX2).at_ (k := 0) (by simp)
            have hc5' : w6.cell? ⟨b5, o5, none⟩ = some (.int .i64 Fv) := hc5'
            clear CTr
            go_wp2
            go_roundw
            case rel => exact ⟨1 + 1, by omega, by rfl, hX.trans (hX2.mono hX.size)⟩
            case measure => simp [intOf]
      · go_wp2_with fail
        refine (joined_any _ (hI.below hB1)).mono ?_
        rintro e w6 ⟨rfl, hB7⟩
        go_wp2
        go_ret
        exact ⟨rfl, hB1.trans (hB7.mono hB1.size)⟩

/-! ### the row and the card -/
set_option maxRecDepth 100000
theorem own : ownKnob Tryd.prog.godebug = none := by kernel_rfl
theorem door_met (os : Os) (args : Array Value) : laidMetH Tryd.prog Rows.scanShapesRow.laid ((World.doorLaid Tryd.prog 61 os).forCall (fun _ _ => 0) ⟨#[], args, []⟩).memory :=
  laidMetH_of_parts3 (fuel := 8) (laidMet_of_run' 8 (by kernel_rfl) (by kernel_rfl)) (by kernel_rfl) (by kernel_rfl)
theorem lifted (os : Os) (started : os.Started) (H : Type) (enc : TypeId × Value → H) :
    ReturnsInHanded {} Tryd.checked os 4 .any (fun w args => (Rows.scanShapesSpec.pre enc Tryd.prog Tryd.f4 [] false w args ∧ laidMetH Tryd.prog Rows.scanShapesRow.laid w) ∧ sizedMet enc Tryd.prog Tryd.f4 (OpenSpec.ofChange Rows.scanShapesSpec) false w args)
      (Rows.scanShapesSpec.post enc Tryd.prog Tryd.f4 false true false false) := by
  refine returnsInHanded_of_change_and (C := Tryd.checked) (X := fun w _ => laidMetH Tryd.prog Rows.scanShapesRow.laid w) (fun _ _ _ hh h => h.of_heap hh) own started (by kernel_rfl) Tryd.func4
    (ChangeSpec.witness_shaped (enc := enc) (C := Tryd.checked) (os := os) (X := fun w _ => laidMetH Tryd.prog Rows.scanShapesRow.laid w) false (World.doorLaid Tryd.prog 61 os) #[.int .i64 0, .slice none 0 0, .slice none 0 0, .slice none 0 0] 8 rfl (World.shaped_of_RefB (by kernel_rfl) (by kernel_rfl)) (by kernel_rfl) (by kernel_rfl) (by kernel_rfl) (door_met os _)) ?_
  intro W base args ds gs before hval0 hW _ _ hL _
  have hval : ∀ (j : Nat) t v, Tryd.f4.params[j]? = some t → args[j]? = some v → Value.okWide Tryd.prog W .any base t v := hval0
  have hW' := hW
  obtain ⟨p, q, hA0, hV, rfl, hfz, hnd⟩ := hW
  have hA : DataW.TrodAll enc Tryd.prog W 0 (fun _ => true) true Tryd.f4.params.toList args.toList ds p := hA0
  rw [Tryd.params4] at hA hval
  obtain ⟨v0, vs0, d0, ds0, p0, q0, hargs, rfl, rfl, h0, r0⟩ := trodAll_cons hA
  obtain ⟨v1, vs1, d1, ds1, p1, q1, rfl, rfl, rfl, h1, r1⟩ := trodAll_cons r0
  obtain ⟨v2, vs2, d2, ds2, p2, q2, rfl, rfl, rfl, h2, r2⟩ := trodAll_cons r1
  obtain ⟨v3, vs3, d3, ds3, p3, q3, rfl, rfl, rfl, h3, r3⟩ := trodAll_cons r2
  obtain ⟨rfl, rfl, rfl⟩ := trodAll_nil r3
  obtain rfl : args = #[v0, v1, v2, v3] := by cases args; simp_all
  obtain ⟨rfl, rfl⟩ := trodVars_none hV
  clear hA0 hval0
  simp only [List.append_nil] at hW'
  obtain ⟨a0, rfl, rfl, rfl, w0⟩ := open_int Tryd.underlying3 (hval 0 3 v0 rfl rfl) h0
  have hlt1 : ∀ x ∈ p1, x.block < W.heap.size := fun x hx => by simpa using hW'.lt x (by simp [hx])
  have hg1 : ∀ (W' : World), Below W.heap.size W W' → DataW.Trod enc Tryd.prog W' 0 (fun b => decide (b < W.heap.size)) true 22 v1 d1 p1 :=
    fun W' hn => Below.trod Tryd.laidOut (by kernel_rfl) (of_decide_eq_true (by kernel_rfl)) h1 hn hlt1
  obtain ⟨A1, c1, z1, rfl, hle1, hmx1, hS1, hR1⟩ := open_sl (hval 1 22 v1 rfl rfl) h1 hlt1
  have hlt2 : ∀ x ∈ p2, x.block < W.heap.size := fun x hx => by simpa using hW'.lt x (by simp [hx])
  have hg2 : ∀ (W' : World), Below W.heap.size W W' → DataW.Trod enc Tryd.prog W' 0 (fun b => decide (b < W.heap.size)) true 22 v2 d2 p2 :=
    fun W' hn => Below.trod Tryd.laidOut (by kernel_rfl) (of_decide_eq_true (by kernel_rfl)) h2 hn hlt2
  obtain ⟨A2, c2, z2, rfl, hle2, hmx2, hS2, hR2⟩ := open_sl (hval 2 22 v2 rfl rfl) h2 hlt2
  have hlt3 : ∀ x ∈ p3, x.block < W.heap.size := fun x hx => by simpa using hW'.lt x (by simp [hx])
  have hg3 : ∀ (W' : World), Below W.heap.size W W' → DataW.Trod enc Tryd.prog W' 0 (fun b => decide (b < W.heap.size)) true 22 v3 d3 p3 :=
    fun W' hn => Below.trod Tryd.laidOut (by kernel_rfl) (of_decide_eq_true (by kernel_rfl)) h3 hn hlt3
  obtain ⟨A3, c3, z3, rfl, hle3, hmx3, hS3, hR3⟩ := open_sl (hval 3 22 v3 rfl rfl) h3 hlt3
  refine (walk a0 A1 c1 z1 A2 c2 z2 A3 c3 z3 W (of_laid hL) hS1 hle1 (by unfold Ok; omega) hS2 hle2 (by unfold Ok; omega) hS3 hle3 (by unfold Ok; omega)).mono fun e W' ⟨he, hB⟩ => ?_
  subst he
  exact ⟨_, rfl, _, _, _, [], _, [], hW', trodAll_cons_mk (shut_bool Tryd.underlying4 _) trodAll_mk0, trodAll_cons_mk (shut_int Tryd.underlying3 w0) (trodAll_cons_mk (hg1 _ hB) (trodAll_cons_mk (hg2 _ hB) (trodAll_cons_mk (hg3 _ hB) trodAll_mk0))), rfl, hB.frame _, fun h => by cases h⟩
theorem holds : Rows.ScanShapesSaid :=
  OpenClaim.holds_of_wide 4 Tryd.f4 rfl rfl rfl rfl rfl rfl rfl ⟨rfl, rfl, rfl, rfl, rfl⟩ rfl rfl rfl rfl rfl (by kernel_rfl) Tryd.func4 (by kernel_rfl)
    (of_decide_eq_true (by kernel_rfl)) (by unfold Func.isWrapper; first | (rw [if_pos (by decide +kernel)]; kernel_rfl) | (rw [if_neg (by decide +kernel)]; exact ⟨rfl, rfl⟩))
    (fun os started H enc _ => lifted os started H enc)
theorem proved : Rows.ScanShapesCardSaid :=
  Claim7.holds_tied_plain_at .later [] [.data] true (true, "165e170aa6ce182620764f5d03f9346384cc021ccbd43512c2f1c96f23b5a8e5") false
    holds (fun _ h => by cases h) (by kernel_rfl) (fun _ h => by cases h) scanShapes_row_tie rfl ⟨rfl, rfl⟩ (by kernel_rfl) rfl
    (fun f fn hf hfn => by
      obtain rfl : f = 4 := Option.some.inj ((show Tryd.prog.funcNamed "sheafworks/sheafworkslaw05.ScanShapes" = some 4 by kernel_rfl).symm.trans hf) |>.symm
      obtain rfl : fn = Tryd.f4 := (Option.some.inj (Tryd.func4.symm.trans hfn)).symm
      exact ⟨by kernel_rfl, fun j t ht => by
        rw [Tryd.params4] at ht
        have hm : t ∈ [3, 22] := by
          have := Array.mem_of_getElem? ht
          simpa using this
        have hall : ([3, 22].all fun u => !Tryd.prog.wantsStandIn u) = true := by kernel_rfl
        exact (show Tryd.prog.wantsStandIn t = false by simpa using List.all_eq_true.1 hall t hm)⟩)
    (by kernel_rfl)
#print axioms proved
end Go.Proofs.YtecpanppnljkhaaDoor.scanShapes
