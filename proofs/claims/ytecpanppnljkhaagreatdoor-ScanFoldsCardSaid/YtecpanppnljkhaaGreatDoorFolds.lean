/- ScanFolds: Fold, Scan and Through, for any number, and any two slices of ints that can be read: the law's call returns true, and they read as they did. No condition but the row's own (the listed table holds what the text says). -/
import Derived.Test.YtecpanppnljkhaaGreatDoorZa
import Derived.Test.YtecpanppnljkhaaGreatDoorTie
import Derived.Test.YtecpanppnljkhaaGreatDoorCards
import Derived.ChangeMaps5
namespace Go.Proofs.YtecpanppnljkhaaGreatDoor.scanFolds
open Go.ChangeShapes Go.WideShapes Go.ChangeAt Go.RowKit Go.ChangeMaps
set_option linter.unusedVariables false
set_option maxRecDepth 100000 in
set_option maxHeartbeats 40000000 in
theorem walk (op : Int) (A1 : Option Addr) (c1 : Nat) (z1 : List Int) (A2 : Option Addr) (c2 : Nat) (z2 : List Int) (w : World) (hI : Inv w) (h1 : Sl w A1 z1) (hc1 : z1.length ≤ c1) (k1 : Ok z1) (h2 : Sl w A2 z2) (hc2 : z2.length ≤ c2) (k2 : Ok z2) :
    Calls Tryz.prog 3 #[.int .i64 op, .slice A1 z1.length c1, .slice A2 z2.length c2] w (Ret (.bool true) w) := by
  have F1 := fun W hW h h' => fold_any op A1 A2 c2 c1 z1 z2 W hW h hc1 k1 h' hc2 k2
  have S1 := fun W hW h h' => scan_any op A1 A2 c2 c1 z1 z2 W hW h hc1 k1 h' hc2 k2
  have T1 := fun W hW h h' => through_any op A1 A2 c2 c1 z1 z2 W hW h hc1 k1 h' hc2 k2
  have F2 := fun W h h' => rfold_any op A1 A2 c2 c1 z1 z2 W h hc1 k1 h' hc2 k2
  have S2 := fun W h h' => rscan_any op A1 A2 c2 c1 z1 z2 W h hc1 k1 h' hc2 k2
  have T2 := fun W h h' => rthru_any op A1 A2 c2 c1 z1 z2 W h hc1 k1 h' hc2 k2
  have lF : (orL (fsE op z1 z2) (kpK (whL (doN op) (neN op)) z1 z2 z2.length)).length ≤ 9223372036854775807 := by
    by_cases he : fsE op z1 z2 = 0
    · rw [he, orL_ok]
      have hb : (kpK (whL (doN op) (neN op)) z1 z2 z2.length).length ≤ 1048576 := by rw [kp_len_one (fun _ => rfl)]; exact (fsE_ok he).2.few
      omega
    · rw [orL_err _ he]; simp
  obtain ⟨LF, eF⟩ : ∃ L, orL (fsE op z1 z2) (kpK (whL (doN op) (neN op)) z1 z2 z2.length) = L := ⟨_, rfl⟩
  simp only [eF] at F1 F2 lF
  clear eF
  have lS : (orL (fsE op z1 z2) (kpK (ahL (doN op) (neN op)) z1 z2 z2.length)).length ≤ 9223372036854775807 := by
    by_cases he : fsE op z1 z2 = 0
    · rw [he, orL_ok]
      have hb : (kpK (ahL (doN op) (neN op)) z1 z2 z2.length).length ≤ 1048576 := by rw [(fsE_ok he).2.kp_len (f := ahL (doN op) (neN op)) (fun s => mk_length _ _) _ (Nat.le_refl _), (fsE_ok he).2.ofs_all]; exact (fsE_ok he).2.short
      omega
    · rw [orL_err _ he]; simp
  obtain ⟨LS, eS⟩ : ∃ L, orL (fsE op z1 z2) (kpK (ahL (doN op) (neN op)) z1 z2 z2.length) = L := ⟨_, rfl⟩
  simp only [eS] at S1 S2 lS
  clear eS
  have lT : (orL (fsE op z1 z2) (kpK (upL' (doN op) (neN op)) z1 z2 z2.length)).length ≤ 9223372036854775807 := by
    by_cases he : fsE op z1 z2 = 0
    · rw [he, orL_ok]
      have hb : (kpK (upL' (doN op) (neN op)) z1 z2 z2.length).length ≤ 1048576 := by rw [(fsE_ok he).2.kp_len (f := upL' (doN op) (neN op)) (fun s => mk_length _ _) _ (Nat.le_refl _), (fsE_ok he).2.ofs_all]; exact (fsE_ok he).2.short
      omega
    · rw [orL_err _ he]; simp
  obtain ⟨LT, eT⟩ : ∃ L, orL (fsE op z1 z2) (kpK (upL' (doN op) (neN op)) z1 z2 z2.length) = L := ⟨_, rfl⟩
  simp only [eT] at T1 T2 lT
  clear eT
  obtain ⟨s, hs⟩ : ∃ s, fsE op z1 z2 = s := ⟨_, rfl⟩
  simp only [hs] at F1 S1 T1 F2 S2 T2
  have F1 := Lib.hid F1; have S1 := Lib.hid S1; have T1 := Lib.hid T1; have F2 := Lib.hid F2; have S2 := Lib.hid S2; have T2 := Lib.hid T2
  have hB : Below w.heap.size w w := Below.refl _ _
  clear hs
  go_enter Tryz.func3, Tryz.ntmps3
  go_wp2_with fail
  refine (F1.out _ (hI.below hB) h1 h2).mono ?_
  rintro e w1 ⟨ArF1, crF1, rfl, hcrF1, rF1, hBx⟩
  replace h1 := h1.step hBx
  replace h2 := h2.step hBx
  replace hB := hB.trans (hBx.mono hB.size)
  clear hBx
  clear F1
  go_wp2_with fail
  refine (F2.out _ h1 h2).mono ?_
  rintro e w2 ⟨ArF2, crF2, rfl, hcrF2, rF2, hBx⟩
  replace h1 := h1.step hBx
  replace h2 := h2.step hBx
  replace rF1 := rF1.step hBx
  replace hB := hB.trans (hBx.mono hB.size)
  clear hBx
  clear F2
  go_wp2_with fail
  refine (S1.out _ (hI.below hB) h1 h2).mono ?_
  rintro e w3 ⟨ArS1, crS1, rfl, hcrS1, rS1, hBx⟩
  replace h1 := h1.step hBx
  replace h2 := h2.step hBx
  replace rF1 := rF1.step hBx
  replace rF2 := rF2.step hBx
  replace hB := hB.trans (hBx.mono hB.size)
  clear hBx
  clear S1
  go_wp2_with fail
  refine (S2.out _ h1 h2).mono ?_
  rintro e w4 ⟨v4, rfl, hown, hBx⟩
  obtain ⟨ArS2, crS2, rfl, hcrS2, rS2⟩ := hown.form
  clear hown
  replace h1 := h1.step hBx
  replace h2 := h2.step hBx
  replace rF1 := rF1.step hBx
  replace rF2 := rF2.step hBx
  replace rS1 := rS1.step hBx
  replace hB := hB.trans (hBx.mono hB.size)
  clear hBx
  clear S2
  go_wp2_with fail
  refine (T1.out _ (hI.below hB) h1 h2).mono ?_
  rintro e w5 ⟨ArT1, crT1, rfl, hcrT1, rT1, hBx⟩
  replace h1 := h1.step hBx
  replace h2 := h2.step hBx
  replace rF1 := rF1.step hBx
  replace rF2 := rF2.step hBx
  replace rS1 := rS1.step hBx
  replace rS2 := rS2.step hBx
  replace hB := hB.trans (hBx.mono hB.size)
  clear hBx
  clear T1
  go_wp2_with fail
  refine (T2.out _ h1 h2).mono ?_
  rintro e w6 ⟨ArT2, crT2, rfl, hcrT2, rT2, hBx⟩
  replace h1 := h1.step hBx
  replace h2 := h2.step hBx
  replace rF1 := rF1.step hBx
  replace rF2 := rF2.step hBx
  replace rS1 := rS1.step hBx
  replace rS2 := rS2.step hBx
  replace rT1 := rT1.step hBx
  replace hB := hB.trans (hBx.mono hB.size)
  clear hBx
  clear T2
  clear h1 h2
  go_wp2_with fail
  refine (eq_lit ArF1 ArF2 crF1 crF2 LF.length LF _ rfl rF1 rF2 lF).mono ?_
  rintro e w7 ⟨rfl, hBx⟩
  clear rF1 rF2
  replace rS1 := rS1.step hBx
  replace rS2 := rS2.step hBx
  replace rT1 := rT1.step hBx
  replace rT2 := rT2.step hBx
  replace hB := hB.trans (hBx.mono hB.size)
  clear hBx
  go_wp2_with fail
  refine (eq_lit ArS1 ArS2 crS1 crS2 LS.length LS _ rfl rS1 rS2 lS).mono ?_
  rintro e w8 ⟨rfl, hBx⟩
  clear rS1 rS2
  replace rT1 := rT1.step hBx
  replace rT2 := rT2.step hBx
  replace hB := hB.trans (hBx.mono hB.size)
  clear hBx
  go_wp2_with fail
  refine (eq_lit ArT1 ArT2 crT1 crT2 LT.length LT _ rfl rT1 rT2 lT).mono ?_
  rintro e w9 ⟨rfl, hBx⟩
  clear rT1 rT2
  replace hB := hB.trans (hBx.mono hB.size)
  clear hBx
  go_wp2_with fail
  refine (joined_any _ (hI.below hB)).mono ?_
  rintro e w17 ⟨rfl, hBx⟩
  go_wp2
  go_ret
  exact ⟨rfl, hB.trans (hBx.mono hB.size)⟩

/-! ### the row and the card -/
set_option maxRecDepth 100000
theorem own : ownKnob Tryz.prog.godebug = none := by kernel_rfl
theorem door_met (os : Os) (args : Array Value) : laidMetH Tryz.prog Rows.scanFoldsRow.laid ((World.doorLaid Tryz.prog 61 os).forCall (fun _ _ => 0) ⟨#[], args, []⟩).memory :=
  laidMetH_of_parts3 (fuel := 8) (laidMet_of_run' 8 (by kernel_rfl) (by kernel_rfl)) (by kernel_rfl) (by kernel_rfl)
theorem lifted (os : Os) (started : os.Started) (H : Type) (enc : TypeId × Value → H) :
    ReturnsInHanded {} Tryz.checked os 3 .any (fun w args => (Rows.scanFoldsSpec.pre enc Tryz.prog Tryz.f3 [] false w args ∧ laidMetH Tryz.prog Rows.scanFoldsRow.laid w) ∧ sizedMet enc Tryz.prog Tryz.f3 (OpenSpec.ofChange Rows.scanFoldsSpec) false w args)
      (Rows.scanFoldsSpec.post enc Tryz.prog Tryz.f3 false true false false) := by
  refine returnsInHanded_of_change_and (C := Tryz.checked) (X := fun w _ => laidMetH Tryz.prog Rows.scanFoldsRow.laid w) (fun _ _ _ hh h => h.of_heap hh) own started (by kernel_rfl) Tryz.func3
    (ChangeSpec.witness_shaped (enc := enc) (C := Tryz.checked) (os := os) (X := fun w _ => laidMetH Tryz.prog Rows.scanFoldsRow.laid w) false (World.doorLaid Tryz.prog 61 os) #[.int .i64 0, .slice none 0 0, .slice none 0 0] 8 rfl (World.shaped_of_RefB (by kernel_rfl) (by kernel_rfl)) (by kernel_rfl) (by kernel_rfl) (by kernel_rfl) (door_met os _)) ?_
  intro W base args ds gs before hval0 hW _ _ hL _
  have hval : ∀ (j : Nat) t v, Tryz.f3.params[j]? = some t → args[j]? = some v → Value.okWide Tryz.prog W .any base t v := hval0
  have hW' := hW
  obtain ⟨p, q, hA0, hV, rfl, hfz, hnd⟩ := hW
  have hA : DataW.TrodAll enc Tryz.prog W 0 (fun _ => true) true Tryz.f3.params.toList args.toList ds p := hA0
  rw [Tryz.params3] at hA hval
  obtain ⟨v0, vs0, d0, ds0, p0, q0, hargs, rfl, rfl, h0, r0⟩ := trodAll_cons hA
  obtain ⟨v1, vs1, d1, ds1, p1, q1, rfl, rfl, rfl, h1, r1⟩ := trodAll_cons r0
  obtain ⟨v2, vs2, d2, ds2, p2, q2, rfl, rfl, rfl, h2, r2⟩ := trodAll_cons r1
  obtain ⟨rfl, rfl, rfl⟩ := trodAll_nil r2
  obtain rfl : args = #[v0, v1, v2] := by cases args; simp_all
  obtain ⟨rfl, rfl⟩ := trodVars_none hV
  clear hA0 hval0
  simp only [List.append_nil] at hW'
  obtain ⟨a0, rfl, rfl, rfl, w0⟩ := open_int Tryz.underlying3 (hval 0 3 v0 rfl rfl) h0
  have hlt1 : ∀ x ∈ p1, x.block < W.heap.size := fun x hx => by simpa using hW'.lt x (by simp [hx])
  have hg1 : ∀ (W' : World), Below W.heap.size W W' → DataW.Trod enc Tryz.prog W' 0 (fun b => decide (b < W.heap.size)) true 22 v1 d1 p1 :=
    fun W' hn => Below.trod Tryz.laidOut (by kernel_rfl) (of_decide_eq_true (by kernel_rfl)) h1 hn hlt1
  obtain ⟨A1, c1, z1, rfl, hle1, hmx1, hS1, hR1⟩ := open_sl (hval 1 22 v1 rfl rfl) h1 hlt1
  have hlt2 : ∀ x ∈ p2, x.block < W.heap.size := fun x hx => by simpa using hW'.lt x (by simp [hx])
  have hg2 : ∀ (W' : World), Below W.heap.size W W' → DataW.Trod enc Tryz.prog W' 0 (fun b => decide (b < W.heap.size)) true 22 v2 d2 p2 :=
    fun W' hn => Below.trod Tryz.laidOut (by kernel_rfl) (of_decide_eq_true (by kernel_rfl)) h2 hn hlt2
  obtain ⟨A2, c2, z2, rfl, hle2, hmx2, hS2, hR2⟩ := open_sl (hval 2 22 v2 rfl rfl) h2 hlt2
  refine (walk a0 A1 c1 z1 A2 c2 z2 W (of_laid hL) hS1 hle1 (by unfold Ok; omega) hS2 hle2 (by unfold Ok; omega)).mono fun e W' ⟨he, hB⟩ => ?_
  subst he
  exact ⟨_, rfl, _, _, _, [], _, [], hW', trodAll_cons_mk (shut_bool Tryz.underlying4 _) trodAll_mk0, trodAll_cons_mk (shut_int Tryz.underlying3 w0) (trodAll_cons_mk (hg1 _ hB) (trodAll_cons_mk (hg2 _ hB) trodAll_mk0)), rfl, hB.frame _, fun h => by cases h⟩
theorem holds : Rows.ScanFoldsSaid :=
  OpenClaim.holds_of_wide 3 Tryz.f3 rfl rfl rfl rfl rfl rfl rfl ⟨rfl, rfl, rfl, rfl, rfl⟩ rfl rfl rfl rfl rfl (by kernel_rfl) Tryz.func3 (by kernel_rfl)
    (of_decide_eq_true (by kernel_rfl)) (by unfold Func.isWrapper; first | (rw [if_pos (by decide +kernel)]; kernel_rfl) | (rw [if_neg (by decide +kernel)]; exact ⟨rfl, rfl⟩))
    (fun os started H enc _ => lifted os started H enc)
theorem proved : Rows.ScanFoldsCardSaid :=
  Claim7.holds_tied_plain_at .later [] [.data] true (true, "39db146c1ea4f99e319f61b0ca8fb22d700a93142eae72cffab67917881868a7") false
    holds (fun _ h => by cases h) (by kernel_rfl) (fun _ h => by cases h) scanFolds_row_tie rfl ⟨rfl, rfl⟩ (by kernel_rfl) rfl
    (fun f fn hf hfn => by
      obtain rfl : f = 3 := Option.some.inj ((show Tryz.prog.funcNamed "sheafworks/sheafworkslaw05.ScanFolds" = some 3 by kernel_rfl).symm.trans hf) |>.symm
      obtain rfl : fn = Tryz.f3 := (Option.some.inj (Tryz.func3.symm.trans hfn)).symm
      exact ⟨by kernel_rfl, fun j t ht => by
        rw [Tryz.params3] at ht
        have hm : t ∈ [3, 22, 22] := by
          have := Array.mem_of_getElem? ht
          simpa using this
        have hall : ([3, 22, 22].all fun u => !Tryz.prog.wantsStandIn u) = true := by kernel_rfl
        exact (show Tryz.prog.wantsStandIn t = false by simpa using List.all_eq_true.1 hall t hm)⟩)
    (by kernel_rfl)
#print axioms proved
end Go.Proofs.YtecpanppnljkhaaGreatDoor.scanFolds
