/- ScanFlags: Join and Flagged, for any number, any two flagged words, and any slice of flagged words that can be read: the law's call returns true, and they read as they did. No condition but the row's own (the listed table holds what the text says). -/
import Derived.Test.YtecpanppnljkhaaGreatDoorZo
import Derived.Test.YtecpanppnljkhaaGreatDoorTie
import Derived.Test.YtecpanppnljkhaaGreatDoorCards
import Derived.ChangeMaps5
namespace Go.Proofs.YtecpanppnljkhaaGreatDoor.scanFlags
open Go.ChangeShapes Go.WideShapes Go.ChangeAt Go.RowKit Go.ChangeMaps
set_option linter.unusedVariables false
theorem same_lit (A A' : Option Addr) (c c' n : Nat) (l : List (Bool × Int)) (w : World) (hn : l.length = n) (h : SlF w A l) (h' : SlF w A' l) (hl : n ≤ 9223372036854775807) :
    Calls Tryz.prog 28 #[.slice A n c, .slice A' n c'] w fun e w' => e = .returned (.bool true) ∧ Below w.heap.size w w' := by
  subst hn
  refine (same_refl A A' c c' l w h h' hl).mono ?_
  rintro e w' ⟨rfl, m, rfl⟩
  exact ⟨rfl, below_drewN' w m⟩
set_option maxRecDepth 100000 in
set_option maxHeartbeats 40000000 in
theorem walk (op : Int) (p : Bool) (m : Int) (q : Bool) (n : Int) (A : Option Addr) (c : Nat) (l : List (Bool × Int)) (w : World) (hI : Inv w) (h : SlF w A l) (hc : l.length ≤ c) (kl : l.length ≤ 9223372036854775807) :
    Calls Tryz.prog 6 #[.int .i64 op, .agg #[.bool p, .int .i64 m], .agg #[.bool q, .int .i64 n], .slice A l.length c] w (Ret (.bool true) w) := by
  have J1 := fun W hW => joinF_any op p q m n W hW
  have J2 := fun W => rjoin_any op p q m n W
  have F1 := fun W hW hs => flagged_any op A c l W hW hs hc kl
  have F2 := fun W hs => rflagged_any op A c l W hs hc kl
  have hLl : (flO op l).length ≤ 9223372036854775807 := by
    unfold flO
    split
    · rw [flL_length]; exact kl
    · simp
  obtain ⟨E, hE⟩ : ∃ E, jE op m n = E := ⟨_, rfl⟩
  obtain ⟨v, hv⟩ : ∃ v, jV op (p, m) (q, n) = v := ⟨_, rfl⟩
  obtain ⟨E2, hE2⟩ : ∃ E, flE op l = E := ⟨_, rfl⟩
  obtain ⟨LL, hLL⟩ : ∃ L, flO op l = L := ⟨_, rfl⟩
  obtain ⟨v1, v2⟩ := v
  simp only [hE, hv] at J1 J2
  replace J1 : ∀ W, Inv W → Calls Tryz.prog 24 #[.int .i64 op, .agg #[.bool p, .int .i64 m], .agg #[.bool q, .int .i64 n]] W (fun e w' => e = .returned (.tuple #[.agg #[.bool v1, .int .i64 v2], .int .i64 E]) ∧ Below W.heap.size W w') := J1
  replace J2 : ∀ W, Calls Tryz.prog 25 #[.int .i64 op, .agg #[.bool p, .int .i64 m], .agg #[.bool q, .int .i64 n]] W (fun e w' => e = .returned (.tuple #[.agg #[.bool v1, .int .i64 v2], .int .i64 E]) ∧ Below W.heap.size W w') := J2
  simp only [hE2, hLL] at F1 F2
  rw [hLL] at hLl
  have J1 := Lib.hid J1; have J2 := Lib.hid J2; have F1 := Lib.hid F1; have F2 := Lib.hid F2
  clear hE hv hE2 hLL
  have b1 := (Blk.new w 41 #[.bool p, .int .i64 m]).alloc (.cells #[.bool q, .int .i64 n] 41)
  have b2 := Blk.new (w.alloc (.cells #[.bool p, .int .i64 m] 41)) 41 #[.bool q, .int .i64 n]
  simp only [World.size_alloc] at b2
  have hB : Below w.heap.size w ((w.alloc (.cells #[.bool p, .int .i64 m] 41)).alloc (.cells #[.bool q, .int .i64 n] 41)) := ((Below.refl _ _).alloc (Nat.le_refl _) _).alloc (by simp) _
  obtain ⟨W0, hW0⟩ : ∃ W0, ((w.alloc (.cells #[.bool p, .int .i64 m] 41)).alloc (.cells #[.bool q, .int .i64 n] 41)) = W0 := ⟨_, rfl⟩
  rw [hW0] at b1 b2 hB
  have u00 := b1.cell 0
  have u01 := b1.cell 1
  have u10 := b2.cell 0
  have u11 := b2.cell 1
  simp at u00 u01 u10 u11
  go_enter Tryz.func6, Tryz.ntmps6
  go_wp2_with fail
  refine (J1.out _ (hI.below hB)).mono ?_
  rintro e w1 ⟨rfl, hBx⟩
  clear u00 u01 u10 u11 J1
  replace b1 := (b1.below hBx b1.lt).alloc (.cells #[.bool v1, .int .i64 v2] 41)
  replace b2 := (b2.below hBx b2.lt).alloc (.cells #[.bool v1, .int .i64 v2] 41)
  have b3 := Blk.new w1 41 #[.bool v1, .int .i64 v2]
  replace hB := (hB.trans (hBx.mono hB.size))
  clear hBx
  replace hB := hB.alloc hB.size (.cells #[.bool v1, .int .i64 v2] 41)
  have u00 := b1.cell 0
  have u01 := b1.cell 1
  have u10 := b2.cell 0
  have u11 := b2.cell 1
  simp at u00 u01 u10 u11
  go_wp2_with fail
  refine (J2.out _).mono ?_
  rintro e w2 ⟨rfl, hBx⟩
  clear u00 u01 u10 u11 J2 b1 b2
  replace b3 := (b3.below hBx b3.lt).alloc (.cells #[.bool v1, .int .i64 v2] 41)
  have b4 := Blk.new w2 41 #[.bool v1, .int .i64 v2]
  replace hB := (hB.trans (hBx.mono hB.size))
  clear hBx
  replace hB := hB.alloc hB.size (.cells #[.bool v1, .int .i64 v2] 41)
  go_wp2_with fail
  refine (F1.out _ (hI.below hB) (h.step hB)).mono ?_
  rintro e w3 ⟨A5, c5, rfl, hc5, hs5, hBx⟩
  replace b3 := b3.below hBx b3.lt
  replace b4 := b4.below hBx b4.lt
  replace hB := (hB.trans (hBx.mono hB.size))
  clear hBx F1
  go_wp2_with fail
  refine (F2.out _ (h.step hB)).mono ?_
  rintro e w4 ⟨A6, c6, rfl, hc6, hs6, hBx⟩
  replace b3 := b3.below hBx b3.lt
  replace b4 := b4.below hBx b4.lt
  replace hs5 := hs5.step hBx
  replace hB := (hB.trans (hBx.mono hB.size))
  clear hBx F2
  have u00 : w4.cell? ⟨w1.heap.size, 0, none⟩ = some (.bool v1) := b3.cell 0
  have u01 : w4.cell? ⟨w1.heap.size, 1, none⟩ = some (.int .i64 v2) := b3.cell 1
  have u10 : w4.cell? ⟨w2.heap.size, 0, none⟩ = some (.bool v1) := b4.cell 0
  have u11 : w4.cell? ⟨w2.heap.size, 1, none⟩ = some (.int .i64 v2) := b4.cell 1
  go_wp2_with fail
  refine (same_lit A5 A6 c5 c6 LL.length LL _ rfl hs5 hs6 hLl).mono ?_
  rintro e w5 ⟨rfl, hBx⟩
  replace hB := (hB.trans (hBx.mono hB.size))
  clear hBx u00 u01 u10 u11 hs5 hs6
  go_wp2_with fail
  refine (joined_any _ (hI.below hB)).mono ?_
  rintro e w17 ⟨rfl, hBx⟩
  go_wp2
  go_ret
  exact ⟨rfl, hB.trans (hBx.mono hB.size)⟩

/-! ### the row and the card -/
set_option maxRecDepth 100000
theorem own : ownKnob Tryz.prog.godebug = none := by kernel_rfl
theorem door_met (os : Os) (args : Array Value) : laidMetH Tryz.prog Rows.scanFlagsRow.laid ((World.doorLaid Tryz.prog 61 os).forCall (fun _ _ => 0) ⟨#[], args, []⟩).memory :=
  laidMetH_of_parts3 (fuel := 8) (laidMet_of_run' 8 (by kernel_rfl) (by kernel_rfl)) (by kernel_rfl) (by kernel_rfl)
theorem lifted (os : Os) (started : os.Started) (H : Type) (enc : TypeId × Value → H) :
    ReturnsInHanded {} Tryz.checked os 6 .any (fun w args => (Rows.scanFlagsSpec.pre enc Tryz.prog Tryz.f6 [] false w args ∧ laidMetH Tryz.prog Rows.scanFlagsRow.laid w) ∧ sizedMet enc Tryz.prog Tryz.f6 (OpenSpec.ofChange Rows.scanFlagsSpec) false w args)
      (Rows.scanFlagsSpec.post enc Tryz.prog Tryz.f6 false true false false) := by
  refine returnsInHanded_of_change_and (C := Tryz.checked) (X := fun w _ => laidMetH Tryz.prog Rows.scanFlagsRow.laid w) (fun _ _ _ hh h => h.of_heap hh) own started (by kernel_rfl) Tryz.func6
    (ChangeSpec.witness_shaped (enc := enc) (C := Tryz.checked) (os := os) (X := fun w _ => laidMetH Tryz.prog Rows.scanFlagsRow.laid w) false (World.doorLaid Tryz.prog 61 os) #[.int .i64 0, .agg #[.bool false, .int .i64 0], .agg #[.bool false, .int .i64 0], .slice none 0 0] 8 rfl (World.shaped_of_RefB (by kernel_rfl) (by kernel_rfl)) (by kernel_rfl) (by kernel_rfl) (by kernel_rfl) (door_met os _)) ?_
  intro W base args ds gs before hval0 hW _ _ hL _
  have hval : ∀ (j : Nat) t v, Tryz.f6.params[j]? = some t → args[j]? = some v → Value.okWide Tryz.prog W .any base t v := hval0
  have hW' := hW
  obtain ⟨p, q, hA0, hV, rfl, hfz, hnd⟩ := hW
  have hA : DataW.TrodAll enc Tryz.prog W 0 (fun _ => true) true Tryz.f6.params.toList args.toList ds p := hA0
  rw [Tryz.params6] at hA hval
  obtain ⟨v0, vs0, d0, ds0, p0, q0, hargs, rfl, rfl, h0, r0⟩ := trodAll_cons hA
  obtain ⟨v1, vs1, d1, ds1, p1, q1, rfl, rfl, rfl, h1, r1⟩ := trodAll_cons r0
  obtain ⟨v2, vs2, d2, ds2, p2, q2, rfl, rfl, rfl, h2, r2⟩ := trodAll_cons r1
  obtain ⟨v3, vs3, d3, ds3, p3, q3, rfl, rfl, rfl, h3, r3⟩ := trodAll_cons r2
  obtain ⟨rfl, rfl, rfl⟩ := trodAll_nil r3
  obtain rfl : args = #[v0, v1, v2, v3] := by cases args; simp_all
  obtain ⟨rfl, rfl⟩ := trodVars_none hV
  clear hA0 hval0
  simp only [List.append_nil] at hW'
  obtain ⟨a0, rfl, rfl, rfl, w0⟩ := open_int Tryz.underlying3 (hval 0 3 v0 rfl rfl) h0
  obtain ⟨p10, x10, rfl, rfl, rfl, w10⟩ := open_flag (hval 1 41 v1 rfl rfl) h1
  obtain ⟨p20, x20, rfl, rfl, rfl, w20⟩ := open_flag (hval 2 41 v2 rfl rfl) h2
  have hlt3 : ∀ x ∈ p3, x.block < W.heap.size := fun x hx => by simpa using hW'.lt x (by simp [hx])
  have hg3 : ∀ (W' : World), Below W.heap.size W W' → DataW.Trod enc Tryz.prog W' 0 (fun b => decide (b < W.heap.size)) true 42 v3 d3 p3 :=
    fun W' hn => Below.trod Tryz.laidOut (by kernel_rfl) (of_decide_eq_true (by kernel_rfl)) h3 hn hlt3
  obtain ⟨A3, c3, z3, rfl, hle3, hmx3, hS3, hR3⟩ := open_slf (hval 3 42 v3 rfl rfl) h3 hlt3
  refine (walk a0 p10 x10 p20 x20 A3 c3 z3 W (of_laid hL) hS3 hle3 (by omega)).mono fun e W' ⟨he, hB⟩ => ?_
  subst he
  exact ⟨_, rfl, _, _, _, [], _, [], hW', trodAll_cons_mk (shut_bool Tryz.underlying4 _) trodAll_mk0, trodAll_cons_mk (shut_int Tryz.underlying3 w0) (trodAll_cons_mk (shut_flag w10) (trodAll_cons_mk (shut_flag w20) (trodAll_cons_mk (hg3 _ hB) trodAll_mk0))), rfl, hB.frame _, fun h => by cases h⟩
theorem holds : Rows.ScanFlagsSaid :=
  OpenClaim.holds_of_wide 6 Tryz.f6 rfl rfl rfl rfl rfl rfl rfl ⟨rfl, rfl, rfl, rfl, rfl⟩ rfl rfl rfl rfl rfl (by kernel_rfl) Tryz.func6 (by kernel_rfl)
    (of_decide_eq_true (by kernel_rfl)) (by unfold Func.isWrapper; first | (rw [if_pos (by decide +kernel)]; kernel_rfl) | (rw [if_neg (by decide +kernel)]; exact ⟨rfl, rfl⟩))
    (fun os started H enc _ => lifted os started H enc)
theorem proved : Rows.ScanFlagsCardSaid :=
  Claim7.holds_tied_plain_at .later [] [.data] true (true, "39db146c1ea4f99e319f61b0ca8fb22d700a93142eae72cffab67917881868a7") false
    holds (fun _ h => by cases h) (by kernel_rfl) (fun _ h => by cases h) scanFlags_row_tie rfl ⟨rfl, rfl⟩ (by kernel_rfl) rfl
    (fun f fn hf hfn => by
      obtain rfl : f = 6 := Option.some.inj ((show Tryz.prog.funcNamed "sheafworks/sheafworkslaw05.ScanFlags" = some 6 by kernel_rfl).symm.trans hf) |>.symm
      obtain rfl : fn = Tryz.f6 := (Option.some.inj (Tryz.func6.symm.trans hfn)).symm
      exact ⟨by kernel_rfl, fun j t ht => by
        rw [Tryz.params6] at ht
        have hm : t ∈ [3, 41, 41, 42] := by
          have := Array.mem_of_getElem? ht
          simpa using this
        have hall : ([3, 41, 41, 42].all fun u => !Tryz.prog.wantsStandIn u) = true := by kernel_rfl
        exact (show Tryz.prog.wantsStandIn t = false by simpa using List.all_eq_true.1 hall t hm)⟩)
    (by kernel_rfl)
#print axioms proved
end Go.Proofs.YtecpanppnljkhaaGreatDoor.scanFlags
