/- WordDivides: the theorem of the division, for any two numbers as words: the quotient times the divisor and the remainder are what is divided; the remainder lies between 0 and the divisor; 0 as a divisor traps. No condition but the row's own (the listed tables hold what the text lays). -/
import Derived.Test.YthbgingclpponaaDoorWn
import Derived.Test.YthbgingclpponaaDoorWo
import Derived.Test.YthbgingclpponaaDoorMh
import Derived.Test.YthbgingclpponaaDoorTie
import Derived.Test.YthbgingclpponaaDoorCards
namespace Go.Proofs.YthbgingclpponaaDoor.wordDivides
open Go.ChangeShapes Go.WideShapes Go.ChangeAt Go.RowKit Go.ChangeMaps
set_option linter.unusedVariables false
set_option maxRecDepth 100000 in
set_option maxHeartbeats 2000000 in
theorem walk_zero (n m a b : Int) (w : World) (hI : Inv w) (hn : wrap32 n = a) (hm : wrap32 m = b) (h0 : b = 0) : Calls Tryd.prog 6 #[.int .i64 n, .int .i64 m] w (Ret (.bool true) w) := by
  have BN : Hid (∀ w, Calls Tryd.prog 36 #[.int .i64 n] w fun e w' => e = .returned (.int .i64 a) ∧ w = w') := Lib.hid (fun w => hn ▸ bword_any n w)
  have BM : Hid (∀ w, Calls Tryd.prog 36 #[.int .i64 m] w fun e w' => e = .returned (.int .i64 b) ∧ w = w') := Lib.hid (fun w => hm ▸ bword_any m w)
  have ha : isW a := hn ▸ wrap32_word n
  have hb : isW b := hm ▸ wrap32_word m
  clear hn hm
  have HI := Lib.hid hI; clear hI
  subst h0
  have h3 := do_trap (op := 3) (a := a) (b := 0) (by decide) ha hb (by decide)
  have h4 := do_trap (op := 4) (a := a) (b := 0) (by decide) ha hb (by decide)
  have D3 : Hid (∀ w, Calls Tryd.prog 11 #[.int .i64 3, .int .i64 a, .int .i64 0] w (Ret (.tuple #[.int .i64 (0), .int .i64 14]) w)) := Lib.hid (fun w => by have := do_any 3 a 0 w; rw [h3.1, h3.2] at this; exact this)
  have D4 : Hid (∀ w, Calls Tryd.prog 11 #[.int .i64 4, .int .i64 a, .int .i64 0] w (Ret (.tuple #[.int .i64 (0), .int .i64 14]) w)) := Lib.hid (fun w => by have := do_any 4 a 0 w; rw [h4.1, h4.2] at this; exact this)
  clear h3 h4 ha hb
  go_enter Tryd.func6, Tryd.ntmps6
  go_wp2_with fail
  refine (BN.out _).mono ?_
  rintro e w1 ⟨rfl, rfl⟩
  go_wp2_with fail
  refine (BM.out _).mono ?_
  rintro e w1 ⟨rfl, rfl⟩
  go_wp2_with fail
  refine (D3.out _).mono ?_
  rintro e w1 ⟨rfl, hb1⟩
  have HB1 := Lib.hid hb1; clear hb1
  go_wp2_with fail
  refine (D4.out _).mono ?_
  rintro e w2 ⟨rfl, hb2⟩
  have HB2 := Lib.hid (below_step HB1.out hb2); clear hb2
  go_wp2_with fail
  refine (works_any _ (HI.out.below HB2.out)).mono ?_
  rintro e w3 ⟨rfl, hb3⟩
  go_wp2_with fail
  go_ret
  exact ⟨rfl, below_step HB2.out hb3⟩
set_option maxRecDepth 100000 in
set_option maxHeartbeats 2000000 in
theorem walk_low (n m a b : Int) (w : World) (hI : Inv w) (hn : wrap32 n = a) (hm : wrap32 m = b) (h1 : a = -2147483648) (h2 : b = -1) : Calls Tryd.prog 6 #[.int .i64 n, .int .i64 m] w (Ret (.bool true) w) := by
  have BN : Hid (∀ w, Calls Tryd.prog 36 #[.int .i64 n] w fun e w' => e = .returned (.int .i64 a) ∧ w = w') := Lib.hid (fun w => hn ▸ bword_any n w)
  have BM : Hid (∀ w, Calls Tryd.prog 36 #[.int .i64 m] w fun e w' => e = .returned (.int .i64 b) ∧ w = w') := Lib.hid (fun w => hm ▸ bword_any m w)
  have ha : isW a := hn ▸ wrap32_word n
  have hb : isW b := hm ▸ wrap32_word m
  clear hn hm
  have HI := Lib.hid hI; clear hI
  subst h1; subst h2
  have h3 : doN 3 (-2147483648) (-1) = -2147483648 ∧ doE 3 (-2147483648) (-1) = 0 := by decide +kernel
  have h4 : doN 4 (-2147483648) (-1) = 0 ∧ doE 4 (-2147483648) (-1) = 0 := by decide +kernel
  have D3 : Hid (∀ w, Calls Tryd.prog 11 #[.int .i64 3, .int .i64 (-2147483648), .int .i64 (-1)] w (Ret (.tuple #[.int .i64 (-2147483648), .int .i64 0]) w)) := Lib.hid (fun w => by have := do_any 3 (-2147483648) (-1) w; rw [h3.1, h3.2] at this; exact this)
  have D4 : Hid (∀ w, Calls Tryd.prog 11 #[.int .i64 4, .int .i64 (-2147483648), .int .i64 (-1)] w (Ret (.tuple #[.int .i64 (0), .int .i64 0]) w)) := Lib.hid (fun w => by have := do_any 4 (-2147483648) (-1) w; rw [h4.1, h4.2] at this; exact this)
  clear h3 h4 ha hb
  go_enter Tryd.func6, Tryd.ntmps6
  go_wp2_with fail
  refine (BN.out _).mono ?_
  rintro e w1 ⟨rfl, rfl⟩
  go_wp2_with fail
  refine (BM.out _).mono ?_
  rintro e w1 ⟨rfl, rfl⟩
  go_wp2_with fail
  refine (D3.out _).mono ?_
  rintro e w1 ⟨rfl, hb1⟩
  have HB1 := Lib.hid hb1; clear hb1
  go_wp2_with fail
  refine (D4.out _).mono ?_
  rintro e w2 ⟨rfl, hb2⟩
  have HB2 := Lib.hid (below_step HB1.out hb2); clear hb2
  go_wp2_with fail
  refine (is_t (-2147483648) _ (by decide)).mono ?_
  rintro e w3 ⟨rfl, rfl⟩
  go_wp2_with fail
  refine (lies_t _ _ _ _ (by omega)).mono ?_
  rintro e w3 ⟨rfl, rfl⟩
  go_wp2_with fail
  refine (works_any _ (HI.out.below HB2.out)).mono ?_
  rintro e w3 ⟨rfl, hb3⟩
  go_wp2_with fail
  go_ret
  exact ⟨rfl, below_step HB2.out hb3⟩
set_option maxRecDepth 100000 in
set_option maxHeartbeats 2000000 in
theorem walk_pos (n m a b : Int) (w : World) (hI : Inv w) (hn : wrap32 n = a) (hm : wrap32 m = b) (hs : 0 < b) (hx : ¬ (a = -2147483648 ∧ b = -1)) : Calls Tryd.prog 6 #[.int .i64 n, .int .i64 m] w (Ret (.bool true) w) := by
  have BN : Hid (∀ w, Calls Tryd.prog 36 #[.int .i64 n] w fun e w' => e = .returned (.int .i64 a) ∧ w = w') := Lib.hid (fun w => hn ▸ bword_any n w)
  have BM : Hid (∀ w, Calls Tryd.prog 36 #[.int .i64 m] w fun e w' => e = .returned (.int .i64 b) ∧ w = w') := Lib.hid (fun w => hm ▸ bword_any m w)
  have ha : isW a := hn ▸ wrap32_word n
  have hb : isW b := hm ▸ wrap32_word m
  clear hn hm
  have HI := Lib.hid hI; clear hI
  have hne : b ≠ 0 := by omega
  have ht3 : trapsb 3 b = false := by simp [trapsb, hne]
  have ht4 : trapsb 4 b = false := by simp [trapsb, hne]
  have hq := fdiv_word a b ha hb hne hx
  have h3 := do_val (op := 3) (by decide) ha hb ht3
  have h4 := do_val (op := 4) (by decide) ha hb ht4
  rw [V3, wrap32_of _ hq] at h3
  rw [V4] at h4
  have D3 : Hid (∀ w, Calls Tryd.prog 11 #[.int .i64 3, .int .i64 a, .int .i64 b] w (Ret (.tuple #[.int .i64 (a.fdiv b), .int .i64 0]) w)) := Lib.hid (fun w => by have := do_any 3 a b w; rw [h3.1, h3.2] at this; exact this)
  have D4 : Hid (∀ w, Calls Tryd.prog 11 #[.int .i64 4, .int .i64 a, .int .i64 b] w (Ret (.tuple #[.int .i64 (a.fmod b), .int .i64 0]) w)) := Lib.hid (fun w => by have := do_any 4 a b w; rw [h4.1, h4.2] at this; exact this)
  have hr : 0 ≤ a.fmod b ∧ a.fmod b < b := (fmod_bound a b hne).1 hs
  have hmul := fdiv_mul a b
  have hmb := mul_fdiv_bound a b ha hb hne
  rw [Int.mul_comm] at hmb
  have HQ := Lib.hid (isWb_of _ hq)
  have heq : (a.fdiv b * b + a.fmod b == a) = true := by rw [beq_iff_eq]; exact hmul
  have hb0 : (b == 0) = false := by rw [beq_eq_false_iff_ne]; exact hne
  have hx1 : a = -2147483648 → (b == -1) = false := fun e => by rw [beq_eq_false_iff_ne]; exact fun e2 => hx ⟨e, e2⟩
  unfold isW at ha hb hq
  clear ht3 ht4 h3 h4
  generalize a.fdiv b = q at *
  generalize a.fmod b = r at *
  have hadd : -9223372036854775808 ≤ q * b + r ∧ q * b + r ≤ 9223372036854775807 := by omega
  clear hmul hx
  go_enter Tryd.func6, Tryd.ntmps6
  go_wp2_with fail
  refine (BN.out _).mono ?_
  rintro e w1 ⟨rfl, rfl⟩
  go_wp2_with fail
  refine (BM.out _).mono ?_
  rintro e w1 ⟨rfl, rfl⟩
  go_wp2_with fail
  refine (D3.out _).mono ?_
  rintro e w1 ⟨rfl, hb1⟩
  have HB1 := Lib.hid hb1; clear hb1
  go_wp2_with fail
  refine (D4.out _).mono ?_
  rintro e w2 ⟨rfl, hb2⟩
  have HB2 := Lib.hid (below_step HB1.out hb2); clear hb2
  go_wp2_with fail
  refine (is_t q _ HQ.out).mono ?_
  rintro e w3 ⟨rfl, rfl⟩
  go_wp2_with fail
  refine (lies_t _ _ _ _ (by omega)).mono ?_
  rintro e w3 ⟨rfl, rfl⟩
  have HX := Lib.hid hx1; clear hx1
  by_cases hlow : a = -2147483648
  · subst hlow
    have hbx := HX.out rfl
    go_wp2_with fail
    refine (works_any _ (HI.out.below HB2.out)).mono ?_
    rintro e w3 ⟨rfl, hb3⟩
    go_wp2_with fail
    go_ret
    exact ⟨rfl, below_step HB2.out hb3⟩
  have hax : (a == -2147483648) = false := by rw [beq_eq_false_iff_ne]; exact hlow
  clear hlow
  go_wp2_with fail
  refine (works_any _ (HI.out.below HB2.out)).mono ?_
  rintro e w3 ⟨rfl, hb3⟩
  go_wp2_with fail
  go_ret
  exact ⟨rfl, below_step HB2.out hb3⟩
set_option maxRecDepth 100000 in
set_option maxHeartbeats 2000000 in
theorem walk_neg (n m a b : Int) (w : World) (hI : Inv w) (hn : wrap32 n = a) (hm : wrap32 m = b) (hs : b < 0) (hx : ¬ (a = -2147483648 ∧ b = -1)) : Calls Tryd.prog 6 #[.int .i64 n, .int .i64 m] w (Ret (.bool true) w) := by
  have BN : Hid (∀ w, Calls Tryd.prog 36 #[.int .i64 n] w fun e w' => e = .returned (.int .i64 a) ∧ w = w') := Lib.hid (fun w => hn ▸ bword_any n w)
  have BM : Hid (∀ w, Calls Tryd.prog 36 #[.int .i64 m] w fun e w' => e = .returned (.int .i64 b) ∧ w = w') := Lib.hid (fun w => hm ▸ bword_any m w)
  have ha : isW a := hn ▸ wrap32_word n
  have hb : isW b := hm ▸ wrap32_word m
  clear hn hm
  have HI := Lib.hid hI; clear hI
  have hne : b ≠ 0 := by omega
  have ht3 : trapsb 3 b = false := by simp [trapsb, hne]
  have ht4 : trapsb 4 b = false := by simp [trapsb, hne]
  have hq := fdiv_word a b ha hb hne hx
  have h3 := do_val (op := 3) (by decide) ha hb ht3
  have h4 := do_val (op := 4) (by decide) ha hb ht4
  rw [V3, wrap32_of _ hq] at h3
  rw [V4] at h4
  have D3 : Hid (∀ w, Calls Tryd.prog 11 #[.int .i64 3, .int .i64 a, .int .i64 b] w (Ret (.tuple #[.int .i64 (a.fdiv b), .int .i64 0]) w)) := Lib.hid (fun w => by have := do_any 3 a b w; rw [h3.1, h3.2] at this; exact this)
  have D4 : Hid (∀ w, Calls Tryd.prog 11 #[.int .i64 4, .int .i64 a, .int .i64 b] w (Ret (.tuple #[.int .i64 (a.fmod b), .int .i64 0]) w)) := Lib.hid (fun w => by have := do_any 4 a b w; rw [h4.1, h4.2] at this; exact this)
  have hr : b < a.fmod b ∧ a.fmod b ≤ 0 := (fmod_bound a b hne).2 hs
  have hmul := fdiv_mul a b
  have hmb := mul_fdiv_bound a b ha hb hne
  rw [Int.mul_comm] at hmb
  have HQ := Lib.hid (isWb_of _ hq)
  have heq : (a.fdiv b * b + a.fmod b == a) = true := by rw [beq_iff_eq]; exact hmul
  have hb0 : (b == 0) = false := by rw [beq_eq_false_iff_ne]; exact hne
  have hx1 : a = -2147483648 → (b == -1) = false := fun e => by rw [beq_eq_false_iff_ne]; exact fun e2 => hx ⟨e, e2⟩
  unfold isW at ha hb hq
  clear ht3 ht4 h3 h4
  generalize a.fdiv b = q at *
  generalize a.fmod b = r at *
  have hadd : -9223372036854775808 ≤ q * b + r ∧ q * b + r ≤ 9223372036854775807 := by omega
  clear hmul hx
  go_enter Tryd.func6, Tryd.ntmps6
  go_wp2_with fail
  refine (BN.out _).mono ?_
  rintro e w1 ⟨rfl, rfl⟩
  go_wp2_with fail
  refine (BM.out _).mono ?_
  rintro e w1 ⟨rfl, rfl⟩
  go_wp2_with fail
  refine (D3.out _).mono ?_
  rintro e w1 ⟨rfl, hb1⟩
  have HB1 := Lib.hid hb1; clear hb1
  go_wp2_with fail
  refine (D4.out _).mono ?_
  rintro e w2 ⟨rfl, hb2⟩
  have HB2 := Lib.hid (below_step HB1.out hb2); clear hb2
  go_wp2_with fail
  refine (is_t q _ HQ.out).mono ?_
  rintro e w3 ⟨rfl, rfl⟩
  go_wp2_with fail
  refine (lies_t _ _ _ _ (by omega)).mono ?_
  rintro e w3 ⟨rfl, rfl⟩
  have HX := Lib.hid hx1; clear hx1
  by_cases hlow : a = -2147483648
  · subst hlow
    have hbx := HX.out rfl
    go_wp2_with fail
    refine (works_any _ (HI.out.below HB2.out)).mono ?_
    rintro e w3 ⟨rfl, hb3⟩
    go_wp2_with fail
    go_ret
    exact ⟨rfl, below_step HB2.out hb3⟩
  have hax : (a == -2147483648) = false := by rw [beq_eq_false_iff_ne]; exact hlow
  clear hlow
  go_wp2_with fail
  refine (works_any _ (HI.out.below HB2.out)).mono ?_
  rintro e w3 ⟨rfl, hb3⟩
  go_wp2_with fail
  go_ret
  exact ⟨rfl, below_step HB2.out hb3⟩
theorem walk (n m : Int) (w : World) (hI : Inv w) : Calls Tryd.prog 6 #[.int .i64 n, .int .i64 m] w (Ret (.bool true) w) := by
  by_cases h0 : wrap32 m = 0
  · exact walk_zero n m _ _ w hI rfl rfl h0
  · by_cases hx : wrap32 n = -2147483648 ∧ wrap32 m = -1
    · exact walk_low n m _ _ w hI rfl rfl hx.1 hx.2
    · by_cases hs : 0 < wrap32 m
      · exact walk_pos n m _ _ w hI rfl rfl hs hx
      · exact walk_neg n m _ _ w hI rfl rfl (by omega) hx

/-! ### the row and the card -/
theorem own : ownKnob Tryd.prog.godebug = none := by kernel_rfl
theorem door_met (os : Os) (args : Array Value) : laidMetH Tryd.prog Rows.wordDividesRow.laid ((World.doorLaid Tryd.prog 65 os).forCall (fun _ _ => 0) ⟨#[], args, []⟩).memory :=
  laidMetH_of_parts3 (fuel := 8) (laidMet_of_run' 8 (by kernel_rfl) (by kernel_rfl)) (by kernel_rfl) (by kernel_rfl)
set_option maxRecDepth 100000 in
theorem lifted (os : Os) (started : os.Started) (H : Type) (enc : TypeId × Value → H) :
    ReturnsInHanded {} Tryd.checked os 6 .any (fun w args => (Rows.wordDividesSpec.pre enc Tryd.prog Tryd.f6 [] false w args ∧ laidMetH Tryd.prog Rows.wordDividesRow.laid w) ∧ sizedMet enc Tryd.prog Tryd.f6 (OpenSpec.ofChange Rows.wordDividesSpec) false w args)
      (Rows.wordDividesSpec.post enc Tryd.prog Tryd.f6 false true false false) := by
  refine returnsInHanded_of_change_and (C := Tryd.checked) (X := fun w _ => laidMetH Tryd.prog Rows.wordDividesRow.laid w) (fun _ _ _ hh h => h.of_heap hh) own started (by kernel_rfl) Tryd.func6
    (ChangeSpec.witness_shaped (enc := enc) (C := Tryd.checked) (os := os) (X := fun w _ => laidMetH Tryd.prog Rows.wordDividesRow.laid w) false (World.doorLaid Tryd.prog 65 os) #[.int .i64 0, .int .i64 0] 8 rfl (World.shaped_of_RefB (by kernel_rfl) (by kernel_rfl)) (by kernel_rfl) (by kernel_rfl) (by kernel_rfl) (door_met os _)) ?_
  intro W base args ds gs before hval0 hW _ _ hL _
  have hval : ∀ (j : Nat) t v, Tryd.f6.params[j]? = some t → args[j]? = some v → Value.okWide Tryd.prog W .any base t v := hval0
  have hW' := hW
  obtain ⟨p, q, hA0, hV, rfl, hfz, hnd⟩ := hW
  have hA : DataW.TrodAll enc Tryd.prog W 0 (fun _ => true) true Tryd.f6.params.toList args.toList ds p := hA0
  rw [Tryd.params6] at hA hval
  obtain ⟨v0, vs0, d0, ds0, p0, q0, hargs, rfl, rfl, h0, r0⟩ := trodAll_cons hA
  obtain ⟨v1, vs1, d1, ds1, p1, q1, rfl, rfl, rfl, h1, r1⟩ := trodAll_cons r0
  obtain ⟨rfl, rfl, rfl⟩ := trodAll_nil r1
  obtain rfl : args = #[v0, v1] := by cases args; simp_all
  obtain ⟨rfl, rfl⟩ := trodVars_none hV
  obtain ⟨a0, rfl, rfl, rfl, w0⟩ := open_int Tryd.underlying3 (hval 0 3 v0 rfl rfl) h0
  obtain ⟨a1, rfl, rfl, rfl, w1⟩ := open_int Tryd.underlying3 (hval 1 3 v1 rfl rfl) h1
  clear hA0 hval0
  simp only [List.append_nil] at hW'
  refine (walk a0 a1  W (of_laid hL)).mono fun e W' ⟨he, hg⟩ => ?_
  subst he
  exact ⟨_, rfl, _, _, _, [], [], [], hW', trodAll_cons_mk (shut_bool Tryd.underlying4 _) trodAll_mk0, trodAll_cons_mk (shut_int Tryd.underlying3 w0) (trodAll_cons_mk (shut_int Tryd.underlying3 w1) trodAll_mk0), rfl, hg.frame _, fun h => by cases h⟩
theorem holds : Rows.WordDividesSaid :=
  OpenClaim.holds_of_wide 6 Tryd.f6 rfl rfl rfl rfl rfl rfl rfl ⟨rfl, rfl, rfl, rfl, rfl⟩ rfl rfl rfl rfl rfl (by kernel_rfl) Tryd.func6 (by kernel_rfl)
    (of_decide_eq_true (by kernel_rfl)) (by unfold Func.isWrapper; first | (rw [if_pos (by decide +kernel)]; kernel_rfl) | (rw [if_neg (by decide +kernel)]; exact ⟨rfl, rfl⟩))
    (fun os started H enc _ => lifted os started H enc)
theorem proved : Rows.WordDividesCardSaid :=
  Claim7.holds_tied_plain_at .later [] [.data, .data, .data, .data] true (true, "92663498427d49479742040ab7689a64217b0d7b0624e792c2ddd20f6cd25577") false
    holds (fun _ h => by cases h) (by kernel_rfl) (fun _ h => by cases h) wordDivides_row_tie rfl ⟨rfl, rfl⟩ (by kernel_rfl) rfl
    (fun f fn hf hfn => by
      obtain rfl : f = 6 := Option.some.inj ((show Tryd.prog.funcNamed "sheafworks/sheafworkslaw01.WordDivides" = some 6 by kernel_rfl).symm.trans hf) |>.symm
      obtain rfl : fn = Tryd.f6 := (Option.some.inj (Tryd.func6.symm.trans hfn)).symm
      exact ⟨by kernel_rfl, fun j t ht => by
        rw [Tryd.params6] at ht
        have hm : t ∈ [3] := by
          have := Array.mem_of_getElem? ht
          simpa using this
        have hall : ([3].all fun u => !Tryd.prog.wantsStandIn u) = true := by kernel_rfl
        exact (show Tryd.prog.wantsStandIn t = false by simpa using List.all_eq_true.1 hall t hm)⟩)
    (by kernel_rfl)
#print axioms proved
end Go.Proofs.YthbgingclpponaaDoor.wordDivides
