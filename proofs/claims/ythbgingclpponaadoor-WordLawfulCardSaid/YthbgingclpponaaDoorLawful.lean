/- WordLawful: the theorem of the laws, for any operation and any three words: what is told to be associative, to commute, to be idempotent is so; a neutral word changes nothing; values are words; and of each law told not to hold three words are found. No condition but the row's own (the listed tables hold what the text lays). -/
import Derived.ChangeMaps5
import Derived.Test.YthbgingclpponaaDoorWs
import Derived.Test.YthbgingclpponaaDoorWt
import Derived.Test.YthbgingclpponaaDoorWu
import Derived.Test.YthbgingclpponaaDoorWo
import Derived.Test.YthbgingclpponaaDoorWp
import Derived.Test.YthbgingclpponaaDoorTie
import Derived.Test.YthbgingclpponaaDoorCards
namespace Go.Proofs.YthbgingclpponaaDoor.wordLawful
open Go.ChangeShapes Go.WideShapes Go.ChangeAt Go.RowKit Go.ChangeMaps
set_option linter.unusedVariables false
theorem walk (o n0 n1 n2 : Int) (w : World) (hI : Inv w) : Calls Tryd.prog 7 #[.int .i64 o, .agg #[.int .i64 n0, .int .i64 n1, .int .i64 n2]] w (Ret (.bool true) w) := by
  have h : o % 12 = 0 ∨ o % 12 = 1 ∨ o % 12 = 2 ∨ o % 12 = 3 ∨ o % 12 = 4 ∨ o % 12 = 5 ∨ o % 12 = 6 ∨ o % 12 = 7 ∨ o % 12 = 8 ∨ o % 12 = 9 ∨ o % 12 = 10 ∨ o % 12 = 11 := by omega
  rcases h with h | h | h | h | h | h | h | h | h | h | h | h
  · exact core_0 o n0 n1 n2 _ _ _ w hI h rfl rfl rfl
  · exact core_1 o n0 n1 n2 _ _ _ w hI h rfl rfl rfl
  · exact core_2 o n0 n1 n2 _ _ _ w hI h rfl rfl rfl
  · by_cases hz : wrap32 n1 = 0
    · exact core_3z o n0 n1 n2 _ _ _ w hI h rfl rfl rfl hz
    · exact core_3n o n0 n1 n2 _ _ _ w hI h rfl rfl rfl hz
  · by_cases hz : wrap32 n1 = 0
    · exact core_4z o n0 n1 n2 _ _ _ w hI h rfl rfl rfl hz
    · exact core_4n o n0 n1 n2 _ _ _ w hI h rfl rfl rfl hz
  · exact core_5 o n0 n1 n2 _ _ _ w hI h rfl rfl rfl
  · exact core_6 o n0 n1 n2 _ _ _ w hI h rfl rfl rfl
  · exact core_7 o n0 n1 n2 _ _ _ w hI h rfl rfl rfl
  · exact core_8 o n0 n1 n2 _ _ _ w hI h rfl rfl rfl
  · exact core_9 o n0 n1 n2 _ _ _ w hI h rfl rfl rfl
  · exact core_10 o n0 n1 n2 _ _ _ w hI h rfl rfl rfl
  · exact core_11 o n0 n1 n2 _ _ _ w hI h rfl rfl rfl

/-! ### the row and the card -/
theorem own : ownKnob Tryd.prog.godebug = none := by kernel_rfl
theorem door_met (os : Os) (args : Array Value) : laidMetH Tryd.prog Rows.wordLawfulRow.laid ((World.doorLaid Tryd.prog 65 os).forCall (fun _ _ => 0) ⟨#[], args, []⟩).memory :=
  laidMetH_of_parts3 (fuel := 8) (laidMet_of_run' 8 (by kernel_rfl) (by kernel_rfl)) (by kernel_rfl) (by kernel_rfl)
set_option maxRecDepth 100000 in
theorem lifted (os : Os) (started : os.Started) (H : Type) (enc : TypeId × Value → H) :
    ReturnsInHanded {} Tryd.checked os 7 .any (fun w args => (Rows.wordLawfulSpec.pre enc Tryd.prog Tryd.f7 [] false w args ∧ laidMetH Tryd.prog Rows.wordLawfulRow.laid w) ∧ sizedMet enc Tryd.prog Tryd.f7 (OpenSpec.ofChange Rows.wordLawfulSpec) false w args)
      (Rows.wordLawfulSpec.post enc Tryd.prog Tryd.f7 false true false false) := by
  refine returnsInHanded_of_change_and (C := Tryd.checked) (X := fun w _ => laidMetH Tryd.prog Rows.wordLawfulRow.laid w) (fun _ _ _ hh h => h.of_heap hh) own started (by kernel_rfl) Tryd.func7
    (ChangeSpec.witness_shaped (enc := enc) (C := Tryd.checked) (os := os) (X := fun w _ => laidMetH Tryd.prog Rows.wordLawfulRow.laid w) false (World.doorLaid Tryd.prog 65 os) #[.int .i64 0, .agg #[.int .i64 0, .int .i64 0, .int .i64 0]] 8 rfl (World.shaped_of_RefB (by kernel_rfl) (by kernel_rfl)) (by kernel_rfl) (by kernel_rfl) (by kernel_rfl) (door_met os _)) ?_
  intro W base args ds gs before hval0 hW _ _ hL _
  have hval : ∀ (j : Nat) t v, Tryd.f7.params[j]? = some t → args[j]? = some v → Value.okWide Tryd.prog W .any base t v := hval0
  have hW' := hW
  obtain ⟨p, q, hA0, hV, rfl, hfz, hnd⟩ := hW
  have hA : DataW.TrodAll enc Tryd.prog W 0 (fun _ => true) true Tryd.f7.params.toList args.toList ds p := hA0
  rw [Tryd.params7] at hA hval
  obtain ⟨v0, vs0, d0, ds0, p0, q0, hargs, rfl, rfl, h0, r0⟩ := trodAll_cons hA
  obtain ⟨v1, vs1, d1, ds1, p1, q1, rfl, rfl, rfl, h1, r1⟩ := trodAll_cons r0
  obtain ⟨rfl, rfl, rfl⟩ := trodAll_nil r1
  obtain rfl : args = #[v0, v1] := by cases args; simp_all
  obtain ⟨rfl, rfl⟩ := trodVars_none hV
  obtain ⟨a0, rfl, rfl, rfl, w0⟩ := open_int Tryd.underlying3 (hval 0 3 v0 rfl rfl) h0
  obtain ⟨x10, x11, x12, rfl, rfl, rfl, w10, w11, w12⟩ := open_arr3 (hval 1 39 v1 rfl rfl) h1
  clear hA0 hval0
  simp only [List.append_nil] at hW'
  refine (walk a0 x10 x11 x12  W (of_laid hL)).mono fun e W' ⟨he, hg⟩ => ?_
  subst he
  exact ⟨_, rfl, _, _, _, [], [], [], hW', trodAll_cons_mk (shut_bool Tryd.underlying4 _) trodAll_mk0, trodAll_cons_mk (shut_int Tryd.underlying3 w0) (trodAll_cons_mk (shut_arr3 w10 w11 w12) trodAll_mk0), rfl, hg.frame _, fun h => by cases h⟩
theorem holds : Rows.WordLawfulSaid :=
  OpenClaim.holds_of_wide 7 Tryd.f7 rfl rfl rfl rfl rfl rfl rfl ⟨rfl, rfl, rfl, rfl, rfl⟩ rfl rfl rfl rfl rfl (by kernel_rfl) Tryd.func7 (by kernel_rfl)
    (of_decide_eq_true (by kernel_rfl)) (by unfold Func.isWrapper; first | (rw [if_pos (by decide +kernel)]; kernel_rfl) | (rw [if_neg (by decide +kernel)]; exact ⟨rfl, rfl⟩))
    (fun os started H enc _ => lifted os started H enc)
theorem proved : Rows.WordLawfulCardSaid :=
  Claim7.holds_tied_plain_at .later [] [.data, .data, .data, .data] true (true, "92663498427d49479742040ab7689a64217b0d7b0624e792c2ddd20f6cd25577") false
    holds (fun _ h => by cases h) (by kernel_rfl) (fun _ h => by cases h) wordLawful_row_tie rfl ⟨rfl, rfl⟩ (by kernel_rfl) rfl
    (fun f fn hf hfn => by
      obtain rfl : f = 7 := Option.some.inj ((show Tryd.prog.funcNamed "sheafworks/sheafworkslaw01.WordLawful" = some 7 by kernel_rfl).symm.trans hf) |>.symm
      obtain rfl : fn = Tryd.f7 := (Option.some.inj (Tryd.func7.symm.trans hfn)).symm
      exact ⟨by kernel_rfl, fun j t ht => by
        rw [Tryd.params7] at ht
        have hm : t ∈ [3, 39] := by
          have := Array.mem_of_getElem? ht
          simpa using this
        have hall : ([3, 39].all fun u => !Tryd.prog.wantsStandIn u) = true := by kernel_rfl
        exact (show Tryd.prog.wantsStandIn t = false by simpa using List.all_eq_true.1 hall t hm)⟩)
    (by kernel_rfl)
#print axioms proved
end Go.Proofs.YthbgingclpponaaDoor.wordLawful
