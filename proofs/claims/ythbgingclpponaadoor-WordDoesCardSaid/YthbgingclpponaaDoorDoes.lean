/- WordDoes: for any three numbers the program's Is, Do, Laws, Neutral and Name return what the specification's do. No condition but the row's own (the listed tables hold what the text lays). -/
import Derived.Test.YthbgingclpponaaDoorWn
import Derived.Test.YthbgingclpponaaDoorWo
import Derived.Test.YthbgingclpponaaDoorTie
import Derived.Test.YthbgingclpponaaDoorCards
namespace Go.Proofs.YthbgingclpponaaDoor.wordDoes
open Go.ChangeShapes Go.WideShapes Go.ChangeAt Go.RowKit
set_option linter.unusedVariables false

/-- three bools lie in a block -/
def Lies3 (W : World) (b : Nat) (x y z : Bool) : Prop := W.cell? ⟨b, 0, none⟩ = some (.bool x) ∧ W.cell? ⟨b, 1, none⟩ = some (.bool y) ∧ W.cell? ⟨b, 2, none⟩ = some (.bool z) ∧ b < W.heap.size
theorem Lies3.below {W W' : World} {b : Nat} {x y z : Bool} (h : Lies3 W b x y z) (hb : Below W.heap.size W W') : Lies3 W' b x y z :=
  ⟨(hb.cell (p := ⟨b, 0, none⟩) h.2.2.2).trans h.1, (hb.cell (p := ⟨b, 1, none⟩) h.2.2.2).trans h.2.1, (hb.cell (p := ⟨b, 2, none⟩) h.2.2.2).trans h.2.2.1, Nat.lt_of_lt_of_le h.2.2.2 hb.size⟩
theorem Lies3.new (W : World) (x y z : Bool) : Lies3 (W.alloc (.cells #[.bool x, .bool y, .bool z] 26)) W.heap.size x y z := ⟨by go_simp, by go_simp, by go_simp, by simp⟩
theorem Lies3.alloc {W : World} {b : Nat} {x y z : Bool} (h : Lies3 W b x y z) (o : Obj) : Lies3 (W.alloc o) b x y z := h.below ((Below.refl _ _).alloc (Nat.le_refl _) _)
theorem below_new {W w : World} (h : Below W.heap.size W w) (o : Obj) : Below W.heap.size W (w.alloc o) := h.alloc h.size _

theorem rname_any (op : Int) (w : World) : Calls Tryd.prog 18 #[.int .i64 op] w (Ret (.tuple #[.string ⟨(nameL op).toArray⟩, .int .i64 (opE op)]) w) := by
  by_cases ho : isOpb op = true
  · rw [show opE op = 0 from by simp [opE, ho]]; exact rname_t op w ho
  · rw [show opE op = 1 from by simp [opE, ho], nameL_no (bf ho)]; exact rname_f op w (bf ho)
set_option maxRecDepth 100000 in
set_option maxHeartbeats 2000000 in
theorem walk (op a b : Int) (w : World) (hI : Inv w) : Calls Tryd.prog 3 #[.int .i64 op, .int .i64 a, .int .i64 b] w (Ret (.bool true) w) := by
  have HI := Lib.hid hI; clear hI
  go_enter Tryd.func3, Tryd.ntmps3
  go_wp2_with fail
  refine (do_any op a b _).mono ?_
  rintro e w1 ⟨rfl, hb⟩
  have HB1 := Lib.hid hb; clear hb
  go_wp2_with fail
  refine (rdo_any op a b _).mono ?_
  rintro e w2 ⟨rfl, hb⟩
  have HB2 := Lib.hid (below_step HB1.out hb); clear hb
  go_wp2_with fail
  refine (laws_any op _ (HI.out.below HB2.out)).mono ?_
  rintro e w3 ⟨rfl, hb⟩
  have HB3 := Lib.hid (below_new (below_step HB2.out hb) (.cells #[.bool (aB op), .bool (cB op), .bool (iB op)] 26)); clear hb
  have HL3 := Lib.hid (Lies3.new w3 (aB op) (cB op) (iB op))
  go_wp2_with fail
  refine (rlaws_any op _).mono ?_
  rintro e w4 ⟨rfl, hb⟩
  have HB4 := Lib.hid (below_new (below_step HB3.out hb) (.cells #[.bool (aB op), .bool (cB op), .bool (iB op)] 26))
  have HL4 := Lib.hid ((HL3.out.below hb).alloc (.cells #[.bool (aB op), .bool (cB op), .bool (iB op)] 26)); clear hb
  have HM4 := Lib.hid (Lies3.new w4 (aB op) (cB op) (iB op))
  generalize w3.heap.size = b3 at *
  generalize aB op = xa at *
  generalize cB op = xc at *
  generalize iB op = xi at *
  go_wp2_with fail
  refine (neutral_any op _ (HI.out.below HB4.out)).mono ?_
  rintro e w5 ⟨rfl, hb⟩
  have HB5 := Lib.hid (below_step HB4.out hb)
  have HL5 := Lib.hid (HL4.out.below hb)
  have HM5 := Lib.hid (HM4.out.below hb); clear hb HL4 HM4 HL3 HB3
  generalize w4.heap.size = b4 at *
  go_wp2_with fail
  refine (rneutral_any op _).mono ?_
  rintro e w6 ⟨rfl, hb⟩
  have HB6 := Lib.hid (below_step HB5.out hb)
  have HL6 := Lib.hid (HL5.out.below hb)
  have HM6 := Lib.hid (HM5.out.below hb); clear hb HL5 HM5 HB5
  go_wp2_with fail
  refine (name_any op _ (HI.out.below HB6.out)).mono ?_
  rintro e w7 ⟨rfl, rfl⟩
  go_wp2_with fail
  refine (rname_any op _).mono ?_
  rintro e w7 ⟨rfl, hb⟩
  have HB7 := Lib.hid (below_step HB6.out hb)
  have HL7 := Lib.hid (HL6.out.below hb)
  have HM7 := Lib.hid (HM6.out.below hb); clear hb HL6 HM6 HB6
  generalize doN op a b = v1 at *
  generalize doE op a b = v2 at *
  generalize opE op = v3 at *
  generalize neN op = v4 at *
  generalize neE op = v5 at *
  generalize nameL op = v6 at *
  obtain ⟨l1, l2, l3, _⟩ := HL7.out
  obtain ⟨m1, m2, m3, _⟩ := HM7.out
  go_wp2_with fail
  refine (is_any a _).mono ?_
  rintro e w8 ⟨rfl, rfl⟩
  go_wp2_with fail
  refine (ris_any a _).mono ?_
  rintro e w8 ⟨rfl, rfl⟩
  generalize isWb a = v7 at *
  go_wp2_with fail
  refine (works_any _ (HI.out.below HB7.out)).mono ?_
  rintro e w8 ⟨rfl, hb⟩
  go_wp2_with fail
  go_ret
  exact ⟨rfl, below_step HB7.out hb⟩

/-! ### the row and the card -/
theorem own : ownKnob Tryd.prog.godebug = none := by kernel_rfl
theorem door_met (os : Os) (args : Array Value) : laidMetH Tryd.prog Rows.wordDoesRow.laid ((World.doorLaid Tryd.prog 65 os).forCall (fun _ _ => 0) ⟨#[], args, []⟩).memory :=
  laidMetH_of_parts3 (fuel := 8) (laidMet_of_run' 8 (by kernel_rfl) (by kernel_rfl)) (by kernel_rfl) (by kernel_rfl)
set_option maxRecDepth 100000 in
theorem lifted (os : Os) (started : os.Started) (H : Type) (enc : TypeId × Value → H) :
    ReturnsInHanded {} Tryd.checked os 3 .any (fun w args => (Rows.wordDoesSpec.pre enc Tryd.prog Tryd.f3 [] false w args ∧ laidMetH Tryd.prog Rows.wordDoesRow.laid w) ∧ sizedMet enc Tryd.prog Tryd.f3 (OpenSpec.ofChange Rows.wordDoesSpec) false w args)
      (Rows.wordDoesSpec.post enc Tryd.prog Tryd.f3 false true false false) := by
  refine returnsInHanded_of_change_and (C := Tryd.checked) (X := fun w _ => laidMetH Tryd.prog Rows.wordDoesRow.laid w) (fun _ _ _ hh h => h.of_heap hh) own started (by kernel_rfl) Tryd.func3
    (ChangeSpec.witness_shaped (enc := enc) (C := Tryd.checked) (os := os) (X := fun w _ => laidMetH Tryd.prog Rows.wordDoesRow.laid w) false (World.doorLaid Tryd.prog 65 os) #[.int .i64 0, .int .i64 0, .int .i64 0] 8 rfl (World.shaped_of_RefB (by kernel_rfl) (by kernel_rfl)) (by kernel_rfl) (by kernel_rfl) (by kernel_rfl) (door_met os _)) ?_
  intro W base args ds gs before hval0 hW _ _ hL _
  have hval : ∀ (j : Nat) t v, Tryd.f3.params[j]? = some t → args[j]? = some v → Value.okWide Tryd.prog W .any base t v := hval0
  have hW' := hW
  obtain ⟨p, q, hA0, hV, rfl, hfz, hnd⟩ := hW
  have hA : DataW.TrodAll enc Tryd.prog W 0 (fun _ => true) true Tryd.f3.params.toList args.toList ds p := hA0
  rw [Tryd.params3] at hA hval
  obtain ⟨v0, vs0, d0, ds0, p0, q0, hargs, rfl, rfl, h0, r0⟩ := trodAll_cons hA
  obtain ⟨v1, vs1, d1, ds1, p1, q1, rfl, rfl, rfl, h1, r1⟩ := trodAll_cons r0
  obtain ⟨v2, vs2, d2, ds2, p2, q2, rfl, rfl, rfl, h2, r2⟩ := trodAll_cons r1
  obtain ⟨rfl, rfl, rfl⟩ := trodAll_nil r2
  obtain rfl : args = #[v0, v1, v2] := by cases args; simp_all
  obtain ⟨rfl, rfl⟩ := trodVars_none hV
  obtain ⟨a0, rfl, rfl, rfl, w0⟩ := open_int Tryd.underlying3 (hval 0 3 v0 rfl rfl) h0
  obtain ⟨a1, rfl, rfl, rfl, w1⟩ := open_int Tryd.underlying3 (hval 1 3 v1 rfl rfl) h1
  obtain ⟨a2, rfl, rfl, rfl, w2⟩ := open_int Tryd.underlying3 (hval 2 3 v2 rfl rfl) h2
  clear hA0 hval0
  simp only [List.append_nil] at hW'
  refine (walk a0 a1 a2 W (of_laid hL)).mono fun e W' ⟨he, hg⟩ => ?_
  subst he
  exact ⟨_, rfl, _, _, _, [], [], [], hW', trodAll_cons_mk (shut_bool Tryd.underlying4 _) trodAll_mk0, trodAll_cons_mk (shut_int Tryd.underlying3 w0) (trodAll_cons_mk (shut_int Tryd.underlying3 w1) (trodAll_cons_mk (shut_int Tryd.underlying3 w2) trodAll_mk0)), rfl, hg.frame _, fun h => by cases h⟩
theorem holds : Rows.WordDoesSaid :=
  OpenClaim.holds_of_wide 3 Tryd.f3 rfl rfl rfl rfl rfl rfl rfl ⟨rfl, rfl, rfl, rfl, rfl⟩ rfl rfl rfl rfl rfl (by kernel_rfl) Tryd.func3 (by kernel_rfl)
    (of_decide_eq_true (by kernel_rfl)) (by unfold Func.isWrapper; first | (rw [if_pos (by decide +kernel)]; kernel_rfl) | (rw [if_neg (by decide +kernel)]; exact ⟨rfl, rfl⟩))
    (fun os started H enc _ => lifted os started H enc)
theorem proved : Rows.WordDoesCardSaid :=
  Claim7.holds_tied_plain_at .later [] [.data, .data, .data, .data] true (true, "92663498427d49479742040ab7689a64217b0d7b0624e792c2ddd20f6cd25577") false
    holds (fun _ h => by cases h) (by kernel_rfl) (fun _ h => by cases h) wordDoes_row_tie rfl ⟨rfl, rfl⟩ (by kernel_rfl) rfl
    (fun f fn hf hfn => by
      obtain rfl : f = 3 := Option.some.inj ((show Tryd.prog.funcNamed "sheafworks/sheafworkslaw01.WordDoes" = some 3 by kernel_rfl).symm.trans hf) |>.symm
      obtain rfl : fn = Tryd.f3 := (Option.some.inj (Tryd.func3.symm.trans hfn)).symm
      exact ⟨by kernel_rfl, fun j t ht => by
        rw [Tryd.params3] at ht
        have hm : t ∈ [3] := by
          have := Array.mem_of_getElem? ht
          simpa using this
        have hall : ([3].all fun u => !Tryd.prog.wantsStandIn u) = true := by kernel_rfl
        exact (show Tryd.prog.wantsStandIn t = false by simpa using List.all_eq_true.1 hall t hm)⟩)
    (by kernel_rfl)
#print axioms proved
end Go.Proofs.YthbgingclpponaaDoor.wordDoes
