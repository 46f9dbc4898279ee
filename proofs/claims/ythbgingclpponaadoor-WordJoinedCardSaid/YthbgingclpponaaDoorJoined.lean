/- WordJoined: the theorem of the powers, for any associative operation, any word and any two numbers below 2^30, as they are chosen: joined m + n times is joined m times, joined with what it is joined n times; once it is the word, not at all the neutral word; m times what it is joined n times is m times n times. No condition but the row's own (the listed tables hold what the text lays). -/
import Derived.Test.YthbgingclpponaaDoorWn
import Derived.Test.YthbgingclpponaaDoorWo
import Derived.Test.YthbgingclpponaaDoorMh
import Derived.Test.YthbgingclpponaaDoorWp
import Derived.Test.YthbgingclpponaaDoorTie
import Derived.Test.YthbgingclpponaaDoorCards
import Derived.RegionTactic
import Derived.Deep.RegionWith
import Derived.Deep.QuietTactic
import Derived.BigQuiet
namespace Go.Proofs.YthbgingclpponaaDoor.wordJoined
open Go.ChangeShapes Go.WideShapes Go.ChangeAt Go.RowKit Go.ChangeMaps
set_option linter.unusedVariables false
theorem po_val {op a : Int} (n : Int) (hA : aB op = true) (ha : isW a) (hn : 0 ≤ n) : poN op a n = PW op a n.toNat ∧ poE op a n = 0 := by
  have h := isWb_of a ha
  simp [poN, poE, hA, h, hn]
theorem v_val {op a b : Int} (ho : isOpb op = true) (ha : isW a) (hb : isW b) (ht : trapsb op b = false) : vN op a b = V op a b := by
  have := do_val ho ha hb ht
  simp [vN, this]
/-- the seven associative operations -/
def ol (k : Nat) : Int := [0, 2, 7, 8, 9, 10, 11].getD k 0
theorem ol_ok {k : Nat} (h : k < 7) : aB (ol k) = true := by
  have : k = 0 ∨ k = 1 ∨ k = 2 ∨ k = 3 ∨ k = 4 ∨ k = 5 ∨ k = 6 := by omega
  rcases this with h | h | h | h | h | h | h <;> subst h <;> decide
theorem turn_k (n m : Int) (hm : 1 ≤ m) (hm2 : m ≤ 4611686018427387904) (x : Int) (hx : n % m = x) (w : World) : Calls Tryd.prog 38 #[.int .i64 n, .int .i64 m] w fun e w' => e = .returned (.int .i64 x) ∧ w = w' := hx ▸ turn_any n m hm hm2 w
theorem then_gen {K : Act → World → Prop} {Q : Exit → Act → World → Prop} {e : Exit} {a : Act} {W0 : World} (F : World → Prop) (h0 : F W0) (h : ∀ W, F W → Exit.then K Q e a W) : Exit.then K Q e a W0 := h W0 h0
set_option maxRecDepth 100000 in
set_option maxHeartbeats 1000000 in
theorem core (o wd n0 n1 a m k : Int) (j : Nat) (w : World) (hI : Inv w) (hj : j < 7) (ho : o % 7 = j) (hw : wrap32 wd = a) (hm : n0 % 1073741824 = m) (hk : n1 % 1073741824 = k) :
    Calls Tryd.prog 8 #[.int .i64 o, .int .i64 wd, .agg #[.int .i64 n0, .int .i64 n1]] w (Ret (.bool true) w) := by
  have BW : Hid (∀ w, Calls Tryd.prog 36 #[.int .i64 wd] w fun e w' => e = .returned (.int .i64 a) ∧ w = w') := Lib.hid (fun w => hw ▸ bword_any wd w)
  have TO : Hid (∀ w, Calls Tryd.prog 38 #[.int .i64 o, .int .i64 7] w fun e w' => e = .returned (.int .i64 j) ∧ w = w') := Lib.hid (turn_k o 7 (by decide) (by decide) _ ho)
  have TM : Hid (∀ w, Calls Tryd.prog 38 #[.int .i64 n0, .int .i64 1073741824] w fun e w' => e = .returned (.int .i64 m) ∧ w = w') := Lib.hid (turn_k n0 _ (by decide) (by decide) _ hm)
  have TMq : Hid (∀ w, Calls Tryd.prog 38 #[.int .i64 n0, .int .i64 1073741824] w fun e w' => e = .returned (.int .i64 m) ∧ w' = w) := Lib.hid (fun w => (turn_k n0 _ (by decide) (by decide) _ hm w).mono fun _ _ ⟨h1, h2⟩ => ⟨h1, h2.symm⟩)
  have TKq : Hid (∀ w, Calls Tryd.prog 38 #[.int .i64 n1, .int .i64 1073741824] w fun e w' => e = .returned (.int .i64 k) ∧ w' = w) := Lib.hid (fun w => (turn_k n1 _ (by decide) (by decide) _ hk w).mono fun _ _ ⟨h1, h2⟩ => ⟨h1, h2.symm⟩)
  have TK : Hid (∀ w, Calls Tryd.prog 38 #[.int .i64 n1, .int .i64 1073741824] w fun e w' => e = .returned (.int .i64 k) ∧ w = w') := Lib.hid (turn_k n1 _ (by decide) (by decide) _ hk)
  have ha : isW a := hw ▸ wrap32_word wd
  have hA := ol_ok hj
  have hm2 : 0 ≤ m ∧ m < 1073741824 := by omega
  have hk2 : 0 ≤ k ∧ k < 1073741824 := by omega
  clear ho hw hm hk
  have hmk : 0 ≤ m * k ∧ m * k ≤ 1152921504606846976 := by
    constructor
    · exact Int.mul_nonneg hm2.1 hk2.1
    · have := Int.mul_le_mul (show m ≤ 1073741824 by omega) (show k ≤ 1073741824 by omega) hk2.1 (by decide); omega
  have PX : Hid (∀ w, Inv w → Calls Tryd.prog 22 #[.int .i64 (ol j), .int .i64 a, .int .i64 m] w (Ret (.tuple #[.int .i64 (PW (ol j) a m.toNat), .int .i64 0]) w)) := Lib.hid (fun w h => by have := Power_any (ol j) a m w h (by omega); rw [(po_val m hA ha hm2.1).1, (po_val m hA ha hm2.1).2] at this; exact this)
  have PY : Hid (∀ w, Inv w → Calls Tryd.prog 22 #[.int .i64 (ol j), .int .i64 a, .int .i64 k] w (Ret (.tuple #[.int .i64 (PW (ol j) a k.toNat), .int .i64 0]) w)) := Lib.hid (fun w h => by have := Power_any (ol j) a k w h (by omega); rw [(po_val k hA ha hk2.1).1, (po_val k hA ha hk2.1).2] at this; exact this)
  have PZ : Hid (∀ w, Inv w → Calls Tryd.prog 22 #[.int .i64 (ol j), .int .i64 a, .int .i64 (m + k)] w (Ret (.tuple #[.int .i64 (PW (ol j) a (m.toNat + k.toNat)), .int .i64 0]) w)) := Lib.hid (fun w h => by have := Power_any (ol j) a (m + k) w h (by omega); rw [(po_val (m + k) hA ha (by omega)).1, (po_val (m + k) hA ha (by omega)).2, show (m + k).toNat = m.toNat + k.toNat from by omega] at this; exact this)
  have P1 : Hid (∀ w, Inv w → Calls Tryd.prog 22 #[.int .i64 (ol j), .int .i64 a, .int .i64 1] w (Ret (.tuple #[.int .i64 a, .int .i64 0]) w)) := Lib.hid (fun w h => by have := Power_any (ol j) a 1 w h (by omega); rw [(po_val 1 hA ha (by omega)).1, (po_val 1 hA ha (by omega)).2, show (1 : Int).toNat = 1 from rfl, PW_one hA ha] at this; exact this)
  have P0 : Hid (∀ w, Inv w → Calls Tryd.prog 22 #[.int .i64 (ol j), .int .i64 a, .int .i64 0] w (Ret (.tuple #[.int .i64 (nt (ol j)), .int .i64 0]) w)) := Lib.hid (fun w h => by have := Power_any (ol j) a 0 w h (by omega); rw [(po_val 0 hA ha (by omega)).1, (po_val 0 hA ha (by omega)).2, show (0 : Int).toNat = 0 from rfl, PW_zero a hA] at this; exact this)
  have hx := PW_word (ol j) a m.toNat ha
  have hy := PW_word (ol j) a k.toNat ha
  have PV : Hid (∀ w, Inv w → Calls Tryd.prog 22 #[.int .i64 (ol j), .int .i64 (PW (ol j) a m.toNat), .int .i64 k] w (Ret (.tuple #[.int .i64 (PW (ol j) a (m.toNat * k.toNat)), .int .i64 0]) w)) := Lib.hid (fun w h => by have := Power_any (ol j) (PW (ol j) a m.toNat) k w h (by omega); rw [(po_val k hA hx hk2.1).1, (po_val k hA hx hk2.1).2, PW_mul _ _ hA] at this; exact this)
  have PU : Hid (∀ w, Inv w → Calls Tryd.prog 22 #[.int .i64 (ol j), .int .i64 a, .int .i64 (m * k)] w (Ret (.tuple #[.int .i64 (PW (ol j) a (m.toNat * k.toNat)), .int .i64 0]) w)) := Lib.hid (fun w h => by have := Power_any (ol j) a (m * k) w h (by omega); rw [(po_val (m * k) hA ha hmk.1).1, (po_val (m * k) hA ha hmk.1).2, Int.toNat_mul hm2.1 hk2.1] at this; exact this)
  have NE : Hid (∀ w, Inv w → Calls Tryd.prog 15 #[.int .i64 (ol j)] w (Ret (.tuple #[.int .i64 (nt (ol j)), .int .i64 0]) w)) := Lib.hid (fun w h => neutral_t (ol j) w h hA)
  have VV : Hid (∀ w, Calls Tryd.prog 39 #[.int .i64 (ol j), .int .i64 (PW (ol j) a m.toNat), .int .i64 (PW (ol j) a k.toNat)] w (Ret (.int .i64 (PW (ol j) a (m.toNat + k.toNat))) w)) := Lib.hid (fun w => by have := value39_any (ol j) (PW (ol j) a m.toNat) (PW (ol j) a k.toNat) w; rw [v_val (aB_op hA) hx hy (aB_trap _ hA), PW_add _ _ hA ha] at this; exact this)
  clear hx hy ha hA
  generalize PW (ol j) a (m.toNat + k.toNat) = z at *
  generalize PW (ol j) a (m.toNat * k.toNat) = u at *
  generalize PW (ol j) a m.toNat = x at *
  generalize PW (ol j) a k.toNat = y at *
  generalize nt (ol j) = ne at *
  have hol : (#[.int .i64 0, .int .i64 2, .int .i64 7, .int .i64 8, .int .i64 9, .int .i64 10, .int .i64 11] : Array Value)[j]? = some (.int .i64 (ol j)) := by
    have : j = 0 ∨ j = 1 ∨ j = 2 ∨ j = 3 ∨ j = 4 ∨ j = 5 ∨ j = 6 := by omega
    rcases this with h | h | h | h | h | h | h <;> subst h <;> rfl
  have hj' : (j : Int) < 7 := by omega
  have HI := Lib.hid hI; clear hI
  have hsz : 4 ≤ w.heap.size := HI.out.size
  generalize ol j = op at *
  have hget : ∀ h, ([.int .i64 0, .int .i64 2, .int .i64 7, .int .i64 8, .int .i64 9, .int .i64 10, .int .i64 11] : List Value)[j]'h = .int .i64 op := fun h => by
    have := hol
    rw [← Array.getElem?_toList, List.getElem?_eq_getElem (by simpa using hj)] at this
    exact Option.some.inj this
  have HG := Lib.hid hget
  clear hget
  go_enter Tryd.func8, Tryd.ntmps8
  go_wp2_with fail
  go_region_with (first | (go_at_call 38; refine (TO.out _).mono ?_; rintro e w1 ⟨rfl, rfl⟩) | (go_at_call 36; refine (BW.out _).mono ?_; rintro e w1 ⟨rfl, rfl⟩))
  all_goals
    have hg := HG.out
    simp only [hg]
    clear hg
    refine then_gen (fun W => W.cell? ⟨w.heap.size, 0, none⟩ = some (.int .i64 n0) ∧ W.cell? ⟨w.heap.size, 1, none⟩ = some (.int .i64 n1) ∧ Below w.heap.size w W) ⟨by go_simp, by go_simp, by repeat (first | exact Below.refl _ _ | refine Below.drew ?_ | refine Below.alloc ?_ (by simp) _)⟩ ?_
  all_goals
    rintro W ⟨hc0, hc1, hB⟩
    have HB0 := Lib.hid hB; clear hB
    go_wp2_with fail
    go_quiet ((first | (go_at_call 38; with_reducible exact Calls.quiet_of_same (TMq.out _)) | (go_at_call 38; with_reducible exact Calls.quiet_of_same (TKq.out _))))
    have HB1 := Lib.hid (below_drewN HB0.out nq); clear HB0 hc0 hc1
    generalize W.drewN nq = W1 at *
    go_wp2_with fail
    refine (PX.out _ (HI.out.below HB1.out)).mono ?_
    rintro e y0 ⟨rfl, h1⟩
    have HB2 := Lib.hid (below_step HB1.out h1); clear h1 HB1
    go_wp2_with fail
    refine (PY.out _ (HI.out.below HB2.out)).mono ?_
    rintro e y1 ⟨rfl, h1⟩
    have HB3 := Lib.hid (below_step HB2.out h1); clear h1 HB2
    go_wp2_with fail
    refine (PZ.out _ (HI.out.below HB3.out)).mono ?_
    rintro e y2 ⟨rfl, h1⟩
    have HB4 := Lib.hid (below_step HB3.out h1); clear h1 HB3
    go_wp2_with fail
    refine (P1.out _ (HI.out.below HB4.out)).mono ?_
    rintro e y3 ⟨rfl, h1⟩
    have HB5 := Lib.hid (below_step HB4.out h1); clear h1 HB4
    go_wp2_with fail
    refine (P0.out _ (HI.out.below HB5.out)).mono ?_
    rintro e y4 ⟨rfl, h1⟩
    have HB6 := Lib.hid (below_step HB5.out h1); clear h1 HB5
    go_wp2_with fail
    refine (PV.out _ (HI.out.below HB6.out)).mono ?_
    rintro e y5 ⟨rfl, h1⟩
    have HB7 := Lib.hid (below_step HB6.out h1); clear h1 HB6
    go_wp2_with fail
    refine (PU.out _ (HI.out.below HB7.out)).mono ?_
    rintro e y6 ⟨rfl, h1⟩
    have HB8 := Lib.hid (below_step HB7.out h1); clear h1 HB7
    go_wp2_with fail
    refine (NE.out _ (HI.out.below HB8.out)).mono ?_
    rintro e y7 ⟨rfl, h1⟩
    have HB9 := Lib.hid (below_step HB8.out h1); clear h1 HB8
    go_wp2_with fail
    refine (VV.out _).mono ?_
    rintro e y8 ⟨rfl, h1⟩
    have HB10 := Lib.hid (below_step HB9.out h1); clear h1 HB9
    go_wp2_with fail
    refine (works_any _ (HI.out.below HB10.out)).mono ?_
    rintro e y9 ⟨rfl, h1⟩
    go_wp2_with fail
    go_ret
    exact ⟨rfl, below_step HB10.out h1⟩
theorem walk (o wd n0 n1 : Int) (w : World) (hI : Inv w) : Calls Tryd.prog 8 #[.int .i64 o, .int .i64 wd, .agg #[.int .i64 n0, .int .i64 n1]] w (Ret (.bool true) w) :=
  core o wd n0 n1 _ _ _ (o % 7).toNat w hI (by omega) (by omega) rfl rfl rfl

/-! ### the row and the card -/
theorem own : ownKnob Tryd.prog.godebug = none := by kernel_rfl
theorem door_met (os : Os) (args : Array Value) : laidMetH Tryd.prog Rows.wordJoinedRow.laid ((World.doorLaid Tryd.prog 65 os).forCall (fun _ _ => 0) ⟨#[], args, []⟩).memory :=
  laidMetH_of_parts3 (fuel := 8) (laidMet_of_run' 8 (by kernel_rfl) (by kernel_rfl)) (by kernel_rfl) (by kernel_rfl)
set_option maxRecDepth 100000 in
theorem lifted (os : Os) (started : os.Started) (H : Type) (enc : TypeId × Value → H) :
    ReturnsInHanded {} Tryd.checked os 8 .any (fun w args => (Rows.wordJoinedSpec.pre enc Tryd.prog Tryd.f8 [] false w args ∧ laidMetH Tryd.prog Rows.wordJoinedRow.laid w) ∧ sizedMet enc Tryd.prog Tryd.f8 (OpenSpec.ofChange Rows.wordJoinedSpec) false w args)
      (Rows.wordJoinedSpec.post enc Tryd.prog Tryd.f8 false true false false) := by
  refine returnsInHanded_of_change_and (C := Tryd.checked) (X := fun w _ => laidMetH Tryd.prog Rows.wordJoinedRow.laid w) (fun _ _ _ hh h => h.of_heap hh) own started (by kernel_rfl) Tryd.func8
    (ChangeSpec.witness_shaped (enc := enc) (C := Tryd.checked) (os := os) (X := fun w _ => laidMetH Tryd.prog Rows.wordJoinedRow.laid w) false (World.doorLaid Tryd.prog 65 os) #[.int .i64 0, .int .i64 0, .agg #[.int .i64 0, .int .i64 0]] 8 rfl (World.shaped_of_RefB (by kernel_rfl) (by kernel_rfl)) (by kernel_rfl) (by kernel_rfl) (by kernel_rfl) (door_met os _)) ?_
  intro W base args ds gs before hval0 hW _ _ hL _
  have hval : ∀ (j : Nat) t v, Tryd.f8.params[j]? = some t → args[j]? = some v → Value.okWide Tryd.prog W .any base t v := hval0
  have hW' := hW
  obtain ⟨p, q, hA0, hV, rfl, hfz, hnd⟩ := hW
  have hA : DataW.TrodAll enc Tryd.prog W 0 (fun _ => true) true Tryd.f8.params.toList args.toList ds p := hA0
  rw [Tryd.params8] at hA hval
  obtain ⟨v0, vs0, d0, ds0, p0, q0, hargs, rfl, rfl, h0, r0⟩ := trodAll_cons hA
  obtain ⟨v1, vs1, d1, ds1, p1, q1, rfl, rfl, rfl, h1, r1⟩ := trodAll_cons r0
  obtain ⟨v2, vs2, d2, ds2, p2, q2, rfl, rfl, rfl, h2, r2⟩ := trodAll_cons r1
  obtain ⟨rfl, rfl, rfl⟩ := trodAll_nil r2
  obtain rfl : args = #[v0, v1, v2] := by cases args; simp_all
  obtain ⟨rfl, rfl⟩ := trodVars_none hV
  obtain ⟨a0, rfl, rfl, rfl, w0⟩ := open_int Tryd.underlying3 (hval 0 3 v0 rfl rfl) h0
  obtain ⟨a1, rfl, rfl, rfl, w1⟩ := open_int Tryd.underlying3 (hval 1 3 v1 rfl rfl) h1
  obtain ⟨x20, x21, rfl, rfl, rfl, w20, w21⟩ := open_arr2 (hval 2 43 v2 rfl rfl) h2
  clear hA0 hval0
  simp only [List.append_nil] at hW'
  refine (walk a0 a1 x20 x21  W (of_laid hL)).mono fun e W' ⟨he, hg⟩ => ?_
  subst he
  exact ⟨_, rfl, _, _, _, [], [], [], hW', trodAll_cons_mk (shut_bool Tryd.underlying4 _) trodAll_mk0, trodAll_cons_mk (shut_int Tryd.underlying3 w0) (trodAll_cons_mk (shut_int Tryd.underlying3 w1) (trodAll_cons_mk (shut_arr2 w20 w21) trodAll_mk0)), rfl, hg.frame _, fun h => by cases h⟩
theorem holds : Rows.WordJoinedSaid :=
  OpenClaim.holds_of_wide 8 Tryd.f8 rfl rfl rfl rfl rfl rfl rfl ⟨rfl, rfl, rfl, rfl, rfl⟩ rfl rfl rfl rfl rfl (by kernel_rfl) Tryd.func8 (by kernel_rfl)
    (of_decide_eq_true (by kernel_rfl)) (by unfold Func.isWrapper; first | (rw [if_pos (by decide +kernel)]; kernel_rfl) | (rw [if_neg (by decide +kernel)]; exact ⟨rfl, rfl⟩))
    (fun os started H enc _ => lifted os started H enc)
theorem proved : Rows.WordJoinedCardSaid :=
  Claim7.holds_tied_plain_at .later [] [.data, .data, .data, .data] true (true, "92663498427d49479742040ab7689a64217b0d7b0624e792c2ddd20f6cd25577") false
    holds (fun _ h => by cases h) (by kernel_rfl) (fun _ h => by cases h) wordJoined_row_tie rfl ⟨rfl, rfl⟩ (by kernel_rfl) rfl
    (fun f fn hf hfn => by
      obtain rfl : f = 8 := Option.some.inj ((show Tryd.prog.funcNamed "sheafworks/sheafworkslaw01.WordJoined" = some 8 by kernel_rfl).symm.trans hf) |>.symm
      obtain rfl : fn = Tryd.f8 := (Option.some.inj (Tryd.func8.symm.trans hfn)).symm
      exact ⟨by kernel_rfl, fun j t ht => by
        rw [Tryd.params8] at ht
        have hm : t ∈ [3, 43] := by
          have := Array.mem_of_getElem? ht
          simpa using this
        have hall : ([3, 43].all fun u => !Tryd.prog.wantsStandIn u) = true := by kernel_rfl
        exact (show Tryd.prog.wantsStandIn t = false by simpa using List.all_eq_true.1 hall t hm)⟩)
    (by kernel_rfl)
#print axioms proved
end Go.Proofs.YthbgingclpponaaDoor.wordJoined
