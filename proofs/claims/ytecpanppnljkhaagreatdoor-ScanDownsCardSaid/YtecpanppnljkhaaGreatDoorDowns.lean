/- ScanDowns: Down, for any two numbers, and any slice of slices of ints that can be read: the law's call returns true, and they read as they did. No condition but the row's own (the listed table holds what the text says). -/
import Derived.Test.YtecpanppnljkhaaGreatDoorKa7
import Derived.Test.YtecpanppnljkhaaGreatDoorTie
import Derived.Test.YtecpanppnljkhaaGreatDoorCards
import Derived.ChangeMaps5
namespace Go.Proofs.YtecpanppnljkhaaGreatDoor.scanDowns
open Go.ChangeShapes Go.WideShapes Go.ChangeAt Go.RowKit Go.ChangeMaps
set_option linter.unusedVariables false
set_option maxRecDepth 100000 in
set_option maxHeartbeats 40000000 in
theorem core (op : Int) (A : Option Addr) (n c : Nat) (m : Int) (T : List Int) (E : Int) (S : World → Prop) (hstep : ∀ W W', S W → Below W.heap.size W W' → S W') (w : World) (hI : Inv w) (hS : S w) (hT : T.length ≤ 9223372036854775807)
    (C1 : ∀ W, Inv W → S W → Calls Tryz.prog 22 #[.int .i64 op, .slice A n c, .int .i64 m] W (fun e w' => ∃ A' c', e = .returned (.tuple #[.slice A' T.length c', .int .i64 E]) ∧ T.length ≤ c' ∧ Sl w' A' T ∧ Below W.heap.size W w'))
    (C2 : ∀ W, S W → Calls Tryz.prog 23 #[.int .i64 op, .slice A n c, .int .i64 m] W (fun e w' => ∃ A' c', e = .returned (.tuple #[.slice A' T.length c', .int .i64 E]) ∧ T.length ≤ c' ∧ Sl w' A' T ∧ Below W.heap.size W w')) :
    Calls Tryz.prog 5 #[.int .i64 op, .slice A n c, .int .i64 m] w (Ret (.bool true) w) := by
  have C1 := Lib.hid C1; have C2 := Lib.hid C2; have HST := Lib.hid hstep
  clear hstep
  go_enter Tryz.func5, Tryz.ntmps5
  go_wp2_with fail
  refine (C1.out _ hI hS).mono ?_
  rintro e w1 ⟨A1, c1, rfl, hc1, h1, hB⟩
  have hS1 := HST.out _ _ hS hB
  go_wp2_with fail
  refine (C2.out _ hS1).mono ?_
  rintro e w2 ⟨A2, c2, rfl, hc2, h2, hBx⟩
  replace h1 := h1.step hBx
  replace hB := hB.trans (hBx.mono hB.size)
  clear hBx C1 C2 hS hS1 HST
  go_wp2_with fail
  refine (eq_lit A1 A2 c1 c2 T.length T _ rfl h1 h2 hT).mono ?_
  rintro e w3 ⟨rfl, hBx⟩
  replace hB := hB.trans (hBx.mono hB.size)
  clear hBx h1 h2
  go_wp2_with fail
  refine (joined_any _ (hI.below hB)).mono ?_
  rintro e w17 ⟨rfl, hBx⟩
  go_wp2
  go_ret
  exact ⟨rfl, hB.trans (hBx.mono hB.size)⟩
theorem nil_post {W w' : World} {E : Int} {e : Ending} (h : e = .returned (.tuple #[.slice none 0 0, .int .i64 E]) ∧ Below W.heap.size W w') : ∃ A' c', e = .returned (.tuple #[.slice A' ([] : List Int).length c', .int .i64 E]) ∧ ([] : List Int).length ≤ c' ∧ Sl w' A' [] ∧ Below W.heap.size W w' :=
  ⟨none, 0, h.1, Nat.le_refl _, Sl.nil _ _, h.2⟩
theorem walk (op : Int) (A : Option Addr) (c : Nat) (L : List (List Int)) (m : Int) (w : World) (hI : Inv w) (h : Sll w A L) (hc : L.length ≤ c) (hcm : c ≤ 9223372036854775807) (hs : AllShort L) :
    Calls Tryz.prog 5 #[.int .i64 op, .slice A L.length c, .int .i64 m] w (Ret (.bool true) w) := by
  have hn : L.length ≤ 9223372036854775807 := by omega
  by_cases hne : neE op = 0
  case neg =>
    exact core op A L.length c m [] (neE op) (fun W => Sll W A L) (fun W W' hW hb => hW.step hb) w hI h (by simp)
      (fun W hW _ => (down_err1 op m (.slice A L.length c) W hW hne).mono fun e w' h => nil_post h)
      (fun W _ => (rdown_err1 op m A c L.length W hne).mono fun e w' h => nil_post h)
  by_cases hA : AreLv (doN op) (neN op) L
  case neg =>
    exact core op A L.length c m [] 8 (fun W => Sll W A L) (fun W W' hW hb => hW.step hb) w hI h (by simp)
      (fun W hW hS => (down_err2 op m A c L W hW hS hn hs hne hA).mono fun e w' h => nil_post h)
      (fun W hS => (rdown_err2 op m A c L W hS hn hs hne hA).mono fun e w' h => nil_post h)
  have hA' := hA
  obtain ⟨d, h0, h1, h2, h3⟩ := hA'
  obtain ⟨d', _, g1, g2, g3, g4⟩ := areLv_out hA
  have hdd : d = d' := by
    have := h2
    rw [g1] at this
    exact isD_unique this (isD_pow g2)
  subst hdd
  by_cases hm : m < 0 ∨ ((nthL L 0).length : Int) < m
  case pos =>
    exact core op A L.length c m [] 2 (fun W => Sll W A L) (fun W W' hW hb => hW.step hb) w hI h (by simp)
      (fun W hW hS => (down_err3 op m d A c L W hW hS hn hs hne h0 hA hm).mono fun e w' h => nil_post h)
      (fun W hS => (rdown_err3 op m A c L W hS hn hs hne h0 hA hm).mono fun e w' h => nil_post h)
  obtain ⟨k, rfl⟩ : ∃ k : Nat, m = (k : Int) := ⟨m.toNat, by omega⟩
  have hk : k ≤ 2 ^ d := by rw [← g1]; omega
  have hTl : ((dnL (doN op) (neN op) L d).take k).length = k := by rw [List.length_take, dnL_len]; omega
  have hb : 2 ^ d ≤ 2 ^ 20 := Nat.pow_le_pow_right (by omega) g2
  exact core op A L.length c k ((dnL (doN op) (neN op) L d).take k) 0 (fun W => Sll W A L) (fun W W' hW hb => hW.step hb) w hI h (by rw [hTl]; omega)
    (fun W hW hS => (down_ok op d k A c L W hW hS hc hs hne h0 h1 h2 h3 hk).mono fun e w' h => by rw [hTl]; exact h)
    (fun W hS => (rdown_ok op d k A c L W hS hn hs hne h0 g2 g4 g1 g3 hk).mono fun e w' h => by rw [hTl]; exact h)

/-! ### the row and the card -/
set_option maxRecDepth 100000
theorem own : ownKnob Tryz.prog.godebug = none := by kernel_rfl
theorem door_met (os : Os) (args : Array Value) : laidMetH Tryz.prog Rows.scanDownsRow.laid ((World.doorLaid Tryz.prog 61 os).forCall (fun _ _ => 0) ⟨#[], args, []⟩).memory :=
  laidMetH_of_parts3 (fuel := 8) (laidMet_of_run' 8 (by kernel_rfl) (by kernel_rfl)) (by kernel_rfl) (by kernel_rfl)
theorem lifted (os : Os) (started : os.Started) (H : Type) (enc : TypeId × Value → H) :
    ReturnsInHanded {} Tryz.checked os 5 .any (fun w args => (Rows.scanDownsSpec.pre enc Tryz.prog Tryz.f5 [] false w args ∧ laidMetH Tryz.prog Rows.scanDownsRow.laid w) ∧ sizedMet enc Tryz.prog Tryz.f5 (OpenSpec.ofChange Rows.scanDownsSpec) false w args)
      (Rows.scanDownsSpec.post enc Tryz.prog Tryz.f5 false true false false) := by
  refine returnsInHanded_of_change_and (C := Tryz.checked) (X := fun w _ => laidMetH Tryz.prog Rows.scanDownsRow.laid w) (fun _ _ _ hh h => h.of_heap hh) own started (by kernel_rfl) Tryz.func5
    (ChangeSpec.witness_shaped (enc := enc) (C := Tryz.checked) (os := os) (X := fun w _ => laidMetH Tryz.prog Rows.scanDownsRow.laid w) false (World.doorLaid Tryz.prog 61 os) #[.int .i64 0, .slice none 0 0, .int .i64 0] 8 rfl (World.shaped_of_RefB (by kernel_rfl) (by kernel_rfl)) (by kernel_rfl) (by kernel_rfl) (by kernel_rfl) (door_met os _)) ?_
  intro W base args ds gs before hval0 hW _ _ hL _
  have hval : ∀ (j : Nat) t v, Tryz.f5.params[j]? = some t → args[j]? = some v → Value.okWide Tryz.prog W .any base t v := hval0
  have hW' := hW
  obtain ⟨p, q, hA0, hV, rfl, hfz, hnd⟩ := hW
  have hA : DataW.TrodAll enc Tryz.prog W 0 (fun _ => true) true Tryz.f5.params.toList args.toList ds p := hA0
  rw [Tryz.params5] at hA hval
  obtain ⟨v0, vs0, d0, ds0, p0, q0, hargs, rfl, rfl, h0, r0⟩ := trodAll_cons hA
  obtain ⟨v1, vs1, d1, ds1, p1, q1, rfl, rfl, rfl, h1, r1⟩ := trodAll_cons r0
  obtain ⟨v2, vs2, d2, ds2, p2, q2, rfl, rfl, rfl, h2, r2⟩ := trodAll_cons r1
  obtain ⟨rfl, rfl, rfl⟩ := trodAll_nil r2
  obtain rfl : args = #[v0, v1, v2] := by cases args; simp_all
  obtain ⟨rfl, rfl⟩ := trodVars_none hV
  clear hA0 hval0
  simp only [List.append_nil] at hW'
  obtain ⟨a0, rfl, rfl, rfl, w0⟩ := open_int Tryz.underlying3 (hval 0 3 v0 rfl rfl) h0
  have hlt1 : ∀ x ∈ p1, x.block < W.heap.size := fun x hx => by simpa using hW'.lt x (by simp [hx])
  have hg1 : ∀ (W' : World), Below W.heap.size W W' → DataW.Trod enc Tryz.prog W' 0 (fun b => decide (b < W.heap.size)) true 33 v1 d1 p1 :=
    fun W' hn => Below.trod Tryz.laidOut (by kernel_rfl) (of_decide_eq_true (by kernel_rfl)) h1 hn hlt1
  obtain ⟨A1, c1, z1, rfl, hle1, hmx1, hS1, hR1⟩ := open_sll (hval 1 33 v1 rfl rfl) h1 hlt1
  obtain ⟨a2, rfl, rfl, rfl, w2⟩ := open_int Tryz.underlying3 (hval 2 3 v2 rfl rfl) h2
  refine (walk a0 A1 c1 z1 a2 W (of_laid hL) hS1 hle1 hmx1 hR1).mono fun e W' ⟨he, hB⟩ => ?_
  subst he
  exact ⟨_, rfl, _, _, _, [], _, [], hW', trodAll_cons_mk (shut_bool Tryz.underlying4 _) trodAll_mk0, trodAll_cons_mk (shut_int Tryz.underlying3 w0) (trodAll_cons_mk (hg1 _ hB) (trodAll_cons_mk (shut_int Tryz.underlying3 w2) trodAll_mk0)), rfl, hB.frame _, fun h => by cases h⟩
theorem holds : Rows.ScanDownsSaid :=
  OpenClaim.holds_of_wide 5 Tryz.f5 rfl rfl rfl rfl rfl rfl rfl ⟨rfl, rfl, rfl, rfl, rfl⟩ rfl rfl rfl rfl rfl (by kernel_rfl) Tryz.func5 (by kernel_rfl)
    (of_decide_eq_true (by kernel_rfl)) (by unfold Func.isWrapper; first | (rw [if_pos (by decide +kernel)]; kernel_rfl) | (rw [if_neg (by decide +kernel)]; exact ⟨rfl, rfl⟩))
    (fun os started H enc _ => lifted os started H enc)
theorem proved : Rows.ScanDownsCardSaid :=
  Claim7.holds_tied_plain_at .later [] [.data] true (true, "39db146c1ea4f99e319f61b0ca8fb22d700a93142eae72cffab67917881868a7") false
    holds (fun _ h => by cases h) (by kernel_rfl) (fun _ h => by cases h) scanDowns_row_tie rfl ⟨rfl, rfl⟩ (by kernel_rfl) rfl
    (fun f fn hf hfn => by
      obtain rfl : f = 5 := Option.some.inj ((show Tryz.prog.funcNamed "sheafworks/sheafworkslaw05.ScanDowns" = some 5 by kernel_rfl).symm.trans hf) |>.symm
      obtain rfl : fn = Tryz.f5 := (Option.some.inj (Tryz.func5.symm.trans hfn)).symm
      exact ⟨by kernel_rfl, fun j t ht => by
        rw [Tryz.params5] at ht
        have hm : t ∈ [3, 33, 3] := by
          have := Array.mem_of_getElem? ht
          simpa using this
        have hall : ([3, 33, 3].all fun u => !Tryz.prog.wantsStandIn u) = true := by kernel_rfl
        exact (show Tryz.prog.wantsStandIn t = false by simpa using List.all_eq_true.1 hall t hm)⟩)
    (by kernel_rfl)
#print axioms proved
end Go.Proofs.YtecpanppnljkhaaGreatDoor.scanDowns
