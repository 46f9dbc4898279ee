/- PrimMerged: for any two slices of ints that can be read, the law's call returns true, and they read as they did. No condition but the row's own (the listed table holds what the text lays). -/
import Derived.Test.YtchjdhlmpdcibaaDoorVa
import Derived.Test.YtchjdhlmpdcibaaDoorVo
import Derived.Test.YtchjdhlmpdcibaaDoorVl
import Derived.Test.YtchjdhlmpdcibaaDoorVn
import Derived.Test.YtchjdhlmpdcibaaDoorTie
import Derived.Test.YtchjdhlmpdcibaaDoorCards
import Derived.Test.YtchjdhlmpdcibaaDoorTa
namespace Go.Proofs.YtchjdhlmpdcibaaDoor.primMerged
open Go.ChangeShapes Go.WideShapes Go.ChangeAt Go.RowKit Go.ChangeMaps
set_option linter.unusedVariables false
set_option maxRecDepth 100000 in
set_option maxHeartbeats 40000000 in
theorem walk (A0 : Option Addr) (c0 : Nat) (z0 : List Int) (A1 : Option Addr) (c1 : Nat) (z1 : List Int) (w : World) (hI : Inv w) (h0 : Sl w A0 z0) (hc0 : z0.length ≤ c0) (k0 : Ok z0) (h1 : Sl w A1 z1) (hc1 : z1.length ≤ c1) (k1 : Ok z1) :
    Calls Tryd.prog 7 #[.slice A0 z0.length c0, .slice A1 z1.length c1] w (Good w) := by
  have M := merged_of z0 z1
  have W1 : Calls Tryd.prog 44 #[.slice A0 z0.length c0, .int .i64 200] w (RetS w (wlL z0 200)) := lwords_any A0 c0 z0 200 w h0 k0 (by omega)
  obtain ⟨a, ha0⟩ : ∃ a, wlL z0 200 = a := ⟨_, rfl⟩
  rw [ha0] at M W1
  have hfw := M.few
  have W2 := fun W (hs : Sl W A1 z1) => flags_any A1 c1 z1 a.length W hs k1 (by omega)
  obtain ⟨f, hf0⟩ : ∃ f, flL z1 a.length = f := ⟨_, rfl⟩
  rw [hf0] at M W2
  have hfl := M.len
  have W3 := fun W A c (hs : Sl W A f) => opposite_any A c f W hs (by omega)
  obtain ⟨g, hg0⟩ : ∃ g, opL f = g := ⟨_, rfl⟩
  rw [hg0] at M W3
  have hsm := M.sum
  have hgl := M.opp.1
  have oa : Ok a := by unfold Ok; omega
  have of_ : Ok f := by unfold Ok; omega
  have og : Ok g := by unfold Ok; omega
  have op : Ok (pacL f a) := by unfold Ok; omega
  have oq : Ok (pacL g a) := by unfold Ok; omega
  have P1 : ∀ W A A' c c', Sl W A f → Sl W A' a → f.length ≤ c → a.length ≤ c' → Calls Tryd.prog 23 #[.slice A f.length c, .slice A' a.length c'] W (RetL W (pacL f a) 0) := fun W A A' c c' h h' hc hc' => by
      have := pack_any A A' c c' f a W h h' hc hc' of_ oa
      rwa [M.pac, orL_ok] at this
  have P2 : ∀ W A A' c c', Sl W A g → Sl W A' a → g.length ≤ c → a.length ≤ c' → Calls Tryd.prog 23 #[.slice A g.length c, .slice A' a.length c'] W (RetL W (pacL g a) 0) := fun W A A' c c' h h' hc hc' => by
      have := pack_any A A' c c' g a W h h' hc hc' og oa
      rwa [M.symm.pac, orL_ok] at this
  have R1 : ∀ W A A' A'' c c' c'', Sl W A f → Sl W A' (pacL f a) → Sl W A'' (pacL g a) → f.length ≤ c → (pacL f a).length ≤ c' → (pacL g a).length ≤ c'' → Calls Tryd.prog 25 #[.slice A f.length c, .slice A' (pacL f a).length c', .slice A'' (pacL g a).length c''] W (RetL W a 0) := fun W A A' A'' c c' c'' h h' h'' hc hc' hc'' => by
      have := merge_any A A' A'' c c' c'' f (pacL f a) (pacL g a) W h h' h'' hc hc' hc'' of_ op oq
      rwa [M.mer.1, M.mer.2, orL_ok] at this
  have R2 : ∀ W A A' A'' c c' c'', Sl W A g → Sl W A' (pacL g a) → Sl W A'' (pacL f a) → g.length ≤ c → (pacL g a).length ≤ c' → (pacL f a).length ≤ c'' → Calls Tryd.prog 25 #[.slice A g.length c, .slice A' (pacL g a).length c', .slice A'' (pacL f a).length c''] W (RetL W a 0) := fun W A A' A'' c c' c'' h h' h'' hc hc' hc'' => by
      have := merge_any A A' A'' c c' c'' g (pacL g a) (pacL f a) W h h' h'' hc hc' hc'' og oq op
      rwa [M.symm.mer.1, M.symm.mer.2, orL_ok] at this
  obtain ⟨p, hp0⟩ : ∃ p, pacL f a = p := ⟨_, rfl⟩
  obtain ⟨q, hq0⟩ : ∃ q, pacL g a = q := ⟨_, rfl⟩
  rw [hp0] at P1 R1 R2 hsm
  rw [hq0] at P2 R1 R2 hsm
  have hpl : p.length ≤ 200 := by omega
  have hql : q.length ≤ 200 := by omega
  have hd : ((p.length : Int) + (q.length : Int) != (a.length : Int)) = false := by rw [bne_eq_false_iff_eq]; omega
  have la : a.length ≤ 9223372036854775807 := by omega
  have lp : p.length ≤ 9223372036854775807 := by omega
  have lq : q.length ≤ 9223372036854775807 := by omega
  have W1 := Lib.hid W1
  have W2 := Lib.hid W2
  have W3 := Lib.hid W3
  have P1 := Lib.hid P1
  have P2 := Lib.hid P2
  have R1 := Lib.hid R1
  have R2 := Lib.hid R2
  clear M hsm hgl hfl op oq oa of_ og ha0 hf0 hg0 hp0 hq0
  go_enter Tryd.func7, Tryd.ntmps7
  have hBB : Below w.heap.size w w := Below.refl _ _
  go_wp2_with fail
  refine (W1.out).mono ?_
  rintro e w1 ⟨Aha, cha, rfl, hcha, ha, hB⟩
  have h1 := h1.step hB
  have hBB := hBB.trans (hB.mono hBB.size)
  go_wp2_with fail
  refine (W2.out _ h1).mono ?_
  rintro e w2 ⟨Ahf, chf, rfl, hchf, hf, hB⟩
  have h1 := h1.step hB
  have ha := ha.step hB
  have hBB := hBB.trans (hB.mono hBB.size)
  go_wp2_with fail
  refine (P1.out _ _ _ _ _ hf ha hchf hcha).mono ?_
  rintro e w3 ⟨Ahp, chp, rfl, hchp, hp, hB⟩
  have h1 := h1.step hB
  have ha := ha.step hB
  have hf := hf.step hB
  have hBB := hBB.trans (hB.mono hBB.size)
  go_wp2_with fail
  refine (W3.out _ _ _ hf).mono ?_
  rintro e w4 ⟨Ahg, chg, rfl, hchg, hg, hB⟩
  have h1 := h1.step hB
  have ha := ha.step hB
  have hf := hf.step hB
  have hp := hp.step hB
  have hBB := hBB.trans (hB.mono hBB.size)
  go_wp2_with fail
  refine (P2.out _ _ _ _ _ hg ha hchg hcha).mono ?_
  rintro e w5 ⟨Ahq, chq, rfl, hchq, hq, hB⟩
  have h1 := h1.step hB
  have ha := ha.step hB
  have hf := hf.step hB
  have hp := hp.step hB
  have hg := hg.step hB
  have hBB := hBB.trans (hB.mono hBB.size)
  clear hg
  go_wp2_with fail
  refine (R1.out _ _ _ _ _ _ _ hf hp hq hchf hchp hchq).mono ?_
  rintro e w6 ⟨Ahm, chm, rfl, hchm, hm, hB⟩
  have h1 := h1.step hB
  have ha := ha.step hB
  have hf := hf.step hB
  have hp := hp.step hB
  have hq := hq.step hB
  have hBB := hBB.trans (hB.mono hBB.size)
  go_wp2_with fail
  refine (eq_self _ _ _ _ _ _ hm ha la).mono ?_
  rintro e w7 ⟨rfl, hB⟩
  have h1 := h1.step hB
  have ha := ha.step hB
  have hf := hf.step hB
  have hp := hp.step hB
  have hq := hq.step hB
  have hm := hm.step hB
  have hBB := hBB.trans (hB.mono hBB.size)
  clear hm
  go_wp2_with fail
  refine (W3.out _ _ _ hf).mono ?_
  rintro e w8 ⟨Ahg, chg, rfl, hchg, hg, hB⟩
  have h1 := h1.step hB
  have ha := ha.step hB
  have hf := hf.step hB
  have hp := hp.step hB
  have hq := hq.step hB
  have hBB := hBB.trans (hB.mono hBB.size)
  go_wp2_with fail
  refine (R2.out _ _ _ _ _ _ _ hg hq hp hchg hchq hchp).mono ?_
  rintro e w9 ⟨Ahm, chm, rfl, hchm, hm, hB⟩
  have h1 := h1.step hB
  have ha := ha.step hB
  have hf := hf.step hB
  have hp := hp.step hB
  have hq := hq.step hB
  have hg := hg.step hB
  have hBB := hBB.trans (hB.mono hBB.size)
  clear hg
  go_wp2_with fail
  refine (P1.out _ _ _ _ _ hf hm hchf hchm).mono ?_
  rintro e w10 ⟨Ahr, chr, rfl, hchr, hr, hB⟩
  have h1 := h1.step hB
  have ha := ha.step hB
  have hf := hf.step hB
  have hp := hp.step hB
  have hq := hq.step hB
  have hm := hm.step hB
  have hBB := hBB.trans (hB.mono hBB.size)
  go_wp2_with fail
  refine (W3.out _ _ _ hf).mono ?_
  rintro e w11 ⟨Ahg, chg, rfl, hchg, hg, hB⟩
  have h1 := h1.step hB
  have ha := ha.step hB
  have hf := hf.step hB
  have hp := hp.step hB
  have hq := hq.step hB
  have hm := hm.step hB
  have hr := hr.step hB
  have hBB := hBB.trans (hB.mono hBB.size)
  go_wp2_with fail
  refine (P2.out _ _ _ _ _ hg hm hchg hchm).mono ?_
  rintro e w12 ⟨Ahs, chs, rfl, hchs, hs, hB⟩
  have h1 := h1.step hB
  have ha := ha.step hB
  have hf := hf.step hB
  have hp := hp.step hB
  have hq := hq.step hB
  have hm := hm.step hB
  have hr := hr.step hB
  have hg := hg.step hB
  have hBB := hBB.trans (hB.mono hBB.size)
  clear hg
  go_wp2_with fail
  refine (eq_self _ _ _ _ _ _ hm ha la).mono ?_
  rintro e w13 ⟨rfl, hB⟩
  have h1 := h1.step hB
  have ha := ha.step hB
  have hf := hf.step hB
  have hp := hp.step hB
  have hq := hq.step hB
  have hm := hm.step hB
  have hr := hr.step hB
  have hs := hs.step hB
  have hBB := hBB.trans (hB.mono hBB.size)
  go_wp2_with fail
  refine (eq_self _ _ _ _ _ _ hr hp lp).mono ?_
  rintro e w14 ⟨rfl, hB⟩
  have h1 := h1.step hB
  have ha := ha.step hB
  have hf := hf.step hB
  have hp := hp.step hB
  have hq := hq.step hB
  have hm := hm.step hB
  have hr := hr.step hB
  have hs := hs.step hB
  have hBB := hBB.trans (hB.mono hBB.size)
  go_wp2_with fail
  refine (eq_self _ _ _ _ _ _ hs hq lq).mono ?_
  rintro e w15 ⟨rfl, hB⟩
  have h1 := h1.step hB
  have ha := ha.step hB
  have hf := hf.step hB
  have hp := hp.step hB
  have hq := hq.step hB
  have hm := hm.step hB
  have hr := hr.step hB
  have hs := hs.step hB
  have hBB := hBB.trans (hB.mono hBB.size)
  go_wp2_with fail
  refine (done_any _ (hI.below hBB)).mono ?_
  rintro e w16 ⟨rfl, hB⟩
  have h1 := h1.step hB
  have ha := ha.step hB
  have hf := hf.step hB
  have hp := hp.step hB
  have hq := hq.step hB
  have hm := hm.step hB
  have hr := hr.step hB
  have hs := hs.step hB
  have hBB := hBB.trans (hB.mono hBB.size)
  go_wp2
  go_ret
  exact ⟨rfl, hBB⟩

/-! ### the row and the card -/
theorem own : ownKnob Tryd.prog.godebug = none := by kernel_rfl
theorem door_met (os : Os) (args : Array Value) : laidMetH Tryd.prog Rows.primMergedRow.laid ((World.doorLaid Tryd.prog 61 os).forCall (fun _ _ => 0) ⟨#[], args, []⟩).memory :=
  laidMetH_of_parts3 (fuel := 8) (laidMet_of_run' 8 (by kernel_rfl) (by kernel_rfl)) (by kernel_rfl) (by kernel_rfl)
set_option maxRecDepth 100000 in
theorem lifted (os : Os) (started : os.Started) (H : Type) (enc : TypeId × Value → H) :
    ReturnsInHanded {} Tryd.checked os 7 .any (fun w args => (Rows.primMergedSpec.pre enc Tryd.prog Tryd.f7 [] false w args ∧ laidMetH Tryd.prog Rows.primMergedRow.laid w) ∧ sizedMet enc Tryd.prog Tryd.f7 (OpenSpec.ofChange Rows.primMergedSpec) false w args)
      (Rows.primMergedSpec.post enc Tryd.prog Tryd.f7 false true false false) := by
  refine returnsInHanded_of_change_and (C := Tryd.checked) (X := fun w _ => laidMetH Tryd.prog Rows.primMergedRow.laid w) (fun _ _ _ hh h => h.of_heap hh) own started (by kernel_rfl) Tryd.func7
    (ChangeSpec.witness_shaped (enc := enc) (C := Tryd.checked) (os := os) (X := fun w _ => laidMetH Tryd.prog Rows.primMergedRow.laid w) false (World.doorLaid Tryd.prog 61 os) #[.slice none 0 0, .slice none 0 0] 8 rfl (World.shaped_of_RefB (by kernel_rfl) (by kernel_rfl)) (by kernel_rfl) (by kernel_rfl) (by kernel_rfl) (door_met os _)) ?_
  intro W base args ds gs before hval0 hW _ _ hL _
  have hval : ∀ (j : Nat) t v, Tryd.f7.params[j]? = some t → args[j]? = some v → Value.okWide Tryd.prog W .any base t v := hval0
  have hW' := hW
  obtain ⟨p, q, hA0, hV, rfl, hfz, hnd⟩ := hW
  have hA : DataW.TrodAll enc Tryd.prog W 0 (fun _ => true) true Tryd.f7.params.toList args.toList ds p := hA0
  rw [Tryd.params7] at hA hval
  obtain ⟨v0, vs0, d0, ds0, p0, q0, hargs, rfl, rfl, h0, r0⟩ := trodAll_cons hA
  obtain ⟨v1, vs1, d1, ds1, p1, q1, rfl, rfl, rfl, h1, r1⟩ := trodAll_cons r0
  obtain ⟨rfl, rfl, rfl⟩ := trodAll_nil r1
  obtain rfl : args = #[v0, v1] := by cases args; simp_all
  obtain ⟨rfl, rfl⟩ := trodVars_none hV
  clear hA0 hval0
  simp only [List.append_nil] at hW'
  have hlt0 : ∀ x ∈ p0, x.block < W.heap.size := fun x hx => by simpa using hW'.lt x (by simp [hx])
  have hg0 : ∀ (W' : World), Below W.heap.size W W' → DataW.Trod enc Tryd.prog W' 0 (fun b => decide (b < W.heap.size)) true 22 v0 d0 p0 :=
    fun W' hn => Below.trod Tryd.laidOut (by kernel_rfl) (of_decide_eq_true (by kernel_rfl)) h0 hn hlt0
  obtain ⟨A0, c0, z0, rfl, hle0, hmx0, hS0, hR0⟩ := open_sl (hval 0 22 v0 rfl rfl) h0 hlt0
  have hlt1 : ∀ x ∈ p1, x.block < W.heap.size := fun x hx => by simpa using hW'.lt x (by simp [hx])
  have hg1 : ∀ (W' : World), Below W.heap.size W W' → DataW.Trod enc Tryd.prog W' 0 (fun b => decide (b < W.heap.size)) true 22 v1 d1 p1 :=
    fun W' hn => Below.trod Tryd.laidOut (by kernel_rfl) (of_decide_eq_true (by kernel_rfl)) h1 hn hlt1
  obtain ⟨A1, c1, z1, rfl, hle1, hmx1, hS1, hR1⟩ := open_sl (hval 1 22 v1 rfl rfl) h1 hlt1
  refine (walk A0 c0 z0 A1 c1 z1 W (of_laid hL) hS0 hle0 (by unfold Ok; omega) hS1 hle1 (by unfold Ok; omega)).mono fun e W' ⟨he, hB⟩ => ?_
  subst he
  exact ⟨_, rfl, _, _, _, [], _, [], hW', trodAll_cons_mk (shut_bool Tryd.underlying4 _) trodAll_mk0, trodAll_cons_mk (hg0 _ hB) (trodAll_cons_mk (hg1 _ hB) trodAll_mk0), rfl, hB.frame _, fun h => by cases h⟩
theorem holds : Rows.PrimMergedSaid :=
  OpenClaim.holds_of_wide 7 Tryd.f7 rfl rfl rfl rfl rfl rfl rfl ⟨rfl, rfl, rfl, rfl, rfl⟩ rfl rfl rfl rfl rfl (by kernel_rfl) Tryd.func7 (by kernel_rfl)
    (of_decide_eq_true (by kernel_rfl)) (by unfold Func.isWrapper; first | (rw [if_pos (by decide +kernel)]; kernel_rfl) | (rw [if_neg (by decide +kernel)]; exact ⟨rfl, rfl⟩))
    (fun os started H enc _ => lifted os started H enc)
theorem proved : Rows.PrimMergedCardSaid :=
  Claim7.holds_tied_plain_at .later [] [.data] true (true, "c48142069686eda1f245f4174541a761d0ed2a85e4383fa61a5a23a4d37df986") false
    holds (fun _ h => by cases h) (by kernel_rfl) (fun _ h => by cases h) primMerged_row_tie rfl ⟨rfl, rfl⟩ (by kernel_rfl) rfl
    (fun f fn hf hfn => by
      obtain rfl : f = 7 := Option.some.inj ((show Tryd.prog.funcNamed "sheafworks/sheafworkslaw04.PrimMerged" = some 7 by kernel_rfl).symm.trans hf) |>.symm
      obtain rfl : fn = Tryd.f7 := (Option.some.inj (Tryd.func7.symm.trans hfn)).symm
      exact ⟨by kernel_rfl, fun j t ht => by
        rw [Tryd.params7] at ht
        have hm : t ∈ [22] := by
          have := Array.mem_of_getElem? ht
          simpa using this
        have hall : ([22].all fun u => !Tryd.prog.wantsStandIn u) = true := by kernel_rfl
        exact (show Tryd.prog.wantsStandIn t = false by simpa using List.all_eq_true.1 hall t hm)⟩)
    (by kernel_rfl)
#print axioms proved
end Go.Proofs.YtchjdhlmpdcibaaDoor.primMerged
