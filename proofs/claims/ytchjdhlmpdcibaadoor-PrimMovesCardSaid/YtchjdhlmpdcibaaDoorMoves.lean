/- PrimMoves: for any two slices of ints that can be read, the law's call returns true, and they read as they did. No condition but the row's own (the listed table holds what the text lays). -/
import Derived.Test.YtchjdhlmpdcibaaDoorVa
import Derived.Test.YtchjdhlmpdcibaaDoorVo
import Derived.Test.YtchjdhlmpdcibaaDoorVl
import Derived.Test.YtchjdhlmpdcibaaDoorVn
import Derived.Test.YtchjdhlmpdcibaaDoorTie
import Derived.Test.YtchjdhlmpdcibaaDoorCards
import Derived.Test.YtchjdhlmpdcibaaDoorRn
import Derived.Test.YtchjdhlmpdcibaaDoorRg
import Derived.Test.YtchjdhlmpdcibaaDoorRk
namespace Go.Proofs.YtchjdhlmpdcibaaDoor.primMoves
open Go.ChangeShapes Go.WideShapes Go.ChangeAt Go.RowKit Go.ChangeMaps
set_option linter.unusedVariables false
set_option maxRecDepth 100000 in
set_option maxHeartbeats 40000000 in
theorem walk (A0 : Option Addr) (c0 : Nat) (z0 : List Int) (A1 : Option Addr) (c1 : Nat) (z1 : List Int) (w : World) (hI : Inv w) (h0 : Sl w A0 z0) (hc0 : z0.length ≤ c0) (k0 : Ok z0) (h1 : Sl w A1 z1) (hc1 : z1.length ≤ c1) (k1 : Ok z1) :
    Calls Tryd.prog 5 #[.slice A0 z0.length c0, .slice A1 z1.length c1] w (Good w) := by
  have G1 := Lib.hid (great_any A1 c1 z1 w h1 k1)
  have P1 := fun W g0 g1 => gather_any A0 A1 c0 c1 z0 z1 W g0 g1 hc0 hc1 k0 k1
  have Q1 := fun W g0 g1 => rgather_any A0 c0 z0 A1 c1 z1 W g0 hc0 k0 g1 hc1 k1
  have l1 : (orL (gatE z0 z1) (gatL z0 z1)).length ≤ 9223372036854775807 := len_gather k0 k1
  obtain ⟨y1, hy1⟩ : ∃ y, orL (gatE z0 z1) (gatL z0 z1) = y := ⟨_, rfl⟩
  rw [hy1] at P1 Q1 l1
  obtain ⟨x1, hx1⟩ : ∃ x, (gatE z0 z1) = x := ⟨_, rfl⟩
  rw [hx1] at P1 Q1
  clear hy1 hx1
  have P1 := Lib.hid P1
  have Q1 := Lib.hid Q1
  have P2 := fun W g0 g1 => put_any A0 A1 c0 c1 z0 z1 W g0 g1 hc0 hc1 k0 k1
  have Q2 := fun W g0 g1 => rput_any A0 c0 z0 A1 c1 z1 W g0 hc0 k0 g1 hc1 k1
  have l2 : (orL (putE z0 z1) (putL z0 z1)).length ≤ 9223372036854775807 := len_put k0 k1
  obtain ⟨y2, hy2⟩ : ∃ y, orL (putE z0 z1) (putL z0 z1) = y := ⟨_, rfl⟩
  rw [hy2] at P2 Q2 l2
  obtain ⟨x2, hx2⟩ : ∃ x, (putE z0 z1) = x := ⟨_, rfl⟩
  rw [hx2] at P2 Q2
  clear hy2 hx2
  have P2 := Lib.hid P2
  have Q2 := Lib.hid Q2
  have P3 := fun W g0 g1 => rep_any A0 A1 c0 c1 z0 z1 W g0 g1 hc0 hc1 k0 k1
  have Q3 := fun W g0 g1 => rrep_any A0 c0 z0 A1 c1 z1 W g0 hc0 k0 g1 hc1 k1
  have l3 : (orL (repE z0 z1) (repL z0 z1)).length ≤ 9223372036854775807 := len_rep k0 k1
  obtain ⟨y3, hy3⟩ : ∃ y, orL (repE z0 z1) (repL z0 z1) = y := ⟨_, rfl⟩
  rw [hy3] at P3 Q3 l3
  obtain ⟨x3, hx3⟩ : ∃ x, (repE z0 z1) = x := ⟨_, rfl⟩
  rw [hx3] at P3 Q3
  clear hy3 hx3
  have P3 := Lib.hid P3
  have Q3 := Lib.hid Q3
  go_enter Tryd.func5, Tryd.ntmps5
  have hBB : Below w.heap.size w w := Below.refl _ _
  go_wp2_with fail
  refine G1.out.mono ?_
  rintro e w' ⟨⟨gr, rfl⟩, rfl⟩
  cases gr with
  | true =>
    go_wp2_with fail
    refine (done_any _ hI).mono ?_
    rintro e w1 ⟨rfl, hB⟩
    go_wp2
    go_ret
    exact ⟨rfl, hB⟩
  | false =>
    go_wp2_with fail
    refine (P1.out _ h0 h1).mono ?_
    rintro e w1 ⟨A1p, c1p, rfl, hc1p, h1p, hB⟩
    have h0 := h0.step hB
    have h1 := h1.step hB
    have hBB := hBB.trans (hB.mono hBB.size)
    go_wp2_with fail
    refine (Q1.out _ h0 h1).mono ?_
    rintro e w2 ⟨A1q, c1q, rfl, hc1q, h1q, hB⟩
    have h0 := h0.step hB
    have h1 := h1.step hB
    have h1p := h1p.step hB
    have hBB := hBB.trans (hB.mono hBB.size)
    go_wp2_with fail
    refine (P2.out _ h0 h1).mono ?_
    rintro e w3 ⟨A2p, c2p, rfl, hc2p, h2p, hB⟩
    have h0 := h0.step hB
    have h1 := h1.step hB
    have h1p := h1p.step hB
    have h1q := h1q.step hB
    have hBB := hBB.trans (hB.mono hBB.size)
    go_wp2_with fail
    refine (Q2.out _ h0 h1).mono ?_
    rintro e w4 ⟨A2q, c2q, rfl, hc2q, h2q, hB⟩
    have h0 := h0.step hB
    have h1 := h1.step hB
    have h1p := h1p.step hB
    have h1q := h1q.step hB
    have h2p := h2p.step hB
    have hBB := hBB.trans (hB.mono hBB.size)
    go_wp2_with fail
    refine (P3.out _ h0 h1).mono ?_
    rintro e w5 ⟨A3p, c3p, rfl, hc3p, h3p, hB⟩
    have h0 := h0.step hB
    have h1 := h1.step hB
    have h1p := h1p.step hB
    have h1q := h1q.step hB
    have h2p := h2p.step hB
    have h2q := h2q.step hB
    have hBB := hBB.trans (hB.mono hBB.size)
    go_wp2_with fail
    refine (Q3.out _ h0 h1).mono ?_
    rintro e w6 ⟨A3q, c3q, rfl, hc3q, h3q, hB⟩
    have h0 := h0.step hB
    have h1 := h1.step hB
    have h1p := h1p.step hB
    have h1q := h1q.step hB
    have h2p := h2p.step hB
    have h2q := h2q.step hB
    have h3p := h3p.step hB
    have hBB := hBB.trans (hB.mono hBB.size)
    go_wp2_with fail
    refine (eq_self _ _ _ _ _ _ h1p h1q l1).mono ?_
    rintro e w7 ⟨rfl, hB⟩
    have h0 := h0.step hB
    have h1 := h1.step hB
    have h1p := h1p.step hB
    have h1q := h1q.step hB
    have h2p := h2p.step hB
    have h2q := h2q.step hB
    have h3p := h3p.step hB
    have h3q := h3q.step hB
    have hBB := hBB.trans (hB.mono hBB.size)
    clear h1p h1q
    go_wp2_with fail
    refine (eq_self _ _ _ _ _ _ h2p h2q l2).mono ?_
    rintro e w8 ⟨rfl, hB⟩
    have h0 := h0.step hB
    have h1 := h1.step hB
    have h2p := h2p.step hB
    have h2q := h2q.step hB
    have h3p := h3p.step hB
    have h3q := h3q.step hB
    have hBB := hBB.trans (hB.mono hBB.size)
    clear h2p h2q
    go_wp2_with fail
    refine (eq_self _ _ _ _ _ _ h3p h3q l3).mono ?_
    rintro e w9 ⟨rfl, hB⟩
    have h0 := h0.step hB
    have h1 := h1.step hB
    have h3p := h3p.step hB
    have h3q := h3q.step hB
    have hBB := hBB.trans (hB.mono hBB.size)
    clear h3p h3q
    go_wp2_with fail
    refine (done_any _ (hI.below hBB)).mono ?_
    rintro e w10 ⟨rfl, hB⟩
    have h0 := h0.step hB
    have h1 := h1.step hB
    have hBB := hBB.trans (hB.mono hBB.size)
    go_wp2
    go_ret
    exact ⟨rfl, hBB⟩

/-! ### the row and the card -/
theorem own : ownKnob Tryd.prog.godebug = none := by kernel_rfl
theorem door_met (os : Os) (args : Array Value) : laidMetH Tryd.prog Rows.primMovesRow.laid ((World.doorLaid Tryd.prog 61 os).forCall (fun _ _ => 0) ⟨#[], args, []⟩).memory :=
  laidMetH_of_parts3 (fuel := 8) (laidMet_of_run' 8 (by kernel_rfl) (by kernel_rfl)) (by kernel_rfl) (by kernel_rfl)
set_option maxRecDepth 100000 in
theorem lifted (os : Os) (started : os.Started) (H : Type) (enc : TypeId × Value → H) :
    ReturnsInHanded {} Tryd.checked os 5 .any (fun w args => (Rows.primMovesSpec.pre enc Tryd.prog Tryd.f5 [] false w args ∧ laidMetH Tryd.prog Rows.primMovesRow.laid w) ∧ sizedMet enc Tryd.prog Tryd.f5 (OpenSpec.ofChange Rows.primMovesSpec) false w args)
      (Rows.primMovesSpec.post enc Tryd.prog Tryd.f5 false true false false) := by
  refine returnsInHanded_of_change_and (C := Tryd.checked) (X := fun w _ => laidMetH Tryd.prog Rows.primMovesRow.laid w) (fun _ _ _ hh h => h.of_heap hh) own started (by kernel_rfl) Tryd.func5
    (ChangeSpec.witness_shaped (enc := enc) (C := Tryd.checked) (os := os) (X := fun w _ => laidMetH Tryd.prog Rows.primMovesRow.laid w) false (World.doorLaid Tryd.prog 61 os) #[.slice none 0 0, .slice none 0 0] 8 rfl (World.shaped_of_RefB (by kernel_rfl) (by kernel_rfl)) (by kernel_rfl) (by kernel_rfl) (by kernel_rfl) (door_met os _)) ?_
  intro W base args ds gs before hval0 hW _ _ hL _
  have hval : ∀ (j : Nat) t v, Tryd.f5.params[j]? = some t → args[j]? = some v → Value.okWide Tryd.prog W .any base t v := hval0
  have hW' := hW
  obtain ⟨p, q, hA0, hV, rfl, hfz, hnd⟩ := hW
  have hA : DataW.TrodAll enc Tryd.prog W 0 (fun _ => true) true Tryd.f5.params.toList args.toList ds p := hA0
  rw [Tryd.params5] at hA hval
  obtain ⟨v0, vs0, d0, ds0, p0, q0, hargs, rfl, rfl, h0, r0⟩ := trodAll_cons hA
  obtain ⟨v1, vs1, d1, ds1, p1, q1, rfl, rfl, rfl, h1, r1⟩ := trodAll_cons r0
  obtain ⟨rfl, rfl, rfl⟩ := trodAll_nil r1
  obtain rfl : args = #[v0, v1] := by cases args; simp_all
  obtain ⟨rfl, rfl⟩ := trodVars_none hV
  clear hA0 hval0
  simp only [List.append_nil] at hW'
  have hlt0 : ∀ x ∈ p0, x.block < W.heap.size := fun x hx => by simpa using hW'.lt x (by simp [hx])
  have hg0 : ∀ (W' : World), Below W.heap.size W W' → DataW.Trod enc Tryd.prog W' 0 (fun b => decide (b < W.heap.size)) true 22 v0 d0 p0 :=
    fun W' hn => Below.trod Tryd.laidOut (by kernel_rfl) (of_decide_eq_true (by kernel_rfl)) h0 hn hlt0
  obtain ⟨A0, c0, z0, rfl, hle0, hmx0, hS0, hR0⟩ := open_sl (hval 0 22 v0 rfl rfl) h0 hlt0
  have hlt1 : ∀ x ∈ p1, x.block < W.heap.size := fun x hx => by simpa using hW'.lt x (by simp [hx])
  have hg1 : ∀ (W' : World), Below W.heap.size W W' → DataW.Trod enc Tryd.prog W' 0 (fun b => decide (b < W.heap.size)) true 22 v1 d1 p1 :=
    fun W' hn => Below.trod Tryd.laidOut (by kernel_rfl) (of_decide_eq_true (by kernel_rfl)) h1 hn hlt1
  obtain ⟨A1, c1, z1, rfl, hle1, hmx1, hS1, hR1⟩ := open_sl (hval 1 22 v1 rfl rfl) h1 hlt1
  refine (walk A0 c0 z0 A1 c1 z1 W (of_laid hL) hS0 hle0 (by unfold Ok; omega) hS1 hle1 (by unfold Ok; omega)).mono fun e W' ⟨he, hB⟩ => ?_
  subst he
  exact ⟨_, rfl, _, _, _, [], _, [], hW', trodAll_cons_mk (shut_bool Tryd.underlying4 _) trodAll_mk0, trodAll_cons_mk (hg0 _ hB) (trodAll_cons_mk (hg1 _ hB) trodAll_mk0), rfl, hB.frame _, fun h => by cases h⟩
theorem holds : Rows.PrimMovesSaid :=
  OpenClaim.holds_of_wide 5 Tryd.f5 rfl rfl rfl rfl rfl rfl rfl ⟨rfl, rfl, rfl, rfl, rfl⟩ rfl rfl rfl rfl rfl (by kernel_rfl) Tryd.func5 (by kernel_rfl)
    (of_decide_eq_true (by kernel_rfl)) (by unfold Func.isWrapper; first | (rw [if_pos (by decide +kernel)]; kernel_rfl) | (rw [if_neg (by decide +kernel)]; exact ⟨rfl, rfl⟩))
    (fun os started H enc _ => lifted os started H enc)
theorem proved : Rows.PrimMovesCardSaid :=
  Claim7.holds_tied_plain_at .later [] [.data] true (true, "c48142069686eda1f245f4174541a761d0ed2a85e4383fa61a5a23a4d37df986") false
    holds (fun _ h => by cases h) (by kernel_rfl) (fun _ h => by cases h) primMoves_row_tie rfl ⟨rfl, rfl⟩ (by kernel_rfl) rfl
    (fun f fn hf hfn => by
      obtain rfl : f = 5 := Option.some.inj ((show Tryd.prog.funcNamed "sheafworks/sheafworkslaw04.PrimMoves" = some 5 by kernel_rfl).symm.trans hf) |>.symm
      obtain rfl : fn = Tryd.f5 := (Option.some.inj (Tryd.func5.symm.trans hfn)).symm
      exact ⟨by kernel_rfl, fun j t ht => by
        rw [Tryd.params5] at ht
        have hm : t ∈ [22] := by
          have := Array.mem_of_getElem? ht
          simpa using this
        have hall : ([22].all fun u => !Tryd.prog.wantsStandIn u) = true := by kernel_rfl
        exact (show Tryd.prog.wantsStandIn t = false by simpa using List.all_eq_true.1 hall t hm)⟩)
    (by kernel_rfl)
#print axioms proved
end Go.Proofs.YtchjdhlmpdcibaaDoor.primMoves
