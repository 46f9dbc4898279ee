/- RankMerges: for any two slices of ints that can be read, the law's call returns true, and the slices read behind the call as they did before. No condition. -/
import Derived.Test.YtgicfgpemcagcaaG02
import Derived.Test.YtgicfgpemcagcaaG28
import Derived.Test.YtgicfgpemcagcaaG26
namespace Go.Proofs.Ytgicfgpemcagcaa.rankMerges
open Go.RowKit Go.Shelf
set_option linter.unusedVariables false
set_option maxRecDepth 100000
theorem or_len {e : Int} {l : List Int} (h : e = 0 → l.length ≤ 9223372036854775807) : (orL e l).length ≤ 9223372036854775807 := by
  unfold orL
  split
  · exact h (by assumption)
  · simp
set_option maxHeartbeats 8000000 in
theorem law (A0 A1 : Option Addr) (c0 c1 : Nat) (z0 z1 : List Int) (w : World) (h0 : Sl w A0 z0) (h1 : Sl w A1 z1) (l0 : z0.length ≤ c0) (l1 : z1.length ≤ c1) (k0 : Ok z0) (k1 : Ok z1) :
    Calls Try.prog 5 #[.slice A0 z0.length c0, .slice A1 z1.length c1] w (RetV w (.bool true)) := by
  have hBB := Below.refl w.heap.size w
  by_cases hz0 : z0.length ≤ 200
  case neg =>
    have g0 : (200 : Int) < (z0.length : Int) := by omega
    go_enter Try.func5, Try.ntmps5
    go_wp2_with fail
    refine (ranked_any _).mono ?_
    rintro e w1 ⟨rfl, hB⟩
    replace hBB := hBB.trans (hB.mono hBB.size)
    clear hB
    go_wp2
    go_ret
    exact ⟨rfl, hBB⟩
  have g0 : ¬ ((200 : Int) < (z0.length : Int)) := by omega
  by_cases hz1 : z1.length ≤ 200
  case neg =>
    have g1 : (200 : Int) < (z1.length : Int) := by omega
    go_enter Try.func5, Try.ntmps5
    go_wp2_with fail
    refine (ranked_any _).mono ?_
    rintro e w1 ⟨rfl, hB⟩
    replace hBB := hBB.trans (hB.mono hBB.size)
    clear hB
    go_wp2
    go_ret
    exact ⟨rfl, hBB⟩
  have g1 : ¬ ((200 : Int) < (z1.length : Int)) := by omega
  have C1 := fun W (h : Sl W A0 z0) (h' : Sl W A1 z1) => Merge_any A0 A1 c0 c1 z0 z1 W h l0 k0 h' l1 k1 (by omega)
  have C2 := fun W (h : Sl W A0 z0) (h' : Sl W A1 z1) => rMerge_any A0 A1 c0 c1 z0 z1 W h k0 h' k1 (by omega)
  unfold Ok at k0 k1
  obtain ⟨x1, hx1⟩ : ∃ x, orL (meE z0 z1) (amL z0 z1 0) = x := ⟨_, rfl⟩
  rw [hx1] at C1 C2
  obtain ⟨x2, hx2⟩ : ∃ x, orL (meE z0 z1) (amL z1 z0 1) = x := ⟨_, rfl⟩
  rw [hx2] at C1 C2
  have HLx1 : Hid (x1.length ≤ 9223372036854775807) := Lib.hid (by rw [← hx1]; exact or_len (fun _ => by rw [amL_len]; exact k0))
  have HLx2 : Hid (x2.length ≤ 9223372036854775807) := Lib.hid (by rw [← hx2]; exact or_len (fun _ => by rw [amL_len]; exact k1))
  obtain ⟨e1, he1⟩ : ∃ x, meE z0 z1 = x := ⟨_, rfl⟩
  rw [he1] at C1 C2
  have C1 := Lib.hid C1
  have C2 := Lib.hid C2
  clear hx1 hx2 he1 k0 k1 l0 l1
  go_enter Try.func5, Try.ntmps5
  go_wp2_with fail
  refine (C1.out _ h0 h1).mono ?_
  rintro e w1 ⟨Ar1, cr1, Ar2, cr2, rfl, hcr1, hcr2, r1, r2, hB⟩
  replace h0 := h0.step hB
  replace h1 := h1.step hB
  replace hBB := hBB.trans (hB.mono hBB.size)
  clear hB
  go_wp2_with fail
  refine (C2.out _ h0 h1).mono ?_
  rintro e w2 ⟨Ar3, cr3, Ar4, cr4, rfl, hcr3, hcr4, r3, r4, hB⟩
  replace h0 := h0.step hB
  replace h1 := h1.step hB
  replace r1 := r1.step hB
  replace r2 := r2.step hB
  replace hBB := hBB.trans (hB.mono hBB.size)
  clear hB
  go_wp2_with fail
  refine (eq_lit _ _ _ _ _ x1 _ rfl r1 r3 HLx1.out).mono ?_
  clear r1
  clear r3
  rintro e w3 ⟨rfl, hB⟩
  replace h0 := h0.step hB
  replace h1 := h1.step hB
  replace r2 := r2.step hB
  replace r4 := r4.step hB
  replace hBB := hBB.trans (hB.mono hBB.size)
  clear hB
  go_wp2_with fail
  refine (eq_lit _ _ _ _ _ x2 _ rfl r2 r4 HLx2.out).mono ?_
  clear r2
  clear r4
  rintro e w4 ⟨rfl, hB⟩
  replace h0 := h0.step hB
  replace h1 := h1.step hB
  replace hBB := hBB.trans (hB.mono hBB.size)
  clear hB
  go_wp2_with fail
  refine (ranked_any _).mono ?_
  rintro e w5 ⟨rfl, hB⟩
  replace h0 := h0.step hB
  replace h1 := h1.step hB
  replace hBB := hBB.trans (hB.mono hBB.size)
  clear hB
  go_wp2
  go_ret
  exact ⟨rfl, hBB⟩
open Go.ChangeShapes Go.WideShapes Go.ChangeAt Go.RowKit Go.ChangeMaps
set_option maxRecDepth 100000 in
theorem lifted (os : Os) (started : os.Started) (H : Type) (enc : TypeId × Value → H) :
    ReturnsInHanded {} Try.checked os 5 .any (Rows.rankMergesSpec.pre6 enc Try.prog Try.f5 Rows.rankMergesRow.domain false) (Rows.rankMergesSpec.post enc Try.prog Try.f5 false true false false) := by
  refine returnsInHanded_of_change (C := Try.checked) Try.own started (by kernel_rfl) Try.func5
    (ChangeSpec.witness6 (enc := enc) (C := Try.checked) false ⟨#[], #[.slice none 0 0, .slice none 0 0], []⟩ 8 (by kernel_rfl) (by kernel_rfl) (by kernel_rfl) (by kernel_rfl)) ?_
  intro W base args ds gs before hval0 hW hcnd _
  have hval : ∀ (j : Nat) t v, Try.f5.params[j]? = some t → args[j]? = some v → Value.okWide Try.prog W .any base t v := hval0
  have hW' := hW
  obtain ⟨p, q, hA0, hV, rfl, hfz, hnd⟩ := hW
  have hA : DataW.TrodAll enc Try.prog W 0 (fun _ => true) true Try.f5.params.toList args.toList ds p := hA0
  rw [Try.params5] at hA hval
  obtain ⟨v0, vs0, d0, ds0, p0, q0, hargs, rfl, rfl, h0, r0⟩ := trodAll_cons hA
  obtain ⟨v1, vs1, d1, ds1, p1, q1, rfl, rfl, rfl, h1, r1⟩ := trodAll_cons r0
  obtain ⟨rfl, rfl, rfl⟩ := trodAll_nil r1
  obtain rfl : args = #[v0, v1] := by cases args; simp_all
  obtain ⟨rfl, rfl⟩ := trodVars_none hV
  clear hA0 hval0
  simp only [List.append_nil] at hW'
  have hlt0 : ∀ x ∈ p0, x.block < W.heap.size := fun x hx => by simpa using hW'.lt x (by simp [hx])
  have hg0 : ∀ (W' : World), Below W.heap.size W W' → DataW.Trod enc Try.prog W' 0 (fun b => decide (b < W.heap.size)) true 22 v0 d0 p0 :=
    fun W' hn => Below.trod Try.laidOut (by kernel_rfl) (of_decide_eq_true (by kernel_rfl)) h0 hn hlt0
  obtain ⟨A0, c0, z0, rfl, hle0, hmx0, hS0, hR0⟩ := open_sl (hval 0 22 v0 rfl rfl) h0 hlt0
  have hlt1 : ∀ x ∈ p1, x.block < W.heap.size := fun x hx => by simpa using hW'.lt x (by simp [hx])
  have hg1 : ∀ (W' : World), Below W.heap.size W W' → DataW.Trod enc Try.prog W' 0 (fun b => decide (b < W.heap.size)) true 22 v1 d1 p1 :=
    fun W' hn => Below.trod Try.laidOut (by kernel_rfl) (of_decide_eq_true (by kernel_rfl)) h1 hn hlt1
  obtain ⟨A1, c1, z1, rfl, hle1, hmx1, hS1, hR1⟩ := open_sl (hval 1 22 v1 rfl rfl) h1 hlt1
  refine (law A0 A1 c0 c1 z0 z1  W hS0 hS1 hle0 hle1 (by unfold Ok; have := hle0; have := hmx0; omega) (by unfold Ok; have := hle1; have := hmx1; omega)).mono fun e W' ⟨he, hB⟩ => ?_
  subst he
  exact ⟨_, rfl, _, _, _, [], _, [], hW', trodAll_cons_mk (shut_bool Try.underlying4 _) trodAll_mk0, trodAll_cons_mk (hg0 _ hB) (trodAll_cons_mk (hg1 _ hB) trodAll_mk0), rfl, hB.frame _, fun h => by cases h⟩
theorem holds : Rows.RankMergesSaid :=
  OpenClaim.holds_of_wide 5 Try.f5 rfl rfl rfl rfl rfl rfl rfl ⟨rfl, rfl, rfl, rfl, rfl⟩ rfl rfl rfl rfl rfl (by kernel_rfl) Try.func5 (by kernel_rfl)
    (of_decide_eq_true (by kernel_rfl)) (by unfold Func.isWrapper; first | (rw [if_pos (by decide +kernel)]; kernel_rfl) | (rw [if_neg (by decide +kernel)]; exact ⟨rfl, rfl⟩))
    (fun os started H enc _ => lifted os started H enc)
#print axioms holds
end Go.Proofs.Ytgicfgpemcagcaa.rankMerges
