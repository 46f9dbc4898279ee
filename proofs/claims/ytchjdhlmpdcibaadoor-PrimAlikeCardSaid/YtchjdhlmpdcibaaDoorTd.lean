/- Walks of the specification: orderOf. -/
import Derived.Test.YtchjdhlmpdcibaaDoorTc
import Derived.Test.YtchjdhlmpdcibaaDoorMr
namespace Go.Proofs.YtchjdhlmpdcibaaDoor
set_option linter.unusedVariables false
open Go.RowKit Go.Shelf
/-- The value's own block is not where the slice lies. -/
def Off (v : Value) (A : Option Addr) (zs : List Int) : Prop := 0 < zs.length → ∀ a, A = some a → v.ownBlock ≠ some a.block
theorem Sl.grownOff {w w' : World} {A : Option Addr} {zs : List Int} {v : Value} (h : Sl w A zs) (ho : Off v A zs) (hg : w.grownBy w' v.ownBlock) : Sl w' A zs := fun hl => by
  obtain ⟨b, o, rfl, hb, hc⟩ := h hl
  refine ⟨b, o, rfl, Nat.lt_of_lt_of_le hb hg.size, fun j hj => ?_⟩
  exact (hg.cell_far ⟨b, o + j, none⟩ hb (fun e => ho hl _ rfl e.symm)).trans (hc j hj)
theorem turn_some (m : Nat) (hm : 1 ≤ m) (hm2 : m ≤ 1048576) (y : Int) (w : World) : Calls Tryd.prog 48 #[.int .i64 y, .int .i64 (m : Int)] w fun e w' => ∃ j : Nat, j < m ∧ e = .returned (.int .i64 (j : Int)) ∧ w = w' := by
  refine (turn_any y m (by omega) (by omega) w).mono ?_
  rintro e w' ⟨rfl, rfl⟩
  have h1 := Int.emod_nonneg y (show (m : Int) ≠ 0 by omega)
  have h2 := Int.emod_lt_of_pos y (show (0 : Int) < m by omega)
  exact ⟨(y % m).toNat, by omega, by rw [Int.toNat_of_nonneg h1], rfl⟩
set_option maxRecDepth 100000 in
set_option maxHeartbeats 8000000 in
theorem order_of (A : Option Addr) (c : Nat) (zs : List Int) (n : Nat) (w : World) (h : Sl w A zs) (hl : zs.length ≤ 9223372036854775807) (hn : n ≤ 10000) :
    Calls Tryd.prog 47 #[.slice A zs.length c, .int .i64 (n : Int)] w fun e w' => ∃ p : List Int, p.Perm (upL n) ∧ RetS w p e w' := by
  obtain ⟨i0, hi, hz0, hz1, hz2⟩ := info_parts int_info
  have C1 := Lib.hid (upto_any n w (by omega))
  go_enter Tryd.func47, Tryd.ntmps47
  go_wp2_with fail
  refine C1.out.mono ?_
  rintro e w1 ⟨R0, r0, rfl, hr0, hR0, hS0, hB⟩
  have hs1 := hB.size
  have hSa := hS0.step ((Below.refl w1.heap.size w1).alloc (Nat.le_refl _) (.cells #[] 3))
  have hBa := hB.alloc hs1 (.cells #[] 3)
  have hoff : Off (.slice (some ⟨w1.heap.size, 0, none⟩) 0 0) R0 (upL n) := fun hl a e => by
    obtain ⟨b, o, rfl, hb, _⟩ := hS0 hl
    cases e
    simp [Value.ownBlock]
    omega
  go_wp2
  go_loopw [5, 6, 7] (fun r v i wr => ∃ (k : Nat) (R : Option Addr) (cr : Nat) (rest out : List Int), k + rest.length = n ∧ i = .int .i64 k ∧ r = .slice R rest.length cr ∧ rest.length ≤ cr ∧ Sl wr R rest ∧ Hid ((out ++ rest).Perm (upL n)) ∧ out.length ≤ k ∧ OwnI wr w.heap.size v out ∧ Off v R rest ∧ Below w.heap.size w wr) (fun _ _ i _ => n - (intOf i).toNat)
  case atStart => exact ⟨0, R0, r0, upL n, [], by rw [up_len, Nat.zero_add], rfl, by rw [up_len], by rw [up_len]; exact hr0, hSa, Lib.hid (List.Perm.refl _), by simp, OwnI.empty w1 _ hs1, hoff, hBa⟩
  case round =>
    clear hS0 hSa hBa hoff hB hR0
    obtain ⟨k, R, cr, rest, out, hk, rfl, rfl, hcr, hS, HP, hol, hv, hoff, hBr⟩ := hrel
    by_cases h0 : 0 < rest.length
    · have hd : decide (0 < (rest.length : Int)) = true := by simp; omega
      obtain ⟨b, o, rfl, hb, hcell⟩ := hS h0
      have C2 := Lib.hid (bnth_any A c zs k wr (h.step hBr) hl (by omega))
      have C3 := Lib.hid (fun y => turn_some rest.length h0 (by omega) y wr)
      obtain ⟨x0, hx0⟩ : ∃ x, nth zs (k % zs.length) = x := ⟨_, rfl⟩
      rw [hx0] at C2
      clear hx0
      go_wp2_with fail
      refine C2.out.mono ?_
      rintro e w' ⟨rfl, rfl⟩
      go_wp2_with fail
      refine (C3.out _).mono ?_
      rintro e w' ⟨j, hj, rfl, rfl⟩
      have hca := hcell j hj
      have q1 : (0 : Int) ≤ (j : Int) := by omega
      have q2 : (j : Int) < (rest.length : Int) := by omega
      have HPN := Lib.hid (perm_step out rest (upL n) j hj HP.out)
      obtain ⟨x, hx⟩ : ∃ x, nth rest j = x := ⟨_, rfl⟩
      rw [hx] at hca HPN
      clear hx hcell C2 C3
      go_wp2_with (at_builtin; refine wpList_append_own_at _ rfl _ _ 22 rfl w.heap.size 3 i0 (.int .i64 0) 1 8 Tryd.underlying22 hi hz0 hz1 hz2 rfl (by decide) _ _ _ rfl (hv.alloc _) ⟨wr.heap.size, 0, none⟩ 1 1 [.int .i64 x] rfl rfl (cell_one_new _ _ _) (by simp [Value.oneCell']) (by unfold maxLen; omega) (by omega) (by have := hBr.size; simp; omega) ?_; intro v' w2 hown' hgrow _ hat; have hB2 := below_append hBr hBr.size hv hgrow)
      have hown2 := OwnI.snoc hown'
      have hS2 : Sl w2 (some ⟨b, o, none⟩) rest := Sl.grownOff (Sl.step hS ((Below.refl _ _).alloc (Nat.le_refl _) (.cells #[.int .i64 x] 3))) hoff hgrow
      have hb2 := hgrow.size
      have hoff2 : ∀ A : Addr, wr.heap.size < A.block → A.block < w2.heap.size → True := fun _ _ _ => trivial
      have hvl := hown2.lt
      clear hown' hgrow hS hoff hv hat
      obtain ⟨B1, hs1', hT1⟩ := slice_to' ⟨b, o, none⟩ cr j rest w2 hS2 (by omega) hcr
      obtain ⟨B2, hs2', hT2⟩ := slice_from' ⟨b, o, none⟩ cr (j + 1) rest w2 hS2 (by omega) hcr
      rw [show ((j + 1 : Nat) : Int) = (j : Int) + 1 by omega] at hs2'
      obtain ⟨t1, ht1⟩ : ∃ t, rest.take j = t := ⟨_, rfl⟩
      obtain ⟨t2, ht2⟩ : ∃ t, rest.drop (j + 1) = t := ⟨_, rfl⟩
      have l1 : t1.length = j := by rw [← ht1, List.length_take]; omega
      have l2 : t2.length = rest.length - (j + 1) := by rw [← ht2, List.length_drop]
      rw [ht1] at hT1 HPN
      rw [ht2] at hT2 HPN
      have CP := Lib.hid (fun W (hb : Below w2.heap.size w2 W) => copy_some B1 j cr t1 W l1 (hT1.step hb) (by omega))
      have HL1 := Lib.hid l1
      have HL2 := Lib.hid l2
      have HT2 := Lib.hid hT2
      have HHL := Lib.hid hvl
      have hw1 : IntKind.i64.wrap ((j : Int) + 1) = (j : Int) + 1 := IntWalk.i64_in _ (by omega)
      have hdj : decide ((j : Int) + 1 ≤ (rest.length : Int)) = true := by simp; omega
      have q3 : (0 : Int) ≤ (j : Int) + 1 := by omega
      have q4 : (j : Int) + 1 ≤ (rest.length : Int) := by omega
      clear ht1 ht2 l1 l2 hT1 hT2 hvl
      go_wp2
      go_region_held3 (fun W => Below w2.heap.size w2 W) (first | exact Below.refl _ _ | assumption | exact Below.drew (Below.refl _ _) | exact Below.drew (by assumption) | exact below_step (by assumption) (by assumption))
        (first
          | (go_at_call 78; refine (CP.out _ (by assumption)).mono ?_; rintro e w3 ⟨u1, rfl, hu1, hb1⟩)
          | (refine step_apps _ (by rfl) _ _ (by rfl) i0 hi hz0 hz1 hz2 _ u1 t1 (by rfl) (by first | exact hu1 | assumption) B2 _ _ t2 (by rfl) HL2.out (HT2.out.step (by assumption)) (by rw [HL1.out]; omega) hb1.size ?_; intro v3 w4 hv3 hg3; have hH3 : Below w2.heap.size w2 w3 := (by assumption); have hb4 : Below w2.heap.size w2 w4 := hH3.grown hg3 hH3.size (fun k e => (hu1.lt k e).1))
          | fail)
      rename_i hH
      have hB4 := below_step hB2 hH
      have ho4 := hown2.below hH (Nat.le_refl _)
      obtain ⟨A3, c3, rfl, hcc3, hsl3⟩ := hv3.form
      have hlt3 := hv3.lt
      go_wp2
      go_roundw
      case rel => exact ⟨k + 1, A3, c3, t1 ++ t2, out ++ [x], by rw [List.length_append, HL1.out, HL2.out]; omega, by go_num, rfl, hcc3, hsl3, HPN, by simp; omega, ho4, fun _ a e e2 => by
        have := (hlt3 a.block (by subst e; rfl)).1
        have := (HHL.out a.block e2).2
        simp at *
        omega, hB4⟩
      case measure => simp [intOf]; omega
    · have hr0 : rest = [] := List.eq_nil_of_length_eq_zero (by omega)
      subst hr0
      have hp := HP.out
      rw [List.append_nil] at hp
      obtain ⟨A', c', rfl, hcc, hsl⟩ := hv.form
      go_wp2
      go_ret
      exact ⟨out, hp, retS_of rfl hcc hsl hBr⟩
end Go.Proofs.YtchjdhlmpdcibaaDoor
