/- Walks of the specification: Put. -/
import Derived.Test.YtchjdhlmpdcibaaDoorRl
namespace Go.Proofs.YtchjdhlmpdcibaaDoor
set_option linter.unusedVariables false
open Go.RowKit Go.Shelf
set_option maxRecDepth 100000 in
set_option maxHeartbeats 4000000 in
theorem rput_any (A1 : Option Addr) (c1 : Nat) (a : List Int) (A2 : Option Addr) (c2 : Nat) (p : List Int) (w : World) (h1 : Sl w A1 a) (hc1 : a.length ≤ c1) (k1 : Ok a) (h2 : Sl w A2 p) (hc2 : p.length ≤ c2) (k2 : Ok p) :
    Calls Tryd.prog 33 #[.slice A1 a.length c1, .slice A2 p.length c2] w (RetL w (orL (putE a p) (putL a p)) (putE a p)) := by
  obtain ⟨i0, hi, hz0, hz1, hz2⟩ := info_parts int_info
  have C1 : ∀ W g, Below w.heap.size w W → Blk W g 22 #[.slice A1 a.length c1, .slice A2 p.length c2] → Calls Tryd.prog 63 #[.slice (some ⟨g, 0, none⟩) 2 2] W (RetV W (.int .i64 (evE [a, p]))) :=
    fun W g hb hg => (alike_any _ 2 [a, p] W (sll2 hg (h1.step hb) (h2.step hb) hc1 hc2) (by simp) (allShort_of (by unfold Ok at k1 k2; simpa using ⟨k1, k2⟩))).mono fun e w' ⟨he, hw⟩ => Drew.retV ⟨he, hw⟩
  by_cases he : evE [a, p] = 0
  · have hl := (lsE_ok (evE_ok he).1).1 a (by simp)
    have E2 := Lib.hid (show p.length = a.length from (evE_ok he).2 p (by simp))
    have hlp : p.length ≤ 1048576 := by have := E2.out; omega
    have C2 := fun W (hs : Sl W A2 p) => order_any A2 c2 p a.length W hs hlp E2.out
    rw [he] at C1
    have C1 := Lib.hid C1
    cases ho : ordB p a.length p.length with
    | false =>
      rw [put_trap he ho]
      rw [ho] at C2
      have C2 := Lib.hid C2
      clear he ho
      go_enter Tryd.func33, Tryd.ntmps33
      go_wp2_with fail
      refine (C1.out _ _ (al1 _ _) ?_).mono ?_
      · exact Blk.at (by simp)
      rintro e w1 ⟨rfl, hB⟩
      have hB0 := below_step (al1 _ _) hB
      have hs01 := hB0.size
      go_wp2_with fail
      refine (C2.out _ (h2.step hB0)).mono ?_
      rintro e w2 ⟨rfl, hB⟩
      have hB2 := below_step hB0 hB
      go_wp2
      go_ret2
      exact retL_none (by decide) hB2
    | true =>
      rw [put_ok he ho, orL_ok]
      rw [ho] at C2
      have C2 := Lib.hid C2
      have HOr := Lib.hid (fun (k : Nat) (hk : k < p.length) => show plB (nth p k) a.length = true from by
        have h3 : ordB p a.length (k + 1) = true := by
          cases h4 : ordB p a.length (k + 1) with
          | true => rfl
          | false => rw [ordB_stop h4 (by omega)] at ho; cases ho
        rw [ordB_succ] at h3
        simp only [Bool.and_eq_true] at h3
        exact h3.2.1)
      have hmk := fun W => run_make_row (P := Tryd.prog) 22 3 i0 (.int .i64 0) Tryd.underlying22 hi hz0 hz1 rfl .i64 .i64 a.length (by rw [hz2]; omega) (by omega) W
      clear he ho
      go_enter Tryd.func33, Tryd.ntmps33
      go_wp2_with fail
      refine (C1.out _ _ (al1 _ _) ?_).mono ?_
      · exact Blk.at (by simp)
      rintro e w1 ⟨rfl, hB⟩
      have hB0 := below_step (al1 _ _) hB
      have hs01 := hB0.size
      go_wp2_with fail
      refine (C2.out _ (h2.step hB0)).mono ?_
      rintro e w2 ⟨rfl, hB⟩
      have hB2 := below_step hB0 hB
      have hs2 := hB2.size
      have fR := Full.made w2 a.length (by unfold maxLen; omega)
      have hB3 := hB2.alloc hs2 (.cells (madeCells #[.int .i64 0] a.length) 3)
      clear hB hB0 hB2
      go_wp2
      go_loopw [8] (fun i wr => ∃ k : Nat, k ≤ a.length ∧ i = .int .i64 k ∧ Full wr w2.heap.size (putK a p k) ∧ Below w.heap.size w wr) (fun i _ => a.length - (intOf i).toNat)
      case atStart => exact ⟨0, Nat.zero_le _, rfl, fR, hB3⟩
      case round =>
        clear fR hB3 hmk
        obtain ⟨k, hk, rfl, fR, hBr⟩ := hrel
        by_cases hlt : k < a.length
        · have hltp : k < p.length := by have := E2.out; omega
          obtain ⟨bp, op, rfl, hbp, hcp⟩ := (h2.step hBr).at_ hltp
          obtain ⟨ba, oa, rfl, hba', hca⟩ := (h1.step hBr).at_ (show k < a.length by have := E2.out; omega)
          have k3 : (0 : Int) ≤ (k : Int) := by omega
          have k4 : (k : Int) < (p.length : Int) := by omega
          have k5 : (k : Int) < (a.length : Int) := by have := E2.out; omega
          have HK : Hid (putK a p (k + 1) = (putK a p k).set (nth p k).toNat (nth a k)) := Lib.hid rfl
          have HL := Lib.hid (putK_length a p k)
          have hpl := HOr.out k hltp
          obtain ⟨y, hy⟩ : ∃ y, nth p k = y := ⟨_, rfl⟩
          obtain ⟨x, hx⟩ : ∃ x, nth a k = x := ⟨_, rfl⟩
          rw [hy] at hcp HK hpl
          rw [hx] at hca HK
          clear hy hx
          have hyb : 0 ≤ y ∧ y < a.length := by unfold plB at hpl; simpa using hpl
          obtain ⟨j, rfl⟩ : ∃ j : Nat, y = j := ⟨y.toNat, by omega⟩
          have hj : j < a.length := by omega
          have k6 : (0 : Int) ≤ (j : Int) := by omega
          have k7 : (j : Int) < (a.length : Int) := by omega
          rw [show ((j : Nat) : Int).toNat = j by simp] at HK
          have dR := fR.cell j (by rw [HL.out]; exact hj)
          have fr := fR.frozen j
          clear hpl hyb
          go_wp2
          refine wp_region_tab (fun W => W = wr.drew) 10 (by kernel_rfl) (by kernel_rfl) rfl ?_
          simp only [List.take_succ_cons, List.take_zero, List.drop_succ_cons, List.drop_zero]
          iterate 10 ((refine wpTab_value (v := ?_) (fun W hW => ?_) ?_; rotate_left; · (subst hW; go_simp; try with_reducible rfl)); simp only [Act.put, List.setIfInBounds_toArray, List.set_cons_zero, List.set_cons_succ])
          refine wpTab_nil (fun wz hz => ?_)
          subst hz
          go_wp2
          go_roundw
          case rel => exact ⟨k + 1, by omega, by go_num, by rw [HK.out]; exact (fR.set_ j x).drew, (hBr.setCell (p := ⟨w2.heap.size, j, none⟩) hs2 _).drew⟩
          case measure => simp [intOf]; omega
        · obtain rfl : k = a.length := by omega
          have HL : Hid ((putL a p).length = a.length) := Lib.hid (putK_length a p p.length)
          have HP : Hid (putL a p = putK a p a.length) := Lib.hid (by unfold putL; rw [E2.out])
          have hsl := fR.sl
          go_wp2
          go_ret2
          exact ⟨some ⟨w2.heap.size, 0, none⟩, a.length, by rw [HL.out]; rfl, by rw [HL.out]; exact Nat.le_refl _, by rw [HP.out]; exact hsl, hBr⟩
  · have hd : (evE [a, p] != 0) = true := by rw [bne_iff_ne]; exact he
    rw [put_ev he]
    have C1 := Lib.hid C1
    have HE := Lib.hid he
    clear he
    go_enter Tryd.func33, Tryd.ntmps33
    go_wp2_with fail
    refine (C1.out _ _ (al1 _ _) ?_).mono ?_
    · exact Blk.at (by simp)
    rintro e w1 ⟨rfl, hB⟩
    have hB0 := below_step (al1 _ _) hB
    have hs01 := hB0.size
    go_wp2
    go_ret2
    exact retL_none HE.out hB0
end Go.Proofs.YtchjdhlmpdcibaaDoor
