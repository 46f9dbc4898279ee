/- Walks of the specification: Bin. -/
import Derived.Test.YtchjdhlmpdcibaaDoorRb
import Derived.Deep.RegionHeld3
import Derived.Test.YtchjdhlmpdcibaaDoorQa
import Derived.Test.YtchjdhlmpdcibaaDoorCg
namespace Go.Proofs.YtchjdhlmpdcibaaDoor
set_option linter.unusedVariables false
open Go.RowKit Go.Shelf

theorem keepR {w wr W W' : World} {p1 p2 : Addr} {v1 v2 : Value} (h1 : p1.block < wr.heap.size) (h2 : p2.block < wr.heap.size)
    (h : W.cell? p1 = some v1 ∧ W.cell? p2 = some v2 ∧ Below w.heap.size w W ∧ Below wr.heap.size wr W) (hb : Below W.heap.size W W') :
    W'.cell? p1 = some v1 ∧ W'.cell? p2 = some v2 ∧ Below w.heap.size w W' ∧ Below wr.heap.size wr W' := by
  obtain ⟨a1, a2, a3, a4⟩ := h
  have hs := a4.size
  exact ⟨(hb.cell (by omega)).trans a1, (hb.cell (by omega)).trans a2, below_step a3 hb, below_step a4 hb⟩
set_option maxRecDepth 100000 in
set_option maxHeartbeats 4000000 in
theorem rbin_any (op : Int) (A1 : Option Addr) (c1 : Nat) (a : List Int) (A2 : Option Addr) (c2 : Nat) (b : List Int) (w : World) (h1 : Sl w A1 a) (hc1 : a.length ≤ c1) (k1 : Ok a) (h2 : Sl w A2 b) (hc2 : b.length ≤ c2) (k2 : Ok b) :
    Calls Tryd.prog 16 #[.int .i64 op, .slice A1 a.length c1, .slice A2 b.length c2] w (RetL w (orL (binE op a b) (binL op a b)) (binE op a b)) := by
  obtain ⟨i0, hi, hz0, hz1, hz2⟩ := info_parts int_info
  have C1 : ∀ W g, Below w.heap.size w W → Blk W g 22 #[.slice A1 a.length c1, .slice A2 b.length c2] → Calls Tryd.prog 63 #[.slice (some ⟨g, 0, none⟩) 2 2] W (RetV W (.int .i64 (evE [a, b]))) :=
    fun W g hb hg => (alike_any _ 2 [a, b] W (sll2 hg (h1.step hb) (h2.step hb) hc1 hc2) (by simp) (allShort_of (by unfold Ok at k1 k2; simpa using ⟨k1, k2⟩))).mono fun e w' ⟨he, hw⟩ => Drew.retV ⟨he, hw⟩
  cases ho : isOpb op with
  | false =>
    have HE := Lib.hid (bin_no (a := a) (b := b) ho)
    rw [HE.out]
    have hdl : decide (0 ≤ op ∧ op ≤ 11) = false := ho
    have C0 := lies_any op 0 11 w
    rw [hdl] at C0
    have C0 := Lib.hid C0
    clear ho hdl C1
    go_enter Tryd.func16, Tryd.ntmps16
    go_wp2_with fail
    refine C0.out.mono ?_
    rintro e w' ⟨rfl, rfl⟩
    go_wp2
    go_ret2
    exact retL_none (by decide) (Below.refl _ _)
  | true =>
    have hdl : decide (0 ≤ op ∧ op ≤ 11) = true := ho
    have C0 := lies_any op 0 11 w
    rw [hdl] at C0
    have C0 := Lib.hid C0
    clear hdl
    by_cases he : evE [a, b] = 0
    · have hl := (lsE_ok (evE_ok he).1).1 a (by simp)
      have E2 := Lib.hid (show b.length = a.length from (evE_ok he).2 b (by simp))
      rw [he] at C1
      have HG := Lib.hid (bin_err ho he)
      rw [HG.out]
      have C1 := Lib.hid C1
      clear he ho
      go_enter Tryd.func16, Tryd.ntmps16
      go_wp2_with fail
      refine C0.out.mono ?_
      rintro e w' ⟨rfl, rfl⟩
      go_wp2_with fail
      refine (C1.out _ _ (al1 _ _) ?_).mono ?_
      · exact Blk.at (by simp)
      rintro e w1 ⟨rfl, hB⟩
      have hB0 := below_step (al1 _ _) hB
      have hs01 := hB0.size
      go_wp2
      go_loopw [9, 10] (fun v i wr => ∃ (k : Nat) (L : List Int), k ≤ a.length ∧ i = .int .i64 k ∧ Hid (L = mk (binF op a b) k) ∧ Hid (fe (binR op a b) k = 0) ∧ L.length ≤ k ∧ OwnI wr w.heap.size v L ∧ Below w.heap.size w wr) (fun _ i _ => a.length - (intOf i).toNat)
      case atStart => exact ⟨0, [], Nat.zero_le _, rfl, Lib.hid rfl, Lib.hid rfl, by simp, OwnI.empty w1 _ hs01, hB0.alloc hs01 _⟩
      case round =>
        obtain ⟨k, L, hk, rfl, HL, HF, hLl, hown, hBr⟩ := hrel
        by_cases hlt : k < a.length
        · obtain ⟨ba, oa, rfl, hba, hca⟩ := (h1.step hBr).at_ hlt
          obtain ⟨bb, ob, rfl, hbb, hcb⟩ := (h2.step hBr).at_ (show k < b.length by have := E2.out; omega)
          have q1 : (0 : Int) ≤ (k : Int) := by omega
          have q3 : (k : Int) < (a.length : Int) := by omega
          have q4 : (k : Int) < (b.length : Int) := by have := E2.out; omega
          have HS := Lib.hid (mk_succ (binF op a b) k)
          have HX : Hid (binF op a b k = doN op (nth a k) (nth b k)) := Lib.hid rfl
          have HY : Hid (binR op a b k = doE op (nth a k) (nth b k)) := Lib.hid rfl
          obtain ⟨x, hx⟩ : ∃ x, nth a k = x := ⟨_, rfl⟩
          obtain ⟨y, hy⟩ : ∃ y, nth b k = y := ⟨_, rfl⟩
          rw [hx, hy] at HX HY
          rw [hx] at hca
          rw [hy] at hcb
          clear hx hy
          have C2 := fun W => rdo_any op x y W
          obtain ⟨n, hn⟩ : ∃ n, doN op x y = n := ⟨_, rfl⟩
          obtain ⟨r, hr⟩ : ∃ r, doE op x y = r := ⟨_, rfl⟩
          rw [hn] at HX
          rw [hr] at HY
          rw [hn, hr] at C2
          have C2 := Lib.hid C2
          rw [HX.out] at HS
          clear hn hr
          by_cases hr0 : r = 0
          · subst hr0
            have HN := Lib.hid (fe_go HF.out HY.out)
            go_wp2
            go_region_held3 (fun W => W.cell? ⟨ba, oa + k, none⟩ = some (.int .i64 x) ∧ W.cell? ⟨bb, ob + k, none⟩ = some (.int .i64 y) ∧ Below w.heap.size w W ∧ Below wr.heap.size wr W)
              (first | exact ⟨hca, hcb, hBr.drew, Below.drew (Below.refl _ _)⟩ | exact keepR hba hbb (by assumption) (by assumption))
              (first | (go_at_call 64; refine (C2.out _).mono ?_; rintro e w3 ⟨rfl, hb1⟩))
            rename_i hH
            obtain ⟨_, _, hb2, hb3⟩ := hH
            have ho2 := hown.below hb3 (Nat.le_refl _)
            clear hca hcb hown hBr C2
            go_wp2_with (at_builtin; refine wpList_append_own _ rfl _ _ 22 rfl w.heap.size 3 i0 (.int .i64 0) 1 8 Tryd.underlying22 hi hz0 hz1 hz2 rfl (by decide) _ _ _ rfl (ho2.alloc _) ⟨_, 0, none⟩ 1 1 [.int .i64 n] rfl rfl (cell_one_new _ _ _) (by simp [Value.oneCell']) (by unfold maxLen; omega) (by omega) (by have := hb2.size; simp; omega) ?_; intro v' w2 hown' hgrow _; have hB2 := below_append hb2 hb2.size ho2 hgrow)
            have hown2 := OwnI.snoc hown'
            clear hown' hgrow
            go_roundw
            case rel => exact ⟨k + 1, _, by omega, by go_num, Lib.hid (by rw [HS.out, ← HL.out]), HN, by simp; omega, hown2, hB2⟩
            case measure => simp [intOf]; omega
          · have hd : (r != 0) = true := by rw [bne_iff_ne]; exact hr0
            have HN := Lib.hid (show fe (binR op a b) a.length = r by rw [fe_stop HF.out (by rw [HY.out]; exact hr0) hlt, HY.out])
            have HR := Lib.hid hr0
            clear hr0
            go_wp2
            go_region_held3 (fun W => W.cell? ⟨ba, oa + k, none⟩ = some (.int .i64 x) ∧ W.cell? ⟨bb, ob + k, none⟩ = some (.int .i64 y) ∧ Below w.heap.size w W ∧ Below wr.heap.size wr W)
              (first | exact ⟨hca, hcb, hBr.drew, Below.drew (Below.refl _ _)⟩ | exact keepR hba hbb (by assumption) (by assumption))
              (first | (go_at_call 64; refine (C2.out _).mono ?_; rintro e w3 ⟨rfl, hb1⟩))
            rename_i hH
            obtain ⟨_, _, hb2, hb3⟩ := hH
            clear hca hcb hown hBr C2
            go_wp2
            go_ret2
            rw [HN.out]
            exact retL_none HR.out hb2
        · obtain rfl : k = a.length := by omega
          have HE : Hid (binL op a b = L) := Lib.hid (by rw [HL.out]; rfl)
          obtain ⟨A', c', rfl, hcc, hsl⟩ := hown.form
          go_wp2
          go_ret2
          rw [HF.out, orL_ok]
          exact retL_of HE.out hcc hsl hBr
    · have hd : (evE [a, b] != 0) = true := by rw [bne_iff_ne]; exact he
      rw [bin_ev ho he]
      have C1 := Lib.hid C1
      have HE := Lib.hid he
      clear he ho
      go_enter Tryd.func16, Tryd.ntmps16
      go_wp2_with fail
      refine C0.out.mono ?_
      rintro e w' ⟨rfl, rfl⟩
      go_wp2_with fail
      refine (C1.out _ _ (al1 _ _) ?_).mono ?_
      · exact Blk.at (by simp)
      rintro e w1 ⟨rfl, hB⟩
      have hB0 := below_step (al1 _ _) hB
      have hs01 := hB0.size
      go_wp2
      go_ret2
      exact retL_none HE.out hB0
end Go.Proofs.YtchjdhlmpdcibaaDoor
