/- Walks of the specification: Fill, Bin, Pick, Off, Pack, Gather. -/
import Derived.Test.YtchjdhlmpdcibaaDoorRa
import Derived.Test.YtchjdhlmpdcibaaDoorQa
import Derived.Test.YtchjdhlmpdcibaaDoorCg
namespace Go.Proofs.YtchjdhlmpdcibaaDoor
set_option linter.unusedVariables false
open Go.RowKit Go.Shelf

theorem retL_of {w W : World} {A : Option Addr} {c : Nat} {zs L : List Int} (e : zs = L) (hc : L.length ≤ c) (h : Sl W A L) (hB : Below w.heap.size w W) : RetL w zs 0 (.returned (.tuple #[.slice A L.length c, .int .i64 0])) W := by
  subst e
  exact ⟨_, _, rfl, hc, h, hB⟩
set_option maxRecDepth 100000 in
set_option maxHeartbeats 4000000 in
theorem rpick_any (A1 : Option Addr) (c1 : Nat) (f : List Int) (A2 : Option Addr) (c2 : Nat) (a : List Int) (A3 : Option Addr) (c3 : Nat) (b : List Int) (w : World) (h1 : Sl w A1 f) (hc1 : f.length ≤ c1) (k1 : Ok f) (h2 : Sl w A2 a) (hc2 : a.length ≤ c2) (k2 : Ok a) (h3 : Sl w A3 b) (hc3 : b.length ≤ c3) (k3 : Ok b) :
    Calls Tryd.prog 19 #[.slice A1 f.length c1, .slice A2 a.length c2, .slice A3 b.length c3] w (RetL w (orL (picE f a b) (picL f a b)) (picE f a b)) := by
  obtain ⟨i0, hi, hz0, hz1, hz2⟩ := info_parts int_info
  have C1 : ∀ W g, Below w.heap.size w W → Blk W g 22 #[.slice A1 f.length c1, .slice A2 a.length c2, .slice A3 b.length c3] → Calls Tryd.prog 63 #[.slice (some ⟨g, 0, none⟩) 3 3] W (RetV W (.int .i64 (evE [f, a, b]))) :=
    fun W g hb hg => (alike_any _ 3 [f, a, b] W (sll3 hg (h1.step hb) (h2.step hb) (h3.step hb) hc1 hc2 hc3) (by simp) (allShort_of (by unfold Ok at k1 k2 k3; simpa using ⟨k1, k2, k3⟩))).mono fun e w' ⟨he, hw⟩ => Drew.retV ⟨he, hw⟩
  by_cases he : evE [f, a, b] = 0
  · have hl := (lsE_ok (evE_ok he).1).1 f (by simp)
    have E2 := Lib.hid (show a.length = f.length from (evE_ok he).2 a (by simp))
    have E3 := Lib.hid (show b.length = f.length from (evE_ok he).2 b (by simp))
    rw [he] at C1
    rw [show picE f a b = 0 from he, orL_ok]
    have C1 := Lib.hid C1
    clear he
    go_enter Tryd.func19, Tryd.ntmps19
    go_wp2_with fail
    refine (C1.out _ _ (al1 _ _) ?_).mono ?_
    · exact Blk.at (by simp)
    rintro e w1 ⟨rfl, hB⟩
    have hB0 := below_step (al1 _ _) hB
    have hs01 := hB0.size
    go_wp2
    go_loopw [9, 10] (fun v i wr => ∃ (k : Nat) (L : List Int), k ≤ f.length ∧ i = .int .i64 k ∧ Hid (L = mk (fun k => if nth f k ≠ 0 then nth a k else nth b k) k) ∧ L.length ≤ k ∧ OwnI wr w.heap.size v L ∧ Below w.heap.size w wr) (fun _ i _ => f.length - (intOf i).toNat)
    case atStart => exact ⟨0, [], Nat.zero_le _, rfl, Lib.hid rfl, by simp, OwnI.empty w1 _ hs01, hB0.alloc hs01 _⟩
    case round =>
      obtain ⟨k, L, hk, rfl, HL, hLl, hown, hBr⟩ := hrel
      by_cases hlt : k < f.length
      · obtain ⟨bf, of_, rfl, hbf, hcf⟩ := (h1.step hBr).at_ hlt
        obtain ⟨ba, oa, rfl, hba, hca⟩ := (h2.step hBr).at_ (show k < a.length by have := E2.out; omega)
        obtain ⟨bb, ob, rfl, hbb, hcb⟩ := (h3.step hBr).at_ (show k < b.length by have := E3.out; omega)
        have q1 : (0 : Int) ≤ (k : Int) := by omega
        have q2 : (k : Int) < (f.length : Int) := by omega
        have q3 : (k : Int) < (a.length : Int) := by have := E2.out; omega
        have q4 : (k : Int) < (b.length : Int) := by have := E3.out; omega
        have HS := Lib.hid (mk_succ (fun k => if nth f k ≠ 0 then nth a k else nth b k) k)
        by_cases h0 : nth f k = 0
        · simp only [h0, ne_eq, not_true_eq_false, if_false] at HS
          rw [h0] at hcf
          obtain ⟨x, hx⟩ : ∃ x, nth b k = x := ⟨_, rfl⟩
          rw [hx] at hcb HS
          clear hx h0
          go_wp2_with (at_builtin; refine wpList_append_own _ rfl _ _ 22 rfl w.heap.size 3 i0 (.int .i64 0) 1 8 Tryd.underlying22 hi hz0 hz1 hz2 rfl (by decide) _ _ _ rfl (hown.alloc _) ⟨wr.heap.size, 0, none⟩ 1 1 [.int .i64 x] rfl rfl (cell_one_new _ _ _) (by simp [Value.oneCell']) (by unfold maxLen; omega) (by omega) (by have := hBr.size; simp; omega) ?_; intro v' w2 hown' hgrow _; have hB2 := below_append hBr hBr.size hown hgrow)
          have hown2 := OwnI.snoc hown'
          clear hown' hgrow
          go_roundw
          case rel => exact ⟨k + 1, _, by omega, by go_num, Lib.hid (by rw [HS.out, ← HL.out]), by simp; omega, hown2, hB2⟩
          case measure => simp [intOf]; omega
        · simp only [h0, ne_eq, not_false_eq_true, if_true] at HS
          have hd : (nth f k != 0) = true := by rw [bne_iff_ne]; exact h0
          obtain ⟨y, hy⟩ : ∃ y, nth f k = y := ⟨_, rfl⟩
          obtain ⟨x, hx⟩ : ∃ x, nth a k = x := ⟨_, rfl⟩
          rw [hx] at hca HS
          rw [hy] at hcf hd
          clear hx hy h0
          go_wp2_with (at_builtin; refine wpList_append_own _ rfl _ _ 22 rfl w.heap.size 3 i0 (.int .i64 0) 1 8 Tryd.underlying22 hi hz0 hz1 hz2 rfl (by decide) _ _ _ rfl (hown.alloc _) ⟨wr.heap.size, 0, none⟩ 1 1 [.int .i64 x] rfl rfl (cell_one_new _ _ _) (by simp [Value.oneCell']) (by unfold maxLen; omega) (by omega) (by have := hBr.size; simp; omega) ?_; intro v' w2 hown' hgrow _; have hB2 := below_append hBr hBr.size hown hgrow)
          have hown2 := OwnI.snoc hown'
          clear hown' hgrow
          go_roundw
          case rel => exact ⟨k + 1, _, by omega, by go_num, Lib.hid (by rw [HS.out, ← HL.out]), by simp; omega, hown2, hB2⟩
          case measure => simp [intOf]; omega
      · obtain rfl : k = f.length := by omega
        have HE : Hid (picL f a b = L) := Lib.hid (by rw [HL.out]; try rfl)
        obtain ⟨A', c', rfl, hcc, hsl⟩ := hown.form
        go_wp2
        go_ret2
        exact retL_of HE.out hcc hsl hBr
  · have hd : (evE [f, a, b] != 0) = true := by rw [bne_iff_ne]; exact he
    rw [show picE f a b = evE [f, a, b] from rfl]
    have C1 := Lib.hid C1
    have HE := Lib.hid he
    clear he
    go_enter Tryd.func19, Tryd.ntmps19
    go_wp2_with fail
    refine (C1.out _ _ (al1 _ _) ?_).mono ?_
    · exact Blk.at (by simp)
    rintro e w1 ⟨rfl, hB⟩
    have hB0 := below_step (al1 _ _) hB
    have hs01 := hB0.size
    go_wp2
    go_ret2
    exact retL_none HE.out hB0
set_option maxRecDepth 100000 in
set_option maxHeartbeats 4000000 in
theorem rpack_any (A1 : Option Addr) (c1 : Nat) (f : List Int) (A2 : Option Addr) (c2 : Nat) (a : List Int) (w : World) (h1 : Sl w A1 f) (hc1 : f.length ≤ c1) (k1 : Ok f) (h2 : Sl w A2 a) (hc2 : a.length ≤ c2) (k2 : Ok a) :
    Calls Tryd.prog 24 #[.slice A1 f.length c1, .slice A2 a.length c2] w (RetL w (orL (pacE f a) (pacL f a)) (pacE f a)) := by
  obtain ⟨i0, hi, hz0, hz1, hz2⟩ := info_parts int_info
  have C1 : ∀ W g, Below w.heap.size w W → Blk W g 22 #[.slice A1 f.length c1, .slice A2 a.length c2] → Calls Tryd.prog 63 #[.slice (some ⟨g, 0, none⟩) 2 2] W (RetV W (.int .i64 (evE [f, a]))) :=
    fun W g hb hg => (alike_any _ 2 [f, a] W (sll2 hg (h1.step hb) (h2.step hb) hc1 hc2) (by simp) (allShort_of (by unfold Ok at k1 k2; simpa using ⟨k1, k2⟩))).mono fun e w' ⟨he, hw⟩ => Drew.retV ⟨he, hw⟩
  by_cases he : evE [f, a] = 0
  · have hl := (lsE_ok (evE_ok he).1).1 f (by simp)
    have E2 := Lib.hid (show a.length = f.length from (evE_ok he).2 a (by simp))
    rw [he] at C1
    rw [show pacE f a = 0 from he, orL_ok]
    have C1 := Lib.hid C1
    clear he
    go_enter Tryd.func24, Tryd.ntmps24
    go_wp2_with fail
    refine (C1.out _ _ (al1 _ _) ?_).mono ?_
    · exact Blk.at (by simp)
    rintro e w1 ⟨rfl, hB⟩
    have hB0 := below_step (al1 _ _) hB
    have hs01 := hB0.size
    go_wp2
    go_loopw [7, 8] (fun v i wr => ∃ (k : Nat) (L : List Int), k ≤ f.length ∧ i = .int .i64 k ∧ Hid (L = pacK f a k) ∧ L.length ≤ k ∧ OwnI wr w.heap.size v L ∧ Below w.heap.size w wr) (fun _ i _ => f.length - (intOf i).toNat)
    case atStart => exact ⟨0, [], Nat.zero_le _, rfl, Lib.hid rfl, by simp, OwnI.empty w1 _ hs01, hB0.alloc hs01 _⟩
    case round =>
      obtain ⟨k, L, hk, rfl, HL, hLl, hown, hBr⟩ := hrel
      by_cases hlt : k < f.length
      · obtain ⟨bf, of_, rfl, hbf, hcf⟩ := (h1.step hBr).at_ hlt
        obtain ⟨ba, oa, rfl, hba, hca⟩ := (h2.step hBr).at_ (show k < a.length by have := E2.out; omega)
        have q1 : (0 : Int) ≤ (k : Int) := by omega
        have q2 : (k : Int) < (f.length : Int) := by omega
        have q3 : (k : Int) < (a.length : Int) := by have := E2.out; omega
        by_cases h0 : nth f k = 0
        · have HS := Lib.hid (show pacK f a (k + 1) = pacK f a k by simp [pacK, h0])
          rw [h0] at hcf
          clear h0
          go_wp2
          go_roundw
          case rel => exact ⟨k + 1, L, by omega, by go_num, Lib.hid (by rw [HS.out, ← HL.out]), by omega, hown, hBr⟩
          case measure => simp [intOf]; omega
        · have HS := Lib.hid (show pacK f a (k + 1) = pacK f a k ++ [nth a k] by simp [pacK, h0])
          have hd : (nth f k != 0) = true := by rw [bne_iff_ne]; exact h0
          obtain ⟨y, hy⟩ : ∃ y, nth f k = y := ⟨_, rfl⟩
          obtain ⟨x, hx⟩ : ∃ x, nth a k = x := ⟨_, rfl⟩
          rw [hx] at hca HS
          rw [hy] at hcf hd
          clear hx hy h0
          go_wp2_with (at_builtin; refine wpList_append_own _ rfl _ _ 22 rfl w.heap.size 3 i0 (.int .i64 0) 1 8 Tryd.underlying22 hi hz0 hz1 hz2 rfl (by decide) _ _ _ rfl (hown.alloc _) ⟨wr.heap.size, 0, none⟩ 1 1 [.int .i64 x] rfl rfl (cell_one_new _ _ _) (by simp [Value.oneCell']) (by unfold maxLen; omega) (by omega) (by have := hBr.size; simp; omega) ?_; intro v' w2 hown' hgrow _; have hB2 := below_append hBr hBr.size hown hgrow)
          have hown2 := OwnI.snoc hown'
          clear hown' hgrow
          go_roundw
          case rel => exact ⟨k + 1, _, by omega, by go_num, Lib.hid (by rw [HS.out, ← HL.out]), by simp; omega, hown2, hB2⟩
          case measure => simp [intOf]; omega
      · obtain rfl : k = f.length := by omega
        have HE : Hid (pacL f a = L) := Lib.hid (by rw [HL.out]; try rfl)
        obtain ⟨A', c', rfl, hcc, hsl⟩ := hown.form
        go_wp2
        go_ret2
        exact retL_of HE.out hcc hsl hBr
  · have hd : (evE [f, a] != 0) = true := by rw [bne_iff_ne]; exact he
    rw [show pacE f a = evE [f, a] from rfl]
    have C1 := Lib.hid C1
    have HE := Lib.hid he
    clear he
    go_enter Tryd.func24, Tryd.ntmps24
    go_wp2_with fail
    refine (C1.out _ _ (al1 _ _) ?_).mono ?_
    · exact Blk.at (by simp)
    rintro e w1 ⟨rfl, hB⟩
    have hB0 := below_step (al1 _ _) hB
    have hs01 := hB0.size
    go_wp2
    go_ret2
    exact retL_none HE.out hB0
set_option maxRecDepth 100000 in
set_option maxHeartbeats 4000000 in
theorem roff_any (A1 : Option Addr) (c1 : Nat) (a : List Int) (A2 : Option Addr) (c2 : Nat) (b : List Int) (w : World) (h1 : Sl w A1 a) (hc1 : a.length ≤ c1) (k1 : Ok a) (h2 : Sl w A2 b) (hc2 : b.length ≤ c2) (k2 : Ok b) :
    Calls Tryd.prog 21 #[.slice A1 a.length c1, .slice A2 b.length c2] w (RetL w (orL (offE a b) (offL a b)) (offE a b)) := by
  obtain ⟨i0, hi, hz0, hz1, hz2⟩ := info_parts int_info
  have C1 : ∀ W g, Below w.heap.size w W → Blk W g 22 #[.slice A1 a.length c1, .slice A2 b.length c2] → Calls Tryd.prog 56 #[.slice (some ⟨g, 0, none⟩) 2 2] W (RetV W (.int .i64 (lsE [a, b]))) :=
    fun W g hb hg => (lists_any _ 2 [a, b] W (sll2 hg (h1.step hb) (h2.step hb) hc1 hc2) (by simp) (allShort_of (by unfold Ok at k1 k2; simpa using ⟨k1, k2⟩))).mono fun e w' ⟨he, hw⟩ => ⟨he, hw ▸ Below.refl _ _⟩
  by_cases he : lsE [a, b] = 0
  · have hl := (lsE_ok he).1 a (by simp)
    have hl2 := (lsE_ok he).1 b (by simp)
    have HW := Lib.hid ((lsE_ok he).2 a (by simp))
    rw [he] at C1
    rw [show offE a b = 0 from he, orL_ok]
    have C1 := Lib.hid C1
    clear he
    go_enter Tryd.func21, Tryd.ntmps21
    go_wp2_with fail
    refine (C1.out _ _ (al1 _ _) ?_).mono ?_
    · exact Blk.at (by simp)
    rintro e w1 ⟨rfl, hB⟩
    have hB0 := below_step (al1 _ _) hB
    have hs01 := hB0.size
    go_wp2
    go_loopw [7, 8] (fun v i wr => ∃ (k : Nat) (L : List Int), k ≤ a.length ∧ i = .int .i64 k ∧ Hid (L = mk (fun k => wrap32 (nth a k + b.length)) k) ∧ L.length ≤ k ∧ OwnI wr w.heap.size v L ∧ Below w.heap.size w wr) (fun _ i _ => a.length - (intOf i).toNat)
    case atStart => exact ⟨0, [], Nat.zero_le _, rfl, Lib.hid rfl, by simp, OwnI.empty w1 _ hs01, hB0.alloc hs01 _⟩
    case round =>
      obtain ⟨k, L, hk, rfl, HL, hLl, hown, hBr⟩ := hrel
      by_cases hlt : k < a.length
      · obtain ⟨ba, oa, rfl, hba, hca⟩ := (h1.step hBr).at_ hlt
        have q1 : (0 : Int) ≤ (k : Int) := by omega
        have q3 : (k : Int) < (a.length : Int) := by omega
        have HS := Lib.hid (mk_succ (fun k => wrap32 (nth a k + b.length)) k)
        have hw := HW.out k hlt
        obtain ⟨x, hx⟩ : ∃ x, nth a k = x := ⟨_, rfl⟩
        rw [hx] at hca hw
        simp only [hx] at HS
        clear hx
        unfold isW at hw
        have C2 := bword_any (x + (b.length : Int)) wr
        obtain ⟨y, hy⟩ : ∃ y, wrap32 (x + (b.length : Int)) = y := ⟨_, rfl⟩
        rw [hy] at C2 HS
        have C2 := Lib.hid C2
        clear hy
        go_wp2_with (first | (go_at_call 52; refine C2.out.mono ?_; rintro e w' ⟨rfl, rfl⟩) | (at_builtin; refine wpList_append_own _ rfl _ _ 22 rfl w.heap.size 3 i0 (.int .i64 0) 1 8 Tryd.underlying22 hi hz0 hz1 hz2 rfl (by decide) _ _ _ rfl (hown.alloc _) ⟨wr.heap.size, 0, none⟩ 1 1 [.int .i64 y] rfl rfl (cell_one_new _ _ _) (by simp [Value.oneCell']) (by unfold maxLen; omega) (by omega) (by have := hBr.size; simp; omega) ?_; intro v' w2 hown' hgrow _; have hB2 := below_append hBr hBr.size hown hgrow))
        have hown2 := OwnI.snoc hown'
        clear hown' hgrow
        go_roundw
        case rel => exact ⟨k + 1, _, by omega, by go_num, Lib.hid (by rw [HS.out, ← HL.out]), by simp; omega, hown2, hB2⟩
        case measure => simp [intOf]; omega
      · obtain rfl : k = a.length := by omega
        have HE : Hid (offL a b = L) := Lib.hid (by rw [HL.out]; try rfl)
        obtain ⟨A', c', rfl, hcc, hsl⟩ := hown.form
        go_wp2
        go_ret2
        exact retL_of HE.out hcc hsl hBr
  · have hd : (lsE [a, b] != 0) = true := by rw [bne_iff_ne]; exact he
    rw [show offE a b = lsE [a, b] from rfl]
    have C1 := Lib.hid C1
    have HE := Lib.hid he
    clear he
    go_enter Tryd.func21, Tryd.ntmps21
    go_wp2_with fail
    refine (C1.out _ _ (al1 _ _) ?_).mono ?_
    · exact Blk.at (by simp)
    rintro e w1 ⟨rfl, hB⟩
    have hB0 := below_step (al1 _ _) hB
    have hs01 := hB0.size
    go_wp2
    go_ret2
    exact retL_none HE.out hB0
theorem fil_cases (n : Int) (l : List Int) : filE n l = if shortB l = true then (if wordsB l = true ∧ isWb n = true then 0 else 2) else 3 := by
  simp [filE, lsE, shortB, wordsB]
theorem ls1_cases (l : List Int) : lsE [l] = if shortB l = true then (if wordsB l = true then 0 else 2) else 3 := by
  simp [lsE, shortB, wordsB]
theorem fil_ok {n : Int} {l : List Int} (h : lsE [l] = 0) (hn : isWb n = true) : filE n l = 0 := by
  rw [ls1_cases] at h; rw [fil_cases]
  cases h1 : shortB l <;> cases h2 : wordsB l <;> simp_all
theorem fil_no {n : Int} {l : List Int} (h : lsE [l] = 0) (hn : isWb n = false) : filE n l = 2 := by
  rw [ls1_cases] at h; rw [fil_cases]
  cases h1 : shortB l <;> cases h2 : wordsB l <;> simp_all
theorem fil_ls {n : Int} {l : List Int} (h : lsE [l] ≠ 0) : filE n l = lsE [l] := by
  rw [ls1_cases] at h ⊢; rw [fil_cases]
  cases h1 : shortB l <;> cases h2 : wordsB l <;> simp_all
set_option maxRecDepth 100000 in
set_option maxHeartbeats 4000000 in
theorem rfill_any (n : Int) (A1 : Option Addr) (c1 : Nat) (l : List Int) (w : World) (h1 : Sl w A1 l) (hc1 : l.length ≤ c1) (k1 : Ok l) :
    Calls Tryd.prog 14 #[.int .i64 n, .slice A1 l.length c1] w (RetL w (orL (filE n l) (filL n l)) (filE n l)) := by
  obtain ⟨i0, hi, hz0, hz1, hz2⟩ := info_parts int_info
  have C1 : ∀ W g, Below w.heap.size w W → Blk W g 22 #[.slice A1 l.length c1] → Calls Tryd.prog 56 #[.slice (some ⟨g, 0, none⟩) 1 1] W (RetV W (.int .i64 (lsE [l]))) :=
    fun W g hb hg => (lists_any _ 1 [l] W (sll1 hg (h1.step hb) hc1) (by simp) (allShort_of (by unfold Ok at k1; simpa using k1))).mono fun e w' ⟨he, hw⟩ => ⟨he, hw ▸ Below.refl _ _⟩
  by_cases he : lsE [l] = 0
  · have hl := (lsE_ok he).1 l (by simp)
    rw [he] at C1
    have C1 := Lib.hid C1
    cases hn : isWb n with
    | true =>
      have HE0 := Lib.hid (fil_ok he hn)
      have C2 := fun W => isword_b n W _ hn
      have C2 := Lib.hid C2
      rw [HE0.out, orL_ok]
      clear he hn
      go_enter Tryd.func14, Tryd.ntmps14
      go_wp2_with fail
      refine (C1.out _ _ (al1 _ _) ?_).mono ?_
      · exact Blk.at (by simp)
      rintro e w1 ⟨rfl, hB⟩
      have hB0 := below_step (al1 _ _) hB
      have hs01 := hB0.size
      go_wp2_with fail
      refine (C2.out _).mono ?_
      rintro e w' ⟨rfl, rfl⟩
      go_wp2
      go_loopw [7, 8] (fun v i wr => ∃ (k : Nat) (L : List Int), k ≤ l.length ∧ i = .int .i64 k ∧ Hid (L = mk (fun _ => n) k) ∧ L.length ≤ k ∧ OwnI wr w.heap.size v L ∧ Below w.heap.size w wr) (fun _ i _ => l.length - (intOf i).toNat)
      case atStart => exact ⟨0, [], Nat.zero_le _, rfl, Lib.hid rfl, by simp, OwnI.empty w1 _ hs01, hB0.alloc hs01 _⟩
      case round =>
        obtain ⟨k, L, hk, rfl, HL, hLl, hown, hBr⟩ := hrel
        by_cases hlt : k < l.length
        · have q1 : (0 : Int) ≤ (k : Int) := by omega
          have HS := Lib.hid (mk_succ (fun _ => n) k)
          go_wp2_with (at_builtin; refine wpList_append_own _ rfl _ _ 22 rfl w.heap.size 3 i0 (.int .i64 0) 1 8 Tryd.underlying22 hi hz0 hz1 hz2 rfl (by decide) _ _ _ rfl (hown.alloc _) ⟨wr.heap.size, 0, none⟩ 1 1 [.int .i64 n] rfl rfl (cell_one_new _ _ _) (by simp [Value.oneCell']) (by unfold maxLen; omega) (by omega) (by have := hBr.size; simp; omega) ?_; intro v' w2 hown' hgrow _; have hB2 := below_append hBr hBr.size hown hgrow)
          have hown2 := OwnI.snoc hown'
          clear hown' hgrow
          go_roundw
          case rel => exact ⟨k + 1, _, by omega, by go_num, Lib.hid (by rw [HS.out, ← HL.out]), by simp; omega, hown2, hB2⟩
          case measure => simp [intOf]; omega
        · obtain rfl : k = l.length := by omega
          have HE : Hid (filL n l = L) := Lib.hid (by rw [HL.out]; try rfl)
          obtain ⟨A', c', rfl, hcc, hsl⟩ := hown.form
          go_wp2
          go_ret2
          exact retL_of HE.out hcc hsl hBr
    | false =>
      have HE0 := Lib.hid (fil_no he hn)
      have C2 := fun W => isword_b n W _ hn
      have C2 := Lib.hid C2
      rw [HE0.out]
      clear he hn
      go_enter Tryd.func14, Tryd.ntmps14
      go_wp2_with fail
      refine (C1.out _ _ (al1 _ _) ?_).mono ?_
      · exact Blk.at (by simp)
      rintro e w1 ⟨rfl, hB⟩
      have hB0 := below_step (al1 _ _) hB
      have hs01 := hB0.size
      go_wp2_with fail
      refine (C2.out _).mono ?_
      rintro e w' ⟨rfl, rfl⟩
      go_wp2
      go_ret2
      exact retL_none (by decide) hB0
  · have hd : (lsE [l] != 0) = true := by rw [bne_iff_ne]; exact he
    rw [fil_ls he]
    have C1 := Lib.hid C1
    have HE := Lib.hid he
    clear he
    go_enter Tryd.func14, Tryd.ntmps14
    go_wp2_with fail
    refine (C1.out _ _ (al1 _ _) ?_).mono ?_
    · exact Blk.at (by simp)
    rintro e w1 ⟨rfl, hB⟩
    have hB0 := below_step (al1 _ _) hB
    have hs01 := hB0.size
    go_wp2
    go_ret2
    exact retL_none HE.out hB0
set_option maxRecDepth 100000 in
set_option maxHeartbeats 4000000 in
theorem rgather_any (A1 : Option Addr) (c1 : Nat) (a : List Int) (A2 : Option Addr) (c2 : Nat) (p : List Int) (w : World) (h1 : Sl w A1 a) (hc1 : a.length ≤ c1) (k1 : Ok a) (h2 : Sl w A2 p) (hc2 : p.length ≤ c2) (k2 : Ok p) :
    Calls Tryd.prog 31 #[.slice A1 a.length c1, .slice A2 p.length c2] w (RetL w (orL (gatE a p) (gatL a p)) (gatE a p)) := by
  obtain ⟨i0, hi, hz0, hz1, hz2⟩ := info_parts int_info
  have C1 : ∀ W g, Below w.heap.size w W → Blk W g 22 #[.slice A1 a.length c1, .slice A2 p.length c2] → Calls Tryd.prog 56 #[.slice (some ⟨g, 0, none⟩) 2 2] W (RetV W (.int .i64 (lsE [a, p]))) :=
    fun W g hb hg => (lists_any _ 2 [a, p] W (sll2 hg (h1.step hb) (h2.step hb) hc1 hc2) (by simp) (allShort_of (by unfold Ok at k1 k2; simpa using ⟨k1, k2⟩))).mono fun e w' ⟨he, hw⟩ => ⟨he, hw ▸ Below.refl _ _⟩
  by_cases he : lsE [a, p] = 0
  · have hl := (lsE_ok he).1 a (by simp)
    have hl2 := (lsE_ok he).1 p (by simp)
    rw [he] at C1
    have HG := Lib.hid (gat_err he)
    rw [HG.out]
    have C1 := Lib.hid C1
    clear he
    go_enter Tryd.func31, Tryd.ntmps31
    go_wp2_with fail
    refine (C1.out _ _ (al1 _ _) ?_).mono ?_
    · exact Blk.at (by simp)
    rintro e w1 ⟨rfl, hB⟩
    have hB0 := below_step (al1 _ _) hB
    have hs01 := hB0.size
    go_wp2
    go_loopw [7, 8] (fun v i wr => ∃ (k : Nat) (L : List Int), k ≤ p.length ∧ i = .int .i64 k ∧ Hid (L = mk (fun k => nth a (nth p k).toNat) k) ∧ Hid (fe (gatR a p) k = 0) ∧ L.length ≤ k ∧ OwnI wr w.heap.size v L ∧ Below w.heap.size w wr) (fun _ i _ => p.length - (intOf i).toNat)
    case atStart => exact ⟨0, [], Nat.zero_le _, rfl, Lib.hid rfl, Lib.hid rfl, by simp, OwnI.empty w1 _ hs01, hB0.alloc hs01 _⟩
    case round =>
      obtain ⟨k, L, hk, rfl, HL, HF, hLl, hown, hBr⟩ := hrel
      by_cases hlt : k < p.length
      · obtain ⟨bp, op, rfl, hbp, hcp⟩ := (h2.step hBr).at_ hlt
        have q1 : (0 : Int) ≤ (k : Int) := by omega
        have q3 : (k : Int) < (p.length : Int) := by omega
        have HS := Lib.hid (mk_succ (fun k => nth a (nth p k).toNat) k)
        have HR : Hid (gatR a p k = if plB (nth p k) a.length = true then 0 else 14) := Lib.hid rfl
        obtain ⟨y, hy⟩ : ∃ y, nth p k = y := ⟨_, rfl⟩
        rw [hy] at hcp HR
        simp only [hy] at HS
        clear hy
        have C2 := lies_any y 0 ((a.length : Int) - 1) wr
        cases hpl : plB y a.length with
        | false =>
          have hdl : decide (0 ≤ y ∧ y ≤ (a.length : Int) - 1) = false := by unfold plB at hpl; simp at hpl ⊢; omega
          rw [hdl] at C2
          rw [hpl] at HR
          have C2 := Lib.hid C2
          have HN := Lib.hid (show fe (gatR a p) p.length = 14 by rw [fe_stop HF.out (by rw [HR.out]; decide) hlt, HR.out]; rfl)
          clear hdl hpl
          go_wp2_with fail
          refine C2.out.mono ?_
          rintro e w' ⟨rfl, rfl⟩
          go_wp2
          go_ret2
          rw [HN.out]
          exact retL_none (by decide) hBr
        | true =>
          have hdl : decide (0 ≤ y ∧ y ≤ (a.length : Int) - 1) = true := by unfold plB at hpl; simp at hpl ⊢; omega
          have hyb : 0 ≤ y ∧ y < a.length := by unfold plB at hpl; simpa using hpl
          rw [hdl] at C2
          rw [hpl] at HR
          have C2 := Lib.hid C2
          obtain ⟨j, rfl⟩ : ∃ j : Nat, y = j := ⟨y.toNat, by omega⟩
          obtain ⟨ba, oa, rfl, hba, hca⟩ := (h1.step hBr).at_ (show j < a.length by omega)
          have q4 : (0 : Int) ≤ (j : Int) := by omega
          have q5 : (j : Int) < (a.length : Int) := by omega
          rw [show ((j : Nat) : Int).toNat = j by simp] at HS
          have HN := Lib.hid (fe_go HF.out (by rw [HR.out]; rfl))
          obtain ⟨x, hx⟩ : ∃ x, nth a j = x := ⟨_, rfl⟩
          rw [hx] at hca HS
          clear hdl hpl hyb hx
          go_wp2_with (first | (go_at_call 62; refine C2.out.mono ?_; rintro e w' ⟨rfl, rfl⟩) | (at_builtin; refine wpList_append_own _ rfl _ _ 22 rfl w.heap.size 3 i0 (.int .i64 0) 1 8 Tryd.underlying22 hi hz0 hz1 hz2 rfl (by decide) _ _ _ rfl (hown.alloc _) ⟨wr.heap.size, 0, none⟩ 1 1 [.int .i64 x] rfl rfl (cell_one_new _ _ _) (by simp [Value.oneCell']) (by unfold maxLen; omega) (by omega) (by have := hBr.size; simp; omega) ?_; intro v' w2 hown' hgrow _; have hB2 := below_append hBr hBr.size hown hgrow))
          have hown2 := OwnI.snoc hown'
          clear hown' hgrow
          go_roundw
          case rel => exact ⟨k + 1, _, by omega, by go_num, Lib.hid (by rw [HS.out, ← HL.out]), HN, by simp; omega, hown2, hB2⟩
          case measure => simp [intOf]; omega
      · obtain rfl : k = p.length := by omega
        have HE : Hid (gatL a p = L) := Lib.hid (by rw [HL.out]; rfl)
        obtain ⟨A', c', rfl, hcc, hsl⟩ := hown.form
        go_wp2
        go_ret2
        rw [HF.out, orL_ok]
        exact retL_of HE.out hcc hsl hBr
  · have hd : (lsE [a, p] != 0) = true := by rw [bne_iff_ne]; exact he
    rw [show gatE a p = lsE [a, p] by unfold gatE; rw [if_neg he]]
    have C1 := Lib.hid C1
    have HE := Lib.hid he
    clear he
    go_enter Tryd.func31, Tryd.ntmps31
    go_wp2_with fail
    refine (C1.out _ _ (al1 _ _) ?_).mono ?_
    · exact Blk.at (by simp)
    rintro e w1 ⟨rfl, hB⟩
    have hB0 := below_step (al1 _ _) hB
    have hs01 := hB0.size
    go_wp2
    go_ret2
    exact retL_none HE.out hB0
end Go.Proofs.YtchjdhlmpdcibaaDoor
