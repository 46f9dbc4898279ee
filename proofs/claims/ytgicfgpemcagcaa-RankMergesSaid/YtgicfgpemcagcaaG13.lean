/- Walks and mathematics of rank, part 13. -/
import Derived.Test.YtgicfgpemcagcaaG09
import Derived.Test.YtgicfgpemcagcaaG12
import Derived.Test.YtgicfgpemcagcaaG07
import Derived.Laws.AppendOwnNone
/- Walks of rank: Check, inverse, Inverse, Compose. -/
namespace Go.Proofs.Ytgicfgpemcagcaa
set_option linter.unusedVariables false
set_option maxRecDepth 100000
open Go.RowKit Go.Shelf
/-- The error of a list of places. -/
def chE (p : List Int) : Int := if p.length ≤ 1048576 then (if ordB p p.length p.length = true then 0 else 1) else 3
theorem chE_long {p : List Int} (h : ¬ p.length ≤ 1048576) : chE p = 3 := by unfold chE; rw [if_neg h]
theorem chE_bad {p : List Int} (h : p.length ≤ 1048576) (ho : ordB p p.length p.length = false) : chE p = 1 := by unfold chE; rw [if_pos h, ho]; rfl
theorem chE_good {p : List Int} (h : p.length ≤ 1048576) (ho : ordB p p.length p.length = true) : chE p = 0 := by unfold chE; rw [if_pos h, ho]; rfl
theorem chE_ok {p : List Int} (h : chE p = 0) : p.length ≤ 1048576 ∧ ordB p p.length p.length = true := by
  unfold chE at h
  by_cases h1 : p.length ≤ 1048576
  · rw [if_pos h1] at h
    by_cases h2 : ordB p p.length p.length = true
    · exact ⟨h1, h2⟩
    · rw [if_neg h2] at h; exact absurd h (by decide)
  · rw [if_neg h1] at h; exact absurd h (by decide)
theorem ordB_at {p : List Int} {m : Nat} : ∀ {n : Nat}, ordB p m n = true → ∀ k, k < n → 0 ≤ nth p k ∧ nth p k < m
  | 0, _, k, hk => absurd hk (by omega)
  | n + 1, h, k, hk => by
    rw [ordB_succ] at h
    simp only [Bool.and_eq_true] at h
    by_cases e : k = n
    · subst e
      have := h.2.1
      unfold plB at this
      simpa using this
    · exact ordB_at h.1 k (by omega)
theorem place_wf {x : Int} {n : Nat} (h0 : 0 ≤ x) (h : x < n) (hn : n ≤ 1048576) : (Lit.int .i64 x).wf = true := by
  simp [Lit.wf, IntKind.min, IntKind.max, IntKind.signed, IntKind.bits]
  omega
set_option maxRecDepth 100000 in
set_option maxHeartbeats 4000000 in
theorem chk_any (A : Option Addr) (c : Nat) (p : List Int) (w : World) (h : Sl w A p) (kp : Ok p) :
    Calls Try.prog 17 #[.slice A p.length c] w (RetV w (.int .i64 (chE p))) := by
  by_cases hl : p.length ≤ 1048576
  case neg =>
    have hl' : (1048576 : Int) < (p.length : Int) := by omega
    rw [chE_long hl]
    go_enter Try.func17, Try.ntmps17
    go_wp2
    go_ret
    exact ⟨rfl, Below.refl _ _⟩
  have hl' : ¬ ((1048576 : Int) < (p.length : Int)) := by omega
  have HBad := Lib.hid (fun (ho : ordB p p.length p.length = false) => chE_bad hl ho)
  have HGood := Lib.hid (fun (ho : ordB p p.length p.length = true) => chE_good hl ho)
  have hmm := fun W => run_makeMap_hint (P := Try.prog) 47 3 4 .i64 (p.length : Int) Try.underlying47 W
  have mM := MapB.made w
  have hB1 := (Below.refl w.heap.size w).alloc (Nat.le_refl _) (.map #[] 0)
  go_enter Try.func17, Try.ntmps17
  go_wp2
  go_loopw [14] (fun i wr => ∃ k : Nat, k ≤ p.length ∧ i = .int .i64 k ∧ Hid (ordB p p.length k = true) ∧ MapB wr w.heap.size k (hadB p k) ∧ Below w.heap.size w wr) (fun i _ => p.length - (intOf i).toNat)
  case atStart => exact ⟨0, Nat.zero_le _, rfl, Lib.hid rfl, mM, hB1⟩
  case round =>
    clear mM hB1 hmm
    obtain ⟨k, hk, rfl, HOr, mM, hBr⟩ := hrel
    by_cases hlt : k < p.length
    · obtain ⟨bp, op, rfl, hbp, hcp⟩ := (h.step hBr).at_ hlt
      have k3 : (0 : Int) ≤ (k : Int) := by omega
      have k4 : (k : Int) < (p.length : Int) := by omega
      have HS := Lib.hid (ordB_succ p p.length k)
      have HH := Lib.hid (hadB_succ p k hlt)
      have HE0 := Lib.hid (fun (hz : ordB p p.length (k + 1) = false) => HBad.out (ordB_stop hz hlt))
      obtain ⟨y, hy⟩ : ∃ y, nth p k = y := ⟨_, rfl⟩
      rw [hy] at hcp HS HH
      clear hy
      by_cases hy0 : y < 0
      · have hpl : plB y p.length = false := by unfold plB; simp; omega
        rw [hpl] at HS
        have HE := Lib.hid (HE0.out (by rw [HS.out]; simp))
        clear hpl
        go_wp2
        go_ret
        exact ⟨by rw [HE.out]; rfl, hBr⟩
      by_cases hyn : (p.length : Int) ≤ y
      · have hpl : plB y p.length = false := by unfold plB; simp; omega
        rw [hpl] at HS
        have HE := Lib.hid (HE0.out (by rw [HS.out]; simp))
        clear hpl
        go_wp2
        go_ret
        exact ⟨by rw [HE.out]; rfl, hBr⟩
      have hpl : plB y p.length = true := by unfold plB; simp; omega
      have hwy := place_wf (x := y) (n := p.length) (by omega) (by omega) hl
      rw [hpl] at HS
      have hlook := mM.look y hwy
      cases hhb : hadB p k y with
      | true =>
        rw [hhb] at hlook HS
        have HE := Lib.hid (HE0.out (by rw [HS.out]; simp))
        clear hpl hhb
        go_wp2
        go_ret
        exact ⟨by rw [HE.out]; rfl, hBr⟩
      | false =>
        rw [hhb] at hlook HS
        have HN := Lib.hid (show ordB p p.length (k + 1) = true by rw [HS.out, HOr.out]; rfl)
        obtain ⟨wp, hput, mM', hgp⟩ := mM.put (by unfold maxLen; omega) y hwy
        rw [HH.out] at mM'
        have hBp : Below w.heap.size w wp := hBr.grown hgp hBr.size (fun k e => by cases e; omega)
        clear hpl hhb
        go_wp2
        go_roundw
        case rel => exact ⟨k + 1, by omega, by go_num, HN, mM', hBp⟩
        case measure => simp [intOf]; omega
    · obtain rfl : k = p.length := by omega
      have HE := Lib.hid (HGood.out HOr.out)
      go_wp2
      go_ret
      exact ⟨by rw [HE.out]; rfl, hBr⟩
end Go.Proofs.Ytgicfgpemcagcaa
/- Walks of the specification: a slice appended; Upto, Copy; Iota, Cat. -/
namespace Go.Proofs.Ytgicfgpemcagcaa
set_option linter.unusedVariables false
open Go.RowKit Go.Shelf
theorem Sl.news {w : World} {ad : Addr} {zs : List Int} (h : Sl w (some ad) zs) : ∀ j u, (zs.map (Value.int .i64))[j]? = some u → w.cell? (ad.add j) = some u := by
  intro j u hj
  have hjl : j < zs.length := by
    have := (List.getElem?_eq_some_iff.1 hj).1
    simpa using this
  obtain ⟨b, o, e, hb, hc⟩ := h.at_ hjl
  cases e
  rw [List.getElem?_map, List.getElem?_eq_getElem hjl] at hj
  simp at hj
  subst hj
  rw [nth_eq zs j hjl] at hc
  have he : (⟨b, o, none⟩ : Addr).add j = ⟨b, o + j, none⟩ := by unfold Addr.add; split <;> simp_all
  rw [he]; exact hc
theorem OwnI.app {w : World} {base n m : Nat} {v : Value} {zs ys : List Int} (h : w.ownsRow base 3 1 v (n + m) (zs.map (Value.int .i64) ++ ys.map (Value.int .i64))) (hn : zs.length = n) (hm : ys.length = m) : OwnI w base v (zs ++ ys) := by
  unfold OwnI
  rw [List.length_append, List.map_append, hn, hm]
  exact h
theorem below_app {w wr w1 : World} {base : Nat} {v : Value} {zs : List Int} (hB : Below base w wr) (hb : base ≤ wr.heap.size) (h : OwnI wr base v zs) (hg : wr.grownBy w1 v.ownBlock) : Below base w w1 :=
  hB.grown hg hb (fun k e => (h.lt k e).1)
theorem Sl.nil_of {w : World} {zs : List Int} (h : Sl w none zs) : zs = [] := by
  apply Classical.byContradiction
  intro hne
  obtain ⟨b, o, e, _⟩ := h (List.length_pos_iff.2 hne)
  cases e
set_option maxHeartbeats 4000000 in
theorem upto_any (n : Nat) (w : World) (hn : n ≤ 1048576) : Calls Try.prog 35 #[.int .i64 n] w fun e w' => ∃ A c, e = .returned (.slice A n c) ∧ n ≤ c ∧ (A = none → n = 0 ∧ c = 0) ∧ Sl w' A (upL n) ∧ Below w.heap.size w w' := by
  obtain ⟨i0, hi, hz0, hz1, hz2⟩ := info_parts int_info
  go_enter Try.func35, Try.ntmps35
  go_wp2
  go_loopw [3, 4] (fun v i wr => ∃ (k : Nat) (L : List Int), k ≤ n ∧ i = .int .i64 k ∧ Hid (L = upL k) ∧ L.length = k ∧ OwnI wr w.heap.size v L ∧ Below w.heap.size w wr) (fun _ i _ => n - (intOf i).toNat)
  case atStart => exact ⟨0, [], Nat.zero_le _, rfl, Lib.hid rfl, rfl, OwnI.empty w _ (Nat.le_refl _), (Below.refl _ _).alloc (Nat.le_refl _) _⟩
  case round =>
    obtain ⟨k, L, hk, rfl, HL, hLl, hown, hBr⟩ := hrel
    by_cases hlt : k < n
    · go_wp2_with (at_builtin; refine wpList_append_own _ rfl _ _ 22 rfl w.heap.size 3 i0 (.int .i64 0) 1 8 Try.underlying22 hi hz0 hz1 hz2 rfl (by decide) _ _ _ rfl (hown.alloc _) ⟨wr.heap.size, 0, none⟩ 1 1 [.int .i64 (k : Int)] rfl rfl (cell_one_new _ _ _) (by simp [Value.oneCell']) (by unfold maxLen; omega) (by omega) (by have := hBr.size; simp; omega) ?_; intro v' w2 hown' hgrow _; have hB2 := below_append hBr hBr.size hown hgrow)
      have hown2 := OwnI.snoc hown'
      clear hown' hgrow
      go_roundw
      case rel => exact ⟨k + 1, _, by omega, by go_num, Lib.hid (by rw [HL.out]; simp [upL, mk_succ]), by simp; omega, hown2, hB2⟩
      case measure => simp [intOf]; omega
    · obtain rfl : k = n := by omega
      obtain ⟨A', c', rfl, hcc, hcm, hA', hsl⟩ := hown.form3
      have HE := Lib.hid HL.out.symm
      rw [hLl] at hcc hA'
      go_wp2
      go_ret
      exact ⟨A', c', by first | rfl | (rw [hLl]; rfl), hcc, hA', by rw [HE.out]; exact hsl, hBr⟩
end Go.Proofs.Ytgicfgpemcagcaa
/- Walks of rank: inverse, Inverse, and of the specification: Check, back, Inverse, then. -/
namespace Go.Proofs.Ytgicfgpemcagcaa
set_option linter.unusedVariables false
set_option maxRecDepth 100000
open Go.RowKit Go.Shelf
/-- The places that lead back, after k steps. -/
def bkK (p : List Int) (n : Nat) : Nat → List Int
  | 0 => List.replicate n 0
  | k + 1 => (bkK p n k).set (nth p k).toNat k
def bkL (p : List Int) : List Int := bkK p p.length p.length
theorem bkK_len (p : List Int) (n k : Nat) : (bkK p n k).length = n := by
  induction k with
  | zero => simp [bkK]
  | succ k ih => simp [bkK, ih]
theorem bkL_len (p : List Int) : (bkL p).length = p.length := bkK_len _ _ _
def coL (p q : List Int) : List Int := mk (fun k => nth q (nth p k).toNat) p.length
def coE (p q : List Int) : Int := if chE p = 0 then (if chE q = 0 then (if p.length = q.length then 0 else 6) else chE q) else chE p
set_option maxRecDepth 100000 in
set_option maxHeartbeats 4000000 in
theorem inverse_any (A : Option Addr) (c : Nat) (p : List Int) (w : World) (h : Sl w A p) (hl : p.length ≤ 1048576) (hp : ∀ k, k < p.length → 0 ≤ nth p k ∧ nth p k < p.length) :
    Calls Try.prog 45 #[.slice A p.length c] w (RetS w (bkL p)) := by
  obtain ⟨i0, hi, hz0, hz1, hz2⟩ := info_parts int_info
  have hmk := fun W => run_make_row (P := Try.prog) 22 3 i0 (.int .i64 0) Try.underlying22 hi hz0 hz1 rfl .i64 .i64 p.length (by rw [hz2]; omega) (by omega) W
  have fR := Full.made w p.length (by unfold maxLen; omega)
  have hB1 := (Below.refl w.heap.size w).alloc (Nat.le_refl _) (.cells (madeCells #[.int .i64 0] p.length) 3)
  have HP := Lib.hid hp
  clear hp
  go_enter Try.func45, Try.ntmps45
  go_wp2
  go_loopw [11] (fun i wr => ∃ k : Nat, k ≤ p.length ∧ i = .int .i64 k ∧ Full wr w.heap.size (bkK p p.length k) ∧ Below w.heap.size w wr) (fun i _ => p.length - (intOf i).toNat)
  case atStart => exact ⟨0, Nat.zero_le _, rfl, fR, hB1⟩
  case round =>
    clear fR hB1 hmk
    obtain ⟨k, hk, rfl, fR, hBr⟩ := hrel
    by_cases hlt : k < p.length
    · obtain ⟨bp, op, rfl, hbp, hcp⟩ := (h.step hBr).at_ hlt
      have k3 : (0 : Int) ≤ (k : Int) := by omega
      have k4 : (k : Int) < (p.length : Int) := by omega
      obtain ⟨q0, q1⟩ := HP.out k hlt
      have HK : Hid (bkK p p.length (k + 1) = (bkK p p.length k).set (nth p k).toNat k) := Lib.hid rfl
      have HL := Lib.hid (bkK_len p p.length k)
      obtain ⟨j, hj⟩ : ∃ j : Nat, nth p k = (j : Int) := ⟨(nth p k).toNat, by omega⟩
      rw [hj] at hcp HK q1
      rw [Int.toNat_natCast] at HK
      clear hj q0
      have hj : j < p.length := by omega
      have k6 : (0 : Int) ≤ (j : Int) := by omega
      have dR := fR.cell j (by rw [HL.out]; exact hj)
      have fr := fR.frozen j
      go_wp2
      go_roundw
      case rel => exact ⟨k + 1, by omega, by go_num, (by rw [HK.out]; exact fR.set_ j k), hBr.setCell (p := ⟨w.heap.size, j, none⟩) (Nat.le_refl _) _⟩
      case measure => simp [intOf]; omega
    · obtain rfl : k = p.length := by omega
      have HL := Lib.hid (bkK_len p p.length p.length)
      go_wp2
      go_ret
      exact ⟨some ⟨w.heap.size, 0, none⟩, p.length, by unfold bkL; rw [HL.out]; rfl, by unfold bkL; rw [HL.out]; exact Nat.le_refl _, fR.sl, hBr⟩
set_option maxRecDepth 100000 in
set_option maxHeartbeats 4000000 in
theorem Inverse_any (A : Option Addr) (c : Nat) (p : List Int) (w : World) (h : Sl w A p) (kp : Ok p) :
    Calls Try.prog 13 #[.slice A p.length c] w (RetL w (orL (chE p) (bkL p)) (chE p)) := by
  have C1 := chk_any A c p w h kp
  by_cases he : chE p = 0
  · obtain ⟨hl, ho⟩ := chE_ok he
    have C2 := Lib.hid (fun W hW => inverse_any A c p W hW hl (fun k hk => ordB_at ho k hk))
    rw [he] at C1
    rw [he, orL_ok]
    have C1 := Lib.hid C1
    clear he ho
    go_enter Try.func13, Try.ntmps13
    go_wp2_with fail
    refine C1.out.mono ?_
    rintro e w1 ⟨rfl, hB⟩
    go_wp2_with fail
    refine (C2.out _ (h.step hB)).mono ?_
    rintro e w2 ⟨A2, c2, rfl, hc2, h2, hBx⟩
    go_wp2
    go_ret2
    exact ⟨A2, c2, rfl, hc2, h2, hB.trans (hBx.mono hB.size)⟩
  · have hd : (chE p != 0) = true := by rw [bne_iff_ne]; exact he
    have C1 := Lib.hid C1
    have HE := Lib.hid he
    clear he
    go_enter Try.func13, Try.ntmps13
    go_wp2_with fail
    refine C1.out.mono ?_
    rintro e w1 ⟨rfl, hB⟩
    go_wp2
    go_ret2
    exact retL_none HE.out hB
set_option maxRecDepth 100000 in
set_option maxHeartbeats 4000000 in
theorem rchk_any (A : Option Addr) (c : Nat) (p : List Int) (w : World) (h : Sl w A p) (kp : Ok p) :
    Calls Try.prog 18 #[.slice A p.length c] w (RetV w (.int .i64 (chE p))) := by
  by_cases hl : p.length ≤ 1048576
  case neg =>
    have hl' : (1048576 : Int) < (p.length : Int) := by omega
    rw [chE_long hl]
    go_enter Try.func18, Try.ntmps18
    go_wp2
    go_ret
    exact ⟨rfl, Below.refl _ _⟩
  have hl' : ¬ ((1048576 : Int) < (p.length : Int)) := by omega
  have C1 := order_any A c p p.length w h hl rfl
  cases ho : ordB p p.length p.length with
  | true =>
    rw [ho] at C1
    rw [chE_good hl ho]
    have C1 := Lib.hid C1
    clear ho
    go_enter Try.func18, Try.ntmps18
    go_wp2_with fail
    refine C1.out.mono ?_
    rintro e w1 ⟨rfl, hB⟩
    go_wp2
    go_ret
    exact ⟨rfl, hB⟩
  | false =>
    rw [ho] at C1
    rw [chE_bad hl ho]
    have C1 := Lib.hid C1
    clear ho
    go_enter Try.func18, Try.ntmps18
    go_wp2_with fail
    refine C1.out.mono ?_
    rintro e w1 ⟨rfl, hB⟩
    go_wp2
    go_ret
    exact ⟨rfl, hB⟩
set_option maxRecDepth 100000 in
set_option maxHeartbeats 4000000 in
theorem rback_any (A : Option Addr) (c : Nat) (p : List Int) (w : World) (h : Sl w A p) (hl : p.length ≤ 1048576) (hp : ∀ k, k < p.length → 0 ≤ nth p k ∧ nth p k < p.length) :
    Calls Try.prog 46 #[.slice A p.length c] w (RetS w (bkL p)) := by
  obtain ⟨i0, hi, hz0, hz1, hz2⟩ := info_parts int_info
  have hmk := fun W => run_make_row (P := Try.prog) 22 3 i0 (.int .i64 0) Try.underlying22 hi hz0 hz1 rfl .i64 .i64 p.length (by rw [hz2]; omega) (by omega) W
  have fR := Full.made w p.length (by unfold maxLen; omega)
  have hB1 := (Below.refl w.heap.size w).alloc (Nat.le_refl _) (.cells (madeCells #[.int .i64 0] p.length) 3)
  have HP := Lib.hid hp
  clear hp
  go_enter Try.func46, Try.ntmps46
  go_wp2
  go_loopw [4] (fun i wr => ∃ k : Nat, k ≤ p.length ∧ i = .int .i64 k ∧ Full wr w.heap.size (bkK p p.length k) ∧ Below w.heap.size w wr) (fun i _ => p.length - (intOf i).toNat)
  case atStart => exact ⟨0, Nat.zero_le _, rfl, fR, hB1⟩
  case round =>
    clear fR hB1 hmk
    obtain ⟨k, hk, rfl, fR, hBr⟩ := hrel
    by_cases hlt : k < p.length
    · obtain ⟨bp, op, rfl, hbp, hcp⟩ := (h.step hBr).at_ hlt
      have k3 : (0 : Int) ≤ (k : Int) := by omega
      have k4 : (k : Int) < (p.length : Int) := by omega
      obtain ⟨q0, q1⟩ := HP.out k hlt
      have HK : Hid (bkK p p.length (k + 1) = (bkK p p.length k).set (nth p k).toNat k) := Lib.hid rfl
      have HL := Lib.hid (bkK_len p p.length k)
      obtain ⟨j, hj⟩ : ∃ j : Nat, nth p k = (j : Int) := ⟨(nth p k).toNat, by omega⟩
      rw [hj] at hcp HK q1
      rw [Int.toNat_natCast] at HK
      clear hj q0
      have hj : j < p.length := by omega
      have k6 : (0 : Int) ≤ (j : Int) := by omega
      have dR := fR.cell j (by rw [HL.out]; exact hj)
      have fr := fR.frozen j
      go_wp2
      go_roundw
      case rel => exact ⟨k + 1, by omega, by go_num, (by rw [HK.out]; exact fR.set_ j k), hBr.setCell (p := ⟨w.heap.size, j, none⟩) (Nat.le_refl _) _⟩
      case measure => simp [intOf]; omega
    · obtain rfl : k = p.length := by omega
      have HL := Lib.hid (bkK_len p p.length p.length)
      go_wp2
      go_ret
      exact ⟨some ⟨w.heap.size, 0, none⟩, p.length, by unfold bkL; rw [HL.out]; rfl, by unfold bkL; rw [HL.out]; exact Nat.le_refl _, fR.sl, hBr⟩
set_option maxRecDepth 100000 in
set_option maxHeartbeats 4000000 in
theorem rInverse_any (A : Option Addr) (c : Nat) (p : List Int) (w : World) (h : Sl w A p) (kp : Ok p) :
    Calls Try.prog 14 #[.slice A p.length c] w (RetL w (orL (chE p) (bkL p)) (chE p)) := by
  have C1 := rchk_any A c p w h kp
  by_cases he : chE p = 0
  · obtain ⟨hl, ho⟩ := chE_ok he
    have C2 := Lib.hid (fun W hW => rback_any A c p W hW hl (fun k hk => ordB_at ho k hk))
    rw [he] at C1
    rw [he, orL_ok]
    have C1 := Lib.hid C1
    clear he ho
    go_enter Try.func14, Try.ntmps14
    go_wp2_with fail
    refine C1.out.mono ?_
    rintro e w1 ⟨rfl, hB⟩
    go_wp2_with fail
    refine (C2.out _ (h.step hB)).mono ?_
    rintro e w2 ⟨A2, c2, rfl, hc2, h2, hBx⟩
    go_wp2
    go_ret2
    exact ⟨A2, c2, rfl, hc2, h2, hB.trans (hBx.mono hB.size)⟩
  · have hd : (chE p != 0) = true := by rw [bne_iff_ne]; exact he
    have C1 := Lib.hid C1
    have HE := Lib.hid he
    clear he
    go_enter Try.func14, Try.ntmps14
    go_wp2_with fail
    refine C1.out.mono ?_
    rintro e w1 ⟨rfl, hB⟩
    go_wp2
    go_ret2
    exact retL_none HE.out hB
set_option maxRecDepth 100000 in
set_option maxHeartbeats 4000000 in
theorem rthen_any (A A' : Option Addr) (c c' : Nat) (p q : List Int) (w : World) (h : Sl w A p) (h' : Sl w A' q) (hl : p.length ≤ 1048576) (hlq : q.length ≤ 1048576) (hp : ∀ k, k < p.length → 0 ≤ nth p k ∧ nth p k < q.length) :
    Calls Try.prog 47 #[.slice A p.length c, .slice A' q.length c'] w (RetS w (coL p q)) := by
  obtain ⟨i0, hi, hz0, hz1, hz2⟩ := info_parts int_info
  have HP := Lib.hid hp
  clear hp
  go_enter Try.func47, Try.ntmps47
  go_wp2
  go_loopw [5, 6] (fun v i wr => ∃ (k : Nat) (L : List Int), k ≤ p.length ∧ i = .int .i64 k ∧ Hid (L = mk (fun k => nth q (nth p k).toNat) k) ∧ L.length = k ∧ OwnI wr w.heap.size v L ∧ Below w.heap.size w wr) (fun _ i _ => p.length - (intOf i).toNat)
  case atStart => exact ⟨0, [], Nat.zero_le _, rfl, Lib.hid rfl, rfl, OwnI.empty w _ (Nat.le_refl _), (Below.refl _ _).alloc (Nat.le_refl _) _⟩
  case round =>
    obtain ⟨k, L, hk, rfl, HL, hLl, hown, hBr⟩ := hrel
    by_cases hlt : k < p.length
    · obtain ⟨bp, op, rfl, hbp, hcp⟩ := (h.step hBr).at_ hlt
      have k3 : (0 : Int) ≤ (k : Int) := by omega
      have k4 : (k : Int) < (p.length : Int) := by omega
      obtain ⟨q0, q1⟩ := HP.out k hlt
      have HK : Hid (mk (fun k => nth q (nth p k).toNat) (k + 1) = L ++ [nth q (nth p k).toNat]) := Lib.hid (by rw [HL.out, mk_succ])
      obtain ⟨j, hj⟩ : ∃ j : Nat, nth p k = (j : Int) := ⟨(nth p k).toNat, by omega⟩
      rw [hj] at hcp q1 HK
      rw [Int.toNat_natCast] at HK
      clear hj q0
      have hj : j < q.length := by omega
      have k6 : (0 : Int) ≤ (j : Int) := by omega
      obtain ⟨bq, oq, rfl, hbq, hcq⟩ := (h'.step hBr).at_ hj
      obtain ⟨x, hx⟩ : ∃ x, nth q j = x := ⟨_, rfl⟩
      rw [hx] at hcq HK
      clear hx
      go_wp2_with (at_builtin; refine wpList_append_own _ rfl _ _ 22 rfl w.heap.size 3 i0 (.int .i64 0) 1 8 Try.underlying22 hi hz0 hz1 hz2 rfl (by decide) _ _ _ rfl (hown.alloc _) ⟨wr.heap.size, 0, none⟩ 1 1 [.int .i64 x] rfl rfl (cell_one_new _ _ _) (by simp [Value.oneCell']) (by unfold maxLen; omega) (by omega) (by have := hBr.size; simp; omega) ?_; intro v' w2 hown' hgrow _; have hB2 := below_append hBr hBr.size hown hgrow)
      have hown2 := OwnI.snoc hown'
      clear hown' hgrow
      go_roundw
      case rel => exact ⟨k + 1, L ++ [x], by omega, by go_num, Lib.hid HK.out.symm, by simp; omega, hown2, hB2⟩
      case measure => simp [intOf]; omega
    · obtain rfl : k = p.length := by omega
      obtain ⟨A2, c2, rfl, hcc, hcm, hA', hsl⟩ := hown.form3
      have HE : Hid (L = coL p q) := Lib.hid HL.out
      go_wp2
      go_ret
      exact ⟨A2, c2, by rw [← HE.out]; rfl, by rw [← HE.out]; exact hcc, by rw [← HE.out]; exact hsl, hBr⟩
end Go.Proofs.Ytgicfgpemcagcaa
