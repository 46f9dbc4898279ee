/- Walks of scan: slices.Equal and slices.EqualFunc. -/
import Derived.Test.YtecpanppnljkhaaGreatDoorEm
import Derived.Test.YtecpanppnljkhaaGreatDoorEb
import Derived.Test.YtecpanppnljkhaaGreatDoorQp
namespace Go.Proofs.YtecpanppnljkhaaGreatDoor
set_option linter.unusedVariables false
set_option maxRecDepth 100000
open Go.RowKit Go.Shelf
/-- The first k are alike. -/
def eqK (a b : List Int) (k : Nat) : Prop := ∀ j, j < k → nth a j = nth b j
theorem eq_of {a b : List Int} (hl : a.length = b.length) (h : eqK a b a.length) : a = b := by
  apply List.ext_getElem hl
  intro i h1 h2
  rw [← nth_eq a i h1, ← nth_eq b i h2]
  exact h i h1
theorem ne_of {a b : List Int} {k : Nat} (h : nth a k ≠ nth b k) : a ≠ b := fun e => h (by rw [e])
set_option maxHeartbeats 4000000 in
theorem equal_any (A B : Option Addr) (c c' : Nat) (a b : List Int) (w : World) (h : Sl w A a) (h' : Sl w B b) (ha : a.length ≤ 9223372036854775807) (hb : b.length ≤ 9223372036854775807) :
    Calls Tryz.prog 90 #[.slice A a.length c, .slice B b.length c'] w (Drew w (.bool (decide (a = b)))) := by
  by_cases hl : a.length = b.length
  · have hd : ((a.length : Int) != (b.length : Int)) = false := by rw [hl]; simp
    have HL := Lib.hid hl
    go_enter Tryz.func90, Tryz.ntmps90
    rw [← hl]
    clear hl hd
    go_wp2
    go_loopw [13] (fun i wr => ∃ (k m : Nat), k ≤ a.length ∧ i = .int .i64 k ∧ wr = w.drewN m ∧ Hid (eqK a b k)) (fun i _ => a.length - (intOf i).toNat)
    case atStart => exact ⟨0, 0, Nat.zero_le _, rfl, rfl, Lib.hid fun j hj => by omega⟩
    case round =>
      obtain ⟨k, m, hk, rfl, rfl, HQ⟩ := hrel
      by_cases hlt : k < a.length
      · obtain ⟨b1, o1, rfl, _, hc1⟩ := h.at_ hlt
        obtain ⟨b2, o2, rfl, _, hc2⟩ := h'.at_ (show k < b.length by have := HL.out; omega)
        have k1 : (0 : Int) ≤ (k : Int) := by omega
        have k2 : (k : Int) < (a.length : Int) := by omega
        obtain ⟨x, hx⟩ : ∃ x, nth a k = x := ⟨_, rfl⟩
        obtain ⟨y, hy⟩ : ∃ y, nth b k = y := ⟨_, rfl⟩
        rw [hx] at hc1
        rw [hy] at hc2
        have HX := Lib.hid hx
        have HY := Lib.hid hy
        clear hx hy
        have q1 : (w.drewN m).cell? ⟨b1, o1 + k, none⟩ = some (.int .i64 x) := hc1
        have q2 : (w.drewN m).cell? ⟨b2, o2 + k, none⟩ = some (.int .i64 y) := hc2
        go_wp2
        refine wp_region_mix' (fun W' => W'.cell? ⟨b1, o1 + k, none⟩ = some (.int .i64 x) ∧ W'.cell? ⟨b2, o2 + k, none⟩ = some (.int .i64 y)) [false, false, false, false, false, false, false, false] (by kernel_rfl) (by kernel_rfl) ⟨hc1, hc2⟩ ?_
        simp only [mixT, mixH, mixD]
        iterate 8 (refine wpLts_light ?_ (fun W' hW => ?_) ?_; rotate_left; (obtain ⟨q0, q1⟩ := hW; go_simp; try with_reducible rfl); simp only [Act.put, List.setIfInBounds_toArray, List.set_cons_zero, List.set_cons_succ])
        refine wpLts_nil (wpHvP_nil ?_)
        by_cases hxy : x = y
        · subst hxy
          go_wp2
          go_roundw
          case rel => exact ⟨k + 1, m + 1, by omega, by go_num, by first | rfl | exact (World.drewN_drewN _ _ _).symm | (simp [World.drewN_add]; done), Lib.hid fun j hj => by
                by_cases e : j = k
                · subst e; rw [HX.out, HY.out]
                · exact HQ.out j (by omega)⟩
          case measure => simp [intOf]; omega
        · have hne : (x != y) = true := by rw [bne_iff_ne]; exact hxy
          have HD : Hid (decide (a = b) = false) := Lib.hid (decide_eq_false (ne_of (k := k) (by rw [HX.out, HY.out]; exact hxy)))
          clear hxy
          go_wp2
          go_ret
          exact ⟨ret_bool HD.out.symm, m + 1, by first | rfl | exact (World.drewN_drewN _ _ _).symm | (simp [World.drewN_add]; done)⟩
      · obtain rfl : k = a.length := by omega
        have HD : Hid (decide (a = b) = true) := Lib.hid (decide_eq_true (eq_of HL.out HQ.out))
        go_wp2
        go_ret
        exact ⟨ret_bool HD.out.symm, m, rfl⟩
  · have hd : ((a.length : Int) != (b.length : Int)) = true := by rw [bne_iff_ne]; omega
    have HD : Hid (decide (a = b) = false) := Lib.hid (decide_eq_false (fun e => hl (by rw [e])))
    clear hl
    go_enter Tryz.func90, Tryz.ntmps90
    go_wp2
    go_ret
    exact ⟨ret_bool HD.out.symm, 0, rfl⟩
/-- The first k lists are alike. -/
def eqKL (a b : List (List Int)) (k : Nat) : Prop := ∀ j, j < k → nthL a j = nthL b j
theorem eqL_of {a b : List (List Int)} (hl : a.length = b.length) (h : eqKL a b a.length) : a = b := by
  apply List.ext_getElem hl
  intro i h1 h2
  rw [← nthL_eq a i h1, ← nthL_eq b i h2]
  exact h i h1
theorem neL_of {a b : List (List Int)} {k : Nat} (h : nthL a k ≠ nthL b k) : a ≠ b := fun e => h (by rw [e])
set_option maxHeartbeats 4000000 in
theorem equalFunc_any (A B : Option Addr) (c c' : Nat) (a b : List (List Int)) (w : World) (h : Sll w A a) (h' : Sll w B b) (ha : a.length ≤ 9223372036854775807) (hb : b.length ≤ 9223372036854775807) (sa : AllShort a) (sb : AllShort b) :
    Calls Tryz.prog 89 #[.slice A a.length c, .slice B b.length c', .func (.func 90) #[] #[]] w (Drew w (.bool (decide (a = b)))) := by
  by_cases hl : a.length = b.length
  · have hd : ((a.length : Int) != (b.length : Int)) = false := by rw [hl]; simp
    have HL := Lib.hid hl
    go_enter Tryz.func89, Tryz.ntmps89
    rw [← hl]
    clear hl hd
    go_wp2
    go_loopw [17] (fun i wr => ∃ (k m : Nat), k ≤ a.length ∧ i = .int .i64 k ∧ wr = w.drewN m ∧ Hid (eqKL a b k)) (fun i _ => a.length - (intOf i).toNat)
    case atStart => exact ⟨0, 0, Nat.zero_le _, rfl, rfl, Lib.hid fun j hj => by omega⟩
    case round =>
      obtain ⟨k, m, hk, rfl, rfl, HQ⟩ := hrel
      by_cases hlt : k < a.length
      · have hlt' : k < b.length := by have := HL.out; omega
        obtain ⟨b1, o1, rfl, _, hcA⟩ := h (by omega)
        obtain ⟨b2, o2, rfl, _, hcB⟩ := h' (by omega)
        obtain ⟨A1, c1, q1, hc1, s1⟩ := hcA k hlt
        obtain ⟨A2, c2, q2, hc2, s2⟩ := hcB k hlt'
        have C1 := equal_any A1 A2 c1 c2 (nthL a k) (nthL b k) (w.drewN m) s1 s2 (sa k hlt) (sb k hlt')
        have k1 : (0 : Int) ≤ (k : Int) := by omega
        have k2 : (k : Int) < (a.length : Int) := by omega
        have k3 : (k : Int) < (b.length : Int) := by omega
        obtain ⟨x, hx⟩ : ∃ x, nthL a k = x := ⟨_, rfl⟩
        obtain ⟨y, hy⟩ : ∃ y, nthL b k = y := ⟨_, rfl⟩
        rw [hx] at q1 C1
        rw [hy] at q2 C1
        have HX := Lib.hid hx
        have HY := Lib.hid hy
        clear hx hy hcA hcB s1 s2 hc1 hc2
        have q1' : (w.drewN m).cell? ⟨b1, o1 + k, none⟩ = some (.slice A1 x.length c1) := q1
        have q2' : (w.drewN m).cell? ⟨b2, o2 + k, none⟩ = some (.slice A2 y.length c2) := q2
        by_cases hxy : x = y
        · rw [decide_eq_true hxy] at C1
          have C1 := Lib.hid C1
          have HE := Lib.hid hxy
          clear hxy
          go_wp2_with fail
          refine C1.out.mono ?_
          rintro e w' ⟨rfl, m', rfl⟩
          go_wp2
          go_roundw
          case rel => exact ⟨k + 1, _, by omega, by go_num, by first | rfl | exact (World.drewN_drewN _ _ _).symm | (simp [World.drewN_add]; done), Lib.hid fun j hj => by
                by_cases e : j = k
                · subst e; rw [HX.out, HY.out, HE.out]
                · exact HQ.out j (by omega)⟩
          case measure => simp [intOf]; omega
        · rw [decide_eq_false hxy] at C1
          have C1 := Lib.hid C1
          have HD : Hid (decide (a = b) = false) := Lib.hid (decide_eq_false (neL_of (k := k) (by rw [HX.out, HY.out]; exact hxy)))
          clear hxy
          go_wp2_with fail
          refine C1.out.mono ?_
          rintro e w' ⟨rfl, m', rfl⟩
          go_wp2
          go_ret
          exact ⟨ret_bool HD.out.symm, _, by first | rfl | exact (World.drewN_drewN _ _ _).symm | (simp [World.drewN_add]; done)⟩
      · obtain rfl : k = a.length := by omega
        have HD : Hid (decide (a = b) = true) := Lib.hid (decide_eq_true (eqL_of HL.out HQ.out))
        go_wp2
        go_ret
        exact ⟨ret_bool HD.out.symm, m, rfl⟩
  · have hd : ((a.length : Int) != (b.length : Int)) = true := by rw [bne_iff_ne]; omega
    have HD : Hid (decide (a = b) = false) := Lib.hid (decide_eq_false (fun e => hl (by rw [e])))
    clear hl
    go_enter Tryz.func89, Tryz.ntmps89
    go_wp2
    go_ret
    exact ⟨ret_bool HD.out.symm, 0, rfl⟩
end Go.Proofs.YtecpanppnljkhaaGreatDoor
