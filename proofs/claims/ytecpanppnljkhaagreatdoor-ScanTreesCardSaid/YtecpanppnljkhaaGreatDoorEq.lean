/- Walks of scan: the levels of a tree as a slice. -/
import Derived.Test.YtecpanppnljkhaaGreatDoorEo
import Derived.Test.YtecpanppnljkhaaGreatDoorEd
import Derived.Test.YtecpanppnljkhaaGreatDoorShelf
import Derived.Lib.BitFns
namespace Go.Proofs.YtecpanppnljkhaaGreatDoor
set_option linter.unusedVariables false
set_option maxRecDepth 100000
open Go.RowKit Go.Shelf
theorem TreeAt.lower {w : World} {base m g : Nat} {vs : Nat → Value} {LV : Nat → List Int} (h : TreeAt w base g vs LV) (hm : m ≤ base) : TreeAt w m g vs LV :=
  ⟨h.blk, ⟨fun i hi => ⟨(h.rows.own i hi).1, (h.rows.own i hi).2.imp id (fun ⟨q, cap, cur, e, hb, r⟩ => ⟨q, cap, cur, e, Nat.le_trans hm hb, r⟩)⟩, h.rows.pt⟩⟩
/-- The levels that are there. -/
def lvs (f : Int → Int → Int) (a : List Int) (d : Nat) : List (List Int) := (List.range (d + 1)).map (lvK f a)
theorem lvs_len (f : Int → Int → Int) (a : List Int) (d : Nat) : (lvs f a d).length = d + 1 := by simp [lvs]
theorem lvs_nth (f : Int → Int → Int) (a : List Int) (d j : Nat) (h : j < d + 1) : nthL (lvs f a d) j = lvK f a j := by
  rw [nthL_eq _ _ (by rw [lvs_len]; exact h)]
  simp [lvs]
theorem tree_sll {w : World} {base g d : Nat} {vs : Nat → Value} {f : Int → Int → Int} {a : List Int} (h : TreeAt w base g vs (lvK f a)) (hd : d ≤ 20) : Sll w (some ⟨g, 0, none⟩) (lvs f a d) := fun _ =>
  ⟨g, 0, rfl, h.blk.lt, fun j hj => by
    rw [lvs_len] at hj
    obtain ⟨A, c, e, h1, h2⟩ := (h.own (show j < 21 by omega)).form
    rw [lvs_nth f a d j hj, Nat.zero_add]
    exact ⟨A, c, by rw [h.cell (show j < 21 by omega), e], h1, h2⟩⟩
theorem bitLen_pow (d : Nat) (hd : d ≤ 20) : Lib.bitLen (2 ^ d) = d + 1 := by
  have : 2 ^ d ≤ 2 ^ 20 := Nat.pow_le_pow_right (by omega) hd
  rw [Lib.bitLen_shift d (2 ^ d) (Nat.le_refl _) (by omega), Nat.div_self (Nat.two_pow_pos d)]
  rfl
theorem treeLen : Tryz.prog.arrayLen 109 = 21 := by kernel_rfl
set_option maxHeartbeats 4000000 in
theorem treeLists_any (g d base : Nat) (vs : Nat → Value) (f : Int → Int → Int) (a : List Int) (w : World) (hd : d ≤ 20) (ha : a.length = 2 ^ d) (h : TreeAt w base g vs (lvK f a)) :
    Calls Tryz.prog 55 #[.pointer (some ⟨g, 0, none⟩)] w fun e w' => e = .returned (.slice (some ⟨g, 0, none⟩) (d + 1) (d + 1)) ∧ w' = w := by
  have hp : 2 ^ d ≤ 1048576 := by
    have : 2 ^ d ≤ 2 ^ 20 := Nat.pow_le_pow_right (by omega) hd
    omega
  have C1 := Tryz.bits_Len ((2 ^ d : Nat) : Int) w (by omega) (by omega)
  rw [Int.toNat_natCast, bitLen_pow d hd] at C1
  obtain ⟨A, c, e, h1, h2⟩ := (h.own (show 0 < 21 by omega)).form
  have c0 := h.cell (show 0 < 21 by omega)
  rw [e, show (lvK f a 0).length = 2 ^ d from ha] at c0
  have hT := treeLen
  obtain ⟨n, hn⟩ : ∃ n, 2 ^ d = n := ⟨_, rfl⟩
  rw [hn] at c0 C1 hp
  obtain ⟨m, hm⟩ : ∃ m, d + 1 = m := ⟨_, rfl⟩
  rw [hm] at C1 ⊢
  have hm1 : (m : Int) ≤ 21 := by omega
  have hm2 : (0 : Int) ≤ (m : Int) := by omega
  have hm3 : m ≤ 21 := by omega
  have hw : IntKind.u64.wrap (n : Int) = (n : Int) := by unfold IntKind.wrap; simp [IntKind.signed, IntKind.bits]; omega
  have C1 := Lib.hid C1
  clear h hn hm h1 h2 e ha
  go_enter Tryz.func55, Tryz.ntmps55
  go_wp2_with (first | (go_at_call 85; refine C1.out.mono ?_; rintro e wx ⟨rfl, e1⟩; have e1 := e1.symm; subst e1) | fail)
  go_ret
  exact ⟨rfl, rfl⟩
/-- How many levels there are above the first one. -/
def IsD (n d : Nat) : Prop := n ≤ 2 ^ d ∧ (∀ j, j < d → 2 ^ j < n) ∧ d ≤ 20
theorem exD (n : Nat) (h : n ≤ 1048576) : ∃ d, IsD n d := by
  have key : ∀ m, m ≤ 20 → n ≤ 2 ^ m → ∃ d, d ≤ m ∧ n ≤ 2 ^ d ∧ ∀ j, j < d → 2 ^ j < n := by
    intro m
    induction m with
    | zero => exact fun _ h => ⟨0, Nat.le_refl _, h, fun j hj => by omega⟩
    | succ m ih =>
      intro hm hn
      by_cases h1 : n ≤ 2 ^ m
      · obtain ⟨d, h2, h3⟩ := ih (by omega) h1
        exact ⟨d, by omega, h3⟩
      · refine ⟨m + 1, Nat.le_refl _, hn, fun j hj => ?_⟩
        have : 2 ^ j ≤ 2 ^ m := Nat.pow_le_pow_right (by omega) (by omega)
        omega
  obtain ⟨d, h1, h2, h3⟩ := key 20 (Nat.le_refl _) h
  exact ⟨d, h2, h3, h1⟩
def padL (x : Int) (d : Nat) (l : List Int) : List Int := l ++ List.replicate (2 ^ d - l.length) x
theorem padL_len {x : Int} {d : Nat} {l : List Int} (h : IsD l.length d) : (padL x d l).length = 2 ^ d := by
  have := h.1
  unfold padL; rw [List.length_append, List.length_replicate]; omega
set_option maxHeartbeats 4000000 in
theorem levels_ok (op : Int) (d : Nat) (A : Option Addr) (c : Nat) (l : List Int) (w : World) (hI : Inv w) (h : Sl w A l) (hcl : l.length ≤ c) (k : Ok l) (hd : IsD l.length d) (he : cE op [l] = 0) :
    Calls Tryz.prog 19 #[.int .i64 op, .slice A l.length c] w fun e w' => ∃ G vs, e = .returned (.tuple #[.slice (some ⟨G, 0, none⟩) (d + 1) (d + 1), .int .i64 0]) ∧ TreeAt w' w.heap.size G vs (lvK (doN op) (padL (neN op) d l)) ∧ Below w.heap.size w w' := by
  have bA := Blk.new w 22 #[.slice A l.length c]
  have hB0 : Below w.heap.size w (w.alloc (.cells #[.slice A l.length c] 22)) := (Below.refl _ _).alloc (Nat.le_refl _) _
  have C1 := checked_any op (some ⟨w.heap.size, 0, none⟩) 1 [l] _ (hI.below hB0) (sll1 bA (h.step hB0) hcl) (by simp) (allShort_of (by unfold Ok at k; simpa using k))
  rw [he] at C1
  have C1 := Lib.hid C1
  have HA := Lib.hid (padL_len (x := neN op) hd)
  have HD := Lib.hid hd
  clear hd he
  go_enter Tryz.func19, Tryz.ntmps19
  go_wp2_with fail
  refine C1.out.mono ?_
  rintro e w1 ⟨n, f, rfl, hB, hg, hz⟩
  obtain ⟨rfl, g, rfl, hgl, hgb⟩ := hg rfl
  clear hz
  have hB1 := hB0.trans (hB.mono (by simp))
  have hsz := hB.size
  simp at hsz hgl
  have hB2 := hB1.alloc (by omega) (.cells #[.int .i64 (neN op), .func (.func 87) #[] #[.pointer (some ⟨g, 0, none⟩)]] 58)
  have hgb2 := hgb.alloc (.cells #[.int .i64 (neN op), .func (.func 87) #[] #[.pointer (some ⟨g, 0, none⟩)]] 58)
  have b6 := Blk.new w1 58 #[.int .i64 (neN op), .func (.func 87) #[] #[.pointer (some ⟨g, 0, none⟩)]]
  have k60 := b6.cell 0
  have k61 := b6.cell 1
  simp at k60 k61
  have C2 := treeOf_any op (neN op) g d A c l _ hgb2 (h.step hB2) hcl HD.out.1 HD.out.2.1 HD.out.2.2
  have C2 := Lib.hid C2
  go_wp2_with fail
  refine C2.out.mono ?_
  rintro e w2 ⟨G, vs, rfl, hG, hT, hBd⟩
  have C3 := Lib.hid (treeLists_any G d _ vs (doN op) (padL (neN op) d l) w2 HD.out.2.2 HA.out hT)
  have hB3 := hB2.trans (hBd.mono hB2.size)
  have hTl : TreeAt w2 w.heap.size G vs (lvK (doN op) (padL (neN op) d l)) := hT.lower hB2.size
  go_wp2_with fail
  refine C3.out.mono ?_
  rintro e w3 ⟨rfl, e1⟩
  have e1 := e1.symm
  subst e1
  go_wp2
  go_ret2
  exact ⟨G, vs, rfl, hTl, hB3⟩
set_option maxHeartbeats 4000000 in
theorem levels_err (op : Int) (A : Option Addr) (c : Nat) (l : List Int) (w : World) (hI : Inv w) (h : Sl w A l) (hcl : l.length ≤ c) (k : Ok l) (hc : cE op [l] ≠ 0) :
    Calls Tryz.prog 19 #[.int .i64 op, .slice A l.length c] w fun e w' => e = .returned (.tuple #[.slice none 0 0, .int .i64 (cE op [l])]) ∧ Below w.heap.size w w' := by
  have bA := Blk.new w 22 #[.slice A l.length c]
  have hB0 : Below w.heap.size w (w.alloc (.cells #[.slice A l.length c] 22)) := (Below.refl _ _).alloc (Nat.le_refl _) _
  have C1 := checked_any op (some ⟨w.heap.size, 0, none⟩) 1 [l] _ (hI.below hB0) (sll1 bA (h.step hB0) hcl) (by simp) (allShort_of (by unfold Ok at k; simpa using k))
  have hd : (cE op [l] != 0) = true := by rw [bne_iff_ne]; exact hc
  have HE := Lib.hid hc
  obtain ⟨y, hy⟩ : ∃ y, cE op [l] = y := ⟨_, rfl⟩
  rw [hy] at C1 hd HE ⊢
  have C1 := Lib.hid C1
  clear hc hy
  go_enter Tryz.func19, Tryz.ntmps19
  go_wp2_with fail
  refine C1.out.mono ?_
  rintro e w1 ⟨n, f, rfl, hB, hg, hz⟩
  obtain ⟨rfl, rfl⟩ := hz HE.out
  clear hg hz
  have hB1 := hB0.trans (hB.mono (by simp))
  have hsz := hB.size
  simp at hsz
  have hB2 := hB1.alloc (by omega) (.cells #[.int .i64 0, .nilFunc] 58)
  go_wp2
  go_ret2
  exact ⟨rfl, hB2⟩
end Go.Proofs.YtecpanppnljkhaaGreatDoor
