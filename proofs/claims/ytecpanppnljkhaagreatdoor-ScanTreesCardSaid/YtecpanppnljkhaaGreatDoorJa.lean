/- Walks of scan: takeOut. -/
import Derived.Test.YtecpanppnljkhaaGreatDoorEq
namespace Go.Proofs.YtecpanppnljkhaaGreatDoor
set_option linter.unusedVariables false
set_option maxRecDepth 100000
open Go.RowKit Go.Shelf
/-- The levels where the place p counts one less on the first k of them. -/
def outK (LV : Nat → List Int) (p k : Nat) (j : Nat) : List Int := if j < k then (LV j).set (p / 2 ^ j) (nth (LV j) (p / 2 ^ j) - 1) else LV j
theorem outK_zero (LV : Nat → List Int) (p : Nat) : outK LV p 0 = LV := by funext j; unfold outK; rw [if_neg (by omega)]
theorem outK_at (LV : Nat → List Int) (p k : Nat) : outK LV p k k = LV k := by unfold outK; rw [if_neg (by omega)]
theorem outK_succ (LV : Nat → List Int) (p k : Nat) : outK LV p (k + 1) = upd (outK LV p k) k ((LV k).set (p / 2 ^ k) (nth (LV k) (p / 2 ^ k) - 1)) := by
  funext j
  unfold outK upd
  by_cases h : j = k
  · subst h; simp
  · simp only [if_neg h]
    by_cases h1 : j < k
    · rw [if_pos (by omega), if_pos h1]
    · rw [if_neg (by omega), if_neg h1]
theorem TreeAt.stored {w : World} {base g : Nat} {vs : Nat → Value} {LV : Nat → List Int} (h : TreeAt w base g vs LV) {i b c : Nat} (hi : i < 21) (hv : vs i = .slice (some ⟨b, 0, none⟩) (LV i).length c) (hgb : g ≠ b) (j : Nat) (x : Int) :
    TreeAt (w.setCell ⟨b, j, none⟩ (.int .i64 x)) base g vs (upd LV i ((LV i).set j x)) := by
  refine ⟨h.blk.far (p := ⟨b, j, none⟩) hgb _, ?_⟩
  have h1 := h.rows.stored (i := i) hi (g := b) (c := c) (by rw [hv, List.length_map]) j (.int .i64 x)
  refine h1.congr (fun _ _ => rfl) (fun _ _ => rfl) (fun k _ => ?_)
  unfold upd
  by_cases e : k = i
  · subst e; simp [List.map_set]
  · simp [e]
theorem div_pow_succ (p k : Nat) : p / 2 ^ (k + 1) = p / 2 ^ k / 2 := by rw [Nat.pow_succ, Nat.div_div_eq_div_mul]
set_option maxHeartbeats 4000000 in
theorem takeOut_any (g d base p : Nat) (vs : Nat → Value) (f : Int → Int → Int) (a : List Int) (w : World) (hd : d ≤ 20) (ha : a.length = 2 ^ d) (h : TreeAt w base g vs (lvK f a)) (hb : base ≤ w.heap.size) (hp : p < 2 ^ d)
    (hv : ∀ j, j ≤ d → 1 ≤ nth (lvK f a j) (p / 2 ^ j) ∧ nth (lvK f a j) (p / 2 ^ j) ≤ 1048576) :
    Calls Tryz.prog 44 #[.pointer (some ⟨g, 0, none⟩), .int .i64 (p : Int)] w fun e w' => (∃ u, e = .returned u) ∧ TreeAt w' base g vs (outK (lvK f a) p (d + 1)) ∧ Below base w w' ∧ w'.heap.size = w.heap.size ∧ ∀ b, (∀ j, j < 21 → (vs j).ownBlock ≠ some b) → w'.heap[b]? = w.heap[b]? := by
  have C1 := Lib.hid (treeLists_any g d base vs f a w hd ha h)
  have HV := Lib.hid hv
  have HA := Lib.hid (fun k hk => lv_length f ha k hk)
  have HP := Lib.hid hp
  have T0 : TreeAt w base g vs (outK (lvK f a) p 0) := by rw [outK_zero]; exact h
  have k21 : ((d + 1 : Nat) : Int) = (d : Int) + 1 := by omega
  obtain ⟨d1, hd1⟩ : ∃ d1, d + 1 = d1 := ⟨_, rfl⟩
  rw [hd1] at C1 ⊢
  have hp2 : 2 ^ d ≤ 1048576 := by
    have : 2 ^ d ≤ 2 ^ 20 := Nat.pow_le_pow_right (by omega) hd
    omega
  have hd2 : d1 ≤ 21 := by omega
  have HD1 := Lib.hid hd1
  have hp3 : p < 1048576 := by omega
  clear h hv ha hp hp2 k21 hd1
  go_enter Tryz.func44, Tryz.ntmps44
  go_wp2_with (first | (go_at_call 55; refine C1.out.mono ?_; rintro e wx ⟨rfl, e1⟩; have e1 := e1.symm; subst e1) | fail)
  go_loopw [1, 9] (fun t i wr => ∃ k : Nat, k ≤ d1 ∧ i = .int .i64 k ∧ t = .int .i64 ((p / 2 ^ k : Nat) : Int) ∧ TreeAt wr base g vs (outK (lvK f a) p k) ∧ Below base w wr ∧ wr.heap.size = w.heap.size ∧ Hid (∀ b, (∀ j, j < 21 → (vs j).ownBlock ≠ some b) → wr.heap[b]? = w.heap[b]?)) (fun _ i _ => d1 - (intOf i).toNat)
  case atStart => exact ⟨0, Nat.zero_le _, rfl, by simp, T0, Below.refl _ _, rfl, Lib.hid fun _ _ => rfl⟩
  case round =>
    clear T0
    obtain ⟨k, hk, rfl, rfl, hT, hB, hsz, HK⟩ := hrel
    by_cases hlt : k < d1
    · have hkd : k ≤ d := by have := HD1.out; omega
      have hlen := HA.out k hkd
      have hq : p / 2 ^ k < 2 ^ (d - k) := by
        rw [Nat.div_lt_iff_lt_mul (Nat.two_pow_pos k), ← Nat.pow_add, show d - k + k = d by omega]
        exact HP.out
      have hvk := HV.out k hkd
      have hown := hT.own (show k < 21 by omega)
      rw [outK_at] at hown
      have hck := hT.cell (show k < 21 by omega)
      have HS := Lib.hid (outK_succ (lvK f a) p k)
      have HD := Lib.hid (div_pow_succ p k)
      obtain ⟨T, hTT⟩ : ∃ T, lvK f a k = T := ⟨_, rfl⟩
      rw [hTT] at hlen hvk hown HS
      have hat : outK (lvK f a) p k k = T := by rw [outK_at]; exact hTT
      rcases hown.2 with ⟨_, h0⟩ | ⟨b, cap, cur, e, hbb, hgb, hnc, _, _, _⟩
      · rw [hlen] at h0
        have := Nat.two_pow_pos (d - k)
        omega
      have hsT : Sl wr (some ⟨b, 0, none⟩) T := by
        obtain ⟨A', c', e', _, hs⟩ := hown.form
        rw [e] at e'
        injection e' with e1 e2 e3
        rw [e1]; exact hs
      have hgne : g ≠ b := fun e2 => by
        have h1 := hT.blk
        unfold Blk at h1
        rw [e2, hgb] at h1
        injection h1 with h1
        injection h1 with _ h2
        exact absurd h2 (by decide)
      have hTn := fun x => TreeAt.stored hT (show k < 21 by omega) (b := b) (c := cap) (by rw [hat]; exact e) hgne (p / 2 ^ k) x
      rw [hat] at hTn
      obtain ⟨q, hqq⟩ : ∃ q, p / 2 ^ k = q := ⟨_, rfl⟩
      rw [hqq] at hq hvk HS HD hTn ⊢
      rw [← hlen] at hq
      obtain ⟨n, hn⟩ : ∃ n, T.length = n := ⟨_, rfl⟩
      obtain ⟨b', o', e2, hbl, hcs⟩ := hsT (by omega)
      obtain ⟨rfl, rfl⟩ : b = b' ∧ 0 = o' := by injection e2 with e2; injection e2 with e3 e4; exact ⟨e3, e4⟩
      have cq := hcs q hq
      rw [Nat.zero_add] at cq
      obtain ⟨v, hvv⟩ : ∃ v, nth T q = v := ⟨_, rfl⟩
      rw [hvv] at cq hvk HS
      rw [hn] at e hq
      rw [e] at hck
      have hfz : wr.frozen? ⟨b, q, none⟩ = false := by simp [World.frozen?, hgb]
      have m1 : (0 : Int) ≤ (k : Int) := by omega
      have m2 : (k : Int) < (d1 : Int) := by omega
      have m3 : (0 : Int) ≤ (q : Int) := by omega
      have m4 : (q : Int) < (n : Int) := by omega
      have m5 : IntKind.i64.wrap (v - 1) = v - 1 := by unfold IntKind.wrap; simp [IntKind.signed, IntKind.bits]; omega
      have hq16 : q ≤ 1048576 := by rw [← hqq]; exact Nat.le_of_lt (Nat.lt_of_le_of_lt (Nat.div_le_self _ _) hp3)
      have m6 : Int.tdiv (q : Int) 2 = ((q / 2 : Nat) : Int) := by rw [Int.tdiv_eq_ediv_of_nonneg (by omega)]; omega
      have m7 : IntKind.i64.wrap ((q / 2 : Nat) : Int) = ((q / 2 : Nat) : Int) := by unfold IntKind.wrap; simp [IntKind.signed, IntKind.bits]; omega
      have hTn' := hTn (v - 1)
      have HKn : Hid (∀ b', (∀ j, j < 21 → (vs j).ownBlock ≠ some b') → (wr.setCell ⟨b, q, none⟩ (.int .i64 (v - 1))).heap[b']? = w.heap[b']?) := Lib.hid fun b' hb' => by
        have hne : b' ≠ b := fun e3 => hb' k (by omega) (by rw [e, e3]; rfl)
        exact (Below.heap_setCell wr ⟨b, q, none⟩ _ b' hne).trans (HK.out b' hb')
      have hBn : Below base w (wr.setCell ⟨b, q, none⟩ (.int .i64 (v - 1))) := hB.setCell (p := ⟨b, q, none⟩) hbb _
      have HE := Lib.hid e
      clear hTn hqq hTT hat hown hcs hsT hlen hn hvv hgb hnc e
      go_wp2
      go_roundw
      case rel => exact ⟨k + 1, by omega, by go_num, by rw [HD.out]; simp, by rw [HS.out]; exact hTn', hBn, by simpa using hsz, HKn⟩
      case measure => simp [intOf]; omega
    · obtain rfl : k = d1 := by omega
      go_wp2
      go_end0
      exact ⟨⟨_, rfl⟩, hT, hB, hsz, HK.out⟩
end Go.Proofs.YtecpanppnljkhaaGreatDoor
