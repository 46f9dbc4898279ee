/- Shapes: the mathematics. -/
import Derived.Test.YtecpanppnljkhaaGreatDoorJb
import Derived.Test.YtecpanppnljkhaaGreatDoorEz
import Derived.Test.YtecpanppnljkhaaGreatDoorEm
import Derived.Test.YtecpanppnljkhaaGreatDoorKa2
import Derived.Test.YtecpanppnljkhaaGreatDoorEv
namespace Go.Proofs.YtecpanppnljkhaaGreatDoor
set_option linter.unusedVariables false
open Go.RowKit Go.Shelf
/-- Flags: none and one. -/
def Flg (a : List Int) : Prop := ∀ i, 0 ≤ nth a i ∧ nth a i ≤ 1
theorem addW_eq {x y : Int} (hx : 0 ≤ x ∧ x ≤ 1048576) (hy : 0 ≤ y ∧ y ≤ 1048576) : addW x y = x + y := by
  unfold addW wrap64
  omega
theorem nth_out (l : List Int) (i : Nat) (h : l.length ≤ i) : nth l i = 0 := by
  unfold nth
  first
    | rw [List.getD_eq_getElem?_getD, List.getElem?_eq_none h]; rfl
    | simp [h]
theorem flg_lv {a : List Int} (h : Flg a) : ∀ j, j ≤ 20 → ∀ i, 0 ≤ nth (lvK addW a j) i ∧ nth (lvK addW a j) i ≤ 2 ^ j
  | 0, _, i => by simpa [lvK] using h i
  | j + 1, hj, i => by
    have ih := flg_lv h j (by omega)
    by_cases hi : 2 * i + 1 < (lvK addW a j).length
    · have h1 := ih (2 * i)
      have h2 := ih (2 * i + 1)
      have hp : (2 : Int) ^ j ≤ 2 ^ 19 := by
        have : (2 : Nat) ^ j ≤ 2 ^ 19 := Nat.pow_le_pow_right (by omega) (by omega)
        exact_mod_cast this
      rw [lvK, prs_nth addW _ i hi, addW_eq ⟨h1.1, by omega⟩ ⟨h2.1, by omega⟩, Int.pow_succ]
      omega
    · rw [nth_out _ i (by rw [lvK, prs_length]; omega)]
      have hp : (0 : Int) ≤ 2 ^ (j + 1) := by
        have : 0 ≤ (2 : Nat) ^ (j + 1) := Nat.zero_le _
        exact_mod_cast this
      exact ⟨Int.le_refl _, hp⟩
theorem nth_set (l : List Int) (i j : Nat) (x : Int) (h : i < l.length) : nth (l.set i x) j = if j = i then x else nth l j := by
  by_cases hj : j < l.length
  · rw [nth_eq _ j (by simpa using hj), List.getElem_set]
    by_cases e : i = j
    · subst e; simp
    · rw [if_neg e, if_neg (fun e2 => e e2.symm), nth_eq l j hj]
  · rw [nth_out _ j (by simpa using hj), nth_out l j (by omega), if_neg (by omega)]
/-- One of two neighbours counts one less: so does what they come to. -/
theorem prs_set (l : List Int) (q : Nat) (hq : q < l.length) (he : l.length % 2 = 0) (hb : ∀ i, 0 ≤ nth l i ∧ nth l i ≤ 524288) (h1 : 1 ≤ nth l q) :
    prs addW (l.set q (nth l q - 1)) = (prs addW l).set (q / 2) (nth (prs addW l) (q / 2) - 1) := by
  apply List.ext_getElem
  · rw [prs_length, List.length_set, List.length_set, prs_length]
  · intro i h2 h3
    rw [prs_length, List.length_set] at h2
    have hi : 2 * i + 1 < l.length := by omega
    rw [← nth_eq _ i (by rw [prs_length, List.length_set]; exact h2), ← nth_eq _ i h3, prs_nth _ _ _ (by rw [List.length_set]; exact hi), nth_set _ _ _ _ hq, nth_set _ _ _ _ hq,
      nth_set _ _ _ _ (by rw [prs_length]; omega)]
    have b1 := hb (2 * i)
    have b2 := hb (2 * i + 1)
    by_cases e : i = q / 2
    · subst e
      rw [if_pos rfl, prs_nth _ _ _ hi, addW_eq ⟨b1.1, by omega⟩ ⟨b2.1, by omega⟩]
      rcases Nat.mod_two_eq_zero_or_one q with h5 | h5
      · have e1 : 2 * (q / 2) = q := by omega
        rw [e1] at b1 b2 ⊢
        rw [if_pos rfl, if_neg (by omega), addW_eq ⟨by omega, by omega⟩ ⟨b2.1, by omega⟩]
        omega
      · have e1 : 2 * (q / 2) + 1 = q := by omega
        rw [e1] at b2 ⊢
        rw [if_neg (by omega), if_pos rfl, addW_eq ⟨b1.1, by omega⟩ ⟨by omega, by omega⟩]
        omega
    · rw [if_neg e, if_neg (by omega), if_neg (by omega), prs_nth _ _ _ hi]
theorem flg_le {a : List Int} (h : Flg a) (j : Nat) (hj : j ≤ 19) (i : Nat) : 0 ≤ nth (lvK addW a j) i ∧ nth (lvK addW a j) i ≤ 524288 := by
  have h1 := flg_lv h j (by omega) i
  have hp : (2 : Int) ^ j ≤ 2 ^ 19 := by
    have : (2 : Nat) ^ j ≤ 2 ^ 19 := Nat.pow_le_pow_right (by omega) hj
    exact_mod_cast this
  omega
/-- What counts a place that is left counts at least one. -/
theorem flg_one {a : List Int} {d p : Nat} (h : Flg a) (ha : a.length = 2 ^ d) (hd : d ≤ 20) (hp : p < 2 ^ d) (h1 : nth a p = 1) : ∀ j, j ≤ d → 1 ≤ nth (lvK addW a j) (p / 2 ^ j)
  | 0, _ => by simp [lvK, h1]
  | j + 1, hj => by
    have ih := flg_one h ha hd hp h1 j (by omega)
    have hl := lv_length addW ha j (by omega)
    have hq : p / 2 ^ j < 2 ^ (d - j) := by
      rw [Nat.div_lt_iff_lt_mul (Nat.two_pow_pos j), ← Nat.pow_add, show d - j + j = d by omega]; exact hp
    rw [show d - j = (d - (j + 1)) + 1 by omega, Nat.pow_succ] at hl hq
    rw [div_pow_succ, lvK]
    obtain ⟨q, hqq⟩ : ∃ q, p / 2 ^ j = q := ⟨_, rfl⟩
    rw [hqq] at ih hq ⊢
    have b1 := flg_le h j (by omega) (2 * (q / 2))
    have b2 := flg_le h j (by omega) (2 * (q / 2) + 1)
    rw [prs_nth _ _ _ (by omega), addW_eq ⟨b1.1, by omega⟩ ⟨b2.1, by omega⟩]
    rcases Nat.mod_two_eq_zero_or_one q with h5 | h5
    · rw [show 2 * (q / 2) = q by omega] at b1 b2 ⊢
      omega
    · rw [show 2 * (q / 2) + 1 = q by omega] at b2 ⊢
      omega
theorem lv_set {a : List Int} {d p : Nat} (h : Flg a) (ha : a.length = 2 ^ d) (hd : d ≤ 20) (hp : p < 2 ^ d) (h1 : nth a p = 1) : ∀ j, j ≤ d → lvK addW (a.set p 0) j = (lvK addW a j).set (p / 2 ^ j) (nth (lvK addW a j) (p / 2 ^ j) - 1)
  | 0, _ => by simp [lvK, h1]
  | j + 1, hj => by
    have ih := lv_set h ha hd hp h1 j (by omega)
    have hl := lv_length addW ha j (by omega)
    have hq : p / 2 ^ j < 2 ^ (d - j) := by
      rw [Nat.div_lt_iff_lt_mul (Nat.two_pow_pos j), ← Nat.pow_add, show d - j + j = d by omega]; exact hp
    have ho := flg_one h ha hd hp h1 j (by omega)
    rw [← hl] at hq
    rw [show d - j = (d - (j + 1)) + 1 by omega, Nat.pow_succ] at hl
    rw [lvK, ih, prs_set _ _ hq (by omega) (flg_le h j (by omega)) ho, div_pow_succ]
    rfl
/-- A place that is taken out: the counts are those of what is left. -/
theorem out_lv {a : List Int} {d p : Nat} (h : Flg a) (ha : a.length = 2 ^ d) (hd : d ≤ 20) (hp : p < 2 ^ d) (h1 : nth a p = 1) : outK (lvK addW a) p (d + 1) = lvK addW (a.set p 0) := by
  funext j
  unfold outK
  by_cases hj : j < d + 1
  · rw [if_pos hj, lv_set h ha hd hp h1 j (by omega)]
  · rw [if_neg hj, lv_nil addW ha j (by omega), lv_nil addW (by rw [List.length_set]; exact ha) j (by omega)]
theorem flg_set {a : List Int} (h : Flg a) (p : Nat) : Flg (a.set p 0) := fun i => by
  by_cases hp : p < a.length
  · rw [nth_set _ _ _ _ hp]
    split
    · omega
    · exact h i
  · rw [List.set_eq_of_length_le (by omega)]; exact h i
end Go.Proofs.YtecpanppnljkhaaGreatDoor

namespace Go.Proofs.YtecpanppnljkhaaGreatDoor
set_option linter.unusedVariables false
open Go.RowKit Go.Shelf
def sumTo (l : List Int) (i : Nat) : Int := (l.take i).sum
theorem sumTo_succ (l : List Int) (i : Nat) (h : i < l.length) : sumTo l (i + 1) = sumTo l i + nth l i := by
  unfold sumTo
  rw [List.take_add_one, List.getElem?_eq_getElem h, Option.toList_some, List.sum_append, nth_eq l i h]
  simp
theorem sumTo_prs (l : List Int) (hb : ∀ i, 0 ≤ nth l i ∧ nth l i ≤ 524288) : ∀ i, 2 * i ≤ l.length → sumTo (prs addW l) i = sumTo l (2 * i)
  | 0, _ => by simp [sumTo]
  | i + 1, hi => by
    have b1 := hb (2 * i)
    have b2 := hb (2 * i + 1)
    rw [sumTo_succ _ i (by rw [prs_length]; omega), sumTo_prs l hb i (by omega), prs_nth _ _ _ (by omega), addW_eq ⟨b1.1, by omega⟩ ⟨b2.1, by omega⟩, show 2 * (i + 1) = 2 * i + 1 + 1 by omega,
      sumTo_succ l (2 * i + 1) (by omega), sumTo_succ l (2 * i) (by omega)]
    omega
theorem pl_inv {a : List Int} {d : Nat} (h : Flg a) (ha : a.length = 2 ^ d) (hd : d ≤ 20) (k : Int) (hk : 0 ≤ k) (hk2 : k < nth (lvK addW a d) 0) : ∀ r, r ≤ d →
    (plF (lvK addW a) k (br d r)).2 < 2 ^ r ∧ 0 ≤ (plF (lvK addW a) k (br d r)).1 ∧ (plF (lvK addW a) k (br d r)).1 < nth (lvK addW a (d - r)) (plF (lvK addW a) k (br d r)).2 ∧ sumTo (lvK addW a (d - r)) (plF (lvK addW a) k (br d r)).2 + (plF (lvK addW a) k (br d r)).1 = k
  | 0, _ => by
    have e : br d 0 = [] := by unfold br; simp
    rw [e]
    show (0 : Nat) < 2 ^ 0 ∧ 0 ≤ k ∧ k < nth (lvK addW a (d - 0)) 0 ∧ sumTo (lvK addW a (d - 0)) 0 + k = k
    refine ⟨by simp, hk, hk2, ?_⟩
    unfold sumTo; simp
  | r + 1, hr => by
    obtain ⟨i1, i2, i3, i4⟩ := pl_inv h ha hd k hk hk2 r (by omega)
    rw [br_succ d r (by omega), plF_snoc]
    obtain ⟨j, hj⟩ : ∃ j, d - 1 - r = j := ⟨_, rfl⟩
    have hjr : d - r = j + 1 := by omega
    rw [hjr] at i3 i4
    rw [show d - (r + 1) = j by omega]
    have hl := lv_length addW ha j (by omega)
    rw [show d - j = r + 1 by omega, Nat.pow_succ] at hl
    obtain ⟨s, hs⟩ : ∃ s, plF (lvK addW a) k (br d r) = s := ⟨_, rfl⟩
    rw [hs] at i1 i2 i3 i4 ⊢
    obtain ⟨kk, pl⟩ := s
    simp only at i1 i2 i3 i4
    have b1 := flg_le h j (by omega) (2 * pl)
    have b2 := flg_le h j (by omega) (2 * pl + 1)
    rw [lvK, prs_nth _ _ _ (by omega), addW_eq ⟨b1.1, by omega⟩ ⟨b2.1, by omega⟩] at i3
    rw [lvK, sumTo_prs _ (flg_le h j (by omega)) _ (by omega)] at i4
    have hss := sumTo_succ (lvK addW a j) (2 * pl) (by omega)
    unfold plS
    simp only [hj]
    rw [Nat.pow_succ]
    by_cases hv : nth (lvK addW a j) (2 * pl) ≤ kk
    · rw [if_pos hv]
      exact ⟨by simp only; omega, by simp only; omega, by simp only; omega, by simp only; omega⟩
    · rw [if_neg hv]
      exact ⟨by simp only; omega, by simp only; omega, by simp only; omega, by simp only; omega⟩
/-- The place of the k-th one: it is left, and k are left ahead of it. -/
theorem pl_spec {a : List Int} {d : Nat} (h : Flg a) (ha : a.length = 2 ^ d) (hd : d ≤ 20) (k : Int) (hk : 0 ≤ k) (hk2 : k < nth (lvK addW a d) 0) :
    plL (lvK addW a) d k < 2 ^ d ∧ nth a (plL (lvK addW a) d k) = 1 ∧ sumTo a (plL (lvK addW a) d k) = k := by
  obtain ⟨i1, i2, i3, i4⟩ := pl_inv h ha hd k hk hk2 d (Nat.le_refl _)
  rw [Nat.sub_self, br_all] at i3 i4
  rw [br_all] at i1 i2
  unfold plL
  have hf := h (plF (lvK addW a) k (List.finRange d).reverse).2
  have e : lvK addW a 0 = a := rfl
  rw [e] at i3 i4
  exact ⟨i1, by omega, by omega⟩
/-- The last count is that of all. -/
theorem top_sum {a : List Int} {d : Nat} (h : Flg a) (ha : a.length = 2 ^ d) (hd : d ≤ 20) : nth (lvK addW a d) 0 = a.sum := by
  have key : ∀ j, j ≤ d → sumTo (lvK addW a j) (2 ^ (d - j)) = a.sum := by
    intro j
    induction j with
    | zero => intro _; show sumTo a (2 ^ (d - 0)) = a.sum; unfold sumTo; rw [List.take_of_length_le (by rw [ha]; simp)]
    | succ j ih =>
      intro hj
      have hl := lv_length addW ha j (by omega)
      have e : 2 ^ (d - j) = 2 * 2 ^ (d - (j + 1)) := by rw [show d - j = d - (j + 1) + 1 by omega, Nat.pow_succ]; omega
      rw [lvK, sumTo_prs _ (flg_le h j (by omega)) _ (by omega), ← e]
      exact ih (by omega)
  have h1 := key d (Nat.le_refl _)
  have hl := lv_length addW ha d (Nat.le_refl _)
  rw [Nat.sub_self] at h1 hl
  have h2 := sumTo_succ (lvK addW a d) 0 (by omega)
  rw [← h1, show 2 ^ 0 = 0 + 1 from rfl, h2]
  unfold sumTo; simp
end Go.Proofs.YtecpanppnljkhaaGreatDoor

namespace Go.Proofs.YtecpanppnljkhaaGreatDoor
set_option linter.unusedVariables false
set_option maxRecDepth 100000
open Go.RowKit Go.Shelf
/-- The first k numbers of a shape for n words are right. -/
def ShapeK (s : List Int) (n k : Nat) : Prop := ∀ j, j < k → 0 ≤ nth s j ∧ nth s j ≤ (n : Int) - 2 - (j : Int)
def Shape (s : List Int) (n : Nat) : Prop := (s.length : Int) = (n : Int) - 1 ∧ ShapeK s n s.length
/-- 'Returned whether that holds, and nothing is turned'. -/
def RetQ (p : Prop) (w : World) (e : Ending) (w' : World) : Prop := (∃ b : Bool, e = .returned (.bool b) ∧ (b = true ↔ p)) ∧ w = w'
set_option maxHeartbeats 4000000 in
theorem isShape_any (A : Option Addr) (c n : Nat) (s : List Int) (w : World) (h : Sl w A s) (hn : n ≤ 1048576) (hs : s.length ≤ 9223372036854775807) :
    Calls Tryz.prog 40 #[.slice A s.length c, .int .i64 (n : Int)] w (RetQ (Shape s n) w) := by
  have w1 : IntKind.i64.wrap ((n : Int) - 1) = (n : Int) - 1 := by unfold IntKind.wrap; simp [IntKind.signed, IntKind.bits]; omega
  by_cases hl : (s.length : Int) = (n : Int) - 1
  · have hd : ((s.length : Int) != (n : Int) - 1) = false := by rw [hl]; simp
    have HL := Lib.hid hl
    clear hl
    go_enter Tryz.func40, Tryz.ntmps40
    go_wp2
    go_loop [14] (fun i => ∃ k : Nat, k ≤ s.length ∧ i = .int .i64 k ∧ Hid (ShapeK s n k)) (fun i => s.length - (intOf i).toNat)
    case atStart => exact ⟨0, Nat.zero_le _, rfl, Lib.hid fun j hj => by omega⟩
    case round =>
      obtain ⟨k, hk, rfl, HQ⟩ := hrel
      by_cases hlt : k < s.length
      · obtain ⟨b1, o1, rfl, _, hc1⟩ := h.at_ hlt
        have k1 : (0 : Int) ≤ (k : Int) := by omega
        have k2 : (k : Int) < (s.length : Int) := by omega
        have k3 := HL.out
        have w2 : IntKind.i64.wrap ((n : Int) - 2) = (n : Int) - 2 := by unfold IntKind.wrap; simp [IntKind.signed, IntKind.bits]; omega
        have w3 : IntKind.i64.wrap ((n : Int) - 2 - (k : Int)) = (n : Int) - 2 - (k : Int) := by unfold IntKind.wrap; simp [IntKind.signed, IntKind.bits]; omega
        obtain ⟨x, hx⟩ : ∃ x, nth s k = x := ⟨_, rfl⟩
        rw [hx] at hc1
        have HX := Lib.hid hx
        clear hx k3
        by_cases h1 : x < 0
        · have hd1 : decide (x < 0) = true := decide_eq_true h1
          have HN : Hid (¬ Shape s n) := Lib.hid (fun hS => by have := (hS.2 k hlt).1; rw [HX.out] at this; omega)
          clear h1
          go_wp2
          go_ret
          exact ⟨⟨false, rfl, ⟨by simp, fun e => absurd e HN.out⟩⟩, rfl⟩
        · have hd1 : decide (x < 0) = false := decide_eq_false h1
          by_cases h2 : (n : Int) - 2 - (k : Int) < x
          · have hd2 : decide ((n : Int) - 2 - (k : Int) < x) = true := decide_eq_true h2
            have HN : Hid (¬ Shape s n) := Lib.hid (fun hS => by have := (hS.2 k hlt).2; rw [HX.out] at this; omega)
            go_wp2
            go_ret
            exact ⟨⟨false, rfl, ⟨by simp, fun e => absurd e HN.out⟩⟩, rfl⟩
          · have hd2 : decide ((n : Int) - 2 - (k : Int) < x) = false := decide_eq_false h2
            have HO : Hid (ShapeK s n (k + 1)) := Lib.hid fun j hj => by
              by_cases e : j = k
              · subst e; rw [HX.out]; omega
              · exact HQ.out j (by omega)
            go_wp2
            go_round
            case rel => exact ⟨k + 1, by omega, by go_num, HO⟩
            case measure => simp [intOf]; omega
      · obtain rfl : k = s.length := by omega
        have HS : Hid (Shape s n) := Lib.hid ⟨HL.out, HQ.out⟩
        go_wp2
        go_ret
        exact ⟨⟨true, rfl, ⟨fun _ => HS.out, fun _ => rfl⟩⟩, rfl⟩
  · have hd : ((s.length : Int) != (n : Int) - 1) = true := by rw [bne_iff_ne]; exact hl
    have HN : Hid (¬ Shape s n) := Lib.hid (fun hS => hl hS.1)
    clear hl
    go_enter Tryz.func40, Tryz.ntmps40
    go_wp2
    go_ret
    exact ⟨⟨false, rfl, ⟨by simp, fun e => absurd e HN.out⟩⟩, rfl⟩
end Go.Proofs.YtecpanppnljkhaaGreatDoor

namespace Go.Proofs.YtecpanppnljkhaaGreatDoor
set_option linter.unusedVariables false
open Go.RowKit Go.Shelf
/-- One step: the k-th word that is left is joined with the one behind it, which is taken out. -/
def trS (f : Int → Int → Int) (d : Nat) (s : List Int × List Int) (k : Int) : List Int × List Int :=
  (s.1.set (plL (lvK addW s.2) d k) (f (nth s.1 (plL (lvK addW s.2) d k)) (nth s.1 (plL (lvK addW s.2) d (k + 1)))), s.2.set (plL (lvK addW s.2) d (k + 1)) 0)
def trF (f : Int → Int → Int) (d : Nat) (l shape : List Int) (i : Nat) : List Int × List Int := (shape.take i).foldl (trS f d) (l, onesL l.length d)
theorem trF_succ (f : Int → Int → Int) (d : Nat) (l shape : List Int) (i : Nat) (h : i < shape.length) : trF f d l shape (i + 1) = trS f d (trF f d l shape i) (nth shape i) := by
  unfold trF
  rw [List.take_add_one, List.getElem?_eq_getElem h, Option.toList_some, List.foldl_append, nth_eq shape i h]
  rfl
/-- What holds between the steps. -/
structure TrI (n d i : Nat) (s : List Int × List Int) : Prop where
  words : s.1.length = n
  flags : s.2.length = 2 ^ d
  flg : Flg s.2
  many : s.2.sum = (n : Int) - (i : Int)
  low : ∀ p, n ≤ p → nth s.2 p = 0
theorem sum_set (a : List Int) : ∀ (q : Nat), q < a.length → (a.set q 0).sum = a.sum - nth a q := by
  induction a with
  | nil => intro q h; simp at h
  | cons x a ih =>
    intro q h
    cases q with
    | zero => show ((0 : Int) :: a).sum = (x :: a).sum - x; simp; omega
    | succ q =>
      have := ih q (by simpa using h)
      show (x :: a.set q 0).sum = (x :: a).sum - nth a q
      rw [List.sum_cons, List.sum_cons, this]; omega
theorem nth_replicate (n i : Nat) (x : Int) (h : i < n) : nth (List.replicate n x) i = x := by
  rw [nth_eq _ i (by simpa using h)]; simp
theorem ones_nth (n d i : Nat) : nth (onesL n d) i = if i < n then 1 else 0 := by
  unfold onesL padL
  by_cases h : i < n
  · rw [if_pos h, nth_app_lt _ _ _ (by simpa using h), nth_replicate _ _ _ h]
  · rw [if_neg h]
    by_cases h2 : i < (List.replicate n (1 : Int) ++ List.replicate (2 ^ d - (List.replicate n (1 : Int)).length) 0).length
    · rw [nth_eq _ i h2, List.getElem_append_right (by simpa using h)]; simp
    · exact nth_out _ _ (by omega)
theorem ones_sum (n d : Nat) : (onesL n d).sum = (n : Int) := by
  unfold onesL padL
  rw [List.sum_append]
  have h1 : ∀ m : Nat, (List.replicate m (1 : Int)).sum = m := fun m => by
    induction m with
    | zero => rfl
    | succ m ih => rw [List.replicate_succ, List.sum_cons, ih]; omega
  have h0 : ∀ m : Nat, (List.replicate m (0 : Int)).sum = 0 := fun m => by
    induction m with
    | zero => rfl
    | succ m ih => rw [List.replicate_succ, List.sum_cons, ih]; omega
  rw [h1, h0]; omega
theorem trI_start {l : List Int} {d : Nat} (hd : IsD l.length d) : TrI l.length d 0 (l, onesL l.length d) :=
  ⟨rfl, by unfold onesL; exact padL_len (by rw [List.length_replicate]; exact hd), fun i => by show 0 ≤ nth (onesL l.length d) i ∧ nth (onesL l.length d) i ≤ 1; rw [ones_nth]; split <;> simp,
    by show (onesL l.length d).sum = _; rw [ones_sum]; omega, fun p hp => by show nth (onesL l.length d) p = 0; rw [ones_nth, if_neg (by omega)]⟩
/-- What a step finds: both places, that they are words' places, and that they count. -/
theorem trI_find {n d i : Nat} {s : List Int × List Int} (h : TrI n d i s) (hd : d ≤ 20) {k : Int} (hk : 0 ≤ k) (hk2 : k ≤ (n : Int) - 2 - (i : Int)) :
    (plL (lvK addW s.2) d k < n ∧ plL (lvK addW s.2) d k < 2 ^ d ∧ nth s.2 (plL (lvK addW s.2) d k) = 1) ∧ plL (lvK addW s.2) d (k + 1) < n ∧ plL (lvK addW s.2) d (k + 1) < 2 ^ d ∧ nth s.2 (plL (lvK addW s.2) d (k + 1)) = 1 := by
  have ht := top_sum h.flg h.flags hd
  rw [h.many] at ht
  obtain ⟨a1, a2, _⟩ := pl_spec h.flg h.flags hd k hk (by omega)
  obtain ⟨b1, b2, _⟩ := pl_spec h.flg h.flags hd (k + 1) (by omega) (by omega)
  refine ⟨⟨?_, a1, a2⟩, ?_, b1, b2⟩
  · rcases Nat.lt_or_ge (plL (lvK addW s.2) d k) n with h1 | h1
    · exact h1
    · rw [h.low _ h1] at a2; omega
  · rcases Nat.lt_or_ge (plL (lvK addW s.2) d (k + 1)) n with h1 | h1
    · exact h1
    · rw [h.low _ h1] at b2; omega
theorem trI_step {f : Int → Int → Int} {n d i : Nat} {s : List Int × List Int} (h : TrI n d i s) (hd : d ≤ 20) {k : Int} (hk : 0 ≤ k) (hk2 : k ≤ (n : Int) - 2 - (i : Int)) : TrI n d (i + 1) (trS f d s k) := by
  obtain ⟨_, b0, b1, b2⟩ := trI_find h hd hk hk2
  have hl : plL (lvK addW s.2) d (k + 1) < s.2.length := by rw [h.flags]; exact b1
  refine ⟨by unfold trS; rw [List.length_set]; exact h.words, by unfold trS; rw [List.length_set]; exact h.flags, flg_set h.flg _, ?_, fun p hp => ?_⟩
  · show (s.2.set (plL (lvK addW s.2) d (k + 1)) 0).sum = _
    rw [sum_set _ _ hl, b2, h.many]; omega
  · show nth (s.2.set (plL (lvK addW s.2) d (k + 1)) 0) p = 0
    rw [nth_set _ _ _ _ hl]
    split
    · rfl
    · exact h.low p hp
theorem trI_at (f : Int → Int → Int) {d : Nat} {l shape : List Int} (hd : IsD l.length d) (hs : Shape shape l.length) : ∀ i, i ≤ shape.length → TrI l.length d i (trF f d l shape i)
  | 0, _ => by unfold trF; exact trI_start hd
  | i + 1, hi => by
    have h1 := hs.2 i (by omega)
    rw [trF_succ f d l shape i (by omega)]
    exact trI_step (trI_at f hd hs i (by omega)) hd.2.2 h1.1 h1.2
end Go.Proofs.YtecpanppnljkhaaGreatDoor

namespace Go.Proofs.YtecpanppnljkhaaGreatDoor
set_option linter.unusedVariables false
open Go.RowKit
section
variable {f : Int → Int → Int} {x : Int}
theorem Mon.prs_word (M : Mon f x) {l : List Int} (h : Wds l) : Wds (prs f l) := fun j hj => by
  rw [prs_length] at hj
  rw [prs_nth f l j (by omega)]
  exact M.word _ _ (h.at _) (h.at _)
theorem Mon.lv_word (M : Mon f x) {l : List Int} (h : Wds l) : ∀ k, Wds (lvK f l k)
  | 0 => h
  | k + 1 => M.prs_word (M.lv_word h k)
/-- Joined neighbours, joined. -/
theorem Mon.prs_sc (M : Mon f x) {l : List Int} (h : Wds l) : ∀ k, 2 * k ≤ l.length → scN f x (prs f l) k = scN f x l (2 * k)
  | 0, _ => rfl
  | k + 1, hk => by
    show f (scN f x (prs f l) k) (nth (prs f l) k) = _
    rw [M.prs_sc h k (by omega), prs_nth f l k (by omega), show 2 * (k + 1) = 2 * k + 1 + 1 by omega]
    show _ = f (f (scN f x l (2 * k)) (nth l (2 * k))) (nth l (2 * k + 1))
    rw [M.assoc _ _ _ (M.sc h M.one _) (h.at _) (h.at _)]
/-- The word of the last level. -/
theorem Mon.lv_sc (M : Mon f x) {a : List Int} {d : Nat} (h : Wds a) (ha : a.length = 2 ^ d) : ∀ k, k ≤ d → scN f x (lvK f a k) (2 ^ (d - k)) = scN f x a (2 ^ d)
  | 0, _ => rfl
  | k + 1, hk => by
    have hl := lv_length f ha k (by omega)
    have e : 2 ^ (d - k) = 2 * 2 ^ (d - (k + 1)) := by rw [show d - k = (d - (k + 1)) + 1 by omega, Nat.pow_succ]; omega
    show scN f x (prs f (lvK f a k)) _ = _
    rw [M.prs_sc (M.lv_word h k) _ (by omega), ← e, M.lv_sc h ha k (by omega)]
theorem Mon.lv_top (M : Mon f x) {a : List Int} {d : Nat} (h : Wds a) (ha : a.length = 2 ^ d) : lvK f a d = [scN f x a (2 ^ d)] := by
  have h1 := lv_length f ha d (Nat.le_refl _)
  rw [Nat.sub_self] at h1
  have h2 := M.lv_sc h ha d (Nat.le_refl _)
  rw [Nat.sub_self, Nat.pow_zero] at h2
  have h3 : f x (nth (lvK f a d) 0) = scN f x a (2 ^ d) := h2
  rw [M.left _ ((M.lv_word h d).at 0)] at h3
  apply eq_of_nth (by rw [h1]; rfl)
  intro j hj
  obtain rfl : j = 0 := by omega
  rw [h3]; rfl
theorem padL_word (M : Mon f x) {l : List Int} (h : Wds l) (d : Nat) : Wds (padL x d l) := fun j hj => by
  unfold padL at hj ⊢
  rcases Nat.lt_or_ge j l.length with h1 | h1
  · rw [nth_app_lt _ _ _ h1]; exact h.at j
  · rw [nth_app_ge _ _ _ h1, nth_eq _ _ (by rw [List.length_append] at hj; omega)]
    simp [M.one]
theorem Mon.pad_fold (M : Mon f x) {l : List Int} {d : Nat} (h : Wds l) (hd : IsD l.length d) : scN f x (padL x d l) (2 ^ d) = scN f x l l.length := by
  have h1 := M.pad h (2 ^ d - l.length) (2 ^ d - l.length) (Nat.le_refl _)
  have h2 := hd.1
  rw [show l.length + (2 ^ d - l.length) = 2 ^ d by omega] at h1
  exact h1
/-- The last level of the tree of a list is its fold. -/
theorem Mon.top (M : Mon f x) {l : List Int} {d : Nat} (h : Wds l) (hd : IsD l.length d) : lvK f (padL x d l) d = [scN f x l l.length] := by
  rw [M.lv_top (padL_word M h d) (padL_len hd), M.pad_fold h hd]
/-- Going down one level. -/
theorem Mon.ds_step (M : Mon f x) {l : List Int} (h : Wds l) : ∀ k m, k ≤ m → 2 * m ≤ l.length → dsK f l (Go.Proofs.YtecpanppnljkhaaGreatDoor.mk (scN f x (prs f l)) m) k = Go.Proofs.YtecpanppnljkhaaGreatDoor.mk (scN f x l) (2 * k)
  | 0, _, _, _ => rfl
  | k + 1, m, hk, hm => by
    rw [dsK, M.ds_step h k m (by omega) hm, show 2 * (k + 1) = 2 * k + 1 + 1 by omega, mk_succ, mk_succ, List.append_assoc, nth_mk _ _ _ (by omega), M.prs_sc h k (by omega)]
    rfl
theorem fr_rev_take (n k : Nat) (hk : k < n) : (List.finRange n).reverse.take (k + 1) = (List.finRange n).reverse.take k ++ [⟨n - 1 - k, by omega⟩] := by
  rw [List.take_add_one, List.getElem?_eq_getElem (by simpa using hk), Option.toList_some]
  congr 1
  simp
/-- What stands behind k levels: the scan of the level there. -/
theorem Mon.st (M : Mon f x) {a : List Int} {d : Nat} (h : Wds a) (ha : a.length = 2 ^ d) : ∀ k, k ≤ d → stF f x (lvs f a d) ((List.finRange d).reverse.take k) = Go.Proofs.YtecpanppnljkhaaGreatDoor.mk (scN f x (lvK f a (d - k))) (2 ^ k)
  | 0, _ => rfl
  | k + 1, hk => by
    rw [fr_rev_take d k (by omega), stF_snoc, M.st h ha k (by omega), mk_length, lvs_nth _ _ _ _ (by show d - 1 - k < d + 1; omega)]
    show dsK f (lvK f a (d - 1 - k)) _ _ = _
    have hl := lv_length f ha (d - 1 - k) (by omega)
    rw [show d - (d - 1 - k) = k + 1 by omega, Nat.pow_succ] at hl
    rw [show d - k = (d - 1 - k) + 1 by omega, show d - (k + 1) = d - 1 - k by omega]
    show dsK f (lvK f a (d - 1 - k)) (Go.Proofs.YtecpanppnljkhaaGreatDoor.mk (scN f x (prs f (lvK f a (d - 1 - k)))) (2 ^ k)) (2 ^ k) = _
    rw [M.ds_step (M.lv_word h _) _ _ (Nat.le_refl _) (by omega), Nat.pow_succ, Nat.mul_comm]
/-- Down the levels of a list: its scan. -/
theorem Mon.down (M : Mon f x) {l : List Int} {d : Nat} (h : Wds l) (hd : IsD l.length d) : (dnL f x (lvs f (padL x d l) d) d).take l.length = ahL f x l := by
  have h1 := M.st (padL_word M h d) (padL_len hd) d (Nat.le_refl _)
  rw [List.take_of_length_le (by simp), Nat.sub_self] at h1
  have h2 : dnL f x (lvs f (padL x d l) d) d = Go.Proofs.YtecpanppnljkhaaGreatDoor.mk (scN f x (padL x d l)) (2 ^ d) := h1
  rw [h2, mk_take _ _ _ hd.1]
  unfold ahL
  exact mk_congr fun k hk => scN_app_le f x l _ k (by omega)
/-- The words that are left, joined in order. -/
def pvK (f : Int → Int → Int) (x : Int) (ws fs : List Int) : Nat → Int
  | 0 => x
  | k + 1 => if nth fs k = 1 then f (pvK f x ws fs k) (nth ws k) else pvK f x ws fs k
theorem pv_one {ws fs : List Int} {k : Nat} (h : nth fs k = 1) : pvK f x ws fs (k + 1) = f (pvK f x ws fs k) (nth ws k) := if_pos h
theorem pv_none {ws fs : List Int} {k : Nat} (h : nth fs k ≠ 1) : pvK f x ws fs (k + 1) = pvK f x ws fs k := if_neg h
theorem Mon.pv_word (M : Mon f x) {ws fs : List Int} (h : Wds ws) : ∀ k, isW (pvK f x ws fs k)
  | 0 => M.one
  | k + 1 => by unfold pvK; split; exact M.word _ _ (M.pv_word h k) (h.at k); exact M.pv_word h k
theorem pv_congr {ws fs ws' fs' : List Int} {n : Nat} (hf : ∀ i, i < n → nth fs i = nth fs' i) (hw : ∀ i, i < n → nth fs i = 1 → nth ws i = nth ws' i) : ∀ k, k ≤ n → pvK f x ws fs k = pvK f x ws' fs' k
  | 0, _ => rfl
  | k + 1, hk => by
    unfold pvK
    rw [pv_congr hf hw k (by omega), ← hf k (by omega)]
    split
    · rename_i h1; rw [hw k (by omega) h1]
    · rfl
theorem pv_flat {ws fs : List Int} {p : Nat} : ∀ k, (∀ i, p ≤ i → i < p + k → nth fs i ≠ 1) → pvK f x ws fs (p + k) = pvK f x ws fs p
  | 0, _ => rfl
  | k + 1, h => by
    rw [← Nat.add_assoc]
    show (if nth fs (p + k) = 1 then _ else _) = _
    rw [if_neg (h (p + k) (by omega) (by omega))]
    exact pv_flat k fun i h1 h2 => h i h1 (by omega)
/-- One step of a shape joins two neighbours: what is left, joined in order, is the same. -/
theorem Mon.pv_step (M : Mon f x) {ws fs : List Int} {p q n : Nat} (h : Wds ws) (hpq : p < q) (hq : q < n) (hl : ws.length = n) (hfl : n ≤ fs.length) (hp1 : nth fs p = 1) (hq1 : nth fs q = 1) (hz : ∀ i, p < i → i < q → nth fs i ≠ 1) :
    pvK f x (ws.set p (f (nth ws p) (nth ws q))) (fs.set q 0) n = pvK f x ws fs n := by
  have hws : ∀ i, nth (ws.set p (f (nth ws p) (nth ws q))) i = if i = p then f (nth ws p) (nth ws q) else nth ws i := fun i => nth_set _ _ _ _ (by omega)
  have hfs : ∀ i, nth (fs.set q 0) i = if i = q then 0 else nth fs i := fun i => nth_set _ _ _ _ (by omega)
  -- up to p
  have e0 : pvK f x (ws.set p (f (nth ws p) (nth ws q))) (fs.set q 0) p = pvK f x ws fs p :=
    pv_congr (n := p) (fun i hi => by rw [hfs, if_neg (by omega)]) (fun i hi _ => by rw [hws, if_neg (by omega)]) p (Nat.le_refl _)
  have e1 : pvK f x (ws.set p (f (nth ws p) (nth ws q))) (fs.set q 0) (p + 1) = f (pvK f x ws fs p) (f (nth ws p) (nth ws q)) := by
    rw [pv_one (by rw [hfs, if_neg (by omega)]; exact hp1), hws, if_pos rfl, e0]
  have e2 : pvK f x ws fs (p + 1) = f (pvK f x ws fs p) (nth ws p) := by
    exact pv_one hp1
  have g1 : pvK f x (ws.set p (f (nth ws p) (nth ws q))) (fs.set q 0) (q + 1) = f (pvK f x ws fs p) (f (nth ws p) (nth ws q)) := by
    have := pv_flat (f := f) (x := x) (ws := ws.set p (f (nth ws p) (nth ws q))) (fs := fs.set q 0) (p := p + 1) (q - p) (fun i h1 h2 => by
      rw [hfs]
      split
      · decide
      · exact hz i (by omega) (by omega))
    rw [show p + 1 + (q - p) = q + 1 by omega, e1] at this
    exact this
  have g2 : pvK f x ws fs (q + 1) = f (f (pvK f x ws fs p) (nth ws p)) (nth ws q) := by
    have := pv_flat (f := f) (x := x) (ws := ws) (fs := fs) (p := p + 1) (q - (p + 1)) (fun i h1 h2 => hz i (by omega) (by omega))
    rw [show p + 1 + (q - (p + 1)) = q by omega, e2] at this
    rw [pv_one hq1, this]
  have g3 : ∀ k, q + 1 + k ≤ n → pvK f x (ws.set p (f (nth ws p) (nth ws q))) (fs.set q 0) (q + 1 + k) = pvK f x ws fs (q + 1 + k) := by
    intro k
    induction k with
    | zero => intro _; rw [Nat.add_zero, g1, g2, M.assoc _ _ _ (M.pv_word h p) (h.at p) (h.at q)]
    | succ k ih =>
      intro hk
      rw [← Nat.add_assoc]
      have hfk : nth (fs.set q 0) (q + 1 + k) = nth fs (q + 1 + k) := by rw [hfs, if_neg (by omega)]
      by_cases h1 : nth fs (q + 1 + k) = 1
      · rw [pv_one (by rw [hfk]; exact h1), pv_one h1, hws, if_neg (by omega), ih (by omega)]
      · rw [pv_none (by rw [hfk]; exact h1), pv_none h1, ih (by omega)]
  have := g3 (n - (q + 1)) (by omega)
  rw [show q + 1 + (n - (q + 1)) = n by omega] at this
  exact this
theorem sumTo_mono {a : List Int} (h : Flg a) (i : Nat) : ∀ k, sumTo a i ≤ sumTo a (i + k)
  | 0 => Int.le_refl _
  | k + 1 => by
    have h1 := sumTo_mono h i k
    rcases Nat.lt_or_ge (i + k) a.length with h2 | h2
    · have h3 := sumTo_succ a (i + k) h2
      have h4 := (h (i + k)).1
      rw [← Nat.add_assoc]; omega
    · have : sumTo a (i + (k + 1)) = sumTo a (i + k) := by unfold sumTo; rw [List.take_of_length_le (by omega), List.take_of_length_le h2]
      omega
/-- The two places of a step: the second one is the next one that is left. -/
theorem next_place {a : List Int} {d : Nat} (h : Flg a) (ha : a.length = 2 ^ d) (hd : d ≤ 20) (k : Int) (hk : 0 ≤ k) (hk2 : k + 1 < nth (lvK addW a d) 0) :
    plL (lvK addW a) d k < plL (lvK addW a) d (k + 1) ∧ ∀ i, plL (lvK addW a) d k < i → i < plL (lvK addW a) d (k + 1) → nth a i ≠ 1 := by
  obtain ⟨a1, a2, a3⟩ := pl_spec h ha hd k hk (by omega)
  obtain ⟨b1, b2, b3⟩ := pl_spec h ha hd (k + 1) (by omega) hk2
  obtain ⟨p, hp⟩ : ∃ p, plL (lvK addW a) d k = p := ⟨_, rfl⟩
  obtain ⟨q, hq⟩ : ∃ q, plL (lvK addW a) d (k + 1) = q := ⟨_, rfl⟩
  rw [hp] at a1 a2 a3
  rw [hq] at b1 b2 b3
  rw [hp, hq]
  have hs := sumTo_succ a p (by omega)
  have hlt : p < q := by
    rcases Nat.lt_or_ge p q with h1 | h1
    · exact h1
    · have := sumTo_mono h q (p - q)
      rw [show q + (p - q) = p by omega] at this
      omega
  refine ⟨hlt, fun i h1 h2 h3 => ?_⟩
  have k1 := sumTo_mono h (p + 1) (i - (p + 1))
  rw [show p + 1 + (i - (p + 1)) = i by omega] at k1
  have k2 := sumTo_succ a i (by omega)
  have k3 := sumTo_mono h (i + 1) (q - (i + 1))
  rw [show i + 1 + (q - (i + 1)) = q by omega] at k3
  omega
theorem set_word {l : List Int} (h : Wds l) (p : Nat) {y : Int} (hy : isW y) : Wds (l.set p y) := fun j hj => by
  rw [List.length_set] at hj
  rcases Nat.lt_or_ge p l.length with h1 | h1
  · rw [nth_set _ _ _ _ h1]; split; exact hy; exact h j hj
  · rw [List.set_eq_of_length_le h1]; exact h j hj
/-- Behind some steps of a shape: what is left, joined in order, is the fold; the first word is left. -/
theorem Mon.tr (M : Mon f x) {d : Nat} {l shape : List Int} (h : Wds l) (hd : IsD l.length d) (hs : Shape shape l.length) (hn : 0 < l.length) : ∀ i, i ≤ shape.length →
    Wds (trF f d l shape i).1 ∧ nth (trF f d l shape i).2 0 = 1 ∧ pvK f x (trF f d l shape i).1 (trF f d l shape i).2 l.length = scN f x l l.length
  | 0, _ => by
    refine ⟨h, ?_, ?_⟩
    · show nth (onesL l.length d) 0 = 1
      rw [ones_nth, if_pos hn]
    · show pvK f x l (onesL l.length d) l.length = _
      have : ∀ k, k ≤ l.length → pvK f x l (onesL l.length d) k = scN f x l k := by
        intro k
        induction k with
        | zero => intro _; rfl
        | succ k ih => intro hk; rw [pv_one (by rw [ones_nth, if_pos (by omega)]), ih (by omega)]; rfl
      exact this _ (Nat.le_refl _)
  | i + 1, hi => by
    obtain ⟨h1, h2, h3⟩ := M.tr h hd hs hn i (by omega)
    have hI := trI_at f hd hs i (by omega)
    have hsh := hs.2 i (by omega)
    obtain ⟨⟨p1, p2, p3⟩, q1, q2, q3⟩ := trI_find hI hd.2.2 hsh.1 hsh.2
    have ht := top_sum hI.flg hI.flags hd.2.2
    rw [hI.many] at ht
    obtain ⟨n1, n2⟩ := next_place hI.flg hI.flags hd.2.2 (nth shape i) hsh.1 (by omega)
    rw [trF_succ f d l shape i (by omega)]
    unfold trS
    obtain ⟨p, hp⟩ : ∃ p, plL (lvK addW (trF f d l shape i).2) d (nth shape i) = p := ⟨_, rfl⟩
    obtain ⟨q, hq⟩ : ∃ q, plL (lvK addW (trF f d l shape i).2) d (nth shape i + 1) = q := ⟨_, rfl⟩
    rw [hp] at p1 p2 p3 n1 n2 ⊢
    rw [hq] at q1 q2 q3 n1 n2 ⊢
    have hfl := hI.flags
    have hwl := hI.words
    have hle := hd.1
    refine ⟨set_word h1 _ (M.word _ _ (h1.at _) (h1.at _)), ?_, ?_⟩
    · show nth ((trF f d l shape i).2.set q 0) 0 = 1
      rw [nth_set _ _ _ _ (by omega), if_neg (by omega)]; exact h2
    · show pvK f x ((trF f d l shape i).1.set p _) ((trF f d l shape i).2.set q 0) l.length = _
      rw [M.pv_step h1 n1 q1 hwl (by omega) p3 q3 n2, h3]
/-- Any shape makes the fold. -/
theorem Mon.tree (M : Mon f x) {d : Nat} {l shape : List Int} (h : Wds l) (hd : IsD l.length d) (hs : Shape shape l.length) (hn : 0 < l.length) : nth (trF f d l shape shape.length).1 0 = scN f x l l.length := by
  obtain ⟨h1, h2, h3⟩ := M.tr h hd hs hn shape.length (Nat.le_refl _)
  have hI := trI_at f hd hs shape.length (Nat.le_refl _)
  have hsum := hI.many
  have hlen := hs.1
  have hle := hd.1
  have hfl := hI.flags
  have hz : ∀ i, 0 + 1 ≤ i → i < 0 + 1 + (l.length - 1) → nth (trF f d l shape shape.length).2 i ≠ 1 := fun i i1 i2 e => by
    have k0 : sumTo (trF f d l shape shape.length).2 1 = sumTo (trF f d l shape shape.length).2 0 + nth (trF f d l shape shape.length).2 0 := sumTo_succ (trF f d l shape shape.length).2 0 (by omega)
    have k1 := sumTo_mono hI.flg 1 (i - 1)
    rw [show 1 + (i - 1) = i by omega] at k1
    have k2 := sumTo_succ (trF f d l shape shape.length).2 i (by omega)
    have k3 := sumTo_mono hI.flg (i + 1) (2 ^ d - (i + 1))
    rw [show i + 1 + (2 ^ d - (i + 1)) = 2 ^ d by omega] at k3
    have k4 : sumTo (trF f d l shape shape.length).2 (2 ^ d) = (trF f d l shape shape.length).2.sum := by unfold sumTo; rw [List.take_of_length_le (by omega)]
    have k5 : sumTo (trF f d l shape shape.length).2 0 = 0 := rfl
    omega
  have e := pv_flat (f := f) (x := x) (ws := (trF f d l shape shape.length).1) (fs := (trF f d l shape shape.length).2) (p := 0 + 1) (l.length - 1) hz
  rw [show 0 + 1 + (l.length - 1) = l.length by omega, h3] at e
  rw [e]
  rw [pv_one h2]
  exact (M.left _ (h1.at 0)).symm
end
end Go.Proofs.YtecpanppnljkhaaGreatDoor
