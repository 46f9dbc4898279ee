/- The compact pool's mathematics: the touched places, and how many are ahead of a place. -/
import Derived.Test.YtcbkocjpkdcpfaaTm
namespace Go.Proofs.Ytcbkocjpkdcpfaa
set_option linter.unusedVariables false

theorem map_pth (ps : List (Int × Int)) : ((List.finRange ps.length).map fun x => pth ps x.val) = ps := by
  apply List.ext_getElem
  · simp
  · intro i h1 h2
    simp only [List.getElem_map, List.getElem_finRange]
    exact pth_eq ps i h2
theorem ppL_eq (ps : List (Int × Int)) : ppL ps = ps.flatMap fun x => plS x.1 x.2 := by
  have h : ppL ps = ((List.finRange ps.length).map fun x => pth ps x.val).flatMap fun x => plS x.1 x.2 := by
    unfold ppL gpP
    rw [List.flatMap_map]
  rw [h, map_pth]
theorem ppL_snoc (ps : List (Int × Int)) (x : Int × Int) : ppL (ps ++ [x]) = ppL ps ++ plS x.1 x.2 := by rw [ppL_eq, ppL_eq]; simp
/-- The touched places below k. -/
def pcK (cnt : List Int) : Nat → List Int
  | 0 => []
  | i + 1 => if nth cnt i = 0 then pcK cnt i else pcK cnt i ++ [(i : Int)]
/-- How many they are. -/
def adK (cnt : List Int) : Nat → Int
  | 0 => 0
  | i + 1 => if nth cnt i = 0 then adK cnt i else adK cnt i + 1
theorem pcK_succ (cnt : List Int) (i : Nat) : pcK cnt (i + 1) = if nth cnt i = 0 then pcK cnt i else pcK cnt i ++ [(i : Int)] := rfl
theorem pcK_length (cnt : List Int) (i : Nat) : ((pcK cnt i).length : Int) = adK cnt i := by
  induction i with
  | zero => rfl
  | succ i ih =>
    unfold pcK adK
    by_cases h : nth cnt i = 0
    · rw [if_pos h, if_pos h]; exact ih
    · rw [if_neg h, if_neg h, List.length_append, ← ih]; simp
theorem adK_bnd (cnt : List Int) (i : Nat) : 0 ≤ adK cnt i ∧ adK cnt i ≤ (i : Int) := by
  induction i with
  | zero => simp [adK]
  | succ i ih =>
    unfold adK
    by_cases h : nth cnt i = 0
    · rw [if_pos h]; omega
    · rw [if_neg h]; omega
theorem pcK_lt (cnt : List Int) (i : Nat) : ∀ x ∈ pcK cnt i, 0 ≤ x ∧ x < (i : Int) := by
  induction i with
  | zero => simp [pcK]
  | succ i ih =>
    intro x hx
    unfold pcK at hx
    by_cases h : nth cnt i = 0
    · rw [if_pos h] at hx; have := ih x hx; omega
    · rw [if_neg h] at hx
      rcases List.mem_append.1 hx with hx | hx
      · have := ih x hx; omega
      · rw [List.mem_singleton.1 hx]; omega
/-- Behind the places below i come those from i on. -/
theorem pcK_split (cnt : List Int) (i : Nat) : ∀ d, ∃ R, pcK cnt (i + d) = pcK cnt i ++ R ∧ ∀ x ∈ R, (i : Int) ≤ x := by
  intro d
  induction d with
  | zero => exact ⟨[], by simp, by simp⟩
  | succ d ih =>
    obtain ⟨R, h1, h2⟩ := ih
    rw [show i + (d + 1) = (i + d) + 1 from rfl, pcK_succ]
    by_cases h : nth cnt (i + d) = 0
    · rw [if_pos h]; exact ⟨R, h1, h2⟩
    · rw [if_neg h, h1]
      refine ⟨R ++ [((i + d : Nat) : Int)], by rw [List.append_assoc], fun x hx => ?_⟩
      rcases List.mem_append.1 hx with hx | hx
      · exact h2 x hx
      · rw [List.mem_singleton.1 hx]; omega
theorem pcK_sorted (cnt : List Int) (i : Nat) : (pcK cnt i).Pairwise (· < ·) := by
  induction i with
  | zero => exact List.Pairwise.nil
  | succ i ih =>
    unfold pcK
    by_cases h : nth cnt i = 0
    · rw [if_pos h]; exact ih
    · rw [if_neg h]
      exact List.pairwise_append.2 ⟨ih, List.pairwise_singleton _ _, fun a ha b hb => by rw [List.mem_singleton.1 hb]; exact (pcK_lt cnt i a ha).2⟩
/-- The places of the spans are the touched places. -/
theorem ppL_tsF (cnt : List Int) (i : Nat) : ppL (tsF cnt i) = pcK cnt i := by
  induction i with
  | zero => rfl
  | succ i ih =>
    unfold tsF pcK
    by_cases h0 : nth cnt i = 0
    · rw [if_pos h0, if_pos h0]; exact ih
    · rw [if_neg h0, if_neg h0]
      by_cases h1 : i = 0 ∨ nth cnt (i - 1) = 0
      · rw [if_pos h1, ppL_snoc, ih]
        congr 1
      · rw [if_neg h1]
        have hinv := tsF_inv cnt i
        obtain ⟨L, t, hJ, ht⟩ := hinv.run h1
        have hpos := hinv.canon.pos t (by rw [hJ]; exact List.mem_append.2 (.inr (List.mem_singleton.2 rfl)))
        rw [← ih, hJ, List.length_append, List.length_singleton, Nat.add_sub_cancel, pth_last, setLen_snoc, ppL_snoc, ppL_snoc, List.append_assoc]
        congr 1
        simp only
        rw [plJ_all, plJ_all, show (t.2 + 1).toNat = t.2.toNat + 1 by omega, plJ_succ]
        congr 2
        omega
theorem ppL_tsL (ss ls : List Int) (N : Nat) : ppL (tsL ss ls N) = pcK (cntL N (plL ss ls)) N := ppL_tsF _ _
/-- Where a search ends is how many are ahead. -/
theorem search_eq (cnt : List Int) (N s n : Nat) (hs : s ≤ N) (hn : n ≤ (pcK cnt N).length) (h1 : ∀ j, j < n → nth (pcK cnt N) j < (s : Int)) (h2 : ∀ j, n ≤ j → j < (pcK cnt N).length → (s : Int) ≤ nth (pcK cnt N) j) : (n : Int) = adK cnt s := by
  obtain ⟨R, hR, hR2⟩ := pcK_split cnt s (N - s)
  rw [show s + (N - s) = N by omega] at hR
  rw [← pcK_length]
  rw [hR] at hn h1 h2
  rcases Nat.lt_trichotomy n (pcK cnt s).length with h | h | h
  · exfalso
    have := h2 n (Nat.le_refl _) (by rw [List.length_append]; omega)
    rw [nth_eq _ _ (by rw [List.length_append]; omega), List.getElem_append_left h] at this
    have := (pcK_lt cnt s _ (List.getElem_mem h)).2
    omega
  · rw [h]
  · exfalso
    rw [List.length_append] at hn
    have := h1 (pcK cnt s).length h
    rw [nth_eq _ _ (by rw [List.length_append]; omega), List.getElem_append_right (Nat.le_refl _)] at this
    have := hR2 _ (List.getElem_mem (l := R) (n := (pcK cnt s).length - (pcK cnt s).length) (by omega))
    omega
/-- Where segments begin in the compact pool. -/
def bgL (ss ls : List Int) (N : Nat) : List Int := ss.map fun s => adK (cntL N (plL ss ls)) s.toNat
end Go.Proofs.Ytcbkocjpkdcpfaa
