/- Lengths alone share nothing: the mathematics. -/
import Derived.Test.YtcbkocjpkdcpfaaVa
namespace Go.Proofs.Ytcbkocjpkdcpfaa
set_option linter.unusedVariables false

theorem smL_fine (l : List Int) : Fine (smL l) ∧ (smL l).length ≤ 40 ∧ (smL l).sum ≤ 400 := by
  have hlen : (smL l).length ≤ 40 := smK_length l 40
  have hb : ∀ x ∈ smL l, 0 ≤ x ∧ x ≤ 9 := fun x hx => by
    unfold smL smK at hx
    obtain ⟨y, _, rfl⟩ := List.mem_map.1 hx
    omega
  have hpos : PosTo (smL l) (smL l).length := fun j hj => (hb _ (nth_mem _ j hj)).1
  have hsum : ∀ k, k ≤ (smL l).length → psum (smL l) k ≤ 10 * (k : Int) := by
    intro k
    induction k with
    | zero => intro _; rw [psum_zero]; omega
    | succ k ih =>
      intro hk
      rw [psum_succ _ k (by omega)]
      have := ih (by omega)
      have := (hb _ (nth_mem _ k (by omega))).2
      omega
  have := hsum (smL l).length (Nat.le_refl _)
  rw [psum_all] at this
  exact ⟨⟨by omega, hpos, by omega⟩, hlen, by omega⟩
theorem ck_fine {zs : List Int} (h : Fine zs) : ckE zs = 0 ∧ ckN zs = zs.sum := by
  obtain ⟨a, b⟩ := ck_short h.len
  obtain ⟨c, d⟩ := sumE_ok (isNeg_none zs h.pos) h.sum
  exact ⟨a.trans c, b.trans d⟩
theorem upL_add (a b : Nat) : upL (a + b) = upL a ++ plJ (a : Int) b := by
  unfold upL plJ
  rw [List.range_add, List.map_append, List.map_map]
  congr 1
theorem upL_succ (a : Nat) : upL (a + 1) = upL a ++ [(a : Int)] := by simp [upL, List.range_succ]
theorem upL_length (n : Nat) : (upL n).length = n := by simp [upL]
theorem count_upL (N p : Nat) : (upL N).count (p : Int) = if p < N then 1 else 0 := by
  induction N with
  | zero => simp [upL]
  | succ N ih =>
    rw [upL_succ, List.count_append, ih, List.count_singleton]
    by_cases h : p = N
    · subst h; simp
    · have : ¬ (N : Int) = (p : Int) := by omega
      by_cases h2 : p < N
      · simp [h2, this, show p < N + 1 by omega]
      · simp [h2, this, show ¬ p < N + 1 by omega]
/-- Once each. -/
structure Once (cnt : List Int) (N : Nat) : Prop where
  len : cnt.length = N
  one : ∀ k, k < N → nth cnt k = 1
theorem once_upL (N : Nat) : Once (cntL N (upL N)) N := ⟨cntL_length _ _, fun k hk => by rw [nth_cntL _ _ _ hk, count_upL, if_pos hk]; rfl⟩
section
variable {cnt : List Int} {N : Nat}
theorem Once.ad (h : Once cnt N) (s : Nat) (hs : s ≤ N) : adK cnt s = (s : Int) := by
  induction s with
  | zero => rfl
  | succ s ih =>
    rw [adK_one cnt s (by rw [h.one s (by omega)]; decide), ih (by omega)]
    simp
theorem Once.pc (h : Once cnt N) (s : Nat) (hs : s ≤ N) : pcK cnt s = upL s := by
  induction s with
  | zero => rfl
  | succ s ih =>
    rw [pcK_succ, if_neg (by rw [h.one s (by omega)]; decide), ih (by omega), upL_succ]
theorem Once.mx (h : Once cnt N) (s : Nat) (hs : s ≤ N) : mxK cnt s = min (s : Int) 1 := by
  induction s with
  | zero => rfl
  | succ s ih =>
    rw [mxK_succ cnt s (by rw [h.len]; omega), ih (by omega), h.one s (by omega)]
    omega
theorem Once.ts (h : Once cnt N) (s : Nat) (hs : s ≤ N) : tsF cnt s = if s = 0 then [] else [(0, (s : Int))] := by
  induction s with
  | zero => rfl
  | succ s ih =>
    have h1 : nth cnt s ≠ 0 := by rw [h.one s (by omega)]; decide
    unfold tsF
    rw [if_neg h1, ih (by omega)]
    by_cases h0 : s = 0
    · subst h0; simp
    · have h2 : ¬ (s = 0 ∨ nth cnt (s - 1) = 0) := by
        rintro (h3 | h3)
        · exact h0 h3
        · rw [h.one (s - 1) (by omega)] at h3; cases h3
      rw [if_neg h2, if_neg h0, if_neg (by omega)]
      have := setLen_snoc [] (0, (s : Int)) ((s : Int) + 1)
      simp only [List.nil_append] at this
      have hp := pth_last [] (0, (s : Int))
      simp only [List.nil_append, List.length_nil] at hp
      simp only [List.length_singleton, Nat.sub_self, hp, this]
      simp
end
theorem al_pl {zs : List Int} (h : Fine zs) (k : Nat) (hk : k ≤ zs.length) : plP (stL zs) zs (fr (stL zs).length k) = upL (psum zs k).toNat := by
  have hl := stL_length zs
  induction k with
  | zero => rw [psum_zero]; rfl
  | succ k ih =>
    have hk' : k < (stL zs).length := by omega
    rw [fr_succ _ k hk', plP_snoc, ih (by omega), nth_stL zs k (by omega), psum_succ zs k (by omega)]
    have h1 := (h.psum k (by omega)).1
    have h2 := (h.nth k (by omega)).1
    rw [show (psum zs k + nth zs k).toNat = (psum zs k).toNat + (nth zs k).toNat by omega, upL_add, plJ_all]
    congr 2
    omega
theorem al_all {zs : List Int} (h : Fine zs) : plL (stL zs) zs = upL zs.sum.toNat := by
  have := al_pl h zs.length (Nat.le_refl _)
  rw [psum_all] at this
  rw [← this]
  unfold plL
  rw [← fr_all, stL_length]
theorem al_sh {zs : List Int} (h : Fine zs) : shE (stL zs) zs zs.sum = 0 := by
  have h1 : fitE (stL zs).length zs.length = 0 := by
    have := h.len
    unfold fitE; rw [stL_length, if_neg (by omega), if_neg (by simp)]
  have h2 : poolOk (stL zs) zs zs.sum = true := poolOk_all fun k hk => by
    rw [stL_length] at hk
    have a := h.psum k (by omega)
    have b := h.nth k hk
    have c := psum_mono zs zs.length (Nat.le_refl _) h.pos (k + 1) zs.length (by omega) (Nat.le_refl _)
    rw [psum_succ zs k hk, psum_all] at c
    unfold okAt
    rw [nth_stL zs k hk]
    simp
    omega
  have hs := h.sum_nonneg
  have h3 := h.sum
  rw [(sh_sum h1 ⟨hs, h3⟩ h2).1, (sumE_ok (isNeg_none zs h.pos) h3).1]
theorem al_bg {zs : List Int} (h : Fine zs) (N : Nat) (hN : zs.sum = (N : Int)) : bgL (stL zs) zs N = stL zs := by
  have ho := once_upL N
  have hp := al_all h
  rw [hN, Int.toNat_natCast] at hp
  unfold bgL
  rw [hp]
  refine (List.map_congr_left fun x hx => ?_).trans (List.map_id _)
  obtain ⟨k, hk, rfl⟩ := List.getElem_of_mem hx
  rw [stL_length] at hk
  have a := h.psum k (by omega)
  have c := psum_mono zs zs.length (Nat.le_refl _) h.pos k zs.length (by omega) (Nat.le_refl _)
  rw [psum_all, hN] at c
  rw [← nth_eq _ _ (by rw [stL_length]; exact hk), nth_stL zs k hk, ho.ad _ (by omega)]
  simp
  omega
end Go.Proofs.Ytcbkocjpkdcpfaa
