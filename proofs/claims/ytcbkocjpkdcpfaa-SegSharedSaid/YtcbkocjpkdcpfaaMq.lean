/- SegShared's mathematics: what SegThere's, SegPieces' and its own texts say of pools, as one text. -/
import Derived.Test.YtcbkocjpkdcpfaaVa
import Derived.Test.YtcbkocjpkdcpfaaMg
import Derived.Test.YtcbkocjpkdcpfaaTs
/- Lengths alone share nothing: the mathematics. -/
section
namespace Go.Proofs.Ytcbkocjpkdcpfaa
set_option linter.unusedVariables false

theorem smL_fine (l : List Int) : Fine (smL l) ∧ (smL l).length ≤ 40 ∧ (smL l).sum ≤ 400 := by
  have hlen : (smL l).length ≤ 40 := smK_length l 40
  have hb : ∀ x ∈ smL l, 0 ≤ x ∧ x ≤ 9 := fun x hx => by
    unfold smL smK at hx
    obtain ⟨y, _, rfl⟩ := List.mem_map.1 hx
    omega
  have hpos : PosTo (smL l) (smL l).length := fun j hj => (hb _ (nth_mem _ j hj)).1
  have hsum : ∀ k, k ≤ (smL l).length → psum (smL l) k ≤ 10 * (k : Int) := by
    intro k
    induction k with
    | zero => intro _; rw [psum_zero]; omega
    | succ k ih =>
      intro hk
      rw [psum_succ _ k (by omega)]
      have := ih (by omega)
      have := (hb _ (nth_mem _ k (by omega))).2
      omega
  have := hsum (smL l).length (Nat.le_refl _)
  rw [psum_all] at this
  exact ⟨⟨by omega, hpos, by omega⟩, hlen, by omega⟩
theorem ck_fine {zs : List Int} (h : Fine zs) : ckE zs = 0 ∧ ckN zs = zs.sum := by
  obtain ⟨a, b⟩ := ck_short h.len
  obtain ⟨c, d⟩ := sumE_ok (isNeg_none zs h.pos) h.sum
  exact ⟨a.trans c, b.trans d⟩
theorem upL_add (a b : Nat) : upL (a + b) = upL a ++ plJ (a : Int) b := by
  unfold upL plJ
  rw [List.range_add, List.map_append, List.map_map]
  congr 1
theorem upL_succ (a : Nat) : upL (a + 1) = upL a ++ [(a : Int)] := by simp [upL, List.range_succ]
theorem upL_length (n : Nat) : (upL n).length = n := by simp [upL]
theorem count_upL (N p : Nat) : (upL N).count (p : Int) = if p < N then 1 else 0 := by
  induction N with
  | zero => simp [upL]
  | succ N ih =>
    rw [upL_succ, List.count_append, ih, List.count_singleton]
    by_cases h : p = N
    · subst h; simp
    · have : ¬ (N : Int) = (p : Int) := by omega
      by_cases h2 : p < N
      · simp [h2, this, show p < N + 1 by omega]
      · simp [h2, this, show ¬ p < N + 1 by omega]
/-- Once each. -/
structure Once (cnt : List Int) (N : Nat) : Prop where
  len : cnt.length = N
  one : ∀ k, k < N → nth cnt k = 1
theorem once_upL (N : Nat) : Once (cntL N (upL N)) N := ⟨cntL_length _ _, fun k hk => by rw [nth_cntL _ _ _ hk, count_upL, if_pos hk]; rfl⟩
section
variable {cnt : List Int} {N : Nat}
theorem Once.ad (h : Once cnt N) (s : Nat) (hs : s ≤ N) : adK cnt s = (s : Int) := by
  induction s with
  | zero => rfl
  | succ s ih =>
    rw [adK_one cnt s (by rw [h.one s (by omega)]; decide), ih (by omega)]
    simp
theorem Once.pc (h : Once cnt N) (s : Nat) (hs : s ≤ N) : pcK cnt s = upL s := by
  induction s with
  | zero => rfl
  | succ s ih =>
    rw [pcK_succ, if_neg (by rw [h.one s (by omega)]; decide), ih (by omega), upL_succ]
theorem Once.mx (h : Once cnt N) (s : Nat) (hs : s ≤ N) : mxK cnt s = min (s : Int) 1 := by
  induction s with
  | zero => rfl
  | succ s ih =>
    rw [mxK_succ cnt s (by rw [h.len]; omega), ih (by omega), h.one s (by omega)]
    omega
theorem Once.ts (h : Once cnt N) (s : Nat) (hs : s ≤ N) : tsF cnt s = if s = 0 then [] else [(0, (s : Int))] := by
  induction s with
  | zero => rfl
  | succ s ih =>
    have h1 : nth cnt s ≠ 0 := by rw [h.one s (by omega)]; decide
    unfold tsF
    rw [if_neg h1, ih (by omega)]
    by_cases h0 : s = 0
    · subst h0; simp
    · have h2 : ¬ (s = 0 ∨ nth cnt (s - 1) = 0) := by
        rintro (h3 | h3)
        · exact h0 h3
        · rw [h.one (s - 1) (by omega)] at h3; cases h3
      rw [if_neg h2, if_neg h0, if_neg (by omega)]
      have := setLen_snoc [] (0, (s : Int)) ((s : Int) + 1)
      simp only [List.nil_append] at this
      have hp := pth_last [] (0, (s : Int))
      simp only [List.nil_append, List.length_nil] at hp
      simp only [List.length_singleton, Nat.sub_self, hp, this]
      simp
end
theorem al_pl {zs : List Int} (h : Fine zs) (k : Nat) (hk : k ≤ zs.length) : plP (stL zs) zs (fr (stL zs).length k) = upL (psum zs k).toNat := by
  have hl := stL_length zs
  induction k with
  | zero => rw [psum_zero]; rfl
  | succ k ih =>
    have hk' : k < (stL zs).length := by omega
    rw [fr_succ _ k hk', plP_snoc, ih (by omega), nth_stL zs k (by omega), psum_succ zs k (by omega)]
    have h1 := (h.psum k (by omega)).1
    have h2 := (h.nth k (by omega)).1
    rw [show (psum zs k + nth zs k).toNat = (psum zs k).toNat + (nth zs k).toNat by omega, upL_add, plJ_all]
    congr 2
    omega
theorem al_all {zs : List Int} (h : Fine zs) : plL (stL zs) zs = upL zs.sum.toNat := by
  have := al_pl h zs.length (Nat.le_refl _)
  rw [psum_all] at this
  rw [← this]
  unfold plL
  rw [← fr_all, stL_length]
theorem al_sh {zs : List Int} (h : Fine zs) : shE (stL zs) zs zs.sum = 0 := by
  have h1 : fitE (stL zs).length zs.length = 0 := by
    have := h.len
    unfold fitE; rw [stL_length, if_neg (by omega), if_neg (by simp)]
  have h2 : poolOk (stL zs) zs zs.sum = true := poolOk_all fun k hk => by
    rw [stL_length] at hk
    have a := h.psum k (by omega)
    have b := h.nth k hk
    have c := psum_mono zs zs.length (Nat.le_refl _) h.pos (k + 1) zs.length (by omega) (Nat.le_refl _)
    rw [psum_succ zs k hk, psum_all] at c
    unfold okAt
    rw [nth_stL zs k hk]
    simp
    omega
  have hs := h.sum_nonneg
  have h3 := h.sum
  rw [(sh_sum h1 ⟨hs, h3⟩ h2).1, (sumE_ok (isNeg_none zs h.pos) h3).1]
theorem al_bg {zs : List Int} (h : Fine zs) (N : Nat) (hN : zs.sum = (N : Int)) : bgL (stL zs) zs N = stL zs := by
  have ho := once_upL N
  have hp := al_all h
  rw [hN, Int.toNat_natCast] at hp
  unfold bgL
  rw [hp]
  refine (List.map_congr_left fun x hx => ?_).trans (List.map_id _)
  obtain ⟨k, hk, rfl⟩ := List.getElem_of_mem hx
  rw [stL_length] at hk
  have a := h.psum k (by omega)
  have c := psum_mono zs zs.length (Nat.le_refl _) h.pos k zs.length (by omega) (Nat.le_refl _)
  rw [psum_all, hN] at c
  rw [← nth_eq _ _ (by rw [stL_length]; exact hk), nth_stL zs k hk, ho.ad _ (by omega)]
  simp
  omega
end Go.Proofs.Ytcbkocjpkdcpfaa
end
/- Pieces and nests: the mathematics. -/
section
namespace Go.Proofs.Ytcbkocjpkdcpfaa
set_option linter.unusedVariables false

theorem nsL_length (zs ys : List Int) : (nsL zs ys).length = zs.length := by simp [nsL]
theorem nth_nsL (zs ys : List Int) (k : Nat) (h : k < zs.length) : nth (nsL zs ys) k = nsK zs ys k := by
  rw [nth_eq _ _ (by rw [nsL_length]; exact h)]; simp [nsL]
theorem psum_nsL (zs ys : List Int) (j : Nat) (hj : j ≤ zs.length) : psum (nsL zs ys) j = psum ys (psum zs j).toNat := by
  induction j with
  | zero => rw [psum_zero, psum_zero]; exact (psum_zero ys).symm
  | succ j ih =>
    rw [psum_succ _ j (by rw [nsL_length]; omega), ih (by omega), nth_nsL zs ys j (by omega)]
    unfold nsK sg
    omega
theorem list_ext {a b : List Int} (hl : a.length = b.length) (h : ∀ k, k < a.length → nth a k = nth b k) : a = b := by
  apply List.ext_getElem hl
  intro i h1 h2
  have := h i h1
  rwa [nth_eq a i h1, nth_eq b i h2] at this
/-- What nests: fine lengths, as many as the others sum. -/
structure Nests (zs ys : List Int) : Prop where
  outer : Fine zs
  inner : Fine ys
  sum : zs.sum = (ys.length : Int)
section
variable {zs ys : List Int}
theorem Nests.le (h : Nests zs ys) (k : Nat) (hk : k ≤ zs.length) : (psum zs k).toNat ≤ ys.length := by
  have h1 := psum_mono zs zs.length (Nat.le_refl _) h.outer.pos k zs.length hk (Nat.le_refl _)
  rw [psum_all, h.sum] at h1
  omega
theorem Nests.err (h : Nests zs ys) : nsE zs ys = 0 := by
  unfold nsE
  rw [if_neg (by rw [(ck_fine h.outer).1]; simp), if_neg (by rw [(ck_fine h.inner).1]; simp), if_neg (by rw [h.sum]; simp)]
theorem Nests.total (h : Nests zs ys) : (nsL zs ys).sum = ys.sum := by
  rw [← psum_all, nsL_length, psum_nsL zs ys zs.length (Nat.le_refl _), psum_all, h.sum, Int.toNat_natCast, psum_all]
theorem Nests.fine (h : Nests zs ys) : Fine (nsL zs ys) := by
  refine ⟨by rw [nsL_length]; exact h.outer.len, fun j hj => ?_, by rw [h.total]; exact h.inner.sum⟩
  rw [nsL_length] at hj
  rw [nth_nsL zs ys j hj]
  have a := h.outer.psum j (by omega)
  have b := (h.outer.nth j hj).1
  have c := psum_succ zs j hj
  have := psum_mono ys ys.length (Nat.le_refl _) h.inner.pos (psum zs j).toNat (psum zs (j + 1)).toNat (by omega) (h.le (j + 1) (by omega))
  unfold nsK sg
  omega
end
theorem ns_assoc {cs zs ys : List Int} (h : Nests cs zs) : nsL (nsL cs zs) ys = nsL cs (nsL zs ys) := by
  refine list_ext (by simp only [nsL_length]) fun k hk => ?_
  simp only [nsL_length] at hk
  rw [nth_nsL _ _ _ (by rw [nsL_length]; exact hk), nth_nsL _ _ _ hk]
  unfold nsK sg
  rw [psum_nsL cs zs k (by omega), psum_nsL cs zs (k + 1) (by omega), psum_nsL zs ys _ (h.le k (by omega)), psum_nsL zs ys _ (h.le (k + 1) (by omega))]

/-! ### pieces -/
theorem ch_lo {n m j : Nat} (hm : 1 ≤ m) (h : j < chN n m) : j * m < n := by
  unfold chN at h
  have := (Nat.le_div_iff_mul_le (by omega : 0 < m)).1 (show j + 1 ≤ (n + m - 1) / m from h)
  rw [Nat.succ_mul] at this
  omega
theorem ch_hi (n m : Nat) (hm : 1 ≤ m) : n ≤ chN n m * m := by
  have := (Nat.div_lt_iff_lt_mul (by omega : 0 < m)).1 (show (n + m - 1) / m < chN n m + 1 from Nat.lt_succ_self _)
  rw [Nat.succ_mul] at this
  omega
theorem chK_sum (n m j : Nat) (hm : 1 ≤ m) (hj : j ≤ chN n m) : (chK n m j).sum = min (n : Int) ((j * m : Nat) : Int) := by
  induction j with
  | zero => simp [chK]; omega
  | succ j ih =>
    have h := ch_lo hm (show j < chN n m by omega)
    rw [chK_succ, List.sum_append, ih (by omega), List.sum_singleton, Nat.succ_mul]
    have e : (j : Int) * (m : Int) = ((j * m : Nat) : Int) := by simp
    rw [e]
    omega
theorem chL_sum (n m : Nat) (hm : 1 ≤ m) : (chL n m).sum = (n : Int) := by
  have := ch_hi n m hm
  unfold chL
  rw [chK_sum n m _ hm (Nat.le_refl _)]
  omega
theorem nth_chL (n m k : Nat) (hm : 1 ≤ m) (hk : k < chN n m) : 1 ≤ nth (chL n m) k ∧ nth (chL n m) k ≤ (m : Int) ∧ (k + 1 < chN n m → nth (chL n m) k = (m : Int)) := by
  have h1 := ch_lo hm hk
  rw [nth_eq _ _ (by rw [chL_length]; exact hk)]
  have e : (k : Int) * (m : Int) = ((k * m : Nat) : Int) := by simp
  simp only [chL, chK, List.getElem_map, List.getElem_range, e]
  refine ⟨by omega, by omega, fun h => ?_⟩
  have h2 := ch_lo hm h
  rw [Nat.succ_mul] at h2
  omega
theorem spPK_sum {zs : List Int} (hz : Fine zs) {m : Nat} (hm : 1 ≤ m) (k : Nat) (hk : k ≤ zs.length) : (spPK zs m k).sum = psum zs k := by
  induction k with
  | zero => rw [psum_zero]; rfl
  | succ k ih =>
    have := (hz.nth k (by omega)).1
    rw [spPK_succ, List.sum_append, ih (by omega), chL_sum _ _ hm, psum_succ zs k (by omega)]
    omega
theorem spOK_sum {zs : List Int} (hz : Fine zs) {m : Nat} (hm : 1 ≤ m) (k : Nat) : (spOK zs m k).sum = ((spPK zs m k).length : Int) := by
  induction k with
  | zero => rfl
  | succ k ih => rw [spOK_succ, spPK_succ, List.sum_append, List.length_append, chL_length, ih, List.sum_singleton]; simp
theorem spPK_le {zs : List Int} (hz : Fine zs) {m : Nat} (hm : 1 ≤ m) (k : Nat) (hk : k ≤ zs.length) : ((spPK zs m k).length : Int) ≤ psum zs k := by
  induction k with
  | zero => rw [psum_zero]; exact Int.le_refl _
  | succ k ih =>
    have h0 := (hz.nth k (by omega)).1
    have h1 := chN_le (nth zs k).toNat m hm
    have h2 := ih (by omega)
    rw [spPK_succ, List.length_append, chL_length, psum_succ zs k (by omega)]
    omega
theorem sp_split {zs : List Int} (hz : Fine zs) {m : Nat} (hm : 1 ≤ m) (k : Nat) : ∀ d, ∃ R, spPK zs m (k + d) = spPK zs m k ++ R := by
  intro d
  induction d with
  | zero => exact ⟨[], by simp⟩
  | succ d ih =>
    obtain ⟨R, h⟩ := ih
    exact ⟨R ++ chL (nth zs (k + d)).toNat m, by rw [show k + (d + 1) = k + d + 1 from rfl, spPK_succ, h, List.append_assoc]⟩
theorem sp_pre {zs : List Int} (hz : Fine zs) {m : Nat} (hm : 1 ≤ m) (k : Nat) (hk : k ≤ zs.length) : ∃ R, spP zs m = spPK zs m k ++ R := by
  obtain ⟨R, h⟩ := sp_split hz hm k (zs.length - k)
  rw [show k + (zs.length - k) = zs.length by omega] at h
  exact ⟨R, h⟩
theorem psum_spO {zs : List Int} (hz : Fine zs) {m : Nat} (hm : 1 ≤ m) (k : Nat) (hk : k ≤ zs.length) : psum (spO zs m) k = ((spPK zs m k).length : Int) := by
  rw [← spOK_sum hz hm k]
  unfold psum spO spOK
  rw [← List.map_take, List.take_range, Nat.min_eq_left hk]
theorem psum_spP {zs : List Int} (hz : Fine zs) {m : Nat} (hm : 1 ≤ m) (k : Nat) (hk : k ≤ zs.length) : psum (spP zs m) (spPK zs m k).length = psum zs k := by
  obtain ⟨R, h⟩ := sp_pre hz hm k hk
  rw [← spPK_sum hz hm k hk]
  unfold psum
  rw [h, List.take_left]
theorem nth_spP {zs : List Int} (hz : Fine zs) {m : Nat} (hm : 1 ≤ m) (i k : Nat) (hi : i < zs.length) (hk : k < chN (nth zs i).toNat m) : nth (spP zs m) ((spPK zs m i).length + k) = nth (chL (nth zs i).toNat m) k := by
  obtain ⟨R, h⟩ := sp_pre hz hm (i + 1) (by omega)
  rw [h, spPK_succ]
  unfold nth
  rw [List.getD_eq_getElem?_getD, List.append_assoc, List.getElem?_append_right (by omega), Nat.add_sub_cancel_left, List.getElem?_append_left (by rw [chL_length]; exact hk)]
  simp
theorem spP_pos {zs : List Int} (hz : Fine zs) {m : Nat} (hm : 1 ≤ m) (x : Int) (hx : x ∈ spP zs m) : 1 ≤ x ∧ x ≤ (m : Int) := by
  unfold spP at hx
  obtain ⟨k, _, hk⟩ := List.mem_flatMap.1 hx
  obtain ⟨j, hj, rfl⟩ := List.getElem_of_mem hk
  have hj' := hj
  rw [chL_length] at hj'
  have := nth_chL (nth zs k).toNat m j hm hj'
  rw [nth_eq _ _ hj] at this
  exact ⟨this.1, this.2.1⟩
theorem spP_len {zs : List Int} (hz : Fine zs) {m : Nat} (hm : 1 ≤ m) : ((spP zs m).length : Int) ≤ zs.sum := by
  have := spPK_le hz hm zs.length (Nat.le_refl _)
  rwa [psum_all] at this
theorem spP_sum {zs : List Int} (hz : Fine zs) {m : Nat} (hm : 1 ≤ m) : (spP zs m).sum = zs.sum := by
  have := spPK_sum hz hm zs.length (Nat.le_refl _)
  rwa [psum_all] at this
theorem sp_nests {zs : List Int} (hz : Fine zs) {m : Nat} (hm : 1 ≤ m) : Nests (spO zs m) (spP zs m) := by
  have hs := hz.sum
  have hl := spP_len hz hm
  have hlen := hz.len
  have hsum : (spO zs m).sum = ((spP zs m).length : Int) := spOK_sum hz hm zs.length
  have hol : (spO zs m).length = zs.length := by simp [spO]
  refine ⟨⟨by omega, fun j hj => ?_, by omega⟩, ⟨by omega, fun j hj => ?_, by rw [spP_sum hz hm]; exact hs⟩, hsum⟩
  · rw [nth_eq _ _ hj]; simp [spO]
  · have := (spP_pos hz hm _ (nth_mem _ j hj)).1; omega
theorem sp_back {zs : List Int} (hz : Fine zs) {m : Nat} (hm : 1 ≤ m) : nsL (spO zs m) (spP zs m) = zs := by
  have hol : (spO zs m).length = zs.length := by simp [spO]
  refine list_ext (by rw [nsL_length]; exact hol) fun k hk => ?_
  rw [nsL_length, hol] at hk
  rw [nth_nsL _ _ _ (by rw [hol]; exact hk)]
  unfold nsK sg
  rw [psum_spO hz hm k (by omega), psum_spO hz hm (k + 1) (by omega), Int.toNat_natCast, Int.toNat_natCast, psum_spP hz hm k (by omega), psum_spP hz hm (k + 1) (by omega), psum_succ zs k hk]
  omega
theorem sp_err {zs : List Int} (hz : Fine zs) {m : Nat} (hm : 1 ≤ m) {x : Int} (hx : x = (m : Int)) (hm2 : m ≤ 1048576) : spE zs x = 0 := by
  unfold spE
  rw [if_neg (by rw [(ck_fine hz).1]; simp), if_pos (by omega)]
theorem gr_inv (many n : Int) (h : 0 ≤ many) (k : Nat) : (grK many n k).1.sum + (grK many n k).2 = many ∧ (grK many n k).1.length ≤ k ∧ ∀ x ∈ (grK many n k).1, 0 ≤ x := by
  induction k with
  | zero => simp [grK]
  | succ k ih =>
    obtain ⟨h1, h2, h3⟩ := ih
    rw [grK_succ]; unfold grS
    have hb := grT_bnd n k
    by_cases h0 : 0 < (grK many n k).2
    · rw [if_pos h0]
      refine ⟨by simp only [List.sum_append]; simp; omega, by simp; omega, fun x hx => ?_⟩
      rcases List.mem_append.1 hx with hx | hx
      · exact h3 x hx
      · rw [List.mem_singleton.1 hx]; omega
    · rw [if_neg h0]; exact ⟨h1, by omega, h3⟩
theorem gr_fine (many n : Int) (h : 0 ≤ many) (h2 : many ≤ 750) : Fine (grK many n 1000).1 ∧ (grK many n 1000).1.sum = many := by
  obtain ⟨a, b, c⟩ := gr_inv many n h 1000
  have e := gr_end many n h h2
  exact ⟨⟨by omega, fun j hj => c _ (nth_mem _ j hj), by omega⟩, by omega⟩
end Go.Proofs.Ytcbkocjpkdcpfaa
end
/- Shared segments: the mathematics. -/
section
namespace Go.Proofs.Ytcbkocjpkdcpfaa
set_option linter.unusedVariables false

/-- Two lists in order with the same numbers are the same. -/
theorem sorted_ext : ∀ (a b : List Int), a.Pairwise (· < ·) → b.Pairwise (· < ·) → (∀ x, x ∈ a ↔ x ∈ b) → a = b
  | [], [], _, _, _ => rfl
  | [], y :: b, _, _, h => by have := (h y).2 (List.mem_cons_self ..); simp at this
  | x :: a, [], _, _, h => by have := (h x).1 (List.mem_cons_self ..); simp at this
  | x :: a, y :: b, ha, hb, h => by
    obtain ⟨a1, a2⟩ := List.pairwise_cons.1 ha
    obtain ⟨b1, b2⟩ := List.pairwise_cons.1 hb
    have e : x = y := by
      rcases List.mem_cons.1 ((h x).1 (List.mem_cons_self ..)) with e | hx
      · exact e
      · rcases List.mem_cons.1 ((h y).2 (List.mem_cons_self ..)) with e | hy
        · exact e.symm
        · have := b1 x hx; have := a1 y hy; omega
    subst e
    congr 1
    refine sorted_ext a b a2 b2 fun z => ⟨fun hz => ?_, fun hz => ?_⟩
    · rcases List.mem_cons.1 ((h z).1 (List.mem_cons_of_mem _ hz)) with e | hz'
      · have := a1 z hz; omega
      · exact hz'
    · rcases List.mem_cons.1 ((h z).2 (List.mem_cons_of_mem _ hz)) with e | hz'
      · have := b1 z hz; omega
      · exact hz'
/-! ### a number put into a list in order -/
structure PtInv (L : List Int) (n : Int) (k : Nat) (s : List Int × Bool) : Prop where
  open_ : s.2 = false → s.1 = L.take k ∧ ∀ x ∈ L.take k, x < n
  done_ : s.2 = true → (∀ x, x ∈ s.1 ↔ x = n ∨ x ∈ L.take k) ∧ s.1.Pairwise (· < ·) ∧ ∃ y ∈ L.take k, n ≤ y
theorem ptK_inv (L : List Int) (n : Int) (hL : L.Pairwise (· < ·)) (k : Nat) (hk : k ≤ L.length) : PtInv L n k (ptK L n k) := by
  induction k with
  | zero => exact ⟨fun _ => ⟨by simp [ptK], by simp⟩, fun h => by simp [ptK] at h⟩
  | succ k ih =>
    have hkl : k < L.length := by omega
    obtain ⟨h1, h2⟩ := ih (by omega)
    rw [ptK_succ L n k hkl]
    have hT := take_snoc L k hkl
    have hlt : ∀ x ∈ L.take k, x < nth L k := by
      have h3 : (L.take (k + 1)).Pairwise (· < ·) := hL.sublist (List.take_sublist _ _)
      rw [hT] at h3
      exact fun x hx => (List.pairwise_append.1 h3).2.2 x hx _ (List.mem_singleton.2 rfl)
    have hTs : (L.take k).Pairwise (· < ·) := hL.sublist (List.take_sublist _ _)
    generalize ptK L n k = s at *
    obtain ⟨o, b⟩ := s
    unfold ptS
    cases b with
    | false =>
      obtain ⟨ho, hn⟩ := h1 rfl
      simp only at ho
      subst ho
      by_cases hx : n ≤ nth L k
      · rw [if_pos ⟨rfl, hx⟩]
        refine ⟨(fun h => by cases h), fun _ => ⟨fun x => ?_, ?_, nth L k, by rw [hT]; simp, hx⟩⟩
        · rw [hT]
          by_cases h4 : n < nth L k
          · simp only [h4, if_true]; simp; constructor
            · rintro (h | h | h)
              · exact .inr (.inl h)
              · exact .inl h
              · exact .inr (.inr h)
            · rintro (h | h | h)
              · exact .inr (.inl h)
              · exact .inl h
              · exact .inr (.inr h)
          · have e : n = nth L k := by omega
            simp only [h4, if_false]
            exact ⟨Or.inr, fun h => h.elim (fun e2 => List.mem_append.2 (.inr (List.mem_singleton.2 (e2.trans e)))) id⟩
        · by_cases h4 : n < nth L k
          · simp only [h4, if_true]
            refine List.pairwise_append.2 ⟨List.pairwise_append.2 ⟨hTs, List.pairwise_singleton _ _, fun a ha b hb => ?_⟩, List.pairwise_singleton _ _, fun a ha b hb => ?_⟩
            · rw [List.mem_singleton.1 hb]; exact hn a ha
            · rw [List.mem_singleton.1 hb]
              rcases List.mem_append.1 ha with ha | ha
              · exact hlt a ha
              · rw [List.mem_singleton.1 ha]; exact h4
          · simp only [h4, if_false]
            exact List.pairwise_append.2 ⟨hTs, List.pairwise_singleton _ _, fun a ha b hb => by rw [List.mem_singleton.1 hb]; exact hlt a ha⟩
      · rw [if_neg (fun h => hx h.2)]
        refine ⟨fun _ => ⟨by simp only; rw [hT], fun x hx' => ?_⟩, fun h => by cases h⟩
        rw [hT] at hx'
        rcases List.mem_append.1 hx' with h | h
        · exact hn x h
        · rw [List.mem_singleton.1 h]; omega
    | true =>
      obtain ⟨hm, hs, y, hy, hny⟩ := h2 rfl
      simp only at hm hs
      rw [if_neg (fun h => by cases h.1)]
      refine ⟨(fun h => by cases h), fun _ => ⟨fun x => ?_, ?_, y, by rw [hT]; exact List.mem_append.2 (.inl hy), hny⟩⟩
      · simp only
        rw [hT, List.mem_append, List.mem_append, hm x]
        constructor
        · rintro ((h | h) | h)
          · exact .inl h
          · exact .inr (.inl h)
          · exact .inr (.inr h)
        · rintro (h | h | h)
          · exact .inl (.inl h)
          · exact .inl (.inr h)
          · exact .inr h
      · simp only
        refine List.pairwise_append.2 ⟨hs, List.pairwise_singleton _ _, fun a ha b hb => ?_⟩
        rw [List.mem_singleton.1 hb]
        rcases (hm a).1 ha with e | h
        · have := hlt y hy; omega
        · exact hlt a h
theorem putL_spec (L : List Int) (n : Int) (hL : L.Pairwise (· < ·)) : (putL L n).Pairwise (· < ·) ∧ ∀ x, x ∈ putL L n ↔ x = n ∨ x ∈ L := by
  obtain ⟨h1, h2⟩ := ptK_inv L n hL L.length (Nat.le_refl _)
  unfold putL
  generalize ptK L n L.length = s at *
  obtain ⟨o, b⟩ := s
  rw [List.take_length] at h1 h2
  cases b with
  | false =>
    obtain ⟨ho, hn⟩ := h1 rfl
    simp only at ho
    subst ho
    simp only [Bool.false_eq_true, if_false]
    refine ⟨List.pairwise_append.2 ⟨hL, List.pairwise_singleton _ _, fun a ha b hb => by rw [List.mem_singleton.1 hb]; exact hn a ha⟩, fun x => ?_⟩
    rw [List.mem_append, List.mem_singleton]
    exact Or.comm
  | true =>
    obtain ⟨hm, hs, _⟩ := h2 rfl
    simp only [if_true]
    exact ⟨hs, hm⟩
theorem unK_spec (l : List Int) (k : Nat) (hk : k ≤ l.length) : (unK l k).Pairwise (· < ·) ∧ ∀ x, x ∈ unK l k ↔ x ∈ l.take k := by
  induction k with
  | zero => exact ⟨by simp [unK], by simp [unK]⟩
  | succ k ih =>
    obtain ⟨h1, h2⟩ := ih (by omega)
    rw [unK_succ l k (by omega), take_snoc l k (by omega)]
    obtain ⟨h3, h4⟩ := putL_spec _ (nth l k) h1
    refine ⟨h3, fun x => ?_⟩
    rw [h4 x, h2 x, List.mem_append, List.mem_singleton]
    exact Or.comm
theorem unL_spec (l : List Int) : (unL l).Pairwise (· < ·) ∧ ∀ x, x ∈ unL l ↔ x ∈ l := by
  have := unK_spec l l.length (Nat.le_refl _)
  rwa [List.take_length] at this

/-! ### the touched places -/
theorem pcK_mem (cnt : List Int) (i : Nat) (x : Int) : x ∈ pcK cnt i ↔ 0 ≤ x ∧ x < (i : Int) ∧ nth cnt x.toNat ≠ 0 := by
  induction i with
  | zero => simp [pcK]; omega
  | succ i ih =>
    rw [pcK_succ]
    by_cases h : nth cnt i = 0
    · rw [if_pos h, ih]
      constructor
      · rintro ⟨a, b, c⟩; exact ⟨a, by omega, c⟩
      · rintro ⟨a, b, c⟩
        refine ⟨a, ?_, c⟩
        rcases Int.lt_or_le x i with h1 | h1
        · exact h1
        · exfalso; apply c; rw [show x.toNat = i by omega]; exact h
    · rw [if_neg h, List.mem_append, List.mem_singleton, ih]
      constructor
      · rintro (⟨a, b, c⟩ | e)
        · exact ⟨a, by omega, c⟩
        · subst e; exact ⟨by omega, by omega, by simpa using h⟩
      · rintro ⟨a, b, c⟩
        rcases Int.lt_or_le x i with h1 | h1
        · exact .inl ⟨a, h1, c⟩
        · exact .inr (by omega)
theorem adK_mono (cnt : List Int) (a d : Nat) : adK cnt a ≤ adK cnt (a + d) := by
  induction d with
  | zero => exact Int.le_refl _
  | succ d ih =>
    by_cases h : nth cnt (a + d) = 0
    · rw [show a + (d + 1) = a + d + 1 from rfl, adK_zero _ _ h]; exact ih
    · rw [show a + (d + 1) = a + d + 1 from rfl, adK_one _ _ h]; omega
/-- A run of touched places. -/
theorem adK_run (cnt : List Int) (s j : Nat) (h : ∀ i, i < j → nth cnt (s + i) ≠ 0) : adK cnt (s + j) = adK cnt s + (j : Int) := by
  induction j with
  | zero => simp
  | succ j ih =>
    rw [show s + (j + 1) = s + j + 1 from rfl, adK_one _ _ (h j (by omega)), ih (fun i hi => h i (by omega))]
    simp; omega
theorem pcK_at (cnt : List Int) (N p : Nat) (hp : p < N) (h : nth cnt p ≠ 0) : (adK cnt p).toNat < (pcK cnt N).length ∧ nth (pcK cnt N) (adK cnt p).toNat = (p : Int) := by
  obtain ⟨R, hR, _⟩ := pcK_split cnt (p + 1) (N - (p + 1))
  rw [show p + 1 + (N - (p + 1)) = N by omega, pcK_succ, if_neg h] at hR
  have hl := pcK_length cnt p
  have e : (adK cnt p).toNat = (pcK cnt p).length := by omega
  rw [e, hR]
  refine ⟨by simp, ?_⟩
  unfold nth
  rw [List.getD_eq_getElem?_getD, List.append_assoc, List.getElem?_append_right (Nat.le_refl _), Nat.sub_self]
  rfl
end Go.Proofs.Ytcbkocjpkdcpfaa
end
/- Shared segments: their places in the pool, and in the compact one. -/
section
namespace Go.Proofs.Ytcbkocjpkdcpfaa
set_option linter.unusedVariables false

theorem mem_plJ {ss ls : List Int} {x : Int} : x ∈ plL ss ls ↔ ∃ k j : Nat, k < ss.length ∧ (j : Int) < nth ls k ∧ x = nth ss k + (j : Int) := by
  unfold plL plP
  rw [List.mem_flatMap]
  constructor
  · rintro ⟨k, _, hk⟩
    unfold plS at hk
    obtain ⟨j, hj, rfl⟩ := List.mem_map.1 hk
    have := List.mem_range.1 hj
    exact ⟨k.val, j, k.isLt, by omega, rfl⟩
  · rintro ⟨k, j, hk, hj, rfl⟩
    exact ⟨⟨k, hk⟩, List.mem_finRange _, by
      unfold plS
      exact List.mem_map.2 ⟨j, List.mem_range.2 (by simp only; omega), rfl⟩⟩
section
variable {ss ls : List Int} {N : Nat}
theorem all_bnd (hP : Pool ss ls N) {x : Int} (hx : x ∈ plL ss ls) : 0 ≤ x ∧ x < (N : Int) := by
  obtain ⟨k, j, hk, hj, rfl⟩ := mem_plJ.1 hx
  have := hP.at_ k hk
  omega
theorem all_cnt (hP : Pool ss ls N) (p : Nat) (hp : p < N) : nth (cntL N (plL ss ls)) p ≠ 0 ↔ (p : Int) ∈ plL ss ls := by
  rw [nth_cntL _ _ _ hp, ← List.count_pos_iff]
  omega
theorem all_touched (hP : Pool ss ls N) {x : Int} (hx : x ∈ plL ss ls) : nth (cntL N (plL ss ls)) x.toNat ≠ 0 := by
  have := all_bnd hP hx
  rw [all_cnt hP _ (by omega)]
  rwa [show ((x.toNat : Nat) : Int) = x by omega]
theorem all_union (hP : Pool ss ls N) : unL (plL ss ls) = pcK (cntL N (plL ss ls)) N := by
  obtain ⟨h1, h2⟩ := unL_spec (plL ss ls)
  refine sorted_ext _ _ h1 (pcK_sorted _ _) fun x => ?_
  rw [h2 x, pcK_mem]
  constructor
  · intro hx
    have := all_bnd hP hx
    exact ⟨this.1, this.2, all_touched hP hx⟩
  · rintro ⟨a, b, c⟩
    rw [all_cnt hP _ (by omega)] at c
    rwa [show ((x.toNat : Nat) : Int) = x by omega] at c
theorem seg_run (hP : Pool ss ls N) (k : Nat) (hk : k < ss.length) (j : Nat) (hj : (j : Int) ≤ nth ls k) : adK (cntL N (plL ss ls)) ((nth ss k).toNat + j) = adK (cntL N (plL ss ls)) (nth ss k).toNat + (j : Int) := by
  have hat := hP.at_ k hk
  refine adK_run _ _ _ fun i hi => ?_
  rw [all_cnt hP _ (by omega)]
  exact mem_plJ.2 ⟨k, i, hk, by omega, by omega⟩
theorem bg_places (hP : Pool ss ls N) : plL (bgL ss ls N) ls = (plL ss ls).map fun x => adK (cntL N (plL ss ls)) x.toNat := by
  have hlen := bgL_length ss ls N
  have h1 : ∀ k, k ≤ ss.length → plP (bgL ss ls N) ls (fr (bgL ss ls N).length k) = (plP ss ls (fr ss.length k)).map fun x => adK (cntL N (plL ss ls)) x.toNat := by
    intro k
    induction k with
    | zero => intro _; rfl
    | succ k ih =>
      intro hk
      have hat := hP.at_ k (by omega)
      rw [fr_succ _ k (by omega), fr_succ _ k (by omega), plP_snoc, plP_snoc, List.map_append, ih (by omega)]
      congr 1
      simp only
      rw [nth_bgL ss ls N k (by omega)]
      unfold plS
      rw [List.map_map]
      refine List.map_congr_left fun j hj => ?_
      have hj := List.mem_range.1 hj
      simp only [Function.comp]
      rw [show (nth ss k + (j : Int)).toNat = (nth ss k).toNat + j by omega, seg_run hP k (by omega) j (by omega)]
  have h2 := h1 ss.length (Nat.le_refl _)
  have e1 : plL (bgL ss ls N) ls = plP (bgL ss ls N) ls (fr (bgL ss ls N).length (bgL ss ls N).length) := by unfold plL; rw [fr_all]
  have e2 : plL ss ls = plP ss ls (fr ss.length ss.length) := by unfold plL; rw [fr_all]
  rw [hlen] at h2 e1
  exact e1.trans (h2.trans (by rw [← e2]))
theorem bg_pool (hP : Pool ss ls N) : shE (bgL ss ls N) ls ((pcK (cntL N (plL ss ls)) N).length : Nat) = 0 := by
  have hlen := bgL_length ss ls N
  have hl := pcK_length (cntL N (plL ss ls)) N
  have hb := adK_bnd (cntL N (plL ss ls)) N
  have hN := hP.size
  have hM := hP.many
  have h1 : fitE (bgL ss ls N).length ls.length = 0 := by
    unfold fitE; rw [hlen, hP.len, if_neg (by omega), if_neg (by simp)]
  have h2 : poolOk (bgL ss ls N) ls ((pcK (cntL N (plL ss ls)) N).length : Nat) = true := poolOk_all fun k hk => by
    rw [hlen] at hk
    have hat := hP.at_ k hk
    have hr := seg_run hP k hk (nth ls k).toNat (by omega)
    have hm := adK_mono (cntL N (plL ss ls)) ((nth ss k).toNat + (nth ls k).toNat) (N - ((nth ss k).toNat + (nth ls k).toNat))
    rw [show (nth ss k).toNat + (nth ls k).toNat + (N - ((nth ss k).toNat + (nth ls k).toNat)) = N by omega] at hm
    have h0 := (adK_bnd (cntL N (plL ss ls)) (nth ss k).toNat).1
    unfold okAt
    rw [nth_bgL ss ls N k hk]
    simp only [decide_eq_true_eq]
    omega
  have h3 : PosTo ls ls.length := fun j hj => (hP.at_ j (by rw [← hP.len]; exact hj)).2.1
  rw [(sh_sum h1 ⟨by omega, by omega⟩ h2).1, (sumE_ok (isNeg_none ls h3) hP.sum).1]
/-- An element's place in the compact pool, led back. -/
theorem bg_at (hP : Pool ss ls N) (k : Nat) (hk : k < (plL ss ls).length) : ∃ q : Nat, nth (plL (bgL ss ls N) ls) k = (q : Int) ∧ q < (pcK (cntL N (plL ss ls)) N).length ∧ nth (pcK (cntL N (plL ss ls)) N) q = nth (plL ss ls) k := by
  have hx := nth_mem _ k hk
  have hb := all_bnd hP hx
  have ht := all_touched hP hx
  obtain ⟨h1, h2⟩ := pcK_at (cntL N (plL ss ls)) N (nth (plL ss ls) k).toNat (by omega) ht
  have h0 := (adK_bnd (cntL N (plL ss ls)) (nth (plL ss ls) k).toNat).1
  refine ⟨_, ?_, h1, ?_⟩
  · rw [bg_places hP, nth_eq _ _ (by rw [List.length_map]; exact hk), List.getElem_map, ← nth_eq _ _ hk]
    omega
  · rw [h2]; omega
end
/-! ### how often a place comes, at the most -/
def mcK (l : List Int) (k : Nat) : Int := mxK (l.map fun x => ((l.count x : Nat) : Int)) k
theorem mxK_le (l : List Int) (k : Nat) (hk : k ≤ l.length) (b : Int) (h0 : 0 ≤ b) (h : ∀ j, j < k → nth l j ≤ b) : mxK l k ≤ b := by
  induction k with
  | zero => exact h0
  | succ k ih =>
    rw [mxK_succ l k (by omega)]
    have := ih (by omega) fun j hj => h j (by omega)
    have := h k (by omega)
    omega
theorem mxK_ge (l : List Int) (k : Nat) (hk : k ≤ l.length) : 0 ≤ mxK l k ∧ ∀ j, j < k → nth l j ≤ mxK l k := by
  induction k with
  | zero => exact ⟨Int.le_refl _, fun j hj => by omega⟩
  | succ k ih =>
    obtain ⟨a, b⟩ := ih (by omega)
    rw [mxK_succ l k (by omega)]
    refine ⟨by omega, fun j hj => ?_⟩
    by_cases e : j = k
    · subst e; omega
    · have := b j (by omega); omega
theorem nth_counts (l : List Int) (k : Nat) (hk : k < l.length) : nth (l.map fun x => ((l.count x : Nat) : Int)) k = ((l.count (nth l k) : Nat) : Int) := by
  rw [nth_eq _ _ (by rw [List.length_map]; exact hk), List.getElem_map, nth_eq l k hk]
theorem mc_depth {ss ls : List Int} {N : Nat} (hP : Pool ss ls N) : mxL (cntL N (plL ss ls)) = mcK (plL ss ls) (plL ss ls).length := by
  unfold mxL mcK
  rw [cntL_length]
  obtain ⟨a0, a⟩ := mxK_ge (cntL N (plL ss ls)) N (by rw [cntL_length]; exact Nat.le_refl _)
  obtain ⟨b0, b⟩ := mxK_ge ((plL ss ls).map fun x => (((plL ss ls).count x : Nat) : Int)) (plL ss ls).length (by rw [List.length_map]; exact Nat.le_refl _)
  refine Int.le_antisymm (mxK_le _ _ (by rw [cntL_length]; exact Nat.le_refl _) _ b0 fun j hj => ?_) (mxK_le _ _ (by rw [List.length_map]; exact Nat.le_refl _) _ a0 fun j hj => ?_)
  · rw [nth_cntL _ _ _ hj]
    by_cases h : (j : Int) ∈ plL ss ls
    · obtain ⟨k, hk, e⟩ := List.getElem_of_mem h
      have := b k hk
      rw [nth_counts _ k hk, nth_eq _ _ hk, e] at this
      exact this
    · rw [List.count_eq_zero.2 h]; exact b0
  · rw [nth_counts _ j hj]
    have hx := nth_mem _ j hj
    have hb := all_bnd hP hx
    have := a (nth (plL ss ls) j).toNat (by omega)
    rw [nth_cntL _ _ _ (by omega)] at this
    rwa [show (((nth (plL ss ls) j).toNat : Nat) : Int) = nth (plL ss ls) j by omega] at this
end Go.Proofs.Ytcbkocjpkdcpfaa
end
/- Shared segments: the pool that numbers choose; spans and the compact pool. -/
section
namespace Go.Proofs.Ytcbkocjpkdcpfaa
set_option linter.unusedVariables false

theorem ppL_take_succ (J : List (Int × Int)) (k : Nat) (h : k < J.length) : ppL (J.take (k + 1)) = ppL (J.take k) ++ plS (pth J k).1 (pth J k).2 := by
  rw [List.take_succ_eq_append_getElem h, ppL_snoc, pth_eq J k h]
theorem ppL_pre (J : List (Int × Int)) (k : Nat) : ∃ R, ppL J = ppL (J.take k) ++ R := by
  refine ⟨ppL (J.drop k), ?_⟩
  rw [ppL_eq, ppL_eq, ppL_eq, ← List.flatMap_append, List.take_append_drop]
theorem plS_length (s l : Int) : (plS s l).length = l.toNat := by simp [plS]
/-- What the law asks of each span. -/
theorem span_at {cnt : List Int} {N : Nat} (k : Nat) (hk : k < (tsF cnt N).length) :
    0 < (pth (tsF cnt N) k).2 ∧ (pth (tsF cnt N) k).1 + (pth (tsF cnt N) k).2 ≤ (N : Int) ∧ 0 ≤ (pth (tsF cnt N) k).1 ∧
    (0 < k → (pth (tsF cnt N) (k - 1)).1 + (pth (tsF cnt N) (k - 1)).2 < (pth (tsF cnt N) k).1) ∧
    (ppL ((tsF cnt N).take (k + 1))).length = (ppL ((tsF cnt N).take k)).length + (pth (tsF cnt N) k).2.toNat ∧
    (ppL ((tsF cnt N).take (k + 1))).length ≤ (pcK cnt N).length ∧
    ∀ j : Nat, (j : Int) < (pth (tsF cnt N) k).2 → nth (pcK cnt N) ((ppL ((tsF cnt N).take k)).length + j) = (pth (tsF cnt N) k).1 + (j : Int) := by
  have hinv := tsF_inv cnt N
  have hm : pth (tsF cnt N) k ∈ tsF cnt N := by rw [pth_eq _ _ hk]; exact List.getElem_mem hk
  have hsucc := ppL_take_succ (tsF cnt N) k hk
  refine ⟨hinv.canon.pos _ hm, hinv.ends _ hm, (hinv.bnd _ hm).1, fun h0 => ?_, ?_, ?_, fun j hj => ?_⟩
  · have := List.pairwise_iff_getElem.1 hinv.canon.apart (k - 1) k (by omega) hk (by omega)
    rw [pth_eq _ _ (by omega), pth_eq _ _ hk]
    exact this
  · rw [hsucc, List.length_append, plS_length]
  · obtain ⟨R, h⟩ := ppL_pre (tsF cnt N) (k + 1)
    rw [← ppL_tsF, h, List.length_append]
    omega
  · obtain ⟨R, h⟩ := ppL_pre (tsF cnt N) (k + 1)
    rw [← ppL_tsF, h, hsucc]
    unfold nth
    rw [List.getD_eq_getElem?_getD, List.append_assoc, List.getElem?_append_right (by omega), Nat.add_sub_cancel_left, List.getElem?_append_left (by rw [plS_length]; omega)]
    unfold plS
    rw [List.getElem?_map, List.getElem?_range (by omega)]
    rfl
theorem span_end {cnt : List Int} {N : Nat} : (ppL ((tsF cnt N).take (tsF cnt N).length)).length = (pcK cnt N).length := by rw [List.take_length, ppL_tsF]
end Go.Proofs.Ytcbkocjpkdcpfaa
end
