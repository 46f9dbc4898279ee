/- Spans that touch no other: one list for each set of places. -/
import Derived.Test.YtcbkocjpkdcpfaaTi
namespace Go.Proofs.Ytcbkocjpkdcpfaa
set_option linter.unusedVariables false

def cov (ps : List (Int × Int)) (p : Int) : Prop := ∃ x ∈ ps, x.1 ≤ p ∧ p < x.1 + x.2
structure Canon (J : List (Int × Int)) : Prop where
  pos : ∀ x ∈ J, 0 < x.2
  apart : J.Pairwise fun x y => x.1 + x.2 < y.1
theorem Canon.nil : Canon [] := ⟨by simp, List.Pairwise.nil⟩
theorem cov_nil (p : Int) : ¬ cov [] p := by rintro ⟨x, hx, _⟩; simp at hx
theorem cov_cons (x : Int × Int) (ps : List (Int × Int)) (p : Int) : cov (x :: ps) p ↔ (x.1 ≤ p ∧ p < x.1 + x.2) ∨ cov ps p := by
  unfold cov; simp
theorem cov_append (a b : List (Int × Int)) (p : Int) : cov (a ++ b) p ↔ cov a p ∨ cov b p := by
  unfold cov
  constructor
  · rintro ⟨x, hx, h⟩
    rcases List.mem_append.1 hx with hx | hx
    · exact .inl ⟨x, hx, h⟩
    · exact .inr ⟨x, hx, h⟩
  · rintro (⟨x, hx, h⟩ | ⟨x, hx, h⟩)
    · exact ⟨x, List.mem_append.2 (.inl hx), h⟩
    · exact ⟨x, List.mem_append.2 (.inr hx), h⟩
theorem cov_one (x : Int × Int) (p : Int) : cov [x] p ↔ (x.1 ≤ p ∧ p < x.1 + x.2) := by unfold cov; simp
theorem Canon.cons {x : Int × Int} {J : List (Int × Int)} (h : Canon (x :: J)) : 0 < x.2 ∧ (∀ y ∈ J, x.1 + x.2 < y.1) ∧ Canon J := by
  refine ⟨h.pos x (List.mem_cons_self ..), (List.pairwise_cons.1 h.apart).1, ⟨fun y hy => h.pos y (List.mem_cons_of_mem _ hy), (List.pairwise_cons.1 h.apart).2⟩⟩
theorem canon_low {x : Int × Int} {J : List (Int × Int)} (h : Canon (x :: J)) {p : Int} (hc : cov (x :: J) p) : x.1 ≤ p := by
  obtain ⟨h1, h2, h3⟩ := h.cons
  rcases (cov_cons _ _ _).1 hc with hc | ⟨y, hy, hc⟩
  · exact hc.1
  · have := h2 y hy; omega
theorem canon_unique : ∀ (J K : List (Int × Int)), Canon J → Canon K → (∀ p, cov J p ↔ cov K p) → J = K
  | [], [], _, _, _ => rfl
  | [], y :: K, hJ, hK, h => by
    obtain ⟨h1, _⟩ := hK.cons
    exact absurd ((h y.1).2 ((cov_cons _ _ _).2 (.inl ⟨Int.le_refl _, by omega⟩))) (cov_nil _)
  | x :: J, [], hJ, hK, h => by
    obtain ⟨h1, _⟩ := hJ.cons
    exact absurd ((h x.1).1 ((cov_cons _ _ _).2 (.inl ⟨Int.le_refl _, by omega⟩))) (cov_nil _)
  | x :: J, y :: K, hJ, hK, h => by
    obtain ⟨a1, a2, a3⟩ := hJ.cons
    obtain ⟨b1, b2, b3⟩ := hK.cons
    have e1 : x.1 = y.1 := by
      have l1 := canon_low hK ((h x.1).1 ((cov_cons _ _ _).2 (.inl ⟨Int.le_refl _, by omega⟩)))
      have l2 := canon_low hJ ((h y.1).2 ((cov_cons _ _ _).2 (.inl ⟨Int.le_refl _, by omega⟩)))
      omega
    have e2 : x.2 = y.2 := by
      rcases Int.lt_trichotomy x.2 y.2 with hlt | he | hgt
      · exfalso
        rcases (cov_cons _ _ _).1 ((h (x.1 + x.2)).2 ((cov_cons _ _ _).2 (.inl ⟨by omega, by omega⟩))) with hc | ⟨z, hz, hc⟩
        · omega
        · have := a2 z hz; omega
      · exact he
      · exfalso
        rcases (cov_cons _ _ _).1 ((h (y.1 + y.2)).1 ((cov_cons _ _ _).2 (.inl ⟨by omega, by omega⟩))) with hc | ⟨z, hz, hc⟩
        · omega
        · have := b2 z hz; omega
    have e : x = y := Prod.ext e1 e2
    subst e
    congr 1
    refine canon_unique J K a3 b3 fun p => ⟨fun hc => ?_, fun hc => ?_⟩
    · have hp : x.1 + x.2 < p := by obtain ⟨z, hz, h1, h2⟩ := hc; have := a2 z hz; omega
      rcases (cov_cons _ _ _).1 ((h p).1 ((cov_cons _ _ _).2 (.inr hc))) with h1 | h1
      · omega
      · exact h1
    · have hp : x.1 + x.2 < p := by obtain ⟨z, hz, h1, h2⟩ := hc; have := b2 z hz; omega
      rcases (cov_cons _ _ _).1 ((h p).2 ((cov_cons _ _ _).2 (.inr hc))) with h1 | h1
      · omega
      · exact h1
/-- One more span behind them. -/
theorem Canon.snoc {J : List (Int × Int)} (h : Canon J) {x : Int × Int} (hx : 0 < x.2) (ha : ∀ y ∈ J, y.1 + y.2 < x.1) : Canon (J ++ [x]) := by
  refine ⟨fun y hy => ?_, List.pairwise_append.2 ⟨h.apart, List.pairwise_singleton _ _, fun y hy z hz => ?_⟩⟩
  · rcases List.mem_append.1 hy with hy | hy
    · exact h.pos y hy
    · rw [List.mem_singleton.1 hy]; exact hx
  · rw [List.mem_singleton.1 hz]; exact ha y hy
theorem Canon.init {L : List (Int × Int)} {t : Int × Int} (h : Canon (L ++ [t])) : Canon L ∧ 0 < t.2 ∧ ∀ y ∈ L, y.1 + y.2 < t.1 := by
  obtain ⟨h1, h2, h3⟩ := List.pairwise_append.1 h.apart
  exact ⟨⟨fun y hy => h.pos y (List.mem_append.2 (.inl hy)), h1⟩, h.pos t (List.mem_append.2 (.inr (List.mem_singleton.2 rfl))), fun y hy => h3 y hy t (List.mem_singleton.2 rfl)⟩

/-! ### the last one made longer -/
def setLen (J : List (Int × Int)) (v : Int) : List (Int × Int) := J.set (J.length - 1) ((pth J (J.length - 1)).1, v)
theorem pth_last (L : List (Int × Int)) (t : Int × Int) : pth (L ++ [t]) L.length = t := by
  rw [pth_eq _ _ (by simp)]; simp
theorem setLen_snoc (L : List (Int × Int)) (t : Int × Int) (v : Int) : setLen (L ++ [t]) v = L ++ [(t.1, v)] := by
  unfold setLen
  rw [List.length_append, List.length_singleton, Nat.add_sub_cancel, pth_last, List.set_append_right _ _ (Nat.le_refl _), Nat.sub_self]
  rfl
theorem setLen_length (J : List (Int × Int)) (v : Int) : (setLen J v).length = J.length := by simp [setLen]

/-! ### runs of counts (the specification's way) -/
def tsF (cnt : List Int) : Nat → List (Int × Int)
  | 0 => []
  | i + 1 => if nth cnt i = 0 then tsF cnt i else if i = 0 ∨ nth cnt (i - 1) = 0 then tsF cnt i ++ [((i : Int), 1)] else setLen (tsF cnt i) ((pth (tsF cnt i) ((tsF cnt i).length - 1)).2 + 1)
structure TsInv (cnt : List Int) (i : Nat) (J : List (Int × Int)) : Prop where
  canon : Canon J
  cov : ∀ p, cov J p ↔ (0 ≤ p ∧ p < (i : Int) ∧ nth cnt p.toNat ≠ 0)
  ends : ∀ y ∈ J, y.1 + y.2 ≤ (i : Int)
  gap : (i = 0 ∨ nth cnt (i - 1) = 0) → ∀ y ∈ J, y.1 + y.2 < (i : Int)
  run : ¬ (i = 0 ∨ nth cnt (i - 1) = 0) → ∃ L t, J = L ++ [t] ∧ t.1 + t.2 = (i : Int)
  bnd : ∀ y ∈ J, 0 ≤ y.1 ∧ y.1 ≤ (i : Int)
  many : J.length ≤ i
theorem tsF_inv (cnt : List Int) (i : Nat) : TsInv cnt i (tsF cnt i) := by
  induction i with
  | zero => exact ⟨Canon.nil, fun p => ⟨fun h => absurd h (cov_nil p), fun h => by omega⟩, by simp [tsF], by simp [tsF], fun h => absurd (.inl rfl) h, by simp [tsF], by simp [tsF]⟩
  | succ i ih =>
    unfold tsF
    by_cases h0 : nth cnt i = 0
    · rw [if_pos h0]
      refine ⟨ih.canon, fun p => ?_, fun y hy => by have := ih.ends y hy; omega, fun _ y hy => by have := ih.ends y hy; omega, fun h => absurd (.inr (by simpa using h0)) h, fun y hy => by have := ih.bnd y hy; omega, by have := ih.many; omega⟩
      rw [ih.cov p]
      constructor
      · rintro ⟨h1, h2, h3⟩; exact ⟨h1, by omega, h3⟩
      · rintro ⟨h1, h2, h3⟩
        refine ⟨h1, ?_, h3⟩
        rcases Int.lt_or_le p i with h | h
        · exact h
        · exfalso
          have : p.toNat = i := by omega
          rw [this] at h3; exact h3 h0
    · rw [if_neg h0]
      by_cases h1 : i = 0 ∨ nth cnt (i - 1) = 0
      · rw [if_pos h1]
        refine ⟨ih.canon.snoc (by simp) (ih.gap h1), fun p => ?_, fun y hy => ?_, fun h => ?_, fun _ => ⟨_, _, rfl, by simp⟩, fun y hy => ?_, by have := ih.many; simp; omega⟩
        · rw [cov_append, cov_one, ih.cov p]
          constructor
          · rintro (⟨a, b, c⟩ | ⟨a, b⟩)
            · exact ⟨a, by omega, c⟩
            · simp only at a b
              refine ⟨by omega, by omega, ?_⟩
              rw [show p.toNat = i by omega]; exact h0
          · rintro ⟨a, b, c⟩
            rcases Int.lt_or_le p i with h | h
            · exact .inl ⟨a, h, c⟩
            · exact .inr ⟨by simp only; omega, by simp only; omega⟩
        · rcases List.mem_append.1 hy with hy | hy
          · have := ih.ends y hy; omega
          · rw [List.mem_singleton.1 hy]; simp
        · rcases h with h | h
          · omega
          · exact absurd (by simpa using h) h0
        · rcases List.mem_append.1 hy with hy | hy
          · have := ih.bnd y hy; omega
          · rw [List.mem_singleton.1 hy]; simp; omega
      · rw [if_neg h1]
        obtain ⟨L, t, hJ, ht⟩ := ih.run h1
        have hc := ih.canon
        rw [hJ] at hc
        obtain ⟨c1, c2, c3⟩ := hc.init
        have e : setLen (tsF cnt i) ((pth (tsF cnt i) ((tsF cnt i).length - 1)).2 + 1) = L ++ [(t.1, t.2 + 1)] := by
          rw [hJ, setLen_snoc, List.length_append, List.length_singleton, Nat.add_sub_cancel, pth_last]
        rw [e]
        refine ⟨c1.snoc (by simp only; omega) c3, fun p => ?_, fun y hy => ?_, fun h => ?_, fun _ => ⟨_, _, rfl, by simp only; omega⟩, fun y hy => ?_, by have := ih.many; rw [hJ] at this; simp at this ⊢; omega⟩
        · have hp := ih.cov p
          rw [hJ, cov_append, cov_one] at hp
          rw [cov_append, cov_one]
          simp only
          constructor
          · rintro (a | ⟨a, b⟩)
            · obtain ⟨x, y, z⟩ := hp.1 (.inl a)
              exact ⟨x, by omega, z⟩
            · rcases Int.lt_or_le p i with h | h
              · obtain ⟨x, y, z⟩ := hp.1 (.inr ⟨a, by omega⟩)
                exact ⟨x, by omega, z⟩
              · refine ⟨by omega, by omega, ?_⟩
                rw [show p.toNat = i by omega]; exact h0
          · rintro ⟨a, b, c⟩
            rcases Int.lt_or_le p i with h | h
            · rcases hp.2 ⟨a, h, c⟩ with h | ⟨h, h'⟩
              · exact .inl h
              · exact .inr ⟨h, by omega⟩
            · exact .inr ⟨by omega, by omega⟩
        · rcases List.mem_append.1 hy with hy | hy
          · have := ih.ends y (by rw [hJ]; exact List.mem_append.2 (.inl hy)); omega
          · rw [List.mem_singleton.1 hy]; simp only; omega
        · rcases h with h | h
          · omega
          · exact absurd (by simpa using h) h0
        · rcases List.mem_append.1 hy with hy | hy
          · have := ih.bnd y (by rw [hJ]; exact List.mem_append.2 (.inl hy)); omega
          · rw [List.mem_singleton.1 hy]
            have := ih.bnd t (by rw [hJ]; exact List.mem_append.2 (.inr (List.mem_singleton.2 rfl)))
            simp only; omega
/-- The spans of a pool. -/
def tsL (ss ls : List Int) (N : Nat) : List (Int × Int) := tsF (cntL N (plL ss ls)) N
end Go.Proofs.Ytcbkocjpkdcpfaa
