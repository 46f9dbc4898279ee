/- Sorted parts, merged one after the other (the program's way): the same spans. -/
import Derived.Test.YtcbkocjpkdcpfaaMd
namespace Go.Proofs.Ytcbkocjpkdcpfaa
set_option linter.unusedVariables false

def lst (J : List (Int × Int)) : Int × Int := pth J (J.length - 1)
theorem lst_snoc (L : List (Int × Int)) (t : Int × Int) : lst (L ++ [t]) = t := by
  unfold lst; rw [List.length_append, List.length_singleton, Nat.add_sub_cancel, pth_last]
def tmJ (J : List (Int × Int)) (x : Int × Int) : List (Int × Int) := if J = [] ∨ (lst J).1 + (lst J).2 < x.1 then J ++ [x] else setLen J (max ((lst J).1 + (lst J).2) (x.1 + x.2) - (lst J).1)
def tmS (s : List (Int × Int) × (Int × Int)) (x : Int × Int) : List (Int × Int) × (Int × Int) := if x = s.2 then s else (tmJ s.1 x, x)
def tmK (l : List (Int × Int)) (k : Nat) : List (Int × Int) × (Int × Int) := (l.take k).foldl tmS ([], (0, 0))
theorem tmK_succ (l : List (Int × Int)) (k : Nat) (h : k < l.length) : tmK l (k + 1) = tmS (tmK l k) (pth l k) := by
  unfold tmK
  rw [List.take_succ_eq_append_getElem h, List.foldl_append, pth_eq l k h]
  rfl
structure TmInv (N : Int) (pre J : List (Int × Int)) (a : Int × Int) : Prop where
  canon : Canon J
  cov : ∀ p, cov J p ↔ cov pre p
  starts : ∀ y ∈ J, ∃ z ∈ pre, y.1 = z.1
  ahead : a = (0, 0) ∨ a ∈ pre
  bnd : ∀ y ∈ J, 0 ≤ y.1 ∧ y.1 + y.2 ≤ N
  many : J.length ≤ pre.length
theorem eq_snoc (J : List (Int × Int)) (h : J ≠ []) : ∃ L t, J = L ++ [t] := ⟨J.dropLast, J.getLast h, (List.dropLast_concat_getLast h).symm⟩
theorem tm_step {N : Int} {pre J : List (Int × Int)} {a x : Int × Int} (h : TmInv N pre J a) (hx : 0 < x.2) (hx0 : 0 ≤ x.1) (hxN : x.1 + x.2 ≤ N) (hs : ∀ z ∈ pre, z.1 ≤ x.1) :
    TmInv N (pre ++ [x]) (tmS (J, a) x).1 (tmS (J, a) x).2 := by
  unfold tmS
  by_cases e : x = a
  · rw [if_pos (by exact e)]
    have hm : x ∈ pre := by
      rcases h.ahead with h1 | h1
      · rw [← e] at h1; rw [h1] at hx; simp at hx
      · rw [e]; exact h1
    refine ⟨h.canon, fun p => ?_, fun y hy => ?_, ?_, h.bnd, by have := h.many; simp; omega⟩
    · rw [cov_append, cov_one, h.cov p]
      exact ⟨.inl, fun h1 => h1.elim id fun h2 => ⟨x, hm, h2⟩⟩
    · obtain ⟨z, hz, hz'⟩ := h.starts y hy
      exact ⟨z, List.mem_append.2 (.inl hz), hz'⟩
    · exact h.ahead.imp id fun h1 => List.mem_append.2 (.inl h1)
  · rw [if_neg (by exact e)]
    simp only
    have hlo : ∀ y ∈ J, y.1 ≤ x.1 := fun y hy => by
      obtain ⟨z, hz, hz'⟩ := h.starts y hy
      have := hs z hz; omega
    have hah : x = (0, 0) ∨ x ∈ pre ++ [x] := .inr (List.mem_append.2 (.inr (List.mem_singleton.2 rfl)))
    unfold tmJ
    by_cases h1 : J = [] ∨ (lst J).1 + (lst J).2 < x.1
    · rw [if_pos h1]
      have hall : ∀ y ∈ J, y.1 + y.2 < x.1 := by
        rcases h1 with h1 | h1
        · subst h1; simp
        · intro y hy
          obtain ⟨L, t, rfl⟩ := eq_snoc J (fun e => by rw [e] at hy; simp at hy)
          rw [lst_snoc] at h1
          obtain ⟨c1, c2, c3⟩ := h.canon.init
          rcases List.mem_append.1 hy with hy | hy
          · have := c3 y hy; have := h.canon.pos t (List.mem_append.2 (.inr (List.mem_singleton.2 rfl))); omega
          · rw [List.mem_singleton.1 hy]; exact h1
      refine ⟨h.canon.snoc hx hall, fun p => ?_, fun y hy => ?_, hah, fun y hy => ?_, by have := h.many; simp; omega⟩
      · rw [cov_append, cov_append, h.cov p]
      · rcases List.mem_append.1 hy with hy | hy
        · obtain ⟨z, hz, hz'⟩ := h.starts y hy
          exact ⟨z, List.mem_append.2 (.inl hz), hz'⟩
        · rw [List.mem_singleton.1 hy]; exact ⟨x, List.mem_append.2 (.inr (List.mem_singleton.2 rfl)), rfl⟩
      · rcases List.mem_append.1 hy with hy | hy
        · exact h.bnd y hy
        · rw [List.mem_singleton.1 hy]; exact ⟨hx0, hxN⟩
    · rw [if_neg h1]
      obtain ⟨L, t, rfl⟩ := eq_snoc J (fun e => h1 (.inl e))
      have h2 : ¬ t.1 + t.2 < x.1 := fun h3 => h1 (.inr (by rw [lst_snoc]; exact h3))
      rw [lst_snoc, setLen_snoc]
      obtain ⟨c1, c2, c3⟩ := h.canon.init
      have ht := hlo t (List.mem_append.2 (.inr (List.mem_singleton.2 rfl)))
      have hb := h.bnd t (List.mem_append.2 (.inr (List.mem_singleton.2 rfl)))
      refine ⟨c1.snoc (by simp only; omega) c3, fun p => ?_, fun y hy => ?_, hah, fun y hy => ?_, by have := h.many; simp at this ⊢; omega⟩
      · have hp := h.cov p
        rw [cov_append, cov_one] at hp
        rw [cov_append, cov_one, cov_append, cov_one, ← hp]
        simp only
        constructor
        · rintro (h3 | ⟨h3, h4⟩)
          · exact .inl (.inl h3)
          · rcases Int.lt_or_le p (t.1 + t.2) with h5 | h5
            · exact .inl (.inr ⟨h3, h5⟩)
            · exact .inr ⟨by omega, by omega⟩
        · rintro ((h3 | ⟨h3, h4⟩) | ⟨h3, h4⟩)
          · exact .inl h3
          · exact .inr ⟨h3, by omega⟩
          · exact .inr ⟨by omega, by omega⟩
      · rcases List.mem_append.1 hy with hy | hy
        · obtain ⟨z, hz, hz'⟩ := h.starts y (List.mem_append.2 (.inl hy))
          exact ⟨z, List.mem_append.2 (.inl hz), hz'⟩
        · rw [List.mem_singleton.1 hy]
          obtain ⟨z, hz, hz'⟩ := h.starts t (List.mem_append.2 (.inr (List.mem_singleton.2 rfl)))
          exact ⟨z, List.mem_append.2 (.inl hz), hz'⟩
      · rcases List.mem_append.1 hy with hy | hy
        · exact h.bnd y (List.mem_append.2 (.inl hy))
        · rw [List.mem_singleton.1 hy]; simp only; omega
/-- What sorted parts are. -/
structure Parts (N : Int) (l : List (Int × Int)) : Prop where
  each : ∀ x ∈ l, 0 < x.2 ∧ 0 ≤ x.1 ∧ x.1 + x.2 ≤ N
  sorted : l.Pairwise fun x y => x.1 ≤ y.1
theorem tm_inv {N : Int} {l : List (Int × Int)} (h : Parts N l) (k : Nat) (hk : k ≤ l.length) : TmInv N (l.take k) (tmK l k).1 (tmK l k).2 := by
  induction k with
  | zero => exact ⟨Canon.nil, fun p => Iff.rfl, by simp [tmK], .inl rfl, by simp [tmK], by simp [tmK]⟩
  | succ k ih =>
    have hk' : k < l.length := by omega
    rw [tmK_succ l k hk', List.take_succ_eq_append_getElem hk', pth_eq l k hk']
    obtain ⟨e1, e2, e3⟩ := h.each l[k] (List.getElem_mem hk')
    refine tm_step (ih (by omega)) e1 e2 e3 fun z hz => ?_
    obtain ⟨j, hj, rfl⟩ := List.getElem_of_mem hz
    rw [List.length_take] at hj
    rw [List.getElem_take]
    exact List.pairwise_iff_getElem.1 h.sorted j k (by omega) hk' (by omega)
theorem cov_perm {a b : List (Int × Int)} (h : a.Perm b) (p : Int) : cov a p ↔ cov b p := by
  unfold cov
  constructor
  · rintro ⟨x, hx, h1⟩; exact ⟨x, h.mem_iff.1 hx, h1⟩
  · rintro ⟨x, hx, h1⟩; exact ⟨x, h.mem_iff.2 hx, h1⟩
theorem mem_plL (ss ls : List Int) (p : Int) : p ∈ plL ss ls ↔ ∃ x : Fin ss.length, nth ss x.val ≤ p ∧ p < nth ss x.val + nth ls x.val := by
  unfold plL plP
  rw [List.mem_flatMap]
  constructor
  · rintro ⟨x, _, hp⟩
    unfold plS at hp
    rw [List.mem_map] at hp
    obtain ⟨j, hj, rfl⟩ := hp
    rw [List.mem_range] at hj
    exact ⟨x, by omega, by omega⟩
  · rintro ⟨x, h1, h2⟩
    refine ⟨x, List.mem_finRange _, ?_⟩
    unfold plS
    rw [List.mem_map]
    exact ⟨(p - nth ss x.val).toNat, List.mem_range.2 (by omega), by omega⟩
theorem cov_spS (ss ls : List Int) (p : Int) : cov (spS ss ls (List.finRange ss.length)) p ↔ p ∈ plL ss ls := by
  rw [mem_plL]
  unfold cov spS
  constructor
  · rintro ⟨x, hx, h1, h2⟩
    rw [List.mem_filter, List.mem_map] at hx
    obtain ⟨⟨y, _, rfl⟩, _⟩ := hx
    exact ⟨y, h1, h2⟩
  · rintro ⟨x, h1, h2⟩
    refine ⟨(nth ss x.val, nth ls x.val), ?_, h1, h2⟩
    rw [List.mem_filter, List.mem_map]
    exact ⟨⟨x, List.mem_finRange _, rfl⟩, by simp; omega⟩
theorem plL_bnd {ss ls : List Int} {N : Nat} (hP : Pool ss ls N) (p : Int) (h : p ∈ plL ss ls) : 0 ≤ p ∧ p < (N : Int) := by
  obtain ⟨x, h1, h2⟩ := (mem_plL ss ls p).1 h
  have := hP.at_ x.val x.isLt
  omega
theorem cov_tsL {ss ls : List Int} {N : Nat} (hP : Pool ss ls N) (p : Int) : cov (tsL ss ls N) p ↔ p ∈ plL ss ls := by
  unfold tsL
  rw [(tsF_inv (cntL N (plL ss ls)) N).cov p]
  constructor
  · rintro ⟨h1, h2, h3⟩
    rw [nth_cntL _ _ _ (by omega)] at h3
    have : 0 < (plL ss ls).count ((p.toNat : Nat) : Int) := by omega
    have := List.count_pos_iff.1 this
    rwa [show ((p.toNat : Nat) : Int) = p by omega] at this
  · intro h
    obtain ⟨h1, h2⟩ := plL_bnd hP p h
    refine ⟨h1, h2, ?_⟩
    rw [nth_cntL _ _ _ (by omega), show ((p.toNat : Nat) : Int) = p by omega]
    have := List.count_pos_iff.2 h
    omega
theorem parts_spS {ss ls : List Int} {N : Nat} (hP : Pool ss ls N) {ps : List (Int × Int)} (hp : ps.Perm (spS ss ls (List.finRange ss.length))) (hs : ps.Pairwise fun x y => x.1 ≤ y.1) : Parts (N : Int) ps := by
  refine ⟨fun x hx => ?_, hs⟩
  have := hp.mem_iff.1 hx
  unfold spS at this
  rw [List.mem_filter, List.mem_map] at this
  obtain ⟨⟨y, _, rfl⟩, h2⟩ := this
  have := hP.at_ y.val y.isLt
  simp at h2
  simp only
  omega
theorem tm_all {ss ls : List Int} {N : Nat} (hP : Pool ss ls N) {ps : List (Int × Int)} (hp : ps.Perm (spS ss ls (List.finRange ss.length))) (hs : ps.Pairwise fun x y => x.1 ≤ y.1) : (tmK ps ps.length).1 = tsL ss ls N := by
  have h := tm_inv (parts_spS hP hp hs) ps.length (Nat.le_refl _)
  rw [List.take_length] at h
  refine canon_unique _ _ h.canon (tsF_inv (cntL N (plL ss ls)) N).canon fun p => ?_
  rw [h.cov p, cov_perm hp p, cov_spS]
  exact (cov_tsL hP p).symm
end Go.Proofs.Ytcbkocjpkdcpfaa
