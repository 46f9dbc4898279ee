/- Bounds of the lists that the laws compare. -/
import Derived.Test.YtcbkocjpkdcpfaaUb
import Derived.Test.YtcbkocjpkdcpfaaTv
import Derived.Test.YtcbkocjpkdcpfaaRb
import Derived.Test.YtcbkocjpkdcpfaaTl
import Derived.Test.YtcbkocjpkdcpfaaTj
namespace Go.Proofs.Ytcbkocjpkdcpfaa
set_option linter.unusedVariables false
open Go.RowKit Go.Shelf

/-- 'Returned true, and nothing of old is turned'. -/
def Good (w : World) (e : Ending) (w' : World) : Prop := e = .returned (.bool true) ∧ Below w.heap.size w w'
theorem Fine.sum_nonneg {zs : List Int} (h : Fine zs) : 0 ≤ zs.sum := by have := (h.psum zs.length (Nat.le_refl _)).1; rwa [psum_all] at this
theorem len_orL {er : Int} {l : List Int} (h : er = 0 → l.length ≤ 9223372036854775807) : (orL er l).length ≤ 9223372036854775807 := by
  unfold orL
  by_cases e : er = 0
  · rw [if_pos e]; exact h e
  · rw [if_neg e]; simp
theorem len_st {zs : List Int} : (orL (ckE zs) (stL zs)).length ≤ 9223372036854775807 := len_orL fun e => by
  have := (Fine.of_ck e).len; rw [stL_length]; omega
theorem len_hd {zs : List Int} : (orL (ckE zs) (hdL zs)).length ≤ 9223372036854775807 := len_orL fun e => by
  have := (Fine.of_ck e).sum; rw [hdL_length]; omega
theorem len_ow {zs : List Int} : (orL (ckE zs) (owL zs)).length ≤ 9223372036854775807 := len_orL fun e => by
  have h := Fine.of_ck e
  have := owL_length h; have := h.sum; omega
theorem len_ns {zs ys : List Int} : (orL (nsE zs ys) (nsL zs ys)).length ≤ 9223372036854775807 := len_orL fun e => by
  have h : ckE zs = 0 := by
    unfold nsE at e
    by_cases h : ckE zs ≠ 0
    · rw [if_pos h] at e; exact absurd e h
    · simpa using h
  have := (Fine.of_ck h).len
  simp [nsL]; omega
theorem spE_ok {zs : List Int} {m : Int} (e : spE zs m = 0) : Fine zs ∧ 1 ≤ m ∧ m ≤ 1048576 := by
  unfold spE at e
  by_cases h : ckE zs ≠ 0
  · rw [if_pos h] at e; exact absurd e h
  · rw [if_neg h] at e
    refine ⟨Fine.of_ck (by simpa using h), ?_⟩
    by_cases h2 : 1 ≤ m ∧ m ≤ 1048576
    · exact h2
    · rw [if_neg h2] at e; cases e
theorem len_spO {zs : List Int} {m : Int} : (orL (spE zs m) (spO zs m.toNat)).length ≤ 9223372036854775807 := len_orL fun e => by
  have := (spE_ok e).1.len
  simp [spO]; omega
theorem len_spP {zs : List Int} {m : Int} : (orL (spE zs m) (spP zs m.toNat)).length ≤ 9223372036854775807 := len_orL fun e => by
  obtain ⟨h, h1, h2⟩ := spE_ok e
  have h3 := spPK_length zs m.toNat zs.length (by omega) (Nat.le_refl _) (fun j hj => by have := h.nth j hj; omega)
  have h4 := h.len
  have : zs.length * 1048576 ≤ 1048576 * 1048576 := Nat.mul_le_mul_right _ h4
  rw [show spP zs m.toNat = spPK zs m.toNat zs.length from rfl]
  omega
theorem len_pl {ss ls : List Int} {n : Int} : (orL (shE ss ls n) (plL ss ls)).length ≤ 9223372036854775807 := len_orL fun e => by
  obtain ⟨N, _, hP, _⟩ := Pool.of e
  have := plL_length hP; have := hP.sum; omega
theorem len_bg {ss ls : List Int} {n : Int} : (orL (shE ss ls n) (bgL ss ls n.toNat)).length ≤ 9223372036854775807 := len_orL fun e => by
  obtain ⟨N, _, hP, _⟩ := Pool.of e
  have := hP.many; rw [bgL_length]; omega
theorem len_pc {ss ls : List Int} {n : Int} : (orL (shE ss ls n) (pcK (cntL n.toNat (plL ss ls)) n.toNat)).length ≤ 9223372036854775807 := len_orL fun e => by
  obtain ⟨N, rfl, hP, _⟩ := Pool.of e
  have h1 := pcK_length (cntL (N : Int).toNat (plL ss ls)) (N : Int).toNat
  have h2 := adK_bnd (cntL (N : Int).toNat (plL ss ls)) (N : Int).toNat
  have := hP.size; omega
theorem len_ts {ss ls : List Int} {n : Int} : (if shE ss ls n = 0 then tsL ss ls n.toNat else []).length ≤ 1048576 := by
  by_cases e : shE ss ls n = 0
  · rw [if_pos e]
    obtain ⟨N, rfl, hP, _⟩ := Pool.of e
    exact (tsL_bnd hP.size).1
  · rw [if_neg e]; simp
/-- A list is equal to itself. -/
theorem eq_self (A A' : Option Addr) (c c' : Nat) (zs : List Int) (w : World) (hx : Sl w A zs) (hy : Sl w A' zs) (hl : zs.length ≤ 9223372036854775807) :
    Calls Try.prog 20 #[.slice A zs.length c, .slice A' zs.length c'] w (Good w) := eq_lit A A' c c' zs.length zs w rfl hx hy hl
theorem same_self (A A' : Option Addr) (c c' : Nat) (ps : List (Int × Int)) (w : World) (h : SlP w A ps) (h' : SlP w A' ps) (hl : ps.length ≤ 1048576) :
    Calls Try.prog 32 #[.slice A ps.length c, .slice A' ps.length c'] w (Good w) := by
  refine (same_any A A' c c' ps ps w h h' hl hl).mono ?_
  rintro e w' ⟨rfl, m, rfl⟩
  exact ⟨by simp, below_drewN w m⟩
end Go.Proofs.Ytcbkocjpkdcpfaa
