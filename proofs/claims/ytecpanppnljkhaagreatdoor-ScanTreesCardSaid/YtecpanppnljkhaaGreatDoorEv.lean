/- Going down the levels: the mathematics. -/
import Derived.Test.YtecpanppnljkhaaGreatDoorEu
import Derived.Test.YtecpanppnljkhaaGreatDoorEq
namespace Go.Proofs.YtecpanppnljkhaaGreatDoor
set_option linter.unusedVariables false
open Go.RowKit Go.Shelf
/-- What stands below the first k words. -/
def dsK (f : Int → Int → Int) (lev st : List Int) : Nat → List Int
  | 0 => []
  | k + 1 => dsK f lev st k ++ [nth st k, f (nth st k) (nth lev (2 * k))]
theorem dsK_len (f : Int → Int → Int) (lev st : List Int) : ∀ k, (dsK f lev st k).length = 2 * k
  | 0 => rfl
  | k + 1 => by rw [dsK, List.length_append, dsK_len f lev st k]; simp; omega
/-- What stands behind some levels. -/
def stF {n : Nat} (f : Int → Int → Int) (x : Int) (L : List (List Int)) (pre : List (Fin n)) : List Int := pre.foldl (fun st j => dsK f (nthL L j.val) st st.length) [x]
theorem stF_snoc {n : Nat} (f : Int → Int → Int) (x : Int) (L : List (List Int)) (pre : List (Fin n)) (j : Fin n) : stF f x L (pre ++ [j]) = dsK f (nthL L j.val) (stF f x L pre) (stF f x L pre).length := by
  unfold stF; rw [List.foldl_append]; rfl
theorem stF_len {n : Nat} (f : Int → Int → Int) (x : Int) (L : List (List Int)) (pre : List (Fin n)) : (stF f x L pre).length = 2 ^ pre.length := by
  unfold stF
  suffices h : ∀ (pre : List (Fin n)) (s : List Int), (pre.foldl (fun st j => dsK f (nthL L j.val) st st.length) s).length = s.length * 2 ^ pre.length by
    rw [h]; simp
  intro pre
  induction pre with
  | nil => intro s; simp
  | cons j pre ih =>
    intro s
    rw [List.foldl_cons, ih, dsK_len, List.length_cons, Nat.pow_succ, Nat.mul_comm 2 s.length, Nat.mul_assoc, Nat.mul_comm (2 ^ pre.length) 2]
/-- What stands at the first level. -/
def dnL (f : Int → Int → Int) (x : Int) (L : List (List Int)) (d : Nat) : List Int := stF f x L (List.finRange d).reverse
theorem dnL_len (f : Int → Int → Int) (x : Int) (L : List (List Int)) (d : Nat) : (dnL f x L d).length = 2 ^ d := by
  unfold dnL; rw [stF_len]; simp
/-- The level of a round. -/
theorem back_at {n : Nat} {pre post : List (Fin n)} {x : Fin n} (h : (List.finRange n).reverse = pre ++ x :: post) : x.val + pre.length + 1 = n := by
  have h1 : (List.finRange n).reverse[pre.length]? = some x := by rw [h]; simp
  have hlt : pre.length < n := by
    have h2 := congrArg List.length h
    simp at h2
    omega
  rw [List.getElem?_eq_getElem (by simpa using hlt)] at h1
  injection h1 with h1
  rw [← h1]
  simp
  omega
/-- A slice of slices cut up to a place. -/
theorem slices_to (A : Option Addr) (n c p : Nat) (hp : p ≤ n) (hc : n ≤ c) (h0 : 0 < c) (W : World) :
    (Instr.sliceAt 33 (.slice A n c) none (some (.int .i64 (p : Int))) none).run Tryz.prog W = .ok (.slice A p c) W := by
  have he : Tryz.prog.elem 33 = 22 := by kernel_rfl
  have hs : (Tryz.prog.info? 22).map (·.size) = some 1 := by kernel_rfl
  obtain ⟨i0, hi, hz1⟩ := Option.map_eq_some_iff.1 hs
  have hrun : (Instr.slice 33 (.slice A n c) none (some (.int .i64 (p : Int))) none).run Tryz.prog W = .ok (sliced A 0 p c 1) W := by
    rw [run_slice_h W 33 A n c (by rw [he]; exact Tryz.underlying33) .i64 (p : Int) (by omega) (by omega), he]
    simp [sizeOf, typeInfo, hi, hz1, Result.andThen]
  unfold sliced at hrun
  refine (run_sliceAt_slice W 33 _ _ _ _ (by kernel_rfl)).trans (hrun.trans ?_)
  rw [if_neg (by omega)]
  cases A with
  | none => rfl
  | some a => simp [Addr.add]
end Go.Proofs.YtecpanppnljkhaaGreatDoor
