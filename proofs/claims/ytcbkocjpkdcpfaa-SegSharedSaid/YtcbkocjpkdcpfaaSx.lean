/- Nests: the mathematics, and 's[lo:hi]' of a slice of ints. -/
import Derived.Test.YtcbkocjpkdcpfaaSd
import Derived.WalkSpells
namespace Go.Proofs.Ytcbkocjpkdcpfaa
set_option linter.unusedVariables false
open Go.RowKit Go.Shelf

/-- The sum of the numbers from lo up to hi. -/
def sg (ys : List Int) (lo hi : Nat) : Int := psum ys hi - psum ys lo
def nsK (zs ys : List Int) (k : Nat) : Int := sg ys (psum zs k).toNat (psum zs (k + 1)).toNat
def nsL (zs ys : List Int) : List Int := (List.range zs.length).map (nsK zs ys)
def nsE (zs ys : List Int) : Int := if ckE zs ≠ 0 then ckE zs else if ckE ys ≠ 0 then ckE ys else if zs.sum ≠ (ys.length : Int) then 1 else 0
def nsF (zs ys : List Int) (pre : List (Fin zs.length)) : List Int := pre.foldl (fun l x => l.set x.val (nth l x.val + nsK zs ys x.val)) (List.replicate zs.length 0)
theorem nsF_length (zs ys : List Int) (pre : List (Fin zs.length)) : (nsF zs ys pre).length = zs.length := by
  unfold nsF; rw [foldl_set_length (fun l (x : Fin zs.length) => nth l x.val + nsK zs ys x.val) (fun x => x.val), List.length_replicate]
theorem nsF_snoc (zs ys : List Int) (pre : List (Fin zs.length)) (x : Fin zs.length) : nsF zs ys (pre ++ [x]) = (nsF zs ys pre).set x.val (nth (nsF zs ys pre) x.val + nsK zs ys x.val) := by unfold nsF; rw [List.foldl_append]; rfl
theorem nth_replicate (n k : Nat) : nth (List.replicate n 0) k = 0 := by
  unfold nth
  rw [List.getD_eq_getElem?_getD, List.getElem?_replicate]
  split <;> rfl
theorem nsF_all (zs ys : List Int) : nsF zs ys (List.finRange zs.length) = nsL zs ys := by
  unfold nsF
  rw [foldl_set_all zs.length (fun a x => a + nsK zs ys x.val) _ (by simp)]
  simp only [nth_replicate, Int.zero_add]
  rw [finRange_map]; rfl
theorem nth_set_self (l : List Int) (k : Nat) (v : Int) (h : k < l.length) : nth (l.set k v) k = v := by
  rw [nth_eq _ _ (by rw [List.length_set]; exact h), List.getElem_set_self]
theorem nth_set_other (l : List Int) (k j : Nat) (v : Int) (h : k ≠ j) : nth (l.set k v) j = nth l j := by
  unfold nth
  rw [List.getD_eq_getElem?_getD, List.getElem?_set_ne h, List.getD_eq_getElem?_getD]
theorem set_nth (l : List Int) (k : Nat) (h : k < l.length) : l.set k (nth l k) = l := by
  rw [nth_eq l k h]; exact List.set_getElem_self h
def Bd (n : Nat) (l : List Int) : Prop := ∀ j, 0 ≤ nth l j ∧ nth l j ≤ (n : Int) * 1048576
theorem bd_zero (n : Nat) : Bd 0 (List.replicate n 0) := fun j => by rw [nth_replicate]; omega
theorem bd_set {n : Nat} {l : List Int} (h : Bd n l) (k : Nat) (hk : k < l.length) (v : Int) (h0 : 0 ≤ v) (h1 : v ≤ 1048576) : Bd (n + 1) (l.set k (nth l k + v)) := fun j => by
  by_cases e : k = j
  · subst e
    rw [nth_set_self _ _ _ hk]
    have := h k
    omega
  · rw [nth_set_other _ _ _ _ e]
    have := h j
    omega

/-! ### 's[lo:hi]' of a slice of ints -/
def sub (ys : List Int) (lo m : Nat) : List Int := (ys.drop lo).take m
theorem sub_length (ys : List Int) (lo m : Nat) (h : lo + m ≤ ys.length) : (sub ys lo m).length = m := by simp [sub]; omega
theorem nth_sub (ys : List Int) (lo m j : Nat) (h : lo + m ≤ ys.length) (hj : j < m) : nth (sub ys lo m) j = nth ys (lo + j) := by
  rw [nth_eq _ _ (by rw [sub_length ys lo m h]; exact hj), nth_eq ys (lo + j) (by omega)]
  simp [sub]
theorem psum_sub (ys : List Int) (lo m j : Nat) (h : lo + m ≤ ys.length) (hj : j ≤ m) : psum (sub ys lo m) j = sg ys lo (lo + j) := by
  induction j with
  | zero => simp [sg, psum_zero]
  | succ j ih =>
    rw [psum_succ _ _ (by rw [sub_length ys lo m h]; omega), ih (by omega), nth_sub ys lo m j h (by omega)]
    unfold sg
    rw [← Nat.add_assoc, psum_succ ys (lo + j) (by omega)]
    omega
theorem addr_block (a : Addr) (n : Nat) : (a.add n).block = a.block := by unfold Addr.add; split <;> rfl
theorem slice_eq (A : Option Addr) (c lo m : Nat) (ys : List Int) (w : World) (h : Sl w A ys) (hlm : lo + m ≤ ys.length) (hc : ys.length ≤ c) :
    ∃ B C, (∀ W, (Instr.sliceAt 22 (.slice A ys.length c) (some (.int .i64 (lo : Int))) (some (.int .i64 ((lo : Int) + (m : Int)))) none).run Try.prog W = .ok (.slice B m C) W) ∧ Sl w B (sub ys lo m) ∧ m ≤ C := by
  obtain ⟨i0, hi, hz0, hz1, hz2⟩ := info_parts int_info
  have hrun : ∀ W, (Instr.slice 22 (.slice A ys.length c) (some (.int .i64 (lo : Int))) (some (.int .i64 ((lo : Int) + (m : Int)))) none).run Try.prog W = .ok (sliced A lo (lo + m) c 1) W := fun W => by
    have he : Try.prog.elem 22 = 3 := by kernel_rfl
    rw [run_slice_lh W 22 A ys.length c (by rw [he]; exact Try.underlying22) .i64 .i64 (lo : Int) ((lo : Int) + (m : Int)) (by omega) (by omega) (by omega), he]
    have e1 : ((lo : Int) + (m : Int)).toNat = lo + m := by omega
    simp [sizeOf, typeInfo, hi, hz1, Result.andThen, e1]
  unfold sliced at hrun
  refine ⟨_, c - lo, fun W => (run_sliceAt_slice W 22 _ _ _ _ (by kernel_rfl)).trans ((hrun W).trans (by rw [Nat.add_sub_cancel_left])), ?_, by omega⟩
  intro hl
  rw [sub_length ys lo m hlm] at hl
  obtain ⟨b, off, rfl, hb, hcl⟩ := h (by omega)
  refine ⟨b, off + lo, ?_, hb, fun j hj => ?_⟩
  · rw [if_neg (by omega)]
    simp only [Option.map_some, Nat.mul_one]
    unfold Addr.add
    by_cases h0 : lo = 0
    · subst h0; simp
    · simp [h0]
  · rw [sub_length ys lo m hlm] at hj
    rw [nth_sub ys lo m j hlm hj, Nat.add_assoc]
    exact hcl (lo + j) (by omega)
end Go.Proofs.Ytcbkocjpkdcpfaa
