/- Walks and mathematics of rank, part 7. -/
import Derived.Test.YtgicfgpemcagcaaG06
import Derived.RangeFuncNested
import Derived.RangeFuncBound
import Derived.RangeFuncCalls
import Derived.RangeFuncLeaves
import Derived.RangeFuncBox
import Derived.Shelf.Abstract
import Derived.WalkKit
import Derived.OwnWalkIn
import Derived.TacticsInMore
import Derived.LoopNIn
import Derived.LoopIn
import Derived.Maps.AppendAt
/- Walks of prim: Iota, Rep, Len. -/
namespace Go.Proofs.Ytgicfgpemcagcaa
set_option linter.unusedVariables false
open Go.RowKit

theorem OwnI.made0 {w2 : World} {base T g : Nat} (h : w2.ownsRow base 3 1 (.slice (some ⟨g, 0, none⟩) 0 T) 0 []) : OwnI w2 base (.slice (some ⟨g, 0, none⟩) 0 T) [] := by unfold OwnI; simpa using h
theorem iot_err {l : List Int} (h : lsE [l] = 0) : iotE l = totE l := by unfold iotE; rw [if_pos h]
theorem iot_ls {l : List Int} (h : lsE [l] ≠ 0) : iotE l = lsE [l] := by unfold iotE; rw [if_neg h]
theorem rep_err {a l : List Int} (h : evE [a, l] = 0) : repE a l = totE l := by unfold repE; rw [if_pos h]
theorem rep_ev {a l : List Int} (h : evE [a, l] ≠ 0) : repE a l = evE [a, l] := by unfold repE; rw [if_neg h]
theorem totN_err {l : List Int} (h : totE l ≠ 0) : totN l = 0 := by unfold totN; rw [if_neg h]
theorem totN_ok {l : List Int} (h : totE l = 0) : totN l = l.sum := by unfold totN; rw [if_pos h]
theorem iot_more (l : List Int) (k j : Nat) : iotK l k ++ upL (j + 1) = (iotK l k ++ upL j) ++ [(j : Int)] := by rw [upL, mk_succ, ← List.append_assoc]; rfl
theorem iot_len {l : List Int} (h : totE l = 0) (k j : Nat) (hk : k < l.length) (hj : (j : Int) ≤ nth l k) : (iotK l k ++ upL j).length ≤ 1048576 := by
  obtain ⟨hp, h0, hs, hm⟩ := tot_ok h
  have h1 := iotK_length hp k (by omega)
  have h2 := hm (k + 1) (by omega)
  rw [psum_succ l k hk] at h2
  rw [List.length_append, upL, mk_length]; omega
theorem rep_more (a l : List Int) (k j : Nat) : repK a l k ++ List.replicate (j + 1) (nth a k) = (repK a l k ++ List.replicate j (nth a k)) ++ [nth a k] := by rw [List.replicate_succ', ← List.append_assoc]
theorem rep_len {a l : List Int} (h : totE l = 0) (k j : Nat) (hk : k < l.length) (hj : (j : Int) ≤ nth l k) : (repK a l k ++ List.replicate j (nth a k)).length ≤ 1048576 := by
  obtain ⟨hp, h0, hs, hm⟩ := tot_ok h
  have h1 := repK_length (a := a) hp k (by omega)
  have h2 := hm (k + 1) (by omega)
  rw [psum_succ l k hk] at h2
  rw [List.length_append, List.length_replicate]; omega

end Go.Proofs.Ytgicfgpemcagcaa
/- Walks of prim: Weave. -/
namespace Go.Proofs.Ytgicfgpemcagcaa
set_option linter.unusedVariables false
open Go.RowKit

theorem we_ev {L : List (List Int)} (h : evE L ≠ 0) : weE L = evE L := by unfold weE; rw [if_neg h]
theorem we_nil {L : List (List Int)} (h : evE L = 0) (h0 : L.length = 0) : weE L = 0 ∧ weL L = [] := by
  have : L = [] := List.eq_nil_of_length_eq_zero h0
  subst this
  exact ⟨by unfold weE; rw [if_pos h]; rfl, rfl⟩
theorem we_big {L : List (List Int)} (h : evE L = 0) (h0 : L.length ≠ 0) (h1 : 1048576 < L.length * (nthL L 0).length) : weE L = 9 := by
  unfold weE; rw [if_pos h, if_neg h0, headD_nthL, if_pos h1]
theorem we_ok {L : List (List Int)} (h : evE L = 0) (h0 : L.length ≠ 0) (h1 : ¬ 1048576 < L.length * (nthL L 0).length) : weE L = 0 := by
  unfold weE; rw [if_pos h, if_neg h0, headD_nthL, if_neg h1]
theorem we_list (L : List (List Int)) : weL L = weK L (nthL L 0).length := by unfold weL; rw [headD_nthL]
theorem we_more (L : List (List Int)) (i k : Nat) : weK L i ++ weR L i (k + 1) = (weK L i ++ weR L i k) ++ [nth (nthL L k) i] := by
  rw [show weR L i (k + 1) = weR L i k ++ [wv L k i] from mk_succ _ _, ← List.append_assoc]; rfl
theorem we_len (L : List (List Int)) (i k n : Nat) (hi : i < n) (hk : k ≤ L.length) : (weK L i ++ weR L i k).length ≤ L.length * n := by
  rw [List.length_append, weK_length, weR, mk_length]
  have : (i + 1) * L.length ≤ n * L.length := Nat.mul_le_mul_right _ hi
  rw [Nat.mul_comm L.length n, Nat.add_mul] at *
  omega
end Go.Proofs.Ytgicfgpemcagcaa
/- The iterator over set flags has its contract: all of them, in order; or those among the first k, where a round has said 'no more'. -/
namespace Go.Proofs.Ytgicfgpemcagcaa
set_option linter.unusedVariables false
open Go.RowKit Go.Shelf

attribute [local go_sem] Oper.semAt_some

/-- The places of the set flags among the first k. -/
def setB (zs : List Int) (x : Fin zs.length) : Bool := decide (nth zs x.val ≠ 0)
def setF (zs : List Int) (k : Nat) : List (Fin zs.length) := ((List.finRange zs.length).take k).filter (setB zs)
theorem take_finRange_succ (n k : Nat) (h : k < n) : (List.finRange n).take (k + 1) = (List.finRange n).take k ++ [⟨k, h⟩] := by
  rw [List.take_succ_eq_append_getElem (by simpa using h)]
  simp
theorem setF_zero (zs : List Int) : setF zs 0 = [] := by simp [setF]
theorem setF_set (zs : List Int) (k : Nat) (h : k < zs.length) (h0 : nth zs k ≠ 0) : setF zs (k + 1) = setF zs k ++ [⟨k, h⟩] := by
  unfold setF; rw [take_finRange_succ _ k h, List.filter_append]
  congr 1
  simp [List.filter, setB, h0]
theorem setF_not (zs : List Int) (k : Nat) (h : k < zs.length) (h0 : nth zs k = 0) : setF zs (k + 1) = setF zs k := by
  unfold setF; rw [take_finRange_succ _ k h, List.filter_append]
  simp [List.filter, setB, h0]
theorem setF_length (zs : List Int) (k : Nat) (hk : k ≤ zs.length) : (setF zs k).length = cnt zs k := by
  induction k with
  | zero => simp [setF_zero, cnt]
  | succ k ih =>
    have := ih (by omega)
    by_cases h0 : nth zs k = 0
    · rw [setF_not zs k (by omega) h0, this]; simp [cnt, h0]
    · rw [setF_set zs k (by omega) h0, List.length_append, this]; simp [cnt, h0]
theorem setF_pack (zs a : List Int) (k : Nat) (hk : k ≤ zs.length) : (setF zs k).map (fun x => nth a x.val) = pacK zs a k := by
  induction k with
  | zero => simp [setF_zero, pacK]
  | succ k ih =>
    have := ih (by omega)
    by_cases h0 : nth zs k = 0
    · rw [setF_not zs k (by omega) h0, this]; simp [pacK, h0]
    · rw [setF_set zs k (by omega) h0, List.map_append, this]; simp [pacK, h0]
def setV (zs : List Int) (x : Fin zs.length) : Array Value := #[.int .i64 ((x.val : Nat) : Int)]

/-! ### what a caller's invariant is made of abides the law's own book-keeping -/
def Aside (B : Nat) (X : World) (row : Option Nat) : Prop := ∀ r, row = some r → B ≤ r ∧ ∃ o : Obj, X.heap[r]? = some o ∧ o.isCells = false
theorem Blk.aside {X Y : World} {B g : Nat} {t : TypeId} {cs : Array Value} {row : Option Nat} (h : Blk X g t cs) (hg : X.grownBy Y row) (hr : Aside B X row) : Blk Y g t cs :=
  h.grown hg (fun e => by
    obtain ⟨_, o, ho, hc⟩ := hr g e.symm
    rw [show X.heap[g]? = _ from h] at ho; cases ho; cases hc)
theorem own_aside {X Y : World} {B base : Nat} {e : TypeId} {size n : Nat} {v : Value} {xs : List Value} {row : Option Nat} (h : X.ownsRow base e size v n xs) (hg : X.grownBy Y row) (hr : Aside B X row) : Y.ownsRow base e size v n xs := by
  refine h.kept hg ?_
  rcases h.2 with ⟨rfl, _⟩ | ⟨g, cap, cur, rfl, _, hgb, _⟩
  · exact .inl rfl
  · refine .inr fun e' => ?_
    obtain ⟨_, o, ho, hc⟩ := hr g (by simpa [Value.ownBlock] using e'.symm)
    rw [hgb] at ho; cases ho; cases hc
theorem OwnI.aside {X Y : World} {B base : Nat} {v : Value} {zs : List Int} {row : Option Nat} (h : OwnI X base v zs) (hg : X.grownBy Y row) (hr : Aside B X row) : OwnI Y base v zs := own_aside h hg hr
theorem below_aside {w X Y : World} {B n₀ : Nat} {row : Option Nat} (h : Below n₀ w X) (hn : n₀ ≤ w.heap.size) (hB : n₀ ≤ B) (hg : X.grownBy Y row) (hr : Aside B X row) : Below n₀ w Y :=
  h.grown hg (Nat.le_trans hn h.size) (fun k e => Nat.le_trans hB (hr k e).1)

end Go.Proofs.Ytgicfgpemcagcaa
