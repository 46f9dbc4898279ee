/- The iterator over set flags has its contract: all of them, in order; or those among the first k, where a round has said 'no more'. -/
import Derived.RangeFuncNested
import Derived.RangeFuncBound
import Derived.RangeFuncCalls
import Derived.RangeFuncLeaves
import Derived.RangeFuncBox
import Derived.Shelf.Abstract
import Derived.WalkKit
import Derived.OwnWalkIn
import Derived.TacticsInMore
import Derived.LoopNIn
import Derived.LoopIn
import Derived.Maps.AppendAt
import Derived.Test.YtecpanppnljkhaaDoorCi
namespace Go.Proofs.YtecpanppnljkhaaDoor
set_option linter.unusedVariables false
open Go.RowKit Go.Shelf

attribute [local go_sem] Oper.semAt_some

/-- The places of the set flags among the first k. -/
def setB (zs : List Int) (x : Fin zs.length) : Bool := decide (nth zs x.val ≠ 0)
def setF (zs : List Int) (k : Nat) : List (Fin zs.length) := ((List.finRange zs.length).take k).filter (setB zs)
theorem take_finRange_succ (n k : Nat) (h : k < n) : (List.finRange n).take (k + 1) = (List.finRange n).take k ++ [⟨k, h⟩] := by
  rw [List.take_succ_eq_append_getElem (by simpa using h)]
  simp
theorem setF_zero (zs : List Int) : setF zs 0 = [] := by simp [setF]
theorem setF_set (zs : List Int) (k : Nat) (h : k < zs.length) (h0 : nth zs k ≠ 0) : setF zs (k + 1) = setF zs k ++ [⟨k, h⟩] := by
  unfold setF; rw [take_finRange_succ _ k h, List.filter_append]
  congr 1
  simp [List.filter, setB, h0]
theorem setF_not (zs : List Int) (k : Nat) (h : k < zs.length) (h0 : nth zs k = 0) : setF zs (k + 1) = setF zs k := by
  unfold setF; rw [take_finRange_succ _ k h, List.filter_append]
  simp [List.filter, setB, h0]
theorem setF_length (zs : List Int) (k : Nat) (hk : k ≤ zs.length) : (setF zs k).length = cnt zs k := by
  induction k with
  | zero => simp [setF_zero, cnt]
  | succ k ih =>
    have := ih (by omega)
    by_cases h0 : nth zs k = 0
    · rw [setF_not zs k (by omega) h0, this]; simp [cnt, h0]
    · rw [setF_set zs k (by omega) h0, List.length_append, this]; simp [cnt, h0]
theorem setF_pack (zs a : List Int) (k : Nat) (hk : k ≤ zs.length) : (setF zs k).map (fun x => nth a x.val) = pacK zs a k := by
  induction k with
  | zero => simp [setF_zero, pacK]
  | succ k ih =>
    have := ih (by omega)
    by_cases h0 : nth zs k = 0
    · rw [setF_not zs k (by omega) h0, this]; simp [pacK, h0]
    · rw [setF_set zs k (by omega) h0, List.map_append, this]; simp [pacK, h0]
def setV (zs : List Int) (x : Fin zs.length) : Array Value := #[.int .i64 ((x.val : Nat) : Int)]

set_option maxRecDepth 100000 in
set_option maxHeartbeats 2000000 in
theorem set_in (F : Fence) (n : Nat) (h7 : F.fn 109) (hro : F.round = none) (hn : 1 ≤ n) (l Bs n₀ b off c : Nat) (zs : List Int) (hz : zs.length ≤ 1048576) (hb : b < n₀) (J Jx : List (Fin zs.length) → World → Prop)
    (hY : ∀ pre x W, J pre W → pre.length < zs.length → YieldAt F (n - 1) Tryd.prog l (setV zs x) W fun e W' =>
      (e = .returned (.bool true) ∧ J (pre ++ [x]) W' ∧ Below n₀ W W') ∨ (e = .returned (.bool false) ∧ Jx (pre ++ [x]) W'))
    (W : World) (hBs : W.cell? ⟨Bs, 0, none⟩ = some (.slice (some ⟨b, off, none⟩) zs.length c)) (hc : ∀ j, j < zs.length → W.cell? ⟨b, off + j, none⟩ = some (.int .i64 (nth zs j))) (h0 : J [] W) :
    CallsIn F n Tryd.prog 109 #[.func (.yield l) #[] #[], .pointer (some ⟨Bs, 0, none⟩)] W fun e W' => (∃ v, e = .returned v) ∧
      ((∃ ys, ys = setF zs zs.length ∧ J ys W') ∨ (∃ pre, (∃ k, k ≤ zs.length ∧ pre = setF zs k) ∧ Jx pre W')) := by
  refine callsIn_of_wp Tryd.func109 rfl h7 ?_ hro
  simp only [Tryd.ntmps109, List.size_toArray, List.length_cons, List.length_nil, Nat.reduceAdd, Nat.reduceSub, Array.replicate_succ, Array.replicate_zero, List.push_toArray, List.append_toArray, List.nil_append, List.cons_append]
  gi_wp2
  gi_loopw [7] (fun i wr => ∃ k : Nat, k ≤ zs.length ∧ i = .int .i64 k ∧ J (setF zs k) wr ∧ Below n₀ W wr)
    (fun i _ => zs.length - (intOf i).toNat)
  case atStart => exact ⟨0, Nat.zero_le _, rfl, by rw [setF_zero]; exact h0, Below.refl _ _⟩
  case round =>
    obtain ⟨k, hk, rfl, hJs, hnx⟩ := hrel
    by_cases hlt : k < zs.length
    · have hcx' := (hnx.cell (p := ⟨b, off + k, none⟩) hb).trans (hc k hlt)
      have hlen : (setF zs k).length < zs.length := by rw [setF_length zs k hk]; have := cnt_le zs k; omega
      have hk1 : (0 : Int) ≤ (k : Int) := by omega
      have hk2 : (k : Int) < (zs.length : Int) := by omega
      by_cases hx0 : nth zs k = 0
      · have HF := Lib.hid (setF_not zs k hlt hx0)
        rw [hx0] at hcx'
        clear hx0
        gi_wp2
        refine ⟨(fun f h => by cases h), ?_⟩
        gi_wp2
        go_roundw
        case rel => exact ⟨k + 1, by omega, by go_num, by rw [HF.out]; exact hJs, hnx⟩
        case measure => simp [intOf]; omega
      · have HF := Lib.hid (setF_set zs k hlt hx0)
        have hd : (nth zs k != 0) = true := by rw [bne_iff_ne]; exact hx0
        obtain ⟨x, hx⟩ : ∃ x, nth zs k = x := ⟨_, rfl⟩
        rw [hx] at hcx' hd
        clear hx hx0
        obtain ⟨fn, tmps, assign, body, hy, hR⟩ := hY _ ⟨k, hlt⟩ wr hJs hlen
        simp only [setV] at hy
        gi_wp2
        refine hR.mono ?_
        rintro e W3 (⟨rfl, hJ3, hk3⟩ | ⟨rfl, hJx3⟩)
        · gi_wp2
          go_roundw
          case rel => exact ⟨k + 1, by omega, by go_num, by rw [HF.out]; exact hJ3, hnx.trans hk3⟩
          case measure => simp [intOf]; omega
        · gi_wp2
          refine bodyPost_ret (results_none rfl _ _ _) rfl ?_
          exact ⟨⟨_, rfl⟩, .inr ⟨_, ⟨k + 1, by omega, HF.out.symm⟩, hJx3⟩⟩
    · obtain rfl : k = zs.length := by omega
      gi_wp2
      go_end0
      exact ⟨⟨_, rfl⟩, .inl ⟨_, rfl, hJs⟩⟩
set_option maxRecDepth 100000 in
set_option maxHeartbeats 1000000 in
theorem set_nil_in (F : Fence) (n : Nat) (h7 : F.fn 109) (hro : F.round = none) (l Bs : Nat) (A : Option Addr) (c : Nat) (J : List (Fin (List.length ([] : List Int))) → World → Prop) (W : World) (hBs : W.cell? ⟨Bs, 0, none⟩ = some (.slice A 0 c)) (h0 : J [] W) :
    CallsIn F n Tryd.prog 109 #[.func (.yield l) #[] #[], .pointer (some ⟨Bs, 0, none⟩)] W fun e W' => (∃ v, e = .returned v) ∧ J [] W' := by
  refine callsIn_of_wp Tryd.func109 rfl h7 ?_ hro
  simp only [Tryd.ntmps109, List.size_toArray, List.length_cons, List.length_nil, Nat.reduceAdd, Nat.reduceSub, Array.replicate_succ, Array.replicate_zero, List.push_toArray, List.append_toArray, List.nil_append, List.cons_append]
  gi_wp2
  gi_loopw [7] (fun i wr => i = .int .i64 0 ∧ J [] wr) (fun _ _ => 0)
  case atStart => exact ⟨rfl, h0⟩
  case round =>
    obtain ⟨rfl, hJs⟩ := hrel
    gi_wp2
    go_end0
    exact ⟨⟨_, rfl⟩, hJs⟩
/-- set(flags) hands back a value that 'SeqStopsK', at 'Kp := Below n₀'. -/
theorem set_stops (F : Fence) (n : Nat) (h7 : F.fn 109) (hro : F.round = none) (hn : 1 ≤ n) (Bs n₀ c : Nat) (A : Option Addr) (zs : List Int) (hz : zs.length ≤ 1048576) (w wa : World) (hBs : Bs < w.heap.size) (hn₀ : n₀ = wa.heap.size) (hB : Below n₀ wa w) (hsz : n₀ ≤ w.heap.size)
    (hc : w.cell? ⟨Bs, 0, none⟩ = some (.slice A zs.length c)) (hS : Sl wa A zs) :
    SeqStopsK F n Tryd.prog 109 #[.pointer (some ⟨Bs, 0, none⟩)] (setV zs) (Below n₀) (fun ys => ys = setF zs zs.length) (fun pre => ∃ k, k ≤ zs.length ∧ pre = setF zs k) zs.length w := fun l J Jx W hW _ _ hY h0 => by
  have hc' := (hW.cell (p := ⟨Bs, 0, none⟩) hBs).trans hc
  rcases Nat.eq_zero_or_pos zs.length with h | h
  · have e := List.eq_nil_of_length_eq_zero h
    subst e
    exact (set_nil_in F n h7 hro l Bs A c J W hc' h0).mono fun e W' ⟨he, hj⟩ => ⟨he, .inl ⟨_, rfl, hj⟩⟩
  · obtain ⟨b, off, rfl, hb, hcs⟩ := hS h
    refine set_in F n h7 hro hn l Bs n₀ b off c zs hz (by omega) J Jx hY W hc' (fun j hj => ?_) h0
    exact ((hW.mono hsz).cell (p := ⟨b, off + j, none⟩) (by show b < n₀; omega)).trans ((hB.cell (p := ⟨b, off + j, none⟩) (by show b < n₀; omega)).trans (hcs j hj))
theorem set_any (v : Value) (hv : ∃ A n c, v = .slice A n c) (w : World) : Calls Tryd.prog 82 #[v] w fun e w' => e = .returned (.func (.func 109) #[] #[.pointer (some ⟨w.heap.size, 0, none⟩)]) ∧ w' = w.alloc (.cells #[v] 22) := by
  obtain ⟨A, n, c, rfl⟩ := hv
  go_enter Tryd.func82, Tryd.ntmps82
  go_wp2
  go_ret
  exact ⟨rfl, rfl⟩

/-! ### what a caller's invariant is made of abides the law's own book-keeping -/
def Aside (B : Nat) (X : World) (row : Option Nat) : Prop := ∀ r, row = some r → B ≤ r ∧ ∃ o : Obj, X.heap[r]? = some o ∧ o.isCells = false
theorem Blk.aside {X Y : World} {B g : Nat} {t : TypeId} {cs : Array Value} {row : Option Nat} (h : Blk X g t cs) (hg : X.grownBy Y row) (hr : Aside B X row) : Blk Y g t cs :=
  h.grown hg (fun e => by
    obtain ⟨_, o, ho, hc⟩ := hr g e.symm
    rw [show X.heap[g]? = _ from h] at ho; cases ho; cases hc)
theorem own_aside {X Y : World} {B base : Nat} {e : TypeId} {size n : Nat} {v : Value} {xs : List Value} {row : Option Nat} (h : X.ownsRow base e size v n xs) (hg : X.grownBy Y row) (hr : Aside B X row) : Y.ownsRow base e size v n xs := by
  refine h.kept hg ?_
  rcases h.2 with ⟨rfl, _⟩ | ⟨g, cap, cur, rfl, _, hgb, _⟩
  · exact .inl rfl
  · refine .inr fun e' => ?_
    obtain ⟨_, o, ho, hc⟩ := hr g (by simpa [Value.ownBlock] using e'.symm)
    rw [hgb] at ho; cases ho; cases hc
theorem OwnI.aside {X Y : World} {B base : Nat} {v : Value} {zs : List Int} {row : Option Nat} (h : OwnI X base v zs) (hg : X.grownBy Y row) (hr : Aside B X row) : OwnI Y base v zs := own_aside h hg hr
theorem below_aside {w X Y : World} {B n₀ : Nat} {row : Option Nat} (h : Below n₀ w X) (hn : n₀ ≤ w.heap.size) (hB : n₀ ≤ B) (hg : X.grownBy Y row) (hr : Aside B X row) : Below n₀ w Y :=
  h.grown hg (Nat.le_trans hn h.size) (fun k e => Nat.le_trans hB (hr k e).1)

end Go.Proofs.YtecpanppnljkhaaDoor
