/- The iterator over the segments of a list has its contract: all of them, in order; or the first k, where a round has said 'no more'. -/
import Derived.RangeFuncNested
import Derived.RangeFuncBound
import Derived.RangeFuncCalls
import Derived.RangeFuncLeaves
import Derived.RangeFuncBox
import Derived.Shelf.Abstract
import Derived.WalkKit
import Derived.OwnWalkIn
import Derived.TacticsInMore
import Derived.LoopNIn
import Derived.LoopIn
import Derived.Maps.AppendAt
import Derived.Test.YtecpanppnljkhaaGreatDoorEf
import Derived.Test.YtecpanppnljkhaaGreatDoorQh
namespace Go.Proofs.YtecpanppnljkhaaGreatDoor
set_option linter.unusedVariables false
set_option maxRecDepth 100000
open Go.RowKit Go.Shelf

attribute [local go_sem] Oper.semAt_some

def KpB (n₀ B : Nat) (W W' : World) : Prop := Below n₀ W W' ∧ W'.heap[B]? = W.heap[B]?
theorem kpB_t {n₀ B : Nat} {X Y Z : World} (h : KpB n₀ B X Y) (k : KpB n₀ B Y Z) : KpB n₀ B X Z := ⟨h.1.trans k.1, k.2.trans h.2⟩
theorem kpB_b {n₀ B : Nat} {w : World} (hn : n₀ ≤ w.heap.size) (hB : B < w.heap.size) (W : World) (l : Nat) (o o' : Obj) (hl : w.heap.size ≤ l) (h : W.heap[l]? = some o) (h1 : o.isCells = false) (h2 : o.isWalk = false) : KpB n₀ B W (W.putObj l o') :=
  ⟨belowK_b hn W l o o' hl h h1 h2, World.putObj_heap_other (by omega)⟩
theorem kpB_refl (n₀ B : Nat) (W : World) : KpB n₀ B W W := ⟨Below.refl _ _, rfl⟩
theorem kpB_of_below {n₀ B m : Nat} (hn : n₀ ≤ m) (hB : B < m) {W W' : World} (h : Below m W W') : KpB n₀ B W W' := ⟨h.mono hn, h.block B hB⟩
/-- What has come when k rounds are over. -/
def fr (n k : Nat) : List (Fin n) := (List.finRange n).take k
theorem fr_succ (n k : Nat) (h : k < n) : fr n (k + 1) = fr n k ++ [⟨k, h⟩] := by
  unfold fr
  rw [List.take_succ_eq_append_getElem (by simpa using h)]
  simp
theorem fr_length (n k : Nat) (h : k ≤ n) : (fr n k).length = k := by simp [fr, h]
theorem fr_all (n : Nat) : fr n n = List.finRange n := by unfold fr; rw [List.take_of_length_le (by simp)]
/-- What the iterator over segments hands out: the number, and the segment of the list at A. -/
def segV (A : Option Addr) (lens : List Int) (x : Fin lens.length) : Array Value := #[.int .i64 ((x.val : Nat) : Int), .slice (sgA A (ofs lens x.val) (ofs lens (x.val + 1))) (ofs lens (x.val + 1) - ofs lens x.val) (ofs lens (x.val + 1) - ofs lens x.val)]

set_option maxHeartbeats 2000000 in
theorem segs_in (F : Fence) (n : Nat) (h7 : F.fn 81) (hro : F.round = none) (hn : 1 ≤ n) (i Bl Bs n₀ b off c cl : Nat) (A : Option Addr) (l lens : List Int) (hz : Segs l lens) (hcl : l.length ≤ cl) (hb : b < n₀) (J Jx : List (Fin lens.length) → World → Prop)
    (hY : ∀ pre x W, J pre W → pre.length < lens.length → YieldAt F (n - 1) Tryz.prog i (segV A lens x) W fun e W' =>
      (e = .returned (.bool true) ∧ J (pre ++ [x]) W' ∧ KpB n₀ Bl W W') ∨ (e = .returned (.bool false) ∧ Jx (pre ++ [x]) W'))
    (W : World) (hBs : W.cell? ⟨Bs, 0, none⟩ = some (.slice (some ⟨b, off, none⟩) lens.length c)) (hBl : Blk W Bl 22 #[.slice A l.length cl]) (hc : ∀ j, j < lens.length → W.cell? ⟨b, off + j, none⟩ = some (.int .i64 (nth lens j))) (h0 : J [] W) :
    CallsIn F n Tryz.prog 81 #[.func (.yield i) #[] #[], .pointer (some ⟨Bs, 0, none⟩), .pointer (some ⟨Bl, 0, none⟩)] W fun e W' => (∃ v, e = .returned v) ∧
      ((∃ ys, ys = List.finRange lens.length ∧ J ys W') ∨ (∃ pre, (∃ k, k ≤ lens.length ∧ pre = fr lens.length k) ∧ Jx pre W')) := by
  have hlen := hz.few
  have hll := hz.short
  refine callsIn_of_wp Tryz.func81 rfl h7 ?_ hro
  simp only [Tryz.ntmps81, List.size_toArray, List.length_cons, List.length_nil, Nat.reduceAdd, Nat.reduceSub, Array.replicate_succ, Array.replicate_zero, List.push_toArray, List.append_toArray, List.nil_append, List.cons_append]
  gi_wp2
  gi_loopw [4, 10] (fun p i wr => ∃ k : Nat, k ≤ lens.length ∧ i = .int .i64 k ∧ p = .int .i64 ((ofs lens k : Nat) : Int) ∧ J (fr lens.length k) wr ∧ KpB n₀ Bl W wr)
    (fun _ i _ => lens.length - (intOf i).toNat)
  case atStart => exact ⟨0, Nat.zero_le _, rfl, by rw [ofs_zero]; rfl, h0, kpB_refl _ _ _⟩
  case round =>
    obtain ⟨k, hk, rfl, rfl, hJs, hnx⟩ := hrel
    by_cases hlt : k < lens.length
    · have hcx' := (hnx.1.cell (p := ⟨b, off + k, none⟩) hb).trans (hc k hlt)
      have hbk : Blk wr Bl 22 #[.slice A l.length cl] := hnx.2.trans hBl
      have hbl' := hbk.cell 0
      simp at hbl'
      obtain ⟨fn, tmps, assign, body, hy, hR⟩ := hY _ ⟨k, hlt⟩ wr hJs (by rw [fr_length _ _ hk]; exact hlt)
      obtain ⟨e1, e2, e3, e4, e5⟩ := hz.step k hlt
      have HF := Lib.hid (fr_succ lens.length k hlt)
      simp only [segV] at hy
      obtain ⟨p, hp⟩ : ∃ p, ofs lens k = p := ⟨_, rfl⟩
      obtain ⟨q, hq⟩ : ∃ q, ofs lens (k + 1) = q := ⟨_, rfl⟩
      obtain ⟨y, hy2⟩ : ∃ y, nth lens k = y := ⟨_, rfl⟩
      rw [hp, hq] at e1 hy
      rw [hp] at e2
      rw [hq] at e2 e3
      rw [hy2] at e1 e4 e5 hcx'
      have HQ := Lib.hid hq
      have hsum : (p : Int) + y = (q : Int) := by omega
      have hrun := fun W => slice_lhm A l.length cl p q e2 e3 hcl W
      have k1 : (0 : Int) ≤ (k : Int) := by omega
      have k2 : (k : Int) < (lens.length : Int) := by omega
      rw [hp]
      clear hp hq hy2 e1 hJs
      gi_wp2
      refine hR.mono ?_
      rintro e W3 (⟨rfl, hJ3, hk3⟩ | ⟨rfl, hJx3⟩)
      · gi_wp2
        go_roundw
        case rel => exact ⟨k + 1, by omega, by go_num, by rw [HQ.out], by rw [HF.out]; exact hJ3, kpB_t hnx hk3⟩
        case measure => simp [intOf]; omega
      · gi_wp2
        refine bodyPost_ret (results_none rfl _ _ _) rfl ?_
        exact ⟨⟨_, rfl⟩, .inr ⟨_, ⟨k + 1, by omega, HF.out.symm⟩, hJx3⟩⟩
    · obtain rfl : k = lens.length := by omega
      gi_wp2
      go_end0
      exact ⟨⟨_, rfl⟩, .inl ⟨_, fr_all _, hJs⟩⟩
set_option maxHeartbeats 1000000 in
theorem segs_nil_in (F : Fence) (n : Nat) (h7 : F.fn 81) (hro : F.round = none) (i Bl Bs : Nat) (A' : Option Addr) (c : Nat) (J : List (Fin (List.length ([] : List Int))) → World → Prop) (W : World) (hBs : W.cell? ⟨Bs, 0, none⟩ = some (.slice A' 0 c)) (h0 : J [] W) :
    CallsIn F n Tryz.prog 81 #[.func (.yield i) #[] #[], .pointer (some ⟨Bs, 0, none⟩), .pointer (some ⟨Bl, 0, none⟩)] W fun e W' => (∃ v, e = .returned v) ∧ J [] W' := by
  refine callsIn_of_wp Tryz.func81 rfl h7 ?_ hro
  simp only [Tryz.ntmps81, List.size_toArray, List.length_cons, List.length_nil, Nat.reduceAdd, Nat.reduceSub, Array.replicate_succ, Array.replicate_zero, List.push_toArray, List.append_toArray, List.nil_append, List.cons_append]
  gi_wp2
  gi_loopw [10] (fun i wr => i = .int .i64 0 ∧ J [] wr) (fun _ _ => 0)
  case atStart => exact ⟨rfl, h0⟩
  case round =>
    obtain ⟨rfl, hJs⟩ := hrel
    gi_wp2
    go_end0
    exact ⟨⟨_, rfl⟩, hJs⟩
/-- segments(l, lens) hands back a value that 'SeqStopsK', at 'Kp := Below n₀'. -/
theorem segs_stops (F : Fence) (n : Nat) (h7 : F.fn 81) (hro : F.round = none) (hn : 1 ≤ n) (Bl Bs n₀ c cl : Nat) (A A' : Option Addr) (l lens : List Int) (hz : Segs l lens) (hcl : l.length ≤ cl) (w : World) (hBs : Bs < w.heap.size) (hn₀ : n₀ ≤ w.heap.size)
    (hc : w.cell? ⟨Bs, 0, none⟩ = some (.slice A' lens.length c)) (hl : Blk w Bl 22 #[.slice A l.length cl]) (hS : 0 < lens.length → ∃ b off, A' = some ⟨b, off, none⟩ ∧ b < n₀ ∧ ∀ j, j < lens.length → w.cell? ⟨b, off + j, none⟩ = some (.int .i64 (nth lens j))) :
    SeqStopsK F n Tryz.prog 81 #[.pointer (some ⟨Bs, 0, none⟩), .pointer (some ⟨Bl, 0, none⟩)] (segV A lens) (KpB n₀ Bl) (fun ys => ys = List.finRange lens.length) (fun pre => ∃ k, k ≤ lens.length ∧ pre = fr lens.length k) lens.length w := fun i J Jx W hW _ _ hY h0 => by
  have hc' := (hW.cell (p := ⟨Bs, 0, none⟩) (by show Bs < w.heap.size; omega)).trans hc
  have hl' := hl.below hW hl.lt
  rcases Nat.eq_zero_or_pos lens.length with h | h
  · have e := List.eq_nil_of_length_eq_zero h
    subst e
    exact (segs_nil_in F n h7 hro i Bl Bs A' c J W hc' h0).mono fun e W' ⟨he, hj⟩ => ⟨he, .inl ⟨_, rfl, hj⟩⟩
  · obtain ⟨b, off, rfl, hb, hcs⟩ := hS h
    exact segs_in F n h7 hro hn i Bl Bs n₀ b off c cl A l lens hz hcl hb J Jx hY W hc' hl' (fun j hj => (hW.cell (p := ⟨b, off + j, none⟩) (by show b < w.heap.size; omega)).trans (hcs j hj)) h0
theorem segments_any (u v : Value) (hu : ∃ A n c, u = .slice A n c) (hv : ∃ A n c, v = .slice A n c) (w : World) : Calls Tryz.prog 50 #[u, v] w fun e w' => e = .returned (.func (.func 81) #[] #[.pointer (some ⟨w.heap.size + 1, 0, none⟩), .pointer (some ⟨w.heap.size, 0, none⟩)]) ∧ w' = (w.alloc (.cells #[u] 22)).alloc (.cells #[v] 22) := by
  obtain ⟨A, n, c, rfl⟩ := hu
  obtain ⟨A', n', c', rfl⟩ := hv
  go_enter Tryz.func50, Tryz.ntmps50
  go_wp2
  go_ret
  exact ⟨rfl, rfl⟩
/-! ### what a caller's invariant is made of abides the law's own book-keeping -/
def Aside (B : Nat) (X : World) (row : Option Nat) : Prop := ∀ r, row = some r → B ≤ r ∧ ∃ o : Obj, X.heap[r]? = some o ∧ o.isCells = false
theorem Blk.aside {X Y : World} {B g : Nat} {t : TypeId} {cs : Array Value} {row : Option Nat} (h : Blk X g t cs) (hg : X.grownBy Y row) (hr : Aside B X row) : Blk Y g t cs :=
  h.grown hg (fun e => by
    obtain ⟨_, o, ho, hc⟩ := hr g e.symm
    rw [show X.heap[g]? = _ from h] at ho; cases ho; cases hc)
theorem own_aside {X Y : World} {B base : Nat} {e : TypeId} {size n : Nat} {v : Value} {xs : List Value} {row : Option Nat} (h : X.ownsRow base e size v n xs) (hg : X.grownBy Y row) (hr : Aside B X row) : Y.ownsRow base e size v n xs := by
  refine h.kept hg ?_
  rcases h.2 with ⟨rfl, _⟩ | ⟨g, cap, cur, rfl, _, hgb, _⟩
  · exact .inl rfl
  · refine .inr fun e' => ?_
    obtain ⟨_, o, ho, hc⟩ := hr g (by simpa [Value.ownBlock] using e'.symm)
    rw [hgb] at ho; cases ho; cases hc
theorem OwnI.aside {X Y : World} {B base : Nat} {v : Value} {zs : List Int} {row : Option Nat} (h : OwnI X base v zs) (hg : X.grownBy Y row) (hr : Aside B X row) : OwnI Y base v zs := own_aside h hg hr
theorem below_aside {w X Y : World} {B n₀ : Nat} {row : Option Nat} (h : Below n₀ w X) (hn : n₀ ≤ w.heap.size) (hB : n₀ ≤ B) (hg : X.grownBy Y row) (hr : Aside B X row) : Below n₀ w Y :=
  h.grown hg (Nat.le_trans hn h.size) (fun k e => Nat.le_trans hB (hr k e).1)
/-- What leaves all that was there alone leaves also what is no cells alone. -/
theorem below_others {X Y : World} (h : Below X.heap.size X Y) : KeepsOthers X Y :=
  ⟨h.size, fun k o hk _ => (h.block k (Array.getElem?_eq_some_iff.1 hk).1).trans hk⟩
end Go.Proofs.YtecpanppnljkhaaGreatDoor
