/- The iterator over the pairs of a list (slices.Chunk at 2) has its contract. -/
import Derived.Test.YtecpanppnljkhaaGreatDoorEg
import Derived.Test.YtecpanppnljkhaaGreatDoorEk
import Derived.Shelf.RegionOpen
namespace Go.Proofs.YtecpanppnljkhaaGreatDoor
set_option linter.unusedVariables false
set_option maxRecDepth 100000
open Go.RowKit Go.Shelf
attribute [local go_sem] Oper.semAt_some
/-- Both boxes are kept. -/
def KpC (n₀ B B' : Nat) (W W' : World) : Prop := Below n₀ W W' ∧ W'.heap[B]? = W.heap[B]? ∧ W'.heap[B']? = W.heap[B']?
theorem kpC_t {n₀ B B' : Nat} {X Y Z : World} (h : KpC n₀ B B' X Y) (k : KpC n₀ B B' Y Z) : KpC n₀ B B' X Z := ⟨h.1.trans k.1, k.2.1.trans h.2.1, k.2.2.trans h.2.2⟩
theorem kpC_b {n₀ B B' : Nat} {w : World} (hn : n₀ ≤ w.heap.size) (hB : B < w.heap.size) (hB' : B' < w.heap.size) (W : World) (l : Nat) (o o' : Obj) (hl : w.heap.size ≤ l) (h : W.heap[l]? = some o) (h1 : o.isCells = false) (h2 : o.isWalk = false) : KpC n₀ B B' W (W.putObj l o') :=
  ⟨belowK_b hn W l o o' hl h h1 h2, World.putObj_heap_other (by omega), World.putObj_heap_other (by omega)⟩
theorem kpC_refl (n₀ B B' : Nat) (W : World) : KpC n₀ B B' W W := ⟨Below.refl _ _, rfl, rfl⟩
theorem kpC_of_below {n₀ B B' m : Nat} (hn : n₀ ≤ m) (hB : B < m) (hB' : B' < m) {W W' : World} (h : Below m W W') : KpC n₀ B B' W W' := ⟨h.mono hn, h.block B hB, h.block B' hB'⟩
/-- How many pairs a list of n has (the last one may be half), and where pair x ends. -/
def chN (n : Nat) : Nat := (n + 1) / 2
def chE (n x : Nat) : Nat := min (2 * x + 2) n
def chV (A : Option Addr) (n : Nat) (x : Fin (chN n)) : Array Value := #[.slice (sgA A (2 * x.val) (chE n x.val)) (chE n x.val - 2 * x.val) (chE n x.val - 2 * x.val)]
theorem slice_fromV (A : Option Addr) (c lo n : Nat) (hlo : lo ≤ n) (hc : n ≤ c) :
    ∃ B, (∀ W, (Instr.sliceAt 22 (.slice A n c) (some (.int .i64 (lo : Int))) none none).run Tryz.prog W = .ok (.slice B (n - lo) (c - lo)) W) := by
  obtain ⟨i0, hi, hz0, hz1, hz2⟩ := info_parts int_info
  have he : Tryz.prog.elem 22 = 3 := by kernel_rfl
  have hrun : ∀ W, (Instr.slice 22 (.slice A n c) (some (.int .i64 (lo : Int))) none none).run Tryz.prog W = .ok (sliced A lo n c 1) W := fun W => by
    rw [run_slice_l W 22 A n c (by rw [he]; exact Tryz.underlying22) .i64 (lo : Int) (by omega) (by omega), he]
    simp [sizeOf, typeInfo, hi, hz1, Result.andThen]
  unfold sliced at hrun
  exact ⟨_, fun W => (run_sliceAt_slice W 22 _ _ _ _ (by kernel_rfl)).trans (hrun W)⟩
set_option maxHeartbeats 4000000 in
theorem chs_in (m : Nat) (hm : 1 ≤ m) (i Bl Bn n₀ n c : Nat) (A : Option Addr) (hcl : n ≤ c) (hn : n ≤ 16777216) (J Jx : List (Fin (chN n)) → World → Prop) (hJd : ∀ pre W, J pre W → J pre W.drew)
    (hY : ∀ pre x W, J pre W → pre.length < chN n → YieldAt Fence.wide (m - 1) Tryz.prog i (chV A n x) W fun e W' =>
      (e = .returned (.bool true) ∧ J (pre ++ [x]) W' ∧ KpC n₀ Bl Bn W W') ∨ (e = .returned (.bool false) ∧ Jx (pre ++ [x]) W'))
    (W : World) (hBn : Blk W Bn 3 #[.int .i64 2]) (hBl : Blk W Bl 22 #[.slice A n c]) (h0 : J [] W) :
    CallsIn Fence.wide m Tryz.prog 102 #[.func (.yield i) #[] #[], .pointer (some ⟨Bl, 0, none⟩), .pointer (some ⟨Bn, 0, none⟩)] W fun e W' => (∃ v, e = .returned v) ∧
      ((∃ ys, ys = List.finRange (chN n) ∧ J ys W') ∨ (∃ pre, (∃ k, k ≤ chN n ∧ pre = fr (chN n) k) ∧ Jx pre W')) := by
  refine callsIn_of_wp Tryz.func102 rfl trivial ?_ rfl
  simp only [Tryz.ntmps102, List.size_toArray, List.length_cons, List.length_nil, Nat.reduceAdd, Nat.reduceSub, Array.replicate_succ, Array.replicate_zero, List.push_toArray, List.append_toArray, List.nil_append, List.cons_append]
  gi_wp2
  gi_loopw [4] (fun i wr => ∃ k : Nat, k ≤ chN n ∧ i = .int .i64 ((2 * k : Nat) : Int) ∧ J (fr (chN n) k) wr ∧ KpC n₀ Bl Bn W wr) (fun i _ => n + 2 - (intOf i).toNat)
  case atStart => exact ⟨0, Nat.zero_le _, rfl, h0, kpC_refl _ _ _ _⟩
  case round =>
    obtain ⟨k, hk, rfl, hJs, hnx⟩ := hrel
    have hbl : Blk wr Bl 22 #[.slice A n c] := hnx.2.1.trans hBl
    have hbn : Blk wr Bn 3 #[.int .i64 2] := hnx.2.2.trans hBn
    have c1 := hbl.cell 0
    have c2 := hbn.cell 0
    simp at c1 c2
    by_cases hlt : 2 * k < n
    · have hkl : k < chN n := by unfold chN; omega
      obtain ⟨fn, tmps, assign, body, hy, hR⟩ := hY _ ⟨k, hkl⟩ wr.drew (hJd _ _ hJs) (by rw [fr_length _ _ hk]; exact hkl)
      have HF := Lib.hid (fr_succ (chN n) k hkl)
      simp only [chV] at hy
      obtain ⟨B, hr1⟩ := slice_fromV A c (2 * k) n (by omega) hcl
      obtain ⟨q, hq⟩ : ∃ q, chE n k = q := ⟨_, rfl⟩
      have hq1 : 2 * k ≤ q := by rw [← hq]; unfold chE; omega
      have hq2 : q ≤ n := by rw [← hq]; unfold chE; omega
      rw [hq] at hy
      have hrun := fun W => slice_lhm A n c (2 * k) q hq1 hq2 hcl W
      obtain ⟨p, hp⟩ : ∃ p, 2 * k = p := ⟨_, rfl⟩
      rw [hp] at hy hrun hr1 hlt hq1 ⊢
      have k1 : (0 : Int) ≤ (p : Int) := by omega
      have k2 : (p : Int) < (n : Int) := by omega
      clear hJs
      have HP := Lib.hid hp
      clear hp
      by_cases h2 : p + 2 ≤ n
      · have hq3 : (p : Int) + 2 = (q : Int) := by have := HP.out; rw [← hq]; unfold chE; omega
        have h3 : ((2 : Int) ≤ ((n - p : Nat) : Int)) := by omega
        clear hq
        gi_wp2
        refine wpIn_region_mix' (fun W' => W'.cell? ⟨Bl, 0, none⟩ = some (.slice A n c) ∧ W'.cell? ⟨Bn, 0, none⟩ = some (.int .i64 2)) [false, false, false, false, false, false] (fun _ => trivial) rfl (by kernel_rfl) (by kernel_rfl) ⟨c1, c2⟩ ?_
        simp only [mixT, mixH, mixD]
        iterate 6 (refine wpLts_light ?_ (fun W' hW => ?_) ?_; rotate_left; (obtain ⟨q0, q1⟩ := hW; go_simp; try with_reducible rfl); simp only [Act.put, List.setIfInBounds_toArray, List.set_cons_zero, List.set_cons_succ])
        refine wpLts_nil (wpHvs_nil ?_)
        rw [Int.min_eq_left h3]
        gi_wp2
        refine hR.mono ?_
        rintro e W3 (⟨rfl, hJ3, hk3⟩ | ⟨rfl, hJx3⟩)
        · have hbl3 : Blk W3 Bl 22 #[.slice A n c] := hk3.2.1.trans hbl
          have hbn3 : Blk W3 Bn 3 #[.int .i64 2] := hk3.2.2.trans hbn
          have c3 := hbl3.cell 0
          have c4 := hbn3.cell 0
          simp at c3 c4
          gi_wp2
          have h9 := HP.out
          go_roundw
          case rel => exact ⟨k + 1, by omega, by rw [show (q : Int) = ((2 * (k + 1) : Nat) : Int) by omega], by rw [HF.out]; exact hJ3, kpC_t hnx (kpC_t (show KpC n₀ Bl Bn wr wr.drew from ⟨(Below.refl _ _).drew, rfl, rfl⟩) hk3)⟩
          case measure => simp [intOf]; omega
        · gi_wp2
          refine bodyPost_ret (results_none rfl _ _ _) rfl ?_
          exact ⟨⟨_, rfl⟩, .inr ⟨_, ⟨k + 1, by omega, HF.out.symm⟩, hJx3⟩⟩
      · have hq3 : (p : Int) + 1 = (q : Int) := by have := HP.out; rw [← hq]; unfold chE; omega
        rw [show n - p = 1 by omega] at hr1
        clear hq
        gi_wp2
        refine wpIn_region_mix' (fun W' => W'.cell? ⟨Bl, 0, none⟩ = some (.slice A n c) ∧ W'.cell? ⟨Bn, 0, none⟩ = some (.int .i64 2)) [false, false, false, false, false, false] (fun _ => trivial) rfl (by kernel_rfl) (by kernel_rfl) ⟨c1, c2⟩ ?_
        simp only [mixT, mixH, mixD]
        iterate 6 (refine wpLts_light ?_ (fun W' hW => ?_) ?_; rotate_left; (obtain ⟨q0, q1⟩ := hW; go_simp; try with_reducible rfl); simp only [Act.put, List.setIfInBounds_toArray, List.set_cons_zero, List.set_cons_succ])
        refine wpLts_nil (wpHvs_nil ?_)
        rw [show min (2 : Int) 1 = 1 from rfl]
        gi_wp2
        refine hR.mono ?_
        rintro e W3 (⟨rfl, hJ3, hk3⟩ | ⟨rfl, hJx3⟩)
        · have hbl3 : Blk W3 Bl 22 #[.slice A n c] := hk3.2.1.trans hbl
          have hbn3 : Blk W3 Bn 3 #[.int .i64 2] := hk3.2.2.trans hbn
          have c3 := hbl3.cell 0
          have c4 := hbn3.cell 0
          simp at c3 c4
          gi_wp2
          have h9 := HP.out
          go_roundw
          case rel => exact ⟨k + 1, by omega, by rw [show (p : Int) + 2 = ((2 * (k + 1) : Nat) : Int) by omega], by rw [HF.out]; exact hJ3, kpC_t hnx (kpC_t (show KpC n₀ Bl Bn wr wr.drew from ⟨(Below.refl _ _).drew, rfl, rfl⟩) hk3)⟩
          case measure => simp [intOf]; omega
        · gi_wp2
          refine bodyPost_ret (results_none rfl _ _ _) rfl ?_
          exact ⟨⟨_, rfl⟩, .inr ⟨_, ⟨k + 1, by omega, HF.out.symm⟩, hJx3⟩⟩
    · have hkk : k = chN n := by unfold chN at *; omega
      obtain ⟨p, hp⟩ : ∃ p, 2 * k = p := ⟨_, rfl⟩
      rw [hp] at hlt ⊢
      clear hp
      subst hkk
      have k1 : ¬ ((p : Int) < (n : Int)) := by omega
      gi_wp2
      go_end0
      exact ⟨⟨_, rfl⟩, .inl (by rw [← fr_all]; exact hJs)⟩
theorem chunk_any (A : Option Addr) (n c : Nat) (w : World) : Calls Tryz.prog 84 #[.slice A n c, .int .i64 2] w fun e w' => e = .returned (.func (.func 102) #[] #[.pointer (some ⟨w.heap.size, 0, none⟩), .pointer (some ⟨w.heap.size + 1, 0, none⟩)]) ∧ w' = (w.alloc (.cells #[.slice A n c] 22)).alloc (.cells #[.int .i64 2] 3) := by
  have c1 := cell1 (w.alloc (.cells #[.slice A n c] 22)) 3 (.int .i64 2)
  simp at c1
  go_enter Tryz.func84, Tryz.ntmps84
  go_wp2
  go_ret
  exact ⟨rfl, rfl⟩
/-- slices.Chunk hands back a value that 'SeqStopsK'. -/
theorem chs_stops (m : Nat) (hm : 1 ≤ m) (Bl Bn n₀ n c : Nat) (A : Option Addr) (hcl : n ≤ c) (hn : n ≤ 16777216) (w : World) (hBn : Blk w Bn 3 #[.int .i64 2]) (hBl : Blk w Bl 22 #[.slice A n c]) :
    SeqStopsK Fence.wide m Tryz.prog 102 #[.pointer (some ⟨Bl, 0, none⟩), .pointer (some ⟨Bn, 0, none⟩)] (chV A n) (KpC n₀ Bl Bn) (fun ys => ys = List.finRange (chN n)) (fun pre => ∃ k, k ≤ chN n ∧ pre = fr (chN n) k) (chN n) w := fun i J Jx W hW hJ _ hY h0 =>
  chs_in m hm i Bl Bn n₀ n c A hcl hn J Jx (fun pre X h => hJ pre X X.drew none h ⟨rfl, rfl, rfl, Nat.le_refl _, fun _ _ _ => rfl⟩ (fun r e => by cases e)) hY W (hBn.below hW hBn.lt) (hBl.below hW hBl.lt) h0
