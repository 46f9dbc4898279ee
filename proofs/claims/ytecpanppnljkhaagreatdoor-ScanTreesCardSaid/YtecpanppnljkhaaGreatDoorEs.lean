/- The iterator that goes backward over a slice of slices. -/
import Derived.Test.YtecpanppnljkhaaGreatDoorEg
namespace Go.Proofs.YtecpanppnljkhaaGreatDoor
set_option linter.unusedVariables false
set_option maxRecDepth 100000
open Go.RowKit Go.Shelf
attribute [local go_sem] Oper.semAt_some
theorem backward_any (A : Option Addr) (n c : Nat) (w : World) : Calls Tryz.prog 79 #[.slice A n c] w fun e w' => e = .returned (.func (.func 99) #[] #[.pointer (some ⟨w.heap.size, 0, none⟩)]) ∧ w' = w.alloc (.cells #[.slice A n c] 33) := by
  go_enter Tryz.func79, Tryz.ntmps79
  go_wp2
  go_ret
  exact ⟨rfl, rfl⟩
def br (n k : Nat) : List (Fin n) := (List.finRange n).reverse.take k
theorem br_succ (n k : Nat) (h : k < n) : br n (k + 1) = br n k ++ [⟨n - 1 - k, by omega⟩] := by
  unfold br
  rw [List.take_succ_eq_append_getElem (by simpa using h)]
  simp
theorem br_length (n k : Nat) (h : k ≤ n) : (br n k).length = k := by simp [br, h]
theorem br_all (n : Nat) : br n n = (List.finRange n).reverse := by unfold br; rw [List.take_of_length_le (by simp)]
def bkV (V : Nat → Value) (n : Nat) (x : Fin n) : Array Value := #[.int .i64 ((x.val : Nat) : Int), V x.val]
set_option maxHeartbeats 2000000 in
theorem back_in (m : Nat) (hm : 1 ≤ m) (l Bs n₀ b off c n : Nat) (V : Nat → Value) (hlen : n ≤ 1048576) (hb : b < n₀) (J Jx : List (Fin n) → World → Prop)
    (hY : ∀ pre x W, J pre W → pre.length < n → YieldAt Fence.wide (m - 1) Tryz.prog l (bkV V n x) W fun e W' =>
      (e = .returned (.bool true) ∧ J (pre ++ [x]) W' ∧ KpB n₀ Bs W W') ∨ (e = .returned (.bool false) ∧ Jx (pre ++ [x]) W'))
    (W : World) (hBs : Blk W Bs 33 #[.slice (some ⟨b, off, none⟩) n c]) (hc : ∀ j, j < n → W.cell? ⟨b, off + j, none⟩ = some (V j)) (h0 : J [] W) :
    CallsIn Fence.wide m Tryz.prog 99 #[.func (.yield l) #[] #[], .pointer (some ⟨Bs, 0, none⟩)] W fun e W' => (∃ v, e = .returned v) ∧
      ((∃ xs, xs = (List.finRange n).reverse ∧ J xs W') ∨ (∃ pre, (∃ k, k ≤ n ∧ pre = br n k) ∧ Jx pre W')) := by
  have hBc := hBs.cell 0
  simp at hBc
  refine callsIn_of_wp Tryz.func99 rfl trivial ?_ rfl
  simp only [Tryz.ntmps99, List.size_toArray, List.length_cons, List.length_nil, Nat.reduceAdd, Nat.reduceSub, Array.replicate_succ, Array.replicate_zero, List.push_toArray, List.append_toArray, List.nil_append, List.cons_append]
  gi_wp2
  gi_loopw [3] (fun i wr => ∃ (k : Nat) (x : Int), k ≤ n ∧ i = .int .i64 x ∧ x = (n : Int) - 1 - (k : Int) ∧ J (br n k) wr ∧ KpB n₀ Bs W wr)
    (fun i _ => (intOf i + 1).toNat)
  case atStart => exact ⟨0, _, Nat.zero_le _, rfl, by simp, h0, kpB_refl _ _ _⟩
  case round =>
    obtain ⟨k, x, hk, rfl, hx, hJs, hnx⟩ := hrel
    by_cases hlt : k < n
    · obtain ⟨p, rfl⟩ : ∃ p : Nat, x = (p : Int) := ⟨x.toNat, by omega⟩
      have hpn : p < n := by omega
      have hpe : n - 1 - k = p := by omega
      have hcx' := (hnx.1.cell (p := ⟨b, off + p, none⟩) hb).trans (hc p hpn)
      have hBr : Blk wr Bs 33 #[.slice (some ⟨b, off, none⟩) n c] := hnx.2.trans hBs
      have hBc' := hBr.cell 0
      simp at hBc'
      have HF : Hid (br n (k + 1) = br n k ++ [⟨p, hpn⟩]) := Lib.hid (by rw [br_succ n k hlt]; simp only [hpe])
      obtain ⟨fn, tmps, assign, body, hy, hR⟩ := hY _ ⟨p, hpn⟩ wr hJs (by rw [br_length _ _ hk]; exact hlt)
      simp only [bkV] at hy
      have HX := Lib.hid hx
      have hp1 : (0 : Int) ≤ (p : Int) := by omega
      have hp2 : (p : Int) < (n : Int) := by omega
      clear hx hpe hBc
      gi_wp2
      refine hR.mono ?_
      rintro e W3 (⟨rfl, hJ3, hk3⟩ | ⟨rfl, hJx3⟩)
      · gi_wp2
        go_roundw
        case rel => exact ⟨k + 1, (p : Int) - 1, by omega, rfl, by have := HX.out; omega, by rw [HF.out]; exact hJ3, kpB_t hnx hk3⟩
        case measure => simp [intOf]
      · gi_wp2
        refine bodyPost_ret (results_none rfl _ _ _) rfl ?_
        exact ⟨⟨_, rfl⟩, .inr ⟨_, ⟨k + 1, by omega, HF.out.symm⟩, hJx3⟩⟩
    · obtain rfl : k = n := by omega
      obtain rfl : x = -1 := by omega
      clear hx
      gi_wp2
      go_end0
      exact ⟨⟨_, rfl⟩, .inl ⟨_, br_all _, hJs⟩⟩
set_option maxHeartbeats 1000000 in
theorem back_nil_in (m : Nat) (l Bs : Nat) (A : Option Addr) (c : Nat) (J : List (Fin 0) → World → Prop) (W : World) (hBs : W.cell? ⟨Bs, 0, none⟩ = some (.slice A 0 c)) (h0 : J [] W) :
    CallsIn Fence.wide m Tryz.prog 99 #[.func (.yield l) #[] #[], .pointer (some ⟨Bs, 0, none⟩)] W fun e W' => (∃ v, e = .returned v) ∧ J [] W' := by
  refine callsIn_of_wp Tryz.func99 rfl trivial ?_ rfl
  simp only [Tryz.ntmps99, List.size_toArray, List.length_cons, List.length_nil, Nat.reduceAdd, Nat.reduceSub, Array.replicate_succ, Array.replicate_zero, List.push_toArray, List.append_toArray, List.nil_append, List.cons_append]
  gi_wp2
  gi_loopw [3] (fun i wr => i = .int .i64 (-1) ∧ J [] wr) (fun _ _ => 0)
  case atStart => exact ⟨rfl, h0⟩
  case round =>
    obtain ⟨rfl, hJs⟩ := hrel
    gi_wp2
    go_end0
    exact ⟨⟨_, rfl⟩, hJs⟩
theorem back_stops (m : Nat) (hm : 1 ≤ m) (Bs n₀ c n : Nat) (A : Option Addr) (V : Nat → Value) (hlen : n ≤ 1048576) (w : World) (hsz : n₀ ≤ w.heap.size)
    (hc : Blk w Bs 33 #[.slice A n c]) (hS : 0 < n → ∃ b off, A = some ⟨b, off, none⟩ ∧ b < n₀ ∧ ∀ j, j < n → w.cell? ⟨b, off + j, none⟩ = some (V j)) :
    SeqStopsK Fence.wide m Tryz.prog 99 #[.pointer (some ⟨Bs, 0, none⟩)] (bkV V n) (KpB n₀ Bs) (fun ys => ys = (List.finRange n).reverse) (fun pre => ∃ k, k ≤ n ∧ pre = br n k) n w := fun l J Jx W hW _ _ hY h0 => by
  have hb := hc.below hW hc.lt
  rcases Nat.eq_zero_or_pos n with h | h
  · subst h
    have hb0 := hb.cell 0
    simp at hb0
    exact (back_nil_in m l Bs A c J W hb0 h0).mono fun e W' ⟨he, hj⟩ => ⟨he, .inl ⟨_, rfl, hj⟩⟩
  · obtain ⟨b, off, rfl, hbn, hcs⟩ := hS h
    exact back_in m hm l Bs n₀ b off c n V hlen hbn J Jx hY W hb (fun j hj => (hW.cell (p := ⟨b, off + j, none⟩) (by show b < w.heap.size; omega)).trans (hcs j hj)) h0
end Go.Proofs.YtecpanppnljkhaaGreatDoor
