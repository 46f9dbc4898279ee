/- The iterator that goes backward over a slice of slices, with its order. -/
import Derived.Test.YtecpanppnljkhaaGreatDoorEs
import Derived.Test.YtecpanppnljkhaaGreatDoorQr
namespace Go.Proofs.YtecpanppnljkhaaGreatDoor
set_option linter.unusedVariables false
set_option maxRecDepth 100000
open Go.RowKit Go.Shelf
attribute [local go_sem] Oper.semAt_some
theorem br_split (n k : Nat) (h : k < n) : (List.finRange n).reverse = br n k ++ (⟨n - 1 - k, by omega⟩ : Fin n) :: (List.finRange n).reverse.drop (k + 1) := by
  unfold br
  have h1 : (List.finRange n).reverse.drop k = (⟨n - 1 - k, by omega⟩ : Fin n) :: (List.finRange n).reverse.drop (k + 1) := by
    rw [List.drop_eq_getElem_cons (by simpa using h)]
    simp
  rw [← h1, List.take_append_drop]
set_option maxHeartbeats 2000000 in
theorem backq_in (m : Nat) (hm : 1 ≤ m) (l Bs n₀ b off c n : Nat) (V : Nat → Value) (hlen : n ≤ 1048576) (hb : b < n₀) (J : List (Fin n) → World → Prop)
    (hY : ∀ pre x post W, (List.finRange n).reverse = pre ++ x :: post → J pre W → YieldAt Fence.wide (m - 1) Tryz.prog l (bkV V n x) W fun e W' =>
      e = .returned (.bool true) ∧ J (pre ++ [x]) W' ∧ KpB n₀ Bs W W')
    (W : World) (hBs : Blk W Bs 33 #[.slice (some ⟨b, off, none⟩) n c]) (hc : ∀ j, j < n → W.cell? ⟨b, off + j, none⟩ = some (V j)) (h0 : J [] W) :
    CallsIn Fence.wide m Tryz.prog 99 #[.func (.yield l) #[] #[], .pointer (some ⟨Bs, 0, none⟩)] W fun e W' => (∃ v, e = .returned v) ∧ J (List.finRange n).reverse W' := by
  have hBc := hBs.cell 0
  simp at hBc
  refine callsIn_of_wp Tryz.func99 rfl trivial ?_ rfl
  simp only [Tryz.ntmps99, List.size_toArray, List.length_cons, List.length_nil, Nat.reduceAdd, Nat.reduceSub, Array.replicate_succ, Array.replicate_zero, List.push_toArray, List.append_toArray, List.nil_append, List.cons_append]
  gi_wp2
  gi_loopw [3] (fun i wr => ∃ (k : Nat) (x : Int), k ≤ n ∧ i = .int .i64 x ∧ x = (n : Int) - 1 - (k : Int) ∧ J (br n k) wr ∧ KpB n₀ Bs W wr)
    (fun i _ => (intOf i + 1).toNat)
  case atStart => exact ⟨0, _, Nat.zero_le _, rfl, by simp, h0, kpB_refl _ _ _⟩
  case round =>
    obtain ⟨k, x, hk, rfl, hx, hJs, hnx⟩ := hrel
    by_cases hlt : k < n
    · obtain ⟨p, rfl⟩ : ∃ p : Nat, x = (p : Int) := ⟨x.toNat, by omega⟩
      have hpn : p < n := by omega
      have hpe : n - 1 - k = p := by omega
      have hcx' := (hnx.1.cell (p := ⟨b, off + p, none⟩) hb).trans (hc p hpn)
      have hBr : Blk wr Bs 33 #[.slice (some ⟨b, off, none⟩) n c] := hnx.2.trans hBs
      have hBc' := hBr.cell 0
      simp at hBc'
      have HF : Hid (br n (k + 1) = br n k ++ [⟨p, hpn⟩]) := Lib.hid (by rw [br_succ n k hlt]; simp only [hpe])
      obtain ⟨fn, tmps, assign, body, hy, hR⟩ := hY _ ⟨p, hpn⟩ _ wr (by rw [br_split n k hlt]; simp only [hpe]; rfl) hJs
      simp only [bkV] at hy
      have HX := Lib.hid hx
      have hp1 : (0 : Int) ≤ (p : Int) := by omega
      have hp2 : (p : Int) < (n : Int) := by omega
      clear hx hpe hBc
      gi_wp2
      refine hR.mono ?_
      rintro e W3 ⟨rfl, hJ3, hk3⟩
      gi_wp2
      go_roundw
      case rel => exact ⟨k + 1, (p : Int) - 1, by omega, rfl, by have := HX.out; omega, by rw [HF.out]; exact hJ3, kpB_t hnx hk3⟩
      case measure => simp [intOf]
    · obtain rfl : k = n := by omega
      obtain rfl : x = -1 := by omega
      clear hx
      gi_wp2
      go_end0
      exact ⟨⟨_, rfl⟩, by rw [← br_all]; exact hJs⟩
theorem back_seq (m : Nat) (hm : 1 ≤ m) (Bs n₀ c n : Nat) (A : Option Addr) (V : Nat → Value) (hlen : n ≤ 1048576) (w : World) (hsz : n₀ ≤ w.heap.size)
    (hc : Blk w Bs 33 #[.slice A n c]) (hS : 0 < n → ∃ b off, A = some ⟨b, off, none⟩ ∧ b < n₀ ∧ ∀ j, j < n → w.cell? ⟨b, off + j, none⟩ = some (V j)) :
    SeqIn Fence.wide m Tryz.prog 99 #[.pointer (some ⟨Bs, 0, none⟩)] (bkV V n) (KpB n₀ Bs) (List.finRange n).reverse w := fun l J W hW _ hY h0 => by
  have hb := hc.below hW hc.lt
  rcases Nat.eq_zero_or_pos n with h | h
  · subst h
    have hb0 := hb.cell 0
    simp at hb0
    exact (back_nil_in m l Bs A c J W hb0 h0).mono fun e W' ⟨he, hj⟩ => ⟨he, hj⟩
  · obtain ⟨b, off, rfl, hbn, hcs⟩ := hS h
    exact backq_in m hm l Bs n₀ b off c n V hlen hbn J hY W hb (fun j hj => (hW.cell (p := ⟨b, off + j, none⟩) (by show b < w.heap.size; omega)).trans (hcs j hj)) h0
end Go.Proofs.YtecpanppnljkhaaGreatDoor
