/- slices.Values over spans, as an iterator; the places of spans. -/
import Derived.Test.YtcbkocjpkdcpfaaMd
namespace Go.Proofs.Ytcbkocjpkdcpfaa
set_option linter.unusedVariables false
open Go.RowKit Go.Shelf

attribute [local go_sem] Oper.semAt_some
def valV (ps : List (Int × Int)) (n : Nat) (x : Fin n) : Array Value := #[.agg #[.int .i64 (pth ps x.val).1, .int .i64 (pth ps x.val).2]]

set_option maxRecDepth 100000 in
set_option maxHeartbeats 2000000 in
theorem vals_in (F : Fence) (n : Nat) (h7 : F.fn 69) (hro : F.round = none) (hn : 1 ≤ n) (l B1 n₀ b off c : Nat) (ps : List (Int × Int)) (hlen : ps.length ≤ 1048576) (hb : b < n₀) (J Jx : List (Fin ps.length) → World → Prop)
    (W : World) (hW : n₀ ≤ W.heap.size) (hJa : ∀ pre X o, J pre X → J pre (X.alloc o))
    (hY : ∀ pre x W, J pre W → pre.length < ps.length → YieldAt F (n - 1) Try.prog l (valV ps ps.length x) W fun e W' =>
      (e = .returned (.bool true) ∧ J (pre ++ [x]) W' ∧ Below n₀ W W') ∨ (e = .returned (.bool false) ∧ Jx (pre ++ [x]) W'))
    (hB1 : Blk W B1 37 #[.slice (some ⟨b, off, none⟩) ps.length c])
    (hc : ∀ j, j < ps.length → W.cell? ⟨b, off + j * 2, none⟩ = some (.int .i64 (pth ps j).1) ∧ W.cell? ⟨b, off + j * 2 + 1, none⟩ = some (.int .i64 (pth ps j).2)) (h0 : J [] W) :
    CallsIn F n Try.prog 69 #[.func (.yield l) #[] #[], .pointer (some ⟨B1, 0, none⟩)] W fun e W' => (∃ v, e = .returned v) ∧
      ((∃ ys, ys = List.finRange ps.length ∧ J ys W') ∨ (∃ pre, (∃ k, k ≤ ps.length ∧ pre = fr ps.length k) ∧ Jx pre W')) := by
  have hBc := hB1.cell 0
  simp at hBc
  refine callsIn_of_wp Try.func69 rfl h7 ?_ hro
  simp only [Try.ntmps69, List.size_toArray, List.length_cons, List.length_nil, Nat.reduceAdd, Nat.reduceSub, Array.replicate_succ, Array.replicate_zero, List.push_toArray, List.append_toArray, List.nil_append, List.cons_append]
  gi_wp2
  gi_loopw [7] (fun i wr => ∃ (k : Nat), k ≤ ps.length ∧ i = .int .i64 k ∧ J (fr ps.length k) wr ∧ Below n₀ W wr)
    (fun i _ => ps.length - (intOf i).toNat)
  case atStart => exact ⟨0, Nat.zero_le _, rfl, h0, Below.refl _ _⟩
  case round =>
    obtain ⟨k, hk, rfl, hJs, hnx⟩ := hrel
    by_cases hlt : k < ps.length
    · have hcx := (hnx.cell (p := ⟨b, off + k * 2, none⟩) hb).trans (hc k hlt).1
      have hcx' := (hnx.cell (p := ⟨b, off + k * 2 + 1, none⟩) hb).trans (hc k hlt).2
      have HF := Lib.hid (fr_succ ps.length k hlt)
      have hszr := hnx.size
      have hY' := fun o => hY _ ⟨k, hlt⟩ (wr.alloc o) (hJa _ _ o hJs) (by rw [fr_length _ _ hk]; exact hlt)
      have hblt : b < wr.heap.size := by omega
      simp only [valV] at hY'
      obtain ⟨⟨s, q⟩, hx⟩ : ∃ x, pth ps k = x := ⟨_, rfl⟩
      rw [hx] at hcx hcx'
      simp only [hx] at hY'
      have hnx2 := fun o => hnx.alloc (o := o) (by omega)
      obtain ⟨fn, tmps, assign, body, hy, hR⟩ := hY' (.cells #[.int .i64 s, .int .i64 q] 52)
      have hp1 : (0 : Int) ≤ (k : Int) := by omega
      have hp2 : (k : Int) < (ps.length : Int) := by omega
      have hnx3 := hnx2 (.cells #[.int .i64 s, .int .i64 q] 52)
      clear hBc hY' hnx2
      gi_wp2
      refine hR.mono ?_
      rintro e W3 (⟨rfl, hJ3, hk3⟩ | ⟨rfl, hJx3⟩)
      · gi_wp2
        go_roundw
        case rel => exact ⟨k + 1, by omega, by go_num, by rw [HF.out]; exact hJ3, hnx3.trans hk3⟩
        case measure => simp [intOf]; omega
      · gi_wp2
        refine bodyPost_ret (results_none rfl _ _ _) rfl ?_
        exact ⟨⟨_, rfl⟩, .inr ⟨_, ⟨k + 1, by omega, HF.out.symm⟩, hJx3⟩⟩
    · obtain rfl : k = ps.length := by omega
      gi_wp2
      go_end0
      exact ⟨⟨_, rfl⟩, .inl ⟨_, fr_all _, hJs⟩⟩

set_option maxRecDepth 100000 in
set_option maxHeartbeats 1000000 in
theorem vals_nil_in (F : Fence) (n : Nat) (h7 : F.fn 69) (hro : F.round = none) (l B1 : Nat) (A : Option Addr) (c : Nat) (J : List (Fin (List.length ([] : List (Int × Int)))) → World → Prop) (W : World) (hBs : W.cell? ⟨B1, 0, none⟩ = some (.slice A 0 c)) (h0 : J [] W) :
    CallsIn F n Try.prog 69 #[.func (.yield l) #[] #[], .pointer (some ⟨B1, 0, none⟩)] W fun e W' => (∃ v, e = .returned v) ∧ J [] W' := by
  refine callsIn_of_wp Try.func69 rfl h7 ?_ hro
  simp only [Try.ntmps69, List.size_toArray, List.length_cons, List.length_nil, Nat.reduceAdd, Nat.reduceSub, Array.replicate_succ, Array.replicate_zero, List.push_toArray, List.append_toArray, List.nil_append, List.cons_append]
  gi_wp2
  gi_loopw [7] (fun i wr => i = .int .i64 0 ∧ J [] wr) (fun _ _ => 0)
  case atStart => exact ⟨rfl, h0⟩
  case round =>
    obtain ⟨rfl, hJs⟩ := hrel
    gi_wp2
    go_end0
    exact ⟨⟨_, rfl⟩, hJs⟩

theorem vals_stops (F : Fence) (n : Nat) (h7 : F.fn 69) (hro : F.round = none) (hn : 1 ≤ n) (B1 n₀ c : Nat) (A : Option Addr) (ps : List (Int × Int)) (hlen : ps.length ≤ 1048576) (w wa : World) (hn₀ : n₀ = wa.heap.size) (hB : Below n₀ wa w) (hsz : n₀ ≤ w.heap.size)
    (hb1 : Blk w B1 37 #[.slice A ps.length c]) (hS : SlP wa A ps) :
    SeqStopsK F n Try.prog 69 #[.pointer (some ⟨B1, 0, none⟩)] (valV ps ps.length) (Below n₀) (fun ys => ys = List.finRange ps.length) (fun pre => ∃ k, k ≤ ps.length ∧ pre = fr ps.length k) ps.length w := fun l J Jx W hW hJ _ hY h0 => by
  have hb1' : Blk W B1 37 #[.slice A ps.length c] := hb1.below hW hb1.lt
  rcases Nat.eq_zero_or_pos ps.length with h | h
  · have e := List.eq_nil_of_length_eq_zero h
    subst e
    have hc2 := hb1'.cell 0
    exact (vals_nil_in F n h7 hro l B1 A c J W hc2 h0).mono fun e W' ⟨he, hj⟩ => ⟨he, .inl ⟨_, rfl, hj⟩⟩
  · obtain ⟨b, off, rfl, hb, hcs⟩ := hS h
    refine vals_in F n h7 hro hn l B1 n₀ b off c ps hlen (by omega) J Jx W (Nat.le_trans hsz hW.size) (fun pre X o hX => hJ pre X _ none hX (World.grownBy_alloc X o none) (fun r e => by cases e)) hY hb1' (fun j hj => ?_) h0
    have hlt : b < n₀ := by omega
    exact ⟨((hW.mono hsz).cell (p := ⟨b, off + j * 2, none⟩) hlt).trans ((hB.cell (p := ⟨b, off + j * 2, none⟩) hlt).trans (hcs j hj).1), ((hW.mono hsz).cell (p := ⟨b, off + j * 2 + 1, none⟩) hlt).trans ((hB.cell (p := ⟨b, off + j * 2 + 1, none⟩) hlt).trans (hcs j hj).2)⟩

/-- The places of spans. -/
def ppL (ps : List (Int × Int)) : List Int := gpP (fun x : Fin ps.length => (pth ps x.val).1) (fun x => (pth ps x.val).2) (List.finRange ps.length)
theorem values_any (A : Option Addr) (n c : Nat) (w : World) : Calls Try.prog 57 #[.slice A n c] w fun e w' => e = .returned (.func (.func 69) #[] #[.pointer (some ⟨w.heap.size, 0, none⟩)]) ∧ w' = w.alloc (.cells #[.slice A n c] 37) := by
  go_enter Try.func57, Try.ntmps57
  go_wp2
  go_ret
  exact ⟨rfl, rfl⟩
theorem placesVals (A : Option Addr) (c : Nat) (ps : List (Int × Int)) (w : World) (h : SlP w A ps) (hl : ps.length ≤ 1048576) (hb : ∀ x ∈ ps, 0 ≤ x.1 ∧ x.1 ≤ 1048576 ∧ 0 ≤ x.2 ∧ x.2 ≤ 1048576) :
    Calls Try.prog 56 #[.func (.func 69) #[] #[.pointer (some ⟨w.heap.size, 0, none⟩)]] (w.alloc (.cells #[.slice A ps.length c] 37)) (RetS w (ppL ps)) := by
  have b1 := (Blk.new w 37 #[.slice A ps.length c]).alloc (.cells #[.slice none 0 0] 22)
  have hB : Below w.heap.size w (w.alloc (.cells #[.slice A ps.length c] 37)) := (Below.refl _ w).alloc (Nat.le_refl _) _
  refine (placesOf_gen hl (fun x => (pth ps x.val).1) (fun x => (pth ps x.val).2) (fun x => hb _ (by rw [pth_eq ps x.val x.isLt]; exact List.getElem_mem x.isLt)) 69 _ _ (enters_of Try.func69 (by kernel_rfl) rfl)
    (vals_stops Fence.wide (8 - 1) trivial rfl (by omega) w.heap.size w.heap.size c A ps hl _ w rfl (hB.alloc hB.size _) (by simp; omega) b1 h) belowK_t ?_ ?_).mono ?_
  · intro W l o o' hl h1 h2 h3
    exact belowK_b (w := w.alloc (.cells #[.slice A ps.length c] 37)) (by simp) W l o o' (by simp at hl ⊢; omega) h1 h2 h3
  · intro W W' hb
    exact hb.mono (by simp)
  · rintro e w' ⟨A1, c1, rfl, h1, h2, h3⟩
    exact ⟨A1, c1, rfl, h1, h2, hB.trans (h3.mono (by simp))⟩
end Go.Proofs.Ytcbkocjpkdcpfaa
