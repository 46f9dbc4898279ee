/- Walks of scan: slices.Repeat of one word. -/
import Derived.Test.YtecpanppnljkhaaGreatDoorEa
import Derived.Test.YtecpanppnljkhaaGreatDoorShelf
import Derived.Laws.CopyOwn
import Derived.Deep.RegionLaw
namespace Go.Proofs.YtecpanppnljkhaaGreatDoor
set_option linter.unusedVariables false
set_option maxRecDepth 100000
open Go.RowKit Go.Shelf
theorem bits_Mul1 (n : Nat) (hn : n ≤ 16777216) (w : World) : Calls Tryz.prog 98 #[.int .u64 1, .int .u64 (n : Int)] w fun e w' => e = .returned (.tuple #[.int .u64 0, .int .u64 (n : Int)]) ∧ w' = w := by
  have := Tryz.bits_Mul 1 n (by omega) (by omega) w
  rw [show (1 * n / 18446744073709551616 : Nat) = 0 by omega, show (1 * n % 18446744073709551616 : Nat) = n by omega] at this
  exact this
theorem repInfo : (Tryz.prog.info? 3).map (·.size) = some 1 := by kernel_rfl
/-- A slice cut from a place on, up to the end of its room. -/
theorem slice_from0 (g n k : Nat) (hk : k < n) (W : World) : (Instr.sliceAt 22 (.slice (some ⟨g, 0, none⟩) n n) (some (.int .i64 (k : Int))) none none).run Tryz.prog W = .ok (.slice (some ⟨g, k, none⟩) (n - k) (n - k)) W := by
  obtain ⟨i0, hi, hz0, hz1, hz2⟩ := info_parts int_info
  have he : Tryz.prog.elem 22 = 3 := by kernel_rfl
  have hrun : (Instr.slice 22 (.slice (some ⟨g, 0, none⟩) n n) (some (.int .i64 (k : Int))) none none).run Tryz.prog W = .ok (sliced (some ⟨g, 0, none⟩) k n n 1) W := by
    rw [run_slice_l W 22 (some ⟨g, 0, none⟩) n n (by rw [he]; exact Tryz.underlying22) .i64 (k : Int) (by omega) (by omega), he]
    simp [sizeOf, typeInfo, hi, hz1, Result.andThen]
  unfold sliced at hrun
  simp only [Option.map_some, Nat.mul_one, add_plain, Nat.zero_add] at hrun
  exact (run_sliceAt_slice W 22 _ _ _ _ (by kernel_rfl)).trans (hrun.trans (by rw [if_neg (by omega)]))
/-- A slice cut up to a place. -/
theorem slice_to0 (g n k : Nat) (hk : k ≤ n) (h0 : 0 < n) (W : World) : (Instr.sliceAt 22 (.slice (some ⟨g, 0, none⟩) n n) none (some (.int .i64 (k : Int))) none).run Tryz.prog W = .ok (.slice (some ⟨g, 0, none⟩) k n) W := by
  obtain ⟨i0, hi, hz0, hz1, hz2⟩ := info_parts int_info
  have he : Tryz.prog.elem 22 = 3 := by kernel_rfl
  have hrun : (Instr.slice 22 (.slice (some ⟨g, 0, none⟩) n n) none (some (.int .i64 (k : Int))) none).run Tryz.prog W = .ok (sliced (some ⟨g, 0, none⟩) 0 k n 1) W := by
    rw [run_slice_h W 22 (some ⟨g, 0, none⟩) n n (by rw [he]; exact Tryz.underlying22) .i64 (k : Int) (by omega) (by omega), he]
    simp [sizeOf, typeInfo, hi, hz1, Result.andThen]
  unfold sliced at hrun
  simp only [Option.map_some, Nat.mul_one, add_plain, Nat.add_zero] at hrun
  exact (run_sliceAt_slice W 22 _ _ _ _ (by kernel_rfl)).trans (hrun.trans (by rw [if_neg (by omega)]; simp))
/-- The cells of a row that is being filled. -/
def Fill (w : World) (g n : Nat) (v : Int) (k : Nat) : Prop := ∃ zs : List Int, zs.length = n ∧ Full w g zs ∧ zs.take k = List.replicate k v
theorem Fill.cells {w : World} {g n : Nat} {v : Int} {k : Nat} (h : Fill w g n v k) : ∃ cur : List Value, w.heap[g]? = some (.cells cur.toArray 3 (0, 0)) ∧ cur.length = n ∧ (∃ zs : List Int, cur = zs.map (Value.int .i64)) ∧ cur.take k = (List.replicate k v).map (Value.int .i64) := by
  obtain ⟨zs, h1, h2, h3⟩ := h
  exact ⟨zs.map (Value.int .i64), h2, by simp [h1], ⟨zs, rfl⟩, by rw [← List.map_take, h3]⟩
theorem Fill.copied {w : World} {g n : Nat} {v : Int} {k m : Nat} {cur : List Value} (hl : cur.length = n) (hz : ∃ zs : List Int, cur = zs.map (Value.int .i64)) (ht : cur.take k = (List.replicate k v).map (Value.int .i64)) (hm : k + m ≤ n)
    (hg : w.heap[g]? = some (.cells (splice cur k ((List.replicate m v).map (Value.int .i64))).toArray 3 (0, 0))) : Fill w g n v (k + m) := by
  obtain ⟨zs, rfl⟩ := hz
  have hl' : zs.length = n := by simpa using hl
  have ht' : zs.take k = List.replicate k v := by
    rw [← List.map_take] at ht
    exact List.map_inj_right (fun a b e => by injection e) |>.1 ht
  refine ⟨splice zs k (List.replicate m v), ?_, ?_, ?_⟩
  · rw [length_splice _ _ _ (by simp; omega)]; exact hl'
  · unfold Full Blk
    rw [hg]
    unfold splice
    simp [List.map_append, List.map_take, List.map_drop]
  · unfold splice
    rw [ht', ← List.append_assoc, List.take_left' (by simp), List.replicate_append_replicate]
set_option maxHeartbeats 4000000 in
theorem repeat_any (g n : Nat) (v : Int) (w : World) (hn : n ≤ 16777216) (hv : Full w g [v]) :
    Calls Tryz.prog 78 #[.slice (some ⟨g, 0, none⟩) 1 1, .int .i64 (n : Int)] w (RetS w (List.replicate n v)) := by
  obtain ⟨i0, hi, hz0, hz1, hz2⟩ := info_parts int_info
  have C1 := Lib.hid (bits_Mul1 n hn)
  have h1 : (0 : Int) ≤ (n : Int) := by omega
  have hd : decide ((n : Int) < 0) = false := by simp
  have hd2 : decide ((9223372036854775807 : Int) < (n : Int)) = false := by simp; omega
  have hw : IntKind.u64.wrap (n : Int) = (n : Int) := by unfold IntKind.wrap; simp [IntKind.signed, IntKind.bits]; omega
  have hw2 : IntKind.i64.wrap (n : Int) = (n : Int) := by unfold IntKind.wrap; simp [IntKind.signed, IntKind.bits]; omega
  have hmk := fun W => run_make_row (P := Tryz.prog) 22 3 i0 (.int .i64 0) Tryz.underlying22 hi hz0 hz1 rfl .i64 .i64 n (by rw [hz2]; omega) (by omega) W
  go_enter Tryz.func78, Tryz.ntmps78
  have F0 := Full.made w n (by unfold maxLen; omega)
  obtain ⟨Z, hZ1, hZ2⟩ : ∃ Z : List Value, (List.replicate n (0 : Int)).map (Value.int .i64) = Z ∧ Z.length = n := ⟨_, rfl, by simp⟩
  obtain ⟨X, hX⟩ : ∃ X : List Value, (List.replicate (Nat.min 1 n) v).map (Value.int .i64) = X := ⟨_, rfl⟩
  have hXl : X.length = Nat.min 1 n := by rw [← hX]; simp
  have hX1 : ∀ u ∈ X, u.oneCell' = true := by rw [← hX]; simp [Value.oneCell']
  have hXc := Lib.hid (fun j u => show X[j]? = some u → (w.alloc (.cells (madeCells #[.int .i64 0] n) 3)).cell? ((⟨g, 0, none⟩ : Addr).add j) = some u from fun hj => by
    rw [← hX] at hj
    rw [add_plain]
    have hj1 : j < 1 := by
      obtain ⟨h, _⟩ := List.getElem?_eq_some_iff.1 hj
      rw [List.length_map, List.length_replicate] at h
      exact Nat.lt_of_lt_of_le h (Nat.min_le_left _ _)
    obtain rfl : j = 0 := by omega
    have h2 : (List.replicate (Nat.min 1 n) v).map (Value.int .i64) = List.replicate (Nat.min 1 n) (Value.int .i64 v) := by simp
    rw [h2] at hj
    obtain ⟨_, h3⟩ := List.getElem?_eq_some_iff.1 hj
    rw [List.getElem_replicate] at h3
    rw [← h3]
    exact (hv.alloc _).cell 0 (by simp))
  have FZ : (w.alloc (.cells (madeCells #[.int .i64 0] n) 3)).heap[w.heap.size]? = some (.cells Z.toArray 3 (0, 0)) := by rw [← hZ1]; exact F0
  have FZ := Lib.hid FZ
  have hB0 : Below w.heap.size w (w.alloc (.cells (madeCells #[.int .i64 0] n) 3)) := (Below.refl _ _).alloc (Nat.le_refl _) _
  go_wp2_with (first | (go_at_call 98; refine (C1.out _).mono ?_; rintro e wx ⟨rfl, e1⟩; have e1 := e1.symm; subst e1) | (refine wpList_copy_splice rfl (.tmp 31) (.tmp 32) 22 22 rfl 3 Tryz.underlying22 repInfo _ _ _ _ _ _ rfl rfl _ 0 Z 3 FZ.out X hXl (fun _ => ⟨rfl, _, rfl, hXc.out⟩) (by rw [hXl, hZ2, Nat.zero_add]; exact Nat.min_le_right _ _) hX1 _ _ hB0 (Nat.le_refl _) ?_; intro w2 HG2 hB2))
  have G2 : Fill w2 w.heap.size n v (Nat.min 1 n) := by
    have := Fill.copied (k := 0) (m := Nat.min 1 n) (v := v) hZ2 ⟨_, hZ1.symm⟩ (by simp) (by rw [Nat.zero_add]; exact Nat.min_le_right _ _) (hX ▸ HG2.out)
    rwa [Nat.zero_add] at this
  have hx1 : Nat.min 1 n ≤ n := Nat.min_le_right _ _
  have hx2 : 0 < n → 0 < Nat.min 1 n := fun h => by
    show 0 < min 1 n
    omega
  clear HG2 FZ hB0 hXc hX1 hZ1 hZ2 F0 hmk hX hXl hd2 hw hw2 C1 hd
  obtain ⟨x, hx⟩ : ∃ x, Nat.min 1 n = x := ⟨_, rfl⟩
  rw [hx] at G2 hx1 hx2 ⊢
  obtain ⟨G, hG⟩ : ∃ G, w.heap.size = G := ⟨_, rfl⟩
  rw [hG] at G2 hB2 ⊢
  clear hx
  go_loopw [8] (fun i wr => ∃ k : Nat, k ≤ n ∧ (0 < n → 0 < k) ∧ i = .int .i64 k ∧ Fill wr G n v k ∧ Below G w wr) (fun i _ => n - (intOf i).toNat)
  case atStart => exact ⟨x, hx1, hx2, rfl, G2, hB2⟩
  case round =>
    clear G2 hB2 hx1 hx2
    obtain ⟨k, hk, hk0, rfl, hF, hBr⟩ := hrel
    by_cases hlt : k < n
    · have hk1 : (0 : Int) ≤ (k : Int) := by omega
      have hk2 : (k : Int) < (n : Int) := by omega
      have hk3 := hk0 (by omega)
      obtain ⟨cur, hcur, hcl, hz, ht⟩ := hF.cells
      have s1 := fun W => slice_from0 G n k hlt W
      have s2 := fun W => slice_to0 G n k hk (by omega) W
      obtain ⟨m, hm⟩ : ∃ m, Nat.min k (n - k) = m := ⟨_, rfl⟩
      have hm1 : k + m ≤ n := by have h8 : Nat.min k (n - k) ≤ n - k := Nat.min_le_right k (n - k); rw [hm] at h8; omega
      have hm2 : 0 < m := by rw [← hm]; show 0 < min k (n - k); omega
      have hm3 : m ≤ k := by rw [← hm]; exact Nat.min_le_left _ _
      obtain ⟨Y, hY⟩ : ∃ Y : List Value, (List.replicate m v).map (Value.int .i64) = Y := ⟨_, rfl⟩
      have hYl : Y.length = Nat.min k (n - k) := by rw [← hY, hm]; simp
      have hY1 : ∀ u ∈ Y, u.oneCell' = true := by rw [← hY]; simp [Value.oneCell']
      have hYc := Lib.hid (fun j u => show Y[j]? = some u → wr.cell? ((⟨G, 0, none⟩ : Addr).add j) = some u from fun hj => by
        rw [← hY] at hj
        rw [add_plain, Nat.zero_add]
        obtain ⟨h, h3⟩ := List.getElem?_eq_some_iff.1 hj
        rw [List.length_map, List.length_replicate] at h
        simp only [List.getElem_map, List.getElem_replicate] at h3
        rw [← h3, (show Blk wr G 3 cur.toArray from hcur).cell j]
        have h4 : (cur.take k)[j]? = cur[j]? := by rw [List.getElem?_take_of_lt (by omega)]
        rw [List.getElem?_toArray, ← h4, ht]
        simp [show j < k by omega])
      have hcur := Lib.hid hcur
      have HT := Lib.hid ht
      have hwk : IntKind.i64.wrap ((k : Int) + (m : Int)) = ((k + m : Nat) : Int) := by unfold IntKind.wrap; simp [IntKind.signed, IntKind.bits]; omega
      have hYm : Y.length = m := by rw [hYl, hm]
      have hfit : k + Y.length ≤ cur.length := by rw [hYl, hm, hcl]; exact hm1
      clear ht hm3
      go_wp2
      go_region_law (refine step_copy_splice rfl (.tmp 41) (.tmp 44) 22 22 rfl 3 Tryz.underlying22 repInfo (some ⟨G, k, none⟩) (some ⟨G, 0, none⟩) (n - k) (n - k) k n (by simp [Act.eval, Act.put]) (by simp [Act.eval, Act.put]) G k cur 3 hcur.out Y hYl (fun _ => ⟨rfl, _, rfl, hYc.out⟩) hfit hY1 G w ⟨hBr.1, hBr.2, hBr.3, hBr.4, hBr.5⟩ (by omega) ?_; intro w4 hg4 hb4)
      simp only [List.getElem_toArray, List.getElem_cons_zero, List.getElem_cons_succ, Act.put, List.setIfInBounds_toArray, List.set_cons_zero, List.set_cons_succ]
      go_wp2
      refine ⟨⟨k + m, hm1, fun _ => by omega, by rw [Int.natCast_add], ?_, hb4⟩, ?_⟩
      · subst hY
        exact Fill.copied hcl hz HT.out hm1 hg4.out
      · simp only [intOf]
        omega
    · obtain rfl : k = n := by omega
      obtain ⟨zs, hzl, hzf, hzt⟩ := hF
      rw [List.take_of_length_le (by omega)] at hzt
      subst hzt
      go_wp2
      go_ret
      exact ⟨some ⟨G, 0, none⟩, k, by simp, by simp, hzf.sl, hG ▸ hBr⟩
