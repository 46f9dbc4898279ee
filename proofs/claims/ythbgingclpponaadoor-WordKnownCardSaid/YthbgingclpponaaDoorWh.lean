/- Walks, part h: Power, in the program and the specification. -/
import Derived.Test.YthbgingclpponaaDoorWg
namespace Go.Proofs.YthbgingclpponaaDoor
open Go.RowKit
set_option linter.unusedVariables false

theorem rPower_e (op a n : Int) (w : World) (hA : aB op = false) (e0 : Int) (he : neE op = e0) (h1 : (e0 == 0) = false) : Calls Tryd.prog 23 #[.int .i64 op, .int .i64 a, .int .i64 n] w (Ret (.tuple #[.int .i64 0, .int .i64 e0]) w) := by
  have HN := Lib.hid (rneutral_any op w)
  rw [he] at HN
  clear he
  have h2 : (e0 != 0) = true := by simpa using h1
  have HA := Lib.hid hA; clear hA
  go_enter Tryd.func23, Tryd.ntmps23
  go_wp2_with fail
  refine HN.out.mono ?_
  rintro e w1 ⟨rfl, hb1⟩
  go_wp2_with fail
  go_ret2
  exact ⟨rfl, hb1⟩
theorem rPower_w (op a n : Int) (w : World) (hA : aB op = true) (hW : isWb a = false) : Calls Tryd.prog 23 #[.int .i64 op, .int .i64 a, .int .i64 n] w (Ret (.tuple #[.int .i64 0, .int .i64 2]) w) := by
  have HN := Lib.hid (rneutral_t op w hA)
  have HW := Lib.hid hW
  have HA := Lib.hid hA; clear hA hW
  go_enter Tryd.func23, Tryd.ntmps23
  go_wp2_with fail
  refine HN.out.mono ?_
  rintro e w1 ⟨rfl, hb1⟩
  go_wp2_with fail
  refine (ris_f a _ HW.out).mono ?_
  rintro e w2 ⟨rfl, rfl⟩
  go_wp2_with fail
  go_ret2
  exact ⟨rfl, hb1⟩
theorem rPower_n (op a n : Int) (w : World) (hA : aB op = true) (hW : isWb a = true) (hn : n < 0) : Calls Tryd.prog 23 #[.int .i64 op, .int .i64 a, .int .i64 n] w (Ret (.tuple #[.int .i64 0, .int .i64 2]) w) := by
  have HN := Lib.hid (rneutral_t op w hA)
  have HW := Lib.hid hW
  have HA := Lib.hid hA; clear hA hW
  go_enter Tryd.func23, Tryd.ntmps23
  go_wp2_with fail
  refine HN.out.mono ?_
  rintro e w1 ⟨rfl, hb1⟩
  go_wp2_with fail
  refine (ris_t a _ HW.out).mono ?_
  rintro e w2 ⟨rfl, rfl⟩
  go_wp2_with fail
  go_ret2
  exact ⟨rfl, hb1⟩
theorem rPower_v (op a : Int) (n : Nat) (w : World) (hA : aB op = true) (hW : isWb a = true) (hn : n ≤ 9223372036854775807) : Calls Tryd.prog 23 #[.int .i64 op, .int .i64 a, .int .i64 n] w (Ret (.tuple #[.int .i64 (PW op a n), .int .i64 0]) w) := by
  have HN := Lib.hid (rneutral_t op w hA)
  have HW := Lib.hid hW
  have HP := Lib.hid (rpower_any op a hA ((isWb_iff a).1 hW) n n)
  have HA := Lib.hid hA; clear hA hW
  go_enter Tryd.func23, Tryd.ntmps23
  go_wp2_with fail
  refine HN.out.mono ?_
  rintro e w1 ⟨rfl, hb1⟩
  go_wp2_with fail
  refine (ris_t a _ HW.out).mono ?_
  rintro e w2 ⟨rfl, rfl⟩
  go_wp2_with fail
  refine (HP.out _ (Nat.le_refl _) hn).mono ?_
  rintro e w3 ⟨rfl, hb3⟩
  go_wp2_with fail
  go_ret2
  exact ⟨rfl, below_step hb1 hb3⟩

theorem hB0 (w : World) (op a : Int) {w1 : World} (hb1 : Below ((w.alloc (.cells #[.int .i64 op] 3)).alloc (.cells #[.int .i64 a] 3)).heap.size ((w.alloc (.cells #[.int .i64 op] 3)).alloc (.cells #[.int .i64 a] 3)) w1) : Below w.heap.size w w1 :=
  below_step (((Below.refl _ _).alloc (Nat.le_refl _) _).alloc (by simp) _) hb1
theorem Power_e (op a n : Int) (w : World) (hI : Inv w) (hA : aB op = false) (e0 : Int) (he : neE op = e0) (h1 : (e0 == 0) = false) : Calls Tryd.prog 22 #[.int .i64 op, .int .i64 a, .int .i64 n] w (Ret (.tuple #[.int .i64 0, .int .i64 e0]) w) := by
  have HN := Lib.hid (neutral_any op _ ((hI.alloc (.cells #[.int .i64 op] 3)).alloc (.cells #[.int .i64 a] 3)))
  rw [he] at HN
  clear he
  have h2 : (e0 != 0) = true := by simpa using h1
  have HA := Lib.hid hA; clear hA
  go_enter Tryd.func22, Tryd.ntmps22
  go_wp2_with fail
  refine HN.out.mono ?_
  rintro e w1 ⟨rfl, hb1⟩
  go_wp2_with fail
  go_ret2
  exact ⟨rfl, (hB0 w op a hb1).alloc (hB0 w op a hb1).size _⟩
theorem Power_v (op a : Int) (n : Nat) (w : World) (hI : Inv w) (hA : aB op = true) (hC : cB op = true) (hW : isWb a = true) (hi : iB op = false) (hn : n ≤ 9223372036854775807) : Calls Tryd.prog 22 #[.int .i64 op, .int .i64 a, .int .i64 n] w (Ret (.tuple #[.int .i64 (PW op a n), .int .i64 0]) w) := by
  have HN := Lib.hid (neutral_t op _ ((hI.alloc (.cells #[.int .i64 op] 3)).alloc (.cells #[.int .i64 a] 3)) hA)
  have HW := Lib.hid hW
  have HPM := Lib.hid (fun h : iB op = true => PW_min (op := op) (a := a) n h)
  obtain ⟨k, rfl, hk, hk'⟩ := opNat (aB_op hA)
  have HA := Lib.hid hA
  have HC := Lib.hid hC
  have Hi := Lib.hid hi; clear hA hW hi hC
  have hn0 : ((n : Int) < 0) = False := by simp <;> omega
  go_enter Tryd.func22, Tryd.ntmps22
  go_wp2_with fail
  refine HN.out.mono ?_
  rintro e w1 ⟨rfl, hb1⟩
  have hI1 := ((hI.alloc (.cells #[.int .i64 (k : Int)] 3)).alloc (.cells #[.int .i64 a] 3)).below hb1
  have hal := alloc_old hI1
  have h1 := hI1.assoc k hk
  have h2 := hI1.comm k hk
  have h3 := hI1.idem k hk
  rw [HA.out] at h1; rw [Hi.out] at h3; rw [HC.out] at h2
  have hsz := hI1.size
  have c3 : w1.cell? ⟨w.heap.size, 0, none⟩ = some (.int .i64 (k : Int)) := (hb1.cell (p := ⟨w.heap.size, 0, none⟩) (by simp; omega)).trans (by go_simp)
  have c4 : w1.cell? ⟨w.heap.size + 1, 0, none⟩ = some (.int .i64 a) := (hb1.cell (p := ⟨w.heap.size + 1, 0, none⟩) (by simp)).trans (by go_simp)
  have hz0 : w.heap.size + 1 < w1.heap.size := by have := hb1.size; simp at this; omega
  have hz1 : w.heap.size < w1.heap.size := by omega
  have hB := hB0 w k a hb1
  go_wp2_with fail
  refine (is_t a _ HW.out).mono ?_
  rintro e w2 ⟨rfl, rfl⟩
  go_wp2_with fail
  refine (join_any k a HA.out ((isWb_iff a).1 HW.out) _ _ _ _ n n _ (Nat.le_refl _) hn ⟨by go_simp, by go_simp, by go_simp, by go_simp, by simp <;> omega, by simp <;> omega, by simp <;> omega, by simp <;> omega⟩).mono ?_
  rintro e w3 ⟨rfl, hb3⟩
  go_wp2_with fail
  go_ret2
  exact ⟨rfl, below_step (by first | exact (hB.alloc hB.size _).alloc (by simp; omega) _ | exact ((hB.alloc hB.size _).alloc (by simp; omega) _).setCell (by simp; omega) _) hb3⟩
theorem Power_0 (op a : Int) (n : Nat) (w : World) (hI : Inv w) (hA : aB op = true) (hC : cB op = true) (hW : isWb a = true) (hi : iB op = true) (hz : n ≤ 1) (hn : n ≤ 9223372036854775807) : Calls Tryd.prog 22 #[.int .i64 op, .int .i64 a, .int .i64 n] w (Ret (.tuple #[.int .i64 (PW op a n), .int .i64 0]) w) := by
  have HN := Lib.hid (neutral_t op _ ((hI.alloc (.cells #[.int .i64 op] 3)).alloc (.cells #[.int .i64 a] 3)) hA)
  have HW := Lib.hid hW
  have HPM := Lib.hid (fun h : iB op = true => PW_min (op := op) (a := a) n h)
  obtain ⟨k, rfl, hk, hk'⟩ := opNat (aB_op hA)
  have HA := Lib.hid hA
  have HC := Lib.hid hC
  have Hi := Lib.hid hi; clear hA hW hi hC
  have hn0 : ((n : Int) < 0) = False := by simp <;> omega
  have hlt : (n : Int) ≤ 1 := by omega
  go_enter Tryd.func22, Tryd.ntmps22
  go_wp2_with fail
  refine HN.out.mono ?_
  rintro e w1 ⟨rfl, hb1⟩
  have hI1 := ((hI.alloc (.cells #[.int .i64 (k : Int)] 3)).alloc (.cells #[.int .i64 a] 3)).below hb1
  have hal := alloc_old hI1
  have h1 := hI1.assoc k hk
  have h2 := hI1.comm k hk
  have h3 := hI1.idem k hk
  rw [HA.out] at h1; rw [Hi.out] at h3; rw [HC.out] at h2
  have hsz := hI1.size
  have c3 : w1.cell? ⟨w.heap.size, 0, none⟩ = some (.int .i64 (k : Int)) := (hb1.cell (p := ⟨w.heap.size, 0, none⟩) (by simp; omega)).trans (by go_simp)
  have c4 : w1.cell? ⟨w.heap.size + 1, 0, none⟩ = some (.int .i64 a) := (hb1.cell (p := ⟨w.heap.size + 1, 0, none⟩) (by simp)).trans (by go_simp)
  have hz0 : w.heap.size + 1 < w1.heap.size := by have := hb1.size; simp at this; omega
  have hz1 : w.heap.size < w1.heap.size := by omega
  have hB := hB0 w k a hb1
  go_wp2_with fail
  refine (is_t a _ HW.out).mono ?_
  rintro e w2 ⟨rfl, rfl⟩
  go_wp2_with fail
  refine (join_any k a HA.out ((isWb_iff a).1 HW.out) _ _ _ _ n n _ (Nat.le_refl _) hn ⟨by go_simp, by go_simp, by go_simp, by go_simp, by simp <;> omega, by simp <;> omega, by simp <;> omega, by simp <;> omega⟩).mono ?_
  rintro e w3 ⟨rfl, hb3⟩
  go_wp2_with fail
  go_ret2
  exact ⟨rfl, below_step (by first | exact (hB.alloc hB.size _).alloc (by simp; omega) _ | exact ((hB.alloc hB.size _).alloc (by simp; omega) _).setCell (by simp; omega) _) hb3⟩
theorem Power_1 (op a : Int) (n : Nat) (w : World) (hI : Inv w) (hA : aB op = true) (hC : cB op = true) (hW : isWb a = true) (hi : iB op = true) (hz : 2 ≤ n) (hn : n ≤ 9223372036854775807) : Calls Tryd.prog 22 #[.int .i64 op, .int .i64 a, .int .i64 n] w (Ret (.tuple #[.int .i64 (PW op a n), .int .i64 0]) w) := by
  have HN := Lib.hid (neutral_t op _ ((hI.alloc (.cells #[.int .i64 op] 3)).alloc (.cells #[.int .i64 a] 3)) hA)
  have HW := Lib.hid hW
  have HPM := Lib.hid (fun h : iB op = true => PW_min (op := op) (a := a) n h)
  obtain ⟨k, rfl, hk, hk'⟩ := opNat (aB_op hA)
  have HA := Lib.hid hA
  have HC := Lib.hid hC
  have Hi := Lib.hid hi; clear hA hW hi hC
  have hn0 : ((n : Int) < 0) = False := by simp <;> omega
  have hlt : 1 < (n : Int) := by omega
  go_enter Tryd.func22, Tryd.ntmps22
  go_wp2_with fail
  refine HN.out.mono ?_
  rintro e w1 ⟨rfl, hb1⟩
  have hI1 := ((hI.alloc (.cells #[.int .i64 (k : Int)] 3)).alloc (.cells #[.int .i64 a] 3)).below hb1
  have hal := alloc_old hI1
  have h1 := hI1.assoc k hk
  have h2 := hI1.comm k hk
  have h3 := hI1.idem k hk
  rw [HA.out] at h1; rw [Hi.out] at h3; rw [HC.out] at h2
  have hsz := hI1.size
  have c3 : w1.cell? ⟨w.heap.size, 0, none⟩ = some (.int .i64 (k : Int)) := (hb1.cell (p := ⟨w.heap.size, 0, none⟩) (by simp; omega)).trans (by go_simp)
  have c4 : w1.cell? ⟨w.heap.size + 1, 0, none⟩ = some (.int .i64 a) := (hb1.cell (p := ⟨w.heap.size + 1, 0, none⟩) (by simp)).trans (by go_simp)
  have hz0 : w.heap.size + 1 < w1.heap.size := by have := hb1.size; simp at this; omega
  have hz1 : w.heap.size < w1.heap.size := by omega
  have hB := hB0 w k a hb1
  go_wp2_with fail
  refine (is_t a _ HW.out).mono ?_
  rintro e w2 ⟨rfl, rfl⟩
  go_wp2_with fail
  refine (join_any k a HA.out ((isWb_iff a).1 HW.out) _ _ _ _ 1 1 _ (Nat.le_refl _) (by omega) ⟨by go_simp, by go_simp, by go_simp, by go_simp, by simp <;> omega, by simp <;> omega, by simp <;> omega, by simp <;> omega⟩).mono ?_
  rintro e w3 ⟨rfl, hb3⟩
  go_wp2_with fail
  go_ret2
  exact ⟨by rw [← HPM.out Hi.out, show min n 1 = 1 from by omega] <;> rfl, below_step (by first | exact (hB.alloc hB.size _).alloc (by simp; omega) _ | exact ((hB.alloc hB.size _).alloc (by simp; omega) _).setCell (by simp; omega) _) hb3⟩
theorem Power_w (op a n : Int) (w : World) (hI : Inv w) (hA : aB op = true) (hW : isWb a = false) : Calls Tryd.prog 22 #[.int .i64 op, .int .i64 a, .int .i64 n] w (Ret (.tuple #[.int .i64 0, .int .i64 2]) w) := by
  have HN := Lib.hid (neutral_t op _ ((hI.alloc (.cells #[.int .i64 op] 3)).alloc (.cells #[.int .i64 a] 3)) hA)
  have HW := Lib.hid hW
  have HA := Lib.hid hA
  clear hA hW
  go_enter Tryd.func22, Tryd.ntmps22
  go_wp2_with fail
  refine HN.out.mono ?_
  rintro e w1 ⟨rfl, hb1⟩
  have c4 : w1.cell? ⟨w.heap.size + 1, 0, none⟩ = some (.int .i64 a) := (hb1.cell (p := ⟨w.heap.size + 1, 0, none⟩) (by simp)).trans (by go_simp)
  have hz0 : w.heap.size + 1 < w1.heap.size := by have := hb1.size; simp at this; omega
  have hB := hB0 w op a hb1
  go_wp2_with fail
  refine (is_f a _ HW.out).mono ?_
  rintro e w2 ⟨rfl, rfl⟩
  go_wp2_with fail
  go_ret2
  exact ⟨rfl, hB.alloc hB.size _⟩
theorem Power_n (op a n : Int) (w : World) (hI : Inv w) (hA : aB op = true) (hW : isWb a = true) (hn : n < 0) : Calls Tryd.prog 22 #[.int .i64 op, .int .i64 a, .int .i64 n] w (Ret (.tuple #[.int .i64 0, .int .i64 2]) w) := by
  have HN := Lib.hid (neutral_t op _ ((hI.alloc (.cells #[.int .i64 op] 3)).alloc (.cells #[.int .i64 a] 3)) hA)
  have HW := Lib.hid hW
  have HA := Lib.hid hA
  clear hA hW
  go_enter Tryd.func22, Tryd.ntmps22
  go_wp2_with fail
  refine HN.out.mono ?_
  rintro e w1 ⟨rfl, hb1⟩
  have c4 : w1.cell? ⟨w.heap.size + 1, 0, none⟩ = some (.int .i64 a) := (hb1.cell (p := ⟨w.heap.size + 1, 0, none⟩) (by simp)).trans (by go_simp)
  have hz0 : w.heap.size + 1 < w1.heap.size := by have := hb1.size; simp at this; omega
  have hB := hB0 w op a hb1
  go_wp2_with fail
  refine (is_t a _ HW.out).mono ?_
  rintro e w2 ⟨rfl, rfl⟩
  go_wp2_with fail
  go_ret2
  exact ⟨rfl, hB.alloc hB.size _⟩

theorem aB_cB {op : Int} (h : aB op = true) : cB op = true := by simp [aB] at h; simp [cB]; omega
theorem Power_any (op a n : Int) (w : World) (hI : Inv w) (hn : n ≤ 9223372036854775807) : Calls Tryd.prog 22 #[.int .i64 op, .int .i64 a, .int .i64 n] w (Ret (.tuple #[.int .i64 (poN op a n), .int .i64 (poE op a n)]) w) := by
  by_cases hA : aB op = true
  · by_cases hW : isWb a = true
    · by_cases h0 : 0 ≤ n
      · obtain ⟨m, rfl⟩ := Int.eq_ofNat_of_zero_le h0
        rw [show poN op a m = PW op a m from by simp [poN, hA, hW], show poE op a m = 0 from by simp [poE, hA, hW]]
        by_cases hi : iB op = true
        · by_cases hz : m ≤ 1
          · exact Power_0 op a m w hI hA (aB_cB hA) hW hi hz (by omega)
          · exact Power_1 op a m w hI hA (aB_cB hA) hW hi (by omega) (by omega)
        · exact Power_v op a m w hI hA (aB_cB hA) hW (bf hi) (by omega)
      · rw [show poN op a n = 0 from by simp [poN, h0], show poE op a n = 2 from by simp [poE, hA, h0]]; exact Power_n op a n w hI hA hW (by omega)
    · rw [show poN op a n = 0 from by simp [poN, hW], show poE op a n = 2 from by simp [poE, hA, hW]]; exact Power_w op a n w hI hA (bf hW)
  · rw [show poN op a n = 0 from by simp [poN, hA], show poE op a n = neE op from by simp [poE, hA]]
    exact Power_e op a n w hI (bf hA) (neE op) rfl (by simp [neE, hA]; split <;> simp)
theorem rPower_any (op a n : Int) (w : World) (hn : n ≤ 9223372036854775807) : Calls Tryd.prog 23 #[.int .i64 op, .int .i64 a, .int .i64 n] w (Ret (.tuple #[.int .i64 (poN op a n), .int .i64 (poE op a n)]) w) := by
  by_cases hA : aB op = true
  · by_cases hW : isWb a = true
    · by_cases h0 : 0 ≤ n
      · obtain ⟨m, rfl⟩ := Int.eq_ofNat_of_zero_le h0
        rw [show poN op a m = PW op a m from by simp [poN, hA, hW], show poE op a m = 0 from by simp [poE, hA, hW]]
        exact rPower_v op a m w hA hW (by omega)
      · rw [show poN op a n = 0 from by simp [poN, h0], show poE op a n = 2 from by simp [poE, hA, h0]]; exact rPower_n op a n w hA hW (by omega)
    · rw [show poN op a n = 0 from by simp [poN, hW], show poE op a n = 2 from by simp [poE, hA, hW]]; exact rPower_w op a n w hA (bf hW)
  · rw [show poN op a n = 0 from by simp [poN, hA], show poE op a n = neE op from by simp [poE, hA]]
    exact rPower_e op a n w (bf hA) (neE op) rfl (by simp [neE, hA]; split <;> simp)
end Go.Proofs.YthbgingclpponaaDoor
