/- The law that is told not to hold fails for some words: 'fails' of the statements. -/
import Derived.Test.YthbgingclpponaaDoorWn
namespace Go.Proofs.YthbgingclpponaaDoor
open Go.RowKit
set_option linter.unusedVariables false
/-- the few words of 'fails' -/
def Few (W : World) (b : Nat) : Prop := W.cell? ⟨b, 0, none⟩ = some (.int .i64 2) ∧ W.cell? ⟨b, 1, none⟩ = some (.int .i64 0) ∧ W.cell? ⟨b, 2, none⟩ = some (.int .i64 (-3)) ∧ W.cell? ⟨b, 3, none⟩ = some (.int .i64 7) ∧ b < W.heap.size
theorem Few.below {W W' : World} {b : Nat} (h : Few W b) (hb : Below W.heap.size W W') : Few W' b :=
  ⟨(hb.cell (p := ⟨b, 0, none⟩) h.2.2.2.2).trans h.1, (hb.cell (p := ⟨b, 1, none⟩) h.2.2.2.2).trans h.2.1, (hb.cell (p := ⟨b, 2, none⟩) h.2.2.2.2).trans h.2.2.1, (hb.cell (p := ⟨b, 3, none⟩) h.2.2.2.2).trans h.2.2.2.1, Nat.lt_of_lt_of_le h.2.2.2.2 hb.size⟩
set_option maxRecDepth 100000 in
set_option maxHeartbeats 2000000 in
theorem fails_1_0 (w : World) : Calls Tryd.prog 40 #[.int .i64 1, .int .i64 0] w (Ret (.bool true) w) := by
  have B0 : bits .and .i64 0 3 = 0 := by decide +kernel
  have B1 : bits .and .i64 1 3 = 1 := by decide +kernel
  have C1 : Hid (∀ w, Calls Tryd.prog 39 #[.int .i64 1, .int .i64 2, .int .i64 2] w (Ret (.int .i64 0) w)) := Lib.hid (fun w => by have := value39_any 1 2 2 w; rw [show vN 1 2 2 = 0 from by decide +kernel] at this; exact this)
  have C2 : Hid (∀ w, Calls Tryd.prog 39 #[.int .i64 1, .int .i64 0, .int .i64 2] w (Ret (.int .i64 (-2)) w)) := Lib.hid (fun w => by have := value39_any 1 0 2 w; rw [show vN 1 0 2 = (-2) from by decide +kernel] at this; exact this)
  have C3 : Hid (∀ w, Calls Tryd.prog 39 #[.int .i64 1, .int .i64 2, .int .i64 0] w (Ret (.int .i64 2) w)) := Lib.hid (fun w => by have := value39_any 1 2 0 w; rw [show vN 1 2 0 = 2 from by decide +kernel] at this; exact this)
  go_enter Tryd.func40, Tryd.ntmps40
  go_wp2_with fail
  go_loopw [6] (fun i wr => ∃ k : Nat, k ≤ 0 ∧ i = .int .i64 k ∧ Few wr w.heap.size ∧ Below w.heap.size w wr) (fun i _ => 0 + 1 - (intOf i).toNat)
  case atStart => exact ⟨0, by omega, rfl, ⟨by go_simp, by go_simp, by go_simp, by go_simp, by simp⟩, (Below.refl _ _).alloc (Nat.le_refl _) _⟩
  case round =>
    obtain ⟨k, hk, rfl, hF, hB⟩ := hrel
    have HF := Lib.hid hF; have HB0 := Lib.hid hB
    obtain ⟨f0, f1, f2, f3, hlt⟩ := hF
    clear hB
    have hk' : k = 0 := by omega
    obtain rfl := hk'
    · go_wp2
      go_quiet (fail)
      go_wp2_with fail
      refine (C1.out _).mono ?_
      rintro e y0 ⟨rfl, h1⟩
      have h2 := below_step (below_drewN HB0.out _) h1
      have HB1 := Lib.hid h2; have HF1 := Lib.hid ((HF.out.below (below_drewN (Below.refl _ _) _)).below h1); clear h1 h2
      go_wp2_with fail
      refine (C1.out _).mono ?_
      rintro e y1 ⟨rfl, h1⟩
      have HB2 := Lib.hid (below_step HB1.out h1); have HF2 := Lib.hid (HF1.out.below h1); clear h1
      go_wp2_with fail
      refine (C2.out _).mono ?_
      rintro e y2 ⟨rfl, h1⟩
      have HB3 := Lib.hid (below_step HB2.out h1); have HF3 := Lib.hid (HF2.out.below h1); clear h1
      go_wp2_with fail
      refine (C3.out _).mono ?_
      rintro e y3 ⟨rfl, h1⟩
      have HB4 := Lib.hid (below_step HB3.out h1); have HF4 := Lib.hid (HF3.out.below h1); clear h1
      go_wp2_with fail
      go_ret
      exact ⟨rfl, HB4.out⟩
set_option maxRecDepth 100000 in
set_option maxHeartbeats 2000000 in
theorem fails_3_0 (w : World) : Calls Tryd.prog 40 #[.int .i64 3, .int .i64 0] w (Ret (.bool true) w) := by
  have B0 : bits .and .i64 0 3 = 0 := by decide +kernel
  have B1 : bits .and .i64 1 3 = 1 := by decide +kernel
  have C1 : Hid (∀ w, Calls Tryd.prog 39 #[.int .i64 3, .int .i64 2, .int .i64 2] w (Ret (.int .i64 1) w)) := Lib.hid (fun w => by have := value39_any 3 2 2 w; rw [show vN 3 2 2 = 1 from by decide +kernel] at this; exact this)
  have C2 : Hid (∀ w, Calls Tryd.prog 39 #[.int .i64 3, .int .i64 1, .int .i64 2] w (Ret (.int .i64 0) w)) := Lib.hid (fun w => by have := value39_any 3 1 2 w; rw [show vN 3 1 2 = 0 from by decide +kernel] at this; exact this)
  have C3 : Hid (∀ w, Calls Tryd.prog 39 #[.int .i64 3, .int .i64 2, .int .i64 1] w (Ret (.int .i64 2) w)) := Lib.hid (fun w => by have := value39_any 3 2 1 w; rw [show vN 3 2 1 = 2 from by decide +kernel] at this; exact this)
  go_enter Tryd.func40, Tryd.ntmps40
  go_wp2_with fail
  go_loopw [6] (fun i wr => ∃ k : Nat, k ≤ 0 ∧ i = .int .i64 k ∧ Few wr w.heap.size ∧ Below w.heap.size w wr) (fun i _ => 0 + 1 - (intOf i).toNat)
  case atStart => exact ⟨0, by omega, rfl, ⟨by go_simp, by go_simp, by go_simp, by go_simp, by simp⟩, (Below.refl _ _).alloc (Nat.le_refl _) _⟩
  case round =>
    obtain ⟨k, hk, rfl, hF, hB⟩ := hrel
    have HF := Lib.hid hF; have HB0 := Lib.hid hB
    obtain ⟨f0, f1, f2, f3, hlt⟩ := hF
    clear hB
    have hk' : k = 0 := by omega
    obtain rfl := hk'
    · go_wp2
      go_quiet (fail)
      go_wp2_with fail
      refine (C1.out _).mono ?_
      rintro e y0 ⟨rfl, h1⟩
      have h2 := below_step (below_drewN HB0.out _) h1
      have HB1 := Lib.hid h2; have HF1 := Lib.hid ((HF.out.below (below_drewN (Below.refl _ _) _)).below h1); clear h1 h2
      go_wp2_with fail
      refine (C1.out _).mono ?_
      rintro e y1 ⟨rfl, h1⟩
      have HB2 := Lib.hid (below_step HB1.out h1); have HF2 := Lib.hid (HF1.out.below h1); clear h1
      go_wp2_with fail
      refine (C2.out _).mono ?_
      rintro e y2 ⟨rfl, h1⟩
      have HB3 := Lib.hid (below_step HB2.out h1); have HF3 := Lib.hid (HF2.out.below h1); clear h1
      go_wp2_with fail
      refine (C3.out _).mono ?_
      rintro e y3 ⟨rfl, h1⟩
      have HB4 := Lib.hid (below_step HB3.out h1); have HF4 := Lib.hid (HF3.out.below h1); clear h1
      go_wp2_with fail
      go_ret
      exact ⟨rfl, HB4.out⟩
set_option maxRecDepth 100000 in
set_option maxHeartbeats 2000000 in
theorem fails_4_0 (w : World) : Calls Tryd.prog 40 #[.int .i64 4, .int .i64 0] w (Ret (.bool true) w) := by
  have B0 : bits .and .i64 0 3 = 0 := by decide +kernel
  have B1 : bits .and .i64 1 3 = 1 := by decide +kernel
  have C1 : Hid (∀ w, Calls Tryd.prog 39 #[.int .i64 4, .int .i64 2, .int .i64 2] w (Ret (.int .i64 0) w)) := Lib.hid (fun w => by have := value39_any 4 2 2 w; rw [show vN 4 2 2 = 0 from by decide +kernel] at this; exact this)
  have C2 : Hid (∀ w, Calls Tryd.prog 39 #[.int .i64 4, .int .i64 0, .int .i64 2] w (Ret (.int .i64 0) w)) := Lib.hid (fun w => by have := value39_any 4 0 2 w; rw [show vN 4 0 2 = 0 from by decide +kernel] at this; exact this)
  have C3 : Hid (∀ w, Calls Tryd.prog 39 #[.int .i64 4, .int .i64 2, .int .i64 0] w (Ret (.int .i64 1099511627776) w)) := Lib.hid (fun w => by have := value39_any 4 2 0 w; rw [show vN 4 2 0 = 1099511627776 from by decide +kernel] at this; exact this)
  go_enter Tryd.func40, Tryd.ntmps40
  go_wp2_with fail
  go_loopw [6] (fun i wr => ∃ k : Nat, k ≤ 0 ∧ i = .int .i64 k ∧ Few wr w.heap.size ∧ Below w.heap.size w wr) (fun i _ => 0 + 1 - (intOf i).toNat)
  case atStart => exact ⟨0, by omega, rfl, ⟨by go_simp, by go_simp, by go_simp, by go_simp, by simp⟩, (Below.refl _ _).alloc (Nat.le_refl _) _⟩
  case round =>
    obtain ⟨k, hk, rfl, hF, hB⟩ := hrel
    have HF := Lib.hid hF; have HB0 := Lib.hid hB
    obtain ⟨f0, f1, f2, f3, hlt⟩ := hF
    clear hB
    have hk' : k = 0 := by omega
    obtain rfl := hk'
    · go_wp2
      go_quiet (fail)
      go_wp2_with fail
      refine (C1.out _).mono ?_
      rintro e y0 ⟨rfl, h1⟩
      have h2 := below_step (below_drewN HB0.out _) h1
      have HB1 := Lib.hid h2; have HF1 := Lib.hid ((HF.out.below (below_drewN (Below.refl _ _) _)).below h1); clear h1 h2
      go_wp2_with fail
      refine (C1.out _).mono ?_
      rintro e y1 ⟨rfl, h1⟩
      have HB2 := Lib.hid (below_step HB1.out h1); have HF2 := Lib.hid (HF1.out.below h1); clear h1
      go_wp2_with fail
      refine (C2.out _).mono ?_
      rintro e y2 ⟨rfl, h1⟩
      have HB3 := Lib.hid (below_step HB2.out h1); have HF3 := Lib.hid (HF2.out.below h1); clear h1
      go_wp2_with fail
      refine (C3.out _).mono ?_
      rintro e y3 ⟨rfl, h1⟩
      have HB4 := Lib.hid (below_step HB3.out h1); have HF4 := Lib.hid (HF3.out.below h1); clear h1
      go_wp2_with fail
      go_ret
      exact ⟨rfl, HB4.out⟩
set_option maxRecDepth 100000 in
set_option maxHeartbeats 2000000 in
theorem fails_5_0 (w : World) : Calls Tryd.prog 40 #[.int .i64 5, .int .i64 0] w (Ret (.bool true) w) := by
  have B0 : bits .and .i64 0 3 = 0 := by decide +kernel
  have B1 : bits .and .i64 1 3 = 1 := by decide +kernel
  have C1 : Hid (∀ w, Calls Tryd.prog 39 #[.int .i64 5, .int .i64 2, .int .i64 2] w (Ret (.int .i64 0) w)) := Lib.hid (fun w => by have := value39_any 5 2 2 w; rw [show vN 5 2 2 = 0 from by decide +kernel] at this; exact this)
  have C2 : Hid (∀ w, Calls Tryd.prog 39 #[.int .i64 5, .int .i64 0, .int .i64 2] w (Ret (.int .i64 1) w)) := Lib.hid (fun w => by have := value39_any 5 0 2 w; rw [show vN 5 0 2 = 1 from by decide +kernel] at this; exact this)
  have C3 : Hid (∀ w, Calls Tryd.prog 39 #[.int .i64 5, .int .i64 2, .int .i64 0] w (Ret (.int .i64 0) w)) := Lib.hid (fun w => by have := value39_any 5 2 0 w; rw [show vN 5 2 0 = 0 from by decide +kernel] at this; exact this)
  go_enter Tryd.func40, Tryd.ntmps40
  go_wp2_with fail
  go_loopw [6] (fun i wr => ∃ k : Nat, k ≤ 0 ∧ i = .int .i64 k ∧ Few wr w.heap.size ∧ Below w.heap.size w wr) (fun i _ => 0 + 1 - (intOf i).toNat)
  case atStart => exact ⟨0, by omega, rfl, ⟨by go_simp, by go_simp, by go_simp, by go_simp, by simp⟩, (Below.refl _ _).alloc (Nat.le_refl _) _⟩
  case round =>
    obtain ⟨k, hk, rfl, hF, hB⟩ := hrel
    have HF := Lib.hid hF; have HB0 := Lib.hid hB
    obtain ⟨f0, f1, f2, f3, hlt⟩ := hF
    clear hB
    have hk' : k = 0 := by omega
    obtain rfl := hk'
    · go_wp2
      go_quiet (fail)
      go_wp2_with fail
      refine (C1.out _).mono ?_
      rintro e y0 ⟨rfl, h1⟩
      have h2 := below_step (below_drewN HB0.out _) h1
      have HB1 := Lib.hid h2; have HF1 := Lib.hid ((HF.out.below (below_drewN (Below.refl _ _) _)).below h1); clear h1 h2
      go_wp2_with fail
      refine (C1.out _).mono ?_
      rintro e y1 ⟨rfl, h1⟩
      have HB2 := Lib.hid (below_step HB1.out h1); have HF2 := Lib.hid (HF1.out.below h1); clear h1
      go_wp2_with fail
      refine (C2.out _).mono ?_
      rintro e y2 ⟨rfl, h1⟩
      have HB3 := Lib.hid (below_step HB2.out h1); have HF3 := Lib.hid (HF2.out.below h1); clear h1
      go_wp2_with fail
      refine (C3.out _).mono ?_
      rintro e y3 ⟨rfl, h1⟩
      have HB4 := Lib.hid (below_step HB3.out h1); have HF4 := Lib.hid (HF3.out.below h1); clear h1
      go_wp2_with fail
      go_ret
      exact ⟨rfl, HB4.out⟩
set_option maxRecDepth 100000 in
set_option maxHeartbeats 2000000 in
theorem fails_6_0 (w : World) : Calls Tryd.prog 40 #[.int .i64 6, .int .i64 0] w (Ret (.bool true) w) := by
  have B0 : bits .and .i64 0 3 = 0 := by decide +kernel
  have B1 : bits .and .i64 1 3 = 1 := by decide +kernel
  have B2 : bits .and .i64 2 3 = 2 := by decide +kernel
  have B3 : bits .and .i64 3 3 = 3 := by decide +kernel
  have B4 : bits .and .i64 4 3 = 0 := by decide +kernel
  have B5 : bits .and .i64 5 3 = 1 := by decide +kernel
  have C1 : Hid (∀ w, Calls Tryd.prog 39 #[.int .i64 6, .int .i64 2, .int .i64 2] w (Ret (.int .i64 1) w)) := Lib.hid (fun w => by have := value39_any 6 2 2 w; rw [show vN 6 2 2 = 1 from by decide +kernel] at this; exact this)
  have C2 : Hid (∀ w, Calls Tryd.prog 39 #[.int .i64 6, .int .i64 1, .int .i64 2] w (Ret (.int .i64 0) w)) := Lib.hid (fun w => by have := value39_any 6 1 2 w; rw [show vN 6 1 2 = 0 from by decide +kernel] at this; exact this)
  have C3 : Hid (∀ w, Calls Tryd.prog 39 #[.int .i64 6, .int .i64 2, .int .i64 1] w (Ret (.int .i64 0) w)) := Lib.hid (fun w => by have := value39_any 6 2 1 w; rw [show vN 6 2 1 = 0 from by decide +kernel] at this; exact this)
  have C4 : Hid (∀ w, Calls Tryd.prog 39 #[.int .i64 6, .int .i64 0, .int .i64 2] w (Ret (.int .i64 0) w)) := Lib.hid (fun w => by have := value39_any 6 0 2 w; rw [show vN 6 0 2 = 0 from by decide +kernel] at this; exact this)
  have C5 : Hid (∀ w, Calls Tryd.prog 39 #[.int .i64 6, .int .i64 0, .int .i64 1] w (Ret (.int .i64 0) w)) := Lib.hid (fun w => by have := value39_any 6 0 1 w; rw [show vN 6 0 1 = 0 from by decide +kernel] at this; exact this)
  have C6 : Hid (∀ w, Calls Tryd.prog 39 #[.int .i64 6, .int .i64 (-3), .int .i64 2] w (Ret (.int .i64 0) w)) := Lib.hid (fun w => by have := value39_any 6 (-3) 2 w; rw [show vN 6 (-3) 2 = 0 from by decide +kernel] at this; exact this)
  have C7 : Hid (∀ w, Calls Tryd.prog 39 #[.int .i64 6, .int .i64 (-3), .int .i64 1] w (Ret (.int .i64 0) w)) := Lib.hid (fun w => by have := value39_any 6 (-3) 1 w; rw [show vN 6 (-3) 1 = 0 from by decide +kernel] at this; exact this)
  have C8 : Hid (∀ w, Calls Tryd.prog 39 #[.int .i64 6, .int .i64 7, .int .i64 2] w (Ret (.int .i64 0) w)) := Lib.hid (fun w => by have := value39_any 6 7 2 w; rw [show vN 6 7 2 = 0 from by decide +kernel] at this; exact this)
  have C9 : Hid (∀ w, Calls Tryd.prog 39 #[.int .i64 6, .int .i64 7, .int .i64 1] w (Ret (.int .i64 0) w)) := Lib.hid (fun w => by have := value39_any 6 7 1 w; rw [show vN 6 7 1 = 0 from by decide +kernel] at this; exact this)
  have C10 : Hid (∀ w, Calls Tryd.prog 39 #[.int .i64 6, .int .i64 2, .int .i64 0] w (Ret (.int .i64 0) w)) := Lib.hid (fun w => by have := value39_any 6 2 0 w; rw [show vN 6 2 0 = 0 from by decide +kernel] at this; exact this)
  have C11 : Hid (∀ w, Calls Tryd.prog 39 #[.int .i64 6, .int .i64 0, .int .i64 0] w (Ret (.int .i64 1) w)) := Lib.hid (fun w => by have := value39_any 6 0 0 w; rw [show vN 6 0 0 = 1 from by decide +kernel] at this; exact this)
  go_enter Tryd.func40, Tryd.ntmps40
  go_wp2_with fail
  go_loopw [6] (fun i wr => ∃ k : Nat, k ≤ 5 ∧ i = .int .i64 k ∧ Few wr w.heap.size ∧ Below w.heap.size w wr) (fun i _ => 5 + 1 - (intOf i).toNat)
  case atStart => exact ⟨0, by omega, rfl, ⟨by go_simp, by go_simp, by go_simp, by go_simp, by simp⟩, (Below.refl _ _).alloc (Nat.le_refl _) _⟩
  case round =>
    obtain ⟨k, hk, rfl, hF, hB⟩ := hrel
    have HF := Lib.hid hF; have HB0 := Lib.hid hB
    obtain ⟨f0, f1, f2, f3, hlt⟩ := hF
    clear hB
    have hk' : k = 0 ∨ k = 1 ∨ k = 2 ∨ k = 3 ∨ k = 4 ∨ k = 5 := by omega
    rcases hk' with rfl | rfl | rfl | rfl | rfl | rfl
    · go_wp2
      go_quiet (fail)
      go_wp2_with fail
      refine (C1.out _).mono ?_
      rintro e y0 ⟨rfl, h1⟩
      have h2 := below_step (below_drewN HB0.out _) h1
      have HB1 := Lib.hid h2; have HF1 := Lib.hid ((HF.out.below (below_drewN (Below.refl _ _) _)).below h1); clear h1 h2
      go_wp2_with fail
      refine (C1.out _).mono ?_
      rintro e y1 ⟨rfl, h1⟩
      have HB2 := Lib.hid (below_step HB1.out h1); have HF2 := Lib.hid (HF1.out.below h1); clear h1
      go_wp2_with fail
      refine (C2.out _).mono ?_
      rintro e y2 ⟨rfl, h1⟩
      have HB3 := Lib.hid (below_step HB2.out h1); have HF3 := Lib.hid (HF2.out.below h1); clear h1
      go_wp2_with fail
      refine (C3.out _).mono ?_
      rintro e y3 ⟨rfl, h1⟩
      have HB4 := Lib.hid (below_step HB3.out h1); have HF4 := Lib.hid (HF3.out.below h1); clear h1
      go_wp2_with fail
      go_roundw
      case rel => exact ⟨1, by omega, rfl, HF4.out, HB4.out⟩
      case measure => simp [intOf]
    · go_wp2
      go_quiet (fail)
      go_wp2_with fail
      refine (C4.out _).mono ?_
      rintro e y0 ⟨rfl, h1⟩
      have h2 := below_step (below_drewN HB0.out _) h1
      have HB1 := Lib.hid h2; have HF1 := Lib.hid ((HF.out.below (below_drewN (Below.refl _ _) _)).below h1); clear h1 h2
      go_wp2_with fail
      refine (C1.out _).mono ?_
      rintro e y1 ⟨rfl, h1⟩
      have HB2 := Lib.hid (below_step HB1.out h1); have HF2 := Lib.hid (HF1.out.below h1); clear h1
      go_wp2_with fail
      refine (C4.out _).mono ?_
      rintro e y2 ⟨rfl, h1⟩
      have HB3 := Lib.hid (below_step HB2.out h1); have HF3 := Lib.hid (HF2.out.below h1); clear h1
      go_wp2_with fail
      refine (C5.out _).mono ?_
      rintro e y3 ⟨rfl, h1⟩
      have HB4 := Lib.hid (below_step HB3.out h1); have HF4 := Lib.hid (HF3.out.below h1); clear h1
      go_wp2_with fail
      go_roundw
      case rel => exact ⟨2, by omega, rfl, HF4.out, HB4.out⟩
      case measure => simp [intOf]
    · go_wp2
      go_quiet (fail)
      go_wp2_with fail
      refine (C6.out _).mono ?_
      rintro e y0 ⟨rfl, h1⟩
      have h2 := below_step (below_drewN HB0.out _) h1
      have HB1 := Lib.hid h2; have HF1 := Lib.hid ((HF.out.below (below_drewN (Below.refl _ _) _)).below h1); clear h1 h2
      go_wp2_with fail
      refine (C1.out _).mono ?_
      rintro e y1 ⟨rfl, h1⟩
      have HB2 := Lib.hid (below_step HB1.out h1); have HF2 := Lib.hid (HF1.out.below h1); clear h1
      go_wp2_with fail
      refine (C4.out _).mono ?_
      rintro e y2 ⟨rfl, h1⟩
      have HB3 := Lib.hid (below_step HB2.out h1); have HF3 := Lib.hid (HF2.out.below h1); clear h1
      go_wp2_with fail
      refine (C7.out _).mono ?_
      rintro e y3 ⟨rfl, h1⟩
      have HB4 := Lib.hid (below_step HB3.out h1); have HF4 := Lib.hid (HF3.out.below h1); clear h1
      go_wp2_with fail
      go_roundw
      case rel => exact ⟨3, by omega, rfl, HF4.out, HB4.out⟩
      case measure => simp [intOf]
    · go_wp2
      go_quiet (fail)
      go_wp2_with fail
      refine (C8.out _).mono ?_
      rintro e y0 ⟨rfl, h1⟩
      have h2 := below_step (below_drewN HB0.out _) h1
      have HB1 := Lib.hid h2; have HF1 := Lib.hid ((HF.out.below (below_drewN (Below.refl _ _) _)).below h1); clear h1 h2
      go_wp2_with fail
      refine (C1.out _).mono ?_
      rintro e y1 ⟨rfl, h1⟩
      have HB2 := Lib.hid (below_step HB1.out h1); have HF2 := Lib.hid (HF1.out.below h1); clear h1
      go_wp2_with fail
      refine (C4.out _).mono ?_
      rintro e y2 ⟨rfl, h1⟩
      have HB3 := Lib.hid (below_step HB2.out h1); have HF3 := Lib.hid (HF2.out.below h1); clear h1
      go_wp2_with fail
      refine (C9.out _).mono ?_
      rintro e y3 ⟨rfl, h1⟩
      have HB4 := Lib.hid (below_step HB3.out h1); have HF4 := Lib.hid (HF3.out.below h1); clear h1
      go_wp2_with fail
      go_roundw
      case rel => exact ⟨4, by omega, rfl, HF4.out, HB4.out⟩
      case measure => simp [intOf]
    · go_wp2
      go_quiet (fail)
      go_wp2_with fail
      refine (C10.out _).mono ?_
      rintro e y0 ⟨rfl, h1⟩
      have h2 := below_step (below_drewN HB0.out _) h1
      have HB1 := Lib.hid h2; have HF1 := Lib.hid ((HF.out.below (below_drewN (Below.refl _ _) _)).below h1); clear h1 h2
      go_wp2_with fail
      refine (C4.out _).mono ?_
      rintro e y1 ⟨rfl, h1⟩
      have HB2 := Lib.hid (below_step HB1.out h1); have HF2 := Lib.hid (HF1.out.below h1); clear h1
      go_wp2_with fail
      refine (C4.out _).mono ?_
      rintro e y2 ⟨rfl, h1⟩
      have HB3 := Lib.hid (below_step HB2.out h1); have HF3 := Lib.hid (HF2.out.below h1); clear h1
      go_wp2_with fail
      refine (C10.out _).mono ?_
      rintro e y3 ⟨rfl, h1⟩
      have HB4 := Lib.hid (below_step HB3.out h1); have HF4 := Lib.hid (HF3.out.below h1); clear h1
      go_wp2_with fail
      go_roundw
      case rel => exact ⟨5, by omega, rfl, HF4.out, HB4.out⟩
      case measure => simp [intOf]
    · go_wp2
      go_quiet (fail)
      go_wp2_with fail
      refine (C11.out _).mono ?_
      rintro e y0 ⟨rfl, h1⟩
      have h2 := below_step (below_drewN HB0.out _) h1
      have HB1 := Lib.hid h2; have HF1 := Lib.hid ((HF.out.below (below_drewN (Below.refl _ _) _)).below h1); clear h1 h2
      go_wp2_with fail
      refine (C4.out _).mono ?_
      rintro e y1 ⟨rfl, h1⟩
      have HB2 := Lib.hid (below_step HB1.out h1); have HF2 := Lib.hid (HF1.out.below h1); clear h1
      go_wp2_with fail
      refine (C2.out _).mono ?_
      rintro e y2 ⟨rfl, h1⟩
      have HB3 := Lib.hid (below_step HB2.out h1); have HF3 := Lib.hid (HF2.out.below h1); clear h1
      go_wp2_with fail
      refine (C11.out _).mono ?_
      rintro e y3 ⟨rfl, h1⟩
      have HB4 := Lib.hid (below_step HB3.out h1); have HF4 := Lib.hid (HF3.out.below h1); clear h1
      go_wp2_with fail
      go_ret
      exact ⟨rfl, HB4.out⟩
set_option maxRecDepth 100000 in
set_option maxHeartbeats 2000000 in
theorem fails_1_1 (w : World) : Calls Tryd.prog 40 #[.int .i64 1, .int .i64 1] w (Ret (.bool true) w) := by
  have B0 : bits .and .i64 0 3 = 0 := by decide +kernel
  have B1 : bits .and .i64 1 3 = 1 := by decide +kernel
  have C1 : Hid (∀ w, Calls Tryd.prog 39 #[.int .i64 1, .int .i64 2, .int .i64 2] w (Ret (.int .i64 0) w)) := Lib.hid (fun w => by have := value39_any 1 2 2 w; rw [show vN 1 2 2 = 0 from by decide +kernel] at this; exact this)
  have C2 : Hid (∀ w, Calls Tryd.prog 39 #[.int .i64 1, .int .i64 0, .int .i64 2] w (Ret (.int .i64 (-2)) w)) := Lib.hid (fun w => by have := value39_any 1 0 2 w; rw [show vN 1 0 2 = (-2) from by decide +kernel] at this; exact this)
  have C3 : Hid (∀ w, Calls Tryd.prog 39 #[.int .i64 1, .int .i64 2, .int .i64 0] w (Ret (.int .i64 2) w)) := Lib.hid (fun w => by have := value39_any 1 2 0 w; rw [show vN 1 2 0 = 2 from by decide +kernel] at this; exact this)
  go_enter Tryd.func40, Tryd.ntmps40
  go_wp2_with fail
  go_loopw [6] (fun i wr => ∃ k : Nat, k ≤ 1 ∧ i = .int .i64 k ∧ Few wr w.heap.size ∧ Below w.heap.size w wr) (fun i _ => 1 + 1 - (intOf i).toNat)
  case atStart => exact ⟨0, by omega, rfl, ⟨by go_simp, by go_simp, by go_simp, by go_simp, by simp⟩, (Below.refl _ _).alloc (Nat.le_refl _) _⟩
  case round =>
    obtain ⟨k, hk, rfl, hF, hB⟩ := hrel
    have HF := Lib.hid hF; have HB0 := Lib.hid hB
    obtain ⟨f0, f1, f2, f3, hlt⟩ := hF
    clear hB
    have hk' : k = 0 ∨ k = 1 := by omega
    rcases hk' with rfl | rfl
    · go_wp2
      go_quiet (fail)
      go_wp2_with fail
      refine (C1.out _).mono ?_
      rintro e y0 ⟨rfl, h1⟩
      have h2 := below_step (below_drewN HB0.out _) h1
      have HB1 := Lib.hid h2; have HF1 := Lib.hid ((HF.out.below (below_drewN (Below.refl _ _) _)).below h1); clear h1 h2
      go_wp2_with fail
      refine (C1.out _).mono ?_
      rintro e y1 ⟨rfl, h1⟩
      have HB2 := Lib.hid (below_step HB1.out h1); have HF2 := Lib.hid (HF1.out.below h1); clear h1
      go_wp2_with fail
      go_roundw
      case rel => exact ⟨1, by omega, rfl, HF2.out, HB2.out⟩
      case measure => simp [intOf]
    · go_wp2
      go_quiet (fail)
      go_wp2_with fail
      refine (C2.out _).mono ?_
      rintro e y0 ⟨rfl, h1⟩
      have h2 := below_step (below_drewN HB0.out _) h1
      have HB1 := Lib.hid h2; have HF1 := Lib.hid ((HF.out.below (below_drewN (Below.refl _ _) _)).below h1); clear h1 h2
      go_wp2_with fail
      refine (C3.out _).mono ?_
      rintro e y1 ⟨rfl, h1⟩
      have HB2 := Lib.hid (below_step HB1.out h1); have HF2 := Lib.hid (HF1.out.below h1); clear h1
      go_wp2_with fail
      go_ret
      exact ⟨rfl, HB2.out⟩
set_option maxRecDepth 100000 in
set_option maxHeartbeats 2000000 in
theorem fails_3_1 (w : World) : Calls Tryd.prog 40 #[.int .i64 3, .int .i64 1] w (Ret (.bool true) w) := by
  have B0 : bits .and .i64 0 3 = 0 := by decide +kernel
  have B1 : bits .and .i64 1 3 = 1 := by decide +kernel
  have C1 : Hid (∀ w, Calls Tryd.prog 39 #[.int .i64 3, .int .i64 2, .int .i64 2] w (Ret (.int .i64 1) w)) := Lib.hid (fun w => by have := value39_any 3 2 2 w; rw [show vN 3 2 2 = 1 from by decide +kernel] at this; exact this)
  have C2 : Hid (∀ w, Calls Tryd.prog 39 #[.int .i64 3, .int .i64 0, .int .i64 2] w (Ret (.int .i64 0) w)) := Lib.hid (fun w => by have := value39_any 3 0 2 w; rw [show vN 3 0 2 = 0 from by decide +kernel] at this; exact this)
  have C3 : Hid (∀ w, Calls Tryd.prog 39 #[.int .i64 3, .int .i64 2, .int .i64 0] w (Ret (.int .i64 1099511627776) w)) := Lib.hid (fun w => by have := value39_any 3 2 0 w; rw [show vN 3 2 0 = 1099511627776 from by decide +kernel] at this; exact this)
  go_enter Tryd.func40, Tryd.ntmps40
  go_wp2_with fail
  go_loopw [6] (fun i wr => ∃ k : Nat, k ≤ 1 ∧ i = .int .i64 k ∧ Few wr w.heap.size ∧ Below w.heap.size w wr) (fun i _ => 1 + 1 - (intOf i).toNat)
  case atStart => exact ⟨0, by omega, rfl, ⟨by go_simp, by go_simp, by go_simp, by go_simp, by simp⟩, (Below.refl _ _).alloc (Nat.le_refl _) _⟩
  case round =>
    obtain ⟨k, hk, rfl, hF, hB⟩ := hrel
    have HF := Lib.hid hF; have HB0 := Lib.hid hB
    obtain ⟨f0, f1, f2, f3, hlt⟩ := hF
    clear hB
    have hk' : k = 0 ∨ k = 1 := by omega
    rcases hk' with rfl | rfl
    · go_wp2
      go_quiet (fail)
      go_wp2_with fail
      refine (C1.out _).mono ?_
      rintro e y0 ⟨rfl, h1⟩
      have h2 := below_step (below_drewN HB0.out _) h1
      have HB1 := Lib.hid h2; have HF1 := Lib.hid ((HF.out.below (below_drewN (Below.refl _ _) _)).below h1); clear h1 h2
      go_wp2_with fail
      refine (C1.out _).mono ?_
      rintro e y1 ⟨rfl, h1⟩
      have HB2 := Lib.hid (below_step HB1.out h1); have HF2 := Lib.hid (HF1.out.below h1); clear h1
      go_wp2_with fail
      go_roundw
      case rel => exact ⟨1, by omega, rfl, HF2.out, HB2.out⟩
      case measure => simp [intOf]
    · go_wp2
      go_quiet (fail)
      go_wp2_with fail
      refine (C2.out _).mono ?_
      rintro e y0 ⟨rfl, h1⟩
      have h2 := below_step (below_drewN HB0.out _) h1
      have HB1 := Lib.hid h2; have HF1 := Lib.hid ((HF.out.below (below_drewN (Below.refl _ _) _)).below h1); clear h1 h2
      go_wp2_with fail
      refine (C3.out _).mono ?_
      rintro e y1 ⟨rfl, h1⟩
      have HB2 := Lib.hid (below_step HB1.out h1); have HF2 := Lib.hid (HF1.out.below h1); clear h1
      go_wp2_with fail
      go_ret
      exact ⟨rfl, HB2.out⟩
set_option maxRecDepth 100000 in
set_option maxHeartbeats 2000000 in
theorem fails_4_1 (w : World) : Calls Tryd.prog 40 #[.int .i64 4, .int .i64 1] w (Ret (.bool true) w) := by
  have B0 : bits .and .i64 0 3 = 0 := by decide +kernel
  have B1 : bits .and .i64 1 3 = 1 := by decide +kernel
  have C1 : Hid (∀ w, Calls Tryd.prog 39 #[.int .i64 4, .int .i64 2, .int .i64 2] w (Ret (.int .i64 0) w)) := Lib.hid (fun w => by have := value39_any 4 2 2 w; rw [show vN 4 2 2 = 0 from by decide +kernel] at this; exact this)
  have C2 : Hid (∀ w, Calls Tryd.prog 39 #[.int .i64 4, .int .i64 0, .int .i64 2] w (Ret (.int .i64 0) w)) := Lib.hid (fun w => by have := value39_any 4 0 2 w; rw [show vN 4 0 2 = 0 from by decide +kernel] at this; exact this)
  have C3 : Hid (∀ w, Calls Tryd.prog 39 #[.int .i64 4, .int .i64 2, .int .i64 0] w (Ret (.int .i64 1099511627776) w)) := Lib.hid (fun w => by have := value39_any 4 2 0 w; rw [show vN 4 2 0 = 1099511627776 from by decide +kernel] at this; exact this)
  go_enter Tryd.func40, Tryd.ntmps40
  go_wp2_with fail
  go_loopw [6] (fun i wr => ∃ k : Nat, k ≤ 1 ∧ i = .int .i64 k ∧ Few wr w.heap.size ∧ Below w.heap.size w wr) (fun i _ => 1 + 1 - (intOf i).toNat)
  case atStart => exact ⟨0, by omega, rfl, ⟨by go_simp, by go_simp, by go_simp, by go_simp, by simp⟩, (Below.refl _ _).alloc (Nat.le_refl _) _⟩
  case round =>
    obtain ⟨k, hk, rfl, hF, hB⟩ := hrel
    have HF := Lib.hid hF; have HB0 := Lib.hid hB
    obtain ⟨f0, f1, f2, f3, hlt⟩ := hF
    clear hB
    have hk' : k = 0 ∨ k = 1 := by omega
    rcases hk' with rfl | rfl
    · go_wp2
      go_quiet (fail)
      go_wp2_with fail
      refine (C1.out _).mono ?_
      rintro e y0 ⟨rfl, h1⟩
      have h2 := below_step (below_drewN HB0.out _) h1
      have HB1 := Lib.hid h2; have HF1 := Lib.hid ((HF.out.below (below_drewN (Below.refl _ _) _)).below h1); clear h1 h2
      go_wp2_with fail
      refine (C1.out _).mono ?_
      rintro e y1 ⟨rfl, h1⟩
      have HB2 := Lib.hid (below_step HB1.out h1); have HF2 := Lib.hid (HF1.out.below h1); clear h1
      go_wp2_with fail
      go_roundw
      case rel => exact ⟨1, by omega, rfl, HF2.out, HB2.out⟩
      case measure => simp [intOf]
    · go_wp2
      go_quiet (fail)
      go_wp2_with fail
      refine (C2.out _).mono ?_
      rintro e y0 ⟨rfl, h1⟩
      have h2 := below_step (below_drewN HB0.out _) h1
      have HB1 := Lib.hid h2; have HF1 := Lib.hid ((HF.out.below (below_drewN (Below.refl _ _) _)).below h1); clear h1 h2
      go_wp2_with fail
      refine (C3.out _).mono ?_
      rintro e y1 ⟨rfl, h1⟩
      have HB2 := Lib.hid (below_step HB1.out h1); have HF2 := Lib.hid (HF1.out.below h1); clear h1
      go_wp2_with fail
      go_ret
      exact ⟨rfl, HB2.out⟩
set_option maxRecDepth 100000 in
set_option maxHeartbeats 2000000 in
theorem fails_5_1 (w : World) : Calls Tryd.prog 40 #[.int .i64 5, .int .i64 1] w (Ret (.bool true) w) := by
  have B0 : bits .and .i64 0 3 = 0 := by decide +kernel
  have B1 : bits .and .i64 1 3 = 1 := by decide +kernel
  have C1 : Hid (∀ w, Calls Tryd.prog 39 #[.int .i64 5, .int .i64 2, .int .i64 2] w (Ret (.int .i64 0) w)) := Lib.hid (fun w => by have := value39_any 5 2 2 w; rw [show vN 5 2 2 = 0 from by decide +kernel] at this; exact this)
  have C2 : Hid (∀ w, Calls Tryd.prog 39 #[.int .i64 5, .int .i64 0, .int .i64 2] w (Ret (.int .i64 1) w)) := Lib.hid (fun w => by have := value39_any 5 0 2 w; rw [show vN 5 0 2 = 1 from by decide +kernel] at this; exact this)
  have C3 : Hid (∀ w, Calls Tryd.prog 39 #[.int .i64 5, .int .i64 2, .int .i64 0] w (Ret (.int .i64 0) w)) := Lib.hid (fun w => by have := value39_any 5 2 0 w; rw [show vN 5 2 0 = 0 from by decide +kernel] at this; exact this)
  go_enter Tryd.func40, Tryd.ntmps40
  go_wp2_with fail
  go_loopw [6] (fun i wr => ∃ k : Nat, k ≤ 1 ∧ i = .int .i64 k ∧ Few wr w.heap.size ∧ Below w.heap.size w wr) (fun i _ => 1 + 1 - (intOf i).toNat)
  case atStart => exact ⟨0, by omega, rfl, ⟨by go_simp, by go_simp, by go_simp, by go_simp, by simp⟩, (Below.refl _ _).alloc (Nat.le_refl _) _⟩
  case round =>
    obtain ⟨k, hk, rfl, hF, hB⟩ := hrel
    have HF := Lib.hid hF; have HB0 := Lib.hid hB
    obtain ⟨f0, f1, f2, f3, hlt⟩ := hF
    clear hB
    have hk' : k = 0 ∨ k = 1 := by omega
    rcases hk' with rfl | rfl
    · go_wp2
      go_quiet (fail)
      go_wp2_with fail
      refine (C1.out _).mono ?_
      rintro e y0 ⟨rfl, h1⟩
      have h2 := below_step (below_drewN HB0.out _) h1
      have HB1 := Lib.hid h2; have HF1 := Lib.hid ((HF.out.below (below_drewN (Below.refl _ _) _)).below h1); clear h1 h2
      go_wp2_with fail
      refine (C1.out _).mono ?_
      rintro e y1 ⟨rfl, h1⟩
      have HB2 := Lib.hid (below_step HB1.out h1); have HF2 := Lib.hid (HF1.out.below h1); clear h1
      go_wp2_with fail
      go_roundw
      case rel => exact ⟨1, by omega, rfl, HF2.out, HB2.out⟩
      case measure => simp [intOf]
    · go_wp2
      go_quiet (fail)
      go_wp2_with fail
      refine (C2.out _).mono ?_
      rintro e y0 ⟨rfl, h1⟩
      have h2 := below_step (below_drewN HB0.out _) h1
      have HB1 := Lib.hid h2; have HF1 := Lib.hid ((HF.out.below (below_drewN (Below.refl _ _) _)).below h1); clear h1 h2
      go_wp2_with fail
      refine (C3.out _).mono ?_
      rintro e y1 ⟨rfl, h1⟩
      have HB2 := Lib.hid (below_step HB1.out h1); have HF2 := Lib.hid (HF1.out.below h1); clear h1
      go_wp2_with fail
      go_ret
      exact ⟨rfl, HB2.out⟩
set_option maxRecDepth 100000 in
set_option maxHeartbeats 2000000 in
theorem fails_0_2 (w : World) : Calls Tryd.prog 40 #[.int .i64 0, .int .i64 2] w (Ret (.bool true) w) := by
  have B0 : bits .and .i64 0 3 = 0 := by decide +kernel
  have B1 : bits .and .i64 1 3 = 1 := by decide +kernel
  have C1 : Hid (∀ w, Calls Tryd.prog 39 #[.int .i64 0, .int .i64 2, .int .i64 2] w (Ret (.int .i64 4) w)) := Lib.hid (fun w => by have := value39_any 0 2 2 w; rw [show vN 0 2 2 = 4 from by decide +kernel] at this; exact this)
  go_enter Tryd.func40, Tryd.ntmps40
  go_wp2_with fail
  go_loopw [6] (fun i wr => ∃ k : Nat, k ≤ 0 ∧ i = .int .i64 k ∧ Few wr w.heap.size ∧ Below w.heap.size w wr) (fun i _ => 0 + 1 - (intOf i).toNat)
  case atStart => exact ⟨0, by omega, rfl, ⟨by go_simp, by go_simp, by go_simp, by go_simp, by simp⟩, (Below.refl _ _).alloc (Nat.le_refl _) _⟩
  case round =>
    obtain ⟨k, hk, rfl, hF, hB⟩ := hrel
    have HF := Lib.hid hF; have HB0 := Lib.hid hB
    obtain ⟨f0, f1, f2, f3, hlt⟩ := hF
    clear hB
    have hk' : k = 0 := by omega
    obtain rfl := hk'
    · go_wp2
      go_quiet (fail)
      go_wp2_with fail
      refine (C1.out _).mono ?_
      rintro e y0 ⟨rfl, h1⟩
      have h2 := below_step (below_drewN HB0.out _) h1
      have HB1 := Lib.hid h2; have HF1 := Lib.hid ((HF.out.below (below_drewN (Below.refl _ _) _)).below h1); clear h1 h2
      go_wp2_with fail
      go_ret
      exact ⟨rfl, HB1.out⟩
set_option maxRecDepth 100000 in
set_option maxHeartbeats 2000000 in
theorem fails_1_2 (w : World) : Calls Tryd.prog 40 #[.int .i64 1, .int .i64 2] w (Ret (.bool true) w) := by
  have B0 : bits .and .i64 0 3 = 0 := by decide +kernel
  have B1 : bits .and .i64 1 3 = 1 := by decide +kernel
  have C1 : Hid (∀ w, Calls Tryd.prog 39 #[.int .i64 1, .int .i64 2, .int .i64 2] w (Ret (.int .i64 0) w)) := Lib.hid (fun w => by have := value39_any 1 2 2 w; rw [show vN 1 2 2 = 0 from by decide +kernel] at this; exact this)
  go_enter Tryd.func40, Tryd.ntmps40
  go_wp2_with fail
  go_loopw [6] (fun i wr => ∃ k : Nat, k ≤ 0 ∧ i = .int .i64 k ∧ Few wr w.heap.size ∧ Below w.heap.size w wr) (fun i _ => 0 + 1 - (intOf i).toNat)
  case atStart => exact ⟨0, by omega, rfl, ⟨by go_simp, by go_simp, by go_simp, by go_simp, by simp⟩, (Below.refl _ _).alloc (Nat.le_refl _) _⟩
  case round =>
    obtain ⟨k, hk, rfl, hF, hB⟩ := hrel
    have HF := Lib.hid hF; have HB0 := Lib.hid hB
    obtain ⟨f0, f1, f2, f3, hlt⟩ := hF
    clear hB
    have hk' : k = 0 := by omega
    obtain rfl := hk'
    · go_wp2
      go_quiet (fail)
      go_wp2_with fail
      refine (C1.out _).mono ?_
      rintro e y0 ⟨rfl, h1⟩
      have h2 := below_step (below_drewN HB0.out _) h1
      have HB1 := Lib.hid h2; have HF1 := Lib.hid ((HF.out.below (below_drewN (Below.refl _ _) _)).below h1); clear h1 h2
      go_wp2_with fail
      go_ret
      exact ⟨rfl, HB1.out⟩
set_option maxRecDepth 100000 in
set_option maxHeartbeats 2000000 in
theorem fails_2_2 (w : World) : Calls Tryd.prog 40 #[.int .i64 2, .int .i64 2] w (Ret (.bool true) w) := by
  have B0 : bits .and .i64 0 3 = 0 := by decide +kernel
  have B1 : bits .and .i64 1 3 = 1 := by decide +kernel
  have C1 : Hid (∀ w, Calls Tryd.prog 39 #[.int .i64 2, .int .i64 2, .int .i64 2] w (Ret (.int .i64 4) w)) := Lib.hid (fun w => by have := value39_any 2 2 2 w; rw [show vN 2 2 2 = 4 from by decide +kernel] at this; exact this)
  go_enter Tryd.func40, Tryd.ntmps40
  go_wp2_with fail
  go_loopw [6] (fun i wr => ∃ k : Nat, k ≤ 0 ∧ i = .int .i64 k ∧ Few wr w.heap.size ∧ Below w.heap.size w wr) (fun i _ => 0 + 1 - (intOf i).toNat)
  case atStart => exact ⟨0, by omega, rfl, ⟨by go_simp, by go_simp, by go_simp, by go_simp, by simp⟩, (Below.refl _ _).alloc (Nat.le_refl _) _⟩
  case round =>
    obtain ⟨k, hk, rfl, hF, hB⟩ := hrel
    have HF := Lib.hid hF; have HB0 := Lib.hid hB
    obtain ⟨f0, f1, f2, f3, hlt⟩ := hF
    clear hB
    have hk' : k = 0 := by omega
    obtain rfl := hk'
    · go_wp2
      go_quiet (fail)
      go_wp2_with fail
      refine (C1.out _).mono ?_
      rintro e y0 ⟨rfl, h1⟩
      have h2 := below_step (below_drewN HB0.out _) h1
      have HB1 := Lib.hid h2; have HF1 := Lib.hid ((HF.out.below (below_drewN (Below.refl _ _) _)).below h1); clear h1 h2
      go_wp2_with fail
      go_ret
      exact ⟨rfl, HB1.out⟩
set_option maxRecDepth 100000 in
set_option maxHeartbeats 2000000 in
theorem fails_3_2 (w : World) : Calls Tryd.prog 40 #[.int .i64 3, .int .i64 2] w (Ret (.bool true) w) := by
  have B0 : bits .and .i64 0 3 = 0 := by decide +kernel
  have B1 : bits .and .i64 1 3 = 1 := by decide +kernel
  have C1 : Hid (∀ w, Calls Tryd.prog 39 #[.int .i64 3, .int .i64 2, .int .i64 2] w (Ret (.int .i64 1) w)) := Lib.hid (fun w => by have := value39_any 3 2 2 w; rw [show vN 3 2 2 = 1 from by decide +kernel] at this; exact this)
  go_enter Tryd.func40, Tryd.ntmps40
  go_wp2_with fail
  go_loopw [6] (fun i wr => ∃ k : Nat, k ≤ 0 ∧ i = .int .i64 k ∧ Few wr w.heap.size ∧ Below w.heap.size w wr) (fun i _ => 0 + 1 - (intOf i).toNat)
  case atStart => exact ⟨0, by omega, rfl, ⟨by go_simp, by go_simp, by go_simp, by go_simp, by simp⟩, (Below.refl _ _).alloc (Nat.le_refl _) _⟩
  case round =>
    obtain ⟨k, hk, rfl, hF, hB⟩ := hrel
    have HF := Lib.hid hF; have HB0 := Lib.hid hB
    obtain ⟨f0, f1, f2, f3, hlt⟩ := hF
    clear hB
    have hk' : k = 0 := by omega
    obtain rfl := hk'
    · go_wp2
      go_quiet (fail)
      go_wp2_with fail
      refine (C1.out _).mono ?_
      rintro e y0 ⟨rfl, h1⟩
      have h2 := below_step (below_drewN HB0.out _) h1
      have HB1 := Lib.hid h2; have HF1 := Lib.hid ((HF.out.below (below_drewN (Below.refl _ _) _)).below h1); clear h1 h2
      go_wp2_with fail
      go_ret
      exact ⟨rfl, HB1.out⟩
set_option maxRecDepth 100000 in
set_option maxHeartbeats 2000000 in
theorem fails_4_2 (w : World) : Calls Tryd.prog 40 #[.int .i64 4, .int .i64 2] w (Ret (.bool true) w) := by
  have B0 : bits .and .i64 0 3 = 0 := by decide +kernel
  have B1 : bits .and .i64 1 3 = 1 := by decide +kernel
  have C1 : Hid (∀ w, Calls Tryd.prog 39 #[.int .i64 4, .int .i64 2, .int .i64 2] w (Ret (.int .i64 0) w)) := Lib.hid (fun w => by have := value39_any 4 2 2 w; rw [show vN 4 2 2 = 0 from by decide +kernel] at this; exact this)
  go_enter Tryd.func40, Tryd.ntmps40
  go_wp2_with fail
  go_loopw [6] (fun i wr => ∃ k : Nat, k ≤ 0 ∧ i = .int .i64 k ∧ Few wr w.heap.size ∧ Below w.heap.size w wr) (fun i _ => 0 + 1 - (intOf i).toNat)
  case atStart => exact ⟨0, by omega, rfl, ⟨by go_simp, by go_simp, by go_simp, by go_simp, by simp⟩, (Below.refl _ _).alloc (Nat.le_refl _) _⟩
  case round =>
    obtain ⟨k, hk, rfl, hF, hB⟩ := hrel
    have HF := Lib.hid hF; have HB0 := Lib.hid hB
    obtain ⟨f0, f1, f2, f3, hlt⟩ := hF
    clear hB
    have hk' : k = 0 := by omega
    obtain rfl := hk'
    · go_wp2
      go_quiet (fail)
      go_wp2_with fail
      refine (C1.out _).mono ?_
      rintro e y0 ⟨rfl, h1⟩
      have h2 := below_step (below_drewN HB0.out _) h1
      have HB1 := Lib.hid h2; have HF1 := Lib.hid ((HF.out.below (below_drewN (Below.refl _ _) _)).below h1); clear h1 h2
      go_wp2_with fail
      go_ret
      exact ⟨rfl, HB1.out⟩
set_option maxRecDepth 100000 in
set_option maxHeartbeats 2000000 in
theorem fails_5_2 (w : World) : Calls Tryd.prog 40 #[.int .i64 5, .int .i64 2] w (Ret (.bool true) w) := by
  have B0 : bits .and .i64 0 3 = 0 := by decide +kernel
  have B1 : bits .and .i64 1 3 = 1 := by decide +kernel
  have C1 : Hid (∀ w, Calls Tryd.prog 39 #[.int .i64 5, .int .i64 2, .int .i64 2] w (Ret (.int .i64 0) w)) := Lib.hid (fun w => by have := value39_any 5 2 2 w; rw [show vN 5 2 2 = 0 from by decide +kernel] at this; exact this)
  go_enter Tryd.func40, Tryd.ntmps40
  go_wp2_with fail
  go_loopw [6] (fun i wr => ∃ k : Nat, k ≤ 0 ∧ i = .int .i64 k ∧ Few wr w.heap.size ∧ Below w.heap.size w wr) (fun i _ => 0 + 1 - (intOf i).toNat)
  case atStart => exact ⟨0, by omega, rfl, ⟨by go_simp, by go_simp, by go_simp, by go_simp, by simp⟩, (Below.refl _ _).alloc (Nat.le_refl _) _⟩
  case round =>
    obtain ⟨k, hk, rfl, hF, hB⟩ := hrel
    have HF := Lib.hid hF; have HB0 := Lib.hid hB
    obtain ⟨f0, f1, f2, f3, hlt⟩ := hF
    clear hB
    have hk' : k = 0 := by omega
    obtain rfl := hk'
    · go_wp2
      go_quiet (fail)
      go_wp2_with fail
      refine (C1.out _).mono ?_
      rintro e y0 ⟨rfl, h1⟩
      have h2 := below_step (below_drewN HB0.out _) h1
      have HB1 := Lib.hid h2; have HF1 := Lib.hid ((HF.out.below (below_drewN (Below.refl _ _) _)).below h1); clear h1 h2
      go_wp2_with fail
      go_ret
      exact ⟨rfl, HB1.out⟩
set_option maxRecDepth 100000 in
set_option maxHeartbeats 2000000 in
theorem fails_6_2 (w : World) : Calls Tryd.prog 40 #[.int .i64 6, .int .i64 2] w (Ret (.bool true) w) := by
  have B0 : bits .and .i64 0 3 = 0 := by decide +kernel
  have B1 : bits .and .i64 1 3 = 1 := by decide +kernel
  have C1 : Hid (∀ w, Calls Tryd.prog 39 #[.int .i64 6, .int .i64 2, .int .i64 2] w (Ret (.int .i64 1) w)) := Lib.hid (fun w => by have := value39_any 6 2 2 w; rw [show vN 6 2 2 = 1 from by decide +kernel] at this; exact this)
  go_enter Tryd.func40, Tryd.ntmps40
  go_wp2_with fail
  go_loopw [6] (fun i wr => ∃ k : Nat, k ≤ 0 ∧ i = .int .i64 k ∧ Few wr w.heap.size ∧ Below w.heap.size w wr) (fun i _ => 0 + 1 - (intOf i).toNat)
  case atStart => exact ⟨0, by omega, rfl, ⟨by go_simp, by go_simp, by go_simp, by go_simp, by simp⟩, (Below.refl _ _).alloc (Nat.le_refl _) _⟩
  case round =>
    obtain ⟨k, hk, rfl, hF, hB⟩ := hrel
    have HF := Lib.hid hF; have HB0 := Lib.hid hB
    obtain ⟨f0, f1, f2, f3, hlt⟩ := hF
    clear hB
    have hk' : k = 0 := by omega
    obtain rfl := hk'
    · go_wp2
      go_quiet (fail)
      go_wp2_with fail
      refine (C1.out _).mono ?_
      rintro e y0 ⟨rfl, h1⟩
      have h2 := below_step (below_drewN HB0.out _) h1
      have HB1 := Lib.hid h2; have HF1 := Lib.hid ((HF.out.below (below_drewN (Below.refl _ _) _)).below h1); clear h1 h2
      go_wp2_with fail
      go_ret
      exact ⟨rfl, HB1.out⟩
set_option maxRecDepth 100000 in
set_option maxHeartbeats 2000000 in
theorem fails_11_2 (w : World) : Calls Tryd.prog 40 #[.int .i64 11, .int .i64 2] w (Ret (.bool true) w) := by
  have B0 : bits .and .i64 0 3 = 0 := by decide +kernel
  have B1 : bits .and .i64 1 3 = 1 := by decide +kernel
  have C1 : Hid (∀ w, Calls Tryd.prog 39 #[.int .i64 11, .int .i64 2, .int .i64 2] w (Ret (.int .i64 0) w)) := Lib.hid (fun w => by have := value39_any 11 2 2 w; rw [show vN 11 2 2 = 0 from by decide +kernel] at this; exact this)
  go_enter Tryd.func40, Tryd.ntmps40
  go_wp2_with fail
  go_loopw [6] (fun i wr => ∃ k : Nat, k ≤ 0 ∧ i = .int .i64 k ∧ Few wr w.heap.size ∧ Below w.heap.size w wr) (fun i _ => 0 + 1 - (intOf i).toNat)
  case atStart => exact ⟨0, by omega, rfl, ⟨by go_simp, by go_simp, by go_simp, by go_simp, by simp⟩, (Below.refl _ _).alloc (Nat.le_refl _) _⟩
  case round =>
    obtain ⟨k, hk, rfl, hF, hB⟩ := hrel
    have HF := Lib.hid hF; have HB0 := Lib.hid hB
    obtain ⟨f0, f1, f2, f3, hlt⟩ := hF
    clear hB
    have hk' : k = 0 := by omega
    obtain rfl := hk'
    · go_wp2
      go_quiet (fail)
      go_wp2_with fail
      refine (C1.out _).mono ?_
      rintro e y0 ⟨rfl, h1⟩
      have h2 := below_step (below_drewN HB0.out _) h1
      have HB1 := Lib.hid h2; have HF1 := Lib.hid ((HF.out.below (below_drewN (Below.refl _ _) _)).below h1); clear h1 h2
      go_wp2_with fail
      go_ret
      exact ⟨rfl, HB1.out⟩
end Go.Proofs.YthbgingclpponaaDoor
