/- WordKnown's walk. -/
import Derived.Test.YthbgingclpponaaDoorWv
import Derived.Deep.RegionHeld3
import Derived.RegionTactic
import Derived.Deep.QuietTactic
import Derived.BigQuiet
namespace Go.Proofs.YthbgingclpponaaDoor.wordKnown
open Go.RowKit
set_option linter.unusedVariables false
/-- what loop 1 carries -/
def St (w W : World) : Prop := Block W w.heap.size askedA ∧ Block W (w.heap.size + 1) wantA ∧ Below w.heap.size w W
theorem St.below {w W y : World} (h : St w W) (hb : Below W.heap.size W y) : St w y := ⟨h.1.below hb, h.2.1.below hb, below_step h.2.2 hb⟩
theorem keep4 {w W y : World} {i0 i1 i2 i3 : Nat} {v0 v1 v2 v3 : Value} (h : W.cell? ⟨w.heap.size, i0, none⟩ = some v0 ∧ W.cell? ⟨w.heap.size, i1, none⟩ = some v1 ∧ W.cell? ⟨w.heap.size, i2, none⟩ = some v2 ∧ W.cell? ⟨w.heap.size + 1, i3, none⟩ = some v3 ∧ St w W) (hb : Below W.heap.size W y) :
    y.cell? ⟨w.heap.size, i0, none⟩ = some v0 ∧ y.cell? ⟨w.heap.size, i1, none⟩ = some v1 ∧ y.cell? ⟨w.heap.size, i2, none⟩ = some v2 ∧ y.cell? ⟨w.heap.size + 1, i3, none⟩ = some v3 ∧ St w y := by
  obtain ⟨h0, h1, h2, h3, hs⟩ := h
  exact ⟨(hb.cell (p := ⟨w.heap.size, i0, none⟩) hs.1.2).trans h0, (hb.cell (p := ⟨w.heap.size, i1, none⟩) hs.1.2).trans h1, (hb.cell (p := ⟨w.heap.size, i2, none⟩) hs.1.2).trans h2, (hb.cell (p := ⟨w.heap.size + 1, i3, none⟩) hs.2.1.2).trans h3, hs.below hb⟩
set_option maxRecDepth 100000 in
set_option maxHeartbeats 40000000 in
theorem walk (w : World) (hI : Inv w) : Calls Tryd.prog 10 #[] w (Ret (.bool true) w) := by
  have HI := Lib.hid hI; clear hI
  go_enter Tryd.func10, Tryd.ntmps10
  go_wp2_with fail
  go_loopw [3] (fun i wr => ∃ k : Nat, k ≤ 19 ∧ i = .int .i64 k ∧ St w wr) (fun i _ => 20 - (intOf i).toNat)
  case atStart =>
    refine ⟨0, by omega, rfl, ?_, ?_, ?_⟩
    · exact (Block.new w askedA 39).below ((Below.refl _ _).alloc (Nat.le_refl _) _)
    · have := Block.new (w.alloc (.cells askedA 39)) wantA 3
      rw [show (w.alloc (.cells askedA 39)).heap.size = w.heap.size + 1 from by simp] at this
      exact this
    · exact below_new (below_new (Below.refl _ w) _) _
  case round =>
    obtain ⟨k, hk, rfl, hS⟩ := hrel
    have HS := Lib.hid hS
    clear hS
    have hk' : k = 0 ∨ k = 1 ∨ k = 2 ∨ k = 3 ∨ k = 4 ∨ k = 5 ∨ k = 6 ∨ k = 7 ∨ k = 8 ∨ k = 9 ∨ k = 10 ∨ k = 11 ∨ k = 12 ∨ k = 13 ∨ k = 14 ∨ k = 15 ∨ k = 16 ∨ k = 17 ∨ k = 18 ∨ k = 19 := by omega
    rcases hk' with rfl | rfl | rfl | rfl | rfl | rfl | rfl | rfl | rfl | rfl | rfl | rfl | rfl | rfl | rfl | rfl | rfl | rfl | rfl | rfl
    · have c0 : wr.cell? ⟨w.heap.size, 0, none⟩ = some (.int .i64 0) := (HS.out.1.1 0 (by decide)).trans rfl
      have c1 : wr.cell? ⟨w.heap.size, 1, none⟩ = some (.int .i64 2147483647) := (HS.out.1.1 1 (by decide)).trans rfl
      have c2 : wr.cell? ⟨w.heap.size, 2, none⟩ = some (.int .i64 1) := (HS.out.1.1 2 (by decide)).trans rfl
      have c3 : wr.cell? ⟨w.heap.size + 1, 0, none⟩ = some (.int .i64 (-2147483648)) := (HS.out.2.1.1 0 (by decide)).trans rfl
      go_wp2_with fail
      go_region_held3 (fun W => W.cell? ⟨w.heap.size, 0, none⟩ = some (.int .i64 0) ∧ W.cell? ⟨w.heap.size, 1, none⟩ = some (.int .i64 2147483647) ∧ W.cell? ⟨w.heap.size, 2, none⟩ = some (.int .i64 1) ∧ W.cell? ⟨w.heap.size + 1, 0, none⟩ = some (.int .i64 (-2147483648)) ∧ St w W) (first | exact keep4 ⟨c0, c1, c2, c3, HS.out⟩ (Below.drew (Below.refl _ _)) | exact keep4 (by assumption) h1) (first | (go_at_call 39; refine (as0 _).mono ?_; rintro e y ⟨rfl, h1⟩))
      rename_i hH
      have HS2 := Lib.hid hH.2.2.2.2
      clear hH c0 c1 c2 c3 HS
      go_wp2_with fail
      go_roundw
      case rel => exact ⟨1, by omega, rfl, HS2.out⟩
      case measure => simp [intOf]
    · have c0 : wr.cell? ⟨w.heap.size, 3, none⟩ = some (.int .i64 1) := (HS.out.1.1 3 (by decide)).trans rfl
      have c1 : wr.cell? ⟨w.heap.size, 4, none⟩ = some (.int .i64 0) := (HS.out.1.1 4 (by decide)).trans rfl
      have c2 : wr.cell? ⟨w.heap.size, 5, none⟩ = some (.int .i64 (-2147483648)) := (HS.out.1.1 5 (by decide)).trans rfl
      have c3 : wr.cell? ⟨w.heap.size + 1, 1, none⟩ = some (.int .i64 (-2147483648)) := (HS.out.2.1.1 1 (by decide)).trans rfl
      go_wp2_with fail
      go_region_held3 (fun W => W.cell? ⟨w.heap.size, 3, none⟩ = some (.int .i64 1) ∧ W.cell? ⟨w.heap.size, 4, none⟩ = some (.int .i64 0) ∧ W.cell? ⟨w.heap.size, 5, none⟩ = some (.int .i64 (-2147483648)) ∧ W.cell? ⟨w.heap.size + 1, 1, none⟩ = some (.int .i64 (-2147483648)) ∧ St w W) (first | exact keep4 ⟨c0, c1, c2, c3, HS.out⟩ (Below.drew (Below.refl _ _)) | exact keep4 (by assumption) h1) (first | (go_at_call 39; refine (as1 _).mono ?_; rintro e y ⟨rfl, h1⟩))
      rename_i hH
      have HS2 := Lib.hid hH.2.2.2.2
      clear hH c0 c1 c2 c3 HS
      go_wp2_with fail
      go_roundw
      case rel => exact ⟨2, by omega, rfl, HS2.out⟩
      case measure => simp [intOf]
    · have c0 : wr.cell? ⟨w.heap.size, 6, none⟩ = some (.int .i64 3) := (HS.out.1.1 6 (by decide)).trans rfl
      have c1 : wr.cell? ⟨w.heap.size, 7, none⟩ = some (.int .i64 (-7)) := (HS.out.1.1 7 (by decide)).trans rfl
      have c2 : wr.cell? ⟨w.heap.size, 8, none⟩ = some (.int .i64 2) := (HS.out.1.1 8 (by decide)).trans rfl
      have c3 : wr.cell? ⟨w.heap.size + 1, 2, none⟩ = some (.int .i64 (-4)) := (HS.out.2.1.1 2 (by decide)).trans rfl
      go_wp2_with fail
      go_region_held3 (fun W => W.cell? ⟨w.heap.size, 6, none⟩ = some (.int .i64 3) ∧ W.cell? ⟨w.heap.size, 7, none⟩ = some (.int .i64 (-7)) ∧ W.cell? ⟨w.heap.size, 8, none⟩ = some (.int .i64 2) ∧ W.cell? ⟨w.heap.size + 1, 2, none⟩ = some (.int .i64 (-4)) ∧ St w W) (first | exact keep4 ⟨c0, c1, c2, c3, HS.out⟩ (Below.drew (Below.refl _ _)) | exact keep4 (by assumption) h1) (first | (go_at_call 39; refine (as2 _).mono ?_; rintro e y ⟨rfl, h1⟩))
      rename_i hH
      have HS2 := Lib.hid hH.2.2.2.2
      clear hH c0 c1 c2 c3 HS
      go_wp2_with fail
      go_roundw
      case rel => exact ⟨3, by omega, rfl, HS2.out⟩
      case measure => simp [intOf]
    · have c0 : wr.cell? ⟨w.heap.size, 9, none⟩ = some (.int .i64 4) := (HS.out.1.1 9 (by decide)).trans rfl
      have c1 : wr.cell? ⟨w.heap.size, 10, none⟩ = some (.int .i64 (-7)) := (HS.out.1.1 10 (by decide)).trans rfl
      have c2 : wr.cell? ⟨w.heap.size, 11, none⟩ = some (.int .i64 2) := (HS.out.1.1 11 (by decide)).trans rfl
      have c3 : wr.cell? ⟨w.heap.size + 1, 3, none⟩ = some (.int .i64 1) := (HS.out.2.1.1 3 (by decide)).trans rfl
      go_wp2_with fail
      go_region_held3 (fun W => W.cell? ⟨w.heap.size, 9, none⟩ = some (.int .i64 4) ∧ W.cell? ⟨w.heap.size, 10, none⟩ = some (.int .i64 (-7)) ∧ W.cell? ⟨w.heap.size, 11, none⟩ = some (.int .i64 2) ∧ W.cell? ⟨w.heap.size + 1, 3, none⟩ = some (.int .i64 1) ∧ St w W) (first | exact keep4 ⟨c0, c1, c2, c3, HS.out⟩ (Below.drew (Below.refl _ _)) | exact keep4 (by assumption) h1) (first | (go_at_call 39; refine (as3 _).mono ?_; rintro e y ⟨rfl, h1⟩))
      rename_i hH
      have HS2 := Lib.hid hH.2.2.2.2
      clear hH c0 c1 c2 c3 HS
      go_wp2_with fail
      go_roundw
      case rel => exact ⟨4, by omega, rfl, HS2.out⟩
      case measure => simp [intOf]
    · have c0 : wr.cell? ⟨w.heap.size, 12, none⟩ = some (.int .i64 3) := (HS.out.1.1 12 (by decide)).trans rfl
      have c1 : wr.cell? ⟨w.heap.size, 13, none⟩ = some (.int .i64 7) := (HS.out.1.1 13 (by decide)).trans rfl
      have c2 : wr.cell? ⟨w.heap.size, 14, none⟩ = some (.int .i64 (-2)) := (HS.out.1.1 14 (by decide)).trans rfl
      have c3 : wr.cell? ⟨w.heap.size + 1, 4, none⟩ = some (.int .i64 (-4)) := (HS.out.2.1.1 4 (by decide)).trans rfl
      go_wp2_with fail
      go_region_held3 (fun W => W.cell? ⟨w.heap.size, 12, none⟩ = some (.int .i64 3) ∧ W.cell? ⟨w.heap.size, 13, none⟩ = some (.int .i64 7) ∧ W.cell? ⟨w.heap.size, 14, none⟩ = some (.int .i64 (-2)) ∧ W.cell? ⟨w.heap.size + 1, 4, none⟩ = some (.int .i64 (-4)) ∧ St w W) (first | exact keep4 ⟨c0, c1, c2, c3, HS.out⟩ (Below.drew (Below.refl _ _)) | exact keep4 (by assumption) h1) (first | (go_at_call 39; refine (as4 _).mono ?_; rintro e y ⟨rfl, h1⟩))
      rename_i hH
      have HS2 := Lib.hid hH.2.2.2.2
      clear hH c0 c1 c2 c3 HS
      go_wp2_with fail
      go_roundw
      case rel => exact ⟨5, by omega, rfl, HS2.out⟩
      case measure => simp [intOf]
    · have c0 : wr.cell? ⟨w.heap.size, 15, none⟩ = some (.int .i64 4) := (HS.out.1.1 15 (by decide)).trans rfl
      have c1 : wr.cell? ⟨w.heap.size, 16, none⟩ = some (.int .i64 7) := (HS.out.1.1 16 (by decide)).trans rfl
      have c2 : wr.cell? ⟨w.heap.size, 17, none⟩ = some (.int .i64 (-2)) := (HS.out.1.1 17 (by decide)).trans rfl
      have c3 : wr.cell? ⟨w.heap.size + 1, 5, none⟩ = some (.int .i64 (-1)) := (HS.out.2.1.1 5 (by decide)).trans rfl
      go_wp2_with fail
      go_region_held3 (fun W => W.cell? ⟨w.heap.size, 15, none⟩ = some (.int .i64 4) ∧ W.cell? ⟨w.heap.size, 16, none⟩ = some (.int .i64 7) ∧ W.cell? ⟨w.heap.size, 17, none⟩ = some (.int .i64 (-2)) ∧ W.cell? ⟨w.heap.size + 1, 5, none⟩ = some (.int .i64 (-1)) ∧ St w W) (first | exact keep4 ⟨c0, c1, c2, c3, HS.out⟩ (Below.drew (Below.refl _ _)) | exact keep4 (by assumption) h1) (first | (go_at_call 39; refine (as5 _).mono ?_; rintro e y ⟨rfl, h1⟩))
      rename_i hH
      have HS2 := Lib.hid hH.2.2.2.2
      clear hH c0 c1 c2 c3 HS
      go_wp2_with fail
      go_roundw
      case rel => exact ⟨6, by omega, rfl, HS2.out⟩
      case measure => simp [intOf]
    · have c0 : wr.cell? ⟨w.heap.size, 18, none⟩ = some (.int .i64 3) := (HS.out.1.1 18 (by decide)).trans rfl
      have c1 : wr.cell? ⟨w.heap.size, 19, none⟩ = some (.int .i64 (-2147483648)) := (HS.out.1.1 19 (by decide)).trans rfl
      have c2 : wr.cell? ⟨w.heap.size, 20, none⟩ = some (.int .i64 (-1)) := (HS.out.1.1 20 (by decide)).trans rfl
      have c3 : wr.cell? ⟨w.heap.size + 1, 6, none⟩ = some (.int .i64 (-2147483648)) := (HS.out.2.1.1 6 (by decide)).trans rfl
      go_wp2_with fail
      go_region_held3 (fun W => W.cell? ⟨w.heap.size, 18, none⟩ = some (.int .i64 3) ∧ W.cell? ⟨w.heap.size, 19, none⟩ = some (.int .i64 (-2147483648)) ∧ W.cell? ⟨w.heap.size, 20, none⟩ = some (.int .i64 (-1)) ∧ W.cell? ⟨w.heap.size + 1, 6, none⟩ = some (.int .i64 (-2147483648)) ∧ St w W) (first | exact keep4 ⟨c0, c1, c2, c3, HS.out⟩ (Below.drew (Below.refl _ _)) | exact keep4 (by assumption) h1) (first | (go_at_call 39; refine (as6 _).mono ?_; rintro e y ⟨rfl, h1⟩))
      rename_i hH
      have HS2 := Lib.hid hH.2.2.2.2
      clear hH c0 c1 c2 c3 HS
      go_wp2_with fail
      go_roundw
      case rel => exact ⟨7, by omega, rfl, HS2.out⟩
      case measure => simp [intOf]
    · have c0 : wr.cell? ⟨w.heap.size, 21, none⟩ = some (.int .i64 4) := (HS.out.1.1 21 (by decide)).trans rfl
      have c1 : wr.cell? ⟨w.heap.size, 22, none⟩ = some (.int .i64 (-2147483648)) := (HS.out.1.1 22 (by decide)).trans rfl
      have c2 : wr.cell? ⟨w.heap.size, 23, none⟩ = some (.int .i64 (-1)) := (HS.out.1.1 23 (by decide)).trans rfl
      have c3 : wr.cell? ⟨w.heap.size + 1, 7, none⟩ = some (.int .i64 0) := (HS.out.2.1.1 7 (by decide)).trans rfl
      go_wp2_with fail
      go_region_held3 (fun W => W.cell? ⟨w.heap.size, 21, none⟩ = some (.int .i64 4) ∧ W.cell? ⟨w.heap.size, 22, none⟩ = some (.int .i64 (-2147483648)) ∧ W.cell? ⟨w.heap.size, 23, none⟩ = some (.int .i64 (-1)) ∧ W.cell? ⟨w.heap.size + 1, 7, none⟩ = some (.int .i64 0) ∧ St w W) (first | exact keep4 ⟨c0, c1, c2, c3, HS.out⟩ (Below.drew (Below.refl _ _)) | exact keep4 (by assumption) h1) (first | (go_at_call 39; refine (as7 _).mono ?_; rintro e y ⟨rfl, h1⟩))
      rename_i hH
      have HS2 := Lib.hid hH.2.2.2.2
      clear hH c0 c1 c2 c3 HS
      go_wp2_with fail
      go_roundw
      case rel => exact ⟨8, by omega, rfl, HS2.out⟩
      case measure => simp [intOf]
    · have c0 : wr.cell? ⟨w.heap.size, 24, none⟩ = some (.int .i64 5) := (HS.out.1.1 24 (by decide)).trans rfl
      have c1 : wr.cell? ⟨w.heap.size, 25, none⟩ = some (.int .i64 (-1)) := (HS.out.1.1 25 (by decide)).trans rfl
      have c2 : wr.cell? ⟨w.heap.size, 26, none⟩ = some (.int .i64 0) := (HS.out.1.1 26 (by decide)).trans rfl
      have c3 : wr.cell? ⟨w.heap.size + 1, 8, none⟩ = some (.int .i64 1) := (HS.out.2.1.1 8 (by decide)).trans rfl
      go_wp2_with fail
      go_region_held3 (fun W => W.cell? ⟨w.heap.size, 24, none⟩ = some (.int .i64 5) ∧ W.cell? ⟨w.heap.size, 25, none⟩ = some (.int .i64 (-1)) ∧ W.cell? ⟨w.heap.size, 26, none⟩ = some (.int .i64 0) ∧ W.cell? ⟨w.heap.size + 1, 8, none⟩ = some (.int .i64 1) ∧ St w W) (first | exact keep4 ⟨c0, c1, c2, c3, HS.out⟩ (Below.drew (Below.refl _ _)) | exact keep4 (by assumption) h1) (first | (go_at_call 39; refine (as8 _).mono ?_; rintro e y ⟨rfl, h1⟩))
      rename_i hH
      have HS2 := Lib.hid hH.2.2.2.2
      clear hH c0 c1 c2 c3 HS
      go_wp2_with fail
      go_roundw
      case rel => exact ⟨9, by omega, rfl, HS2.out⟩
      case measure => simp [intOf]
    · have c0 : wr.cell? ⟨w.heap.size, 27, none⟩ = some (.int .i64 5) := (HS.out.1.1 27 (by decide)).trans rfl
      have c1 : wr.cell? ⟨w.heap.size, 28, none⟩ = some (.int .i64 0) := (HS.out.1.1 28 (by decide)).trans rfl
      have c2 : wr.cell? ⟨w.heap.size, 29, none⟩ = some (.int .i64 0) := (HS.out.1.1 29 (by decide)).trans rfl
      have c3 : wr.cell? ⟨w.heap.size + 1, 9, none⟩ = some (.int .i64 0) := (HS.out.2.1.1 9 (by decide)).trans rfl
      go_wp2_with fail
      go_region_held3 (fun W => W.cell? ⟨w.heap.size, 27, none⟩ = some (.int .i64 5) ∧ W.cell? ⟨w.heap.size, 28, none⟩ = some (.int .i64 0) ∧ W.cell? ⟨w.heap.size, 29, none⟩ = some (.int .i64 0) ∧ W.cell? ⟨w.heap.size + 1, 9, none⟩ = some (.int .i64 0) ∧ St w W) (first | exact keep4 ⟨c0, c1, c2, c3, HS.out⟩ (Below.drew (Below.refl _ _)) | exact keep4 (by assumption) h1) (first | (go_at_call 39; refine (as9 _).mono ?_; rintro e y ⟨rfl, h1⟩))
      rename_i hH
      have HS2 := Lib.hid hH.2.2.2.2
      clear hH c0 c1 c2 c3 HS
      go_wp2_with fail
      go_roundw
      case rel => exact ⟨10, by omega, rfl, HS2.out⟩
      case measure => simp [intOf]
    · have c0 : wr.cell? ⟨w.heap.size, 30, none⟩ = some (.int .i64 6) := (HS.out.1.1 30 (by decide)).trans rfl
      have c1 : wr.cell? ⟨w.heap.size, 31, none⟩ = some (.int .i64 3) := (HS.out.1.1 31 (by decide)).trans rfl
      have c2 : wr.cell? ⟨w.heap.size, 32, none⟩ = some (.int .i64 3) := (HS.out.1.1 32 (by decide)).trans rfl
      have c3 : wr.cell? ⟨w.heap.size + 1, 10, none⟩ = some (.int .i64 1) := (HS.out.2.1.1 10 (by decide)).trans rfl
      go_wp2_with fail
      go_region_held3 (fun W => W.cell? ⟨w.heap.size, 30, none⟩ = some (.int .i64 6) ∧ W.cell? ⟨w.heap.size, 31, none⟩ = some (.int .i64 3) ∧ W.cell? ⟨w.heap.size, 32, none⟩ = some (.int .i64 3) ∧ W.cell? ⟨w.heap.size + 1, 10, none⟩ = some (.int .i64 1) ∧ St w W) (first | exact keep4 ⟨c0, c1, c2, c3, HS.out⟩ (Below.drew (Below.refl _ _)) | exact keep4 (by assumption) h1) (first | (go_at_call 39; refine (as10 _).mono ?_; rintro e y ⟨rfl, h1⟩))
      rename_i hH
      have HS2 := Lib.hid hH.2.2.2.2
      clear hH c0 c1 c2 c3 HS
      go_wp2_with fail
      go_roundw
      case rel => exact ⟨11, by omega, rfl, HS2.out⟩
      case measure => simp [intOf]
    · have c0 : wr.cell? ⟨w.heap.size, 33, none⟩ = some (.int .i64 7) := (HS.out.1.1 33 (by decide)).trans rfl
      have c1 : wr.cell? ⟨w.heap.size, 34, none⟩ = some (.int .i64 (-5)) := (HS.out.1.1 34 (by decide)).trans rfl
      have c2 : wr.cell? ⟨w.heap.size, 35, none⟩ = some (.int .i64 2) := (HS.out.1.1 35 (by decide)).trans rfl
      have c3 : wr.cell? ⟨w.heap.size + 1, 11, none⟩ = some (.int .i64 (-5)) := (HS.out.2.1.1 11 (by decide)).trans rfl
      go_wp2_with fail
      go_region_held3 (fun W => W.cell? ⟨w.heap.size, 33, none⟩ = some (.int .i64 7) ∧ W.cell? ⟨w.heap.size, 34, none⟩ = some (.int .i64 (-5)) ∧ W.cell? ⟨w.heap.size, 35, none⟩ = some (.int .i64 2) ∧ W.cell? ⟨w.heap.size + 1, 11, none⟩ = some (.int .i64 (-5)) ∧ St w W) (first | exact keep4 ⟨c0, c1, c2, c3, HS.out⟩ (Below.drew (Below.refl _ _)) | exact keep4 (by assumption) h1) (first | (go_at_call 39; refine (as11 _).mono ?_; rintro e y ⟨rfl, h1⟩))
      rename_i hH
      have HS2 := Lib.hid hH.2.2.2.2
      clear hH c0 c1 c2 c3 HS
      go_wp2_with fail
      go_roundw
      case rel => exact ⟨12, by omega, rfl, HS2.out⟩
      case measure => simp [intOf]
    · have c0 : wr.cell? ⟨w.heap.size, 36, none⟩ = some (.int .i64 8) := (HS.out.1.1 36 (by decide)).trans rfl
      have c1 : wr.cell? ⟨w.heap.size, 37, none⟩ = some (.int .i64 (-5)) := (HS.out.1.1 37 (by decide)).trans rfl
      have c2 : wr.cell? ⟨w.heap.size, 38, none⟩ = some (.int .i64 2) := (HS.out.1.1 38 (by decide)).trans rfl
      have c3 : wr.cell? ⟨w.heap.size + 1, 12, none⟩ = some (.int .i64 2) := (HS.out.2.1.1 12 (by decide)).trans rfl
      go_wp2_with fail
      go_region_held3 (fun W => W.cell? ⟨w.heap.size, 36, none⟩ = some (.int .i64 8) ∧ W.cell? ⟨w.heap.size, 37, none⟩ = some (.int .i64 (-5)) ∧ W.cell? ⟨w.heap.size, 38, none⟩ = some (.int .i64 2) ∧ W.cell? ⟨w.heap.size + 1, 12, none⟩ = some (.int .i64 2) ∧ St w W) (first | exact keep4 ⟨c0, c1, c2, c3, HS.out⟩ (Below.drew (Below.refl _ _)) | exact keep4 (by assumption) h1) (first | (go_at_call 39; refine (as12 _).mono ?_; rintro e y ⟨rfl, h1⟩))
      rename_i hH
      have HS2 := Lib.hid hH.2.2.2.2
      clear hH c0 c1 c2 c3 HS
      go_wp2_with fail
      go_roundw
      case rel => exact ⟨13, by omega, rfl, HS2.out⟩
      case measure => simp [intOf]
    · have c0 : wr.cell? ⟨w.heap.size, 39, none⟩ = some (.int .i64 9) := (HS.out.1.1 39 (by decide)).trans rfl
      have c1 : wr.cell? ⟨w.heap.size, 40, none⟩ = some (.int .i64 (-2)) := (HS.out.1.1 40 (by decide)).trans rfl
      have c2 : wr.cell? ⟨w.heap.size, 41, none⟩ = some (.int .i64 7) := (HS.out.1.1 41 (by decide)).trans rfl
      have c3 : wr.cell? ⟨w.heap.size + 1, 13, none⟩ = some (.int .i64 6) := (HS.out.2.1.1 13 (by decide)).trans rfl
      go_wp2_with fail
      go_region_held3 (fun W => W.cell? ⟨w.heap.size, 39, none⟩ = some (.int .i64 9) ∧ W.cell? ⟨w.heap.size, 40, none⟩ = some (.int .i64 (-2)) ∧ W.cell? ⟨w.heap.size, 41, none⟩ = some (.int .i64 7) ∧ W.cell? ⟨w.heap.size + 1, 13, none⟩ = some (.int .i64 6) ∧ St w W) (first | exact keep4 ⟨c0, c1, c2, c3, HS.out⟩ (Below.drew (Below.refl _ _)) | exact keep4 (by assumption) h1) (first | (go_at_call 39; refine (as13 _).mono ?_; rintro e y ⟨rfl, h1⟩))
      rename_i hH
      have HS2 := Lib.hid hH.2.2.2.2
      clear hH c0 c1 c2 c3 HS
      go_wp2_with fail
      go_roundw
      case rel => exact ⟨14, by omega, rfl, HS2.out⟩
      case measure => simp [intOf]
    · have c0 : wr.cell? ⟨w.heap.size, 42, none⟩ = some (.int .i64 10) := (HS.out.1.1 42 (by decide)).trans rfl
      have c1 : wr.cell? ⟨w.heap.size, 43, none⟩ = some (.int .i64 (-2)) := (HS.out.1.1 43 (by decide)).trans rfl
      have c2 : wr.cell? ⟨w.heap.size, 44, none⟩ = some (.int .i64 1) := (HS.out.1.1 44 (by decide)).trans rfl
      have c3 : wr.cell? ⟨w.heap.size + 1, 14, none⟩ = some (.int .i64 (-1)) := (HS.out.2.1.1 14 (by decide)).trans rfl
      go_wp2_with fail
      go_region_held3 (fun W => W.cell? ⟨w.heap.size, 42, none⟩ = some (.int .i64 10) ∧ W.cell? ⟨w.heap.size, 43, none⟩ = some (.int .i64 (-2)) ∧ W.cell? ⟨w.heap.size, 44, none⟩ = some (.int .i64 1) ∧ W.cell? ⟨w.heap.size + 1, 14, none⟩ = some (.int .i64 (-1)) ∧ St w W) (first | exact keep4 ⟨c0, c1, c2, c3, HS.out⟩ (Below.drew (Below.refl _ _)) | exact keep4 (by assumption) h1) (first | (go_at_call 39; refine (as14 _).mono ?_; rintro e y ⟨rfl, h1⟩))
      rename_i hH
      have HS2 := Lib.hid hH.2.2.2.2
      clear hH c0 c1 c2 c3 HS
      go_wp2_with fail
      go_roundw
      case rel => exact ⟨15, by omega, rfl, HS2.out⟩
      case measure => simp [intOf]
    · have c0 : wr.cell? ⟨w.heap.size, 45, none⟩ = some (.int .i64 11) := (HS.out.1.1 45 (by decide)).trans rfl
      have c1 : wr.cell? ⟨w.heap.size, 46, none⟩ = some (.int .i64 (-1)) := (HS.out.1.1 46 (by decide)).trans rfl
      have c2 : wr.cell? ⟨w.heap.size, 47, none⟩ = some (.int .i64 5) := (HS.out.1.1 47 (by decide)).trans rfl
      have c3 : wr.cell? ⟨w.heap.size + 1, 15, none⟩ = some (.int .i64 (-6)) := (HS.out.2.1.1 15 (by decide)).trans rfl
      go_wp2_with fail
      go_region_held3 (fun W => W.cell? ⟨w.heap.size, 45, none⟩ = some (.int .i64 11) ∧ W.cell? ⟨w.heap.size, 46, none⟩ = some (.int .i64 (-1)) ∧ W.cell? ⟨w.heap.size, 47, none⟩ = some (.int .i64 5) ∧ W.cell? ⟨w.heap.size + 1, 15, none⟩ = some (.int .i64 (-6)) ∧ St w W) (first | exact keep4 ⟨c0, c1, c2, c3, HS.out⟩ (Below.drew (Below.refl _ _)) | exact keep4 (by assumption) h1) (first | (go_at_call 39; refine (as15 _).mono ?_; rintro e y ⟨rfl, h1⟩))
      rename_i hH
      have HS2 := Lib.hid hH.2.2.2.2
      clear hH c0 c1 c2 c3 HS
      go_wp2_with fail
      go_roundw
      case rel => exact ⟨16, by omega, rfl, HS2.out⟩
      case measure => simp [intOf]
    · have c0 : wr.cell? ⟨w.heap.size, 48, none⟩ = some (.int .i64 3) := (HS.out.1.1 48 (by decide)).trans rfl
      have c1 : wr.cell? ⟨w.heap.size, 49, none⟩ = some (.int .i64 6) := (HS.out.1.1 49 (by decide)).trans rfl
      have c2 : wr.cell? ⟨w.heap.size, 50, none⟩ = some (.int .i64 (-3)) := (HS.out.1.1 50 (by decide)).trans rfl
      have c3 : wr.cell? ⟨w.heap.size + 1, 16, none⟩ = some (.int .i64 (-2)) := (HS.out.2.1.1 16 (by decide)).trans rfl
      go_wp2_with fail
      go_region_held3 (fun W => W.cell? ⟨w.heap.size, 48, none⟩ = some (.int .i64 3) ∧ W.cell? ⟨w.heap.size, 49, none⟩ = some (.int .i64 6) ∧ W.cell? ⟨w.heap.size, 50, none⟩ = some (.int .i64 (-3)) ∧ W.cell? ⟨w.heap.size + 1, 16, none⟩ = some (.int .i64 (-2)) ∧ St w W) (first | exact keep4 ⟨c0, c1, c2, c3, HS.out⟩ (Below.drew (Below.refl _ _)) | exact keep4 (by assumption) h1) (first | (go_at_call 39; refine (as16 _).mono ?_; rintro e y ⟨rfl, h1⟩))
      rename_i hH
      have HS2 := Lib.hid hH.2.2.2.2
      clear hH c0 c1 c2 c3 HS
      go_wp2_with fail
      go_roundw
      case rel => exact ⟨17, by omega, rfl, HS2.out⟩
      case measure => simp [intOf]
    · have c0 : wr.cell? ⟨w.heap.size, 51, none⟩ = some (.int .i64 4) := (HS.out.1.1 51 (by decide)).trans rfl
      have c1 : wr.cell? ⟨w.heap.size, 52, none⟩ = some (.int .i64 (-6)) := (HS.out.1.1 52 (by decide)).trans rfl
      have c2 : wr.cell? ⟨w.heap.size, 53, none⟩ = some (.int .i64 (-4)) := (HS.out.1.1 53 (by decide)).trans rfl
      have c3 : wr.cell? ⟨w.heap.size + 1, 17, none⟩ = some (.int .i64 (-2)) := (HS.out.2.1.1 17 (by decide)).trans rfl
      go_wp2_with fail
      go_region_held3 (fun W => W.cell? ⟨w.heap.size, 51, none⟩ = some (.int .i64 4) ∧ W.cell? ⟨w.heap.size, 52, none⟩ = some (.int .i64 (-6)) ∧ W.cell? ⟨w.heap.size, 53, none⟩ = some (.int .i64 (-4)) ∧ W.cell? ⟨w.heap.size + 1, 17, none⟩ = some (.int .i64 (-2)) ∧ St w W) (first | exact keep4 ⟨c0, c1, c2, c3, HS.out⟩ (Below.drew (Below.refl _ _)) | exact keep4 (by assumption) h1) (first | (go_at_call 39; refine (as17 _).mono ?_; rintro e y ⟨rfl, h1⟩))
      rename_i hH
      have HS2 := Lib.hid hH.2.2.2.2
      clear hH c0 c1 c2 c3 HS
      go_wp2_with fail
      go_roundw
      case rel => exact ⟨18, by omega, rfl, HS2.out⟩
      case measure => simp [intOf]
    · have c0 : wr.cell? ⟨w.heap.size, 54, none⟩ = some (.int .i64 2) := (HS.out.1.1 54 (by decide)).trans rfl
      have c1 : wr.cell? ⟨w.heap.size, 55, none⟩ = some (.int .i64 (-2147483648)) := (HS.out.1.1 55 (by decide)).trans rfl
      have c2 : wr.cell? ⟨w.heap.size, 56, none⟩ = some (.int .i64 (-1)) := (HS.out.1.1 56 (by decide)).trans rfl
      have c3 : wr.cell? ⟨w.heap.size + 1, 18, none⟩ = some (.int .i64 (-2147483648)) := (HS.out.2.1.1 18 (by decide)).trans rfl
      go_wp2_with fail
      go_region_held3 (fun W => W.cell? ⟨w.heap.size, 54, none⟩ = some (.int .i64 2) ∧ W.cell? ⟨w.heap.size, 55, none⟩ = some (.int .i64 (-2147483648)) ∧ W.cell? ⟨w.heap.size, 56, none⟩ = some (.int .i64 (-1)) ∧ W.cell? ⟨w.heap.size + 1, 18, none⟩ = some (.int .i64 (-2147483648)) ∧ St w W) (first | exact keep4 ⟨c0, c1, c2, c3, HS.out⟩ (Below.drew (Below.refl _ _)) | exact keep4 (by assumption) h1) (first | (go_at_call 39; refine (as18 _).mono ?_; rintro e y ⟨rfl, h1⟩))
      rename_i hH
      have HS2 := Lib.hid hH.2.2.2.2
      clear hH c0 c1 c2 c3 HS
      go_wp2_with fail
      go_roundw
      case rel => exact ⟨19, by omega, rfl, HS2.out⟩
      case measure => simp [intOf]
    · have HB := Lib.hid HS.out.2.2
      clear HS
      go_wp2_with fail
      refine (ca0 _).mono ?_
      rintro e y ⟨rfl, hb⟩
      replace HB := Lib.hid (below_step HB.out hb)
      go_wp2_with fail
      refine (ca1 _).mono ?_
      rintro e y ⟨rfl, hb⟩
      replace HB := Lib.hid (below_step HB.out hb)
      go_wp2_with fail
      refine (ca2 _).mono ?_
      rintro e y ⟨rfl, hb⟩
      replace HB := Lib.hid (below_step HB.out hb)
      go_wp2_with fail
      refine (ca3 _).mono ?_
      rintro e y ⟨rfl, hb⟩
      replace HB := Lib.hid (below_step HB.out hb)
      go_wp2_with fail
      refine (cb0 _ (HI.out.below HB.out)).mono ?_
      rintro e y ⟨rfl, hb⟩
      replace HB := Lib.hid (below_step HB.out hb)
      go_wp2_with fail
      refine (cb1 _ (HI.out.below HB.out)).mono ?_
      rintro e y ⟨rfl, hb⟩
      replace HB := Lib.hid (below_step HB.out hb)
      go_wp2_with fail
      refine (cb2 _ (HI.out.below HB.out)).mono ?_
      rintro e y ⟨rfl, hb⟩
      replace HB := Lib.hid (below_step HB.out hb)
      go_wp2_with fail
      refine (cb3 _ (HI.out.below HB.out)).mono ?_
      rintro e y ⟨rfl, hb⟩
      replace HB := Lib.hid (below_step HB.out hb)
      go_wp2_with fail
      refine (cc0 _).mono ?_
      rintro e y ⟨rfl, rfl⟩
      go_wp2_with fail
      refine (cc1 _).mono ?_
      rintro e y ⟨rfl, rfl⟩
      go_wp2_with fail
      refine (cc2 _).mono ?_
      rintro e y ⟨rfl, rfl⟩
      go_wp2_with fail
      refine (cc3 _).mono ?_
      rintro e y ⟨rfl, rfl⟩
      go_wp2_with fail
      refine (cc4 _ (HI.out.below HB.out)).mono ?_
      rintro e y ⟨rfl, hb⟩
      replace HB := Lib.hid (below_step HB.out hb)
      go_wp2_with fail
      refine (cc5 _ (HI.out.below HB.out)).mono ?_
      rintro e y ⟨rfl, rfl⟩
      go_wp2_with fail
      refine (cc6 _).mono ?_
      rintro e y ⟨rfl, hb⟩
      replace HB := Lib.hid (below_step HB.out hb)
      go_wp2_with fail
      refine (cc7 _ (HI.out.below HB.out)).mono ?_
      rintro e y ⟨rfl, hb⟩
      replace HB := Lib.hid (below_step HB.out hb)
      go_wp2_with fail
      try simp only [show ((14 : Nat) : Int) = 14 from rfl, show ((19 : Nat) : Int) = 19 from rfl]
      go_loopw [37] (fun i wr => ∃ k : Nat, k ≤ 14 ∧ i = .int .i64 k ∧ Block wr y.heap.size wrongA ∧ Below w.heap.size w wr) (fun i _ => 14 + 1 - (intOf i).toNat)
      case atStart => exact ⟨0, by omega, rfl, Block.new y wrongA 9, below_new HB.out _⟩
      case round =>
        clear HB
        obtain ⟨k, hk, rfl, hT, hB⟩ := hrel
        have HT := Lib.hid hT; have HB := Lib.hid hB
        clear hT hB
        have hk' : k = 0 ∨ k = 1 ∨ k = 2 ∨ k = 3 ∨ k = 4 ∨ k = 5 ∨ k = 6 ∨ k = 7 ∨ k = 8 ∨ k = 9 ∨ k = 10 ∨ k = 11 ∨ k = 12 ∨ k = 13 ∨ k = 14 := by omega
        rcases hk' with rfl | rfl | rfl | rfl | rfl | rfl | rfl | rfl | rfl | rfl | rfl | rfl | rfl | rfl | rfl
        · have c0 : _ = some (.string ⟨#[]⟩ : Value) := (HT.out.1 0 (by decide)).trans rfl
          go_wp2_with fail
          refine (wr0 _).mono ?_
          rintro e z ⟨rfl, h1⟩
          have HT2 := Lib.hid (HT.out.below h1); have HB2 := Lib.hid (below_step HB.out h1); clear h1 HT HB c0
          go_wp2_with fail
          go_roundw
          case rel => exact ⟨1, by omega, rfl, HT2.out, HB2.out⟩
          case measure => simp [intOf]
        · have c0 : _ = some (.string ⟨#[45]⟩ : Value) := (HT.out.1 1 (by decide)).trans rfl
          go_wp2_with fail
          refine (wr1 _).mono ?_
          rintro e z ⟨rfl, h1⟩
          have HT2 := Lib.hid (HT.out.below h1); have HB2 := Lib.hid (below_step HB.out h1); clear h1 HT HB c0
          go_wp2_with fail
          go_roundw
          case rel => exact ⟨2, by omega, rfl, HT2.out, HB2.out⟩
          case measure => simp [intOf]
        · have c0 : _ = some (.string ⟨#[45, 48]⟩ : Value) := (HT.out.1 2 (by decide)).trans rfl
          go_wp2_with fail
          refine (wr2 _).mono ?_
          rintro e z ⟨rfl, h1⟩
          have HT2 := Lib.hid (HT.out.below h1); have HB2 := Lib.hid (below_step HB.out h1); clear h1 HT HB c0
          go_wp2_with fail
          go_roundw
          case rel => exact ⟨3, by omega, rfl, HT2.out, HB2.out⟩
          case measure => simp [intOf]
        · have c0 : _ = some (.string ⟨#[48, 48, 55]⟩ : Value) := (HT.out.1 3 (by decide)).trans rfl
          go_wp2_with fail
          refine (wr3 _).mono ?_
          rintro e z ⟨rfl, h1⟩
          have HT2 := Lib.hid (HT.out.below h1); have HB2 := Lib.hid (below_step HB.out h1); clear h1 HT HB c0
          go_wp2_with fail
          go_roundw
          case rel => exact ⟨4, by omega, rfl, HT2.out, HB2.out⟩
          case measure => simp [intOf]
        · have c0 : _ = some (.string ⟨#[43, 49]⟩ : Value) := (HT.out.1 4 (by decide)).trans rfl
          go_wp2_with fail
          refine (wr4 _).mono ?_
          rintro e z ⟨rfl, h1⟩
          have HT2 := Lib.hid (HT.out.below h1); have HB2 := Lib.hid (below_step HB.out h1); clear h1 HT HB c0
          go_wp2_with fail
          go_roundw
          case rel => exact ⟨5, by omega, rfl, HT2.out, HB2.out⟩
          case measure => simp [intOf]
        · have c0 : _ = some (.string ⟨#[50, 49, 52, 55, 52, 56, 51, 54, 52, 56]⟩ : Value) := (HT.out.1 5 (by decide)).trans rfl
          go_wp2_with fail
          refine (wr5 _).mono ?_
          rintro e z ⟨rfl, h1⟩
          have HT2 := Lib.hid (HT.out.below h1); have HB2 := Lib.hid (below_step HB.out h1); clear h1 HT HB c0
          go_wp2_with fail
          go_roundw
          case rel => exact ⟨6, by omega, rfl, HT2.out, HB2.out⟩
          case measure => simp [intOf]
        · have c0 : _ = some (.string ⟨#[45, 50, 49, 52, 55, 52, 56, 51, 54, 52, 57]⟩ : Value) := (HT.out.1 6 (by decide)).trans rfl
          go_wp2_with fail
          refine (wr6 _).mono ?_
          rintro e z ⟨rfl, h1⟩
          have HT2 := Lib.hid (HT.out.below h1); have HB2 := Lib.hid (below_step HB.out h1); clear h1 HT HB c0
          go_wp2_with fail
          go_roundw
          case rel => exact ⟨7, by omega, rfl, HT2.out, HB2.out⟩
          case measure => simp [intOf]
        · have c0 : _ = some (.string ⟨#[32, 49]⟩ : Value) := (HT.out.1 7 (by decide)).trans rfl
          go_wp2_with fail
          refine (wr7 _).mono ?_
          rintro e z ⟨rfl, h1⟩
          have HT2 := Lib.hid (HT.out.below h1); have HB2 := Lib.hid (below_step HB.out h1); clear h1 HT HB c0
          go_wp2_with fail
          go_roundw
          case rel => exact ⟨8, by omega, rfl, HT2.out, HB2.out⟩
          case measure => simp [intOf]
        · have c0 : _ = some (.string ⟨#[49, 32]⟩ : Value) := (HT.out.1 8 (by decide)).trans rfl
          go_wp2_with fail
          refine (wr8 _).mono ?_
          rintro e z ⟨rfl, h1⟩
          have HT2 := Lib.hid (HT.out.below h1); have HB2 := Lib.hid (below_step HB.out h1); clear h1 HT HB c0
          go_wp2_with fail
          go_roundw
          case rel => exact ⟨9, by omega, rfl, HT2.out, HB2.out⟩
          case measure => simp [intOf]
        · have c0 : _ = some (.string ⟨#[49, 101, 51]⟩ : Value) := (HT.out.1 9 (by decide)).trans rfl
          go_wp2_with fail
          refine (wr9 _).mono ?_
          rintro e z ⟨rfl, h1⟩
          have HT2 := Lib.hid (HT.out.below h1); have HB2 := Lib.hid (below_step HB.out h1); clear h1 HT HB c0
          go_wp2_with fail
          go_roundw
          case rel => exact ⟨10, by omega, rfl, HT2.out, HB2.out⟩
          case measure => simp [intOf]
        · have c0 : _ = some (.string ⟨#[45, 45, 49]⟩ : Value) := (HT.out.1 10 (by decide)).trans rfl
          go_wp2_with fail
          refine (wr10 _).mono ?_
          rintro e z ⟨rfl, h1⟩
          have HT2 := Lib.hid (HT.out.below h1); have HB2 := Lib.hid (below_step HB.out h1); clear h1 HT HB c0
          go_wp2_with fail
          go_roundw
          case rel => exact ⟨11, by omega, rfl, HT2.out, HB2.out⟩
          case measure => simp [intOf]
        · have c0 : _ = some (.string ⟨#[57, 57, 57, 57, 57, 57, 57, 57, 57, 57, 57, 57, 57, 57, 57, 57, 57, 57, 57, 57]⟩ : Value) := (HT.out.1 11 (by decide)).trans rfl
          go_wp2_with fail
          refine (wr11 _).mono ?_
          rintro e z ⟨rfl, h1⟩
          have HT2 := Lib.hid (HT.out.below h1); have HB2 := Lib.hid (below_step HB.out h1); clear h1 HT HB c0
          go_wp2_with fail
          go_roundw
          case rel => exact ⟨12, by omega, rfl, HT2.out, HB2.out⟩
          case measure => simp [intOf]
        · have c0 : _ = some (.string ⟨#[48, 120, 49]⟩ : Value) := (HT.out.1 12 (by decide)).trans rfl
          go_wp2_with fail
          refine (wr12 _).mono ?_
          rintro e z ⟨rfl, h1⟩
          have HT2 := Lib.hid (HT.out.below h1); have HB2 := Lib.hid (below_step HB.out h1); clear h1 HT HB c0
          go_wp2_with fail
          go_roundw
          case rel => exact ⟨13, by omega, rfl, HT2.out, HB2.out⟩
          case measure => simp [intOf]
        · have c0 : _ = some (.string ⟨#[217, 163]⟩ : Value) := (HT.out.1 13 (by decide)).trans rfl
          go_wp2_with fail
          refine (wr13 _).mono ?_
          rintro e z ⟨rfl, h1⟩
          have HT2 := Lib.hid (HT.out.below h1); have HB2 := Lib.hid (below_step HB.out h1); clear h1 HT HB c0
          go_wp2_with fail
          go_roundw
          case rel => exact ⟨14, by omega, rfl, HT2.out, HB2.out⟩
          case measure => simp [intOf]
        · clear HT
          try simp only [show ((14 : Nat) : Int) = 14 from rfl]
          go_wp2_with fail
          try simp only [show ((14 : Nat) : Int) = 14 from rfl, show ((19 : Nat) : Int) = 19 from rfl]
          go_loopw [41] (fun i wq => ∃ k : Nat, k ≤ 12 ∧ i = .int .i64 k ∧ Block wq wr.heap.size namesA ∧ Below w.heap.size w wq) (fun i _ => 12 + 1 - (intOf i).toNat)
          case atStart => exact ⟨0, by omega, rfl, Block.new wr namesA 9, below_new HB.out _⟩
          case round =>
            clear HB
            obtain ⟨k, hk, rfl, hT, hB⟩ := hrel
            have HT := Lib.hid hT; have HB := Lib.hid hB
            clear hT hB
            have hk' : k = 0 ∨ k = 1 ∨ k = 2 ∨ k = 3 ∨ k = 4 ∨ k = 5 ∨ k = 6 ∨ k = 7 ∨ k = 8 ∨ k = 9 ∨ k = 10 ∨ k = 11 ∨ k = 12 := by omega
            rcases hk' with rfl | rfl | rfl | rfl | rfl | rfl | rfl | rfl | rfl | rfl | rfl | rfl | rfl
            · have c0 : _ = some (.string ⟨#[43]⟩ : Value) := (HT.out.1 0 (by decide)).trans rfl
              go_wp2_with fail
              refine (na0 _ (HI.out.below HB.out)).mono ?_
              rintro e z ⟨rfl, rfl⟩
              go_wp2_with fail
              refine (no0 _).mono ?_
              rintro e z ⟨rfl, h1⟩
              have HT2 := Lib.hid (HT.out.below h1); have HB2 := Lib.hid (below_step HB.out h1); clear h1 HT HB c0
              have c1 : _ = some (.string ⟨#[43]⟩ : Value) := (HT2.out.1 0 (by decide)).trans rfl
              go_wp2_with fail
              go_roundw
              case rel => exact ⟨1, by omega, rfl, HT2.out, HB2.out⟩
              case measure => simp [intOf]
            · have c0 : _ = some (.string ⟨#[45]⟩ : Value) := (HT.out.1 1 (by decide)).trans rfl
              go_wp2_with fail
              refine (na1 _ (HI.out.below HB.out)).mono ?_
              rintro e z ⟨rfl, rfl⟩
              go_wp2_with fail
              refine (no1 _).mono ?_
              rintro e z ⟨rfl, h1⟩
              have HT2 := Lib.hid (HT.out.below h1); have HB2 := Lib.hid (below_step HB.out h1); clear h1 HT HB c0
              have c1 : _ = some (.string ⟨#[45]⟩ : Value) := (HT2.out.1 1 (by decide)).trans rfl
              go_wp2_with fail
              go_roundw
              case rel => exact ⟨2, by omega, rfl, HT2.out, HB2.out⟩
              case measure => simp [intOf]
            · have c0 : _ = some (.string ⟨#[42]⟩ : Value) := (HT.out.1 2 (by decide)).trans rfl
              go_wp2_with fail
              refine (na2 _ (HI.out.below HB.out)).mono ?_
              rintro e z ⟨rfl, rfl⟩
              go_wp2_with fail
              refine (no2 _).mono ?_
              rintro e z ⟨rfl, h1⟩
              have HT2 := Lib.hid (HT.out.below h1); have HB2 := Lib.hid (below_step HB.out h1); clear h1 HT HB c0
              have c1 : _ = some (.string ⟨#[42]⟩ : Value) := (HT2.out.1 2 (by decide)).trans rfl
              go_wp2_with fail
              go_roundw
              case rel => exact ⟨3, by omega, rfl, HT2.out, HB2.out⟩
              case measure => simp [intOf]
            · have c0 : _ = some (.string ⟨#[47]⟩ : Value) := (HT.out.1 3 (by decide)).trans rfl
              go_wp2_with fail
              refine (na3 _ (HI.out.below HB.out)).mono ?_
              rintro e z ⟨rfl, rfl⟩
              go_wp2_with fail
              refine (no3 _).mono ?_
              rintro e z ⟨rfl, h1⟩
              have HT2 := Lib.hid (HT.out.below h1); have HB2 := Lib.hid (below_step HB.out h1); clear h1 HT HB c0
              have c1 : _ = some (.string ⟨#[47]⟩ : Value) := (HT2.out.1 3 (by decide)).trans rfl
              go_wp2_with fail
              go_roundw
              case rel => exact ⟨4, by omega, rfl, HT2.out, HB2.out⟩
              case measure => simp [intOf]
            · have c0 : _ = some (.string ⟨#[37]⟩ : Value) := (HT.out.1 4 (by decide)).trans rfl
              go_wp2_with fail
              refine (na4 _ (HI.out.below HB.out)).mono ?_
              rintro e z ⟨rfl, rfl⟩
              go_wp2_with fail
              refine (no4 _).mono ?_
              rintro e z ⟨rfl, h1⟩
              have HT2 := Lib.hid (HT.out.below h1); have HB2 := Lib.hid (below_step HB.out h1); clear h1 HT HB c0
              have c1 : _ = some (.string ⟨#[37]⟩ : Value) := (HT2.out.1 4 (by decide)).trans rfl
              go_wp2_with fail
              go_roundw
              case rel => exact ⟨5, by omega, rfl, HT2.out, HB2.out⟩
              case measure => simp [intOf]
            · have c0 : _ = some (.string ⟨#[60]⟩ : Value) := (HT.out.1 5 (by decide)).trans rfl
              go_wp2_with fail
              refine (na5 _ (HI.out.below HB.out)).mono ?_
              rintro e z ⟨rfl, rfl⟩
              go_wp2_with fail
              refine (no5 _).mono ?_
              rintro e z ⟨rfl, h1⟩
              have HT2 := Lib.hid (HT.out.below h1); have HB2 := Lib.hid (below_step HB.out h1); clear h1 HT HB c0
              have c1 : _ = some (.string ⟨#[60]⟩ : Value) := (HT2.out.1 5 (by decide)).trans rfl
              go_wp2_with fail
              go_roundw
              case rel => exact ⟨6, by omega, rfl, HT2.out, HB2.out⟩
              case measure => simp [intOf]
            · have c0 : _ = some (.string ⟨#[61]⟩ : Value) := (HT.out.1 6 (by decide)).trans rfl
              go_wp2_with fail
              refine (na6 _ (HI.out.below HB.out)).mono ?_
              rintro e z ⟨rfl, rfl⟩
              go_wp2_with fail
              refine (no6 _).mono ?_
              rintro e z ⟨rfl, h1⟩
              have HT2 := Lib.hid (HT.out.below h1); have HB2 := Lib.hid (below_step HB.out h1); clear h1 HT HB c0
              have c1 : _ = some (.string ⟨#[61]⟩ : Value) := (HT2.out.1 6 (by decide)).trans rfl
              go_wp2_with fail
              go_roundw
              case rel => exact ⟨7, by omega, rfl, HT2.out, HB2.out⟩
              case measure => simp [intOf]
            · have c0 : _ = some (.string ⟨#[109, 105, 110]⟩ : Value) := (HT.out.1 7 (by decide)).trans rfl
              go_wp2_with fail
              refine (na7 _ (HI.out.below HB.out)).mono ?_
              rintro e z ⟨rfl, rfl⟩
              go_wp2_with fail
              refine (no7 _).mono ?_
              rintro e z ⟨rfl, h1⟩
              have HT2 := Lib.hid (HT.out.below h1); have HB2 := Lib.hid (below_step HB.out h1); clear h1 HT HB c0
              have c1 : _ = some (.string ⟨#[109, 105, 110]⟩ : Value) := (HT2.out.1 7 (by decide)).trans rfl
              go_wp2_with fail
              go_roundw
              case rel => exact ⟨8, by omega, rfl, HT2.out, HB2.out⟩
              case measure => simp [intOf]
            · have c0 : _ = some (.string ⟨#[109, 97, 120]⟩ : Value) := (HT.out.1 8 (by decide)).trans rfl
              go_wp2_with fail
              refine (na8 _ (HI.out.below HB.out)).mono ?_
              rintro e z ⟨rfl, rfl⟩
              go_wp2_with fail
              refine (no8 _).mono ?_
              rintro e z ⟨rfl, h1⟩
              have HT2 := Lib.hid (HT.out.below h1); have HB2 := Lib.hid (below_step HB.out h1); clear h1 HT HB c0
              have c1 : _ = some (.string ⟨#[109, 97, 120]⟩ : Value) := (HT2.out.1 8 (by decide)).trans rfl
              go_wp2_with fail
              go_roundw
              case rel => exact ⟨9, by omega, rfl, HT2.out, HB2.out⟩
              case measure => simp [intOf]
            · have c0 : _ = some (.string ⟨#[38]⟩ : Value) := (HT.out.1 9 (by decide)).trans rfl
              go_wp2_with fail
              refine (na9 _ (HI.out.below HB.out)).mono ?_
              rintro e z ⟨rfl, rfl⟩
              go_wp2_with fail
              refine (no9 _).mono ?_
              rintro e z ⟨rfl, h1⟩
              have HT2 := Lib.hid (HT.out.below h1); have HB2 := Lib.hid (below_step HB.out h1); clear h1 HT HB c0
              have c1 : _ = some (.string ⟨#[38]⟩ : Value) := (HT2.out.1 9 (by decide)).trans rfl
              go_wp2_with fail
              go_roundw
              case rel => exact ⟨10, by omega, rfl, HT2.out, HB2.out⟩
              case measure => simp [intOf]
            · have c0 : _ = some (.string ⟨#[124]⟩ : Value) := (HT.out.1 10 (by decide)).trans rfl
              go_wp2_with fail
              refine (na10 _ (HI.out.below HB.out)).mono ?_
              rintro e z ⟨rfl, rfl⟩
              go_wp2_with fail
              refine (no10 _).mono ?_
              rintro e z ⟨rfl, h1⟩
              have HT2 := Lib.hid (HT.out.below h1); have HB2 := Lib.hid (below_step HB.out h1); clear h1 HT HB c0
              have c1 : _ = some (.string ⟨#[124]⟩ : Value) := (HT2.out.1 10 (by decide)).trans rfl
              go_wp2_with fail
              go_roundw
              case rel => exact ⟨11, by omega, rfl, HT2.out, HB2.out⟩
              case measure => simp [intOf]
            · have c0 : _ = some (.string ⟨#[94]⟩ : Value) := (HT.out.1 11 (by decide)).trans rfl
              go_wp2_with fail
              refine (na11 _ (HI.out.below HB.out)).mono ?_
              rintro e z ⟨rfl, rfl⟩
              go_wp2_with fail
              refine (no11 _).mono ?_
              rintro e z ⟨rfl, h1⟩
              have HT2 := Lib.hid (HT.out.below h1); have HB2 := Lib.hid (below_step HB.out h1); clear h1 HT HB c0
              have c1 : _ = some (.string ⟨#[94]⟩ : Value) := (HT2.out.1 11 (by decide)).trans rfl
              go_wp2_with fail
              go_roundw
              case rel => exact ⟨12, by omega, rfl, HT2.out, HB2.out⟩
              case measure => simp [intOf]
            · clear HT
              try simp only [show ((12 : Nat) : Int) = 12 from rfl]
              go_wp2_with fail
              refine (cd0 _ (HI.out.below HB.out)).mono ?_
              rintro e y ⟨rfl, hb⟩
              replace HB := Lib.hid (below_step HB.out hb)
              go_wp2_with fail
              refine (cd1 _ (HI.out.below HB.out)).mono ?_
              rintro e y ⟨rfl, hb⟩
              replace HB := Lib.hid (below_step HB.out hb)
              go_wp2_with fail
              refine (cd2 _ (HI.out.below HB.out)).mono ?_
              rintro e y ⟨rfl, hb⟩
              replace HB := Lib.hid (below_step HB.out hb)
              go_wp2_with fail
              refine (cd3 _ (HI.out.below HB.out)).mono ?_
              rintro e y ⟨rfl, hb⟩
              replace HB := Lib.hid (below_step HB.out hb)
              go_wp2_with fail
              refine (works_any _ (HI.out.below HB.out)).mono ?_
              rintro e y ⟨rfl, hb⟩
              replace HB := Lib.hid (below_step HB.out hb)
              go_wp2_with fail
              go_ret
              exact ⟨rfl, HB.out⟩
end Go.Proofs.YthbgingclpponaaDoor.wordKnown
