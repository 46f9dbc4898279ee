/- Walks of scan: slices.Grow of nil. -/
import Derived.Test.YtecpanppnljkhaaGreatDoorEj
import Derived.Lib.AppendZeros
import Derived.Laws.AppendOwnNone
namespace Go.Proofs.YtecpanppnljkhaaGreatDoor
set_option linter.unusedVariables false
set_option maxRecDepth 100000
open Go.RowKit Go.Shelf
/-- A row with room, of which nothing is owned yet. -/
theorem OwnI.room {w : World} {base g c : Nat} {cs : Array Value} (hb : base ≤ g) (hg : w.heap[g]? = some (.cells cs 3 (0, 0))) (hs : cs.size = c) (hm : c ≤ maxLen) : OwnI w base (.slice (some ⟨g, 0, none⟩) 0 c) [] :=
  ⟨by simp, .inr ⟨g, c, cs, rfl, hb, hg, by simp, hm, by omega, by simp⟩⟩
set_option maxHeartbeats 4000000 in
theorem growNil_any (n : Nat) (w : World) (hn : n ≤ 16777216) :
    Calls Tryz.prog 101 #[.slice none 0 0, .int .i64 (n : Int)] w fun e w' => ∃ A c, e = .returned (.slice A 0 c) ∧ OwnI w' w.heap.size (.slice A 0 c) [] ∧ Below w.heap.size w w' := by
  obtain ⟨i0, hi, hz0, hz1, hz2⟩ := info_parts int_info
  have h1 : (0 : Int) ≤ (n : Int) := by omega
  have hd : decide ((n : Int) < 0) = false := by simp
  by_cases h0 : n = 0
  · subst h0
    go_enter Tryz.func101, Tryz.ntmps101
    go_wp2
    go_ret
    exact ⟨none, 0, rfl, OwnI.nil _ _, Below.refl _ _⟩
  · have hn0 : 0 < n := by omega
    have hd2 : decide ((0 : Int) < (n : Int)) = true := by simp; omega
    have hr := Lib.run_append_nil_zeros (P := Tryz.prog) w 22 3 22 3 i0 (.int .i64 0) .i64 .i64 Tryz.underlying22 Tryz.underlying3 hi hz0 n hn0 (by rw [hz1]; omega) (by omega) (by rw [hz2]; omega)
    have hge := grownCap_ge w n 0 3
    have hle := grownCap_le_maxLen w n 0 3 (by unfold maxLen; omega)
    obtain ⟨c, hc⟩ : ∃ c, grownCap w n 0 3 = c := ⟨_, rfl⟩
    rw [hc] at hr hge hle
    obtain ⟨cs, hcs⟩ : ∃ cs, Builtin.zeroCells (Value.int .i64 0).cells n ++ Builtin.zeroCells (Value.int .i64 0).cells (c - n) = cs := ⟨_, rfl⟩
    rw [hcs] at hr
    have hsz : cs.size = c := by rw [← hcs, Array.size_append, size_zeroCells, size_zeroCells, show (Value.int .i64 0).cells.size = 1 from rfl]; omega
    have hr := Lib.hid hr
    have hO : OwnI (w.drew.alloc (.cells cs 3)) w.heap.size (.slice (some ⟨w.heap.size, 0, none⟩) 0 c) [] := OwnI.room (Nat.le_refl _) (heap_alloc_new w.drew _) hsz hle
    have hB : Below w.heap.size w (w.drew.alloc (.cells cs 3)) := (below_drewN' w 1).alloc (Nat.le_refl _) _
    obtain ⟨w2, hw2⟩ : ∃ w2, w.drew.alloc (.cells cs 3) = w2 := ⟨_, rfl⟩
    rw [hw2] at hr hO hB
    clear hc hcs hw2 hsz
    go_enter Tryz.func101, Tryz.ntmps101
    go_wp2_with (at_builtin; refine Lib.wpList_append_run _ rfl _ _ 22 3 rfl _ _ rfl rfl _ _ hr.out ?_)
    go_ret
    exact ⟨some ⟨w.heap.size, 0, none⟩, c, rfl, hO, hB⟩
