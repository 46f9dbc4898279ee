/- Flagged words: Join, Flagged. -/
import Derived.Test.YtecpanppnljkhaaGreatDoorEc
import Derived.Test.YtecpanppnljkhaaGreatDoorEb
import Derived.Test.YtecpanppnljkhaaGreatDoorEm
import Derived.Test.YtecpanppnljkhaaGreatDoorQp
import Derived.Test.YtecpanppnljkhaaGreatDoorQa
import Derived.IntWalk
import Derived.Test.YtecpanppnljkhaaGreatDoorEd
import Derived.Test.YtecpanppnljkhaaGreatDoorEf
namespace Go.Proofs.YtecpanppnljkhaaGreatDoor
set_option linter.unusedVariables false
set_option maxRecDepth 100000
open Go.RowKit Go.Shelf
theorem isFlagged_any (b : Bool) (n : Int) (w : World) : Calls Tryz.prog 63 #[.agg #[.bool b, .int .i64 n]] w (Ret (.bool (isWb n)) w) := by
  have hB0 : Below w.heap.size w (w.alloc (.cells #[.bool b, .int .i64 n] 41)) := (Below.refl _ _).alloc (Nat.le_refl _) _
  have C := Lib.hid (is_any n (w.alloc (.cells #[.bool b, .int .i64 n] 41)))
  go_enter Tryz.func63, Tryz.ntmps63
  go_wp2_with fail
  refine C.out.mono ?_
  rintro e w' ⟨rfl, rfl⟩
  go_wp2
  go_ret
  exact ⟨rfl, hB0⟩
theorem none_any (x : Int) (J : Value) (hJ : J.oneCell' = true) (w : World) : Calls Tryz.prog 68 #[.agg #[.int .i64 x, J]] w (Ret (.agg #[.bool false, .int .i64 x]) w) := by
  have hB0 : Below w.heap.size w (w.alloc (.cells #[.int .i64 x, J] 86)) := (Below.refl _ _).alloc (Nat.le_refl _) _
  go_enter Tryz.func68, Tryz.ntmps68
  go_wp2
  refine bodyPost_ret (v := .agg #[.bool false, .int .i64 x]) ?_ rfl ⟨rfl, hB0.alloc (by simp) _⟩
  simp [results, Tryz.f68, go_sem]
end Go.Proofs.YtecpanppnljkhaaGreatDoor

namespace Go.Proofs.YtecpanppnljkhaaGreatDoor
set_option linter.unusedVariables false
set_option maxRecDepth 100000
open Go.RowKit Go.Shelf
/-- Two flagged words joined. -/
def bothN (f : Int → Int → Int) (x : Int) (a b : Bool × Int) : Bool × Int := if a = (false, x) ∨ b.1 = true then b else (a.1, f a.2 b.2)
def flV (a : Bool × Int) : Value := .agg #[.bool a.1, .int .i64 a.2]
set_option maxHeartbeats 4000000 in
theorem fboth_any (op x : Int) (g : Nat) (p q : Bool) (m n : Int) (w : World) (hg : Blk w g 3 #[.int .i64 op]) :
    Calls Tryz.prog 64 #[.agg #[.int .i64 x, .func (.func 87) #[] #[.pointer (some ⟨g, 0, none⟩)]], .agg #[.bool p, .int .i64 m], .agg #[.bool q, .int .i64 n]] w (Ret (flV (bothN (doN op) x (p, m) (q, n))) w) := by
  have b0 := (((Blk.new w 86 #[.int .i64 x, .func (.func 87) #[] #[.pointer (some ⟨g, 0, none⟩)]]).alloc (.cells #[.bool p, .int .i64 m] 41)).alloc (.cells #[.bool q, .int .i64 n] 41)).alloc (.cells #[.bool false, .int .i64 0] 41)
  have b1 := ((Blk.new (w.alloc (.cells #[.int .i64 x, .func (.func 87) #[] #[.pointer (some ⟨g, 0, none⟩)]] 86)) 41 #[.bool p, .int .i64 m]).alloc (.cells #[.bool q, .int .i64 n] 41)).alloc (.cells #[.bool false, .int .i64 0] 41)
  have b2 := (Blk.new ((w.alloc (.cells #[.int .i64 x, .func (.func 87) #[] #[.pointer (some ⟨g, 0, none⟩)]] 86)).alloc (.cells #[.bool p, .int .i64 m] 41)) 41 #[.bool q, .int .i64 n]).alloc (.cells #[.bool false, .int .i64 0] 41)
  have b3 := Blk.new (((w.alloc (.cells #[.int .i64 x, .func (.func 87) #[] #[.pointer (some ⟨g, 0, none⟩)]] 86)).alloc (.cells #[.bool p, .int .i64 m] 41)).alloc (.cells #[.bool q, .int .i64 n] 41)) 41 #[.bool false, .int .i64 0]
  simp only [World.size_alloc] at b1 b2 b3
  have hB0 : Below w.heap.size w ((((w.alloc (.cells #[.int .i64 x, .func (.func 87) #[] #[.pointer (some ⟨g, 0, none⟩)]] 86)).alloc (.cells #[.bool p, .int .i64 m] 41)).alloc (.cells #[.bool q, .int .i64 n] 41)).alloc (.cells #[.bool false, .int .i64 0] 41)) := (((((Below.refl _ _).alloc (Nat.le_refl _) _).alloc (by simp) _).alloc (by simp; omega) _).alloc (by simp; omega) _)
  have hsz : w.heap.size + 4 ≤ ((((w.alloc (.cells #[.int .i64 x, .func (.func 87) #[] #[.pointer (some ⟨g, 0, none⟩)]] 86)).alloc (.cells #[.bool p, .int .i64 m] 41)).alloc (.cells #[.bool q, .int .i64 n] 41)).alloc (.cells #[.bool false, .int .i64 0] 41)).heap.size := by simp
  obtain ⟨W0, hW0⟩ : ∃ W0, ((((w.alloc (.cells #[.int .i64 x, .func (.func 87) #[] #[.pointer (some ⟨g, 0, none⟩)]] 86)).alloc (.cells #[.bool p, .int .i64 m] 41)).alloc (.cells #[.bool q, .int .i64 n] 41)).alloc (.cells #[.bool false, .int .i64 0] 41)) = W0 := ⟨_, rfl⟩
  rw [hW0] at b0 b1 b2 b3 hB0 hsz
  have e00 : W0.cell? ⟨w.heap.size, 0, none⟩ = some (.int .i64 x) := b0.cell 0
  have e01 : W0.cell? ⟨w.heap.size, 1, none⟩ = some (.func (.func 87) #[] #[.pointer (some ⟨g, 0, none⟩)]) := b0.cell 1
  have e10 : W0.cell? ⟨w.heap.size + 1, 0, none⟩ = some (.bool p) := b1.cell 0
  have e11 : W0.cell? ⟨w.heap.size + 1, 1, none⟩ = some (.int .i64 m) := b1.cell 1
  have e20 : W0.cell? ⟨w.heap.size + 1 + 1, 0, none⟩ = some (.bool q) := b2.cell 0
  have e21 : W0.cell? ⟨w.heap.size + 1 + 1, 1, none⟩ = some (.int .i64 n) := b2.cell 1
  have C := Lib.hid (fun W => none_any x (.func (.func 87) #[] #[.pointer (some ⟨g, 0, none⟩)]) rfl W)
  have hgl := hg.lt
  have gW := hg.below hB0 hg.lt
  by_cases hpm : p = false ∧ m = x
  · have HE : Hid (bothN (doN op) x (p, m) (q, n) = (q, n)) := Lib.hid (by unfold bothN; rw [if_pos (.inl (by rw [hpm.1, hpm.2]))])
    obtain ⟨rfl, rfl⟩ := hpm
    go_enter Tryz.func64, Tryz.ntmps64
    go_wp2
    first | (go_region_with (go_at_call 68; refine (C.out _).mono ?_; rintro e w1 ⟨rfl, hB1⟩; have y00 := (hB1.cell (p := ⟨w.heap.size, 0, none⟩) (by show w.heap.size < W0.heap.size; omega)).trans e00; have y01 := (hB1.cell (p := ⟨w.heap.size, 1, none⟩) (by show w.heap.size < W0.heap.size; omega)).trans e01; have y10 := (hB1.cell (p := ⟨w.heap.size + 1, 0, none⟩) (by show w.heap.size + 1 < W0.heap.size; omega)).trans e10; have y11 := (hB1.cell (p := ⟨w.heap.size + 1, 1, none⟩) (by show w.heap.size + 1 < W0.heap.size; omega)).trans e11; have y20 := (hB1.cell (p := ⟨w.heap.size + 1 + 1, 0, none⟩) (by show w.heap.size + 1 + 1 < W0.heap.size; omega)).trans e20; have y21 := (hB1.cell (p := ⟨w.heap.size + 1 + 1, 1, none⟩) (by show w.heap.size + 1 + 1 < W0.heap.size; omega)).trans e21; have D0 := b0.drew.below hB1 b0.lt; have D1 := b1.drew.below hB1 b1.lt; have D2 := b2.drew.below hB1 b2.lt; have D3 := b3.drew.below hB1 b3.lt; have G1 := gW.drew.below hB1 gW.lt; have Z3 := D3.cell 0; have Z4 := D3.cell 1; simp at Z3 Z4; have F3 := D3.frozen 0; have F4 := D3.frozen 1; have BB : Below w.heap.size w w1 := hB0.drew.trans (hB1.mono hB0.size))) | fail
    · go_wp2
      refine bodyPost_ret (v := .agg #[.bool q, .int .i64 n]) ?_ rfl ⟨by rw [HE.out]; rfl, ?_⟩
      · simp [results, Tryz.f64, go_sem, D3.cell]
      · exact ((BB.setCell (p := ⟨w.heap.size + 1 + 1 + 1, 0, none⟩) (by simp; omega) _).setCell (p := ⟨w.heap.size + 1 + 1 + 1, 1, none⟩) (by simp; omega) _)
    · go_wp2
      refine bodyPost_ret (v := .agg #[.bool q, .int .i64 n]) ?_ rfl ⟨by rw [HE.out]; rfl, ?_⟩
      · simp [results, Tryz.f64, go_sem, D3.cell]
      · exact ((BB.setCell (p := ⟨w.heap.size + 1 + 1 + 1, 0, none⟩) (by simp; omega) _).setCell (p := ⟨w.heap.size + 1 + 1 + 1, 1, none⟩) (by simp; omega) _)
    · go_wp2
      refine bodyPost_ret (v := .agg #[.bool q, .int .i64 n]) ?_ rfl ⟨by rw [HE.out]; rfl, ?_⟩
      · simp [results, Tryz.f64, go_sem, D3.cell]
      · exact ((BB.setCell (p := ⟨w.heap.size + 1 + 1 + 1, 0, none⟩) (by simp; omega) _).setCell (p := ⟨w.heap.size + 1 + 1 + 1, 1, none⟩) (by simp; omega) _)
  · cases q with
    | true =>
      have HE : Hid (bothN (doN op) x (p, m) (true, n) = (true, n)) := Lib.hid (by unfold bothN; rw [if_pos (.inr rfl)])
      cases p with
      | true =>
        clear hpm
        go_enter Tryz.func64, Tryz.ntmps64
        go_wp2
        first | (go_region_with (go_at_call 68; refine (C.out _).mono ?_; rintro e w1 ⟨rfl, hB1⟩; have y00 := (hB1.cell (p := ⟨w.heap.size, 0, none⟩) (by show w.heap.size < W0.heap.size; omega)).trans e00; have y01 := (hB1.cell (p := ⟨w.heap.size, 1, none⟩) (by show w.heap.size < W0.heap.size; omega)).trans e01; have y10 := (hB1.cell (p := ⟨w.heap.size + 1, 0, none⟩) (by show w.heap.size + 1 < W0.heap.size; omega)).trans e10; have y11 := (hB1.cell (p := ⟨w.heap.size + 1, 1, none⟩) (by show w.heap.size + 1 < W0.heap.size; omega)).trans e11; have y20 := (hB1.cell (p := ⟨w.heap.size + 1 + 1, 0, none⟩) (by show w.heap.size + 1 + 1 < W0.heap.size; omega)).trans e20; have y21 := (hB1.cell (p := ⟨w.heap.size + 1 + 1, 1, none⟩) (by show w.heap.size + 1 + 1 < W0.heap.size; omega)).trans e21; have D0 := b0.drew.below hB1 b0.lt; have D1 := b1.drew.below hB1 b1.lt; have D2 := b2.drew.below hB1 b2.lt; have D3 := b3.drew.below hB1 b3.lt; have G1 := gW.drew.below hB1 gW.lt; have Z3 := D3.cell 0; have Z4 := D3.cell 1; simp at Z3 Z4; have F3 := D3.frozen 0; have F4 := D3.frozen 1; have BB : Below w.heap.size w w1 := hB0.drew.trans (hB1.mono hB0.size))) | fail
        · go_wp2
          refine bodyPost_ret (v := .agg #[.bool true, .int .i64 n]) ?_ rfl ⟨by rw [HE.out]; rfl, ?_⟩
          · simp [results, Tryz.f64, go_sem, D3.cell]
          · exact ((BB.setCell (p := ⟨w.heap.size + 1 + 1 + 1, 0, none⟩) (by simp; omega) _).setCell (p := ⟨w.heap.size + 1 + 1 + 1, 1, none⟩) (by simp; omega) _)
        · go_wp2
          refine bodyPost_ret (v := .agg #[.bool true, .int .i64 n]) ?_ rfl ⟨by rw [HE.out]; rfl, ?_⟩
          · simp [results, Tryz.f64, go_sem, D3.cell]
          · exact ((BB.setCell (p := ⟨w.heap.size + 1 + 1 + 1, 0, none⟩) (by simp; omega) _).setCell (p := ⟨w.heap.size + 1 + 1 + 1, 1, none⟩) (by simp; omega) _)
        · go_wp2
          refine bodyPost_ret (v := .agg #[.bool true, .int .i64 n]) ?_ rfl ⟨by rw [HE.out]; rfl, ?_⟩
          · simp [results, Tryz.f64, go_sem, D3.cell]
          · exact ((BB.setCell (p := ⟨w.heap.size + 1 + 1 + 1, 0, none⟩) (by simp; omega) _).setCell (p := ⟨w.heap.size + 1 + 1 + 1, 1, none⟩) (by simp; omega) _)
      | false =>
        have hmx : (m == x) = false := by rw [beq_eq_false_iff_ne]; exact fun e => hpm ⟨rfl, e⟩
        clear hpm
        go_enter Tryz.func64, Tryz.ntmps64
        go_wp2
        first | (go_region_with (go_at_call 68; refine (C.out _).mono ?_; rintro e w1 ⟨rfl, hB1⟩; have y00 := (hB1.cell (p := ⟨w.heap.size, 0, none⟩) (by show w.heap.size < W0.heap.size; omega)).trans e00; have y01 := (hB1.cell (p := ⟨w.heap.size, 1, none⟩) (by show w.heap.size < W0.heap.size; omega)).trans e01; have y10 := (hB1.cell (p := ⟨w.heap.size + 1, 0, none⟩) (by show w.heap.size + 1 < W0.heap.size; omega)).trans e10; have y11 := (hB1.cell (p := ⟨w.heap.size + 1, 1, none⟩) (by show w.heap.size + 1 < W0.heap.size; omega)).trans e11; have y20 := (hB1.cell (p := ⟨w.heap.size + 1 + 1, 0, none⟩) (by show w.heap.size + 1 + 1 < W0.heap.size; omega)).trans e20; have y21 := (hB1.cell (p := ⟨w.heap.size + 1 + 1, 1, none⟩) (by show w.heap.size + 1 + 1 < W0.heap.size; omega)).trans e21; have D0 := b0.drew.below hB1 b0.lt; have D1 := b1.drew.below hB1 b1.lt; have D2 := b2.drew.below hB1 b2.lt; have D3 := b3.drew.below hB1 b3.lt; have G1 := gW.drew.below hB1 gW.lt; have Z3 := D3.cell 0; have Z4 := D3.cell 1; simp at Z3 Z4; have F3 := D3.frozen 0; have F4 := D3.frozen 1; have BB : Below w.heap.size w w1 := hB0.drew.trans (hB1.mono hB0.size))) | fail
        · go_wp2
          refine bodyPost_ret (v := .agg #[.bool true, .int .i64 n]) ?_ rfl ⟨by rw [HE.out]; rfl, ?_⟩
          · simp [results, Tryz.f64, go_sem, D3.cell]
          · exact ((BB.setCell (p := ⟨w.heap.size + 1 + 1 + 1, 0, none⟩) (by simp; omega) _).setCell (p := ⟨w.heap.size + 1 + 1 + 1, 1, none⟩) (by simp; omega) _)
        · go_wp2
          refine bodyPost_ret (v := .agg #[.bool true, .int .i64 n]) ?_ rfl ⟨by rw [HE.out]; rfl, ?_⟩
          · simp [results, Tryz.f64, go_sem, D3.cell]
          · exact ((BB.setCell (p := ⟨w.heap.size + 1 + 1 + 1, 0, none⟩) (by simp; omega) _).setCell (p := ⟨w.heap.size + 1 + 1 + 1, 1, none⟩) (by simp; omega) _)
        · go_wp2
          refine bodyPost_ret (v := .agg #[.bool true, .int .i64 n]) ?_ rfl ⟨by rw [HE.out]; rfl, ?_⟩
          · simp [results, Tryz.f64, go_sem, D3.cell]
          · exact ((BB.setCell (p := ⟨w.heap.size + 1 + 1 + 1, 0, none⟩) (by simp; omega) _).setCell (p := ⟨w.heap.size + 1 + 1 + 1, 1, none⟩) (by simp; omega) _)
    | false =>
      have HE : Hid (bothN (doN op) x (p, m) (false, n) = (p, doN op m n)) := Lib.hid (by unfold bothN; rw [if_neg (fun h => h.elim (fun h => hpm ⟨congrArg Prod.fst h, congrArg Prod.snd h⟩) (fun h => by cases h))])
      cases p with
      | true =>
        clear hpm
        go_enter Tryz.func64, Tryz.ntmps64
        go_wp2
        first | (go_region_with (go_at_call 68; refine (C.out _).mono ?_; rintro e w1 ⟨rfl, hB1⟩; have y00 := (hB1.cell (p := ⟨w.heap.size, 0, none⟩) (by show w.heap.size < W0.heap.size; omega)).trans e00; have y01 := (hB1.cell (p := ⟨w.heap.size, 1, none⟩) (by show w.heap.size < W0.heap.size; omega)).trans e01; have y10 := (hB1.cell (p := ⟨w.heap.size + 1, 0, none⟩) (by show w.heap.size + 1 < W0.heap.size; omega)).trans e10; have y11 := (hB1.cell (p := ⟨w.heap.size + 1, 1, none⟩) (by show w.heap.size + 1 < W0.heap.size; omega)).trans e11; have y20 := (hB1.cell (p := ⟨w.heap.size + 1 + 1, 0, none⟩) (by show w.heap.size + 1 + 1 < W0.heap.size; omega)).trans e20; have y21 := (hB1.cell (p := ⟨w.heap.size + 1 + 1, 1, none⟩) (by show w.heap.size + 1 + 1 < W0.heap.size; omega)).trans e21; have D0 := b0.drew.below hB1 b0.lt; have D1 := b1.drew.below hB1 b1.lt; have D2 := b2.drew.below hB1 b2.lt; have D3 := b3.drew.below hB1 b3.lt; have G1 := gW.drew.below hB1 gW.lt; have Z3 := D3.cell 0; have Z4 := D3.cell 1; simp at Z3 Z4; have F3 := D3.frozen 0; have F4 := D3.frozen 1; have BB : Below w.heap.size w w1 := hB0.drew.trans (hB1.mono hB0.size))) | fail
        · go_wp2
          simp only [Act.put, List.getElem_toArray, List.getElem_cons_succ, List.getElem_cons_zero, List.setIfInBounds_toArray, List.set_cons_zero, List.set_cons_succ]
          refine wp_region_tab (fun W' => Blk W' g 3 #[.int .i64 op] ∧ Blk W' w.heap.size 86 #[.int .i64 x, .func (.func 87) #[] #[.pointer (some ⟨g, 0, none⟩)]] ∧ Blk W' (w.heap.size + 1) 41 #[.bool true, .int .i64 m] ∧ Blk W' (w.heap.size + 1 + 1) 41 #[.bool false, .int .i64 n] ∧ Blk W' (w.heap.size + 1 + 1 + 1) 41 #[.bool false, .int .i64 0] ∧ Below w.heap.size w W') 11 (by kernel_rfl) (by kernel_rfl) ⟨G1.drew, D0.drew, D1.drew, D2.drew, D3.drew, BB.drew⟩ ?_
          simp only [List.take_succ_cons, List.take_zero, List.drop_succ_cons, List.drop_zero]
          refine wpTab_value (v := .pointer (some ⟨w.heap.size + 1, 0, none⟩)) (fun W hW => ?_) ?_
          · (obtain ⟨s1, s2, s3, s4, s5, s6⟩ := hW; have t00 := s2.cell 0; have t01 := s2.cell 1; have t10 := s3.cell 0; have t11 := s3.cell 1; have t20 := s4.cell 0; have t21 := s4.cell 1; simp at t00 t01 t10 t11 t20 t21; go_simp; try with_reducible rfl)
          simp only [Act.put, List.setIfInBounds_toArray, List.set_cons_zero, List.set_cons_succ]
          refine wpTab_value (v := .bool true) (fun W hW => ?_) ?_
          · (obtain ⟨s1, s2, s3, s4, s5, s6⟩ := hW; have t00 := s2.cell 0; have t01 := s2.cell 1; have t10 := s3.cell 0; have t11 := s3.cell 1; have t20 := s4.cell 0; have t21 := s4.cell 1; simp at t00 t01 t10 t11 t20 t21; go_simp; try with_reducible rfl)
          simp only [Act.put, List.setIfInBounds_toArray, List.set_cons_zero, List.set_cons_succ]
          refine wpTab_value (v := .pointer (some ⟨w.heap.size, 0, none⟩)) (fun W hW => ?_) ?_
          · (obtain ⟨s1, s2, s3, s4, s5, s6⟩ := hW; have t00 := s2.cell 0; have t01 := s2.cell 1; have t10 := s3.cell 0; have t11 := s3.cell 1; have t20 := s4.cell 0; have t21 := s4.cell 1; simp at t00 t01 t10 t11 t20 t21; go_simp; try with_reducible rfl)
          simp only [Act.put, List.setIfInBounds_toArray, List.set_cons_zero, List.set_cons_succ]
          refine wpTab_value (v := .pointer (some ⟨w.heap.size, 1, none⟩)) (fun W hW => ?_) ?_
          · (obtain ⟨s1, s2, s3, s4, s5, s6⟩ := hW; have t00 := s2.cell 0; have t01 := s2.cell 1; have t10 := s3.cell 0; have t11 := s3.cell 1; have t20 := s4.cell 0; have t21 := s4.cell 1; simp at t00 t01 t10 t11 t20 t21; go_simp; try with_reducible rfl)
          simp only [Act.put, List.setIfInBounds_toArray, List.set_cons_zero, List.set_cons_succ]
          refine wpTab_value (v := .func (.func 87) #[] #[.pointer (some ⟨g, 0, none⟩)]) (fun W hW => ?_) ?_
          · (obtain ⟨s1, s2, s3, s4, s5, s6⟩ := hW; have t00 := s2.cell 0; have t01 := s2.cell 1; have t10 := s3.cell 0; have t11 := s3.cell 1; have t20 := s4.cell 0; have t21 := s4.cell 1; simp at t00 t01 t10 t11 t20 t21; go_simp; try with_reducible rfl)
          simp only [Act.put, List.setIfInBounds_toArray, List.set_cons_zero, List.set_cons_succ]
          refine wpTab_value (v := .pointer (some ⟨w.heap.size + 1, 1, none⟩)) (fun W hW => ?_) ?_
          · (obtain ⟨s1, s2, s3, s4, s5, s6⟩ := hW; have t00 := s2.cell 0; have t01 := s2.cell 1; have t10 := s3.cell 0; have t11 := s3.cell 1; have t20 := s4.cell 0; have t21 := s4.cell 1; simp at t00 t01 t10 t11 t20 t21; go_simp; try with_reducible rfl)
          simp only [Act.put, List.setIfInBounds_toArray, List.set_cons_zero, List.set_cons_succ]
          refine wpTab_value (v := .int .i64 m) (fun W hW => ?_) ?_
          · (obtain ⟨s1, s2, s3, s4, s5, s6⟩ := hW; have t00 := s2.cell 0; have t01 := s2.cell 1; have t10 := s3.cell 0; have t11 := s3.cell 1; have t20 := s4.cell 0; have t21 := s4.cell 1; simp at t00 t01 t10 t11 t20 t21; go_simp; try with_reducible rfl)
          simp only [Act.put, List.setIfInBounds_toArray, List.set_cons_zero, List.set_cons_succ]
          refine wpTab_value (v := .pointer (some ⟨w.heap.size + 1 + 1, 1, none⟩)) (fun W hW => ?_) ?_
          · (obtain ⟨s1, s2, s3, s4, s5, s6⟩ := hW; have t00 := s2.cell 0; have t01 := s2.cell 1; have t10 := s3.cell 0; have t11 := s3.cell 1; have t20 := s4.cell 0; have t21 := s4.cell 1; simp at t00 t01 t10 t11 t20 t21; go_simp; try with_reducible rfl)
          simp only [Act.put, List.setIfInBounds_toArray, List.set_cons_zero, List.set_cons_succ]
          refine wpTab_value (v := .int .i64 n) (fun W hW => ?_) ?_
          · (obtain ⟨s1, s2, s3, s4, s5, s6⟩ := hW; have t00 := s2.cell 0; have t01 := s2.cell 1; have t10 := s3.cell 0; have t11 := s3.cell 1; have t20 := s4.cell 0; have t21 := s4.cell 1; simp at t00 t01 t10 t11 t20 t21; go_simp; try with_reducible rfl)
          simp only [Act.put, List.setIfInBounds_toArray, List.set_cons_zero, List.set_cons_succ]
          refine wpTab_call (f := 87) (args := #[.int .i64 m, .int .i64 n, .pointer (some ⟨g, 0, none⟩)]) (v := .int .i64 (doN op m n)) (fun W => ?_) (fun W hW => ?_) ?_
          · (go_simp; try with_reducible rfl)
          · exact (join_any op m n g W hW.1).mono (fun e w' ⟨he, hb⟩ => ⟨he, hW.1.below hb hW.1.lt, hW.2.1.below hb hW.2.1.lt, hW.2.2.1.below hb hW.2.2.1.lt, hW.2.2.2.1.below hb hW.2.2.2.1.lt, hW.2.2.2.2.1.below hb hW.2.2.2.2.1.lt, hW.2.2.2.2.2.trans (hb.mono hW.2.2.2.2.2.size)⟩)
          simp only [Act.put, List.setIfInBounds_toArray, List.set_cons_zero, List.set_cons_succ]
          refine wpTab_value (v := .agg #[.bool true, .int .i64 (doN op m n)]) (fun W hW => ?_) ?_
          · (obtain ⟨s1, s2, s3, s4, s5, s6⟩ := hW; have t00 := s2.cell 0; have t01 := s2.cell 1; have t10 := s3.cell 0; have t11 := s3.cell 1; have t20 := s4.cell 0; have t21 := s4.cell 1; simp at t00 t01 t10 t11 t20 t21; go_simp; try with_reducible rfl)
          simp only [Act.put, List.setIfInBounds_toArray, List.set_cons_zero, List.set_cons_succ]
          refine wpTab_nil (fun w2 hz => ?_)
          obtain ⟨s1, s2, s3, s4, D5, B5⟩ := hz
          have Z5 := D5.cell 0
          have Z6 := D5.cell 1
          simp at Z5 Z6
          have F5 := D5.frozen 0
          have F6 := D5.frozen 1
          obtain ⟨u, hu⟩ : ∃ u, doN op m n = u := ⟨_, rfl⟩
          rw [hu] at HE ⊢
          have hd5 := D5.lt
          clear hu Z3 Z4 F3 F4
          go_wp2
          refine bodyPost_ret (v := .agg #[.bool true, .int .i64 u]) ?_ rfl ⟨by rw [HE.out]; rfl, ?_⟩
          · simp [results, Tryz.f64, go_sem, D5.cell]
          · exact ((B5.setCell (p := ⟨w.heap.size + 1 + 1 + 1, 0, none⟩) (by simp; omega) _).setCell (p := ⟨w.heap.size + 1 + 1 + 1, 1, none⟩) (by simp; omega) _)
        · go_wp2
          simp only [Act.put, List.getElem_toArray, List.getElem_cons_succ, List.getElem_cons_zero, List.setIfInBounds_toArray, List.set_cons_zero, List.set_cons_succ]
          refine wp_region_tab (fun W' => Blk W' g 3 #[.int .i64 op] ∧ Blk W' w.heap.size 86 #[.int .i64 x, .func (.func 87) #[] #[.pointer (some ⟨g, 0, none⟩)]] ∧ Blk W' (w.heap.size + 1) 41 #[.bool true, .int .i64 m] ∧ Blk W' (w.heap.size + 1 + 1) 41 #[.bool false, .int .i64 n] ∧ Blk W' (w.heap.size + 1 + 1 + 1) 41 #[.bool false, .int .i64 0] ∧ Below w.heap.size w W') 11 (by kernel_rfl) (by kernel_rfl) ⟨G1.drew, D0.drew, D1.drew, D2.drew, D3.drew, BB.drew⟩ ?_
          simp only [List.take_succ_cons, List.take_zero, List.drop_succ_cons, List.drop_zero]
          refine wpTab_value (v := .pointer (some ⟨w.heap.size + 1, 0, none⟩)) (fun W hW => ?_) ?_
          · (obtain ⟨s1, s2, s3, s4, s5, s6⟩ := hW; have t00 := s2.cell 0; have t01 := s2.cell 1; have t10 := s3.cell 0; have t11 := s3.cell 1; have t20 := s4.cell 0; have t21 := s4.cell 1; simp at t00 t01 t10 t11 t20 t21; go_simp; try with_reducible rfl)
          simp only [Act.put, List.setIfInBounds_toArray, List.set_cons_zero, List.set_cons_succ]
          refine wpTab_value (v := .bool true) (fun W hW => ?_) ?_
          · (obtain ⟨s1, s2, s3, s4, s5, s6⟩ := hW; have t00 := s2.cell 0; have t01 := s2.cell 1; have t10 := s3.cell 0; have t11 := s3.cell 1; have t20 := s4.cell 0; have t21 := s4.cell 1; simp at t00 t01 t10 t11 t20 t21; go_simp; try with_reducible rfl)
          simp only [Act.put, List.setIfInBounds_toArray, List.set_cons_zero, List.set_cons_succ]
          refine wpTab_value (v := .pointer (some ⟨w.heap.size, 0, none⟩)) (fun W hW => ?_) ?_
          · (obtain ⟨s1, s2, s3, s4, s5, s6⟩ := hW; have t00 := s2.cell 0; have t01 := s2.cell 1; have t10 := s3.cell 0; have t11 := s3.cell 1; have t20 := s4.cell 0; have t21 := s4.cell 1; simp at t00 t01 t10 t11 t20 t21; go_simp; try with_reducible rfl)
          simp only [Act.put, List.setIfInBounds_toArray, List.set_cons_zero, List.set_cons_succ]
          refine wpTab_value (v := .pointer (some ⟨w.heap.size, 1, none⟩)) (fun W hW => ?_) ?_
          · (obtain ⟨s1, s2, s3, s4, s5, s6⟩ := hW; have t00 := s2.cell 0; have t01 := s2.cell 1; have t10 := s3.cell 0; have t11 := s3.cell 1; have t20 := s4.cell 0; have t21 := s4.cell 1; simp at t00 t01 t10 t11 t20 t21; go_simp; try with_reducible rfl)
          simp only [Act.put, List.setIfInBounds_toArray, List.set_cons_zero, List.set_cons_succ]
          refine wpTab_value (v := .func (.func 87) #[] #[.pointer (some ⟨g, 0, none⟩)]) (fun W hW => ?_) ?_
          · (obtain ⟨s1, s2, s3, s4, s5, s6⟩ := hW; have t00 := s2.cell 0; have t01 := s2.cell 1; have t10 := s3.cell 0; have t11 := s3.cell 1; have t20 := s4.cell 0; have t21 := s4.cell 1; simp at t00 t01 t10 t11 t20 t21; go_simp; try with_reducible rfl)
          simp only [Act.put, List.setIfInBounds_toArray, List.set_cons_zero, List.set_cons_succ]
          refine wpTab_value (v := .pointer (some ⟨w.heap.size + 1, 1, none⟩)) (fun W hW => ?_) ?_
          · (obtain ⟨s1, s2, s3, s4, s5, s6⟩ := hW; have t00 := s2.cell 0; have t01 := s2.cell 1; have t10 := s3.cell 0; have t11 := s3.cell 1; have t20 := s4.cell 0; have t21 := s4.cell 1; simp at t00 t01 t10 t11 t20 t21; go_simp; try with_reducible rfl)
          simp only [Act.put, List.setIfInBounds_toArray, List.set_cons_zero, List.set_cons_succ]
          refine wpTab_value (v := .int .i64 m) (fun W hW => ?_) ?_
          · (obtain ⟨s1, s2, s3, s4, s5, s6⟩ := hW; have t00 := s2.cell 0; have t01 := s2.cell 1; have t10 := s3.cell 0; have t11 := s3.cell 1; have t20 := s4.cell 0; have t21 := s4.cell 1; simp at t00 t01 t10 t11 t20 t21; go_simp; try with_reducible rfl)
          simp only [Act.put, List.setIfInBounds_toArray, List.set_cons_zero, List.set_cons_succ]
          refine wpTab_value (v := .pointer (some ⟨w.heap.size + 1 + 1, 1, none⟩)) (fun W hW => ?_) ?_
          · (obtain ⟨s1, s2, s3, s4, s5, s6⟩ := hW; have t00 := s2.cell 0; have t01 := s2.cell 1; have t10 := s3.cell 0; have t11 := s3.cell 1; have t20 := s4.cell 0; have t21 := s4.cell 1; simp at t00 t01 t10 t11 t20 t21; go_simp; try with_reducible rfl)
          simp only [Act.put, List.setIfInBounds_toArray, List.set_cons_zero, List.set_cons_succ]
          refine wpTab_value (v := .int .i64 n) (fun W hW => ?_) ?_
          · (obtain ⟨s1, s2, s3, s4, s5, s6⟩ := hW; have t00 := s2.cell 0; have t01 := s2.cell 1; have t10 := s3.cell 0; have t11 := s3.cell 1; have t20 := s4.cell 0; have t21 := s4.cell 1; simp at t00 t01 t10 t11 t20 t21; go_simp; try with_reducible rfl)
          simp only [Act.put, List.setIfInBounds_toArray, List.set_cons_zero, List.set_cons_succ]
          refine wpTab_call (f := 87) (args := #[.int .i64 m, .int .i64 n, .pointer (some ⟨g, 0, none⟩)]) (v := .int .i64 (doN op m n)) (fun W => ?_) (fun W hW => ?_) ?_
          · (go_simp; try with_reducible rfl)
          · exact (join_any op m n g W hW.1).mono (fun e w' ⟨he, hb⟩ => ⟨he, hW.1.below hb hW.1.lt, hW.2.1.below hb hW.2.1.lt, hW.2.2.1.below hb hW.2.2.1.lt, hW.2.2.2.1.below hb hW.2.2.2.1.lt, hW.2.2.2.2.1.below hb hW.2.2.2.2.1.lt, hW.2.2.2.2.2.trans (hb.mono hW.2.2.2.2.2.size)⟩)
          simp only [Act.put, List.setIfInBounds_toArray, List.set_cons_zero, List.set_cons_succ]
          refine wpTab_value (v := .agg #[.bool true, .int .i64 (doN op m n)]) (fun W hW => ?_) ?_
          · (obtain ⟨s1, s2, s3, s4, s5, s6⟩ := hW; have t00 := s2.cell 0; have t01 := s2.cell 1; have t10 := s3.cell 0; have t11 := s3.cell 1; have t20 := s4.cell 0; have t21 := s4.cell 1; simp at t00 t01 t10 t11 t20 t21; go_simp; try with_reducible rfl)
          simp only [Act.put, List.setIfInBounds_toArray, List.set_cons_zero, List.set_cons_succ]
          refine wpTab_nil (fun w2 hz => ?_)
          obtain ⟨s1, s2, s3, s4, D5, B5⟩ := hz
          have Z5 := D5.cell 0
          have Z6 := D5.cell 1
          simp at Z5 Z6
          have F5 := D5.frozen 0
          have F6 := D5.frozen 1
          obtain ⟨u, hu⟩ : ∃ u, doN op m n = u := ⟨_, rfl⟩
          rw [hu] at HE ⊢
          have hd5 := D5.lt
          clear hu Z3 Z4 F3 F4
          go_wp2
          refine bodyPost_ret (v := .agg #[.bool true, .int .i64 u]) ?_ rfl ⟨by rw [HE.out]; rfl, ?_⟩
          · simp [results, Tryz.f64, go_sem, D5.cell]
          · exact ((B5.setCell (p := ⟨w.heap.size + 1 + 1 + 1, 0, none⟩) (by simp; omega) _).setCell (p := ⟨w.heap.size + 1 + 1 + 1, 1, none⟩) (by simp; omega) _)
        · go_wp2
          simp only [Act.put, List.getElem_toArray, List.getElem_cons_succ, List.getElem_cons_zero, List.setIfInBounds_toArray, List.set_cons_zero, List.set_cons_succ]
          refine wp_region_tab (fun W' => Blk W' g 3 #[.int .i64 op] ∧ Blk W' w.heap.size 86 #[.int .i64 x, .func (.func 87) #[] #[.pointer (some ⟨g, 0, none⟩)]] ∧ Blk W' (w.heap.size + 1) 41 #[.bool true, .int .i64 m] ∧ Blk W' (w.heap.size + 1 + 1) 41 #[.bool false, .int .i64 n] ∧ Blk W' (w.heap.size + 1 + 1 + 1) 41 #[.bool false, .int .i64 0] ∧ Below w.heap.size w W') 11 (by kernel_rfl) (by kernel_rfl) ⟨G1.drew, D0.drew, D1.drew, D2.drew, D3.drew, BB.drew⟩ ?_
          simp only [List.take_succ_cons, List.take_zero, List.drop_succ_cons, List.drop_zero]
          refine wpTab_value (v := .pointer (some ⟨w.heap.size + 1, 0, none⟩)) (fun W hW => ?_) ?_
          · (obtain ⟨s1, s2, s3, s4, s5, s6⟩ := hW; have t00 := s2.cell 0; have t01 := s2.cell 1; have t10 := s3.cell 0; have t11 := s3.cell 1; have t20 := s4.cell 0; have t21 := s4.cell 1; simp at t00 t01 t10 t11 t20 t21; go_simp; try with_reducible rfl)
          simp only [Act.put, List.setIfInBounds_toArray, List.set_cons_zero, List.set_cons_succ]
          refine wpTab_value (v := .bool true) (fun W hW => ?_) ?_
          · (obtain ⟨s1, s2, s3, s4, s5, s6⟩ := hW; have t00 := s2.cell 0; have t01 := s2.cell 1; have t10 := s3.cell 0; have t11 := s3.cell 1; have t20 := s4.cell 0; have t21 := s4.cell 1; simp at t00 t01 t10 t11 t20 t21; go_simp; try with_reducible rfl)
          simp only [Act.put, List.setIfInBounds_toArray, List.set_cons_zero, List.set_cons_succ]
          refine wpTab_value (v := .pointer (some ⟨w.heap.size, 0, none⟩)) (fun W hW => ?_) ?_
          · (obtain ⟨s1, s2, s3, s4, s5, s6⟩ := hW; have t00 := s2.cell 0; have t01 := s2.cell 1; have t10 := s3.cell 0; have t11 := s3.cell 1; have t20 := s4.cell 0; have t21 := s4.cell 1; simp at t00 t01 t10 t11 t20 t21; go_simp; try with_reducible rfl)
          simp only [Act.put, List.setIfInBounds_toArray, List.set_cons_zero, List.set_cons_succ]
          refine wpTab_value (v := .pointer (some ⟨w.heap.size, 1, none⟩)) (fun W hW => ?_) ?_
          · (obtain ⟨s1, s2, s3, s4, s5, s6⟩ := hW; have t00 := s2.cell 0; have t01 := s2.cell 1; have t10 := s3.cell 0; have t11 := s3.cell 1; have t20 := s4.cell 0; have t21 := s4.cell 1; simp at t00 t01 t10 t11 t20 t21; go_simp; try with_reducible rfl)
          simp only [Act.put, List.setIfInBounds_toArray, List.set_cons_zero, List.set_cons_succ]
          refine wpTab_value (v := .func (.func 87) #[] #[.pointer (some ⟨g, 0, none⟩)]) (fun W hW => ?_) ?_
          · (obtain ⟨s1, s2, s3, s4, s5, s6⟩ := hW; have t00 := s2.cell 0; have t01 := s2.cell 1; have t10 := s3.cell 0; have t11 := s3.cell 1; have t20 := s4.cell 0; have t21 := s4.cell 1; simp at t00 t01 t10 t11 t20 t21; go_simp; try with_reducible rfl)
          simp only [Act.put, List.setIfInBounds_toArray, List.set_cons_zero, List.set_cons_succ]
          refine wpTab_value (v := .pointer (some ⟨w.heap.size + 1, 1, none⟩)) (fun W hW => ?_) ?_
          · (obtain ⟨s1, s2, s3, s4, s5, s6⟩ := hW; have t00 := s2.cell 0; have t01 := s2.cell 1; have t10 := s3.cell 0; have t11 := s3.cell 1; have t20 := s4.cell 0; have t21 := s4.cell 1; simp at t00 t01 t10 t11 t20 t21; go_simp; try with_reducible rfl)
          simp only [Act.put, List.setIfInBounds_toArray, List.set_cons_zero, List.set_cons_succ]
          refine wpTab_value (v := .int .i64 m) (fun W hW => ?_) ?_
          · (obtain ⟨s1, s2, s3, s4, s5, s6⟩ := hW; have t00 := s2.cell 0; have t01 := s2.cell 1; have t10 := s3.cell 0; have t11 := s3.cell 1; have t20 := s4.cell 0; have t21 := s4.cell 1; simp at t00 t01 t10 t11 t20 t21; go_simp; try with_reducible rfl)
          simp only [Act.put, List.setIfInBounds_toArray, List.set_cons_zero, List.set_cons_succ]
          refine wpTab_value (v := .pointer (some ⟨w.heap.size + 1 + 1, 1, none⟩)) (fun W hW => ?_) ?_
          · (obtain ⟨s1, s2, s3, s4, s5, s6⟩ := hW; have t00 := s2.cell 0; have t01 := s2.cell 1; have t10 := s3.cell 0; have t11 := s3.cell 1; have t20 := s4.cell 0; have t21 := s4.cell 1; simp at t00 t01 t10 t11 t20 t21; go_simp; try with_reducible rfl)
          simp only [Act.put, List.setIfInBounds_toArray, List.set_cons_zero, List.set_cons_succ]
          refine wpTab_value (v := .int .i64 n) (fun W hW => ?_) ?_
          · (obtain ⟨s1, s2, s3, s4, s5, s6⟩ := hW; have t00 := s2.cell 0; have t01 := s2.cell 1; have t10 := s3.cell 0; have t11 := s3.cell 1; have t20 := s4.cell 0; have t21 := s4.cell 1; simp at t00 t01 t10 t11 t20 t21; go_simp; try with_reducible rfl)
          simp only [Act.put, List.setIfInBounds_toArray, List.set_cons_zero, List.set_cons_succ]
          refine wpTab_call (f := 87) (args := #[.int .i64 m, .int .i64 n, .pointer (some ⟨g, 0, none⟩)]) (v := .int .i64 (doN op m n)) (fun W => ?_) (fun W hW => ?_) ?_
          · (go_simp; try with_reducible rfl)
          · exact (join_any op m n g W hW.1).mono (fun e w' ⟨he, hb⟩ => ⟨he, hW.1.below hb hW.1.lt, hW.2.1.below hb hW.2.1.lt, hW.2.2.1.below hb hW.2.2.1.lt, hW.2.2.2.1.below hb hW.2.2.2.1.lt, hW.2.2.2.2.1.below hb hW.2.2.2.2.1.lt, hW.2.2.2.2.2.trans (hb.mono hW.2.2.2.2.2.size)⟩)
          simp only [Act.put, List.setIfInBounds_toArray, List.set_cons_zero, List.set_cons_succ]
          refine wpTab_value (v := .agg #[.bool true, .int .i64 (doN op m n)]) (fun W hW => ?_) ?_
          · (obtain ⟨s1, s2, s3, s4, s5, s6⟩ := hW; have t00 := s2.cell 0; have t01 := s2.cell 1; have t10 := s3.cell 0; have t11 := s3.cell 1; have t20 := s4.cell 0; have t21 := s4.cell 1; simp at t00 t01 t10 t11 t20 t21; go_simp; try with_reducible rfl)
          simp only [Act.put, List.setIfInBounds_toArray, List.set_cons_zero, List.set_cons_succ]
          refine wpTab_nil (fun w2 hz => ?_)
          obtain ⟨s1, s2, s3, s4, D5, B5⟩ := hz
          have Z5 := D5.cell 0
          have Z6 := D5.cell 1
          simp at Z5 Z6
          have F5 := D5.frozen 0
          have F6 := D5.frozen 1
          obtain ⟨u, hu⟩ : ∃ u, doN op m n = u := ⟨_, rfl⟩
          rw [hu] at HE ⊢
          have hd5 := D5.lt
          clear hu Z3 Z4 F3 F4
          go_wp2
          refine bodyPost_ret (v := .agg #[.bool true, .int .i64 u]) ?_ rfl ⟨by rw [HE.out]; rfl, ?_⟩
          · simp [results, Tryz.f64, go_sem, D5.cell]
          · exact ((B5.setCell (p := ⟨w.heap.size + 1 + 1 + 1, 0, none⟩) (by simp; omega) _).setCell (p := ⟨w.heap.size + 1 + 1 + 1, 1, none⟩) (by simp; omega) _)
      | false =>
        have hmx : (m == x) = false := by rw [beq_eq_false_iff_ne]; exact fun e => hpm ⟨rfl, e⟩
        clear hpm
        go_enter Tryz.func64, Tryz.ntmps64
        go_wp2
        first | (go_region_with (go_at_call 68; refine (C.out _).mono ?_; rintro e w1 ⟨rfl, hB1⟩; have y00 := (hB1.cell (p := ⟨w.heap.size, 0, none⟩) (by show w.heap.size < W0.heap.size; omega)).trans e00; have y01 := (hB1.cell (p := ⟨w.heap.size, 1, none⟩) (by show w.heap.size < W0.heap.size; omega)).trans e01; have y10 := (hB1.cell (p := ⟨w.heap.size + 1, 0, none⟩) (by show w.heap.size + 1 < W0.heap.size; omega)).trans e10; have y11 := (hB1.cell (p := ⟨w.heap.size + 1, 1, none⟩) (by show w.heap.size + 1 < W0.heap.size; omega)).trans e11; have y20 := (hB1.cell (p := ⟨w.heap.size + 1 + 1, 0, none⟩) (by show w.heap.size + 1 + 1 < W0.heap.size; omega)).trans e20; have y21 := (hB1.cell (p := ⟨w.heap.size + 1 + 1, 1, none⟩) (by show w.heap.size + 1 + 1 < W0.heap.size; omega)).trans e21; have D0 := b0.drew.below hB1 b0.lt; have D1 := b1.drew.below hB1 b1.lt; have D2 := b2.drew.below hB1 b2.lt; have D3 := b3.drew.below hB1 b3.lt; have G1 := gW.drew.below hB1 gW.lt; have Z3 := D3.cell 0; have Z4 := D3.cell 1; simp at Z3 Z4; have F3 := D3.frozen 0; have F4 := D3.frozen 1; have BB : Below w.heap.size w w1 := hB0.drew.trans (hB1.mono hB0.size))) | fail
        · go_wp2
          simp only [Act.put, List.getElem_toArray, List.getElem_cons_succ, List.getElem_cons_zero, List.setIfInBounds_toArray, List.set_cons_zero, List.set_cons_succ]
          refine wp_region_tab (fun W' => Blk W' g 3 #[.int .i64 op] ∧ Blk W' w.heap.size 86 #[.int .i64 x, .func (.func 87) #[] #[.pointer (some ⟨g, 0, none⟩)]] ∧ Blk W' (w.heap.size + 1) 41 #[.bool false, .int .i64 m] ∧ Blk W' (w.heap.size + 1 + 1) 41 #[.bool false, .int .i64 n] ∧ Blk W' (w.heap.size + 1 + 1 + 1) 41 #[.bool false, .int .i64 0] ∧ Below w.heap.size w W') 11 (by kernel_rfl) (by kernel_rfl) ⟨G1.drew, D0.drew, D1.drew, D2.drew, D3.drew, BB.drew⟩ ?_
          simp only [List.take_succ_cons, List.take_zero, List.drop_succ_cons, List.drop_zero]
          refine wpTab_value (v := .pointer (some ⟨w.heap.size + 1, 0, none⟩)) (fun W hW => ?_) ?_
          · (obtain ⟨s1, s2, s3, s4, s5, s6⟩ := hW; have t00 := s2.cell 0; have t01 := s2.cell 1; have t10 := s3.cell 0; have t11 := s3.cell 1; have t20 := s4.cell 0; have t21 := s4.cell 1; simp at t00 t01 t10 t11 t20 t21; go_simp; try with_reducible rfl)
          simp only [Act.put, List.setIfInBounds_toArray, List.set_cons_zero, List.set_cons_succ]
          refine wpTab_value (v := .bool false) (fun W hW => ?_) ?_
          · (obtain ⟨s1, s2, s3, s4, s5, s6⟩ := hW; have t00 := s2.cell 0; have t01 := s2.cell 1; have t10 := s3.cell 0; have t11 := s3.cell 1; have t20 := s4.cell 0; have t21 := s4.cell 1; simp at t00 t01 t10 t11 t20 t21; go_simp; try with_reducible rfl)
          simp only [Act.put, List.setIfInBounds_toArray, List.set_cons_zero, List.set_cons_succ]
          refine wpTab_value (v := .pointer (some ⟨w.heap.size, 0, none⟩)) (fun W hW => ?_) ?_
          · (obtain ⟨s1, s2, s3, s4, s5, s6⟩ := hW; have t00 := s2.cell 0; have t01 := s2.cell 1; have t10 := s3.cell 0; have t11 := s3.cell 1; have t20 := s4.cell 0; have t21 := s4.cell 1; simp at t00 t01 t10 t11 t20 t21; go_simp; try with_reducible rfl)
          simp only [Act.put, List.setIfInBounds_toArray, List.set_cons_zero, List.set_cons_succ]
          refine wpTab_value (v := .pointer (some ⟨w.heap.size, 1, none⟩)) (fun W hW => ?_) ?_
          · (obtain ⟨s1, s2, s3, s4, s5, s6⟩ := hW; have t00 := s2.cell 0; have t01 := s2.cell 1; have t10 := s3.cell 0; have t11 := s3.cell 1; have t20 := s4.cell 0; have t21 := s4.cell 1; simp at t00 t01 t10 t11 t20 t21; go_simp; try with_reducible rfl)
          simp only [Act.put, List.setIfInBounds_toArray, List.set_cons_zero, List.set_cons_succ]
          refine wpTab_value (v := .func (.func 87) #[] #[.pointer (some ⟨g, 0, none⟩)]) (fun W hW => ?_) ?_
          · (obtain ⟨s1, s2, s3, s4, s5, s6⟩ := hW; have t00 := s2.cell 0; have t01 := s2.cell 1; have t10 := s3.cell 0; have t11 := s3.cell 1; have t20 := s4.cell 0; have t21 := s4.cell 1; simp at t00 t01 t10 t11 t20 t21; go_simp; try with_reducible rfl)
          simp only [Act.put, List.setIfInBounds_toArray, List.set_cons_zero, List.set_cons_succ]
          refine wpTab_value (v := .pointer (some ⟨w.heap.size + 1, 1, none⟩)) (fun W hW => ?_) ?_
          · (obtain ⟨s1, s2, s3, s4, s5, s6⟩ := hW; have t00 := s2.cell 0; have t01 := s2.cell 1; have t10 := s3.cell 0; have t11 := s3.cell 1; have t20 := s4.cell 0; have t21 := s4.cell 1; simp at t00 t01 t10 t11 t20 t21; go_simp; try with_reducible rfl)
          simp only [Act.put, List.setIfInBounds_toArray, List.set_cons_zero, List.set_cons_succ]
          refine wpTab_value (v := .int .i64 m) (fun W hW => ?_) ?_
          · (obtain ⟨s1, s2, s3, s4, s5, s6⟩ := hW; have t00 := s2.cell 0; have t01 := s2.cell 1; have t10 := s3.cell 0; have t11 := s3.cell 1; have t20 := s4.cell 0; have t21 := s4.cell 1; simp at t00 t01 t10 t11 t20 t21; go_simp; try with_reducible rfl)
          simp only [Act.put, List.setIfInBounds_toArray, List.set_cons_zero, List.set_cons_succ]
          refine wpTab_value (v := .pointer (some ⟨w.heap.size + 1 + 1, 1, none⟩)) (fun W hW => ?_) ?_
          · (obtain ⟨s1, s2, s3, s4, s5, s6⟩ := hW; have t00 := s2.cell 0; have t01 := s2.cell 1; have t10 := s3.cell 0; have t11 := s3.cell 1; have t20 := s4.cell 0; have t21 := s4.cell 1; simp at t00 t01 t10 t11 t20 t21; go_simp; try with_reducible rfl)
          simp only [Act.put, List.setIfInBounds_toArray, List.set_cons_zero, List.set_cons_succ]
          refine wpTab_value (v := .int .i64 n) (fun W hW => ?_) ?_
          · (obtain ⟨s1, s2, s3, s4, s5, s6⟩ := hW; have t00 := s2.cell 0; have t01 := s2.cell 1; have t10 := s3.cell 0; have t11 := s3.cell 1; have t20 := s4.cell 0; have t21 := s4.cell 1; simp at t00 t01 t10 t11 t20 t21; go_simp; try with_reducible rfl)
          simp only [Act.put, List.setIfInBounds_toArray, List.set_cons_zero, List.set_cons_succ]
          refine wpTab_call (f := 87) (args := #[.int .i64 m, .int .i64 n, .pointer (some ⟨g, 0, none⟩)]) (v := .int .i64 (doN op m n)) (fun W => ?_) (fun W hW => ?_) ?_
          · (go_simp; try with_reducible rfl)
          · exact (join_any op m n g W hW.1).mono (fun e w' ⟨he, hb⟩ => ⟨he, hW.1.below hb hW.1.lt, hW.2.1.below hb hW.2.1.lt, hW.2.2.1.below hb hW.2.2.1.lt, hW.2.2.2.1.below hb hW.2.2.2.1.lt, hW.2.2.2.2.1.below hb hW.2.2.2.2.1.lt, hW.2.2.2.2.2.trans (hb.mono hW.2.2.2.2.2.size)⟩)
          simp only [Act.put, List.setIfInBounds_toArray, List.set_cons_zero, List.set_cons_succ]
          refine wpTab_value (v := .agg #[.bool false, .int .i64 (doN op m n)]) (fun W hW => ?_) ?_
          · (obtain ⟨s1, s2, s3, s4, s5, s6⟩ := hW; have t00 := s2.cell 0; have t01 := s2.cell 1; have t10 := s3.cell 0; have t11 := s3.cell 1; have t20 := s4.cell 0; have t21 := s4.cell 1; simp at t00 t01 t10 t11 t20 t21; go_simp; try with_reducible rfl)
          simp only [Act.put, List.setIfInBounds_toArray, List.set_cons_zero, List.set_cons_succ]
          refine wpTab_nil (fun w2 hz => ?_)
          obtain ⟨s1, s2, s3, s4, D5, B5⟩ := hz
          have Z5 := D5.cell 0
          have Z6 := D5.cell 1
          simp at Z5 Z6
          have F5 := D5.frozen 0
          have F6 := D5.frozen 1
          obtain ⟨u, hu⟩ : ∃ u, doN op m n = u := ⟨_, rfl⟩
          rw [hu] at HE ⊢
          have hd5 := D5.lt
          clear hu Z3 Z4 F3 F4
          go_wp2
          refine bodyPost_ret (v := .agg #[.bool false, .int .i64 u]) ?_ rfl ⟨by rw [HE.out]; rfl, ?_⟩
          · simp [results, Tryz.f64, go_sem, D5.cell]
          · exact ((B5.setCell (p := ⟨w.heap.size + 1 + 1 + 1, 0, none⟩) (by simp; omega) _).setCell (p := ⟨w.heap.size + 1 + 1 + 1, 1, none⟩) (by simp; omega) _)
        · go_wp2
          simp only [Act.put, List.getElem_toArray, List.getElem_cons_succ, List.getElem_cons_zero, List.setIfInBounds_toArray, List.set_cons_zero, List.set_cons_succ]
          refine wp_region_tab (fun W' => Blk W' g 3 #[.int .i64 op] ∧ Blk W' w.heap.size 86 #[.int .i64 x, .func (.func 87) #[] #[.pointer (some ⟨g, 0, none⟩)]] ∧ Blk W' (w.heap.size + 1) 41 #[.bool false, .int .i64 m] ∧ Blk W' (w.heap.size + 1 + 1) 41 #[.bool false, .int .i64 n] ∧ Blk W' (w.heap.size + 1 + 1 + 1) 41 #[.bool false, .int .i64 0] ∧ Below w.heap.size w W') 11 (by kernel_rfl) (by kernel_rfl) ⟨G1.drew, D0.drew, D1.drew, D2.drew, D3.drew, BB.drew⟩ ?_
          simp only [List.take_succ_cons, List.take_zero, List.drop_succ_cons, List.drop_zero]
          refine wpTab_value (v := .pointer (some ⟨w.heap.size + 1, 0, none⟩)) (fun W hW => ?_) ?_
          · (obtain ⟨s1, s2, s3, s4, s5, s6⟩ := hW; have t00 := s2.cell 0; have t01 := s2.cell 1; have t10 := s3.cell 0; have t11 := s3.cell 1; have t20 := s4.cell 0; have t21 := s4.cell 1; simp at t00 t01 t10 t11 t20 t21; go_simp; try with_reducible rfl)
          simp only [Act.put, List.setIfInBounds_toArray, List.set_cons_zero, List.set_cons_succ]
          refine wpTab_value (v := .bool false) (fun W hW => ?_) ?_
          · (obtain ⟨s1, s2, s3, s4, s5, s6⟩ := hW; have t00 := s2.cell 0; have t01 := s2.cell 1; have t10 := s3.cell 0; have t11 := s3.cell 1; have t20 := s4.cell 0; have t21 := s4.cell 1; simp at t00 t01 t10 t11 t20 t21; go_simp; try with_reducible rfl)
          simp only [Act.put, List.setIfInBounds_toArray, List.set_cons_zero, List.set_cons_succ]
          refine wpTab_value (v := .pointer (some ⟨w.heap.size, 0, none⟩)) (fun W hW => ?_) ?_
          · (obtain ⟨s1, s2, s3, s4, s5, s6⟩ := hW; have t00 := s2.cell 0; have t01 := s2.cell 1; have t10 := s3.cell 0; have t11 := s3.cell 1; have t20 := s4.cell 0; have t21 := s4.cell 1; simp at t00 t01 t10 t11 t20 t21; go_simp; try with_reducible rfl)
          simp only [Act.put, List.setIfInBounds_toArray, List.set_cons_zero, List.set_cons_succ]
          refine wpTab_value (v := .pointer (some ⟨w.heap.size, 1, none⟩)) (fun W hW => ?_) ?_
          · (obtain ⟨s1, s2, s3, s4, s5, s6⟩ := hW; have t00 := s2.cell 0; have t01 := s2.cell 1; have t10 := s3.cell 0; have t11 := s3.cell 1; have t20 := s4.cell 0; have t21 := s4.cell 1; simp at t00 t01 t10 t11 t20 t21; go_simp; try with_reducible rfl)
          simp only [Act.put, List.setIfInBounds_toArray, List.set_cons_zero, List.set_cons_succ]
          refine wpTab_value (v := .func (.func 87) #[] #[.pointer (some ⟨g, 0, none⟩)]) (fun W hW => ?_) ?_
          · (obtain ⟨s1, s2, s3, s4, s5, s6⟩ := hW; have t00 := s2.cell 0; have t01 := s2.cell 1; have t10 := s3.cell 0; have t11 := s3.cell 1; have t20 := s4.cell 0; have t21 := s4.cell 1; simp at t00 t01 t10 t11 t20 t21; go_simp; try with_reducible rfl)
          simp only [Act.put, List.setIfInBounds_toArray, List.set_cons_zero, List.set_cons_succ]
          refine wpTab_value (v := .pointer (some ⟨w.heap.size + 1, 1, none⟩)) (fun W hW => ?_) ?_
          · (obtain ⟨s1, s2, s3, s4, s5, s6⟩ := hW; have t00 := s2.cell 0; have t01 := s2.cell 1; have t10 := s3.cell 0; have t11 := s3.cell 1; have t20 := s4.cell 0; have t21 := s4.cell 1; simp at t00 t01 t10 t11 t20 t21; go_simp; try with_reducible rfl)
          simp only [Act.put, List.setIfInBounds_toArray, List.set_cons_zero, List.set_cons_succ]
          refine wpTab_value (v := .int .i64 m) (fun W hW => ?_) ?_
          · (obtain ⟨s1, s2, s3, s4, s5, s6⟩ := hW; have t00 := s2.cell 0; have t01 := s2.cell 1; have t10 := s3.cell 0; have t11 := s3.cell 1; have t20 := s4.cell 0; have t21 := s4.cell 1; simp at t00 t01 t10 t11 t20 t21; go_simp; try with_reducible rfl)
          simp only [Act.put, List.setIfInBounds_toArray, List.set_cons_zero, List.set_cons_succ]
          refine wpTab_value (v := .pointer (some ⟨w.heap.size + 1 + 1, 1, none⟩)) (fun W hW => ?_) ?_
          · (obtain ⟨s1, s2, s3, s4, s5, s6⟩ := hW; have t00 := s2.cell 0; have t01 := s2.cell 1; have t10 := s3.cell 0; have t11 := s3.cell 1; have t20 := s4.cell 0; have t21 := s4.cell 1; simp at t00 t01 t10 t11 t20 t21; go_simp; try with_reducible rfl)
          simp only [Act.put, List.setIfInBounds_toArray, List.set_cons_zero, List.set_cons_succ]
          refine wpTab_value (v := .int .i64 n) (fun W hW => ?_) ?_
          · (obtain ⟨s1, s2, s3, s4, s5, s6⟩ := hW; have t00 := s2.cell 0; have t01 := s2.cell 1; have t10 := s3.cell 0; have t11 := s3.cell 1; have t20 := s4.cell 0; have t21 := s4.cell 1; simp at t00 t01 t10 t11 t20 t21; go_simp; try with_reducible rfl)
          simp only [Act.put, List.setIfInBounds_toArray, List.set_cons_zero, List.set_cons_succ]
          refine wpTab_call (f := 87) (args := #[.int .i64 m, .int .i64 n, .pointer (some ⟨g, 0, none⟩)]) (v := .int .i64 (doN op m n)) (fun W => ?_) (fun W hW => ?_) ?_
          · (go_simp; try with_reducible rfl)
          · exact (join_any op m n g W hW.1).mono (fun e w' ⟨he, hb⟩ => ⟨he, hW.1.below hb hW.1.lt, hW.2.1.below hb hW.2.1.lt, hW.2.2.1.below hb hW.2.2.1.lt, hW.2.2.2.1.below hb hW.2.2.2.1.lt, hW.2.2.2.2.1.below hb hW.2.2.2.2.1.lt, hW.2.2.2.2.2.trans (hb.mono hW.2.2.2.2.2.size)⟩)
          simp only [Act.put, List.setIfInBounds_toArray, List.set_cons_zero, List.set_cons_succ]
          refine wpTab_value (v := .agg #[.bool false, .int .i64 (doN op m n)]) (fun W hW => ?_) ?_
          · (obtain ⟨s1, s2, s3, s4, s5, s6⟩ := hW; have t00 := s2.cell 0; have t01 := s2.cell 1; have t10 := s3.cell 0; have t11 := s3.cell 1; have t20 := s4.cell 0; have t21 := s4.cell 1; simp at t00 t01 t10 t11 t20 t21; go_simp; try with_reducible rfl)
          simp only [Act.put, List.setIfInBounds_toArray, List.set_cons_zero, List.set_cons_succ]
          refine wpTab_nil (fun w2 hz => ?_)
          obtain ⟨s1, s2, s3, s4, D5, B5⟩ := hz
          have Z5 := D5.cell 0
          have Z6 := D5.cell 1
          simp at Z5 Z6
          have F5 := D5.frozen 0
          have F6 := D5.frozen 1
          obtain ⟨u, hu⟩ : ∃ u, doN op m n = u := ⟨_, rfl⟩
          rw [hu] at HE ⊢
          have hd5 := D5.lt
          clear hu Z3 Z4 F3 F4
          go_wp2
          refine bodyPost_ret (v := .agg #[.bool false, .int .i64 u]) ?_ rfl ⟨by rw [HE.out]; rfl, ?_⟩
          · simp [results, Tryz.f64, go_sem, D5.cell]
          · exact ((B5.setCell (p := ⟨w.heap.size + 1 + 1 + 1, 0, none⟩) (by simp; omega) _).setCell (p := ⟨w.heap.size + 1 + 1 + 1, 1, none⟩) (by simp; omega) _)
        · go_wp2
          simp only [Act.put, List.getElem_toArray, List.getElem_cons_succ, List.getElem_cons_zero, List.setIfInBounds_toArray, List.set_cons_zero, List.set_cons_succ]
          refine wp_region_tab (fun W' => Blk W' g 3 #[.int .i64 op] ∧ Blk W' w.heap.size 86 #[.int .i64 x, .func (.func 87) #[] #[.pointer (some ⟨g, 0, none⟩)]] ∧ Blk W' (w.heap.size + 1) 41 #[.bool false, .int .i64 m] ∧ Blk W' (w.heap.size + 1 + 1) 41 #[.bool false, .int .i64 n] ∧ Blk W' (w.heap.size + 1 + 1 + 1) 41 #[.bool false, .int .i64 0] ∧ Below w.heap.size w W') 11 (by kernel_rfl) (by kernel_rfl) ⟨G1.drew, D0.drew, D1.drew, D2.drew, D3.drew, BB.drew⟩ ?_
          simp only [List.take_succ_cons, List.take_zero, List.drop_succ_cons, List.drop_zero]
          refine wpTab_value (v := .pointer (some ⟨w.heap.size + 1, 0, none⟩)) (fun W hW => ?_) ?_
          · (obtain ⟨s1, s2, s3, s4, s5, s6⟩ := hW; have t00 := s2.cell 0; have t01 := s2.cell 1; have t10 := s3.cell 0; have t11 := s3.cell 1; have t20 := s4.cell 0; have t21 := s4.cell 1; simp at t00 t01 t10 t11 t20 t21; go_simp; try with_reducible rfl)
          simp only [Act.put, List.setIfInBounds_toArray, List.set_cons_zero, List.set_cons_succ]
          refine wpTab_value (v := .bool false) (fun W hW => ?_) ?_
          · (obtain ⟨s1, s2, s3, s4, s5, s6⟩ := hW; have t00 := s2.cell 0; have t01 := s2.cell 1; have t10 := s3.cell 0; have t11 := s3.cell 1; have t20 := s4.cell 0; have t21 := s4.cell 1; simp at t00 t01 t10 t11 t20 t21; go_simp; try with_reducible rfl)
          simp only [Act.put, List.setIfInBounds_toArray, List.set_cons_zero, List.set_cons_succ]
          refine wpTab_value (v := .pointer (some ⟨w.heap.size, 0, none⟩)) (fun W hW => ?_) ?_
          · (obtain ⟨s1, s2, s3, s4, s5, s6⟩ := hW; have t00 := s2.cell 0; have t01 := s2.cell 1; have t10 := s3.cell 0; have t11 := s3.cell 1; have t20 := s4.cell 0; have t21 := s4.cell 1; simp at t00 t01 t10 t11 t20 t21; go_simp; try with_reducible rfl)
          simp only [Act.put, List.setIfInBounds_toArray, List.set_cons_zero, List.set_cons_succ]
          refine wpTab_value (v := .pointer (some ⟨w.heap.size, 1, none⟩)) (fun W hW => ?_) ?_
          · (obtain ⟨s1, s2, s3, s4, s5, s6⟩ := hW; have t00 := s2.cell 0; have t01 := s2.cell 1; have t10 := s3.cell 0; have t11 := s3.cell 1; have t20 := s4.cell 0; have t21 := s4.cell 1; simp at t00 t01 t10 t11 t20 t21; go_simp; try with_reducible rfl)
          simp only [Act.put, List.setIfInBounds_toArray, List.set_cons_zero, List.set_cons_succ]
          refine wpTab_value (v := .func (.func 87) #[] #[.pointer (some ⟨g, 0, none⟩)]) (fun W hW => ?_) ?_
          · (obtain ⟨s1, s2, s3, s4, s5, s6⟩ := hW; have t00 := s2.cell 0; have t01 := s2.cell 1; have t10 := s3.cell 0; have t11 := s3.cell 1; have t20 := s4.cell 0; have t21 := s4.cell 1; simp at t00 t01 t10 t11 t20 t21; go_simp; try with_reducible rfl)
          simp only [Act.put, List.setIfInBounds_toArray, List.set_cons_zero, List.set_cons_succ]
          refine wpTab_value (v := .pointer (some ⟨w.heap.size + 1, 1, none⟩)) (fun W hW => ?_) ?_
          · (obtain ⟨s1, s2, s3, s4, s5, s6⟩ := hW; have t00 := s2.cell 0; have t01 := s2.cell 1; have t10 := s3.cell 0; have t11 := s3.cell 1; have t20 := s4.cell 0; have t21 := s4.cell 1; simp at t00 t01 t10 t11 t20 t21; go_simp; try with_reducible rfl)
          simp only [Act.put, List.setIfInBounds_toArray, List.set_cons_zero, List.set_cons_succ]
          refine wpTab_value (v := .int .i64 m) (fun W hW => ?_) ?_
          · (obtain ⟨s1, s2, s3, s4, s5, s6⟩ := hW; have t00 := s2.cell 0; have t01 := s2.cell 1; have t10 := s3.cell 0; have t11 := s3.cell 1; have t20 := s4.cell 0; have t21 := s4.cell 1; simp at t00 t01 t10 t11 t20 t21; go_simp; try with_reducible rfl)
          simp only [Act.put, List.setIfInBounds_toArray, List.set_cons_zero, List.set_cons_succ]
          refine wpTab_value (v := .pointer (some ⟨w.heap.size + 1 + 1, 1, none⟩)) (fun W hW => ?_) ?_
          · (obtain ⟨s1, s2, s3, s4, s5, s6⟩ := hW; have t00 := s2.cell 0; have t01 := s2.cell 1; have t10 := s3.cell 0; have t11 := s3.cell 1; have t20 := s4.cell 0; have t21 := s4.cell 1; simp at t00 t01 t10 t11 t20 t21; go_simp; try with_reducible rfl)
          simp only [Act.put, List.setIfInBounds_toArray, List.set_cons_zero, List.set_cons_succ]
          refine wpTab_value (v := .int .i64 n) (fun W hW => ?_) ?_
          · (obtain ⟨s1, s2, s3, s4, s5, s6⟩ := hW; have t00 := s2.cell 0; have t01 := s2.cell 1; have t10 := s3.cell 0; have t11 := s3.cell 1; have t20 := s4.cell 0; have t21 := s4.cell 1; simp at t00 t01 t10 t11 t20 t21; go_simp; try with_reducible rfl)
          simp only [Act.put, List.setIfInBounds_toArray, List.set_cons_zero, List.set_cons_succ]
          refine wpTab_call (f := 87) (args := #[.int .i64 m, .int .i64 n, .pointer (some ⟨g, 0, none⟩)]) (v := .int .i64 (doN op m n)) (fun W => ?_) (fun W hW => ?_) ?_
          · (go_simp; try with_reducible rfl)
          · exact (join_any op m n g W hW.1).mono (fun e w' ⟨he, hb⟩ => ⟨he, hW.1.below hb hW.1.lt, hW.2.1.below hb hW.2.1.lt, hW.2.2.1.below hb hW.2.2.1.lt, hW.2.2.2.1.below hb hW.2.2.2.1.lt, hW.2.2.2.2.1.below hb hW.2.2.2.2.1.lt, hW.2.2.2.2.2.trans (hb.mono hW.2.2.2.2.2.size)⟩)
          simp only [Act.put, List.setIfInBounds_toArray, List.set_cons_zero, List.set_cons_succ]
          refine wpTab_value (v := .agg #[.bool false, .int .i64 (doN op m n)]) (fun W hW => ?_) ?_
          · (obtain ⟨s1, s2, s3, s4, s5, s6⟩ := hW; have t00 := s2.cell 0; have t01 := s2.cell 1; have t10 := s3.cell 0; have t11 := s3.cell 1; have t20 := s4.cell 0; have t21 := s4.cell 1; simp at t00 t01 t10 t11 t20 t21; go_simp; try with_reducible rfl)
          simp only [Act.put, List.setIfInBounds_toArray, List.set_cons_zero, List.set_cons_succ]
          refine wpTab_nil (fun w2 hz => ?_)
          obtain ⟨s1, s2, s3, s4, D5, B5⟩ := hz
          have Z5 := D5.cell 0
          have Z6 := D5.cell 1
          simp at Z5 Z6
          have F5 := D5.frozen 0
          have F6 := D5.frozen 1
          obtain ⟨u, hu⟩ : ∃ u, doN op m n = u := ⟨_, rfl⟩
          rw [hu] at HE ⊢
          have hd5 := D5.lt
          clear hu Z3 Z4 F3 F4
          go_wp2
          refine bodyPost_ret (v := .agg #[.bool false, .int .i64 u]) ?_ rfl ⟨by rw [HE.out]; rfl, ?_⟩
          · simp [results, Tryz.f64, go_sem, D5.cell]
          · exact ((B5.setCell (p := ⟨w.heap.size + 1 + 1 + 1, 0, none⟩) (by simp; omega) _).setCell (p := ⟨w.heap.size + 1 + 1 + 1, 1, none⟩) (by simp; omega) _)
end Go.Proofs.YtecpanppnljkhaaGreatDoor

namespace Go.Proofs.YtecpanppnljkhaaGreatDoor
set_option linter.unusedVariables false
open Go.RowKit Go.Shelf
def fth (ps : List (Bool × Int)) (k : Nat) : Bool × Int := ps.getD k (false, 0)
theorem fth_eq (ps : List (Bool × Int)) (k : Nat) (h : k < ps.length) : fth ps k = ps[k] := by
  unfold fth; rw [List.getD_eq_getElem?_getD, List.getElem?_eq_getElem h]; rfl
def encF (p : Bool × Int) : List Value := [.bool p.1, .int .i64 p.2]
def flc (ps : List (Bool × Int)) : List Value := ps.flatMap encF
theorem flc_length (ps : List (Bool × Int)) : (flc ps).length = ps.length * 2 := by
  induction ps with
  | nil => rfl
  | cons x ps ih => rw [show flc (x :: ps) = encF x ++ flc ps from rfl, List.length_append, ih]; simp [encF]; omega
theorem flc_at : ∀ (ps : List (Bool × Int)) (j : Nat), j < ps.length → (flc ps)[j * 2]? = some (.bool (fth ps j).1) ∧ (flc ps)[j * 2 + 1]? = some (.int .i64 (fth ps j).2)
  | [], j, h => absurd h (by simp)
  | x :: ps, 0, h => by constructor <;> rfl
  | x :: ps, j + 1, h => by
    have ih := flc_at ps j (by simpa using h)
    have e : flc (x :: ps) = .bool x.1 :: .int .i64 x.2 :: flc ps := rfl
    have e1 : (j + 1) * 2 = j * 2 + 1 + 1 := by omega
    refine ⟨?_, ?_⟩
    · rw [e, e1, List.getElem?_cons_succ, List.getElem?_cons_succ]; exact ih.1
    · rw [e, e1, List.getElem?_cons_succ, List.getElem?_cons_succ]; exact ih.2
theorem flc_set : ∀ (ps : List (Bool × Int)) (j : Nat) (v : Bool × Int), j < ps.length → flc (ps.set j v) = ((flc ps).set (j * 2) (.bool v.1)).set (j * 2 + 1) (.int .i64 v.2)
  | [], j, v, h => absurd h (by simp)
  | x :: ps, 0, v, h => rfl
  | x :: ps, j + 1, v, h => by
    have ih := flc_set ps j v (by simpa using h)
    have e1 : (j + 1) * 2 = j * 2 + 1 + 1 := by omega
    rw [e1]
    show encF x ++ flc (ps.set j v) = ((.bool x.1 :: .int .i64 x.2 :: flc ps).set (j * 2 + 1 + 1) (.bool v.1)).set (j * 2 + 1 + 1 + 1) (.int .i64 v.2)
    rw [ih]
    rfl
/-- The slice value at A holds these flagged words. -/
def SlF (w : World) (A : Option Addr) (ps : List (Bool × Int)) : Prop :=
  0 < ps.length → ∃ b off, A = some ⟨b, off, none⟩ ∧ b < w.heap.size ∧ ∀ j, j < ps.length → w.cell? ⟨b, off + j * 2, none⟩ = some (.bool (fth ps j).1) ∧ w.cell? ⟨b, off + j * 2 + 1, none⟩ = some (.int .i64 (fth ps j).2)
theorem SlF.nil (w : World) (A : Option Addr) : SlF w A [] := fun h => absurd h (by simp)
theorem SlF.below {w w' : World} {B : Nat} {A : Option Addr} {ps : List (Bool × Int)} (h : SlF w A ps) (hb : Below B w w') (hB : w.heap.size ≤ B) : SlF w' A ps := fun hl => by
  obtain ⟨b, off, e, hlt, hc⟩ := h hl
  have hlt' : b < B := Nat.lt_of_lt_of_le hlt hB
  exact ⟨b, off, e, Nat.lt_of_lt_of_le hlt hb.size, fun j hj => ⟨(hb.cell (p := ⟨b, off + j * 2, none⟩) hlt').trans (hc j hj).1, (hb.cell (p := ⟨b, off + j * 2 + 1, none⟩) hlt').trans (hc j hj).2⟩⟩
theorem SlF.step {w w' : World} {A : Option Addr} {ps : List (Bool × Int)} (h : SlF w A ps) (hb : Below w.heap.size w w') : SlF w' A ps := h.below hb (Nat.le_refl _)
theorem SlF.at_ {w : World} {A : Option Addr} {ps : List (Bool × Int)} (h : SlF w A ps) {k : Nat} (hk : k < ps.length) :
    ∃ b off, A = some ⟨b, off, none⟩ ∧ b < w.heap.size ∧ w.cell? ⟨b, off + k * 2, none⟩ = some (.bool (fth ps k).1) ∧ w.cell? ⟨b, off + k * 2 + 1, none⟩ = some (.int .i64 (fth ps k).2) := by
  obtain ⟨b, off, e, hb, hc⟩ := h (by omega)
  exact ⟨b, off, e, hb, hc k hk⟩
/-- Block g is just these flagged words. -/
def FullF (w : World) (g : Nat) (ps : List (Bool × Int)) : Prop := Blk w g 41 (flc ps).toArray
section
variable {w w' : World} {g : Nat} {ps : List (Bool × Int)}
theorem flc_repl (n : Nat) : (flc (List.replicate n (false, 0))).toArray = madeCells #[.bool false, .int .i64 0] (n * 2) := by
  apply Array.ext
  · simp [flc_length, size_madeCells]
  · intro i h1 h2
    rw [List.size_toArray, flc_length, List.length_replicate] at h1
    have hj : i / 2 < (List.replicate n ((false, 0) : Bool × Int)).length := by rw [List.length_replicate]; omega
    have hat := flc_at (List.replicate n (false, 0)) (i / 2) hj
    have hv : fth (List.replicate n ((false, 0) : Bool × Int)) (i / 2) = (false, 0) := by rw [fth_eq _ _ hj]; simp
    rw [hv] at hat
    have hm : (madeCells #[Value.bool false, .int .i64 0] (n * 2))[i] = (#[Value.bool false, .int .i64 0])[i % 2]! := by simp [madeCells]
    rw [hm, List.getElem_toArray]
    rcases Nat.mod_two_eq_zero_or_one i with h3 | h3
    · have e : i = i / 2 * 2 := by omega
      have := hat.1
      rw [← e] at this
      obtain ⟨_, this⟩ := List.getElem?_eq_some_iff.1 this
      rw [this, h3]; rfl
    · have e : i = i / 2 * 2 + 1 := by omega
      have := hat.2
      rw [← e] at this
      obtain ⟨_, this⟩ := List.getElem?_eq_some_iff.1 this
      rw [this, h3]; rfl
theorem FullF.made (w : World) (n : Nat) : FullF (w.alloc (.cells (madeCells #[.bool false, .int .i64 0] (n * 2)) 41)) w.heap.size (List.replicate n (false, 0)) := by
  have h := Blk.new w 41 (madeCells #[.bool false, .int .i64 0] (n * 2))
  unfold FullF
  rw [flc_repl]
  exact h
theorem FullF.lt (h : FullF w g ps) : g < w.heap.size := Blk.lt h
theorem FullF.cell (h : FullF w g ps) (k : Nat) (hk : k < ps.length) : w.cell? ⟨g, k * 2, none⟩ = some (.bool (fth ps k).1) ∧ w.cell? ⟨g, k * 2 + 1, none⟩ = some (.int .i64 (fth ps k).2) := by
  have := flc_at ps k hk
  rw [Blk.cell h, Blk.cell h]
  simpa using this
theorem FullF.frozen (h : FullF w g ps) (k : Nat) : w.frozen? ⟨g, k, none⟩ = false := Blk.frozen h k
theorem FullF.drew (h : FullF w g ps) : FullF w.drew g ps := h
theorem FullF.alloc (h : FullF w g ps) (o : Obj) : FullF (w.alloc o) g ps := Blk.alloc h o
theorem FullF.set_ (h : FullF w g ps) (k : Nat) (hk : k < ps.length) (v : Bool × Int) : FullF ((w.setCell ⟨g, k * 2, none⟩ (.bool v.1)).setCell ⟨g, k * 2 + 1, none⟩ (.int .i64 v.2)) g (ps.set k v) := by
  have := Blk.set_ (Blk.set_ h (k * 2) (.bool v.1)) (k * 2 + 1) (.int .i64 v.2)
  unfold FullF
  rw [flc_set ps k v hk]
  simpa using this
theorem FullF.far (h : FullF w g ps) {p : Addr} (hp : g ≠ p.block) (u : Value) : FullF (w.setCell p u) g ps := Blk.far h hp u
theorem FullF.below {B : Nat} (h : FullF w g ps) (hb : Below B w w') (hB : w.heap.size ≤ B) : FullF w' g ps := Blk.below h hb (Nat.lt_of_lt_of_le h.lt hB)
theorem FullF.sl (h : FullF w g ps) : SlF w (some ⟨g, 0, none⟩) ps := fun _ => ⟨g, 0, rfl, h.lt, fun j hj => by rw [Nat.zero_add]; exact h.cell j hj⟩
end
theorem SlF.drop {w : World} {b off : Nat} {ps : List (Bool × Int)} (h : SlF w (some ⟨b, off, none⟩) ps) (k : Nat) : SlF w (some ⟨b, off + k * 2, none⟩) (ps.drop k) := fun hl => by
  rw [List.length_drop] at hl
  obtain ⟨b', o', e, hb, hc⟩ := h (by omega)
  obtain ⟨rfl, rfl⟩ : b = b' ∧ off = o' := by injection e with e; injection e with e1 e2; exact ⟨e1, e2⟩
  refine ⟨b, off + k * 2, rfl, hb, fun j hj => ?_⟩
  rw [List.length_drop] at hj
  have := hc (k + j) (by omega)
  have e2 : fth (ps.drop k) j = fth ps (k + j) := by
    rw [fth_eq _ _ (by rw [List.length_drop]; omega), fth_eq _ _ (by omega)]; simp
  rw [e2, show off + k * 2 + j * 2 = off + (k + j) * 2 by omega]
  exact this
end Go.Proofs.YtecpanppnljkhaaGreatDoor

namespace Go.Proofs.YtecpanppnljkhaaGreatDoor
set_option linter.unusedVariables false
set_option maxRecDepth 100000
open Go.RowKit Go.Shelf
theorem flag_info : (Tryz.prog.info? 41).map (fun i => (i.zero, i.size, i.bytes)) = some (some (.agg #[.bool false, .int .i64 0]), 2, 16) := by kernel_rfl
theorem info_parts2 {P : Program} {t : TypeId} {z : Value} {s b : Nat} (h : (P.info? t).map (fun i => (i.zero, i.size, i.bytes)) = some (some z, s, b)) : ∃ i, P.info? t = some i ∧ i.zero = some z ∧ i.size = s ∧ i.bytes = b := by
  obtain ⟨i, hi, hzz⟩ := Option.map_eq_some_iff.1 h
  simp only [Prod.mk.injEq] at hzz
  exact ⟨i, hi, hzz.1, hzz.2.1, hzz.2.2⟩
theorem make_flags (n : Nat) (hn : n ≤ 1048577) (W : World) : (Instr.makeSlice 42 (.int .i64 (n : Int)) (.int .i64 (n : Int))).run Tryz.prog W = .ok (.slice (some ⟨W.heap.size, 0, none⟩) n n) (W.alloc (.cells (madeCells #[.bool false, .int .i64 0] (n * 2)) 41)) := by
  obtain ⟨i, hi, hz, hs, hb⟩ := info_parts2 flag_info
  have hr := run_make (P := Tryz.prog) W 42 41 i _ Tryz.underlying42 hi hz .i64 .i64 n n (by omega) (Int.le_refl _) (by rw [hb]; omega) (by omega)
  simp only [Int.toNat_natCast, hs] at hr
  exact hr
/-- What comes of joining the first k of a list of flagged words to one, one after the other. -/
def scB (j : Bool × Int → Bool × Int → Bool × Int) (x : Bool × Int) (l : List (Bool × Int)) : Nat → Bool × Int
  | 0 => x
  | k + 1 => j (scB j x l k) (fth l k)
def mkB (f : Nat → Bool × Int) (n : Nat) : List (Bool × Int) := (List.range n).map f
theorem mkB_succ (f : Nat → Bool × Int) (n : Nat) : mkB f (n + 1) = mkB f n ++ [f n] := by simp [mkB, List.range_succ]
theorem mkB_length (f : Nat → Bool × Int) (n : Nat) : (mkB f n).length = n := by simp [mkB]
theorem fth_mkB (f : Nat → Bool × Int) (n k : Nat) (h : k < n) : fth (mkB f n) k = f k := by
  rw [fth_eq _ _ (by rw [mkB_length]; exact h)]; simp [mkB]
theorem fth_app_lt (a b : List (Bool × Int)) (k : Nat) (h : k < a.length) : fth (a ++ b) k = fth a k := by
  rw [fth_eq _ _ (by rw [List.length_append]; omega), fth_eq _ _ h, List.getElem_append_left h]
theorem mkB_set (f : Nat → Bool × Int) (n k : Nat) (z : Bool × Int) (hk : k < n) : (mkB f k ++ List.replicate (n - k) z).set k (f k) = mkB f (k + 1) ++ List.replicate (n - (k + 1)) z := by
  rw [mkB_succ, List.set_append_right _ _ (by rw [mkB_length]; exact Nat.le_refl _), mkB_length, Nat.sub_self, show n - k = (n - (k + 1)) + 1 by omega, List.replicate_succ, List.set_cons_zero, List.append_assoc]
  rfl
def RetF (w : World) (ps : List (Bool × Int)) (e : Ending) (w' : World) : Prop := ∃ g : Nat, e = .returned (.slice (some ⟨g, 0, none⟩) ps.length ps.length) ∧ SlF w' (some ⟨g, 0, none⟩) ps ∧ Below w.heap.size w w'
set_option maxHeartbeats 4000000 in
theorem inOrderF_any (op x : Int) (g : Nat) (A : Option Addr) (c : Nat) (l : List (Bool × Int)) (w : World) (hg : Blk w g 3 #[.int .i64 op]) (h : SlF w A l) (hl : l.length ≤ 1048576) :
    Calls Tryz.prog 67 #[.func (.func 64) #[.agg #[.int .i64 x, .func (.func 87) #[] #[.pointer (some ⟨g, 0, none⟩)]]] #[], .agg #[.bool false, .int .i64 x], .slice A l.length c] w (RetF w (mkB (scB (bothN (doN op) x) (false, x) l) (l.length + 1))) := by
  have hB0 : Below w.heap.size w (w.alloc (.cells #[.bool false, .int .i64 x] 41)) := (Below.refl _ _).alloc (Nat.le_refl _) _
  have b0 := (Blk.new w 41 #[.bool false, .int .i64 x]).alloc (.cells (madeCells #[.bool false, .int .i64 0] ((l.length + 1) * 2)) 41)
  have hmk := make_flags (l.length + 1) (by omega) (w.alloc (.cells #[.bool false, .int .i64 x] 41))
  rw [show ((l.length + 1 : Nat) : Int) = (l.length : Int) + 1 from by omega] at hmk
  have fS := FullF.made (w.alloc (.cells #[.bool false, .int .i64 x] 41)) (l.length + 1)
  have hB1 : Below w.heap.size w ((w.alloc (.cells #[.bool false, .int .i64 x] 41)).alloc (.cells (madeCells #[.bool false, .int .i64 0] ((l.length + 1) * 2)) 41)) := hB0.alloc (by simp) _
  simp only [World.size_alloc] at hmk fS
  obtain ⟨wm, hwm⟩ : ∃ wm, (w.alloc (.cells #[.bool false, .int .i64 x] 41)).alloc (.cells (madeCells #[.bool false, .int .i64 0] ((l.length + 1) * 2)) 41) = wm := ⟨_, rfl⟩
  rw [hwm] at fS hB1 hmk b0
  have c0 := fS.cell 0 (by simp)
  obtain ⟨c00, c01⟩ := c0
  have f0 := fS.frozen 0
  have f1 := fS.frozen 1
  have x0 := b0.cell 0
  have x1 := b0.cell 1
  simp at x0 x1 c00 c01
  have fS1 := fS.set_ 0 (by simp) (false, x)
  have hB2 := (hB1.setCell (p := ⟨w.heap.size + 1, 0 * 2, none⟩) (by show _ ≤ w.heap.size + 1; omega) (.bool false)).setCell (p := ⟨w.heap.size + 1, 0 * 2 + 1, none⟩) (by show _ ≤ w.heap.size + 1; omega) (.int .i64 x)
  rw [show (List.replicate (l.length + 1) ((false, 0) : Bool × Int)).set 0 (false, x) = mkB (scB (bothN (doN op) x) (false, x) l) 1 ++ List.replicate l.length (false, 0) by rw [List.replicate_succ]; rfl] at fS1
  have hn0 : (0 : Int) < (l.length : Int) + 1 := by omega
  have HS := Lib.hid fS1
  have HB := Lib.hid hB2
  clear hwm hB0 fS1 hB1 fS hB2 b0
  go_enter Tryz.func67, Tryz.ntmps67
  go_wp2
  go_loopw [19] (fun i wr => ∃ k : Nat, k ≤ l.length ∧ i = .int .i64 k ∧ FullF wr (w.heap.size + 1) (mkB (scB (bothN (doN op) x) (false, x) l) (k + 1) ++ List.replicate (l.length - k) (false, 0)) ∧ Below w.heap.size w wr) (fun i _ => l.length - (intOf i).toNat)
  case atStart => exact ⟨0, Nat.zero_le _, rfl, HS.out, HB.out⟩
  case round =>
    clear HS HB c00 c01 f0 f1 x0 x1 hmk
    obtain ⟨k, hk, rfl, hF, hB⟩ := hrel
    by_cases hlt : k < l.length
    · obtain ⟨b, o, rfl, hb, hc0, hc1⟩ := (h.step hB).at_ hlt
      have hgk := hg.below hB hg.lt
      have hlc : (mkB (scB (bothN (doN op) x) (false, x) l) (k + 1) ++ List.replicate (l.length - k) (false, 0)).length = l.length + 1 := by rw [List.length_append, mkB_length, List.length_replicate]; omega
      have hcur : fth (mkB (scB (bothN (doN op) x) (false, x) l) (k + 1) ++ List.replicate (l.length - k) (false, 0)) k = scB (bothN (doN op) x) (false, x) l k := by
        rw [fth_app_lt _ _ _ (by rw [mkB_length]; omega), fth_mkB _ _ _ (by omega)]
      have HK : Hid (scB (bothN (doN op) x) (false, x) l (k + 1) = bothN (doN op) x (scB (bothN (doN op) x) (false, x) l k) (fth l k)) := Lib.hid rfl
      have HM := Lib.hid (mkB_set (scB (bothN (doN op) x) (false, x) l) (l.length + 1) (k + 1) (false, 0) (by omega))
      obtain ⟨y, hy⟩ : ∃ y, fth l k = y := ⟨_, rfl⟩
      obtain ⟨z, hz⟩ : ∃ z, scB (bothN (doN op) x) (false, x) l k = z := ⟨_, rfl⟩
      rw [hy] at hc0 hc1 HK
      rw [hz] at hcur HK
      obtain ⟨y1, y2⟩ := y
      obtain ⟨z1, z2⟩ := z
      obtain ⟨r, hr⟩ : ∃ r, bothN (doN op) x (z1, z2) (y1, y2) = r := ⟨_, rfl⟩
      have CB := fun W hW => fboth_any op x g z1 y1 z2 y2 W hW
      rw [hr] at HK CB
      obtain ⟨CUR, hCUR⟩ : ∃ CUR, mkB (scB (bothN (doN op) x) (false, x) l) (k + 1) ++ List.replicate (l.length - k) (false, 0) = CUR := ⟨_, rfl⟩
      rw [hCUR] at hF hlc hcur
      have HCU := Lib.hid hCUR
      have HF2 : Hid (CUR.set (k + 1) r = mkB (scB (bothN (doN op) x) (false, x) l) (k + 1 + 1) ++ List.replicate (l.length - (k + 1)) (false, 0)) := Lib.hid (by rw [← hCUR, ← HK.out, show l.length - k = l.length + 1 - (k + 1) by omega, HM.out, show l.length - (k + 1) = l.length + 1 - (k + 1 + 1) by omega])
      have HLC := Lib.hid hlc
      have HCR := Lib.hid hcur
      have CB := Lib.hid CB
      have q1 : (0 : Int) ≤ (k : Int) := by omega
      have q2 : (k : Int) < (l.length : Int) := by omega
      have q3 : (k : Int) < (l.length : Int) + 1 := by omega
      have q4 : (k : Int) + 1 < (l.length : Int) + 1 := by omega
      have q5 : (0 : Int) ≤ (k : Int) + 1 := by omega
      have hnn : ((k : Int) + 1).toNat = k + 1 := by omega
      have hwk : IntKind.i64.wrap ((k : Int) + 1) = (k : Int) + 1 := IntWalk.i64_in _ (by omega)
      have bX := Blk.new wr 41 #[.bool y1, .int .i64 y2]
      have s1 := hF.alloc (.cells #[.bool y1, .int .i64 y2] 41)
      have s3 := hgk.alloc (.cells #[.bool y1, .int .i64 y2] 41)
      have hs0 := hB.size
      have s4 := hB.alloc hs0 (.cells #[.bool y1, .int .i64 y2] 41)
      have hsw : w.heap.size + 1 < wr.heap.size := hF.lt
      clear hy hz hr hCUR hlc hcur
      go_wp2
      refine wp_region_tab (fun W' => FullF W' (w.heap.size + 1) CUR ∧ Blk W' wr.heap.size 41 #[.bool y1, .int .i64 y2] ∧ Blk W' g 3 #[.int .i64 op] ∧ Below w.heap.size w W') 11 (by kernel_rfl) (by kernel_rfl) ⟨s1.drew, bX.drew, s3.drew, s4.drew⟩ ?_
      simp only [List.take_succ_cons, List.take_zero, List.drop_succ_cons, List.drop_zero]
      refine wpTab_value (v := .slice (some ⟨w.heap.size + 1, 0, none⟩) (l.length + 1) (l.length + 1)) (fun W hW => ?_) ?_
      · (obtain ⟨p1, p2, p3, p4⟩ := hW; obtain ⟨t00, t01⟩ := p1.cell k (by rw [HLC.out]; omega); rw [HCR.out] at t00 t01; have t10 := p2.cell 0; have t11 := p2.cell 1; simp at t10 t11; go_simp; try with_reducible rfl)
      simp only [Act.put, List.setIfInBounds_toArray, List.set_cons_zero, List.set_cons_succ]
      refine wpTab_value (v := .int .i64 (k : Int)) (fun W hW => ?_) ?_
      · (obtain ⟨p1, p2, p3, p4⟩ := hW; obtain ⟨t00, t01⟩ := p1.cell k (by rw [HLC.out]; omega); rw [HCR.out] at t00 t01; have t10 := p2.cell 0; have t11 := p2.cell 1; simp at t10 t11; go_simp; try with_reducible rfl)
      simp only [Act.put, List.setIfInBounds_toArray, List.set_cons_zero, List.set_cons_succ]
      refine wpTab_value (v := .int .i64 ((k : Int) + 1)) (fun W hW => ?_) ?_
      · (obtain ⟨p1, p2, p3, p4⟩ := hW; obtain ⟨t00, t01⟩ := p1.cell k (by rw [HLC.out]; omega); rw [HCR.out] at t00 t01; have t10 := p2.cell 0; have t11 := p2.cell 1; simp at t10 t11; go_simp; try with_reducible rfl)
      simp only [Act.put, List.setIfInBounds_toArray, List.set_cons_zero, List.set_cons_succ]
      refine wpTab_value (v := .func (.func 64) #[.agg #[.int .i64 x, .func (.func 87) #[] #[.pointer (some ⟨g, 0, none⟩)]]] #[]) (fun W hW => ?_) ?_
      · (obtain ⟨p1, p2, p3, p4⟩ := hW; obtain ⟨t00, t01⟩ := p1.cell k (by rw [HLC.out]; omega); rw [HCR.out] at t00 t01; have t10 := p2.cell 0; have t11 := p2.cell 1; simp at t10 t11; go_simp; try with_reducible rfl)
      simp only [Act.put, List.setIfInBounds_toArray, List.set_cons_zero, List.set_cons_succ]
      refine wpTab_value (v := .slice (some ⟨w.heap.size + 1, 0, none⟩) (l.length + 1) (l.length + 1)) (fun W hW => ?_) ?_
      · (obtain ⟨p1, p2, p3, p4⟩ := hW; obtain ⟨t00, t01⟩ := p1.cell k (by rw [HLC.out]; omega); rw [HCR.out] at t00 t01; have t10 := p2.cell 0; have t11 := p2.cell 1; simp at t10 t11; go_simp; try with_reducible rfl)
      simp only [Act.put, List.setIfInBounds_toArray, List.set_cons_zero, List.set_cons_succ]
      refine wpTab_value (v := .int .i64 (k : Int)) (fun W hW => ?_) ?_
      · (obtain ⟨p1, p2, p3, p4⟩ := hW; obtain ⟨t00, t01⟩ := p1.cell k (by rw [HLC.out]; omega); rw [HCR.out] at t00 t01; have t10 := p2.cell 0; have t11 := p2.cell 1; simp at t10 t11; go_simp; try with_reducible rfl)
      simp only [Act.put, List.setIfInBounds_toArray, List.set_cons_zero, List.set_cons_succ]
      refine wpTab_value (v := .pointer (some ⟨w.heap.size + 1, k * 2, none⟩)) (fun W hW => ?_) ?_
      · (obtain ⟨p1, p2, p3, p4⟩ := hW; obtain ⟨t00, t01⟩ := p1.cell k (by rw [HLC.out]; omega); rw [HCR.out] at t00 t01; have t10 := p2.cell 0; have t11 := p2.cell 1; simp at t10 t11; go_simp; try with_reducible rfl)
      simp only [Act.put, List.setIfInBounds_toArray, List.set_cons_zero, List.set_cons_succ]
      refine wpTab_value (v := .agg #[.bool z1, .int .i64 z2]) (fun W hW => ?_) ?_
      · (obtain ⟨p1, p2, p3, p4⟩ := hW; obtain ⟨t00, t01⟩ := p1.cell k (by rw [HLC.out]; omega); rw [HCR.out] at t00 t01; have t10 := p2.cell 0; have t11 := p2.cell 1; simp at t10 t11; go_simp; try with_reducible rfl)
      simp only [Act.put, List.setIfInBounds_toArray, List.set_cons_zero, List.set_cons_succ]
      refine wpTab_value (v := .agg #[.bool y1, .int .i64 y2]) (fun W hW => ?_) ?_
      · (obtain ⟨p1, p2, p3, p4⟩ := hW; obtain ⟨t00, t01⟩ := p1.cell k (by rw [HLC.out]; omega); rw [HCR.out] at t00 t01; have t10 := p2.cell 0; have t11 := p2.cell 1; simp at t10 t11; go_simp; try with_reducible rfl)
      simp only [Act.put, List.setIfInBounds_toArray, List.set_cons_zero, List.set_cons_succ]
      refine wpTab_call (f := 64) (args := #[.agg #[.int .i64 x, .func (.func 87) #[] #[.pointer (some ⟨g, 0, none⟩)]], .agg #[.bool z1, .int .i64 z2], .agg #[.bool y1, .int .i64 y2]]) (v := .agg #[.bool r.1, .int .i64 r.2]) (fun W => ?_) (fun W hW => ?_) ?_
      · (go_simp; try with_reducible rfl)
      · exact (CB.out W hW.2.2.1).mono (fun e w' ⟨he, hb'⟩ => ⟨he, hW.1.below hb' (Nat.le_refl _), hW.2.1.below hb' hW.2.1.lt, hW.2.2.1.below hb' hW.2.2.1.lt, hW.2.2.2.trans (hb'.mono hW.2.2.2.size)⟩)
      simp only [Act.put, List.setIfInBounds_toArray, List.set_cons_zero, List.set_cons_succ]
      refine wpTab_value (v := .pointer (some ⟨w.heap.size + 1, (k + 1) * 2, none⟩)) (fun W hW => ?_) ?_
      · (obtain ⟨p1, p2, p3, p4⟩ := hW; obtain ⟨t00, t01⟩ := p1.cell k (by rw [HLC.out]; omega); rw [HCR.out] at t00 t01; have t10 := p2.cell 0; have t11 := p2.cell 1; simp at t10 t11; go_simp; try with_reducible rfl)
      simp only [Act.put, List.setIfInBounds_toArray, List.set_cons_zero, List.set_cons_succ]
      refine wpTab_nil (fun w2 hz => ?_)
      obtain ⟨p1, p2, p3, p4⟩ := hz
      obtain ⟨t00, t01⟩ := p1.cell (k + 1) (by rw [HLC.out]; omega)
      have tf0 := p1.frozen ((k + 1) * 2)
      have tf1 := p1.frozen ((k + 1) * 2 + 1)
      have P1 := Lib.hid (p1.set_ (k + 1) (by rw [HLC.out]; omega) r)
      have P4 := Lib.hid ((p4.setCell (p := ⟨w.heap.size + 1, (k + 1) * 2, none⟩) (by show w.heap.size ≤ w.heap.size + 1; omega) (.bool r.1)).setCell (p := ⟨w.heap.size + 1, (k + 1) * 2 + 1, none⟩) (by show w.heap.size ≤ w.heap.size + 1; omega) (.int .i64 r.2))
      clear p1 p2 p3 p4 hb hc0 hc1 hgk bX s1 s3 s4 hF
      go_wp2
      go_roundw
      case rel => exact ⟨k + 1, by omega, by go_num, by have := P1.out; rw [HF2.out] at this; exact this, P4.out⟩
      case measure => simp [intOf]; omega
    · obtain rfl : k = l.length := by omega
      have HL := Lib.hid (mkB_length (scB (bothN (doN op) x) (false, x) l) (l.length + 1))
      have hs := hF.sl
      rw [Nat.sub_self, List.replicate_zero, List.append_nil] at hs
      go_wp2
      go_ret
      exact ⟨w.heap.size + 1, by rw [HL.out]; rfl, hs, hB⟩
end Go.Proofs.YtecpanppnljkhaaGreatDoor

namespace Go.Proofs.YtecpanppnljkhaaGreatDoor
set_option linter.unusedVariables false
set_option maxRecDepth 100000
open Go.RowKit Go.Shelf
def jE (op m n : Int) : Int := if neE op = 0 then (if isWb m = true ∧ isWb n = true then 0 else 2) else neE op
def jV (op : Int) (a b : Bool × Int) : Bool × Int := if jE op a.2 b.2 = 0 then bothN (doN op) (neN op) a b else (false, 0)
/-- Join returns a flagged word, and an error. -/
def RetJ (v : Bool × Int) (er : Int) (w : World) (e : Ending) (w' : World) : Prop := e = .returned (.tuple #[flV v, .int .i64 er]) ∧ Below w.heap.size w w'
set_option maxHeartbeats 4000000 in
theorem joinF_any (op : Int) (p q : Bool) (m n : Int) (w : World) (hI : Inv w) :
    Calls Tryz.prog 24 #[.int .i64 op, .agg #[.bool p, .int .i64 m], .agg #[.bool q, .int .i64 n]] w (RetJ (jV op (p, m) (q, n)) (jE op m n) w) := by
  have b1 := ((Blk.new w 41 #[.bool p, .int .i64 m]).alloc (.cells #[.bool q, .int .i64 n] 41)).alloc (.cells #[.bool false, .int .i64 0] 41)
  have b2 := (Blk.new (w.alloc (.cells #[.bool p, .int .i64 m] 41)) 41 #[.bool q, .int .i64 n]).alloc (.cells #[.bool false, .int .i64 0] 41)
  have b3 := Blk.new ((w.alloc (.cells #[.bool p, .int .i64 m] 41)).alloc (.cells #[.bool q, .int .i64 n] 41)) 41 #[.bool false, .int .i64 0]
  simp only [World.size_alloc] at b2 b3
  have hB0 : Below w.heap.size w (((w.alloc (.cells #[.bool p, .int .i64 m] 41)).alloc (.cells #[.bool q, .int .i64 n] 41)).alloc (.cells #[.bool false, .int .i64 0] 41)) := (((Below.refl _ _).alloc (Nat.le_refl _) _).alloc (by simp) _).alloc (by simp; omega) _
  have hsz : w.heap.size + 3 ≤ (((w.alloc (.cells #[.bool p, .int .i64 m] 41)).alloc (.cells #[.bool q, .int .i64 n] 41)).alloc (.cells #[.bool false, .int .i64 0] 41)).heap.size := by simp
  have hI1 := hI.below hB0
  have C1 := operationOf_any op _ hI1
  obtain ⟨W0, hW0⟩ : ∃ W0, (((w.alloc (.cells #[.bool p, .int .i64 m] 41)).alloc (.cells #[.bool q, .int .i64 n] 41)).alloc (.cells #[.bool false, .int .i64 0] 41)) = W0 := ⟨_, rfl⟩
  rw [hW0] at b1 b2 b3 hB0 hsz C1
  by_cases hne : neE op = 0
  case neg =>
    have hd : (neE op != 0) = true := by rw [bne_iff_ne]; exact hne
    have HN := Lib.hid hne
    have HE : Hid (jE op m n = neE op) := Lib.hid (by unfold jE; rw [if_neg hne])
    have HV : Hid (jV op (p, m) (q, n) = (false, 0)) := Lib.hid (by unfold jV; rw [if_neg (by rw [HE.out]; exact hne)])
    obtain ⟨y, hy⟩ : ∃ y, neE op = y := ⟨_, rfl⟩
    rw [hy] at C1 hd HE HN
    have C1 := Lib.hid C1
    clear hne hy
    go_enter Tryz.func24, Tryz.ntmps24
    go_wp2_with fail
    refine C1.out.mono ?_
    rintro e w1 ⟨n', f, rfl, hB, hg, hz⟩
    obtain ⟨rfl, rfl⟩ := hz HN.out
    clear hg hz
    have d1 := b1.below hB b1.lt
    have d2 := b2.below hB b2.lt
    have d3 := b3.below hB b3.lt
    have e1 := d1.alloc (.cells #[.int .i64 0, .nilFunc] 58)
    have e2 := d2.alloc (.cells #[.int .i64 0, .nilFunc] 58)
    have e3 := d3.alloc (.cells #[.int .i64 0, .nilFunc] 58)
    have k10 := e1.cell 0
    have k11 := e1.cell 1
    have k20 := e2.cell 0
    have k21 := e2.cell 1
    have k30 := e3.cell 0
    have k31 := e3.cell 1
    simp at k10 k11 k20 k21 k30 k31
    have kf0 := e3.frozen 0
    have kf1 := e3.frozen 1
    have hB1 := hB0.trans (hB.mono hB0.size)
    have hB2 := hB1.alloc hB1.size (.cells #[.int .i64 0, .nilFunc] 58)
    go_wp2
    refine bodyPost_ret (v := .tuple #[.agg #[.bool false, .int .i64 0], .int .i64 y]) ?_ rfl ⟨by rw [HE.out, HV.out]; rfl, ?_⟩
    · simp [results, Tryz.f24, go_sem, e3.cell]
    · exact (hB2.setCell (p := ⟨w.heap.size + 1 + 1, 0, none⟩) (by simp; omega) _).setCell (p := ⟨w.heap.size + 1 + 1, 1, none⟩) (by simp; omega) _
  by_cases hm : isWb m = true
  case neg =>
    have hm' := bf hm
    have HE : Hid (jE op m n = 2) := Lib.hid (by unfold jE; rw [if_pos hne, if_neg (fun h => hm h.1)])
    have HV : Hid (jV op (p, m) (q, n) = (false, 0)) := Lib.hid (by unfold jV; rw [if_neg (by rw [HE.out]; decide)])
    rw [hne] at C1
    have C1 := Lib.hid C1
    clear hne hm
    go_enter Tryz.func24, Tryz.ntmps24
    go_wp2_with fail
    refine C1.out.mono ?_
    rintro e w1 ⟨n', f, rfl, hB, hg, hz⟩
    obtain ⟨rfl, g, rfl, hgl, hgb⟩ := hg rfl
    clear hz
    have d1 := b1.below hB b1.lt
    have d2 := b2.below hB b2.lt
    have d3 := b3.below hB b3.lt
    have e1 := d1.alloc (.cells #[.int .i64 (neN op), .func (.func 87) #[] #[.pointer (some ⟨g, 0, none⟩)]] 58)
    have e2 := d2.alloc (.cells #[.int .i64 (neN op), .func (.func 87) #[] #[.pointer (some ⟨g, 0, none⟩)]] 58)
    have e3 := d3.alloc (.cells #[.int .i64 (neN op), .func (.func 87) #[] #[.pointer (some ⟨g, 0, none⟩)]] 58)
    have hgb2 := hgb.alloc (.cells #[.int .i64 (neN op), .func (.func 87) #[] #[.pointer (some ⟨g, 0, none⟩)]] 58)
    have e6 := Blk.new w1 58 #[.int .i64 (neN op), .func (.func 87) #[] #[.pointer (some ⟨g, 0, none⟩)]]
    have k10 := e1.cell 0
    have k11 := e1.cell 1
    have k20 := e2.cell 0
    have k21 := e2.cell 1
    have k30 := e3.cell 0
    have k31 := e3.cell 1
    simp at k10 k11 k20 k21 k30 k31
    have kf0 := e3.frozen 0
    have kf1 := e3.frozen 1
    have hB1 := hB0.trans (hB.mono hB0.size)
    have hB2 := hB1.alloc hB1.size (.cells #[.int .i64 (neN op), .func (.func 87) #[] #[.pointer (some ⟨g, 0, none⟩)]] 58)
    go_wp2_with fail
    refine (isFlagged_any p m _).mono ?_
    rintro e w2 ⟨rfl, hBc⟩
    clear k10 k11 k20 k21 k30 k31 kf0 kf1
    have h1 := e1.below hBc e1.lt
    have h2 := e2.below hBc e2.lt
    have h3 := e3.below hBc e3.lt
    have h6 := e6.below hBc e6.lt
    have h60 := h6.cell 0
    have h61 := h6.cell 1
    simp at h60 h61
    have hgb3 := hgb2.below hBc hgb2.lt
    have l10 := h1.cell 0
    have l11 := h1.cell 1
    have l20 := h2.cell 0
    have l21 := h2.cell 1
    have l30 := h3.cell 0
    have l31 := h3.cell 1
    simp at l10 l11 l20 l21 l30 l31
    have lf0 := h3.frozen 0
    have lf1 := h3.frozen 1
    have hB3 := hB2.trans (hBc.mono hB2.size)
    go_wp2
    refine bodyPost_ret (v := .tuple #[.agg #[.bool false, .int .i64 0], .int .i64 2]) ?_ rfl ⟨by rw [HE.out, HV.out]; rfl, ?_⟩
    · simp [results, Tryz.f24, go_sem, h3.cell]
    · exact (hB3.setCell (p := ⟨w.heap.size + 1 + 1, 0, none⟩) (by simp; omega) _).setCell (p := ⟨w.heap.size + 1 + 1, 1, none⟩) (by simp; omega) _
  by_cases hn : isWb n = true
  case neg =>
    have hn' := bf hn
    have HE : Hid (jE op m n = 2) := Lib.hid (by unfold jE; rw [if_pos hne, if_neg (fun h => hn h.2)])
    have HV : Hid (jV op (p, m) (q, n) = (false, 0)) := Lib.hid (by unfold jV; rw [if_neg (by rw [HE.out]; decide)])
    rw [hne] at C1
    have C1 := Lib.hid C1
    clear hne hn
    go_enter Tryz.func24, Tryz.ntmps24
    go_wp2_with fail
    refine C1.out.mono ?_
    rintro e w1 ⟨n', f, rfl, hB, hg, hz⟩
    obtain ⟨rfl, g, rfl, hgl, hgb⟩ := hg rfl
    clear hz
    have d1 := b1.below hB b1.lt
    have d2 := b2.below hB b2.lt
    have d3 := b3.below hB b3.lt
    have e1 := d1.alloc (.cells #[.int .i64 (neN op), .func (.func 87) #[] #[.pointer (some ⟨g, 0, none⟩)]] 58)
    have e2 := d2.alloc (.cells #[.int .i64 (neN op), .func (.func 87) #[] #[.pointer (some ⟨g, 0, none⟩)]] 58)
    have e3 := d3.alloc (.cells #[.int .i64 (neN op), .func (.func 87) #[] #[.pointer (some ⟨g, 0, none⟩)]] 58)
    have hgb2 := hgb.alloc (.cells #[.int .i64 (neN op), .func (.func 87) #[] #[.pointer (some ⟨g, 0, none⟩)]] 58)
    have e6 := Blk.new w1 58 #[.int .i64 (neN op), .func (.func 87) #[] #[.pointer (some ⟨g, 0, none⟩)]]
    have k10 := e1.cell 0
    have k11 := e1.cell 1
    have k20 := e2.cell 0
    have k21 := e2.cell 1
    have k30 := e3.cell 0
    have k31 := e3.cell 1
    simp at k10 k11 k20 k21 k30 k31
    have kf0 := e3.frozen 0
    have kf1 := e3.frozen 1
    have hB1 := hB0.trans (hB.mono hB0.size)
    have hB2 := hB1.alloc hB1.size (.cells #[.int .i64 (neN op), .func (.func 87) #[] #[.pointer (some ⟨g, 0, none⟩)]] 58)
    go_wp2_with fail
    refine (isFlagged_any p m _).mono ?_
    rintro e w2 ⟨rfl, hBc⟩
    clear k10 k11 k20 k21 k30 k31 kf0 kf1
    have h1 := e1.below hBc e1.lt
    have h2 := e2.below hBc e2.lt
    have h3 := e3.below hBc e3.lt
    have h6 := e6.below hBc e6.lt
    have h60 := h6.cell 0
    have h61 := h6.cell 1
    simp at h60 h61
    have hgb3 := hgb2.below hBc hgb2.lt
    have l10 := h1.cell 0
    have l11 := h1.cell 1
    have l20 := h2.cell 0
    have l21 := h2.cell 1
    have l30 := h3.cell 0
    have l31 := h3.cell 1
    simp at l10 l11 l20 l21 l30 l31
    have lf0 := h3.frozen 0
    have lf1 := h3.frozen 1
    have hB3 := hB2.trans (hBc.mono hB2.size)
    go_wp2_with fail
    refine (isFlagged_any q n _).mono ?_
    rintro e w3 ⟨rfl, hBd⟩
    clear l10 l11 l20 l21 l30 l31 lf0 lf1 h60 h61
    have j1 := h1.below hBd h1.lt
    have j2 := h2.below hBd h2.lt
    have j3 := h3.below hBd h3.lt
    have j6 := h6.below hBd h6.lt
    have j60 := j6.cell 0
    have j61 := j6.cell 1
    simp at j60 j61
    have hgb4 := hgb3.below hBd hgb3.lt
    have o10 := j1.cell 0
    have o11 := j1.cell 1
    have o20 := j2.cell 0
    have o21 := j2.cell 1
    have o30 := j3.cell 0
    have o31 := j3.cell 1
    simp at o10 o11 o20 o21 o30 o31
    have of0 := j3.frozen 0
    have of1 := j3.frozen 1
    have hB4 := hB3.trans (hBd.mono hB3.size)
    go_wp2
    refine bodyPost_ret (v := .tuple #[.agg #[.bool false, .int .i64 0], .int .i64 2]) ?_ rfl ⟨by rw [HE.out, HV.out]; rfl, ?_⟩
    · simp [results, Tryz.f24, go_sem, j3.cell]
    · exact (hB4.setCell (p := ⟨w.heap.size + 1 + 1, 0, none⟩) (by simp; omega) _).setCell (p := ⟨w.heap.size + 1 + 1, 1, none⟩) (by simp; omega) _
  case pos =>
    have HE : Hid (jE op m n = 0) := Lib.hid (by unfold jE; rw [if_pos hne, if_pos ⟨hm, hn⟩])
    have HV : Hid (jV op (p, m) (q, n) = bothN (doN op) (neN op) (p, m) (q, n)) := Lib.hid (by unfold jV; rw [if_pos HE.out])
    rw [hne] at C1
    have C1 := Lib.hid C1
    clear hne
    go_enter Tryz.func24, Tryz.ntmps24
    go_wp2_with fail
    refine C1.out.mono ?_
    rintro e w1 ⟨n', f, rfl, hB, hg, hz⟩
    obtain ⟨rfl, g, rfl, hgl, hgb⟩ := hg rfl
    clear hz
    have d1 := b1.below hB b1.lt
    have d2 := b2.below hB b2.lt
    have d3 := b3.below hB b3.lt
    have e1 := d1.alloc (.cells #[.int .i64 (neN op), .func (.func 87) #[] #[.pointer (some ⟨g, 0, none⟩)]] 58)
    have e2 := d2.alloc (.cells #[.int .i64 (neN op), .func (.func 87) #[] #[.pointer (some ⟨g, 0, none⟩)]] 58)
    have e3 := d3.alloc (.cells #[.int .i64 (neN op), .func (.func 87) #[] #[.pointer (some ⟨g, 0, none⟩)]] 58)
    have hgb2 := hgb.alloc (.cells #[.int .i64 (neN op), .func (.func 87) #[] #[.pointer (some ⟨g, 0, none⟩)]] 58)
    have e6 := Blk.new w1 58 #[.int .i64 (neN op), .func (.func 87) #[] #[.pointer (some ⟨g, 0, none⟩)]]
    have k10 := e1.cell 0
    have k11 := e1.cell 1
    have k20 := e2.cell 0
    have k21 := e2.cell 1
    have k30 := e3.cell 0
    have k31 := e3.cell 1
    simp at k10 k11 k20 k21 k30 k31
    have kf0 := e3.frozen 0
    have kf1 := e3.frozen 1
    have hB1 := hB0.trans (hB.mono hB0.size)
    have hB2 := hB1.alloc hB1.size (.cells #[.int .i64 (neN op), .func (.func 87) #[] #[.pointer (some ⟨g, 0, none⟩)]] 58)
    go_wp2_with fail
    refine (isFlagged_any p m _).mono ?_
    rintro e w2 ⟨rfl, hBc⟩
    clear k10 k11 k20 k21 k30 k31 kf0 kf1
    have h1 := e1.below hBc e1.lt
    have h2 := e2.below hBc e2.lt
    have h3 := e3.below hBc e3.lt
    have h6 := e6.below hBc e6.lt
    have h60 := h6.cell 0
    have h61 := h6.cell 1
    simp at h60 h61
    have hgb3 := hgb2.below hBc hgb2.lt
    have l10 := h1.cell 0
    have l11 := h1.cell 1
    have l20 := h2.cell 0
    have l21 := h2.cell 1
    have l30 := h3.cell 0
    have l31 := h3.cell 1
    simp at l10 l11 l20 l21 l30 l31
    have lf0 := h3.frozen 0
    have lf1 := h3.frozen 1
    have hB3 := hB2.trans (hBc.mono hB2.size)
    go_wp2_with fail
    refine (isFlagged_any q n _).mono ?_
    rintro e w3 ⟨rfl, hBd⟩
    clear l10 l11 l20 l21 l30 l31 lf0 lf1 h60 h61
    have j1 := h1.below hBd h1.lt
    have j2 := h2.below hBd h2.lt
    have j3 := h3.below hBd h3.lt
    have j6 := h6.below hBd h6.lt
    have j60 := j6.cell 0
    have j61 := j6.cell 1
    simp at j60 j61
    have hgb4 := hgb3.below hBd hgb3.lt
    have o10 := j1.cell 0
    have o11 := j1.cell 1
    have o20 := j2.cell 0
    have o21 := j2.cell 1
    have o30 := j3.cell 0
    have o31 := j3.cell 1
    simp at o10 o11 o20 o21 o30 o31
    have of0 := j3.frozen 0
    have of1 := j3.frozen 1
    have hB4 := hB3.trans (hBd.mono hB3.size)
    have C3 := fboth_any op (neN op) g p q m n w3 hgb4
    obtain ⟨r, hr⟩ : ∃ r, bothN (doN op) (neN op) (p, m) (q, n) = r := ⟨_, rfl⟩
    rw [hr] at C3 HV
    have C3 := Lib.hid C3
    clear hr
    go_wp2_with fail
    refine C3.out.mono ?_
    rintro e w4 ⟨rfl, hBe⟩
    clear o10 o11 o20 o21 o30 o31 of0 of1 j60 j61
    have s3 := j3.below hBe j3.lt
    have s30 := s3.cell 0
    have s31 := s3.cell 1
    simp at s30 s31
    have sf0 := s3.frozen 0
    have sf1 := s3.frozen 1
    have hB5 := hB4.trans (hBe.mono hB4.size)
    unfold flV
    go_wp2
    refine bodyPost_ret (v := .tuple #[.agg #[.bool r.1, .int .i64 r.2], .int .i64 0]) ?_ rfl ⟨by rw [HE.out, HV.out]; rfl, ?_⟩
    · simp [results, Tryz.f24, go_sem, s3.cell]
    · exact (hB5.setCell (p := ⟨w.heap.size + 1 + 1, 0, none⟩) (by simp; omega) _).setCell (p := ⟨w.heap.size + 1 + 1, 1, none⟩) (by simp; omega) _
end Go.Proofs.YtecpanppnljkhaaGreatDoor

namespace Go.Proofs.YtecpanppnljkhaaGreatDoor
set_option linter.unusedVariables false
set_option maxRecDepth 100000
open Go.RowKit Go.Shelf
theorem slice_f1 (b n : Nat) (ps : List (Bool × Int)) (w : World) (h : SlF w (some ⟨b, 0, none⟩) ps) (hn : ps.length = n + 1) (hm : n ≤ 1048576) :
    ∃ o', (∀ W, (Instr.sliceAt 42 (.slice (some ⟨b, 0, none⟩) (n + 1) (n + 1)) (some (.int .i64 1)) none none).run Tryz.prog W = .ok (.slice (some ⟨b, o', none⟩) n n) W) ∧ SlF w (some ⟨b, o', none⟩) (ps.drop 1) := by
  obtain ⟨i0, hi, hz0, hz1, hz2⟩ := info_parts2 flag_info
  have he : Tryz.prog.elem 42 = 41 := by kernel_rfl
  have hrun : ∀ W, (Instr.slice 42 (.slice (some ⟨b, 0, none⟩) (n + 1) (n + 1)) (some (.int .i64 ((1 : Nat) : Int))) none none).run Tryz.prog W = .ok (sliced (some ⟨b, 0, none⟩) 1 (n + 1) (n + 1) 2) W := fun W => by
    rw [run_slice_l W 42 (some ⟨b, 0, none⟩) (n + 1) (n + 1) (by rw [he]; exact Tryz.underlying42) .i64 ((1 : Nat) : Int) (by omega) (by omega), he]
    simp [sizeOf, typeInfo, hi, hz1, Result.andThen]
  unfold sliced at hrun
  simp only [Option.map_some, add_plain, Nat.add_sub_cancel] at hrun
  rw [show ((1 : Nat) : Int) = 1 from rfl] at hrun
  by_cases hcl : n + 1 = 1
  · refine ⟨0, fun W => (run_sliceAt_slice W 42 _ _ _ _ (by kernel_rfl)).trans ((hrun W).trans (by rw [if_pos hcl])), ?_⟩
    intro hl; rw [List.length_drop] at hl; omega
  · refine ⟨0 + 1 * 2, fun W => (run_sliceAt_slice W 42 _ _ _ _ (by kernel_rfl)).trans ((hrun W).trans (by rw [if_neg hcl])), ?_⟩
    exact h.drop 1
def wordsF (l : List (Bool × Int)) : Bool := l.all fun p => isWb p.2
theorem wordsF_iff (l : List (Bool × Int)) : wordsF l = true ↔ ∀ j, j < l.length → isWb (fth l j).2 = true := by
  unfold wordsF
  rw [List.all_eq_true]
  refine ⟨fun h j hj => ?_, fun h p hp => ?_⟩
  · rw [fth_eq l j hj]; exact h _ (List.getElem_mem hj)
  · obtain ⟨j, hj, rfl⟩ := List.getElem_of_mem hp
    rw [← fth_eq l j hj]; exact h j hj
def flE (op : Int) (l : List (Bool × Int)) : Int := if neE op = 0 then (if l.length ≤ 1048576 then (if wordsF l = true then 0 else 2) else 3) else neE op
/-- What stands at each place. -/
def flL (op : Int) (l : List (Bool × Int)) : List (Bool × Int) := (mkB (scB (bothN (doN op) (neN op)) (false, neN op) l) (l.length + 1)).drop 1
theorem flL_length (op : Int) (l : List (Bool × Int)) : (flL op l).length = l.length := by unfold flL; rw [List.length_drop, mkB_length]; omega
def flO (op : Int) (l : List (Bool × Int)) : List (Bool × Int) := if flE op l = 0 then flL op l else []
def RetFE (w : World) (ps : List (Bool × Int)) (er : Int) (e : Ending) (w' : World) : Prop := ∃ A c, e = .returned (.tuple #[.slice A ps.length c, .int .i64 er]) ∧ ps.length ≤ c ∧ SlF w' A ps ∧ Below w.heap.size w w'
theorem retFE_nil {w w' : World} {op : Int} {l : List (Bool × Int)} {er : Int} (he : flE op l = er) (h : er ≠ 0) (hB : Below w.heap.size w w') : RetFE w (flO op l) (flE op l) (.returned (.tuple #[.slice none 0 0, .int .i64 er])) w' := by
  unfold flO
  rw [he, if_neg h]
  exact ⟨none, 0, rfl, Nat.le_refl _, SlF.nil _ _, hB⟩
set_option maxHeartbeats 4000000 in
theorem flagged_any (op : Int) (A : Option Addr) (c : Nat) (l : List (Bool × Int)) (w : World) (hI : Inv w) (h : SlF w A l) (hcl : l.length ≤ c) (hl : l.length ≤ 9223372036854775807) :
    Calls Tryz.prog 26 #[.int .i64 op, .slice A l.length c] w (RetFE w (flO op l) (flE op l)) := by
  have C1 := operationOf_any op w hI
  by_cases hne : neE op = 0
  case neg =>
    have hd : (neE op != 0) = true := by rw [bne_iff_ne]; exact hne
    have HE : Hid (flE op l = neE op) := Lib.hid (by unfold flE; rw [if_neg hne])
    have HN := Lib.hid hne
    obtain ⟨y, hy⟩ : ∃ y, neE op = y := ⟨_, rfl⟩
    rw [hy] at C1 hd HE HN
    have C1 := Lib.hid C1
    clear hne hy
    go_enter Tryz.func26, Tryz.ntmps26
    go_wp2_with fail
    refine C1.out.mono ?_
    rintro e w1 ⟨n', f, rfl, hB, hg, hz⟩
    obtain ⟨rfl, rfl⟩ := hz HN.out
    clear hg hz
    have hB2 := hB.alloc hB.size (.cells #[.int .i64 0, .nilFunc] 58)
    go_wp2
    go_ret2
    exact retFE_nil HE.out HN.out hB2
  rw [hne] at C1
  have C1 := Lib.hid C1
  by_cases hlen : l.length ≤ 1048576
  case neg =>
    have HE : Hid (flE op l = 3) := Lib.hid (by unfold flE; rw [if_pos hne, if_neg hlen])
    have hd : decide (1048576 < (l.length : Int)) = true := by simp; omega
    have hd' : (1048576 : Int) < (l.length : Int) := by omega
    clear hne hlen
    go_enter Tryz.func26, Tryz.ntmps26
    go_wp2_with fail
    refine C1.out.mono ?_
    rintro e w1 ⟨n', f, rfl, hB, hg, hz⟩
    obtain ⟨rfl, g, rfl, hgl, hgb⟩ := hg rfl
    clear hz
    have b6 := Blk.new w1 58 #[.int .i64 (neN op), .func (.func 87) #[] #[.pointer (some ⟨g, 0, none⟩)]]
    have hgb2 := hgb.alloc (.cells #[.int .i64 (neN op), .func (.func 87) #[] #[.pointer (some ⟨g, 0, none⟩)]] 58)
    have hB2 := hB.alloc hB.size (.cells #[.int .i64 (neN op), .func (.func 87) #[] #[.pointer (some ⟨g, 0, none⟩)]] 58)
    have hs1 := hB.size
    go_wp2
    go_ret2
    exact retFE_nil HE.out (by decide) hB2
  case pos =>
    have HNE := Lib.hid hne
    have hd : decide (1048576 < (l.length : Int)) = false := by simp; omega
    have hd' : (l.length : Int) ≤ 1048576 := by omega
    clear hne
    go_enter Tryz.func26, Tryz.ntmps26
    go_wp2_with fail
    refine C1.out.mono ?_
    rintro e w1 ⟨n', f, rfl, hB, hg, hz⟩
    obtain ⟨rfl, g, rfl, hgl, hgb⟩ := hg rfl
    clear hz
    have b6 := Blk.new w1 58 #[.int .i64 (neN op), .func (.func 87) #[] #[.pointer (some ⟨g, 0, none⟩)]]
    have hgb2 := hgb.alloc (.cells #[.int .i64 (neN op), .func (.func 87) #[] #[.pointer (some ⟨g, 0, none⟩)]] 58)
    have hB2 := hB.alloc hB.size (.cells #[.int .i64 (neN op), .func (.func 87) #[] #[.pointer (some ⟨g, 0, none⟩)]] 58)
    have hs1 := hB.size
    obtain ⟨W1, hW1⟩ : ∃ W1, w1.alloc (.cells #[.int .i64 (neN op), .func (.func 87) #[] #[.pointer (some ⟨g, 0, none⟩)]] 58) = W1 := ⟨_, rfl⟩
    rw [hW1] at b6 hgb2 hB2
    have hsw : w.heap.size ≤ W1.heap.size := hB2.size
    have HW := Lib.hid hW1
    clear hW1
    go_wp2
    rw [HW.out]
    go_loopw [24] (fun i wr => ∃ k : Nat, k ≤ l.length ∧ i = .int .i64 k ∧ Hid (∀ j, j < k → isWb (fth l j).2 = true) ∧ Below W1.heap.size W1 wr) (fun i _ => l.length - (intOf i).toNat)
    case atStart => exact ⟨0, Nat.zero_le _, rfl, Lib.hid (fun j hj => absurd hj (Nat.not_lt_zero j)), Below.refl _ _⟩
    case round =>
      obtain ⟨k, hk, rfl, HK, hX⟩ := hrel
      by_cases hlt : k < l.length
      · have hBw : Below w.heap.size w wr := hB2.trans (hX.mono hsw)
        obtain ⟨b, o, rfl, hb, hc0, hc1⟩ := (h.step hBw).at_ hlt
        obtain ⟨y, hy⟩ : ∃ y, fth l k = y := ⟨_, rfl⟩
        rw [hy] at hc0 hc1
        obtain ⟨y1, y2⟩ := y
        have HY := Lib.hid hy
        have q1 : (0 : Int) ≤ (k : Int) := by omega
        have q2 : (k : Int) < (l.length : Int) := by omega
        have hX1 := hX.alloc hX.size (.cells #[.bool y1, .int .i64 y2] 41)
        have CF := Lib.hid (isFlagged_any y1 y2 (wr.alloc (.cells #[.bool y1, .int .i64 y2] 41)))
        clear hy
        by_cases hw : isWb y2 = true
        · go_wp2_with fail
          refine CF.out.mono ?_
          rintro e w2 ⟨rfl, hBc⟩
          have hX2 := hX1.trans (hBc.mono hX1.size)
          go_wp2
          go_roundw
          case rel => exact ⟨k + 1, by omega, by go_num, Lib.hid (fun j hj => by
            rcases Nat.lt_or_ge j k with h1 | h1
            · exact HK.out j h1
            · obtain rfl : j = k := by omega
              rw [HY.out]; exact hw), hX2⟩
          case measure => simp [intOf]; omega
        · have hw' := bf hw
          have HE : Hid (flE op l = 2) := Lib.hid (by unfold flE; rw [if_pos HNE.out, if_pos hlen, if_neg (fun hh => hw (by have := (wordsF_iff l).1 hh k hlt; rw [HY.out] at this; exact this))])
          clear hw
          go_wp2_with fail
          refine CF.out.mono ?_
          rintro e w2 ⟨rfl, hBc⟩
          have hX2 := hX1.trans (hBc.mono hX1.size)
          go_wp2
          go_ret2
          exact retFE_nil HE.out (by decide) (hB2.trans (hX2.mono hsw))
      · obtain rfl : k = l.length := by omega
        have HE : Hid (flE op l = 0) := Lib.hid (by unfold flE; rw [if_pos HNE.out, if_pos hlen, if_pos ((wordsF_iff l).2 HK.out)])
        have HV : Hid (flO op l = flL op l) := Lib.hid (by unfold flO; rw [if_pos HE.out])
        have hBw : Below w.heap.size w wr := hB2.trans (hX.mono hsw)
        have d6 := b6.below hX b6.lt
        have k60 := d6.cell 0
        have k61 := d6.cell 1
        simp at k60 k61
        have dg := hgb2.below hX hgb2.lt
        have d10 := Blk.new wr 86 #[.int .i64 (neN op), .func (.func 87) #[] #[.pointer (some ⟨g, 0, none⟩)]]
        have dg2 := dg.alloc (.cells #[.int .i64 (neN op), .func (.func 87) #[] #[.pointer (some ⟨g, 0, none⟩)]] 86)
        have hB5 : Below w.heap.size w (wr.alloc (.cells #[.int .i64 (neN op), .func (.func 87) #[] #[.pointer (some ⟨g, 0, none⟩)]] 86)) := hBw.alloc hBw.size _
        have hs5 : SlF wr A l := h.step hBw
        clear b6 hgb2 HW
        go_wp2
        refine wp_region_mix' (fun W' => Blk W' wr.heap.size 86 #[.int .i64 (neN op), .func (.func 87) #[] #[.pointer (some ⟨g, 0, none⟩)]]) [false, false, false, true, false, true, true] (by kernel_rfl) (by kernel_rfl) d10.drew ?_
        simp only [mixT, mixH, mixD]
        have SS : ∀ W', Blk W' wr.heap.size 86 #[.int .i64 (neN op), .func (.func 87) #[] #[.pointer (some ⟨g, 0, none⟩)]] → W'.cell? ⟨wr.heap.size, 0, none⟩ = some (.int .i64 (neN op)) ∧ W'.cell? ⟨wr.heap.size, 1, none⟩ = some (.func (.func 87) #[] #[.pointer (some ⟨g, 0, none⟩)]) := fun W' hW => ⟨hW.cell 0, hW.cell 1⟩
        iterate 3 (refine wpLts_light ?_ (fun W' hW => ?_) ?_; rotate_left; (obtain ⟨p0, p1⟩ := SS W' hW; go_simp; try with_reducible rfl); simp only [Act.put, List.setIfInBounds_toArray, List.set_cons_zero, List.set_cons_succ])
        refine wpLts_heavy ?_
        refine wpLts_light ?_ (fun W' hW => ?_) ?_; rotate_left
        · (go_simp; try with_reducible rfl)
        simp only [Act.put, List.setIfInBounds_toArray, List.set_cons_zero, List.set_cons_succ]
        refine wpLts_heavy (wpLts_heavy (wpLts_nil ?_))
        refine wpHvP_call 68 #[.agg #[.int .i64 (neN op), .func (.func 87) #[] #[.pointer (some ⟨g, 0, none⟩)]]] (by go_simp) ?_
        refine (none_any (neN op) (.func (.func 87) #[] #[.pointer (some ⟨g, 0, none⟩)]) rfl _).mono ?_
        rintro e W6 ⟨rfl, hBd⟩
        have a1 := d10.drew.below hBd d10.lt
        refine ⟨_, rfl, a1, ?_⟩
        simp only [Act.put, List.setIfInBounds_toArray, List.set_cons_zero, List.set_cons_succ]
        refine wpHvP_call 67 #[.func (.func 64) #[.agg #[.int .i64 (neN op), .func (.func 87) #[] #[.pointer (some ⟨g, 0, none⟩)]]] #[], .agg #[.bool false, .int .i64 (neN op)], .slice A l.length c] (by go_simp) ?_
        have hB6 : Below w.heap.size w W6 := hB5.drew.trans (hBd.mono hB5.size)
        refine (inOrderF_any op (neN op) g A c l W6 (dg2.drew.below hBd dg2.lt) (h.step hB6) hlen).mono ?_
        rintro e W7 ⟨G, rfl, hS7, hBe⟩
        refine ⟨_, rfl, a1.below hBe a1.lt, ?_⟩
        have HV' := HV
        unfold flL at HV'
        have hml := mkB_length (scB (bothN (doN op) (neN op)) (false, neN op) l) (l.length + 1)
        have hfl := flL_length op l
        unfold flL at hfl
        obtain ⟨PS, hPS⟩ : ∃ PS, mkB (scB (bothN (doN op) (neN op)) (false, neN op) l) (l.length + 1) = PS := ⟨_, rfl⟩
        rw [hPS] at hS7 hml HV' hfl ⊢
        obtain ⟨o', hsl, hS8⟩ := slice_f1 G l.length PS W7 hS7 hml hlen
        have HML := Lib.hid hml
        have HFL := Lib.hid hfl
        rw [hml]
        have a2 := a1.below hBe a1.lt
        clear hPS hml hfl
        simp only [Act.put, List.setIfInBounds_toArray, List.set_cons_zero, List.set_cons_succ]
        refine wpHvP_value (.slice (some ⟨G, o', none⟩) l.length l.length) W7 (by go_simp) ⟨a2, ?_⟩
        simp only [Act.put, List.setIfInBounds_toArray, List.set_cons_zero, List.set_cons_succ]
        refine wpHvP_nil ?_
        have hB7 : Below w.heap.size w W7 := hB6.trans (hBe.mono hB6.size)
        clear hsl
        go_wp2
        go_ret2
        rw [HV'.out, HE.out]
        exact ⟨some ⟨G, o', none⟩, l.length, by rw [HFL.out]; rfl, by rw [HFL.out]; exact Nat.le_refl _, hS8, hB7⟩
end Go.Proofs.YtecpanppnljkhaaGreatDoor
