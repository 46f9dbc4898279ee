/- Walks of scan: allLeft, place. -/
import Derived.Test.YtecpanppnljkhaaGreatDoorEp
import Derived.Test.YtecpanppnljkhaaGreatDoorEq
import Derived.Test.YtecpanppnljkhaaGreatDoorEu
import Derived.Test.YtecpanppnljkhaaGreatDoorQp
import Derived.Test.YtecpanppnljkhaaGreatDoorEv
namespace Go.Proofs.YtecpanppnljkhaaGreatDoor
set_option linter.unusedVariables false
set_option maxRecDepth 100000
open Go.RowKit Go.Shelf
attribute [local go_sem] Oper.semAt_some
/-- The counts of n places, all of them left. -/
def onesL (n d : Nat) : List Int := padL 0 d (List.replicate n 1)
set_option maxHeartbeats 4000000 in
theorem allLeft_any (n d : Nat) (w : World) (hd : IsD n d) (hn : n ≤ 1048576) :
    Calls Tryz.prog 42 #[.int .i64 (n : Int)] w fun e w' => ∃ G vs, e = .returned (.pointer (some ⟨G, 0, none⟩)) ∧ w.heap.size ≤ G ∧ TreeAt w' w.heap.size G vs (lvK addW (onesL n d)) ∧ Below w.heap.size w w' := by
  have bO := Blk.new w 58 #[.int .i64 0, .func (.func 77) #[] #[]]
  have hB0 : Below w.heap.size w (w.alloc (.cells #[.int .i64 0, .func (.func 77) #[] #[]] 58)) := (Below.refl _ _).alloc (Nat.le_refl _) _
  have hsz : (w.alloc (.cells #[.int .i64 0, .func (.func 77) #[] #[]] 58)).heap.size = w.heap.size + 1 := by simp
  obtain ⟨W0, hW0⟩ : ∃ W0, w.alloc (.cells #[.int .i64 0, .func (.func 77) #[] #[]] 58) = W0 := ⟨_, rfl⟩
  rw [hW0] at bO hB0 hsz
  have C1 := repeat_any W0.heap.size n 1 (W0.drew.alloc (.cells #[.int .i64 1] 3)) (by omega) (Blk.new W0.drew 3 #[.int .i64 1])
  go_enter Tryz.func42, Tryz.ntmps42
  go_wp2
  have SS : ∀ W', (Blk W' w.heap.size 58 #[.int .i64 0, .func (.func 77) #[] #[]]) → W'.cell? ⟨w.heap.size, 0, none⟩ = some (.int .i64 0) ∧ W'.cell? ⟨w.heap.size, 1, none⟩ = some (.func (.func 77) #[] #[]) := fun W' hW => ⟨hW.cell 0, hW.cell 1⟩
  refine wp_region_mix' (fun W' => Blk W' w.heap.size 58 #[.int .i64 0, .func (.func 77) #[] #[]]) [false, true, false, true, true] (by kernel_rfl) (by kernel_rfl) bO ?_
  simp only [mixT, mixH, mixD]
  refine wpLts_light ?_ (fun W' hW => ?_) ?_; rotate_left; (obtain ⟨q0, q1⟩ := SS W' hW; go_simp; try with_reducible rfl)
  simp only [Act.put, List.setIfInBounds_toArray, List.set_cons_zero, List.set_cons_succ]
  refine wpLts_heavy ?_
  refine wpLts_light ?_ (fun W' hW => ?_) ?_; rotate_left; (go_simp; try with_reducible rfl)
  simp only [Act.put, List.setIfInBounds_toArray, List.set_cons_zero, List.set_cons_succ]
  refine wpLts_heavy (wpLts_heavy (wpLts_nil ?_))
  have b2 := bO.drew.alloc (.cells #[.int .i64 1] 3)
  have hs1 : W0.drew.heap.size = W0.heap.size := rfl
  refine wpHvP_value (.slice (some ⟨W0.heap.size, 0, none⟩) 1 1) (W0.drew.alloc (.cells #[.int .i64 1] 3)) (by go_simp) ⟨b2, ?_⟩
  simp only [Act.put, List.setIfInBounds_toArray, List.set_cons_zero, List.set_cons_succ]
  refine wpHvP_call 78 #[.slice (some ⟨W0.heap.size, 0, none⟩) 1 1, .int .i64 (n : Int)] (by go_simp) ?_
  refine C1.mono ?_
  rintro e W1 ⟨A2, c2, rfl, hc2, hs2, hB2⟩
  have b3 := b2.below hB2 b2.lt
  refine ⟨_, rfl, b3, ?_⟩
  simp only [Act.put, List.setIfInBounds_toArray, List.set_cons_zero, List.set_cons_succ]
  have hB3 : Below w.heap.size w W1 := (hB0.drew.alloc (by show w.heap.size ≤ W0.heap.size; omega) _).trans (hB2.mono (by simp; omega))
  have C2 := treeOfC_any d A2 c2 (List.replicate n 1) W1 hs2 hc2 (by rw [List.length_replicate]; exact hd.1) (by rw [List.length_replicate]; exact hd.2.1) hd.2.2
  refine wpHvP_call 54 #[.agg #[.int .i64 0, .func (.func 77) #[] #[]], .slice A2 (List.replicate n (1 : Int)).length c2] (by go_simp) ?_
  refine C2.mono ?_
  rintro e W2 ⟨G, vs, rfl, hG, hT, hB4⟩
  refine ⟨_, rfl, b3.below hB4 b3.lt, ?_⟩
  simp only [Act.put, List.setIfInBounds_toArray, List.set_cons_zero, List.set_cons_succ]
  refine wpHvP_nil ?_
  have hTl := hT.lower hB3.size
  have hBf := hB3.trans (hB4.mono hB3.size)
  clear C1 C2 hT hB4 hs2
  go_wp2
  go_ret
  exact ⟨G, vs, rfl, Nat.le_trans hB3.size hG, hTl, hBf⟩
end Go.Proofs.YtecpanppnljkhaaGreatDoor
